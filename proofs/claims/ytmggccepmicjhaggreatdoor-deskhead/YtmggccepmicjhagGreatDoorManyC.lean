/-
  What Check of package many answers: how many numbers an array has, or which error; whether a shape has an axis.
-/
import Derived.Test.YtmggccepmicjhagGreatDoorRows
import Derived.Test.YtmggccepmicjhagGreatDoorRefPlacesAll
import Derived.Test.YtmggccepmicjhagGreatDoorRefPlacesAll
namespace Go.Proofs.YtmggccepmicjhagGreatDoor
open Go.RowKit
set_option maxRecDepth 100000

theorem P2_and (q : Nat) (h : 0 < q) : P2 q ↔ q &&& (q - 1) = 0 := (Nat.and_sub_one_eq_zero_iff_isPowerOfTwo (by omega)).symm
theorem wraps_63 (n : Int) (h1 : 0 ≤ n) (h2 : n < 2 ^ 63) : IntKind.i64.wrap n = n := by rw [IntKind.wrap_i64]; omega
theorem and_dec (q : Nat) (h0 : 0 < q) (h : (q : Int) ≤ 9223372036854775807) : bits .and .i64 (q : Int) ((q : Int) - 1) = ((q &&& (q - 1) : Nat) : Int) := by
  rw [show (q : Int) - 1 = ((q - 1 : Nat) : Int) by omega]
  exact (bits_nat .i64 63 (by decide) wraps_63 q (q - 1) (by omega) (by omega)).1

set_option maxHeartbeats 4000000 in
theorem many_Check (w : World) (v : Value) (zs : List Int) (h : IsZ w v zs) :
    Calls Tryz.prog 95 #[v] w fun e w' => w' = w ∧ ((∃ ds, Good zs ds ∧ prd2 ds ≤ 1024 ∧ e = .returned (.tuple #[.int .i64 ((prd2 ds : Nat) : Int), .int .i64 0])) ∨ (∃ ds, Good zs ds ∧ 1024 < prd2 ds ∧ e = .returned (.tuple #[.int .i64 0, .int .i64 2])) ∨ ((∀ ds, ¬ Good zs ds) ∧ e = .returned (.tuple #[.int .i64 0, .int .i64 1]))) := by
  obtain ⟨a, cap, rfl, hcap, hmax, hc, hr⟩ := h
  have hlen9 : zs.length ≤ 9223372036854775807 := by unfold maxLen at hmax; omega
  clear hcap hmax
  by_cases hlen : 1 ≤ zs.length ∧ zs.length ≤ 3
  · obtain ⟨hl1, hl3⟩ := hlen
    clear hlen9
    go_enter Tryz.func95, Tryz.ntmps95
    go_wp2
    go_loop [19] (fun vi => ∃ i : Nat, i ≤ zs.length ∧ vi = .int .i64 (i : Int) ∧ Hid (∀ t, t < i → ∃ q : Nat, zs.getD t 0 = (q : Int) ∧ P2 q))
      (fun vi => zs.length - (intOf vi).toNat)
    case atStart => exact ⟨0, Nat.zero_le _, rfl, fun t ht => by omega⟩
    case round =>
      obtain ⟨i, hi, rfl, hP⟩ := hrel
      by_cases hlt : i < zs.length
      · obtain ⟨b, off, rfl, hcell⟩ := hc i hlt
        obtain ⟨hz1, hz2⟩ := rangeZ_getD hr i
        have hno : Hid ((¬ ∃ q : Nat, zs.getD i 0 = (q : Int) ∧ P2 q) → ∀ ds, ¬ Good zs ds) := fun hn ds hG => hn ⟨_, Good_get hG i hlt⟩
        have hnext : Hid ((∃ q : Nat, zs.getD i 0 = (q : Int) ∧ P2 q) → ∀ t, t < i + 1 → ∃ q : Nat, zs.getD t 0 = (q : Int) ∧ P2 q) := fun hy t ht => by
          by_cases e : t = i
          · rw [e]; exact hy
          · exact hP.out t (by omega)
        clear hP hc hr
        generalize zs.getD i 0 = z at *
        by_cases h0 : z < 1
        · have hbad : Hid (∀ ds, ¬ Good zs ds) := hno.out (fun ⟨q, e, hp⟩ => by have := P2_pos hp; omega)
          clear hno hnext
          go_wp2
          go_ret2
          exact ⟨rfl, .inr (.inr ⟨hbad.out, rfl⟩)⟩
        · obtain ⟨q, rfl⟩ : ∃ q : Nat, z = (q : Int) := ⟨z.toNat, by omega⟩
          have hq0 : 0 < q := by omega
          have hand := and_dec q hq0 hz2
          have hiff := P2_and q hq0
          have h1 : (1 : Int) ≤ (q : Int) := by omega
          by_cases hp : P2 q
          · have hnx : Hid (∀ t, t < i + 1 → ∃ q : Nat, zs.getD t 0 = (q : Int) ∧ P2 q) := hnext.out ⟨q, rfl, hp⟩
            rw [hiff.mp hp] at hand
            clear hno hnext hiff hp
            go_wp2
            go_round
            case rel => exact ⟨i + 1, by omega, by go_num, hnx⟩
            case measure => simp only [intOf]; omega
          · have hbad : Hid (∀ ds, ¬ Good zs ds) := hno.out (fun ⟨q', e, hp'⟩ => by
              obtain rfl : q = q' := by omega
              exact hp hp')
            have hne : q &&& (q - 1) ≠ 0 := fun e => hp (hiff.mpr e)
            have hb : ((((q &&& (q - 1) : Nat) : Int)) != 0) = true := by rw [bne_iff_ne]; omega
            clear hno hnext hiff hp hne
            generalize q &&& (q - 1) = m at *
            go_wp2
            go_ret2
            exact ⟨rfl, .inr (.inr ⟨hbad.out, rfl⟩)⟩
      · have e : i = zs.length := by omega
        have hP2 := hP.out
        rw [e] at hP2
        obtain ⟨ds, hG⟩ := Good_all hl1 hl3 hP2
        have hge : zs.length ≤ i := by omega
        have hG' : Hid (Good zs ds) := hG
        have hlen : zs.length = ds.length := by rw [hG.2.2.1, List.length_map]
        have hlen' : Hid (zs.length = ds.length) := hlen
        have hpos : Hid (∀ d ∈ ds, 0 < d) := fun d hd => P2_pos (hG.2.2.2 d hd)
        clear hP hP2 e hG hlen
        go_wp2
        go_loop [6, 35] (fun vn vi => ∃ j : Nat, j ≤ zs.length ∧ vi = .int .i64 (j : Int) ∧ vn = .int .i64 ((prd2 (ds.take j) : Nat) : Int) ∧ prd2 (ds.take j) ≤ 1024)
          (fun _ vi => zs.length - (intOf vi).toNat)
        case atStart => exact ⟨0, Nat.zero_le _, rfl, rfl, by simp [prd2]⟩
        case round =>
          obtain ⟨j, hj, rfl, rfl, hp⟩ := hrel
          by_cases hjl : j < zs.length
          · obtain ⟨b, off, rfl, hcell⟩ := hc j hjl
            rw [(Good_get hG'.out j hjl).1] at hcell
            have hd9 := (rangeZ_getD hr j).2
            rw [(Good_get hG'.out j hjl).1] at hd9
            have hstep := prd2_take ds j (by rw [← hlen'.out]; exact hjl)
            have hle := prd2_take_le hpos.out (j + 1)
            have hp0 : 0 < prd2 (ds.take j) := prd2_pos fun d hd => hpos.out d (List.mem_of_mem_take hd)
            rw [hstep] at hle
            have hstep' : Hid (prd2 (ds.take (j + 1)) = prd2 (ds.take j) * ds.getD j 0) := hstep
            have hle' : Hid (prd2 (ds.take j) * ds.getD j 0 ≤ prd2 ds) := hle
            clear hstep hle hc hr
            generalize prd2 (ds.take j) = p at *
            generalize ds.getD j 0 = d at *
            have hp1 : ¬ (p : Int) = 0 := by omega
            obtain ⟨q, hq⟩ : ∃ q : Nat, q = 1024 / p := ⟨_, rfl⟩
            have hquo : Int.tdiv 1024 (p : Int) = (q : Int) := by rw [Int.tdiv_eq_ediv_of_nonneg (by omega), hq]; rfl
            have hq9 : q ≤ 1024 := by rw [hq]; exact Nat.div_le_self _ _
            have hwq : IntKind.i64.wrap (q : Int) = (q : Int) := wraps_i64 _ (by omega) (by omega)
            have hdq : d ≤ q ↔ p * d ≤ 1024 := by rw [hq, Nat.le_div_iff_mul_le hp0, Nat.mul_comm]
            clear hq
            by_cases hd : d ≤ q
            · obtain ⟨r, hr0⟩ : ∃ r : Nat, r = p * d := ⟨_, rfl⟩
              have hmul : (p : Int) * (d : Int) = (r : Int) := by rw [hr0, Int.natCast_mul]
              have hr9 : r ≤ 1024 := by rw [hr0]; exact hdq.mp hd
              have hr1 : Hid (r = p * d) := hr0
              clear hr0 hdq
              go_wp2
              go_round
              case rel => exact ⟨j + 1, by omega, by go_num, by rw [hstep'.out, ← hr1.out], by rw [hstep'.out, ← hr1.out]; exact hr9⟩
              case measure => simp only [intOf]; omega
            · have hgt : q < d := by omega
              have hbig : Hid (1024 < prd2 ds) := by
                have h1 := hle'.out
                have h2 : ¬ p * d ≤ 1024 := fun h => hd (hdq.mpr h)
                show 1024 < prd2 ds
                omega
              clear hdq
              go_wp2
              go_ret2
              exact ⟨rfl, .inr (.inl ⟨ds, hG'.out, hbig.out, rfl⟩)⟩
          · have e : prd2 (ds.take j) = prd2 ds := by rw [List.take_of_length_le (by rw [← hlen'.out]; omega)]
            rw [e] at hp ⊢
            have hgj : zs.length ≤ j := by omega
            clear e hc hr
            generalize hpd : prd2 ds = pd at *
            have hpd' : Hid (prd2 ds = pd) := hpd
            clear hpd
            go_wp2
            go_ret2
            exact ⟨rfl, .inl ⟨ds, hG'.out, by rw [hpd'.out]; exact hp, by rw [hpd'.out]; rfl⟩⟩
  · have hno : Hid (∀ ds, ¬ Good zs ds) := fun ds hG => hlen ⟨hG.1, hG.2.1⟩
    clear hc hr
    by_cases h1 : zs.length < 1
    · clear hlen hlen9
      go_enter Tryz.func95, Tryz.ntmps95
      go_wp2
      go_ret2
      exact ⟨rfl, .inr (.inr ⟨hno.out, rfl⟩)⟩
    · have h3 : 3 < zs.length := by omega
      clear hlen
      go_enter Tryz.func95, Tryz.ntmps95
      go_wp2
      go_ret2
      exact ⟨rfl, .inr (.inr ⟨hno.out, rfl⟩)⟩

theorem many_Check_okW (w : World) (v : Value) (zs : List Int) (ds : List Nat) (h : IsZ w v zs) (hG : Good zs ds) (hn : prd2 ds ≤ 1024) :
    Calls Tryz.prog 95 #[v] w fun e w' => e = .returned (.tuple #[.int .i64 ((prd2 ds : Nat) : Int), .int .i64 0]) ∧ w' = w := by
  refine (many_Check w v zs h).mono ?_
  rintro e w' ⟨rfl, ⟨ds', hG', _, rfl⟩ | ⟨ds', hG', hb, _⟩ | ⟨hno, _⟩⟩
  · rw [Good_unique hG hG']; exact ⟨rfl, rfl⟩
  · rw [Good_unique hG hG'] at hb; omega
  · exact absurd hG (hno ds)
theorem many_Check_largeW (w : World) (v : Value) (zs : List Int) (ds : List Nat) (h : IsZ w v zs) (hG : Good zs ds) (hn : 1024 < prd2 ds) :
    Calls Tryz.prog 95 #[v] w fun e w' => e = .returned (.tuple #[.int .i64 0, .int .i64 2]) ∧ w' = w := by
  refine (many_Check w v zs h).mono ?_
  rintro e w' ⟨rfl, ⟨ds', hG', hb, _⟩ | ⟨ds', hG', hb, rfl⟩ | ⟨hno, _⟩⟩
  · rw [Good_unique hG hG'] at hb; omega
  · exact ⟨rfl, rfl⟩
  · exact absurd hG (hno ds)
theorem many_Check_badW (w : World) (v : Value) (zs : List Int) (h : IsZ w v zs) (hG : ∀ ds, ¬ Good zs ds) :
    Calls Tryz.prog 95 #[v] w fun e w' => e = .returned (.tuple #[.int .i64 0, .int .i64 1]) ∧ w' = w := by
  refine (many_Check w v zs h).mono ?_
  rintro e w' ⟨rfl, ⟨ds', hG', _, _⟩ | ⟨ds', hG', _, _⟩ | ⟨hno, rfl⟩⟩
  · exact absurd hG' (hG ds')
  · exact absurd hG' (hG ds')
  · exact ⟨rfl, rfl⟩

theorem many_Check_ok (w : World) (v : Value) (zs : List Int) (ds : List Nat) (h : IsZ w v zs) (hG : Good zs ds) (hn : prd2 ds ≤ 1024) :
    Calls Tryz.prog 95 #[v] w fun e w' => e = .returned (.tuple #[.int .i64 ((prd2 ds : Nat) : Int), .int .i64 0]) ∧ Below w.heap.size w w' := by
  refine (many_Check_okW w v zs ds h hG hn).mono ?_
  rintro e w' ⟨he, rfl⟩
  exact ⟨he, Below.refl _ _⟩
theorem many_Check_large (w : World) (v : Value) (zs : List Int) (ds : List Nat) (h : IsZ w v zs) (hG : Good zs ds) (hn : 1024 < prd2 ds) :
    Calls Tryz.prog 95 #[v] w fun e w' => e = .returned (.tuple #[.int .i64 0, .int .i64 2]) ∧ Below w.heap.size w w' := by
  refine (many_Check_largeW w v zs ds h hG hn).mono ?_
  rintro e w' ⟨he, rfl⟩
  exact ⟨he, Below.refl _ _⟩
theorem many_Check_bad (w : World) (v : Value) (zs : List Int) (h : IsZ w v zs) (hG : ∀ ds, ¬ Good zs ds) :
    Calls Tryz.prog 95 #[v] w fun e w' => e = .returned (.tuple #[.int .i64 0, .int .i64 1]) ∧ Below w.heap.size w w' := by
  refine (many_Check_badW w v zs h hG).mono ?_
  rintro e w' ⟨he, rfl⟩
  exact ⟨he, Below.refl _ _⟩

end Go.Proofs.YtmggccepmicjhagGreatDoor
