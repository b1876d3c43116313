/-
  What Shape of package goldref answers: how many numbers an array has, or which error.
-/
import Derived.Test.YtgkepflnnoociacDoorRefIn
import Derived.Test.YtgkepflnnoociacDoorSlZ
namespace Go.Proofs.YtgkepflnnoociacDoor
open Go.RowKit

theorem ref_In_len (n : Nat) (w : World) (h : 1 ≤ n ∧ n ≤ 3) : Calls Tryd.prog 9 #[.int .i64 (n : Int), .int .i64 1, .int .i64 3] w fun e w' => e = .returned (.bool true) ∧ w' = w := ref_In_true n 1 3 (by omega) (by omega) w
theorem ref_In_len_no (n : Nat) (w : World) (h : ¬ (1 ≤ n ∧ n ≤ 3)) : Calls Tryd.prog 9 #[.int .i64 (n : Int), .int .i64 1, .int .i64 3] w fun e w' => e = .returned (.bool false) ∧ w' = w := by
  rcases Nat.lt_or_ge n 1 with h1 | h1
  · exact ref_In_low n 1 3 (by omega) w
  · exact ref_In_high n 1 3 (by omega) (by omega) w

theorem Good_all {zs : List Int} (h1 : 1 ≤ zs.length) (h2 : zs.length ≤ 3) (h : ∀ i, i < zs.length → ∃ q : Nat, zs.getD i 0 = (q : Int) ∧ P2 q) : ∃ ds, Good zs ds := by
  refine ⟨zs.map Int.toNat, h1, h2, ?_, ?_⟩
  · rw [List.map_map]
    refine (List.ext_getElem (by simp) fun i hi _ => ?_)
    obtain ⟨q, e, _⟩ := h i hi
    simp only [List.getD, List.getElem?_eq_getElem hi, Option.getD_some] at e
    simp [e]
  · intro d hd
    obtain ⟨z, hz, rfl⟩ := List.mem_map.mp hd
    obtain ⟨i, hi, rfl⟩ := List.mem_iff_getElem.mp hz
    obtain ⟨q, e, hq⟩ := h i hi
    simp only [List.getD, List.getElem?_eq_getElem hi, Option.getD_some] at e
    rw [e]
    simpa using hq
theorem Good_get {zs : List Int} {ds : List Nat} (h : Good zs ds) (i : Nat) (hi : i < zs.length) : zs.getD i 0 = ((ds.getD i 0 : Nat) : Int) ∧ P2 (ds.getD i 0) := by
  obtain ⟨_, _, e, hp⟩ := h
  have hl : i < ds.length := by rw [e, List.length_map] at hi; exact hi
  constructor
  · rw [e]; simp [List.getD, hl]
  · simp only [List.getD, List.getElem?_eq_getElem hl, Option.getD_some]
    exact hp _ (List.getElem_mem hl)

set_option maxHeartbeats 4000000 in
theorem ref_Shape (w : World) (v : Value) (zs : List Int) (h : IsZ w v zs) :
    Calls Tryd.prog 7 #[v] w fun e w' => w' = w ∧ ((∃ ds, Good zs ds ∧ prd2 ds ≤ 1024 ∧ e = .returned (.tuple #[.int .i64 ((prd2 ds : Nat) : Int), .int .i64 0])) ∨ (∃ ds, Good zs ds ∧ 1024 < prd2 ds ∧ e = .returned (.tuple #[.int .i64 0, .int .i64 2])) ∨ ((∀ ds, ¬ Good zs ds) ∧ e = .returned (.tuple #[.int .i64 0, .int .i64 1]))) := by
  obtain ⟨a, cap, rfl, hcap, hmax, hc, hr⟩ := h
  clear hcap hmax
  by_cases hlen : 1 ≤ zs.length ∧ zs.length ≤ 3
  · have cI := fun W => ref_In_len zs.length W hlen
    obtain ⟨hl1, hl3⟩ := hlen
    go_enter Tryd.func7, Tryd.ntmps7
    go_wp2_with (go_at_call 9; refine Calls.mono (cI _) ?_; rintro e w' ⟨rfl, hw⟩; rw [hw]; clear hw)
    clear cI
    go_loop [4] (fun vi => ∃ i : Nat, i ≤ zs.length ∧ vi = .int .i64 (i : Int) ∧ Hid (∀ t, t < i → ∃ q : Nat, zs.getD t 0 = (q : Int) ∧ P2 q))
      (fun vi => zs.length - (intOf vi).toNat)
    case atStart => exact ⟨0, Nat.zero_le _, rfl, fun t ht => by omega⟩
    case round =>
      obtain ⟨i, hi, rfl, hP⟩ := hrel
      by_cases hlt : i < zs.length
      · obtain ⟨b, off, rfl, hcell⟩ := hc i hlt
        obtain ⟨hz1, hz2⟩ := rangeZ_getD hr i
        have hno : Hid ((¬ ∃ q : Nat, zs.getD i 0 = (q : Int) ∧ P2 q) → ∀ ds, ¬ Good zs ds) := fun hn ds hG => hn ⟨_, Good_get hG i hlt⟩
        have hnext : Hid ((∃ q : Nat, zs.getD i 0 = (q : Int) ∧ P2 q) → ∀ t, t < i + 1 → ∃ q : Nat, zs.getD t 0 = (q : Int) ∧ P2 q) := fun hy t ht => by
          by_cases e : t = i
          · rw [e]; exact hy
          · exact hP.out t (by omega)
        clear hP
        generalize zs.getD i 0 = z at *
        go_wp2
        go_loop [5] (fun vm => ∃ m : Int, vm = .int .i64 m ∧ ((z ≤ 0 ∧ m = z) ∨ ∃ q : Nat, 0 < q ∧ (q : Int) ≤ 9223372036854775807 ∧ m = (q : Int) ∧ Hid (P2 q ↔ ∃ q0 : Nat, z = (q0 : Int) ∧ P2 q0)))
          (fun vm => (intOf vm).toNat)
        case atStart =>
          refine ⟨z, rfl, ?_⟩
          by_cases h0 : z ≤ 0
          · exact .inl ⟨h0, rfl⟩
          · refine .inr ⟨z.toNat, by omega, by omega, by omega, ⟨fun h => ⟨z.toNat, by omega, h⟩, ?_⟩⟩
            rintro ⟨q0, e, h⟩
            rw [e]; simpa using h
        case round =>
          obtain ⟨m, rfl, hm⟩ := hrel
          rcases hm with ⟨h0, rfl⟩ | ⟨q, hq0, hq9, rfl, hq⟩
          · have hbad : Hid (∀ ds, ¬ Good zs ds) := hno.out (fun ⟨q, e, hp⟩ => by have := P2_pos hp; omega)
            have hne : (m != 1) = true := by rw [bne_iff_ne]; omega
            have hgt : decide ((1 : Int) < m) = false := decide_eq_false (by omega)
            clear hno hnext hc hr
            go_wp2
            go_ret2
            exact ⟨rfl, .inr (.inr ⟨hbad.out, rfl⟩)⟩
          · by_cases hq1 : q = 1
            · subst hq1
              have hnx : Hid (∀ t, t < i + 1 → ∃ q : Nat, zs.getD t 0 = (q : Int) ∧ P2 q) := hnext.out (hq.out.mp P2_one)
              clear hno hnext hc hr
              go_wp2
              go_round
              case rel => exact ⟨i + 1, by omega, by go_num, hnx⟩
              case measure => simp only [intOf]; omega
            · have hgt : decide ((1 : Int) < (q : Int)) = true := decide_eq_true (by omega)
              have hgt' : 1 < q := by omega
              have e0 : (q : Int).tmod 2 = (q : Int) % 2 := Int.tmod_eq_emod_of_nonneg (by omega)
              by_cases hev : q % 2 = 0
              · have e1 : ((q : Int).tmod 2 == 0) = true := by rw [beq_iff_eq]; omega
                have e2 : (q : Int).tmod 2 = 0 := by omega
                clear e0
                have hq2 : Hid (P2 (q / 2) ↔ ∃ q0 : Nat, z = (q0 : Int) ∧ P2 q0) := (P2_half hev).trans hq.out
                clear hno hnext hc hr hq
                go_wp2
                go_round
                case rel => exact ⟨_, rfl, .inr ⟨q / 2, by omega, by omega, by omega, hq2⟩⟩
                case measure => simp only [intOf]; omega
              · have e1 : ((q : Int).tmod 2 == 0) = false := by rw [beq_eq_false_iff_ne]; omega
                have e2 : (q : Int).tmod 2 = 1 := by omega
                clear e0
                have hbad : Hid (∀ ds, ¬ Good zs ds) := hno.out (fun h => P2_odd hgt' (by omega) (hq.out.mpr h))
                have hne : ((q : Int) != 1) = true := by rw [bne_iff_ne]; omega
                clear hno hnext hc hr hq
                go_wp2
                go_ret2
                exact ⟨rfl, .inr (.inr ⟨hbad.out, rfl⟩)⟩
      · have e : i = zs.length := by omega
        have hP2 := hP.out
        rw [e] at hP2
        obtain ⟨ds, hG⟩ := Good_all hl1 hl3 hP2
        have hge : zs.length ≤ i := by omega
        have hG' : Hid (Good zs ds) := hG
        have hlen : zs.length = ds.length := by rw [hG.2.2.1, List.length_map]
        have hlen' : Hid (zs.length = ds.length) := hlen
        have hpos : Hid (∀ d ∈ ds, 0 < d) := fun d hd => P2_pos (hG.2.2.2 d hd)
        clear hP hP2 e hG hlen
        go_wp2
        go_loop [6, 7] (fun vn vi => ∃ j : Nat, j ≤ zs.length ∧ vi = .int .i64 (j : Int) ∧ vn = .int .i64 ((prd2 (ds.take j) : Nat) : Int) ∧ prd2 (ds.take j) ≤ 1024)
          (fun _ vi => zs.length - (intOf vi).toNat)
        case atStart => exact ⟨0, Nat.zero_le _, rfl, rfl, by simp [prd2]⟩
        case round =>
          obtain ⟨j, hj, rfl, rfl, hp⟩ := hrel
          by_cases hjl : j < zs.length
          · obtain ⟨b, off, rfl, hcell⟩ := hc j hjl
            rw [(Good_get hG'.out j hjl).1] at hcell
            have hstep := prd2_take ds j (by rw [← hlen'.out]; exact hjl)
            have hle := prd2_take_le hpos.out (j + 1)
            have hp0 : 0 < prd2 (ds.take j) := prd2_pos fun d hd => hpos.out d (List.mem_of_mem_take hd)
            rw [hstep] at hle
            have hstep' : Hid (prd2 (ds.take (j + 1)) = prd2 (ds.take j) * ds.getD j 0) := hstep
            have hle' : Hid (prd2 (ds.take j) * ds.getD j 0 ≤ prd2 ds) := hle
            clear hstep hle hc hr
            generalize prd2 (ds.take j) = p at *
            generalize ds.getD j 0 = d at *
            by_cases hd : d ≤ 1024
            · obtain ⟨r, hr0⟩ : ∃ r : Nat, r = p * d := ⟨_, rfl⟩
              have hmul : (p : Int) * (d : Int) = (r : Int) := by rw [hr0, Int.natCast_mul]
              have hr9 : r ≤ 1048576 := by rw [hr0]; exact Nat.mul_le_mul hp hd
              have hr1 : Hid (r = p * d) := hr0
              clear hr0
              by_cases hrl : r ≤ 1024
              · go_wp2
                go_round
                case rel => exact ⟨j + 1, by omega, by go_num, by rw [hstep'.out, ← hr1.out], by rw [hstep'.out, ← hr1.out]; exact hrl⟩
                case measure => simp only [intOf]; omega
              · have hgt : 1024 < r := by omega
                have hbig : Hid (1024 < prd2 ds) := by have := hle'.out; rw [← hr1.out] at this; show 1024 < prd2 ds; omega
                go_wp2
                go_ret2
                exact ⟨rfl, .inr (.inl ⟨ds, hG'.out, hbig.out, rfl⟩)⟩
            · have hgt : 1024 < d := by omega
              have hd9 : d ≤ 9223372036854775807 ∨ True := .inr trivial
              have hbig : Hid (1024 < prd2 ds) := by
                have h1 := hle'.out
                have h2 : d ≤ p * d := Nat.le_mul_of_pos_left _ hp0
                show 1024 < prd2 ds
                omega
              clear hd9
              go_wp2
              go_ret2
              exact ⟨rfl, .inr (.inl ⟨ds, hG'.out, hbig.out, rfl⟩)⟩
          · have e : prd2 (ds.take j) = prd2 ds := by rw [List.take_of_length_le (by rw [← hlen'.out]; omega)]
            rw [e] at hp ⊢
            have hgj : zs.length ≤ j := by omega
            clear e hc hr
            generalize hpd : prd2 ds = pd at *
            have hpd' : Hid (prd2 ds = pd) := hpd
            clear hpd
            go_wp2
            go_ret2
            exact ⟨rfl, .inl ⟨ds, hG'.out, by rw [hpd'.out]; exact hp, by rw [hpd'.out]; rfl⟩⟩
  · have cI := fun W => ref_In_len_no zs.length W hlen
    have hno : Hid (∀ ds, ¬ Good zs ds) := fun ds hG => hlen ⟨hG.1, hG.2.1⟩
    clear hlen
    go_enter Tryd.func7, Tryd.ntmps7
    go_wp2_with (go_at_call 9; refine Calls.mono (cI _) ?_; rintro e w' ⟨rfl, hw⟩; rw [hw]; clear hw)
    go_ret2
    exact ⟨rfl, .inr (.inr ⟨hno.out, rfl⟩)⟩

end Go.Proofs.YtgkepflnnoociacDoor
