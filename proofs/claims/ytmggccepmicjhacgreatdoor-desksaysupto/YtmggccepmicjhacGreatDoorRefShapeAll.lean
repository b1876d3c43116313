/-
  Texts that stood one behind the other, as one.
-/
import Derived.Test.YtmggccepmicjhacGreatDoorSlRowAll
import Derived.Test.YtmggccepmicjhacGreatDoorSlRowAll
import Derived.Test.YtmggccepmicjhacGreatDoorSlAll
import Derived.Laws.BitsLemmas
import Derived.Test.YtmggccepmicjhacGreatDoorRows
import Derived.Deep.RegionLaw
import Derived.Deep.AppendLies
/-! What Shape of package goldref answers: how many numbers an array has, or which error. -/
namespace Go.Proofs.YtmggccepmicjhacGreatDoor
open Go.RowKit
set_option maxRecDepth 100000

theorem ref_In_len (n : Nat) (w : World) (h : 1 ≤ n ∧ n ≤ 3) : Calls Tryz.prog 75 #[.int .i64 (n : Int), .int .i64 1, .int .i64 3] w fun e w' => e = .returned (.bool true) ∧ w' = w := ref_In_true n 1 3 (by omega) (by omega) w
theorem ref_In_len_no (n : Nat) (w : World) (h : ¬ (1 ≤ n ∧ n ≤ 3)) : Calls Tryz.prog 75 #[.int .i64 (n : Int), .int .i64 1, .int .i64 3] w fun e w' => e = .returned (.bool false) ∧ w' = w := by
  rcases Nat.lt_or_ge n 1 with h1 | h1
  · exact ref_In_low n 1 3 (by omega) w
  · exact ref_In_high n 1 3 (by omega) (by omega) w

theorem Good_all {zs : List Int} (h1 : 1 ≤ zs.length) (h2 : zs.length ≤ 3) (h : ∀ i, i < zs.length → ∃ q : Nat, zs.getD i 0 = (q : Int) ∧ P2 q) : ∃ ds, Good zs ds := by
  refine ⟨zs.map Int.toNat, h1, h2, ?_, ?_⟩
  · rw [List.map_map]
    refine (List.ext_getElem (by simp) fun i hi _ => ?_)
    obtain ⟨q, e, _⟩ := h i hi
    simp only [List.getD, List.getElem?_eq_getElem hi, Option.getD_some] at e
    simp [e]
  · intro d hd
    obtain ⟨z, hz, rfl⟩ := List.mem_map.mp hd
    obtain ⟨i, hi, rfl⟩ := List.mem_iff_getElem.mp hz
    obtain ⟨q, e, hq⟩ := h i hi
    simp only [List.getD, List.getElem?_eq_getElem hi, Option.getD_some] at e
    rw [e]
    simpa using hq
theorem Good_get {zs : List Int} {ds : List Nat} (h : Good zs ds) (i : Nat) (hi : i < zs.length) : zs.getD i 0 = ((ds.getD i 0 : Nat) : Int) ∧ P2 (ds.getD i 0) := by
  obtain ⟨_, _, e, hp⟩ := h
  have hl : i < ds.length := by rw [e, List.length_map] at hi; exact hi
  constructor
  · rw [e]; simp [List.getD, hl]
  · simp only [List.getD, List.getElem?_eq_getElem hl, Option.getD_some]
    exact hp _ (List.getElem_mem hl)

set_option maxHeartbeats 4000000 in
theorem ref_Shape (w : World) (v : Value) (zs : List Int) (h : IsZ w v zs) :
    Calls Tryz.prog 102 #[v] w fun e w' => w' = w ∧ ((∃ ds, Good zs ds ∧ prd2 ds ≤ 1024 ∧ e = .returned (.tuple #[.int .i64 ((prd2 ds : Nat) : Int), .int .i64 0])) ∨ (∃ ds, Good zs ds ∧ 1024 < prd2 ds ∧ e = .returned (.tuple #[.int .i64 0, .int .i64 2])) ∨ ((∀ ds, ¬ Good zs ds) ∧ e = .returned (.tuple #[.int .i64 0, .int .i64 1]))) := by
  obtain ⟨a, cap, rfl, hcap, hmax, hc, hr⟩ := h
  clear hcap hmax
  by_cases hlen : 1 ≤ zs.length ∧ zs.length ≤ 3
  · have cI := fun W => ref_In_len zs.length W hlen
    obtain ⟨hl1, hl3⟩ := hlen
    go_enter Tryz.func102, Tryz.ntmps102
    go_wp2_with (go_at_call 75; refine Calls.mono (cI _) ?_; rintro e w' ⟨rfl, hw⟩; rw [hw]; clear hw)
    clear cI
    go_loop [4] (fun vi => ∃ i : Nat, i ≤ zs.length ∧ vi = .int .i64 (i : Int) ∧ Hid (∀ t, t < i → ∃ q : Nat, zs.getD t 0 = (q : Int) ∧ P2 q))
      (fun vi => zs.length - (intOf vi).toNat)
    case atStart => exact ⟨0, Nat.zero_le _, rfl, fun t ht => by omega⟩
    case round =>
      obtain ⟨i, hi, rfl, hP⟩ := hrel
      by_cases hlt : i < zs.length
      · obtain ⟨b, off, rfl, hcell⟩ := hc i hlt
        obtain ⟨hz1, hz2⟩ := rangeZ_getD hr i
        have hno : Hid ((¬ ∃ q : Nat, zs.getD i 0 = (q : Int) ∧ P2 q) → ∀ ds, ¬ Good zs ds) := fun hn ds hG => hn ⟨_, Good_get hG i hlt⟩
        have hnext : Hid ((∃ q : Nat, zs.getD i 0 = (q : Int) ∧ P2 q) → ∀ t, t < i + 1 → ∃ q : Nat, zs.getD t 0 = (q : Int) ∧ P2 q) := fun hy t ht => by
          by_cases e : t = i
          · rw [e]; exact hy
          · exact hP.out t (by omega)
        clear hP
        generalize zs.getD i 0 = z at *
        go_wp2
        go_loop [5] (fun vm => ∃ m : Int, vm = .int .i64 m ∧ ((z ≤ 0 ∧ m = z) ∨ ∃ q : Nat, 0 < q ∧ (q : Int) ≤ 9223372036854775807 ∧ m = (q : Int) ∧ Hid (P2 q ↔ ∃ q0 : Nat, z = (q0 : Int) ∧ P2 q0)))
          (fun vm => (intOf vm).toNat)
        case atStart =>
          refine ⟨z, rfl, ?_⟩
          by_cases h0 : z ≤ 0
          · exact .inl ⟨h0, rfl⟩
          · refine .inr ⟨z.toNat, by omega, by omega, by omega, ⟨fun h => ⟨z.toNat, by omega, h⟩, ?_⟩⟩
            rintro ⟨q0, e, h⟩
            rw [e]; simpa using h
        case round =>
          obtain ⟨m, rfl, hm⟩ := hrel
          rcases hm with ⟨h0, rfl⟩ | ⟨q, hq0, hq9, rfl, hq⟩
          · have hbad : Hid (∀ ds, ¬ Good zs ds) := hno.out (fun ⟨q, e, hp⟩ => by have := P2_pos hp; omega)
            have hne : (m != 1) = true := by rw [bne_iff_ne]; omega
            have hgt : decide ((1 : Int) < m) = false := decide_eq_false (by omega)
            clear hno hnext hc hr
            go_wp2
            go_ret2
            exact ⟨rfl, .inr (.inr ⟨hbad.out, rfl⟩)⟩
          · by_cases hq1 : q = 1
            · subst hq1
              have hnx : Hid (∀ t, t < i + 1 → ∃ q : Nat, zs.getD t 0 = (q : Int) ∧ P2 q) := hnext.out (hq.out.mp P2_one)
              clear hno hnext hc hr
              go_wp2
              go_round
              case rel => exact ⟨i + 1, by omega, by go_num, hnx⟩
              case measure => simp only [intOf]; omega
            · have hgt : decide ((1 : Int) < (q : Int)) = true := decide_eq_true (by omega)
              have hgt' : 1 < q := by omega
              have e0 : (q : Int).tmod 2 = (q : Int) % 2 := Int.tmod_eq_emod_of_nonneg (by omega)
              by_cases hev : q % 2 = 0
              · have e1 : ((q : Int).tmod 2 == 0) = true := by rw [beq_iff_eq]; omega
                have e2 : (q : Int).tmod 2 = 0 := by omega
                clear e0
                have hq2 : Hid (P2 (q / 2) ↔ ∃ q0 : Nat, z = (q0 : Int) ∧ P2 q0) := (P2_half hev).trans hq.out
                clear hno hnext hc hr hq
                go_wp2
                go_round
                case rel => exact ⟨_, rfl, .inr ⟨q / 2, by omega, by omega, by omega, hq2⟩⟩
                case measure => simp only [intOf]; omega
              · have e1 : ((q : Int).tmod 2 == 0) = false := by rw [beq_eq_false_iff_ne]; omega
                have e2 : (q : Int).tmod 2 = 1 := by omega
                clear e0
                have hbad : Hid (∀ ds, ¬ Good zs ds) := hno.out (fun h => P2_odd hgt' (by omega) (hq.out.mpr h))
                have hne : ((q : Int) != 1) = true := by rw [bne_iff_ne]; omega
                clear hno hnext hc hr hq
                go_wp2
                go_ret2
                exact ⟨rfl, .inr (.inr ⟨hbad.out, rfl⟩)⟩
      · have e : i = zs.length := by omega
        have hP2 := hP.out
        rw [e] at hP2
        obtain ⟨ds, hG⟩ := Good_all hl1 hl3 hP2
        have hge : zs.length ≤ i := by omega
        have hG' : Hid (Good zs ds) := hG
        have hlen : zs.length = ds.length := by rw [hG.2.2.1, List.length_map]
        have hlen' : Hid (zs.length = ds.length) := hlen
        have hpos : Hid (∀ d ∈ ds, 0 < d) := fun d hd => P2_pos (hG.2.2.2 d hd)
        clear hP hP2 e hG hlen
        go_wp2
        go_loop [6, 7] (fun vn vi => ∃ j : Nat, j ≤ zs.length ∧ vi = .int .i64 (j : Int) ∧ vn = .int .i64 ((prd2 (ds.take j) : Nat) : Int) ∧ prd2 (ds.take j) ≤ 1024)
          (fun _ vi => zs.length - (intOf vi).toNat)
        case atStart => exact ⟨0, Nat.zero_le _, rfl, rfl, by simp [prd2]⟩
        case round =>
          obtain ⟨j, hj, rfl, rfl, hp⟩ := hrel
          by_cases hjl : j < zs.length
          · obtain ⟨b, off, rfl, hcell⟩ := hc j hjl
            rw [(Good_get hG'.out j hjl).1] at hcell
            have hstep := prd2_take ds j (by rw [← hlen'.out]; exact hjl)
            have hle := prd2_take_le hpos.out (j + 1)
            have hp0 : 0 < prd2 (ds.take j) := prd2_pos fun d hd => hpos.out d (List.mem_of_mem_take hd)
            rw [hstep] at hle
            have hstep' : Hid (prd2 (ds.take (j + 1)) = prd2 (ds.take j) * ds.getD j 0) := hstep
            have hle' : Hid (prd2 (ds.take j) * ds.getD j 0 ≤ prd2 ds) := hle
            clear hstep hle hc hr
            generalize prd2 (ds.take j) = p at *
            generalize ds.getD j 0 = d at *
            by_cases hd : d ≤ 1024
            · obtain ⟨r, hr0⟩ : ∃ r : Nat, r = p * d := ⟨_, rfl⟩
              have hmul : (p : Int) * (d : Int) = (r : Int) := by rw [hr0, Int.natCast_mul]
              have hr9 : r ≤ 1048576 := by rw [hr0]; exact Nat.mul_le_mul hp hd
              have hr1 : Hid (r = p * d) := hr0
              clear hr0
              by_cases hrl : r ≤ 1024
              · go_wp2
                go_round
                case rel => exact ⟨j + 1, by omega, by go_num, by rw [hstep'.out, ← hr1.out], by rw [hstep'.out, ← hr1.out]; exact hrl⟩
                case measure => simp only [intOf]; omega
              · have hgt : 1024 < r := by omega
                have hbig : Hid (1024 < prd2 ds) := by have := hle'.out; rw [← hr1.out] at this; show 1024 < prd2 ds; omega
                go_wp2
                go_ret2
                exact ⟨rfl, .inr (.inl ⟨ds, hG'.out, hbig.out, rfl⟩)⟩
            · have hgt : 1024 < d := by omega
              have hd9 : d ≤ 9223372036854775807 ∨ True := .inr trivial
              have hbig : Hid (1024 < prd2 ds) := by
                have h1 := hle'.out
                have h2 : d ≤ p * d := Nat.le_mul_of_pos_left _ hp0
                show 1024 < prd2 ds
                omega
              clear hd9
              go_wp2
              go_ret2
              exact ⟨rfl, .inr (.inl ⟨ds, hG'.out, hbig.out, rfl⟩)⟩
          · have e : prd2 (ds.take j) = prd2 ds := by rw [List.take_of_length_le (by rw [← hlen'.out]; omega)]
            rw [e] at hp ⊢
            have hgj : zs.length ≤ j := by omega
            clear e hc hr
            generalize hpd : prd2 ds = pd at *
            have hpd' : Hid (prd2 ds = pd) := hpd
            clear hpd
            go_wp2
            go_ret2
            exact ⟨rfl, .inl ⟨ds, hG'.out, by rw [hpd'.out]; exact hp, by rw [hpd'.out]; rfl⟩⟩
  · have cI := fun W => ref_In_len_no zs.length W hlen
    have hno : Hid (∀ ds, ¬ Good zs ds) := fun ds hG => hlen ⟨hG.1, hG.2.1⟩
    clear hlen
    go_enter Tryz.func102, Tryz.ntmps102
    go_wp2_with (go_at_call 75; refine Calls.mono (cI _) ?_; rintro e w' ⟨rfl, hw⟩; rw [hw]; clear hw)
    go_ret2
    exact ⟨rfl, .inr (.inr ⟨hno.out, rfl⟩)⟩

end Go.Proofs.YtmggccepmicjhacGreatDoor

/-! Slices of ints that hold natural numbers, as lists; bits read from the other end. -/
namespace Go.Proofs.YtmggccepmicjhacGreatDoor
open Go.RowKit
set_option maxRecDepth 100000

/-- The slice value v reads in the world w as the numbers xs, of type int. -/
def IsI (w : World) (v : Value) (xs : List Nat) : Prop :=
  ∃ (a : Option Addr) (cap : Nat), v = .slice a xs.length cap ∧ xs.length ≤ cap ∧ cap ≤ maxLen ∧
    (∀ i, i < xs.length → ∃ b off, a = some ⟨b, off, none⟩ ∧ w.cell? ⟨b, off + i, none⟩ = some (.int .i64 ((xs.getD i 0 : Nat) : Int)))
theorem IsI.below {w w' : World} {v : Value} {xs : List Nat} (h : IsI w v xs) (hb : Below w.heap.size w w') : IsI w' v xs := by
  obtain ⟨a, cap, rfl, h1, h2, hc⟩ := h
  refine ⟨a, cap, rfl, h1, h2, fun i hi => ?_⟩
  obtain ⟨b, off, rfl, hcell⟩ := hc i hi
  exact ⟨b, off, rfl, (hb.cell (block_lt hcell)).trans hcell⟩
theorem IsI.nil (w : World) : IsI w (.slice none 0 0) [] :=
  ⟨none, 0, rfl, by simp, by simp [maxLen], fun i hi => by simp at hi⟩
theorem IsI.cast {w : World} {v : Value} {l l' : List Nat} (h : IsI w v l) (e : l = l') : IsI w v l' := e ▸ h

/-- The first b of i's bits, read into k bits from the other end. -/
def rvK (k i : Nat) : Nat → Nat
  | 0 => 0
  | b + 1 => rvK k i b + i / 2 ^ b % 2 * 2 ^ (k - 1 - b)
/-- All k of them. -/
def rv (k i : Nat) : Nat := rvK k i k
/-- The numbers from 0 to 2^k - 1, each read from the other end. -/
def ord (k : Nat) : List Nat := (List.range (2 ^ k)).map (rv k)
theorem ord_length (k : Nat) : (ord k).length = 2 ^ k := by simp [ord]
theorem ord_get (k i : Nat) (h : i < 2 ^ k) : (ord k).getD i 0 = rv k i := by simp [ord, List.getD, h]

theorem rvK_dvd (k i b : Nat) (hb : b ≤ k) : 2 ^ (k - b) ∣ rvK k i b := by
  induction b with
  | zero => exact Nat.dvd_zero _
  | succ b ih =>
    rw [rvK]
    have h1 : 2 ^ (k - (b + 1)) ∣ rvK k i b := Nat.dvd_trans (Nat.pow_dvd_pow 2 (by omega)) (ih (by omega))
    have h2 : 2 ^ (k - (b + 1)) ∣ i / 2 ^ b % 2 * 2 ^ (k - 1 - b) := by
      rw [show k - (b + 1) = k - 1 - b by omega]
      exact Nat.dvd_mul_left _ _
    exact Nat.dvd_add h1 h2
theorem rvK_le (k i b : Nat) (hb : b ≤ k) : rvK k i b + 2 ^ (k - b) ≤ 2 ^ k := by
  induction b with
  | zero => simp [rvK]
  | succ b ih =>
    rw [rvK]
    have ih' := ih (by omega)
    have e : 2 ^ (k - b) = 2 ^ (k - 1 - b) + 2 ^ (k - 1 - b) := by
      rw [show k - b = k - 1 - b + 1 by omega, Nat.pow_succ]; omega
    rw [show k - (b + 1) = k - 1 - b by omega]
    have h2 : i / 2 ^ b % 2 * 2 ^ (k - 1 - b) ≤ 2 ^ (k - 1 - b) := by
      generalize 2 ^ (k - 1 - b) = q
      rcases Nat.mod_two_eq_zero_or_one (i / 2 ^ b) with h | h <;> rw [h] <;> omega
    omega
theorem bit_lt (k i b : Nat) (hb : b < k) : i / 2 ^ b % 2 * 2 ^ (k - 1 - b) < 2 ^ (k - b) := by
  have e : 2 ^ (k - b) = 2 ^ (k - 1 - b) + 2 ^ (k - 1 - b) := by
    rw [show k - b = k - 1 - b + 1 by omega, Nat.pow_succ]; omega
  have hp : 0 < 2 ^ (k - 1 - b) := Nat.pow_pos (by decide)
  rcases Nat.mod_two_eq_zero_or_one (i / 2 ^ b) with h | h <;> rw [h] <;> omega

theorem wraps_i64 (n : Int) (h1 : 0 ≤ n) (h2 : n < 2 ^ 62) : IntKind.i64.wrap n = n := by rw [IntKind.wrap_i64]; omega
theorem and_one (x : Nat) (hx : x ≤ 1024) : bits .and .i64 (x : Int) 1 = ((x % 2 : Nat) : Int) := by
  have := (bits_nat .i64 62 (by decide) wraps_i64 x 1 (by omega) (by decide)).1
  rw [Nat.and_one_is_mod] at this
  exact this
theorem or_join (r y s : Nat) (hd : 2 ^ s ∣ r) (hy : y < 2 ^ s) (hr : r < 2 ^ 62) (hy2 : y < 2 ^ 62) : bits .or .i64 (r : Int) (y : Int) = ((r + y : Nat) : Int) := by
  rw [(bits_nat .i64 62 (by decide) wraps_i64 r y hr hy2).2]
  obtain ⟨c, rfl⟩ := hd
  rw [← Nat.two_pow_add_eq_or_of_lt hy c]
theorem rv_or (k i b : Nat) (hb : b < k) (hk : 2 ^ k ≤ 1024) (hi : i ≤ 1024) :
    bits .or .i64 ((rvK k i b : Nat) : Int) (wrap64 (bits .and .i64 ((i : Int) / 2 ^ b) 1 * 2 ^ (k - 1 - b))) = ((rvK k i (b + 1) : Nat) : Int) := by
  have hp2 : ∀ t : Nat, (2 : Int) ^ t = ((2 ^ t : Nat) : Int) := fun t => by rw [Int.natCast_pow]; rfl
  have hdiv : (i : Int) / 2 ^ b = ((i / 2 ^ b : Nat) : Int) := by rw [hp2, ← Int.natCast_ediv]
  have hdl : i / 2 ^ b ≤ 1024 := Nat.le_trans (Nat.div_le_self _ _) hi
  have h3 := bit_lt k i b hb
  have h4 := rvK_le k i b (by omega)
  have h5 := rvK_dvd k i b (by omega)
  have h7 : 2 ^ (k - b) ≤ 2 ^ k := Nat.pow_le_pow_right (by decide) (by omega)
  have e2 : ((i / 2 ^ b % 2 : Nat) : Int) * 2 ^ (k - 1 - b) = ((i / 2 ^ b % 2 * 2 ^ (k - 1 - b) : Nat) : Int) := by
    rw [hp2, ← Int.natCast_mul]
  rw [hdiv, and_one _ hdl, e2, show rvK k i (b + 1) = rvK k i b + i / 2 ^ b % 2 * 2 ^ (k - 1 - b) from rfl]
  clear hdiv e2
  generalize i / 2 ^ b % 2 * 2 ^ (k - 1 - b) = y at *
  have e3 : wrap64 (y : Int) = (y : Int) := by unfold wrap64; omega
  rw [e3]
  generalize rvK k i b = r at *
  have hr : r < 2 ^ 62 := by omega
  have hy : y < 2 ^ 62 := by omega
  exact or_join r y (k - b) h5 h3 hr hy

end Go.Proofs.YtmggccepmicjhacGreatDoor

/-! The cells of a list of ints; what is owned reads as such a list. -/
namespace Go.Proofs.YtmggccepmicjhacGreatDoor
open Go.RowKit
set_option maxRecDepth 100000

def cellsI (xs : List Nat) : List Value := xs.map fun (x : Nat) => Value.int .i64 (x : Int)
theorem cellsI_length (xs : List Nat) : (cellsI xs).length = xs.length := by simp [cellsI]
theorem cellsI_append (xs ys : List Nat) : cellsI (xs ++ ys) = cellsI xs ++ cellsI ys := by simp [cellsI]
theorem cellsI_get (xs : List Nat) (i : Nat) (h : i < xs.length) : (cellsI xs)[i]? = some (.int .i64 ((xs.getD i 0 : Nat) : Int)) := by
  simp [cellsI, List.getD, h]
theorem cellsI_set (xs : List Nat) (j v : Nat) : (cellsI xs).set j (.int .i64 (v : Int)) = cellsI (xs.set j v) := by
  unfold cellsI
  rw [List.map_set]
theorem IsI.of_owns {w : World} {base e n : Nat} {v : Value} {xs : List Nat} (h : w.ownsRow base e 1 v n (cellsI xs)) : IsI w v xs := by
  have h0 := h
  obtain ⟨hl, hv⟩ := h
  have hn : xs.length = n := by rw [cellsI_length] at hl; omega
  subst hn
  rcases hv with ⟨rfl, h2⟩ | ⟨g, cap, cur, rfl, hg, hh, hc, hm, hs, ht⟩
  · have : xs = [] := List.eq_nil_of_length_eq_zero h2
    subst this
    exact IsI.nil w
  · refine ⟨some ⟨g, 0, none⟩, cap, rfl, hc, hm, fun i hi => ⟨g, 0, rfl, ?_⟩⟩
    have := h0.cellAt i (by omega)
    rw [Nat.zero_add, this, cellsI_get xs i hi]

theorem info_int : (Tryz.prog.info? 3).map (fun i => (i.zero, i.size, i.bytes)) = some (some (.int .i64 0), 1, 8) := by kernel_rfl

end Go.Proofs.YtmggccepmicjhacGreatDoor

/-! One int is appended to a slice that the call itself made. -/
namespace Go.Proofs.YtmggccepmicjhacGreatDoor
open Go.RowKit
set_option maxRecDepth 100000

theorem wp_appendI {ops : Array Oper} {rest : List Oper} {o : Oper} {a : Act} {Q : Exit → Act → World → Prop} {w w0 : World} (hgd : o.guard = none) (s x : Operand)
    (ho : o.op = .call { callee := .builtin .append, args := #[s, x], argTypes := #[83, 83] }) (v : Value) (n : Nat) (xs : List Value) (z : Nat)
    (hs : a.eval s = v) (hown : w.ownsRow w0.heap.size 3 1 v n xs) (hx : a.eval x = .slice (some ⟨w.heap.size, 0, none⟩) 1 1)
    (hn : n ≤ 1000000000) (hnx : Below w0.heap.size w0 w)
    (h : ∀ v' w', w'.ownsRow w0.heap.size 3 1 v' (n + 1) (xs ++ [.int .i64 (z : Int)]) → Below w0.heap.size w0 w' → wpList Tryz.prog ops Q rest (a.put o.dst v') w') :
    wpList Tryz.prog ops Q (o :: rest) a (w.alloc (.cells #[.int .i64 (z : Int)] 3)) := by
  obtain ⟨i0, hi, hz0, hz1, hz2⟩ := info_parts info_int
  have hsz := hnx.size
  refine wpList_append_own _ hgd s x 83 ho w0.heap.size 3 i0 (.int .i64 0) 1 8 Tryz.underlying83 hi hz0 hz1 hz2 rfl (by decide) v n xs hs (hown.alloc _) ⟨w.heap.size, 0, none⟩ 1 1 [.int .i64 (z : Int)] hx rfl ?_ ?_ ?_ ?_ ?_ ?_
  · intro j u hj
    match j, hj with
    | 0, hj => simp at hj; subst hj; simp [Addr.add]
  · intro u hu; simp at hu; subst hu; rfl
  · unfold maxLen; omega
  · omega
  · simp; omega
  · intro v' w' hown' hgrow _
    exact h v' w' hown' ((hnx.alloc hsz _).grown hgrow (by simp; omega) (owns_block hown))

/-- The same as a step of a region that draws its order. -/
theorem step_appendI {ops : Array Oper} {o : Oper} {a : Act} {K : Act → World → Prop} {Q : Exit → Act → World → Prop} {E : Prop} {w w0 : World} (hgd : o.guard = none) (s x : Operand)
    (ho : o.op = .call { callee := .builtin .append, args := #[s, x], argTypes := #[83, 83] }) (v : Value) (n : Nat) (xs : List Value) (z : Nat)
    (hs : a.eval s = v) (hx : a.eval x = .slice (some ⟨w.heap.size, 0, none⟩) 1 1) (hown : w.ownsRow w0.heap.size 3 1 v n xs)
    (hn : n ≤ 1000000000) (hnx : Below w0.heap.size w0 w)
    (h : ∀ v' w', w'.ownsRow w0.heap.size 3 1 v' (n + 1) (xs ++ [.int .i64 (z : Int)]) → Below w0.heap.size w0 w' → K (a.put o.dst v') w') :
    if Region.wanted o (yielded ops a.tmps) = true then Oper.wp Tryz.prog o a (w.alloc (.cells #[.int .i64 (z : Int)] 3)) K Q else E := by
  obtain ⟨i0, hi, hz0, hz1, hz2⟩ := info_parts info_int
  have hsz := hnx.size
  refine step_append_lies _ hgd s x 83 ho w0.heap.size 3 i0 (.int .i64 0) 1 8 Tryz.underlying83 hi hz0 hz1 hz2 rfl (by decide) v n xs hs (hown.alloc _) ⟨w.heap.size, 0, none⟩ 1 1 [.int .i64 (z : Int)] hx rfl ?_ ?_ (by decide) ?_ ?_ ?_ _ rfl ?_
  · intro j u hj
    match j, hj with
    | 0, hj => simp at hj; subst hj; simp [Addr.add]
  · intro u hu; simp at hu; subst hu; rfl
  · unfold maxLen; omega
  · omega
  · simp; omega
  · intro g cap w' hown' hgrow _ _
    exact h _ w' hown' ((hnx.alloc hsz _).grown hgrow (by simp; omega) (owns_block hown))

theorem wp_appendX {ops : Array Oper} {rest : List Oper} {o : Oper} {a : Act} {Q : Exit → Act → World → Prop} {w w0 : World} (hgd : o.guard = none) (s x : Operand)
    (ho : o.op = .call { callee := .builtin .append, args := #[s, x], argTypes := #[83, 83] }) (v : Value) (n : Nat) (xs : List Value) (z : Nat)
    (hs : a.eval s = v) (hown : w.ownsRow w0.heap.size 3 1 v n xs) (hx : a.eval x = .slice (some ⟨w.heap.size, 0, none⟩) 1 1)
    (hn : n ≤ 1000000) (hnx : Below w0.heap.size w0 w)
    (h : ∀ g cap w', w'.ownsRow w0.heap.size 3 1 (.slice (some ⟨g, 0, none⟩) (n + 1) cap) (n + 1) (xs ++ [.int .i64 (z : Int)]) → Below w0.heap.size w0 w' → (∀ b, b < w.heap.size → v.ownBlock ≠ some b → w'.heap[b]? = w.heap[b]?) → Hid (v.ownBlock = some g ∨ w.heap.size < g) → g < w'.heap.size → w.heap.size ≤ w'.heap.size → wpList Tryz.prog ops Q rest (a.put o.dst (.slice (some ⟨g, 0, none⟩) (n + 1) cap)) w') :
    wpList Tryz.prog ops Q (o :: rest) a (w.alloc (.cells #[.int .i64 (z : Int)] 3)) := by
  obtain ⟨i0, hi, hz0, hz1, hz2⟩ := info_parts info_int
  have hsz := hnx.size
  refine wpList_append_lies _ hgd s x 83 ho w0.heap.size 3 i0 (.int .i64 0) 1 8 Tryz.underlying83 hi hz0 hz1 hz2 rfl (by decide) v n xs hs (hown.alloc _) ⟨w.heap.size, 0, none⟩ 1 1 [.int .i64 (z : Int)] hx rfl ?_ ?_ (by decide) ?_ ?_ ?_ _ rfl ?_
  · intro j u hj
    match j, hj with
    | 0, hj => simp at hj; subst hj; simp [Addr.add]
  · intro u hu; simp at hu; subst hu; rfl
  · unfold maxLen; omega
  · omega
  · simp; omega
  · intro g cap w' hown' hgrow hat hlt
    have hal : (w.alloc (.cells #[.int .i64 (z : Int)] 3)).heap.size = w.heap.size + 1 := by simp
    refine h g cap w' hown' ((hnx.alloc hsz _).grown hgrow (by simp; omega) (owns_block hown)) (fun b hb hne => ?_) ?_ hlt ?_
    · rw [hgrow.block b (by rw [hal]; omega) (fun e => hne e.symm)]
      exact Below.heap_alloc _ _ _ hb
    · rcases hat with h1 | h1
      · exact .inl h1
      · exact .inr (by rw [h1, hal]; omega)
    · have := hgrow.size
      omega


end Go.Proofs.YtmggccepmicjhacGreatDoor
