/-
  Texts that stood one behind the other, as one.
-/
import Derived.Test.YtgkepflnnoociagDoorRows
import Derived.WalkKit
import Derived.WalkSpells
import Derived.WalkLawsBesides
import Derived.Test.YtgkepflnnoociagDoorSlZAll
import Derived.BigQuiet
import Derived.Deep.RegionWith
import Derived.Test.YtgkepflnnoociagDoorSlAppAll
/-! What In of package goldref answers. -/
namespace Go.Proofs.YtgkepflnnoociagDoor
open Go.RowKit

theorem ref_In_true (n lo hi : Int) (h1 : lo ≤ n) (h2 : n ≤ hi) (w : World) :
    Calls Tryd.prog 91 #[.int .i64 n, .int .i64 lo, .int .i64 hi] w fun e w' => e = .returned (.bool true) ∧ w' = w := by
  go_enter Tryd.func91, Tryd.ntmps91
  go_wp2
  go_ret
  exact ⟨rfl, rfl⟩
theorem ref_In_low (n lo hi : Int) (h1 : n < lo) (w : World) :
    Calls Tryd.prog 91 #[.int .i64 n, .int .i64 lo, .int .i64 hi] w fun e w' => e = .returned (.bool false) ∧ w' = w := by
  go_enter Tryd.func91, Tryd.ntmps91
  go_wp2
  go_ret
  exact ⟨rfl, rfl⟩
theorem ref_In_high (n lo hi : Int) (h1 : lo ≤ n) (h2 : hi < n) (w : World) :
    Calls Tryd.prog 91 #[.int .i64 n, .int .i64 lo, .int .i64 hi] w fun e w' => e = .returned (.bool false) ∧ w' = w := by
  have hd : decide (n ≤ hi) = false := decide_eq_false (by omega)
  go_enter Tryd.func91, Tryd.ntmps91
  go_wp2
  go_ret
  exact ⟨rfl, rfl⟩

end Go.Proofs.YtgkepflnnoociagDoor

/-! What Shape of package goldref answers: how many numbers an array has, or which error. -/
namespace Go.Proofs.YtgkepflnnoociagDoor
open Go.RowKit

theorem ref_In_len (n : Nat) (w : World) (h : 1 ≤ n ∧ n ≤ 3) : Calls Tryd.prog 91 #[.int .i64 (n : Int), .int .i64 1, .int .i64 3] w fun e w' => e = .returned (.bool true) ∧ w' = w := ref_In_true n 1 3 (by omega) (by omega) w
theorem ref_In_len_no (n : Nat) (w : World) (h : ¬ (1 ≤ n ∧ n ≤ 3)) : Calls Tryd.prog 91 #[.int .i64 (n : Int), .int .i64 1, .int .i64 3] w fun e w' => e = .returned (.bool false) ∧ w' = w := by
  rcases Nat.lt_or_ge n 1 with h1 | h1
  · exact ref_In_low n 1 3 (by omega) w
  · exact ref_In_high n 1 3 (by omega) (by omega) w

theorem Good_all {zs : List Int} (h1 : 1 ≤ zs.length) (h2 : zs.length ≤ 3) (h : ∀ i, i < zs.length → ∃ q : Nat, zs.getD i 0 = (q : Int) ∧ P2 q) : ∃ ds, Good zs ds := by
  refine ⟨zs.map Int.toNat, h1, h2, ?_, ?_⟩
  · rw [List.map_map]
    refine (List.ext_getElem (by simp) fun i hi _ => ?_)
    obtain ⟨q, e, _⟩ := h i hi
    simp only [List.getD, List.getElem?_eq_getElem hi, Option.getD_some] at e
    simp [e]
  · intro d hd
    obtain ⟨z, hz, rfl⟩ := List.mem_map.mp hd
    obtain ⟨i, hi, rfl⟩ := List.mem_iff_getElem.mp hz
    obtain ⟨q, e, hq⟩ := h i hi
    simp only [List.getD, List.getElem?_eq_getElem hi, Option.getD_some] at e
    rw [e]
    simpa using hq
theorem Good_get {zs : List Int} {ds : List Nat} (h : Good zs ds) (i : Nat) (hi : i < zs.length) : zs.getD i 0 = ((ds.getD i 0 : Nat) : Int) ∧ P2 (ds.getD i 0) := by
  obtain ⟨_, _, e, hp⟩ := h
  have hl : i < ds.length := by rw [e, List.length_map] at hi; exact hi
  constructor
  · rw [e]; simp [List.getD, hl]
  · simp only [List.getD, List.getElem?_eq_getElem hl, Option.getD_some]
    exact hp _ (List.getElem_mem hl)

set_option maxHeartbeats 4000000 in
theorem ref_Shape (w : World) (v : Value) (zs : List Int) (h : IsZ w v zs) :
    Calls Tryd.prog 54 #[v] w fun e w' => w' = w ∧ ((∃ ds, Good zs ds ∧ prd2 ds ≤ 1024 ∧ e = .returned (.tuple #[.int .i64 ((prd2 ds : Nat) : Int), .int .i64 0])) ∨ (∃ ds, Good zs ds ∧ 1024 < prd2 ds ∧ e = .returned (.tuple #[.int .i64 0, .int .i64 2])) ∨ ((∀ ds, ¬ Good zs ds) ∧ e = .returned (.tuple #[.int .i64 0, .int .i64 1]))) := by
  obtain ⟨a, cap, rfl, hcap, hmax, hc, hr⟩ := h
  clear hcap hmax
  by_cases hlen : 1 ≤ zs.length ∧ zs.length ≤ 3
  · have cI := fun W => ref_In_len zs.length W hlen
    obtain ⟨hl1, hl3⟩ := hlen
    go_enter Tryd.func54, Tryd.ntmps54
    go_wp2_with (go_at_call 91; refine Calls.mono (cI _) ?_; rintro e w' ⟨rfl, hw⟩; rw [hw]; clear hw)
    clear cI
    go_loop [4] (fun vi => ∃ i : Nat, i ≤ zs.length ∧ vi = .int .i64 (i : Int) ∧ Hid (∀ t, t < i → ∃ q : Nat, zs.getD t 0 = (q : Int) ∧ P2 q))
      (fun vi => zs.length - (intOf vi).toNat)
    case atStart => exact ⟨0, Nat.zero_le _, rfl, fun t ht => by omega⟩
    case round =>
      obtain ⟨i, hi, rfl, hP⟩ := hrel
      by_cases hlt : i < zs.length
      · obtain ⟨b, off, rfl, hcell⟩ := hc i hlt
        obtain ⟨hz1, hz2⟩ := rangeZ_getD hr i
        have hno : Hid ((¬ ∃ q : Nat, zs.getD i 0 = (q : Int) ∧ P2 q) → ∀ ds, ¬ Good zs ds) := fun hn ds hG => hn ⟨_, Good_get hG i hlt⟩
        have hnext : Hid ((∃ q : Nat, zs.getD i 0 = (q : Int) ∧ P2 q) → ∀ t, t < i + 1 → ∃ q : Nat, zs.getD t 0 = (q : Int) ∧ P2 q) := fun hy t ht => by
          by_cases e : t = i
          · rw [e]; exact hy
          · exact hP.out t (by omega)
        clear hP
        generalize zs.getD i 0 = z at *
        go_wp2
        go_loop [5] (fun vm => ∃ m : Int, vm = .int .i64 m ∧ ((z ≤ 0 ∧ m = z) ∨ ∃ q : Nat, 0 < q ∧ (q : Int) ≤ 9223372036854775807 ∧ m = (q : Int) ∧ Hid (P2 q ↔ ∃ q0 : Nat, z = (q0 : Int) ∧ P2 q0)))
          (fun vm => (intOf vm).toNat)
        case atStart =>
          refine ⟨z, rfl, ?_⟩
          by_cases h0 : z ≤ 0
          · exact .inl ⟨h0, rfl⟩
          · refine .inr ⟨z.toNat, by omega, by omega, by omega, ⟨fun h => ⟨z.toNat, by omega, h⟩, ?_⟩⟩
            rintro ⟨q0, e, h⟩
            rw [e]; simpa using h
        case round =>
          obtain ⟨m, rfl, hm⟩ := hrel
          rcases hm with ⟨h0, rfl⟩ | ⟨q, hq0, hq9, rfl, hq⟩
          · have hbad : Hid (∀ ds, ¬ Good zs ds) := hno.out (fun ⟨q, e, hp⟩ => by have := P2_pos hp; omega)
            have hne : (m != 1) = true := by rw [bne_iff_ne]; omega
            have hgt : decide ((1 : Int) < m) = false := decide_eq_false (by omega)
            clear hno hnext hc hr
            go_wp2
            go_ret2
            exact ⟨rfl, .inr (.inr ⟨hbad.out, rfl⟩)⟩
          · by_cases hq1 : q = 1
            · subst hq1
              have hnx : Hid (∀ t, t < i + 1 → ∃ q : Nat, zs.getD t 0 = (q : Int) ∧ P2 q) := hnext.out (hq.out.mp P2_one)
              clear hno hnext hc hr
              go_wp2
              go_round
              case rel => exact ⟨i + 1, by omega, by go_num, hnx⟩
              case measure => simp only [intOf]; omega
            · have hgt : decide ((1 : Int) < (q : Int)) = true := decide_eq_true (by omega)
              have hgt' : 1 < q := by omega
              have e0 : (q : Int).tmod 2 = (q : Int) % 2 := Int.tmod_eq_emod_of_nonneg (by omega)
              by_cases hev : q % 2 = 0
              · have e1 : ((q : Int).tmod 2 == 0) = true := by rw [beq_iff_eq]; omega
                have e2 : (q : Int).tmod 2 = 0 := by omega
                clear e0
                have hq2 : Hid (P2 (q / 2) ↔ ∃ q0 : Nat, z = (q0 : Int) ∧ P2 q0) := (P2_half hev).trans hq.out
                clear hno hnext hc hr hq
                go_wp2
                go_round
                case rel => exact ⟨_, rfl, .inr ⟨q / 2, by omega, by omega, by omega, hq2⟩⟩
                case measure => simp only [intOf]; omega
              · have e1 : ((q : Int).tmod 2 == 0) = false := by rw [beq_eq_false_iff_ne]; omega
                have e2 : (q : Int).tmod 2 = 1 := by omega
                clear e0
                have hbad : Hid (∀ ds, ¬ Good zs ds) := hno.out (fun h => P2_odd hgt' (by omega) (hq.out.mpr h))
                have hne : ((q : Int) != 1) = true := by rw [bne_iff_ne]; omega
                clear hno hnext hc hr hq
                go_wp2
                go_ret2
                exact ⟨rfl, .inr (.inr ⟨hbad.out, rfl⟩)⟩
      · have e : i = zs.length := by omega
        have hP2 := hP.out
        rw [e] at hP2
        obtain ⟨ds, hG⟩ := Good_all hl1 hl3 hP2
        have hge : zs.length ≤ i := by omega
        have hG' : Hid (Good zs ds) := hG
        have hlen : zs.length = ds.length := by rw [hG.2.2.1, List.length_map]
        have hlen' : Hid (zs.length = ds.length) := hlen
        have hpos : Hid (∀ d ∈ ds, 0 < d) := fun d hd => P2_pos (hG.2.2.2 d hd)
        clear hP hP2 e hG hlen
        go_wp2
        go_loop [6, 7] (fun vn vi => ∃ j : Nat, j ≤ zs.length ∧ vi = .int .i64 (j : Int) ∧ vn = .int .i64 ((prd2 (ds.take j) : Nat) : Int) ∧ prd2 (ds.take j) ≤ 1024)
          (fun _ vi => zs.length - (intOf vi).toNat)
        case atStart => exact ⟨0, Nat.zero_le _, rfl, rfl, by simp [prd2]⟩
        case round =>
          obtain ⟨j, hj, rfl, rfl, hp⟩ := hrel
          by_cases hjl : j < zs.length
          · obtain ⟨b, off, rfl, hcell⟩ := hc j hjl
            rw [(Good_get hG'.out j hjl).1] at hcell
            have hstep := prd2_take ds j (by rw [← hlen'.out]; exact hjl)
            have hle := prd2_take_le hpos.out (j + 1)
            have hp0 : 0 < prd2 (ds.take j) := prd2_pos fun d hd => hpos.out d (List.mem_of_mem_take hd)
            rw [hstep] at hle
            have hstep' : Hid (prd2 (ds.take (j + 1)) = prd2 (ds.take j) * ds.getD j 0) := hstep
            have hle' : Hid (prd2 (ds.take j) * ds.getD j 0 ≤ prd2 ds) := hle
            clear hstep hle hc hr
            generalize prd2 (ds.take j) = p at *
            generalize ds.getD j 0 = d at *
            by_cases hd : d ≤ 1024
            · obtain ⟨r, hr0⟩ : ∃ r : Nat, r = p * d := ⟨_, rfl⟩
              have hmul : (p : Int) * (d : Int) = (r : Int) := by rw [hr0, Int.natCast_mul]
              have hr9 : r ≤ 1048576 := by rw [hr0]; exact Nat.mul_le_mul hp hd
              have hr1 : Hid (r = p * d) := hr0
              clear hr0
              by_cases hrl : r ≤ 1024
              · go_wp2
                go_round
                case rel => exact ⟨j + 1, by omega, by go_num, by rw [hstep'.out, ← hr1.out], by rw [hstep'.out, ← hr1.out]; exact hrl⟩
                case measure => simp only [intOf]; omega
              · have hgt : 1024 < r := by omega
                have hbig : Hid (1024 < prd2 ds) := by have := hle'.out; rw [← hr1.out] at this; show 1024 < prd2 ds; omega
                go_wp2
                go_ret2
                exact ⟨rfl, .inr (.inl ⟨ds, hG'.out, hbig.out, rfl⟩)⟩
            · have hgt : 1024 < d := by omega
              have hd9 : d ≤ 9223372036854775807 ∨ True := .inr trivial
              have hbig : Hid (1024 < prd2 ds) := by
                have h1 := hle'.out
                have h2 : d ≤ p * d := Nat.le_mul_of_pos_left _ hp0
                show 1024 < prd2 ds
                omega
              clear hd9
              go_wp2
              go_ret2
              exact ⟨rfl, .inr (.inl ⟨ds, hG'.out, hbig.out, rfl⟩)⟩
          · have e : prd2 (ds.take j) = prd2 ds := by rw [List.take_of_length_le (by rw [← hlen'.out]; omega)]
            rw [e] at hp ⊢
            have hgj : zs.length ≤ j := by omega
            clear e hc hr
            generalize hpd : prd2 ds = pd at *
            have hpd' : Hid (prd2 ds = pd) := hpd
            clear hpd
            go_wp2
            go_ret2
            exact ⟨rfl, .inl ⟨ds, hG'.out, by rw [hpd'.out]; exact hp, by rw [hpd'.out]; rfl⟩⟩
  · have cI := fun W => ref_In_len_no zs.length W hlen
    have hno : Hid (∀ ds, ¬ Good zs ds) := fun ds hG => hlen ⟨hG.1, hG.2.1⟩
    clear hlen
    go_enter Tryd.func54, Tryd.ntmps54
    go_wp2_with (go_at_call 91; refine Calls.mono (cI _) ?_; rintro e w' ⟨rfl, hw⟩; rw [hw]; clear hw)
    go_ret2
    exact ⟨rfl, .inr (.inr ⟨hno.out, rfl⟩)⟩

end Go.Proofs.YtgkepflnnoociagDoor

/-! What Places and Place of package goldref answer: the places of a number of an array, and back. -/
namespace Go.Proofs.YtgkepflnnoociagDoor
open Go.RowKit

/-- How many numbers one step of axis i goes over; of the axes up to j. -/
def und (ds : List Nat) (i : Nat) : Nat := prd2 (ds.drop (i + 1))
def undK (ds : List Nat) (i j : Nat) : Nat := prd2 ((ds.drop (i + 1)).take (j - (i + 1)))
/-- The places of number k. -/
def plc (ds : List Nat) (k i : Nat) : Nat := k / und ds i % ds.getD i 0
def plcs (ds : List Nat) (k n : Nat) : List Nat := (List.range n).map (plc ds k)
theorem plcs_length (ds : List Nat) (k n : Nat) : (plcs ds k n).length = n := by simp [plcs]
theorem plcs_succ (ds : List Nat) (k n : Nat) : plcs ds k (n + 1) = plcs ds k n ++ [plc ds k n] := by
  simp [plcs, List.range_succ]
theorem undK_start (ds : List Nat) (i : Nat) : undK ds i (i + 1) = 1 := by simp [undK, prd2]
theorem undK_step (ds : List Nat) (i j : Nat) (h1 : i + 1 ≤ j) (h2 : j < ds.length) : undK ds i (j + 1) = undK ds i j * ds.getD j 0 := by
  unfold undK
  rw [show j + 1 - (i + 1) = j - (i + 1) + 1 by omega, prd2_take _ _ (by rw [List.length_drop]; omega)]
  congr 1
  simp [List.getD, List.getElem?_drop, show i + 1 + (j - (i + 1)) = j by omega]
theorem undK_end (ds : List Nat) (i : Nat) : undK ds i ds.length = und ds i := by
  unfold undK und
  rw [List.take_of_length_le (by rw [List.length_drop]; omega)]
theorem undK_le {ds : List Nat} (hp : ∀ d ∈ ds, 0 < d) (i j : Nat) : undK ds i j ≤ prd2 ds := by
  unfold undK
  refine Nat.le_trans (prd2_take_le (fun d hd => hp d (List.mem_of_mem_drop hd)) _) ?_
  rw [prd2_split ds (i + 1)]
  exact Nat.le_mul_of_pos_left _ (prd2_pos fun d hd => hp d (List.mem_of_mem_take hd))
theorem undK_pos {ds : List Nat} (hp : ∀ d ∈ ds, 0 < d) (i j : Nat) : 0 < undK ds i j :=
  prd2_pos fun d hd => hp d (List.mem_of_mem_drop (List.mem_of_mem_take hd))

def rowP (ds : List Nat) (k n : Nat) : List Value := cellsI (plcs ds k n)
theorem rowP_succ (ds : List Nat) (k n : Nat) : rowP ds k (n + 1) = rowP ds k n ++ [.int .i64 ((plc ds k n : Nat) : Int)] := by
  unfold rowP; rw [plcs_succ, cellsI_append]; rfl


/-- The number at places p, the first n axes. -/
def plf (ds p : List Nat) : Nat → Nat
  | 0 => 0
  | n + 1 => plf ds p n * ds.getD n 0 + p.getD n 0
theorem plf_le (ds p : List Nat) (hd : ∀ i, ds.getD i 0 ≤ 1024) (hp : ∀ i, p.getD i 0 ≤ 1024) (n : Nat) : plf ds p n + 1 ≤ 1025 ^ n := by
  induction n with
  | zero => simp [plf]
  | succ n ih =>
    rw [plf, Nat.pow_succ]
    have h1 : plf ds p n * ds.getD n 0 ≤ plf ds p n * 1024 := Nat.mul_le_mul_left _ (hd n)
    have h2 := hp n
    omega
theorem drop_prd (ds : List Nat) (n : Nat) (h : n < ds.length) : prd2 (ds.drop n) = ds.getD n 0 * und ds n := by
  rw [List.drop_eq_getElem_cons h, prd2, und]
  simp [List.getD, h]
/-- The places of k make k. -/
theorem plf_plcs (ds : List Nat) (k : Nat) (hpos : ∀ d ∈ ds, 0 < d) (hk : k < prd2 ds) (n : Nat) (hn : n ≤ ds.length) : plf ds (plcs ds k ds.length) n = k / prd2 (ds.drop n) := by
  induction n with
  | zero => rw [plf, List.drop_zero, Nat.div_eq_of_lt hk]
  | succ n ih =>
    have hu : 0 < und ds n := prd2_pos fun d hd => hpos d (List.mem_of_mem_drop hd)
    rw [plf, ih (by omega), drop_prd ds n (by omega), Nat.mul_comm (ds.getD n 0), ← Nat.div_div_eq_div_mul]
    have e : (plcs ds k ds.length).getD n 0 = k / und ds n % ds.getD n 0 := by simp [plcs, List.getD, show n < ds.length by omega, plc]
    rw [e]
    show _ = k / und ds n
    rw [Nat.mul_comm]
    exact Nat.div_add_mod _ _
theorem plf_set (ds : List Nat) (k : Nat) (hpos : ∀ d ∈ ds, 0 < d) (hk : k < prd2 ds) (x t : Nat) (hx : x < ds.length) (h0 : plc ds k x = 0) (n : Nat) (hn : n ≤ ds.length) :
    plf ds ((plcs ds k ds.length).set x t) n = k / prd2 (ds.drop n) + (if x < n then t * undK ds x n else 0) := by
  induction n with
  | zero => rw [plf, List.drop_zero, Nat.div_eq_of_lt hk, if_neg (by omega)]
  | succ n ih =>
    have ih' := ih (by omega)
    have hs := plf_plcs ds k hpos hk (n + 1) hn
    have hs0 := plf_plcs ds k hpos hk n (by omega)
    rw [plf, hs0] at hs
    rw [plf, ih']
    by_cases e : n = x
    · subst e
      have e1 : ((plcs ds k ds.length).set n t).getD n 0 = t := by simp [List.getD, plcs_length, hx]
      have e2 : (plcs ds k ds.length).getD n 0 = 0 := by simp [plcs, List.getD, hx, h0]
      rw [e2] at hs
      rw [e1, if_neg (by omega), if_pos (by omega), undK_start, Nat.add_zero, Nat.mul_one, ← hs, Nat.add_zero]
    · have e1 : ((plcs ds k ds.length).set x t).getD n 0 = (plcs ds k ds.length).getD n 0 := by simp [List.getD, Ne.symm e]
      rw [e1]
      by_cases h1 : x < n
      · rw [if_pos h1, if_pos (by omega), undK_step ds x n (by omega) (by omega), ← hs, Nat.add_mul, Nat.mul_assoc]
        omega
      · rw [if_neg h1, if_neg (by omega), Nat.add_zero, Nat.add_zero]; exact hs
/-- Along axis x from number k on, whose place there is 0. -/
theorem plf_line (ds : List Nat) (k : Nat) (hpos : ∀ d ∈ ds, 0 < d) (hk : k < prd2 ds) (x t : Nat) (hx : x < ds.length) (h0 : plc ds k x = 0) : plf ds ((plcs ds k ds.length).set x t) ds.length = k + t * und ds x := by
  rw [plf_set ds k hpos hk x t hx h0 _ (Nat.le_refl _), if_pos hx, undK_end, List.drop_length, prd2, Nat.div_one]


end Go.Proofs.YtgkepflnnoociagDoor

/-! What Lines of package goldref answers: the lines of an axis. -/
namespace Go.Proofs.YtgkepflnnoociagDoor
open Go.RowKit

/-- A slice of slices of ints reads as a list of lists. -/
def IsL (w : World) (v : Value) (L : List (List Nat)) : Prop :=
  ∃ (a : Option Addr) (cap : Nat), v = .slice a L.length cap ∧ L.length ≤ cap ∧ cap ≤ maxLen ∧
    (∀ i, i < L.length → ∃ b off u, a = some ⟨b, off, none⟩ ∧ w.cell? ⟨b, off + i, none⟩ = some u ∧ IsI w u (L.getD i []))
theorem IsL.below {w w' : World} {v : Value} {L : List (List Nat)} (h : IsL w v L) (hb : Below w.heap.size w w') : IsL w' v L := by
  obtain ⟨a, cap, rfl, h1, h2, hc⟩ := h
  refine ⟨a, cap, rfl, h1, h2, fun i hi => ?_⟩
  obtain ⟨b, off, u, rfl, hcell, hI⟩ := hc i hi
  exact ⟨b, off, u, rfl, (hb.cell (block_lt hcell)).trans hcell, hI.below hb⟩
theorem IsL.nil (w : World) : IsL w (.slice none 0 0) [] :=
  ⟨none, 0, rfl, by simp, by simp [maxLen], fun i hi => by simp at hi⟩
/-- A line of axis x, from number k on: the first n numbers. -/
def lin (ds : List Nat) (x k n : Nat) : List Nat := (List.range n).map fun t => k + t * und ds x
theorem lin_length (ds : List Nat) (x k n : Nat) : (lin ds x k n).length = n := by simp [lin]
theorem lin_succ (ds : List Nat) (x k n : Nat) : lin ds x k (n + 1) = lin ds x k n ++ [k + n * und ds x] := by simp [lin, List.range_succ]
/-- The lines that begin ahead of number k. -/
def lns (ds : List Nat) (x : Nat) : Nat → List (List Nat)
  | 0 => []
  | k + 1 => if plc ds k x = 0 then lns ds x k ++ [lin ds x k (ds.getD x 0)] else lns ds x k
theorem lns_le (ds : List Nat) (x k : Nat) : (lns ds x k).length ≤ k := by
  induction k with
  | zero => simp [lns]
  | succ k ih => rw [lns]; split
                 · rw [List.length_append]; simp; omega
                 · omega

theorem Good_unique {zs : List Int} {ds ds' : List Nat} (h : Good zs ds) (h' : Good zs ds') : ds' = ds := by
  have e := h.2.2.1.symm.trans h'.2.2.1
  have e2 := congrArg (List.map Int.toNat) e
  rw [List.map_map, List.map_map] at e2
  have hid : (Int.toNat ∘ fun (d : Nat) => (d : Int)) = id := funext fun d => by simp
  rw [hid, List.map_id, List.map_id] at e2
  exact e2.symm
theorem ref_Shape_ok (w : World) (v : Value) (zs : List Int) (ds : List Nat) (h : IsZ w v zs) (hG : Good zs ds) (hn : prd2 ds ≤ 1024) :
    Calls Tryd.prog 54 #[v] w fun e w' => e = .returned (.tuple #[.int .i64 ((prd2 ds : Nat) : Int), .int .i64 0]) ∧ w' = w := by
  refine (ref_Shape w v zs h).mono ?_
  rintro e w' ⟨rfl, ⟨ds', hG', _, rfl⟩ | ⟨ds', hG', hb, _⟩ | ⟨hno, _⟩⟩
  · rw [Good_unique hG hG']; exact ⟨rfl, rfl⟩
  · rw [Good_unique hG hG'] at hb; omega
  · exact absurd hG (hno ds)

theorem below_dr {w w' : World} (h : ∃ m, w' = w.drewN m) (B : Nat) : Below B w w' := by
  obtain ⟨m, rfl⟩ := h
  exact below_drewN (Below.refl _ _) m
theorem IsI.block {w w' : World} {g l c : Nat} {xs : List Nat} (h : IsI w (.slice (some ⟨g, 0, none⟩) l c) xs) (e : w'.heap[g]? = w.heap[g]?) : IsI w' (.slice (some ⟨g, 0, none⟩) l c) xs := by
  obtain ⟨a, cap, hv, h1, h2, hc⟩ := h
  refine ⟨a, cap, hv, h1, h2, fun i hi => ?_⟩
  obtain ⟨b, off, rfl, hcell⟩ := hc i hi
  simp only [Value.slice.injEq, Option.some.injEq, Addr.mk.injEq, and_true] at hv
  obtain ⟨⟨rfl, rfl⟩, _⟩ := hv
  exact ⟨g, 0, rfl, (World.cell?_of_block (w := w) e).trans hcell⟩
/-- The slices vs, that lie in blocks from B on other than the one of u, read as the lists L. -/
def Inn (B : Nat) (w : World) (u : Value) (vs : List Value) (L : List (List Nat)) : Prop :=
  vs.length = L.length ∧ ∀ i, i < L.length → ∃ g cap, vs[i]? = some (.slice (some ⟨g, 0, none⟩) (L.getD i []).length cap) ∧ u.ownBlock ≠ some g ∧ g < w.heap.size ∧ B ≤ g ∧ IsI w (.slice (some ⟨g, 0, none⟩) (L.getD i []).length cap) (L.getD i [])
theorem Inn_nil (B : Nat) (w : World) (u : Value) : Inn B w u [] [] := ⟨rfl, fun i hi => by simp at hi⟩
theorem Inn.below {B : Nat} {w w' : World} {u : Value} {vs : List Value} {L : List (List Nat)} (h : Inn B w u vs L) (hb : Below w.heap.size w w') : Inn B w' u vs L := by
  refine ⟨h.1, fun i hi => ?_⟩
  obtain ⟨g, cap, h1, h2, h3, hB, h4⟩ := h.2 i hi
  exact ⟨g, cap, h1, h2, Nat.lt_of_lt_of_le h3 hb.size, hB, h4.below hb⟩
theorem Inn.grow {B : Nat} {w w' : World} {u u' : Value} {vs : List Value} {L : List (List Nat)} {g gl cap n c : Nat} {ls : List Nat} (h : Inn B w u vs L) (hu' : u' = .slice (some ⟨g, 0, none⟩) n c)
    (hk : ∀ b, b < w.heap.size → u.ownBlock ≠ some b → w'.heap[b]? = w.heap[b]?) (hat : u.ownBlock = some g ∨ w.heap.size < g) (hsz : w.heap.size ≤ w'.heap.size)
    (hl : IsI w (.slice (some ⟨gl, 0, none⟩) ls.length cap) ls) (hgl : gl < w.heap.size) (hBl : B ≤ gl) (hne : u.ownBlock ≠ some gl) : Inn B w' u' (vs ++ [.slice (some ⟨gl, 0, none⟩) ls.length cap]) (L ++ [ls]) := by
  have hap : ∀ b, b < w.heap.size → u.ownBlock ≠ some b → u'.ownBlock ≠ some b := by
    intro b hb hn e
    rw [hu'] at e
    simp only [Value.ownBlock, Option.some.injEq] at e
    subst e
    rcases hat with h1 | h1
    · exact hn h1
    · omega
  refine ⟨by simp [h.1], fun i hi => ?_⟩
  rw [List.length_append] at hi
  by_cases e : i < L.length
  · obtain ⟨b, c', h1, h2, h3, hB, h4⟩ := h.2 i e
    have e1 : (L ++ [ls]).getD i [] = L.getD i [] := by simp [List.getD, List.getElem?_append_left e]
    rw [e1]
    exact ⟨b, c', by rw [List.getElem?_append_left (by rw [h.1]; exact e)]; exact h1, hap b h3 h2, by omega, hB, h4.block (hk b h3 h2)⟩
  · have e2 : i = L.length := by simp at hi; omega
    subst e2
    have e1 : (L ++ [ls]).getD L.length [] = ls := by simp [List.getD]
    rw [e1]
    exact ⟨gl, cap, by rw [← h.1]; simp, hap gl hgl hne, by omega, hBl, hl.block (hk gl hgl hne)⟩
/-- A slice of slices of ints that lie in blocks from B on. -/
def IsLF (B : Nat) (w : World) (v : Value) (L : List (List Nat)) : Prop :=
  ∃ (a : Option Addr) (cap : Nat), v = .slice a L.length cap ∧ L.length ≤ cap ∧ cap ≤ maxLen ∧
    (∀ i, i < L.length → ∃ b off gl cl, a = some ⟨b, off, none⟩ ∧ B ≤ b ∧ B ≤ gl ∧ w.cell? ⟨b, off + i, none⟩ = some (.slice (some ⟨gl, 0, none⟩) (L.getD i []).length cl) ∧ IsI w (.slice (some ⟨gl, 0, none⟩) (L.getD i []).length cl) (L.getD i []))
theorem IsLF.isL {B : Nat} {w : World} {v : Value} {L : List (List Nat)} (h : IsLF B w v L) : IsL w v L := by
  obtain ⟨a, cap, rfl, h1, h2, hc⟩ := h
  refine ⟨a, cap, rfl, h1, h2, fun i hi => ?_⟩
  obtain ⟨b, off, gl, cl, rfl, _, _, hcell, hI⟩ := hc i hi
  exact ⟨b, off, _, rfl, hcell, hI⟩
theorem IsLF_of {w : World} {base n : Nat} {u : Value} {vs : List Value} {L : List (List Nat)} (h : w.ownsRow base 22 1 u n vs) (hi : Inn base w u vs L) : IsLF base w u L := by
  have h0 := h
  obtain ⟨hl, hv⟩ := h
  have hn : L.length = n := by rw [← hi.1, hl]; omega
  subst hn
  rcases hv with ⟨rfl, h2⟩ | ⟨g, cap, cur, rfl, hg, hh, hc, hm, hs, ht⟩
  · have : L = [] := List.eq_nil_of_length_eq_zero h2
    subst this
    exact ⟨none, 0, rfl, by simp, by simp [maxLen], fun i hi => by simp at hi⟩
  · refine ⟨some ⟨g, 0, none⟩, cap, rfl, hc, hm, fun i hil => ?_⟩
    obtain ⟨b, c', h1, h2, h3, hB, h4⟩ := hi.2 i hil
    refine ⟨g, 0, b, c', rfl, hg, hB, ?_, h4⟩
    rw [Nat.zero_add, h0.cellAt i (by omega), h1]
theorem owns_same {w w' : World} {base e size n g c : Nat} {xs : List Value} (h : w.ownsRow base e size (.slice (some ⟨g, 0, none⟩) n c) n xs) (e' : w'.heap[g]? = w.heap[g]?) : w'.ownsRow base e size (.slice (some ⟨g, 0, none⟩) n c) n xs := by
  refine ⟨h.1, ?_⟩
  rcases h.2 with h2 | ⟨g', cap, cur, hv, hg, hh, r⟩
  · exact Or.inl h2
  · have hv0 := hv
    simp only [Value.slice.injEq, Option.some.injEq, Addr.mk.injEq, and_true, true_and] at hv0
    obtain ⟨rfl, rfl⟩ := hv0
    exact Or.inr ⟨g, c, cur, rfl, hg, e'.trans hh, r⟩
theorem own_lt {w : World} {base e size n b : Nat} {v : Value} {xs : List Value} (h : w.ownsRow base e size v n xs) (hb : v.ownBlock = some b) : b < w.heap.size := by
  rcases h.2 with ⟨rfl, _⟩ | ⟨g, cap, cur, rfl, hg, hh, _⟩
  · simp [Value.ownBlock] at hb
  · simp only [Value.ownBlock, Option.some.injEq] at hb
    subst hb
    obtain ⟨hlt, _⟩ := Array.getElem?_eq_some_iff.1 hh
    exact hlt


end Go.Proofs.YtgkepflnnoociagDoor

/-! Slices of tasks that the call itself made: a task appended, a phase appended; what they read as. -/
namespace Go.Proofs.YtgkepflnnoociagDoor
open Go.RowKit


theorem info_task : (Tryd.prog.info? 51).map (fun i => (i.zero, i.size, i.bytes)) = some (some (.agg #[.int .i64 0, .int .i64 0, .int .i64 0]), 3, 24) := by kernel_rfl
theorem info_phase : (Tryd.prog.info? 62).map (fun i => (i.zero, i.size, i.bytes)) = some (some (.slice none 0 0), 1, 24) := by kernel_rfl
theorem info_3 {t : Nat} {z : Value} {s b : Nat} (h : (Tryd.prog.info? t).map (fun i => (i.zero, i.size, i.bytes)) = some (some z, s, b)) : ∃ i, Tryd.prog.info? t = some i ∧ i.zero = some z ∧ i.size = s ∧ i.bytes = b := by
  cases hi : Tryd.prog.info? t with
  | none => rw [hi] at h; cases h
  | some i =>
    rw [hi] at h
    simp only [Option.map_some, Option.some.injEq, Prod.mk.injEq] at h
    exact ⟨i, rfl, h.1, h.2.1, h.2.2⟩

theorem wp_appendT {ops : Array Oper} {rest : List Oper} {o : Oper} {a : Act} {Q : Exit → Act → World → Prop} {w w0 : World} (hgd : o.guard = none) (s x : Operand)
    (ho : o.op = .call { callee := .builtin .append, args := #[s, x], argTypes := #[62, 62] }) (v : Value) (n : Nat) (xs : List Value) (p q r : Int)
    (hs : a.eval s = v) (hown : w.ownsRow w0.heap.size 51 3 v n xs) (hx : a.eval x = .slice (some ⟨w.heap.size, 0, none⟩) 1 1)
    (hn : n ≤ 1000000) (hnx : Below w0.heap.size w0 w)
    (h : ∀ g cap w', w'.ownsRow w0.heap.size 51 3 (.slice (some ⟨g, 0, none⟩) (n + 1) cap) (n + 1) (xs ++ [.int .i64 p, .int .i64 q, .int .i64 r]) → Below w0.heap.size w0 w' → wpList Tryd.prog ops Q rest (a.put o.dst (.slice (some ⟨g, 0, none⟩) (n + 1) cap)) w') :
    wpList Tryd.prog ops Q (o :: rest) a (w.alloc (.cells #[.int .i64 p, .int .i64 q, .int .i64 r] 51)) := by
  obtain ⟨i0, hi, hz0, hz1, hz2⟩ := info_3 info_task
  have hsz := hnx.size
  refine wpList_append_lies _ hgd s x 62 ho w0.heap.size 51 i0 (.agg #[.int .i64 0, .int .i64 0, .int .i64 0]) 3 24 Tryd.underlying62 hi hz0 hz1 hz2 rfl (by decide) v n xs hs (hown.alloc _) ⟨w.heap.size, 0, none⟩ 1 1 [.int .i64 p, .int .i64 q, .int .i64 r] hx rfl ?_ ?_ (by decide) ?_ ?_ ?_ _ rfl ?_
  · exact World.news_of_block (heap_alloc_new w _)
  · intro u hu
    simp only [List.mem_cons, List.not_mem_nil, or_false] at hu
    rcases hu with rfl | rfl | rfl <;> rfl
  · unfold maxLen; omega
  · omega
  · simp; omega
  · intro g cap w' hown' hgrow _ _
    exact h g cap w' hown' ((hnx.alloc hsz _).grown hgrow (by simp; omega) (owns_block hown))

theorem wp_appendP {ops : Array Oper} {rest : List Oper} {o : Oper} {a : Act} {Q : Exit → Act → World → Prop} {w w0 : World} (hgd : o.guard = none) (s x : Operand)
    (ho : o.op = .call { callee := .builtin .append, args := #[s, x], argTypes := #[57, 57] }) (v : Value) (n : Nat) (xs : List Value) (p : Option Addr) (l c : Nat)
    (hs : a.eval s = v) (hown : w.ownsRow w0.heap.size 62 1 v n xs) (hx : a.eval x = .slice (some ⟨w.heap.size, 0, none⟩) 1 1)
    (hn : n ≤ 1000000) (hnx : Below w0.heap.size w0 w)
    (h : ∀ g cap w', w'.ownsRow w0.heap.size 62 1 (.slice (some ⟨g, 0, none⟩) (n + 1) cap) (n + 1) (xs ++ [.slice p l c]) → Below w0.heap.size w0 w' → (∀ b, b < w.heap.size → v.ownBlock ≠ some b → w'.heap[b]? = w.heap[b]?) → Hid (v.ownBlock = some g ∨ w.heap.size < g) → g < w'.heap.size → w.heap.size ≤ w'.heap.size → wpList Tryd.prog ops Q rest (a.put o.dst (.slice (some ⟨g, 0, none⟩) (n + 1) cap)) w') :
    wpList Tryd.prog ops Q (o :: rest) a (w.alloc (.cells #[.slice p l c] 62)) := by
  obtain ⟨i0, hi, hz0, hz1, hz2⟩ := info_3 info_phase
  have hsz := hnx.size
  refine wpList_append_lies _ hgd s x 57 ho w0.heap.size 62 i0 (.slice none 0 0) 1 24 Tryd.underlying57 hi hz0 hz1 hz2 rfl (by decide) v n xs hs (hown.alloc _) ⟨w.heap.size, 0, none⟩ 1 1 [.slice p l c] hx rfl ?_ ?_ (by decide) ?_ ?_ ?_ _ rfl ?_
  · exact World.news_of_block (heap_alloc_new w _)
  · intro u hu; simp at hu; subst hu; rfl
  · unfold maxLen; omega
  · omega
  · simp; omega
  · intro g cap w' hown' hgrow hat hlt
    have hal : (w.alloc (.cells #[.slice p l c] 62)).heap.size = w.heap.size + 1 := by simp
    refine h g cap w' hown' ((hnx.alloc hsz _).grown hgrow (by simp; omega) (owns_block hown)) (fun b hb hne => ?_) ?_ hlt ?_
    · rw [hgrow.block b (by rw [hal]; omega) (fun e => hne e.symm)]
      exact Below.heap_alloc _ _ _ hb
    · rcases hat with h1 | h1
      · exact .inl h1
      · exact .inr (by rw [h1, hal]; omega)
    · have := hgrow.size
      omega

theorem IsR.of_owns {w : World} {base e n : Nat} {v : Value} {T : List (List Int)} (h : w.ownsRow base e 3 v n (tc T)) (hT : T3 T) : IsR 3 w v T := by
  have h0 := h
  obtain ⟨hl, hv⟩ := h
  rw [tc_length hT] at hl
  have hn : T.length = n := by omega
  subst hn
  rcases hv with ⟨rfl, h2⟩ | ⟨g, cap, cur, rfl, hg, hh, hc, hm, hs, ht⟩
  · have : T = [] := List.eq_nil_of_length_eq_zero h2
    subst this
    exact IsR.nil 3 w
  · refine ⟨some ⟨g, 0, none⟩, cap, rfl, hc, hm, fun i hi => ⟨g, 0, rfl, fun j hj => ?_⟩, hT⟩
    rw [Nat.zero_add, h0.cellAt (i * 3 + j) (by omega), tc_get hT i j hi hj]
theorem IsR.block {k : Nat} {w w' : World} {g l c : Nat} {T : List (List Int)} (h : IsR k w (.slice (some ⟨g, 0, none⟩) l c) T) (e : w'.heap[g]? = w.heap[g]?) : IsR k w' (.slice (some ⟨g, 0, none⟩) l c) T := by
  obtain ⟨a, cap, hv, h1, h2, hc, hr⟩ := h
  refine ⟨a, cap, hv, h1, h2, fun i hi => ?_, hr⟩
  obtain ⟨b, off, rfl, hcell⟩ := hc i hi
  simp only [Value.slice.injEq, Option.some.injEq, Addr.mk.injEq, and_true] at hv
  obtain ⟨⟨rfl, rfl⟩, _⟩ := hv
  exact ⟨g, 0, rfl, fun j hj => (World.cell?_of_block (w := w) e).trans (hcell j hj)⟩
/-- The slices vs, that lie in blocks from B on other than the one of u, read as the phases L. -/
def InnT (B : Nat) (w : World) (u : Value) (vs : List Value) (L : List (List (List Int))) : Prop :=
  vs.length = L.length ∧ ∀ i, i < L.length → ∃ g cap, vs[i]? = some (.slice (some ⟨g, 0, none⟩) (L.getD i []).length cap) ∧ u.ownBlock ≠ some g ∧ g < w.heap.size ∧ B ≤ g ∧ IsR 3 w (.slice (some ⟨g, 0, none⟩) (L.getD i []).length cap) (L.getD i [])
theorem InnT_nil (B : Nat) (w : World) (u : Value) : InnT B w u [] [] := ⟨rfl, fun i hi => by simp at hi⟩
theorem InnT.below {B : Nat} {w w' : World} {u : Value} {vs : List Value} {L : List (List (List Int))} (h : InnT B w u vs L) (hb : Below w.heap.size w w') : InnT B w' u vs L := by
  refine ⟨h.1, fun i hi => ?_⟩
  obtain ⟨g, cap, h1, h2, h3, hB, h4⟩ := h.2 i hi
  exact ⟨g, cap, h1, h2, Nat.lt_of_lt_of_le h3 hb.size, hB, h4.below hb⟩
theorem InnT.grow {B : Nat} {w w' : World} {u u' : Value} {vs : List Value} {L : List (List (List Int))} {g gl cap n c : Nat} {ls : List (List Int)} (h : InnT B w u vs L) (hu' : u' = .slice (some ⟨g, 0, none⟩) n c)
    (hk : ∀ b, b < w.heap.size → u.ownBlock ≠ some b → w'.heap[b]? = w.heap[b]?) (hat : u.ownBlock = some g ∨ w.heap.size < g) (hsz : w.heap.size ≤ w'.heap.size)
    (hl : IsR 3 w (.slice (some ⟨gl, 0, none⟩) ls.length cap) ls) (hgl : gl < w.heap.size) (hBl : B ≤ gl) (hne : u.ownBlock ≠ some gl) : InnT B w' u' (vs ++ [.slice (some ⟨gl, 0, none⟩) ls.length cap]) (L ++ [ls]) := by
  have hap : ∀ b, b < w.heap.size → u.ownBlock ≠ some b → u'.ownBlock ≠ some b := by
    intro b hb hn e
    rw [hu'] at e
    simp only [Value.ownBlock, Option.some.injEq] at e
    subst e
    rcases hat with h1 | h1
    · exact hn h1
    · omega
  refine ⟨by simp [h.1], fun i hi => ?_⟩
  rw [List.length_append] at hi
  by_cases e : i < L.length
  · obtain ⟨b, c', h1, h2, h3, hB, h4⟩ := h.2 i e
    have e1 : (L ++ [ls]).getD i [] = L.getD i [] := by simp [List.getD, List.getElem?_append_left e]
    rw [e1]
    exact ⟨b, c', by rw [List.getElem?_append_left (by rw [h.1]; exact e)]; exact h1, hap b h3 h2, by omega, hB, h4.block (hk b h3 h2)⟩
  · have e2 : i = L.length := by simp at hi; omega
    subst e2
    have e1 : (L ++ [ls]).getD L.length [] = ls := by simp [List.getD]
    rw [e1]
    exact ⟨gl, cap, by rw [← h.1]; simp, hap gl hgl hne, by omega, hBl, hl.block (hk gl hgl hne)⟩
theorem IsP_of {w : World} {base n : Nat} {u : Value} {vs : List Value} {L : List (List (List Int))} (h : w.ownsRow base 62 1 u n vs) (hi : InnT base w u vs L) : IsP 3 w u L := by
  have h0 := h
  obtain ⟨hl, hv⟩ := h
  have hn : L.length = n := by rw [← hi.1, hl]; omega
  subst hn
  rcases hv with ⟨rfl, h2⟩ | ⟨g, cap, cur, rfl, hg, hh, hc, hm, hs, ht⟩
  · have : L = [] := List.eq_nil_of_length_eq_zero h2
    subst this
    exact IsP.nil 3 w
  · refine ⟨some ⟨g, 0, none⟩, cap, rfl, hc, hm, fun i hil => ?_⟩
    obtain ⟨b, c', h1, h2, h3, hB, h4⟩ := hi.2 i hil
    refine ⟨g, 0, _, rfl, ?_, h4⟩
    rw [Nat.zero_add, h0.cellAt i (by omega), h1]

/-- The first t tasks of c lines each; those of n lines. -/
def ful (x c t : Nat) : List (List Int) := (List.range t).map fun (s : Nat) => [(x : Int), ((s * c : Nat) : Int), (((s + 1) * c : Nat) : Int)]
def chn (x c n : Nat) : List (List Int) := if n = 0 then [] else ful x c ((n - 1) / c) ++ [[(x : Int), (((n - 1) / c * c : Nat) : Int), (n : Int)]]
theorem ful_length (x c t : Nat) : (ful x c t).length = t := by simp [ful]
theorem ful_succ (x c t : Nat) : ful x c (t + 1) = ful x c t ++ [[(x : Int), ((t * c : Nat) : Int), (((t + 1) * c : Nat) : Int)]] := by simp [ful, List.range_succ]
theorem chn_at (x c n t : Nat) (h1 : t * c < n) (h2 : n ≤ (t + 1) * c) : chn x c n = ful x c t ++ [[(x : Int), ((t * c : Nat) : Int), (n : Int)]] := by
  unfold chn
  rw [if_neg (by omega)]
  have e : (n - 1) / c = t := by
    rw [Nat.div_eq_iff (Nat.pos_of_ne_zero (fun h => by subst h; omega))]
    rw [Nat.add_mul, Nat.one_mul] at h2
    omega
  rw [e]
theorem ful_T3 (x c t n : Nat) (hx : x ≤ 1024) (hn : t * c ≤ n) (h9 : n ≤ 1024) : T3 (ful x c t) := by
  intro r hr
  obtain ⟨s, hs, rfl⟩ := List.mem_map.mp hr
  have hs' := List.mem_range.mp hs
  have h1 : (s + 1) * c ≤ t * c := Nat.mul_le_mul_right _ hs'
  have h2 : s * c ≤ (s + 1) * c := Nat.mul_le_mul_right _ (by omega)
  refine ⟨rfl, fun z hz => ?_⟩
  simp only [List.mem_cons, List.not_mem_nil, or_false] at hz
  rcases hz with rfl | rfl | rfl <;> omega

end Go.Proofs.YtgkepflnnoociagDoor

/-! A list of lists in a variable that a closure holds: the closure of ListsOwn appends to it. -/
namespace Go.Proofs.YtgkepflnnoociagDoor
open Go.RowKit

theorem info_ls : (Tryd.prog.info? 23).map (fun i => (i.zero, i.size, i.bytes)) = some (some (.slice none 0 0), 1, 24) := by kernel_rfl

theorem wp_appendL {ops : Array Oper} {rest : List Oper} {o : Oper} {a : Act} {Q : Exit → Act → World → Prop} {w w0 : World} (hgd : o.guard = none) (s x : Operand)
    (ho : o.op = .call { callee := .builtin .append, args := #[s, x], argTypes := #[42, 42] }) (v : Value) (n : Nat) (xs : List Value) (p : Option Addr) (l c : Nat)
    (hs : a.eval s = v) (hown : w.ownsRow w0.heap.size 23 1 v n xs) (hx : a.eval x = .slice (some ⟨w.heap.size, 0, none⟩) 1 1)
    (hn : n ≤ 1000000) (hnx : Below w0.heap.size w0 w)
    (h : ∀ g cap w', w'.ownsRow w0.heap.size 23 1 (.slice (some ⟨g, 0, none⟩) (n + 1) cap) (n + 1) (xs ++ [.slice p l c]) → Below w0.heap.size w0 w' → (∀ b, b < w.heap.size → v.ownBlock ≠ some b → w'.heap[b]? = w.heap[b]?) → wpList Tryd.prog ops Q rest (a.put o.dst (.slice (some ⟨g, 0, none⟩) (n + 1) cap)) w') :
    wpList Tryd.prog ops Q (o :: rest) a (w.alloc (.cells #[.slice p l c] 23)) := by
  obtain ⟨i0, hi, hz0, hz1, hz2⟩ := info_3 info_ls
  have hsz := hnx.size
  refine wpList_append_lies _ hgd s x 42 ho w0.heap.size 23 i0 (.slice none 0 0) 1 24 Tryd.underlying42 hi hz0 hz1 hz2 rfl (by decide) v n xs hs (hown.alloc _) ⟨w.heap.size, 0, none⟩ 1 1 [.slice p l c] hx rfl ?_ ?_ (by decide) ?_ ?_ ?_ _ rfl ?_
  · exact World.news_of_block (heap_alloc_new w _)
  · intro u hu; simp at hu; subst hu; rfl
  · unfold maxLen; omega
  · omega
  · simp; omega
  · intro g cap w' hown' hgrow hat hlt
    have hal : (w.alloc (.cells #[.slice p l c] 23)).heap.size = w.heap.size + 1 := by simp
    refine h g cap w' hown' ((hnx.alloc hsz _).grown hgrow (by simp; omega) (owns_block hown)) (fun b hb hne => ?_)
    rw [hgrow.block b (by rw [hal]; omega) (fun e => hne e.symm)]
    exact Below.heap_alloc _ _ _ hb

theorem wp_appendL2 {ops : Array Oper} {rest : List Oper} {o : Oper} {a : Act} {Q : Exit → Act → World → Prop} {w w0 : World} (hgd : o.guard = none) (s x : Operand)
    (ho : o.op = .call { callee := .builtin .append, args := #[s, x], argTypes := #[42, 42] }) (v : Value) (n : Nat) (xs : List Value) (p : Option Addr) (l c : Nat) (p' : Option Addr) (l' c' : Nat)
    (hs : a.eval s = v) (hown : w.ownsRow w0.heap.size 23 1 v n xs) (hx : a.eval x = .slice (some ⟨w.heap.size, 0, none⟩) 2 2)
    (hn : n ≤ 1000000) (hnx : Below w0.heap.size w0 w)
    (h : ∀ g cap w', w'.ownsRow w0.heap.size 23 1 (.slice (some ⟨g, 0, none⟩) (n + 2) cap) (n + 2) (xs ++ [.slice p l c, .slice p' l' c']) → Below w0.heap.size w0 w' → (∀ b, b < w.heap.size → v.ownBlock ≠ some b → w'.heap[b]? = w.heap[b]?) → wpList Tryd.prog ops Q rest (a.put o.dst (.slice (some ⟨g, 0, none⟩) (n + 2) cap)) w') :
    wpList Tryd.prog ops Q (o :: rest) a (w.alloc (.cells #[.slice p l c, .slice p' l' c'] 23)) := by
  obtain ⟨i0, hi, hz0, hz1, hz2⟩ := info_3 info_ls
  have hsz := hnx.size
  refine wpList_append_lies _ hgd s x 42 ho w0.heap.size 23 i0 (.slice none 0 0) 1 24 Tryd.underlying42 hi hz0 hz1 hz2 rfl (by decide) v n xs hs (hown.alloc _) ⟨w.heap.size, 0, none⟩ 2 2 [.slice p l c, .slice p' l' c'] hx rfl ?_ ?_ (by decide) ?_ ?_ ?_ _ rfl ?_
  · exact World.news_of_block (heap_alloc_new w _)
  · intro u hu; simp only [List.mem_cons, List.not_mem_nil, or_false] at hu; rcases hu with rfl | rfl <;> rfl
  · unfold maxLen; omega
  · omega
  · simp; omega
  · intro g cap w' hown' hgrow hat hlt
    have hal : (w.alloc (.cells #[.slice p l c, .slice p' l' c'] 23)).heap.size = w.heap.size + 1 := by simp
    refine h g cap w' hown' ((hnx.alloc hsz _).grown hgrow (by simp; omega) (owns_block hown)) (fun b hb hne => ?_)
    rw [hgrow.block b (by rw [hal]; omega) (fun e => hne e.symm)]
    exact Below.heap_alloc _ _ _ hb

/-- All that was told so far: the variable's block, the lists in it, each in new memory; whatever lay there at w0 lies as it lay. -/
structure Outs (w0 : World) (Bx : Nat) (w : World) (vs : List Value) : Prop where
  box : ∃ v, w.heap[Bx]? = some (.cells #[v] 42 (0, 0)) ∧ w.ownsRow w0.heap.size 23 1 v vs.length vs
  each : ∀ u ∈ vs, NewU w0.heap.size w u
  past : w0.heap.size ≤ Bx
  keeps : Below w0.heap.size w0 w
theorem Outs.below {w0 w w' : World} {Bx : Nat} {vs : List Value} (h : Outs w0 Bx w vs) (hb : Below w.heap.size w w') : Outs w0 Bx w' vs := by
  obtain ⟨⟨v, h1, h2⟩, h3, h4, h5⟩ := h
  exact ⟨⟨v, (hb.block Bx (lt_of_block h1)).trans h1, owns_below h2 hb⟩, fun u hu => (h3 u hu).below hb, h4, h5.trans (hb.mono h5.size)⟩
theorem Outs.same {w0 w w' : World} {Bx : Nat} {vs : List Value} (h : Outs w0 Bx w vs) (hs : Same w w') : ∀ u ∈ vs, NewU w0.heap.size w' u := fun u hu => (h.each u hu).same hs

theorem owns_type {w : World} {B e k n b t : Nat} {v : Value} {xs : List Value} {cs : Array Value} {fr : Nat × Nat} (h : w.ownsRow B e k v n xs) (hb : w.heap[b]? = some (.cells cs t fr)) (hne : t ≠ e) : v.ownBlock ≠ some b := fun hv => by
  rcases h.2 with ⟨rfl, _⟩ | ⟨g, cap, cur, rfl, _, hh, _⟩
  · cases hv
  · have e2 : g = b := Option.some.inj hv
    subst e2
    rw [hh] at hb
    simp only [Option.some.injEq, Obj.cells.injEq] at hb
    exact hne hb.2.1.symm
theorem Outs.add {w0 w w2 : World} {Bx g cap : Nat} {vs : List Value} {v u : Value} (h1 : w.heap[Bx]? = some (.cells #[v] 42 (0, 0))) (h2 : w.ownsRow w0.heap.size 23 1 v vs.length vs) (h3 : ∀ u ∈ vs, NewU w0.heap.size w u) (h4 : w0.heap.size ≤ Bx) (hu : NewU w0.heap.size w u)
    (hown : w2.ownsRow w0.heap.size 23 1 (.slice (some ⟨g, 0, none⟩) (vs.length + 1) cap) (vs.length + 1) (vs ++ [u])) (hb2 : Below w0.heap.size w0 w2) (hkeep : ∀ b, b < w.heap.size → v.ownBlock ≠ some b → w2.heap[b]? = w.heap[b]?) :
    w2.heap[Bx]? = some (.cells #[v] 42 (0, 0)) ∧ Outs w0 Bx (w2.setCell ⟨Bx, 0, none⟩ (.slice (some ⟨g, 0, none⟩) (vs.length + 1) cap)) (vs ++ [u]) := by
  have hbx : w2.heap[Bx]? = some (.cells #[v] 42 (0, 0)) := (hkeep Bx (lt_of_block h1) (owns_type h2 h1 (by decide))).trans h1
  have hsm : Same w (w2.setCell ⟨Bx, 0, none⟩ (.slice (some ⟨g, 0, none⟩) (vs.length + 1) cap)) := Same.set (fun b cs hb => ⟨cs, (hkeep b (lt_of_block hb) (owns_type h2 hb (by decide))).trans hb, rfl⟩) _ _ _
  refine ⟨hbx, ⟨_, one_setCell hbx, ?_⟩, ?_, h4, hb2.setCell (p := ⟨Bx, 0, none⟩) h4 _⟩
  · rw [List.length_append, List.length_singleton]
    exact ownsRow_setCell_other hown (owns_type hown hbx (by decide)) _
  · intro z hz
    rcases List.mem_append.mp hz with hz | hz
    · exact (h3 z hz).same hsm
    · rw [List.mem_singleton.mp hz]
      exact hu.same hsm

theorem Outs.add2 {w0 w w2 : World} {Bx g cap : Nat} {vs : List Value} {v u u' : Value} (h1 : w.heap[Bx]? = some (.cells #[v] 42 (0, 0))) (h2 : w.ownsRow w0.heap.size 23 1 v vs.length vs) (h3 : ∀ u ∈ vs, NewU w0.heap.size w u) (h4 : w0.heap.size ≤ Bx) (hu : NewU w0.heap.size w u) (hu' : NewU w0.heap.size w u')
    (hown : w2.ownsRow w0.heap.size 23 1 (.slice (some ⟨g, 0, none⟩) (vs.length + 2) cap) (vs.length + 2) (vs ++ [u, u'])) (hb2 : Below w0.heap.size w0 w2) (hkeep : ∀ b, b < w.heap.size → v.ownBlock ≠ some b → w2.heap[b]? = w.heap[b]?) :
    w2.heap[Bx]? = some (.cells #[v] 42 (0, 0)) ∧ Outs w0 Bx (w2.setCell ⟨Bx, 0, none⟩ (.slice (some ⟨g, 0, none⟩) (vs.length + 2) cap)) (vs ++ [u, u']) := by
  have hbx : w2.heap[Bx]? = some (.cells #[v] 42 (0, 0)) := (hkeep Bx (lt_of_block h1) (owns_type h2 h1 (by decide))).trans h1
  have hsm : Same w (w2.setCell ⟨Bx, 0, none⟩ (.slice (some ⟨g, 0, none⟩) (vs.length + 2) cap)) := Same.set (fun b cs hb => ⟨cs, (hkeep b (lt_of_block hb) (owns_type h2 hb (by decide))).trans hb, rfl⟩) _ _ _
  refine ⟨hbx, ⟨_, one_setCell hbx, ?_⟩, ?_, h4, hb2.setCell (p := ⟨Bx, 0, none⟩) h4 _⟩
  · rw [List.length_append, show [u, u'].length = 2 from rfl]
    exact ownsRow_setCell_other hown (owns_type hown hbx (by decide)) _
  · intro z hz
    rcases List.mem_append.mp hz with hz | hz
    · exact (h3 z hz).same hsm
    · simp only [List.mem_cons, List.not_mem_nil, or_false] at hz
      rcases hz with rfl | rfl
      · exact hu.same hsm
      · exact hu'.same hsm

set_option maxHeartbeats 1000000 in
theorem own_add (w0 w : World) (Bx : Nat) (vs : List Value) (p : Option Addr) (l c : Nat) (e : Int) (h : Outs w0 Bx w vs) (hu : NewU w0.heap.size w (.slice p l c)) (hn : vs.length ≤ 1000) :
    Calls Tryd.prog 19 #[.slice p l c, .int .i64 e, .pointer (some ⟨Bx, 0, none⟩)] w fun e w' => e = .returned (.tuple #[]) ∧ Outs w0 Bx w' (vs ++ [.slice p l c]) := by
  obtain ⟨⟨v, h1, h2⟩, h3, h4, h5⟩ := h
  have hcl := cell_of_one h1
  have hn6 : vs.length ≤ 1000000 := by omega
  go_enter Tryd.func19, Tryd.ntmps19
  go_wp2_with (first
    | (at_builtin; refine wp_appendL rfl _ _ rfl v _ _ p l c rfl h2 rfl hn6 h5 ?_; intro g cap w2 hown2 hb2 hkeep; obtain ⟨hbx, hO⟩ := Outs.add h1 h2 h3 h4 hu hown2 hb2 hkeep; replace hO : Hid _ := hO; have hcl2 := cell_of_one hbx; have hfr2 := free_of_one hbx; clear hkeep hown2 hcl))
  go_end0
  exact ⟨rfl, hO.out⟩

/-- So many lists were told so far. -/
def OutsN (w0 : World) (Bx : Nat) (w : World) (m : Nat) : Prop := ∃ vs : List Value, vs.length = m ∧ Outs w0 Bx w vs
theorem OutsN.below {w0 w w' : World} {Bx m : Nat} (h : OutsN w0 Bx w m) (hb : Below w.heap.size w w') : OutsN w0 Bx w' m := by
  obtain ⟨vs, h1, h2⟩ := h
  exact ⟨vs, h1, h2.below hb⟩
theorem OutsN.keeps {w0 w : World} {Bx m : Nat} (h : OutsN w0 Bx w m) : Below w0.heap.size w0 w := by
  obtain ⟨vs, _, h2⟩ := h
  exact h2.keeps
theorem OutsN.start (w0 : World) : OutsN w0 w0.heap.size (w0.alloc (.cells #[.slice none 0 0] 42)) 0 :=
  ⟨[], rfl, ⟨⟨_, heap_alloc_new w0 _, World.ownsRow_nil _ _ _ _⟩, fun u hu => (by cases hu), Nat.le_refl _, below_alloc1 _ _⟩⟩
theorem own_addN (w0 w : World) (Bx m : Nat) (p : Option Addr) (l c : Nat) (e : Int) (h : OutsN w0 Bx w m) (hu : NewU w0.heap.size w (.slice p l c)) (hn : m ≤ 1000) :
    Calls Tryd.prog 19 #[.slice p l c, .int .i64 e, .pointer (some ⟨Bx, 0, none⟩)] w fun e w' => e = .returned (.tuple #[]) ∧ OutsN w0 Bx w' (m + 1) := by
  obtain ⟨vs, h1, h2⟩ := h
  refine (own_add w0 w Bx vs p l c e h2 hu (by omega)).mono ?_
  rintro e w' ⟨rfl, h⟩
  exact ⟨rfl, _, by rw [List.length_append, h1]; rfl, h⟩
/-- A list is told, in new memory, with some error. -/
def Tells (W : World) (e : Ending) (w' : World) : Prop := ∃ p l c z, e = .returned (.tuple #[.slice p l c, .int .i64 z]) ∧ NewU W.heap.size w' (.slice p l c) ∧ Below W.heap.size W w'
theorem NewU.slice {B : Nat} {w : World} {v : Value} (h : NewU B w v) : ∃ p l c, v = .slice p l c := by
  rcases h with h | ⟨g, off, n, cap, cs, e, _⟩
  · exact ⟨_, _, _, h⟩
  · exact ⟨_, _, _, e⟩
theorem Tells.of {W w' : World} {e : Ending} {z : Int} (h : ∃ u, e = .returned (.tuple #[u, .int .i64 z]) ∧ NewU W.heap.size w' u ∧ Below W.heap.size W w') : Tells W e w' := by
  obtain ⟨u, rfl, h1, h2⟩ := h
  obtain ⟨p, l, c, rfl⟩ := h1.slice
  exact ⟨p, l, c, z, rfl, h1, h2⟩
theorem Tells.ofU {W w' : World} {e : Ending} {z : Int} {xs : List Nat} (h : ∃ u, e = .returned (.tuple #[u, .int .i64 z]) ∧ IsU w' u xs ∧ NewU W.heap.size w' u ∧ Below W.heap.size W w') : Tells W e w' := by
  obtain ⟨u, h0, _, h1⟩ := h
  exact Tells.of ⟨u, h0, h1⟩

end Go.Proofs.YtgkepflnnoociagDoor
