/-
  Package big's contracts as functions of the texts.
-/
import Derived.Test.YtndmhceampggmafDoorBigC
namespace Go.Proofs.YtndmhceampggmafDoor
open Go.RowKit

open Classical in
/-- The number that a text tells. -/
noncomputable def num (s : ByteArray) : Nat := if h : ∃ ds, Gs s ds then val (Classical.choose h) else 0
theorem num_of {s : ByteArray} {a : List Nat} (h : Gs s a) : num s = val a := by
  have hex : ∃ ds, Gs s ds := ⟨a, h⟩
  unfold num
  rw [dif_pos hex]
  exact (Classical.choose_spec hex).one' h
noncomputable def cmpX (s t : ByteArray) : Int := if gchk2 s t = 0 then cmpN (num s) (num t) else 0
noncomputable def addX (s t : ByteArray) : ByteArray := if gchk2 s t = 0 then txtN (num s + num t) else ⟨#[]⟩
noncomputable def mulX (s t : ByteArray) : ByteArray := if gchk2 s t = 0 then txtN (num s * num t) else ⟨#[]⟩
theorem gchk2_zero {s t : ByteArray} (h : gchk2 s t = 0) : (∃ a, Gd s a) ∧ ∃ b, Gd t b := by
  unfold gchk2 at h
  split at h
  · next h1 => exact ⟨gchk_zero h1, gchk_zero h⟩
  · next h1 => exact absurd h h1
theorem gchk2_ok {s t : ByteArray} {a b : List Nat} (ha : Gd s a) (hb : Gd t b) : gchk2 s t = 0 := by
  unfold gchk2
  rw [if_pos (gchk_ok ha)]
  exact gchk_ok hb
theorem big_Cmp (w : World) (s t : ByteArray) (hTb : Tab w) :
    Calls Tryd.prog 26 #[.string s, .string t] w fun e w' => e = .returned (.tuple #[.int .i64 (cmpX s t), .int .i64 (gchk2 s t)]) ∧ Below w.heap.size w w' := by
  by_cases h : gchk2 s t = 0
  · obtain ⟨⟨a, ha⟩, b, hb⟩ := gchk2_zero h
    have e : cmpX s t = cmpN (val a) (val b) := by unfold cmpX; rw [if_pos h, num_of ha.1, num_of hb.1]
    rw [e, h]; exact big_Cmp_ok w s t a b ha hb hTb
  · have e : cmpX s t = 0 := by unfold cmpX; rw [if_neg h]
    rw [e]; exact big_Cmp_bad w s t h hTb
theorem big_Add (w : World) (s t : ByteArray) (hTb : Tab w) :
    Calls Tryd.prog 24 #[.string s, .string t] w fun e w' => e = .returned (.tuple #[.string (addX s t), .int .i64 (gchk2 s t)]) ∧ Below w.heap.size w w' := by
  by_cases h : gchk2 s t = 0
  · obtain ⟨⟨a, ha⟩, b, hb⟩ := gchk2_zero h
    have e : addX s t = txtN (val a + val b) := by unfold addX; rw [if_pos h, num_of ha.1, num_of hb.1]
    rw [e, h]
    refine (big_Add_ok w s t a b ha hb hTb).mono ?_
    rintro e w' ⟨c, rfl, h1, h2, h3⟩
    rw [dgs_of h1 h2]; exact ⟨rfl, h3⟩
  · have e : addX s t = ⟨#[]⟩ := by unfold addX; rw [if_neg h]
    rw [e]; exact big_Add_bad w s t h hTb
theorem big_Mul (w : World) (s t : ByteArray) (hTb : Tab w) :
    Calls Tryd.prog 22 #[.string s, .string t] w fun e w' => e = .returned (.tuple #[.string (mulX s t), .int .i64 (gchk2 s t)]) ∧ Below w.heap.size w w' := by
  by_cases h : gchk2 s t = 0
  · obtain ⟨⟨a, ha⟩, b, hb⟩ := gchk2_zero h
    have e : mulX s t = txtN (val a * val b) := by unfold mulX; rw [if_pos h, num_of ha.1, num_of hb.1]
    rw [e, h]
    refine (big_Mul_ok w s t a b ha hb hTb).mono ?_
    rintro e w' ⟨c, rfl, h1, h2, h3⟩
    rw [dgs_of h1 h2]; exact ⟨rfl, h3⟩
  · have e : mulX s t = ⟨#[]⟩ := by unfold mulX; rw [if_neg h]
    rw [e]; exact big_Mul_bad w s t h hTb
theorem txt_size (n : Nat) : (txtN n).size = (dgs n).length := (txt_gs n).size
/-- A number below 10^k has at most k digits. -/
theorem txt_gd {n k : Nat} (hk : 1 ≤ k) (h9 : k ≤ 2000) (h : n < 10 ^ k) : Gd (txtN n) (dgs n) := ⟨txt_gs n, Nat.le_trans ((dgs_gt n).len hk (by rw [dgs_val]; exact h)) h9⟩
theorem num_txt (n : Nat) : num (txtN n) = n := by rw [num_of (txt_gs n), dgs_val]
theorem Gd.lt {s : ByteArray} {a : List Nat} (h : Gd s a) {k : Nat} (hk : s.size ≤ k) : num s < 10 ^ k := by
  rw [num_of h.1]
  have h1 := dval_lt h.1.1.1
  have := pow_mono (show a.length ≤ k by rw [← h.1.size]; exact hk)
  omega
theorem gd_sum {s u : ByteArray} {a c : List Nat} (ha : Gd s a) (hc : Gd u c) {k : Nat} (l1 : s.size ≤ k) (l2 : u.size ≤ k) (hk : k + 1 ≤ 2000) : Gd (txtN (num s + num u)) (dgs (num s + num u)) := by
  have p1 := ha.lt l1
  have p2 := hc.lt l2
  exact txt_gd (k := k + 1) (by omega) hk (by rw [Nat.pow_succ]; omega)
theorem gd_prod {s u : ByteArray} {a c : List Nat} (ha : Gd s a) (hc : Gd u c) {k j : Nat} (l1 : s.size ≤ k) (l2 : u.size ≤ j) (hk : k + j ≤ 2000) (h1 : 1 ≤ k) : Gd (txtN (num s * num u)) (dgs (num s * num u)) := by
  have p1 := ha.lt l1
  have p2 := hc.lt l2
  refine txt_gd (k := k + j) (by omega) hk ?_
  rw [Nat.pow_add]
  calc num s * num u ≤ num s * 10 ^ j := Nat.mul_le_mul_left _ (by omega)
    _ < 10 ^ k * 10 ^ j := Nat.mul_lt_mul_of_pos_right p1 (pow_pos10 _)
theorem gd_size {n k : Nat} (hk : 1 ≤ k) (h : n < 10 ^ k) : (txtN n).size ≤ k := by rw [txt_size]; exact (dgs_gt n).len hk (by rw [dgs_val]; exact h)
theorem cmpN_add (x y z : Nat) : cmpN (x + z) (y + z) = cmpN x y := by
  unfold cmpN
  simp only [Nat.add_lt_add_iff_right, Nat.add_right_cancel_iff]
theorem eqT {s t : ByteArray} {a b : List Nat} (ha : Gd s a) (hb : Gd t b) : (s.toList == t.toList) = decide (num s = num t) := by
  rw [num_of ha.1, num_of hb.1]; exact ha.1.eqv hb.1

end Go.Proofs.YtndmhceampggmafDoor
