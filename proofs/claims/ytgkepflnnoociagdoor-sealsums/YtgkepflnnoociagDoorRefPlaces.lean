/-
  What Places and Place of package goldref answer: the places of a number of an array, and back.
-/
import Derived.Test.YtgkepflnnoociagDoorRefShape
import Derived.Test.YtgkepflnnoociagDoorSlAppI
import Derived.BigQuiet
import Derived.Deep.RegionWith
namespace Go.Proofs.YtgkepflnnoociagDoor
open Go.RowKit

/-- How many numbers one step of axis i goes over; of the axes up to j. -/
def und (ds : List Nat) (i : Nat) : Nat := prd2 (ds.drop (i + 1))
def undK (ds : List Nat) (i j : Nat) : Nat := prd2 ((ds.drop (i + 1)).take (j - (i + 1)))
/-- The places of number k. -/
def plc (ds : List Nat) (k i : Nat) : Nat := k / und ds i % ds.getD i 0
def plcs (ds : List Nat) (k n : Nat) : List Nat := (List.range n).map (plc ds k)
theorem plcs_length (ds : List Nat) (k n : Nat) : (plcs ds k n).length = n := by simp [plcs]
theorem plcs_succ (ds : List Nat) (k n : Nat) : plcs ds k (n + 1) = plcs ds k n ++ [plc ds k n] := by
  simp [plcs, List.range_succ]
theorem undK_start (ds : List Nat) (i : Nat) : undK ds i (i + 1) = 1 := by simp [undK, prd2]
theorem undK_step (ds : List Nat) (i j : Nat) (h1 : i + 1 ≤ j) (h2 : j < ds.length) : undK ds i (j + 1) = undK ds i j * ds.getD j 0 := by
  unfold undK
  rw [show j + 1 - (i + 1) = j - (i + 1) + 1 by omega, prd2_take _ _ (by rw [List.length_drop]; omega)]
  congr 1
  simp [List.getD, List.getElem?_drop, show i + 1 + (j - (i + 1)) = j by omega]
theorem undK_end (ds : List Nat) (i : Nat) : undK ds i ds.length = und ds i := by
  unfold undK und
  rw [List.take_of_length_le (by rw [List.length_drop]; omega)]
theorem undK_le {ds : List Nat} (hp : ∀ d ∈ ds, 0 < d) (i j : Nat) : undK ds i j ≤ prd2 ds := by
  unfold undK
  refine Nat.le_trans (prd2_take_le (fun d hd => hp d (List.mem_of_mem_drop hd)) _) ?_
  rw [prd2_split ds (i + 1)]
  exact Nat.le_mul_of_pos_left _ (prd2_pos fun d hd => hp d (List.mem_of_mem_take hd))
theorem undK_pos {ds : List Nat} (hp : ∀ d ∈ ds, 0 < d) (i j : Nat) : 0 < undK ds i j :=
  prd2_pos fun d hd => hp d (List.mem_of_mem_drop (List.mem_of_mem_take hd))

def rowP (ds : List Nat) (k n : Nat) : List Value := cellsI (plcs ds k n)
theorem rowP_succ (ds : List Nat) (k n : Nat) : rowP ds k (n + 1) = rowP ds k n ++ [.int .i64 ((plc ds k n : Nat) : Int)] := by
  unfold rowP; rw [plcs_succ, cellsI_append]; rfl


/-- The number at places p, the first n axes. -/
def plf (ds p : List Nat) : Nat → Nat
  | 0 => 0
  | n + 1 => plf ds p n * ds.getD n 0 + p.getD n 0
theorem plf_le (ds p : List Nat) (hd : ∀ i, ds.getD i 0 ≤ 1024) (hp : ∀ i, p.getD i 0 ≤ 1024) (n : Nat) : plf ds p n + 1 ≤ 1025 ^ n := by
  induction n with
  | zero => simp [plf]
  | succ n ih =>
    rw [plf, Nat.pow_succ]
    have h1 : plf ds p n * ds.getD n 0 ≤ plf ds p n * 1024 := Nat.mul_le_mul_left _ (hd n)
    have h2 := hp n
    omega
theorem drop_prd (ds : List Nat) (n : Nat) (h : n < ds.length) : prd2 (ds.drop n) = ds.getD n 0 * und ds n := by
  rw [List.drop_eq_getElem_cons h, prd2, und]
  simp [List.getD, h]
/-- The places of k make k. -/
theorem plf_plcs (ds : List Nat) (k : Nat) (hpos : ∀ d ∈ ds, 0 < d) (hk : k < prd2 ds) (n : Nat) (hn : n ≤ ds.length) : plf ds (plcs ds k ds.length) n = k / prd2 (ds.drop n) := by
  induction n with
  | zero => rw [plf, List.drop_zero, Nat.div_eq_of_lt hk]
  | succ n ih =>
    have hu : 0 < und ds n := prd2_pos fun d hd => hpos d (List.mem_of_mem_drop hd)
    rw [plf, ih (by omega), drop_prd ds n (by omega), Nat.mul_comm (ds.getD n 0), ← Nat.div_div_eq_div_mul]
    have e : (plcs ds k ds.length).getD n 0 = k / und ds n % ds.getD n 0 := by simp [plcs, List.getD, show n < ds.length by omega, plc]
    rw [e]
    show _ = k / und ds n
    rw [Nat.mul_comm]
    exact Nat.div_add_mod _ _
theorem plf_set (ds : List Nat) (k : Nat) (hpos : ∀ d ∈ ds, 0 < d) (hk : k < prd2 ds) (x t : Nat) (hx : x < ds.length) (h0 : plc ds k x = 0) (n : Nat) (hn : n ≤ ds.length) :
    plf ds ((plcs ds k ds.length).set x t) n = k / prd2 (ds.drop n) + (if x < n then t * undK ds x n else 0) := by
  induction n with
  | zero => rw [plf, List.drop_zero, Nat.div_eq_of_lt hk, if_neg (by omega)]
  | succ n ih =>
    have ih' := ih (by omega)
    have hs := plf_plcs ds k hpos hk (n + 1) hn
    have hs0 := plf_plcs ds k hpos hk n (by omega)
    rw [plf, hs0] at hs
    rw [plf, ih']
    by_cases e : n = x
    · subst e
      have e1 : ((plcs ds k ds.length).set n t).getD n 0 = t := by simp [List.getD, plcs_length, hx]
      have e2 : (plcs ds k ds.length).getD n 0 = 0 := by simp [plcs, List.getD, hx, h0]
      rw [e2] at hs
      rw [e1, if_neg (by omega), if_pos (by omega), undK_start, Nat.add_zero, Nat.mul_one, ← hs, Nat.add_zero]
    · have e1 : ((plcs ds k ds.length).set x t).getD n 0 = (plcs ds k ds.length).getD n 0 := by simp [List.getD, Ne.symm e]
      rw [e1]
      by_cases h1 : x < n
      · rw [if_pos h1, if_pos (by omega), undK_step ds x n (by omega) (by omega), ← hs, Nat.add_mul, Nat.mul_assoc]
        omega
      · rw [if_neg h1, if_neg (by omega), Nat.add_zero, Nat.add_zero]; exact hs
/-- Along axis x from number k on, whose place there is 0. -/
theorem plf_line (ds : List Nat) (k : Nat) (hpos : ∀ d ∈ ds, 0 < d) (hk : k < prd2 ds) (x t : Nat) (hx : x < ds.length) (h0 : plc ds k x = 0) : plf ds ((plcs ds k ds.length).set x t) ds.length = k + t * und ds x := by
  rw [plf_set ds k hpos hk x t hx h0 _ (Nat.le_refl _), if_pos hx, undK_end, List.drop_length, prd2, Nat.div_one]


end Go.Proofs.YtgkepflnnoociagDoor
