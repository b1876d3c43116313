/-
  Products round the end: their numbers, and their transforms; no program in sight.
-/
import Derived.Test.YtgfnjbkhncjhhabDoorNttM
import Derived.Test.YtgfnjbkhncjhhabDoorPolyB
namespace Go.Proofs.YtgfnjbkhncjhhabDoor

/-- Number k of a product round the end; of a skew one. -/
def rnd (xs ys : List Nat) (skew : Bool) (k : Nat) : F := if skew then conv (cf xs) (cf ys) k - conv (cf xs) (cf ys) (k + xs.length) else conv (cf xs) (cf ys) k + conv (cf xs) (cf ys) (k + xs.length)
theorem gf_map (a : List Nat) : gf (a.map toF) = cf a := funext fun i => (cf_gf a i).symm
/-- CONVOLUTION: the transform of a product round the end is the product of transforms. -/
theorem rnd_fw (A B : List Nat) (k : Nat) (hk : k ≤ 32) (hA : A.length = 2 ^ k) (hB : B.length = 2 ^ k) (t : Nat) : fw (mk (2 ^ k) (rnd A B false)) k t = fw A k t * fw B k t := by
  have h := dft_conv (ord_rt k hk) (A.map toF) (B.map toF) (by rw [List.length_map]; exact hA) (by rw [List.length_map]; exact hB) t
  rw [gf_map, gf_map] at h
  unfold fw
  rw [← h]
  refine dft_congr (fun i hi => ?_) t
  rw [cf_mk, if_pos hi]
  show (if false = true then _ else _) = _
  rw [if_neg (by decide), hA]
theorem pM_get (A B : List Nat) (i : Nat) (hA : 0 < A.length) (hB : 0 < B.length) (hi : i < A.length + B.length - 1) : (pM A B).getD i 0 = (conv (cf A) (cf B) i).val := by
  unfold pM
  rw [if_neg (by omega), mk_getD _ _ _ hi]
theorem pM_len (A B : List Nat) (hA : 0 < A.length) (hB : 0 < B.length) : (pM A B).length = A.length + B.length - 1 := by
  unfold pM
  rw [if_neg (by omega), mk_length]
/-- What goes over the end. -/
def ovr (A B : List Nat) (i : Nat) : Nat := (conv (cf A) (cf B) (i + A.length)).val
theorem ovr_none (A B : List Nat) (i : Nat) (h : A.length + B.length ≤ i + A.length + 1) : ovr A B i = 0 := by
  unfold ovr
  rw [conv_above (m := A.length) (n := B.length) (fun t ht => cf_ge ht) (fun t ht => cf_ge ht) _ h]; rfl
theorem rnd_add (A B : List Nat) (i : Nat) : fA (conv (cf A) (cf B) i).val (ovr A B i) = (rnd A B false i).val := by
  rw [fA_val, toF_val, ovr, toF_val]; rfl
theorem rnd_sub (A B : List Nat) (i : Nat) : fS (conv (cf A) (cf B) i).val (ovr A B i) = (rnd A B true i).val := by
  rw [fS_val, toF_val, ovr, toF_val]; rfl
theorem pN_pM (A B : List Nat) : pN (pM A B) = pM (pN A) (pN B) := by
  rw [← pM_normal]
  exact pN_ext fun i => by rw [cf_pM, cf_pM]; exact conv_congr (fun t => (cf_pN A t).symm) (fun t => (cf_pN B t).symm) i
theorem ex_lin : pM [1, 2] [3, 4] = [3, 10, 8] := by decide +kernel

end Go.Proofs.YtgfnjbkhncjhhabDoor
