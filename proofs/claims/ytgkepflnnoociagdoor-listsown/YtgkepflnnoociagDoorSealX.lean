/-
  What package seal answers, as functions of what it is handed.
-/
import Derived.Test.YtgkepflnnoociagDoorSealM
import Derived.Test.YtgkepflnnoociagDoorRefInAll
namespace Go.Proofs.YtgkepflnnoociagDoor

/-- The transform's numbers at the corners; the numbers of the shifted array. -/
def crW (ds xs : List Nat) : List Nat := (crs ds (prd2 ds)).map fun q => (who ds false (cf xs) ds.length q).val
def shW (ds : List Nat) (bs : List Int) (xs : List Nat) : List Nat := mk (prd2 ds) (fun k => cf xs (shN ds bs k))
/-- The axes of a shape. -/
def dsZ (zs : List Int) : List Nat := zs.map Int.toNat
theorem dsZ_of {zs : List Int} {ds : List Nat} (h : Good zs ds) : dsZ zs = ds := by
  unfold dsZ
  rw [h.2.2.1, List.map_map]
  have hid : (Int.toNat ∘ fun (d : Nat) => (d : Int)) = id := funext fun d => by simp
  rw [hid, List.map_id]
open Classical in
/-- A shape's error; that of an array of so many numbers. -/
noncomputable def spE (zs : List Int) : Int := if Good zs (dsZ zs) then (if prd2 (dsZ zs) ≤ 1024 then 0 else 2) else 1
noncomputable def slE (zs : List Int) (n : Nat) : Int := if spE zs = 0 then (if n = prd2 (dsZ zs) then 0 else 5) else spE zs
noncomputable def siE (zs : List Int) (n b : Nat) : Int := if slE zs n = 0 then (if b = zs.length then 0 else 1) else slE zs n
noncomputable def ofV (zs : List Int) (xs : List Nat) (key : Nat) : Nat := if slE zs xs.length = 0 then pE xs key else 0
noncomputable def coL (zs : List Int) (xs : List Nat) : List Nat := if slE zs xs.length = 0 then crW (dsZ zs) xs else []
noncomputable def siL (zs : List Int) (xs : List Nat) (bs : List Int) : List Nat := if siE zs xs.length bs.length = 0 then shW (dsZ zs) bs xs else []
theorem spE_ok {zs : List Int} {ds : List Nat} (h : Good zs ds) (hn : prd2 ds ≤ 1024) : spE zs = 0 := by
  unfold spE
  rw [dsZ_of h, if_pos h, if_pos hn]
theorem spE_large {zs : List Int} {ds : List Nat} (h : Good zs ds) (hn : 1024 < prd2 ds) : spE zs = 2 := by
  unfold spE
  rw [dsZ_of h, if_pos h, if_neg (by omega)]
theorem spE_bad {zs : List Int} (h : ∀ ds, ¬ Good zs ds) : spE zs = 1 := by
  unfold spE
  rw [if_neg (h _)]
theorem sl_bad {zs : List Int} (h : spE zs ≠ 0) (xs : List Nat) (bs : List Int) (key : Nat) : slE zs xs.length = spE zs ∧ siE zs xs.length bs.length = spE zs ∧ ofV zs xs key = 0 ∧ coL zs xs = [] ∧ siL zs xs bs = [] := by
  have e1 : slE zs xs.length = spE zs := by unfold slE; rw [if_neg h]
  have e2 : siE zs xs.length bs.length = spE zs := by unfold siE; rw [e1, if_neg h]
  refine ⟨e1, e2, ?_, ?_, ?_⟩
  · unfold ofV; rw [e1, if_neg h]
  · unfold coL; rw [e1, if_neg h]
  · unfold siL; rw [e2, if_neg h]
theorem sl_form {zs : List Int} (h : spE zs = 0) (xs : List Nat) (bs : List Int) (key : Nat) (hl : xs.length ≠ prd2 (dsZ zs)) : slE zs xs.length = 5 ∧ siE zs xs.length bs.length = 5 ∧ ofV zs xs key = 0 ∧ coL zs xs = [] ∧ siL zs xs bs = [] := by
  have e1 : slE zs xs.length = 5 := by unfold slE; rw [if_pos h, if_neg hl]
  have e2 : siE zs xs.length bs.length = 5 := by unfold siE; rw [e1, if_neg (by decide)]
  refine ⟨e1, e2, ?_, ?_, ?_⟩
  · unfold ofV; rw [e1, if_neg (by decide)]
  · unfold coL; rw [e1, if_neg (by decide)]
  · unfold siL; rw [e2, if_neg (by decide)]
theorem sl_arg {zs : List Int} (h : spE zs = 0) (xs : List Nat) (bs : List Int) (key : Nat) (hl : xs.length = prd2 (dsZ zs)) (hb : bs.length ≠ zs.length) : slE zs xs.length = 0 ∧ siE zs xs.length bs.length = 1 ∧ ofV zs xs key = pE xs key ∧ coL zs xs = crW (dsZ zs) xs ∧ siL zs xs bs = [] := by
  have e1 : slE zs xs.length = 0 := by unfold slE; rw [if_pos h, if_pos hl]
  have e2 : siE zs xs.length bs.length = 1 := by unfold siE; rw [e1, if_pos rfl, if_neg hb]
  refine ⟨e1, e2, ?_, ?_, ?_⟩
  · unfold ofV; rw [e1, if_pos rfl]
  · unfold coL; rw [e1, if_pos rfl]
  · unfold siL; rw [e2, if_neg (by decide)]
theorem sl_ok {zs : List Int} (h : spE zs = 0) (xs : List Nat) (bs : List Int) (key : Nat) (hl : xs.length = prd2 (dsZ zs)) (hb : bs.length = zs.length) : slE zs xs.length = 0 ∧ siE zs xs.length bs.length = 0 ∧ ofV zs xs key = pE xs key ∧ coL zs xs = crW (dsZ zs) xs ∧ siL zs xs bs = shW (dsZ zs) bs xs := by
  have e1 : slE zs xs.length = 0 := by unfold slE; rw [if_pos h, if_pos hl]
  have e2 : siE zs xs.length bs.length = 0 := by unfold siE; rw [e1, if_pos rfl, if_pos hb]
  refine ⟨e1, e2, ?_, ?_, ?_⟩
  · unfold ofV; rw [e1, if_pos rfl]
  · unfold coL; rw [e1, if_pos rfl]
  · unfold siL; rw [e2, if_pos rfl]

end Go.Proofs.YtgkepflnnoociagDoor
