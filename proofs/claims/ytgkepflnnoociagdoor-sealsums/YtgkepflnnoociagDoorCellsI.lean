/-
  The cells of a list of ints; what is owned reads as such a list.
-/
import Derived.Test.YtgkepflnnoociagDoorRows
import Derived.Test.YtgkepflnnoociagDoorSlI
namespace Go.Proofs.YtgkepflnnoociagDoor
open Go.RowKit

def cellsI (xs : List Nat) : List Value := xs.map fun (x : Nat) => Value.int .i64 (x : Int)
theorem cellsI_length (xs : List Nat) : (cellsI xs).length = xs.length := by simp [cellsI]
theorem cellsI_append (xs ys : List Nat) : cellsI (xs ++ ys) = cellsI xs ++ cellsI ys := by simp [cellsI]
theorem cellsI_get (xs : List Nat) (i : Nat) (h : i < xs.length) : (cellsI xs)[i]? = some (.int .i64 ((xs.getD i 0 : Nat) : Int)) := by
  simp [cellsI, List.getD, h]
theorem cellsI_set (xs : List Nat) (j v : Nat) : (cellsI xs).set j (.int .i64 (v : Int)) = cellsI (xs.set j v) := by
  unfold cellsI
  rw [List.map_set]
theorem IsI.of_owns {w : World} {base e n : Nat} {v : Value} {xs : List Nat} (h : w.ownsRow base e 1 v n (cellsI xs)) : IsI w v xs := by
  have h0 := h
  obtain ⟨hl, hv⟩ := h
  have hn : xs.length = n := by rw [cellsI_length] at hl; omega
  subst hn
  rcases hv with ⟨rfl, h2⟩ | ⟨g, cap, cur, rfl, hg, hh, hc, hm, hs, ht⟩
  · have : xs = [] := List.eq_nil_of_length_eq_zero h2
    subst this
    exact IsI.nil w
  · refine ⟨some ⟨g, 0, none⟩, cap, rfl, hc, hm, fun i hi => ⟨g, 0, rfl, ?_⟩⟩
    have := h0.cellAt i (by omega)
    rw [Nat.zero_add, this, cellsI_get xs i hi]

theorem info_int : (Tryd.prog.info? 3).map (fun i => (i.zero, i.size, i.bytes)) = some (some (.int .i64 0), 1, 8) := by kernel_rfl

end Go.Proofs.YtgkepflnnoociagDoor
