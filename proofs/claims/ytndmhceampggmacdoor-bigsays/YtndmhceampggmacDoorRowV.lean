/-
  Blocks that hold values of one type and nothing else.
-/
import Derived.Test.YtndmhceampggmacDoorBarB
namespace Go.Proofs.YtndmhceampggmacDoor
open Go.RowKit

/-- Block g holds the cells vs, of that type, and nothing else. -/
def RowV (t : Nat) (w : World) (g : Nat) (vs : List Value) : Prop := w.heap[g]? = some (.cells vs.toArray t (0, 0))
section
variable {t : Nat} {w w' : World} {g g' : Nat} {xs ys : List Value}
theorem RowV.lt (h : RowV t w g xs) : g < w.heap.size := by
  obtain ⟨hlt, _⟩ := Array.getElem?_eq_some_iff.1 h
  exact hlt
theorem RowV.cell (h : RowV t w g xs) (i : Nat) : w.cell? ⟨g, i, none⟩ = xs[i]? := by
  have hh : w.heap[g]? = _ := h
  simp only [World.cell?, hh, List.getElem?_toArray]
  cases xs[i]? <;> rfl
theorem RowV.frozen (h : RowV t w g xs) (i : Nat) : w.frozen? ⟨g, i, none⟩ = false := by
  have hh : w.heap[g]? = _ := h
  simp [World.frozen?, hh]
theorem RowV.set (h : RowV t w g xs) (i : Nat) (u : Value) : RowV t (w.setCell ⟨g, i, none⟩ u) g (xs.set i u) := by
  have hh : w.heap[g]? = _ := h
  unfold RowV
  simp [World.setCell, Array.getElem?_modify, hh]
theorem RowV.block (h : RowV t w g xs) (e : w'.heap[g]? = w.heap[g]?) : RowV t w' g xs := e.trans h
theorem RowV.below (h : RowV t w g xs) (hb : Below w.heap.size w w') : RowV t w' g xs := h.block (hb.block g h.lt)
theorem RowV.bar (h : RowV t w g' xs) (hne : g' ≠ g) (hb : Bar g w w') : RowV t w' g' xs := h.block (hb.block g' h.lt hne)
theorem RowV.cast (h : RowV t w g xs) (e : xs = ys) : RowV t w g ys := e ▸ h
end

end Go.Proofs.YtndmhceampggmacDoor
