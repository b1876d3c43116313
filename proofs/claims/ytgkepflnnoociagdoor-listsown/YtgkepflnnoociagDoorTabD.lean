/-
  What the walks ask of a world where the code reads the tables of package math/bits; nothing where it doesn't.
-/
import Derived.Test.YtgkepflnnoociagDoorRows
import Derived.Test.YtgkepflnnoociagDoorSl
namespace Go.Proofs.YtgkepflnnoociagDoor
open Go.RowKit

/-- The table of package math/bits lies where its variable lies. -/
def tz64 : List Nat := [0, 1, 56, 2, 57, 49, 28, 3, 61, 58, 42, 50, 38, 29, 17, 4, 62, 47, 59, 36, 45, 43, 51, 22, 53, 39, 33, 30, 24, 18, 12, 5, 63, 55, 48, 27, 60, 41, 37, 16, 46, 35, 44, 21, 52, 32, 23, 11, 54, 26, 40, 15, 34, 20, 31, 10, 25, 14, 19, 9, 13, 8, 7, 6]
def TabZ (w : World) : Prop := ∀ j, j < 64 → w.cell? ⟨1, j, none⟩ = some (.int .u8 ((tz64.getD j 0 : Nat) : Int))
theorem TabZ.below {w w' : World} (h : TabZ w) (hb : Below w.heap.size w w') : TabZ w' := fun j hj => (hb.cell (block_lt (h j hj))).trans (h j hj)
def TabP (w : World) : Prop := w.heap.size = w.heap.size
theorem TabP.below {w w' : World} (_ : TabP w) (_ : Below w.heap.size w w') : TabP w' := rfl
theorem TabP.any (w : World) : TabP w := rfl
def Tab (w : World) : Prop := TabZ w ∧ TabP w
theorem Tab.below {w w' : World} (h : Tab w) (hb : Below w.heap.size w w') : Tab w' := ⟨h.1.below hb, h.2.below hb⟩

end Go.Proofs.YtgkepflnnoociagDoor
