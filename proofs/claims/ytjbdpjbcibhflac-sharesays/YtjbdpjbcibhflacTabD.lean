/-
  What the walks ask of a world where the code reads the tables of package math/bits; nothing where it doesn't.
-/
import Derived.Test.YtjbdpjbcibhflacRows
import Derived.Test.YtjbdpjbcibhflacSl
namespace Go.Proofs.Ytjbdpjbcibhflac
open Go.RowKit

def TabZ (w : World) : Prop := w.heap.size = w.heap.size
theorem TabZ.below {w w' : World} (_ : TabZ w) (_ : Below w.heap.size w w') : TabZ w' := rfl
theorem TabZ.any (w : World) : TabZ w := rfl
def TabP (w : World) : Prop := w.heap.size = w.heap.size
theorem TabP.below {w w' : World} (_ : TabP w) (_ : Below w.heap.size w w') : TabP w' := rfl
theorem TabP.any (w : World) : TabP w := rfl
def Tab (w : World) : Prop := TabZ w ∧ TabP w
theorem Tab.below {w w' : World} (h : Tab w) (hb : Below w.heap.size w w') : Tab w' := ⟨h.1.below hb, h.2.below hb⟩
theorem Tab.any (w : World) : Tab w := ⟨TabZ.any w, TabP.any w⟩

end Go.Proofs.Ytjbdpjbcibhflac
