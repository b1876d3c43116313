/-
  What Symbols of package goldref answers: the values of a polynomial at powers of the root.
-/
import Derived.Test.YtjbdpjbcibhflafRefEval
import Derived.Test.YtjbdpjbcibhflafRefR
import Derived.Test.YtjbdpjbcibhflafSlRow
namespace Go.Proofs.Ytjbdpjbcibhflaf
open Go.RowKit

/-- Symbol i of data. -/
def symF (xs : List Nat) (i : Nat) : F := evF (xs.map toF) (pw (toF (rt 6)) i)
theorem symF_val (xs : List Nat) (i : Nat) : (symF xs i).val = pE xs (fW (rt 6) i) := by unfold symF pE; rw [toF_fW]

end Go.Proofs.Ytjbdpjbcibhflaf
