/-
  What Norm of package goldref answers, for all numbers of 64 bits.
-/
import Derived.Test.YtgkepflnnoociagDoorFieldAll
namespace Go.Proofs.YtgkepflnnoociagDoor
open Go.RowKit

theorem rem_fN (a : Nat) : (a : Int) % 18446744069414584321 = ((fN a : Nat) : Int) := by
  rw [fN_eq]; unfold P; omega


end Go.Proofs.YtgkepflnnoociagDoor
