/-
  What Norm of package goldref answers, for all numbers of 64 bits.
-/
import Derived.Test.YtgkepflnnoociacDoorField
namespace Go.Proofs.YtgkepflnnoociacDoor
open Go.RowKit

theorem rem_fN (a : Nat) : (a : Int) % 18446744069414584321 = ((fN a : Nat) : Int) := by
  rw [fN_eq]; unfold P; omega

theorem ref_Norm (a : Nat) (w : World) :
    Calls Tryd.prog 64 #[.int .u64 (a : Int)] w fun e w' => e = .returned (.int .u64 ((fN a : Nat) : Int)) ∧ w' = w := by
  rw [← rem_fN a]
  go_enter Tryd.func64, Tryd.ntmps64
  go_wp2
  go_ret
  exact ⟨rfl, rfl⟩

end Go.Proofs.YtgkepflnnoociacDoor
