/-
  What Log of package goldref answers: of 2^k, k from 0 to 10, k; of other numbers -1.
-/
import Derived.Test.YtgkepflnnoociagDoorRows
import Derived.WalkKit
import Derived.WalkSpells
import Derived.WalkLawsBesides
namespace Go.Proofs.YtgkepflnnoociagDoor
open Go.RowKit

theorem two_pow_bound (j : Nat) (hj : j ≤ 10) : ((2 : Int) ^ j) = ((2 ^ j : Nat) : Int) ∧ 2 ^ j ≤ 1024 := by
  refine ⟨by rw [Int.natCast_pow]; rfl, ?_⟩
  exact Nat.le_trans (Nat.pow_le_pow_right (by decide) hj) (by decide)


end Go.Proofs.YtgkepflnnoociagDoor
