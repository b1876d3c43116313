/-
  What Root and In of package goldref answer: a root is the power of 7; a number lies between two others or not.
-/
import Derived.Test.YtjbdpjbcibhflafRefIn
import Derived.Test.YtjbdpjbcibhflafRefP
namespace Go.Proofs.Ytjbdpjbcibhflaf
open Go.RowKit

theorem half_half (i : Nat) : 18446744069414584320 / 2 ^ (i + 1) = 18446744069414584320 / 2 ^ i / 2 := by
  rw [Nat.pow_succ, Nat.div_div_eq_div_mul]

end Go.Proofs.Ytjbdpjbcibhflaf
