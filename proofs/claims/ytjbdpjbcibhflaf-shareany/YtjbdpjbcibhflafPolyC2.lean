/-
  What Add and Mul of package poly answer.
-/
import Derived.Test.YtjbdpjbcibhflafPolyC1
namespace Go.Proofs.Ytjbdpjbcibhflaf
open Go.RowKit





end Go.Proofs.Ytjbdpjbcibhflaf
