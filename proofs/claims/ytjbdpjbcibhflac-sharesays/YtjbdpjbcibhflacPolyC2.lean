/-
  What Add and Mul of package poly answer.
-/
import Derived.Test.YtjbdpjbcibhflacPolyC1
namespace Go.Proofs.Ytjbdpjbcibhflac
open Go.RowKit





end Go.Proofs.Ytjbdpjbcibhflac
