/-
  What In of package goldref answers.
-/
import Derived.Test.YtjbdpjbcibhflafRows
import Derived.WalkKit
import Derived.WalkSpells
import Derived.WalkLawsBesides
namespace Go.Proofs.Ytjbdpjbcibhflaf
open Go.RowKit

end Go.Proofs.Ytjbdpjbcibhflaf
