/-
  What PlanText of package goldref answers: the text of phases.
-/
import Derived.Test.YtcaepjmgnoeefaeDoorItoaC
import Derived.Test.YtcaepjmgnoeefaeDoorRefPhases
import Derived.Shelf.SlSortCmp.QuietGrown
namespace Go.Proofs.YtcaepjmgnoeefaeDoor
open Go.RowKit Go.Sort

/-- The text of a task, of the first k tasks of a phase, of the first i phases. -/
def tkx (r : List Int) : List UInt8 := Lib.itoa (r.getD 0 0) ++ [58] ++ Lib.itoa (r.getD 1 0) ++ [45] ++ Lib.itoa (r.getD 2 0)
def lnx (T : List (List Int)) : Nat → List UInt8
  | 0 => []
  | k + 1 => (if 0 < k then lnx T k ++ [32] else lnx T k) ++ tkx (T.getD k [])
def ptx (L : List (List (List Int))) : Nat → List UInt8
  | 0 => []
  | i + 1 => ptx L i ++ lnx (L.getD i []) (L.getD i []).length ++ [10]


end Go.Proofs.YtcaepjmgnoeefaeDoor
