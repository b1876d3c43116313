/-
  What Plan of package goldref answers: for each axis its lines, so many a task; the errors.
-/
import Derived.Test.YtcaepjmgnoeefaeDoorSlT
import Derived.Test.YtcaepjmgnoeefaeDoorManyL
import Derived.BigQuiet
namespace Go.Proofs.YtcaepjmgnoeefaeDoor
open Go.RowKit

/-- The phases of the first x axes. -/
def pls (ds : List Nat) (c x : Nat) : List (List (List Int)) := (List.range x).map fun y => chn y c (nln ds y)
theorem pls_length (ds : List Nat) (c x : Nat) : (pls ds c x).length = x := by simp [pls]
theorem pls_succ (ds : List Nat) (c x : Nat) : pls ds c (x + 1) = pls ds c x ++ [chn x c (nln ds x)] := by simp [pls, List.range_succ]

/-- None of the first x phases has more tasks than it may. -/
def Few (ds : List Nat) (c x : Nat) : Prop := ∀ y, y < x → (chn y c (nln ds y)).length ≤ 64


end Go.Proofs.YtcaepjmgnoeefaeDoor
