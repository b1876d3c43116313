/-
  What Phases of package goldref answers: whether phases are right: each line of each axis just once; none of too many tasks.
-/
import Derived.Test.YtcaepjmgnoeefaeDoorRefPlan
import Derived.Test.YtcaepjmgnoeefaeDoorRowI
import Derived.Test.YtcaepjmgnoeefaeDoorPlanM
namespace Go.Proofs.YtcaepjmgnoeefaeDoor
open Go.RowKit

theorem row3 {w : World} {v : Value} {T : List (List Int)} (h : IsR 3 w v T) (i : Nat) (hi : i < T.length) : ∃ a b c, T.getD i [] = [a, b, c] ∧ (-9223372036854775808 ≤ a ∧ a ≤ 9223372036854775807) ∧ (-9223372036854775808 ≤ b ∧ b ≤ 9223372036854775807) ∧ (-9223372036854775808 ≤ c ∧ c ≤ 9223372036854775807) := by
  obtain ⟨_, _, _, _, _, _, hr⟩ := h
  obtain ⟨h1, h2⟩ := hr T[i] (List.getElem_mem hi)
  obtain ⟨a, b, c, e⟩ := len_3 h1
  rw [e] at h2
  exact ⟨a, b, c, by simp [List.getD, List.getElem?_eq_getElem hi, e], h2 a (by simp), h2 b (by simp), h2 c (by simp)⟩


end Go.Proofs.YtcaepjmgnoeefaeDoor
