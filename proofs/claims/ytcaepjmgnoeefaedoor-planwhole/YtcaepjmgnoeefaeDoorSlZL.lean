/-
  A slice of two ints written out in the text.
-/
import Derived.Test.YtcaepjmgnoeefaeDoorSlZ
namespace Go.Proofs.YtcaepjmgnoeefaeDoor
open Go.RowKit

theorem IsZ.lit2 (w : World) (e : Nat) (a b : Int) (ha : -9223372036854775808 ≤ a ∧ a ≤ 9223372036854775807) (hb : -9223372036854775808 ≤ b ∧ b ≤ 9223372036854775807) : IsZ (w.alloc (.cells #[.int .i64 a, .int .i64 b] e)) (.slice (some ⟨w.heap.size, 0, none⟩) 2 2) [a, b] := by
  have h0 := World.ownsRow_lit (base := 0) (e := e) (size := 1) w #[.int .i64 a, .int .i64 b] 2 (Nat.zero_le _) (by simp [maxLen]) rfl
  refine ⟨some ⟨w.heap.size, 0, none⟩, 2, rfl, Nat.le_refl _, by simp [maxLen], fun i hi => ⟨w.heap.size, 0, rfl, ?_⟩, ?_⟩
  · have hc := h0.cellAt i (by simpa using hi)
    rw [Nat.zero_add, hc]
    match i, hi with
    | 0, _ => rfl
    | 1, _ => rfl
  · intro z hz
    simp at hz
    rcases hz with rfl | rfl
    · exact ha
    · exact hb

end Go.Proofs.YtcaepjmgnoeefaeDoor
