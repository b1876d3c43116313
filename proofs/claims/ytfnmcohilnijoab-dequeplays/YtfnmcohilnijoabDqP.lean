/-
  The law DequePlays where no call is made: a room that may not be, too many calls.
-/
import Derived.Test.YtfnmcohilnijoabDequeC
import Derived.Test.YtfnmcohilnijoabDqT
import Derived.Test.YtfnmcohilnijoabRefIn
namespace Go.Proofs.Ytfnmcohilnijoab
open Go.RowKit

theorem dequePlays_bad (w : World) (z : Int) (hz : (Lit.int .i64 z).wf = true) (v : Value) (L : List (List Int)) (h : IsR 4 w v L) (hr : z < 1 ∨ 64 < z) :
    Calls Try.prog 4 #[.int .i64 z, v] w fun e w' => e = .returned (.bool true) ∧ Below w.heap.size w w' := by
  have cN := deque_New_bad w z hr hz
  have cI : Hid (∀ w', Calls Try.prog 8 #[.int .i64 z, .int .i64 1, .int .i64 64] w' fun e w'' => e = .returned (.bool false) ∧ w'' = w') := fun w' => by
    rcases Int.lt_or_le z 1 with q | q
    · exact ref_In_low z 1 64 q w'
    · exact ref_In_high z 1 64 q (by omega) w'
  obtain ⟨a, cap, rfl, -⟩ := h
  go_enter Try.func4, Try.ntmps4
  go_wp2_with (first
    | (go_at_call 13; refine Calls.mono cN ?_; rintro e w1 ⟨rfl, hb⟩; clear cN)
    | (go_at_call 8; refine Calls.mono (cI.out _) ?_; rintro e w2 ⟨rfl, hw⟩; rw [hw]; clear hw))
  go_ret
  exact ⟨rfl, hb⟩

theorem dequePlays_many (w : World) (r : Nat) (h1 : 1 ≤ r) (h2 : r ≤ 64) (v : Value) (L : List (List Int)) (h : IsR 4 w v L) (hl : 200 < L.length) :
    Calls Try.prog 4 #[.int .i64 (r : Int), v] w fun e w' => e = .returned (.bool true) ∧ Below w.heap.size w w' := by
  have cN := deque_New_ok w r h1 h2
  have cI : Hid (∀ w', Calls Try.prog 8 #[.int .i64 (r : Int), .int .i64 1, .int .i64 64] w' fun e w'' => e = .returned (.bool true) ∧ w'' = w') := fun w' => ref_In_true _ 1 64 (by omega) (by omega) w'
  obtain ⟨a, cap, rfl, -⟩ := h
  go_enter Try.func4, Try.ntmps4
  go_wp2_with (first
    | (go_at_call 13; refine Calls.mono cN ?_; rintro e w1 ⟨p, O, rfl, hD, hO, hb⟩; clear cN)
    | (go_at_call 8; refine Calls.mono (cI.out _) ?_; rintro e w2 ⟨rfl, hw⟩; rw [hw]; clear hw))
  go_ret
  exact ⟨rfl, hb⟩

end Go.Proofs.Ytfnmcohilnijoab
