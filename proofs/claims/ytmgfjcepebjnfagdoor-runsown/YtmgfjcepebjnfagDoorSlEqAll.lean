/-
  Texts that stood one behind the other, as one.
-/
import Derived.Test.YtmgfjcepebjnfagDoorRows
import Derived.Test.YtmgfjcepebjnfagDoorSl
import Derived.BigQuiet
import Derived.Test.YtmgfjcepebjnfagDoorSlZ
import Derived.Test.YtmgfjcepebjnfagDoorManyT
/-! What slices.Equal answers of two slices of numbers that read as one list: true; nothing that was there is written. -/
namespace Go.Proofs.YtmgfjcepebjnfagDoor
open Go.RowKit

set_option maxHeartbeats 1000000 in
theorem slices_Equal (w : World) (v v' : Value) (xs : List Nat) (h : IsU w v xs) (h' : IsU w v' xs) :
    Calls Tryd.prog 28 #[v, v'] w fun e w' => e = .returned (.bool true) ∧ Below w.heap.size w w' := by
  obtain ⟨a, cap, rfl, hcap, hmax, hc, hr⟩ := h
  obtain ⟨a', cap', rfl, hcap', hmax', hc', _⟩ := h'
  have hlen : (xs.length : Int) ≤ 9223372036854775807 := by unfold maxLen at hmax; omega
  clear hr hmax' hmax hcap hcap'
  generalize hn : xs.length = n at *
  clear hn
  go_enter Tryd.func28, Tryd.ntmps28
  go_wp2
  go_loopw [13] (fun vi wr => ∃ k : Nat, k ≤ n ∧ vi = .int .i64 (k : Int) ∧ Below w.heap.size w wr)
    (fun vi _ => n - (intOf vi).toNat)
  case atStart => exact ⟨0, Nat.zero_le _, rfl, Below.refl _ _⟩
  case round =>
    obtain ⟨k, hk, rfl, hnx⟩ := hrel
    by_cases hlt : k < n
    · obtain ⟨b, off, rfl, hcell0⟩ := hc k hlt
      have hcell := (hnx.cell (block_lt hcell0)).trans hcell0
      obtain ⟨b', off', rfl, hcell0'⟩ := hc' k hlt
      have hcell' := (hnx.cell (block_lt hcell0')).trans hcell0'
      clear hcell0 hcell0' hc hc'
      generalize xs.getD k 0 = x at *
      go_wp2
      go_quiet (fail)
      go_wp2
      go_roundw
      case rel => exact ⟨k + 1, by omega, by go_num, below_drewN hnx _⟩
      case measure => simp only [intOf]; omega
    · have e : k = n := by omega
      subst e
      clear hc hc'
      go_wp2
      go_ret
      exact ⟨rfl, hnx⟩

end Go.Proofs.YtmgfjcepebjnfagDoor

/-! A slice of two ints written out in the text. -/
namespace Go.Proofs.YtmgfjcepebjnfagDoor
open Go.RowKit

theorem IsZ.lit2 (w : World) (e : Nat) (a b : Int) (ha : -9223372036854775808 ≤ a ∧ a ≤ 9223372036854775807) (hb : -9223372036854775808 ≤ b ∧ b ≤ 9223372036854775807) : IsZ (w.alloc (.cells #[.int .i64 a, .int .i64 b] e)) (.slice (some ⟨w.heap.size, 0, none⟩) 2 2) [a, b] := by
  have h0 := World.ownsRow_lit (base := 0) (e := e) (size := 1) w #[.int .i64 a, .int .i64 b] 2 (Nat.zero_le _) (by simp [maxLen]) rfl
  refine ⟨some ⟨w.heap.size, 0, none⟩, 2, rfl, Nat.le_refl _, by simp [maxLen], fun i hi => ⟨w.heap.size, 0, rfl, ?_⟩, ?_⟩
  · have hc := h0.cellAt i (by simpa using hi)
    rw [Nat.zero_add, hc]
    match i, hi with
    | 0, _ => rfl
    | 1, _ => rfl
  · intro z hz
    simp at hz
    rcases hz with rfl | rfl
    · exact ha
    · exact hb

end Go.Proofs.YtmgfjcepebjnfagDoor

/-! What flat of package goldkeep answers: true: an array of two axes is transformed. -/
namespace Go.Proofs.YtmgfjcepebjnfagDoor
open Go.RowKit

theorem axW_two : axW false 2 = -1 := by
  have e : Nat.log2 2 = 1 := by decide
  have h := (ord_rt 1 (by decide)).half 0 rfl
  rw [Nat.pow_zero, show (1 : Nat) = 0 + 1 from rfl, pw_succ, pw_zero] at h
  unfold axW
  rw [e]
  show toF (rt 1) = -1
  rw [← h]
  show toF (rt 1) = 1 * toF (rt 1)
  grind
theorem flat_who : mk 4 (who [2, 2] false (cf [1, 2, 3, 4]) 2) = [10, 18446744069414584319, 18446744069414584317, 0] := by
  have h : ∀ p, who [2, 2] false (cf [1, 2, 3, 4]) 2 p = ax 1 (-1) 1 2 (ax 1 (-1) 2 2 (cf [1, 2, 3, 4])) p := fun p => by
    rw [who_succ, who_succ, who_zero]
    unfold alo
    rw [show sz [2, 2] 1 = 2 from rfl, show sz [2, 2] 0 = 2 from rfl, show beh [2, 2] (1 + 1) = 1 from rfl, show beh [2, 2] (0 + 1) = 2 from rfl, axW_two]; rfl
  rw [mk_congr fun p _ => h p]
  decide +kernel
theorem flat_all : mk (prd2 [2, 2]) (who [2, 2] false (cf [1, 2, 3, 4]) [2, 2].length) = [10, 18446744069414584319, 18446744069414584317, 0] := by
  have e1 : prd2 [2, 2] = 4 := rfl
  have e2 : ([2, 2] : List Nat).length = 2 := rfl
  rw [e1, e2]
  exact flat_who

end Go.Proofs.YtmgfjcepebjnfagDoor
