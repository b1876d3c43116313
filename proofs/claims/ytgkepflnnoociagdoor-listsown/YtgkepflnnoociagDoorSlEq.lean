/-
  What slices.Equal answers of two slices of numbers that read as one list: true; nothing that was there is written.
-/
import Derived.Test.YtgkepflnnoociagDoorRows
import Derived.Test.YtgkepflnnoociagDoorSl
import Derived.BigQuiet
namespace Go.Proofs.YtgkepflnnoociagDoor
open Go.RowKit

set_option maxHeartbeats 1000000 in
theorem slices_Equal (w : World) (v v' : Value) (xs : List Nat) (h : IsU w v xs) (h' : IsU w v' xs) :
    Calls Tryd.prog 8 #[v, v'] w fun e w' => e = .returned (.bool true) ∧ Below w.heap.size w w' := by
  obtain ⟨a, cap, rfl, hcap, hmax, hc, hr⟩ := h
  obtain ⟨a', cap', rfl, hcap', hmax', hc', _⟩ := h'
  have hlen : (xs.length : Int) ≤ 9223372036854775807 := by unfold maxLen at hmax; omega
  clear hr hmax' hmax hcap hcap'
  generalize hn : xs.length = n at *
  clear hn
  go_enter Tryd.func8, Tryd.ntmps8
  go_wp2
  go_loopw [13] (fun vi wr => ∃ k : Nat, k ≤ n ∧ vi = .int .i64 (k : Int) ∧ Below w.heap.size w wr)
    (fun vi _ => n - (intOf vi).toNat)
  case atStart => exact ⟨0, Nat.zero_le _, rfl, Below.refl _ _⟩
  case round =>
    obtain ⟨k, hk, rfl, hnx⟩ := hrel
    by_cases hlt : k < n
    · obtain ⟨b, off, rfl, hcell0⟩ := hc k hlt
      have hcell := (hnx.cell (block_lt hcell0)).trans hcell0
      obtain ⟨b', off', rfl, hcell0'⟩ := hc' k hlt
      have hcell' := (hnx.cell (block_lt hcell0')).trans hcell0'
      clear hcell0 hcell0' hc hc'
      generalize xs.getD k 0 = x at *
      go_wp2
      go_quiet (fail)
      go_wp2
      go_roundw
      case rel => exact ⟨k + 1, by omega, by go_num, below_drewN hnx _⟩
      case measure => simp only [intOf]; omega
    · have e : k = n := by omega
      subst e
      clear hc hc'
      go_wp2
      go_ret
      exact ⟨rfl, hnx⟩

end Go.Proofs.YtgkepflnnoociagDoor
