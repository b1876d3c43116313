/-
  What Root and In of package goldref answer: a root is the power of 7; a number lies between two others or not.
-/
import Derived.Test.YtgkepflnnoociacDoorRefIn
import Derived.Test.YtgkepflnnoociacDoorRefP
namespace Go.Proofs.YtgkepflnnoociacDoor
open Go.RowKit

theorem half_half (i : Nat) : 18446744069414584320 / 2 ^ (i + 1) = 18446744069414584320 / 2 ^ i / 2 := by
  rw [Nat.pow_succ, Nat.div_div_eq_div_mul]

set_option maxHeartbeats 1000000 in
theorem ref_Root (k : Nat) (hk : (k : Int) ≤ 32) (w : World) :
    Calls Tryd.prog 113 #[.int .i64 (k : Int)] w fun e w' => e = .returned (.int .u64 ((fW 7 (18446744069414584320 / 2 ^ k) : Nat) : Int)) ∧ w' = w := by
  go_enter Tryd.func113, Tryd.ntmps113
  go_wp2
  go_loop [3, 4] (fun vn vi => ∃ i m : Nat, vn = .int .u64 (m : Int) ∧ vi = .int .i64 (i : Int) ∧ (i : Int) ≤ (k : Int) ∧ (m : Int) < 18446744073709551616 ∧ Hid (m = 18446744069414584320 / 2 ^ i))
    (fun _ vi => (k - (intOf vi)).toNat)
  case atStart => exact ⟨0, 18446744069414584320, rfl, rfl, by omega, by omega, by show _ = _; rw [Nat.pow_zero, Nat.div_one]⟩
  case round =>
    obtain ⟨i, m, rfl, rfl, hi, hm, hM⟩ := hrel
    by_cases hlt : (i : Int) < (k : Int)
    · have hd : decide (i < k) = true := decide_eq_true (by omega)
      have hM' : Hid (m / 2 = 18446744069414584320 / 2 ^ (i + 1)) := by
        show m / 2 = _
        rw [half_half, ← hM.out]
      go_wp2
      go_round
      case rel => exact ⟨i + 1, m / 2, by go_num, by go_num, by omega, by omega, hM'⟩
      case measure => simp only [intOf]; omega
    · have e : i = k := by omega
      subst e
      have hd : decide (i < i) = false := decide_eq_false (by omega)
      clear hlt hi
      have hM' := hM.out
      have c := ref_Pow 7 m hm
      have c' : ∀ w, Calls Tryd.prog 147 #[.int .u64 7, .int .u64 (m : Int)] w fun e w' => e = .returned (.int .u64 ((fW 7 (18446744069414584320 / 2 ^ i) : Nat) : Int)) ∧ w' = w := by
        intro w
        rw [← hM']
        exact c w
      clear c hM' hM
      go_wp2_with (go_at_call 147; refine Calls.mono (c' _) ?_; rintro e w' ⟨rfl, hw⟩; rw [hw]; clear hw)
      go_ret
      exact ⟨rfl, rfl⟩

end Go.Proofs.YtgkepflnnoociacDoor
