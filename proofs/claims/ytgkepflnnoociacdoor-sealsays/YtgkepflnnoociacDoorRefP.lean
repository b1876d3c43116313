/-
  What Pow of package goldref answers, for all numbers of 64 bits: the same number as that of package field.
-/
import Derived.Test.YtgkepflnnoociacDoorRef
namespace Go.Proofs.YtgkepflnnoociacDoor
open Go.RowKit

/-! ### Pow: from the highest bit -/
theorem pow_dbl (x y t : Nat) (h : y / 2 ^ t % 2 = 0) : fM (fW x (y / 2 ^ (t + 1))) (fW x (y / 2 ^ (t + 1))) = fW x (y / 2 ^ t) := by
  have e := half_step y t
  rw [h] at e
  rw [e, fM_eq, fW_eq, fW_eq, ← Nat.mul_mod, ← Nat.pow_add]
  congr 2
  omega
theorem pow_dbl1 (x y t : Nat) (h : y / 2 ^ t % 2 = 1) : fM (fM (fW x (y / 2 ^ (t + 1))) (fW x (y / 2 ^ (t + 1)))) x = fW x (y / 2 ^ t) := by
  have e := half_step y t
  rw [h] at e
  rw [e, fM_eq, fM_eq, fW_eq, fW_eq, ← Nat.mul_mod, ← Nat.pow_add, Nat.mod_mul_mod, ← Nat.pow_succ]
  congr 2
  omega
theorem pow_top (x y : Nat) (hy : (y : Int) < 18446744073709551616) : fW x (y / 2 ^ 64) = 1 := by
  have e : y / 2 ^ 64 = 0 := Nat.div_eq_of_lt (by omega)
  rw [e, fW_eq, Nat.pow_zero]; rfl

set_option maxHeartbeats 1000000 in
theorem ref_Pow (x y : Nat) (hy : (y : Int) < 18446744073709551616) (w : World) :
    Calls Tryd.prog 147 #[.int .u64 (x : Int), .int .u64 (y : Int)] w fun e w' => e = .returned (.int .u64 ((fW x y : Nat) : Int)) ∧ w' = w := by
  go_enter Tryd.func147, Tryd.ntmps147
  go_wp2
  go_loop [5, 6] (fun vo vi => ∃ (j : Nat) (q : Int), vo = .int .u64 ((fW x (y / 2 ^ j) : Nat) : Int) ∧ vi = .int .i64 q ∧ q = (j : Int) - 1 ∧ j ≤ 64)
    (fun _ vi => (intOf vi + 1).toNat)
  case atStart => exact ⟨64, 63, by rw [pow_top x y hy]; rfl, rfl, rfl, by omega⟩
  case round =>
    obtain ⟨j, q, rfl, rfl, hq, hj⟩ := hrel
    rcases j with _ | t
    · have e : q = -1 := by omega
      subst e
      clear hq hj
      rw [Nat.pow_zero, Nat.div_one]
      go_wp2
      go_ret
      exact ⟨rfl, rfl⟩
    · have e : q = (t : Int) := by omega
      subst e
      clear hq
      have hbit := bit_cast y t
      rcases Nat.mod_two_eq_zero_or_one (y / 2 ^ t) with h | h
      · rw [h, Int.natCast_zero] at hbit
        have hp := pow_dbl x y t h
        generalize fW x (y / 2 ^ (t + 1)) = o at *
        have hp2 : Hid (fM o o = fW x (y / 2 ^ t)) := hp
        clear hp h
        go_wp2_with (go_at_call 61; refine Calls.mono (ref_Mul _ _ _) ?_; rintro e w' ⟨rfl, hw⟩; rw [hw]; clear hw)
        go_round
        case rel => exact ⟨t, (t : Int) - 1, by rw [← hp2.out], by go_num, rfl, by omega⟩
        case measure => simp only [intOf]; omega
      · rw [h, Int.natCast_one] at hbit
        have hp := pow_dbl1 x y t h
        generalize fW x (y / 2 ^ (t + 1)) = o at *
        have hp2 : Hid (fM (fM o o) x = fW x (y / 2 ^ t)) := hp
        clear hp h
        go_wp2_with (go_at_call 61; refine Calls.mono (ref_Mul _ _ _) ?_; rintro e w' ⟨rfl, hw⟩; rw [hw]; clear hw)
        go_round
        case rel => exact ⟨t, (t : Int) - 1, by rw [← hp2.out], by go_num, rfl, by omega⟩
        case measure => simp only [intOf]; omega

end Go.Proofs.YtgkepflnnoociacDoor
