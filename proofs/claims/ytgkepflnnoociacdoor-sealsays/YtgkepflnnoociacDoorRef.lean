/-
  What Add and Mul of package goldref answer, for all numbers of 64 bits: the same numbers as those of package field.
-/
import Derived.Test.YtgkepflnnoociacDoorRefN
namespace Go.Proofs.YtgkepflnnoociacDoor
open Go.RowKit

theorem ref_Add (a b : Nat) (w : World) :
    Calls Tryd.prog 60 #[.int .u64 (a : Int), .int .u64 (b : Int)] w fun e w' => e = .returned (.int .u64 ((fA a b : Nat) : Int)) ∧ w' = w := by
  have ba := fN_lt a
  have bb := fN_lt b
  have ea := rem_fN a
  have eb := rem_fN b
  by_cases h : 18446744069414584321 - (fN b : Int) ≤ (fN a : Int)
  · rw [add_ge a b h]
    go_enter Tryd.func60, Tryd.ntmps60
    go_wp2
    go_ret
    exact ⟨rfl, rfl⟩
  · rw [add_lt a b (by omega)]
    have h' : (fN a : Int) + (fN b : Int) < 18446744069414584321 := by omega
    replace h := decide_eq_false h
    go_enter Tryd.func60, Tryd.ntmps60
    go_wp2
    go_ret
    exact ⟨rfl, rfl⟩

/-! ### Mul: doubled, bit by bit -/
theorem half_step (y t : Nat) : y / 2 ^ t = 2 * (y / 2 ^ (t + 1)) + y / 2 ^ t % 2 := by
  rw [Nat.pow_succ, ← Nat.div_div_eq_div_mul]; omega

theorem mul_dbl (x y t : Nat) (h : y / 2 ^ t % 2 = 0) : fA (fM x (y / 2 ^ (t + 1))) (fM x (y / 2 ^ (t + 1))) = fM x (y / 2 ^ t) := by
  have e := half_step y t
  rw [h] at e
  rw [e, fA_eq, fM_eq, fM_eq, ← Nat.add_mod]
  congr 1
  grind
theorem mul_dbl1 (x y t : Nat) (h : y / 2 ^ t % 2 = 1) : fA (fA (fM x (y / 2 ^ (t + 1))) (fM x (y / 2 ^ (t + 1)))) x = fM x (y / 2 ^ t) := by
  have e := half_step y t
  rw [h] at e
  rw [e, fA_eq, fA_eq, fM_eq, fM_eq, ← Nat.add_mod, Nat.mod_add_mod]
  congr 1
  grind
theorem fM_fN (a b : Nat) : fM (fN a) (fN b) = fM a b := by
  rw [fM_eq, fM_eq, fN_eq, fN_eq, ← Nat.mul_mod]
theorem div_top (x y : Nat) (hy : (y : Int) < 18446744073709551616) : fM x (y / 2 ^ 64) = 0 := by
  have e : y / 2 ^ 64 = 0 := Nat.div_eq_of_lt (by omega)
  rw [e, fM_eq]; rfl
theorem bit_cast (y t : Nat) : ((y : Int) / 2 ^ t).tmod 2 = ((y / 2 ^ t % 2 : Nat) : Int) := by
  have e : (y : Int) / 2 ^ t = ((y / 2 ^ t : Nat) : Int) := by rw [Int.natCast_ediv, Int.natCast_pow]; rfl
  rw [e]
  generalize y / 2 ^ t = z
  rw [Int.tmod_eq_emod_of_nonneg (by omega)]; omega

set_option maxHeartbeats 1000000 in
theorem ref_Mul (a b : Nat) (w : World) :
    Calls Tryd.prog 61 #[.int .u64 (a : Int), .int .u64 (b : Int)] w fun e w' => e = .returned (.int .u64 ((fM a b : Nat) : Int)) ∧ w' = w := by
  have ea := rem_fN a
  have eb := rem_fN b
  have bx := fN_lt a
  have yb := fN_lt b
  have efin := fM_fN a b
  rw [← efin]
  clear efin
  generalize fN a = x at *
  generalize fN b = y at *
  go_enter Tryd.func61, Tryd.ntmps61
  go_wp2
  simp only [ea, eb]
  clear ea eb
  go_loop [5, 6] (fun vo vi => ∃ (j : Nat) (q : Int), vo = .int .u64 ((fM x (y / 2 ^ j) : Nat) : Int) ∧ vi = .int .i64 q ∧ q = (j : Int) - 1 ∧ j ≤ 64)
    (fun _ vi => (intOf vi + 1).toNat)
  case atStart => exact ⟨64, 63, by rw [div_top x y (by omega)]; rfl, rfl, rfl, by omega⟩
  case round =>
    obtain ⟨j, q, rfl, rfl, hq, hj⟩ := hrel
    have bo := fM_lt x (y / 2 ^ j)
    rcases j with _ | t
    · have e : q = -1 := by omega
      subst e
      clear hq hj bo
      rw [Nat.pow_zero, Nat.div_one]
      go_wp2
      go_ret
      exact ⟨rfl, rfl⟩
    · have e : q = (t : Int) := by omega
      subst e
      clear hq
      have b2 := fA_lt (fM x (y / 2 ^ (t + 1))) (fM x (y / 2 ^ (t + 1)))
      have hbit := bit_cast y t
      rcases Nat.mod_two_eq_zero_or_one (y / 2 ^ t) with h | h
      · rw [h, Int.natCast_zero] at hbit
        have hp := mul_dbl x y t h
        generalize fM x (y / 2 ^ (t + 1)) = o at *
        have hp2 : Hid (fA o o = fM x (y / 2 ^ t)) := hp
        clear hp h
        go_wp2_with (go_at_call 60; refine Calls.mono (ref_Add _ _ _) ?_; rintro e w' ⟨rfl, hw⟩; rw [hw]; clear hw)
        go_round
        case rel => exact ⟨t, (t : Int) - 1, by rw [← hp2.out], by go_num, rfl, by omega⟩
        case measure => simp only [intOf]; omega
      · rw [h, Int.natCast_one] at hbit
        have hp := mul_dbl1 x y t h
        generalize fM x (y / 2 ^ (t + 1)) = o at *
        have hp2 : Hid (fA (fA o o) x = fM x (y / 2 ^ t)) := hp
        clear hp h
        go_wp2_with (go_at_call 60; refine Calls.mono (ref_Add _ _ _) ?_; rintro e w' ⟨rfl, hw⟩; rw [hw]; clear hw)
        go_round
        case rel => exact ⟨t, (t : Int) - 1, by rw [← hp2.out], by go_num, rfl, by omega⟩
        case measure => simp only [intOf]; omega

end Go.Proofs.YtgkepflnnoociacDoor
