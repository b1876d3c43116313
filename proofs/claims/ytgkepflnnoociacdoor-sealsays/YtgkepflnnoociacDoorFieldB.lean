/-
  What Mul and Pow of package field answer, for all numbers of 64 bits: the rest by the prime of the product and of the power.
-/
import Derived.Test.YtgkepflnnoociacDoorField
namespace Go.Proofs.YtgkepflnnoociacDoor
open Go.RowKit

/-! ### Mul -/
theorem mul_red (x : Nat) : fA (fS (x % 18446744073709551616) (x / 18446744073709551616 / 4294967296)) (x / 18446744073709551616 % 4294967296 * 4294967295) = x % P ∨ 340282366920938463463374607431768211456 ≤ x := by
  by_cases hx : 340282366920938463463374607431768211456 ≤ x
  · exact Or.inr hx
  left
  have e : x = x % 18446744073709551616 + 18446744073709551616 * (x / 18446744073709551616 % 4294967296 + 4294967296 * (x / 18446744073709551616 / 4294967296)) := by omega
  have b1 : x / 18446744073709551616 / 4294967296 < 4294967296 := by omega
  have b0 : x / 18446744073709551616 % 4294967296 < 4294967296 := by omega
  generalize x % 18446744073709551616 = lo at *
  generalize x / 18446744073709551616 % 4294967296 = h0 at *
  generalize x / 18446744073709551616 / 4294967296 = h1 at *
  rw [fA_eq, fS_eq, Nat.mod_add_mod]
  have e1 : h1 % P = h1 := Nat.mod_eq_of_lt (by unfold P; omega)
  rw [e1]
  have e2 : x + P = lo + (P - h1) + h0 * 4294967295 + P * (h0 + h1 * 4294967297) := by
    rw [e]; unfold P; omega
  have e3 : x % P = (x + P) % P := by simp
  rw [e3, e2, Nat.add_mul_mod_self_left]

theorem mul_walk (a b hi lo h1 h0 : Nat) (c : ∀ w, Calls Tryd.prog 161 #[.int .u64 a, .int .u64 b] w fun e w' => e = .returned (.tuple #[.int .u64 (hi : Int), .int .u64 (lo : Int)]) ∧ w' = w)
    (hlo : (lo : Int) < 18446744073709551616) (e1 : (hi : Int) / 4294967296 = (h1 : Int)) (e0 : bits .and .u64 (hi : Int) 4294967295 = (h0 : Int)) (b1 : (h1 : Int) < 4294967296) (b0 : (h0 : Int) < 4294967296) (w : World) :
    Calls Tryd.prog 142 #[.int .u64 (a : Int), .int .u64 (b : Int)] w fun e w' => e = .returned (.int .u64 ((fA (fS lo h1) (h0 * 4294967295) : Nat) : Int)) ∧ w' = w := by
  have bs := fS_lt lo h1
  have cs := field_Sub lo h1 hlo (by omega)
  have ca := field_Add (fS lo h1) (h0 * 4294967295) (by omega) (by omega)
  rw [Int.natCast_mul] at ca
  have e4 : ((4294967295 : Nat) : Int) = 4294967295 := rfl
  rw [e4] at ca
  clear e4
  go_enter Tryd.func142, Tryd.ntmps142
  go_wp2_with (first
    | (go_at_call 161; refine Calls.mono (c _) ?_; rintro e w' ⟨rfl, hw⟩; rw [hw]; clear hw)
    | (go_at_call 162; refine Calls.mono (cs _) ?_; rintro e w' ⟨rfl, hw⟩; rw [hw]; clear hw)
    | (go_at_call 144; refine Calls.mono (ca _) ?_; rintro e w' ⟨rfl, hw⟩; rw [hw]; clear hw))
  go_ret
  exact ⟨rfl, rfl⟩

theorem field_Mul (a b : Nat) (ha : (a : Int) < 18446744073709551616) (hb : (b : Int) < 18446744073709551616) (w : World) :
    Calls Tryd.prog 142 #[.int .u64 (a : Int), .int .u64 (b : Int)] w fun e w' => e = .returned (.int .u64 ((fM a b : Nat) : Int)) ∧ w' = w := by
  have hlt : a * b < 340282366920938463463374607431768211456 := by
    have := Nat.mul_le_mul (show a ≤ 18446744073709551615 by omega) (show b ≤ 18446744073709551615 by omega)
    omega
  have e : fA (fS (a * b % 18446744073709551616) (a * b / 18446744073709551616 / 4294967296)) (a * b / 18446744073709551616 % 4294967296 * 4294967295) = fM a b := by
    rw [fM_eq]
    rcases mul_red (a * b) with h | h
    · exact h
    · omega
  rw [← e]
  refine mul_walk a b _ _ _ _ (bits_Mul64 a b (by omega) (by omega)) (by omega) (high_half _) (low_half _ (by omega)) (by omega) (by omega) w

/-! ### Pow -/
theorem pow_even (r s n : Nat) : r * (fM s s) ^ (n / 2) % P = r * s ^ n % P ∨ n % 2 = 1 := by
  rcases Nat.mod_two_eq_zero_or_one n with h | h
  · left
    have e : n = 2 * (n / 2) := by omega
    rw [fM_eq]
    conv => rhs; rw [e, Nat.pow_mul, Nat.pow_two]
    rw [Nat.mul_mod, ← Nat.pow_mod, ← Nat.mul_mod]
  · exact Or.inr h
theorem pow_odd (r s n : Nat) : (fM r s) * (fM s s) ^ (n / 2) % P = r * s ^ n % P ∨ n % 2 = 0 := by
  rcases Nat.mod_two_eq_zero_or_one n with h | h
  · exact Or.inr h
  · left
    have e : n = 2 * (n / 2) + 1 := by omega
    rw [fM_eq, fM_eq]
    conv => rhs; rw [e, Nat.pow_succ, Nat.pow_mul, Nat.pow_two]
    rw [Nat.mul_mod, ← Nat.pow_mod, Nat.mod_mod, ← Nat.mul_mod, Nat.mul_assoc, Nat.mul_comm s]

set_option maxHeartbeats 1000000 in
theorem field_Pow (a m : Nat) (ha : (a : Int) < 18446744073709551616) (hm : (m : Int) < 18446744073709551616) (w : World) :
    Calls Tryd.prog 168 #[.int .u64 (a : Int), .int .u64 (m : Int)] w fun e w' => e = .returned (.int .u64 ((fW a m : Nat) : Int)) ∧ w' = w := by
  go_enter Tryd.func168, Tryd.ntmps168
  go_wp2
  go_loop [1, 5, 6] (fun vn vr vs => ∃ n r s : Nat, vn = .int .u64 (n : Int) ∧ vr = .int .u64 (r : Int) ∧ vs = .int .u64 (s : Int) ∧ (n : Int) < 18446744073709551616 ∧ (r : Int) < 18446744069414584321 ∧ (s : Int) < 18446744073709551616 ∧ Hid (r * s ^ n % P = fW a m))
    (fun vn _ _ => (intOf vn).toNat)
  case atStart => exact ⟨m, 1, a, rfl, rfl, rfl, hm, by omega, ha, by rw [Nat.one_mul]; exact (fW_eq a m).symm⟩
  case round =>
    obtain ⟨n, r, s, rfl, rfl, rfl, hn, hr, hs, hinv⟩ := hrel
    have b1 := fM_lt r s
    have b2 := fM_lt s s
    rcases Nat.eq_zero_or_pos n with h0 | h0
    · subst h0
      have e : r = fW a m := by
        have := hinv.out
        rw [Nat.pow_zero, Nat.mul_one, Nat.mod_eq_of_lt (by unfold P; omega)] at this
        exact this
      subst e
      go_wp2
      go_ret
      exact ⟨rfl, rfl⟩
    · have hb := and_one_u64 (n : Int) (by omega) (by omega)
      rcases Nat.mod_two_eq_zero_or_one n with h | h
      · have h2 : (n : Int) % 2 = 0 := by omega
        rw [h2] at hb
        have hp := pow_even r s n
        rw [h] at hp
        have hp2 : Hid (r * (fM s s) ^ (n / 2) % P = fW a m) := by
          rcases hp with hp | hp
          · exact hp.trans hinv.out
          · omega
        clear hp h2
        go_wp2_with (go_at_call 142; refine Calls.mono (field_Mul _ _ ?_ ?_ _) ?_; omega; omega; rintro e w' ⟨rfl, hw⟩; rw [hw]; clear hw)
        go_round
        case rel => exact ⟨n / 2, r, fM s s, by go_num, rfl, rfl, by omega, hr, by omega, hp2⟩
        case measure => simp only [intOf]; omega
      · have h2 : (n : Int) % 2 = 1 := by omega
        rw [h2] at hb
        have hp := pow_odd r s n
        rw [h] at hp
        have hp2 : Hid ((fM r s) * (fM s s) ^ (n / 2) % P = fW a m) := by
          rcases hp with hp | hp
          · exact hp.trans hinv.out
          · omega
        clear hp h2
        go_wp2_with (go_at_call 142; refine Calls.mono (field_Mul _ _ ?_ ?_ _) ?_; omega; omega; rintro e w' ⟨rfl, hw⟩; rw [hw]; clear hw)
        go_round
        case rel => exact ⟨n / 2, fM r s, fM s s, by go_num, rfl, rfl, by omega, b1, by omega, hp2⟩
        case measure => simp only [intOf]; omega

end Go.Proofs.YtgkepflnnoociacDoor
