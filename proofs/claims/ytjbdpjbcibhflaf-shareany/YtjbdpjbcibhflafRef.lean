/-
  What Add and Mul of package goldref answer, for all numbers of 64 bits: the same numbers as those of package field.
-/
import Derived.Test.YtjbdpjbcibhflafRefN
namespace Go.Proofs.Ytjbdpjbcibhflaf
open Go.RowKit

/-! ### Mul: doubled, bit by bit -/
theorem half_step (y t : Nat) : y / 2 ^ t = 2 * (y / 2 ^ (t + 1)) + y / 2 ^ t % 2 := by
  rw [Nat.pow_succ, ← Nat.div_div_eq_div_mul]; omega

theorem mul_dbl (x y t : Nat) (h : y / 2 ^ t % 2 = 0) : fA (fM x (y / 2 ^ (t + 1))) (fM x (y / 2 ^ (t + 1))) = fM x (y / 2 ^ t) := by
  have e := half_step y t
  rw [h] at e
  rw [e, fA_eq, fM_eq, fM_eq, ← Nat.add_mod]
  congr 1
  grind
theorem mul_dbl1 (x y t : Nat) (h : y / 2 ^ t % 2 = 1) : fA (fA (fM x (y / 2 ^ (t + 1))) (fM x (y / 2 ^ (t + 1)))) x = fM x (y / 2 ^ t) := by
  have e := half_step y t
  rw [h] at e
  rw [e, fA_eq, fA_eq, fM_eq, fM_eq, ← Nat.add_mod, Nat.mod_add_mod]
  congr 1
  grind
theorem fM_fN (a b : Nat) : fM (fN a) (fN b) = fM a b := by
  rw [fM_eq, fM_eq, fN_eq, fN_eq, ← Nat.mul_mod]
theorem div_top (x y : Nat) (hy : (y : Int) < 18446744073709551616) : fM x (y / 2 ^ 64) = 0 := by
  have e : y / 2 ^ 64 = 0 := Nat.div_eq_of_lt (by omega)
  rw [e, fM_eq]; rfl
theorem bit_cast (y t : Nat) : ((y : Int) / 2 ^ t).tmod 2 = ((y / 2 ^ t % 2 : Nat) : Int) := by
  have e : (y : Int) / 2 ^ t = ((y / 2 ^ t : Nat) : Int) := by rw [Int.natCast_ediv, Int.natCast_pow]; rfl
  rw [e]
  generalize y / 2 ^ t = z
  rw [Int.tmod_eq_emod_of_nonneg (by omega)]; omega

end Go.Proofs.Ytjbdpjbcibhflaf
