/-
  Numbers by the prime 2^64 - 2^32 + 1: the rest, the sum, the difference, the product, the power; the laws of a field; no program in sight.
-/
import Derived.Test.YtgfnjbkhncjhhaeDoorMath
namespace Go.Proofs.YtgfnjbkhncjhhaeDoor

/- Each is told by cases of its first number, so that no step of a walk lays it open. -/
def fN : Nat → Nat
  | 0 => 0
  | a + 1 => (a + 1) % P
def fA : Nat → Nat → Nat
  | 0, b => b % P
  | a + 1, b => (a + 1 + b) % P
def fS : Nat → Nat → Nat
  | 0, b => (P - b % P) % P
  | a + 1, b => (a + 1 + (P - b % P)) % P
def fM : Nat → Nat → Nat
  | 0, _ => 0
  | a + 1, b => (a + 1) * b % P
def fW : Nat → Nat → Nat
  | 0, n => 0 ^ n % P
  | a + 1, n => (a + 1) ^ n % P

theorem fN_eq (a : Nat) : fN a = a % P := by cases a <;> rfl
theorem fA_eq (a b : Nat) : fA a b = (a + b) % P := by cases a <;> simp [fA]
theorem fS_eq (a b : Nat) : fS a b = (a + (P - b % P)) % P := by cases a <;> simp [fS]
theorem fM_eq (a b : Nat) : fM a b = a * b % P := by cases a <;> simp [fM]
theorem fW_eq (a n : Nat) : fW a n = a ^ n % P := by cases a <;> simp [fW]

theorem lt_int {a : Nat} (h : a < P) : (a : Int) < 18446744069414584321 := by unfold P at h; omega
theorem fN_lt (a : Nat) : (fN a : Int) < 18446744069414584321 := lt_int (by rw [fN_eq]; exact Nat.mod_lt _ (by decide))
theorem fA_lt (a b : Nat) : (fA a b : Int) < 18446744069414584321 := lt_int (by rw [fA_eq]; exact Nat.mod_lt _ (by decide))
theorem fS_lt (a b : Nat) : (fS a b : Int) < 18446744069414584321 := lt_int (by rw [fS_eq]; exact Nat.mod_lt _ (by decide))
theorem fM_lt (a b : Nat) : (fM a b : Int) < 18446744069414584321 := lt_int (by rw [fM_eq]; exact Nat.mod_lt _ (by decide))
theorem fW_lt (a n : Nat) : (fW a n : Int) < 18446744069414584321 := lt_int (by rw [fW_eq]; exact Nat.mod_lt _ (by decide))

theorem not_dvd {a : Nat} (h : fN a ≠ 0) : ¬ P ∣ a := by
  intro hd
  rw [fN_eq] at h
  exact h (Nat.mod_eq_zero_of_dvd hd)
theorem fW_mod (a k : Nat) : fW a k % P = fW a k := by rw [fW_eq, Nat.mod_mod]
theorem inv_pow_k (a k : Nat) (hk : k + 1 = P - 1) (h : fN a ≠ 0) : fM a (fW a k) = 1 := by
  rw [fM_eq, fW_eq, Nat.mul_mod, Nat.mod_mod, ← Nat.mul_mod, Nat.mul_comm, ← Nat.pow_succ, Nat.succ_eq_add_one, hk]
  exact fermat_one prime_P (not_dvd h)
theorem inv_pow (a : Nat) (h : fN a ≠ 0) : fM a (fW a 18446744069414584319) = 1 := inv_pow_k a _ (by decide) h
theorem inv_unique (a x : Nat) (h : fN a ≠ 0) (hx : x < P) (hxa : x * a % P = 1) : x = fW a 18446744069414584319 := by
  have h1 := inv_pow a h
  have h2 := fW_mod a 18446744069414584319
  generalize fW a 18446744069414584319 = z at *
  rw [fM_eq] at h1
  have e : x * (a * z) % P = z % P := by
    rw [← Nat.mul_assoc, Nat.mul_mod, hxa, Nat.one_mul, Nat.mod_mod]
  rw [Nat.mul_mod, h1, Nat.mul_one, Nat.mod_mod, Nat.mod_eq_of_lt hx] at e
  rw [e, h2]

/-! ### The laws of a field -/
theorem fA_comm (a b : Nat) : fA a b = fA b a := by rw [fA_eq, fA_eq, Nat.add_comm]
theorem fM_comm (a b : Nat) : fM a b = fM b a := by rw [fM_eq, fM_eq, Nat.mul_comm]
theorem fA_fS (a b : Nat) : fA (fS a b) b = fN a := by rw [fA_eq, fS_eq, fN_eq]; unfold P; omega
theorem fM_one (a : Nat) : fM a 1 = fN a := by rw [fM_eq, fN_eq, Nat.mul_one]
theorem fM_assoc (a b c : Nat) : fM a (fM b c) = fM (fM a b) c := by
  simp only [fM_eq]
  rw [Nat.mul_mod, Nat.mod_mod, ← Nat.mul_mod, Nat.mod_mul_mod, Nat.mul_assoc]
theorem fM_fA (a b c : Nat) : fM a (fA b c) = fA (fM a b) (fM a c) := by
  simp only [fM_eq, fA_eq]
  rw [Nat.mul_mod, Nat.mod_mod, ← Nat.mul_mod, ← Nat.add_mod, Nat.mul_add]
theorem fW_add (a m n : Nat) : fW a (m + n) = fM (fW a m) (fW a n) := by
  simp only [fM_eq, fW_eq]
  rw [← Nat.mul_mod, Nat.pow_add]
theorem fW_P (a : Nat) : fW a P = fN a := by
  rw [fW_eq, fN_eq, fermat prime_P]
theorem fW_fW (a m n : Nat) : fW (fW a m) n = fW a (m * n) := by
  simp only [fW_eq]
  rw [← Nat.pow_mod, Nat.pow_mul]
theorem fW_two (a : Nat) : fW a 2 = fM a a := by rw [fW_eq, fM_eq, Nat.pow_two]

/-- The power, by squares: for numbers that are reckoned. -/
def pm : Nat → Nat → Nat → Nat → Nat
  | 0, _, _, r => r
  | f + 1, s, n, r => pm f (s * s % P) (n / 2) (if n % 2 = 1 then r * s % P else r)
theorem pm_eq : ∀ f s n r, n < 2 ^ f → r < P → pm f s n r = r * s ^ n % P := by
  intro f
  induction f with
  | zero =>
    intro s n r hn hr
    have e : n = 0 := by simpa using hn
    subst e
    show r = _
    rw [Nat.pow_zero, Nat.mul_one, Nat.mod_eq_of_lt hr]
  | succ f ih =>
    intro s n r hn hr
    have hn2 : n / 2 < 2 ^ f := by rw [Nat.pow_succ] at hn; omega
    show pm f (s * s % P) (n / 2) (if n % 2 = 1 then r * s % P else r) = _
    by_cases h : n % 2 = 1
    · rw [if_pos h, ih _ _ _ hn2 (Nat.mod_lt _ (by decide))]
      have e : n = 2 * (n / 2) + 1 := by omega
      conv => rhs; rw [e, Nat.pow_succ, Nat.pow_mul, Nat.pow_two]
      rw [Nat.mul_mod, ← Nat.pow_mod, Nat.mod_mod, ← Nat.mul_mod, Nat.mul_assoc, Nat.mul_comm s]
    · rw [if_neg h, ih _ _ _ hn2 hr]
      have e : n = 2 * (n / 2) := by omega
      conv => rhs; rw [e, Nat.pow_mul, Nat.pow_two]
      rw [Nat.mul_mod, ← Nat.pow_mod, ← Nat.mul_mod]
theorem fW_pm (a n : Nat) (hn : n < 2 ^ 64) : fW a n = pm 64 a n 1 := by
  rw [pm_eq 64 a n 1 hn (by decide), Nat.one_mul, fW_eq]

/-! ### Roots of 1 -/
def rt (k : Nat) : Nat := fW 7 (18446744069414584320 / 2 ^ k)
theorem rt_zero : rt 0 = 1 := by
  unfold rt
  rw [Nat.pow_zero, Nat.div_one, fW_pm _ _ (by decide)]; decide +kernel
theorem rt_one : rt 1 = 18446744069414584320 := by
  unfold rt
  rw [fW_pm _ _ (by decide)]; decide +kernel
theorem half_twice (i : Nat) (hi : i ≤ 31) : 18446744069414584320 / 2 ^ i = 18446744069414584320 / 2 ^ (i + 1) * 2 := by
  have e : 18446744069414584320 = 2 ^ (i + 1) * (2 ^ (31 - i) * 4294967295) := by
    rw [← Nat.mul_assoc, ← Nat.pow_add]
    have : i + 1 + (31 - i) = 32 := by omega
    rw [this]
  have e2 : 18446744069414584320 / 2 ^ (i + 1) = 2 ^ (31 - i) * 4294967295 := by
    rw [e]; exact Nat.mul_div_cancel_left _ (Nat.pow_pos (by decide))
  rw [e2]
  conv => lhs; rw [e]
  rw [Nat.pow_succ, Nat.mul_assoc (2 ^ i), Nat.mul_div_cancel_left _ (Nat.pow_pos (by decide)), Nat.mul_comm 2]
theorem rt_sq (i : Nat) (hi : i ≤ 31) : fM (rt (i + 1)) (rt (i + 1)) = rt i := by
  unfold rt
  rw [← fW_two, fW_fW, ← half_twice i hi]
theorem rt_half (i : Nat) (hi : i ≤ 31) : fW (rt (i + 1)) (2 ^ i) = 18446744069414584320 := by
  induction i with
  | zero =>
    rw [Nat.zero_add, rt_one, Nat.pow_zero, fW_eq, Nat.pow_one]; decide
  | succ i ih =>
    rw [Nat.pow_succ, Nat.mul_comm, ← fW_fW, fW_two, rt_sq (i + 1) hi]
    exact ih (by omega)

end Go.Proofs.YtgfnjbkhncjhhaeDoor
