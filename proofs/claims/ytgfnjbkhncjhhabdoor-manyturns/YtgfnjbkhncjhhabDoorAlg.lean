/-
  The field of the prime 2^64 - 2^32 + 1 as a type, sums over it, and how the numbers of the program stand in it; no program in sight.
-/
import Derived.Test.YtgfnjbkhncjhhabDoorNum
namespace Go.Proofs.YtgfnjbkhncjhhabDoor

abbrev F := Fin 18446744069414584321
def toF (n : Nat) : F := Fin.ofNat 18446744069414584321 n

theorem val_toF (n : Nat) : (toF n).val = n % P := rfl
theorem toF_val (x : F) : toF x.val = x := Fin.ext (Nat.mod_eq_of_lt x.isLt)
theorem toF_eq {a b : Nat} (h : a % P = b % P) : toF a = toF b := Fin.ext h
theorem mod_of_toF {a b : Nat} (h : toF a = toF b) : a % P = b % P := congrArg Fin.val h
theorem toF_zero : toF 0 = 0 := rfl
theorem toF_one : toF 1 = 1 := rfl
theorem toF_inj {a b : Nat} (ha : a < P) (hb : b < P) (h : toF a = toF b) : a = b := by
  have := mod_of_toF h
  rw [Nat.mod_eq_of_lt ha, Nat.mod_eq_of_lt hb] at this
  exact this
theorem val_lt (x : F) : x.val < P := x.isLt

theorem toF_add (a b : Nat) : toF (a + b) = toF a + toF b := by
  apply Fin.ext
  rw [Fin.val_add, val_toF, val_toF, val_toF]
  exact Nat.add_mod a b P
theorem toF_mul (a b : Nat) : toF (a * b) = toF a * toF b := by
  apply Fin.ext
  rw [Fin.val_mul, val_toF, val_toF, val_toF]
  exact Nat.mul_mod a b P
theorem toF_mod (a : Nat) : toF (a % P) = toF a := toF_eq (Nat.mod_mod a P)

theorem toF_fN (a : Nat) : toF (fN a) = toF a := by rw [fN_eq, toF_mod]
theorem toF_fA (a b : Nat) : toF (fA a b) = toF a + toF b := by rw [fA_eq, toF_mod, toF_add]
theorem toF_fM (a b : Nat) : toF (fM a b) = toF a * toF b := by rw [fM_eq, toF_mod, toF_mul]
theorem toF_fS (a b : Nat) : toF (fS a b) = toF a - toF b := by
  have h : toF (fS a b) + toF b = toF a := by
    rw [← toF_add]
    apply toF_eq
    rw [fS_eq]; unfold P; omega
  rw [← h]
  grind
theorem fN_val (a : Nat) : fN a = (toF a).val := by rw [fN_eq, val_toF]
theorem fA_val (a b : Nat) : fA a b = (toF a + toF b).val := by rw [← toF_fA, val_toF, fA_eq, Nat.mod_mod]
theorem fM_val (a b : Nat) : fM a b = (toF a * toF b).val := by rw [← toF_fM, val_toF, fM_eq, Nat.mod_mod]
theorem fS_val (a b : Nat) : fS a b = (toF a - toF b).val := by rw [← toF_fS, val_toF, fS_eq, Nat.mod_mod]
theorem fN_zero (a : Nat) : fN a = 0 ↔ toF a = 0 := by
  constructor
  · intro h
    rw [← toF_fN, h]; rfl
  · intro h
    rw [fN_val, h]; rfl

/-- Powers. -/
def pw (x : F) : Nat → F
  | 0 => 1
  | n + 1 => pw x n * x
theorem pw_zero (x : F) : pw x 0 = 1 := rfl
theorem pw_succ (x : F) (n : Nat) : pw x (n + 1) = pw x n * x := rfl
theorem pw_add (x : F) (m n : Nat) : pw x (m + n) = pw x m * pw x n := by
  induction n with
  | zero => rw [Nat.add_zero, pw_zero]; grind
  | succ n ih => rw [← Nat.add_assoc, pw_succ, pw_succ, ih]; grind
theorem pw_mul (x : F) (m n : Nat) : pw x (m * n) = pw (pw x m) n := by
  induction n with
  | zero => rfl
  | succ n ih => rw [Nat.mul_succ, pw_add, ih, pw_succ]
theorem toF_fW (a n : Nat) : toF (fW a n) = pw (toF a) n := by
  rw [fW_eq, toF_mod]
  induction n with
  | zero => rfl
  | succ n ih => rw [Nat.pow_succ, toF_mul, ih, pw_succ]
theorem fW_val (a n : Nat) : fW a n = (pw (toF a) n).val := by rw [← toF_fW, val_toF, fW_mod]

/-- No divisors of 0; inverses. -/
theorem mul_ne {x y : F} (h : x * y = 0) : x = 0 ∨ y = 0 := by
  rw [← toF_val x, ← toF_val y, ← toF_mul] at h
  have h2 : x.val * y.val % P = 0 % P := mod_of_toF (h.trans toF_zero.symm)
  rcases prime_P.dvd_mul (Nat.dvd_of_mod_eq_zero (h2.trans (Nat.zero_mod P))) with hd | hd
  · left
    apply Fin.ext
    exact Nat.eq_zero_of_dvd_of_lt hd x.isLt
  · right
    apply Fin.ext
    exact Nat.eq_zero_of_dvd_of_lt hd y.isLt
def inv (x : F) : F := toF (fW x.val 18446744069414584319)
theorem mul_inv {x : F} (h : x ≠ 0) : x * inv x = 1 := by
  have h1 : fN x.val ≠ 0 := by
    intro h2
    rw [fN_zero, toF_val] at h2
    exact h h2
  have h3 := inv_pow x.val h1
  unfold inv
  rw [← toF_val (x * _)]
  have h4 : (x * toF (fW x.val 18446744069414584319)).val = fM x.val (fW x.val 18446744069414584319) := by
    rw [fM_val, toF_val]
  rw [h4, h3]; rfl
theorem toF_inv (a : Nat) : toF (fW a 18446744069414584319) = inv (toF a) := by
  unfold inv
  rw [toF_fW, toF_fW, toF_val]
theorem mul_cancel {x y z : F} (h : x ≠ 0) (e : x * y = x * z) : y = z := by
  have h1 := mul_inv h
  have h2 : inv x * (x * y) = inv x * (x * z) := by rw [e]
  grind

/-- Sums. -/
def S (n : Nat) (f : Nat → F) : F := match n with
  | 0 => 0
  | n + 1 => S n f + f n
theorem S_zero (f : Nat → F) : S 0 f = 0 := rfl
theorem S_succ (n : Nat) (f : Nat → F) : S (n + 1) f = S n f + f n := rfl
theorem S_congr {n : Nat} {f g : Nat → F} (h : ∀ i, i < n → f i = g i) : S n f = S n g := by
  induction n with
  | zero => rfl
  | succ n ih => rw [S_succ, S_succ, ih (fun i hi => h i (by omega)), h n (by omega)]
theorem S_zeros {n : Nat} {f : Nat → F} (h : ∀ i, i < n → f i = 0) : S n f = 0 := by
  induction n with
  | zero => rfl
  | succ n ih => rw [S_succ, ih (fun i hi => h i (by omega)), h n (by omega)]; grind
theorem S_add (n : Nat) (f g : Nat → F) : S n (fun i => f i + g i) = S n f + S n g := by
  induction n with
  | zero => rw [S_zero, S_zero, S_zero]; grind
  | succ n ih => rw [S_succ, S_succ, S_succ, ih]; grind
theorem S_mul (n : Nat) (c : F) (f : Nat → F) : S n (fun i => c * f i) = c * S n f := by
  induction n with
  | zero => rw [S_zero, S_zero]; grind
  | succ n ih => rw [S_succ, S_succ, ih]; grind
theorem S_comm (m n : Nat) (f : Nat → Nat → F) : S m (fun i => S n (fun j => f i j)) = S n (fun j => S m (fun i => f i j)) := by
  induction m with
  | zero => rw [S_zero, S_zeros (fun i _ => S_zero _)]
  | succ m ih =>
    rw [S_succ, ih, ← S_add]
    exact S_congr fun j _ => rfl
theorem S_split (m n : Nat) (f : Nat → F) : S (m + n) f = S m f + S n (fun i => f (m + i)) := by
  induction n with
  | zero => rw [S_zero, Nat.add_zero]; grind
  | succ n ih => rw [← Nat.add_assoc, S_succ, ih, S_succ]; grind
theorem S_more {m n : Nat} (h : m ≤ n) {f : Nat → F} (h0 : ∀ i, m ≤ i → i < n → f i = 0) : S n f = S m f := by
  obtain ⟨k, rfl⟩ : ∃ k, n = m + k := ⟨n - m, by omega⟩
  rw [S_split, S_zeros (n := k) (fun i hi => h0 (m + i) (by omega) (by omega))]
  grind
theorem S_first (n : Nat) (f : Nat → F) : S (n + 1) f = f 0 + S n (fun i => f (i + 1)) := by
  induction n with
  | zero => rw [S_succ, S_zero, S_zero]; grind
  | succ n ih => rw [S_succ, ih, S_succ]; grind
theorem S_rev (n : Nat) (f : Nat → F) : S n f = S n (fun i => f (n - 1 - i)) := by
  induction n with
  | zero => rfl
  | succ n ih =>
    rw [S_first n (fun i => f (n + 1 - 1 - i)), S_succ, ih]
    have : S n (fun i => f (n - 1 - i)) = S n (fun i => f (n + 1 - 1 - (i + 1))) := S_congr fun i hi => by congr 1; omega
    rw [this]
    simp only [Nat.add_sub_cancel, Nat.sub_zero]
    grind

end Go.Proofs.YtgfnjbkhncjhhabDoor
