/-
  Mathematics, with no program in sight: the prime, the field, polynomials, transforms, products round the end, arrays with axes.
-/
/- Plain arithmetic, no program in sight: the number 2^64 - 2^32 + 1 is a prime, FERMAT's theorem by it, and what sums, differences, products, powers and inverses by it are. -/
namespace Go.Proofs.YtmggccepmicjhagGreatDoor

/-! ### Primes, and FERMAT's theorem by any prime -/

def IsPrime (p : Nat) : Prop := 2 ≤ p ∧ ∀ d, d ∣ p → d = 1 ∨ d = p

theorem IsPrime.dvd_mul {p a b : Nat} (hp : IsPrime p) (h : p ∣ a * b) : p ∣ a ∨ p ∣ b := by
  rcases hp.2 (Nat.gcd p a) (Nat.gcd_dvd_left p a) with h1 | h1
  · exact Or.inr (Nat.Coprime.dvd_of_dvd_mul_left (show Nat.Coprime p a from h1) h)
  · exact Or.inl (h1 ▸ Nat.gcd_dvd_right p a)

theorem exists_prime_dvd : ∀ n : Nat, 2 ≤ n → ∃ d, d ∣ n ∧ IsPrime d := by
  intro n
  induction n using Nat.strongRecOn with
  | ind n ih =>
    intro hn
    by_cases h : ∃ e, e ∣ n ∧ e ≠ 1 ∧ e ≠ n
    · obtain ⟨e, he, h1, h2⟩ := h
      have hle : e ≤ n := Nat.le_of_dvd (by omega) he
      have h0 : e ≠ 0 := by rintro rfl; exact absurd (Nat.zero_dvd.mp he) (by omega)
      obtain ⟨d, hd, hp⟩ := ih e (by omega) (by omega)
      exact ⟨d, Nat.dvd_trans hd he, hp⟩
    · refine ⟨n, Nat.dvd_refl n, hn, fun d hd => ?_⟩
      by_cases h1 : d = 1
      · exact Or.inl h1
      · by_cases h2 : d = n
        · exact Or.inr h2
        · exact absurd ⟨d, hd, h1, h2⟩ h

/-- How many ways to choose k of n. -/
def ch : Nat → Nat → Nat
  | _, 0 => 1
  | 0, _ + 1 => 0
  | n + 1, k + 1 => ch n k + ch n (k + 1)

theorem ch_zero (n : Nat) : ch n 0 = 1 := by cases n <;> rfl
theorem ch_above : ∀ n k, n < k → ch n k = 0 := by
  intro n
  induction n with
  | zero => intro k h; cases k with
    | zero => omega
    | succ k => rfl
  | succ n ih => intro k h; cases k with
    | zero => omega
    | succ k => simp only [ch]; rw [ih k (by omega), ih (k + 1) (by omega)]
theorem ch_self (n : Nat) : ch n n = 1 := by
  induction n with
  | zero => rfl
  | succ n ih => simp only [ch]; rw [ih, ch_above n (n + 1) (by omega)]

theorem ch_mul : ∀ n k, (k + 1) * ch (n + 1) (k + 1) = (n + 1) * ch n k := by
  intro n
  induction n with
  | zero => intro k; cases k with
    | zero => rfl
    | succ k => simp [ch]
  | succ n ih =>
    intro k
    cases k with
    | zero =>
      have h := ih 0
      simp only [ch, ch_zero] at h ⊢
      omega
    | succ k =>
      have h1 := ih k
      have h2 := ih (k + 1)
      have e : ch (n + 1 + 1) (k + 1 + 1) = ch (n + 1) (k + 1) + ch (n + 1) (k + 1 + 1) := rfl
      have e2 : ch (n + 1) (k + 1) = ch n k + ch n (k + 1) := rfl
      rw [e, Nat.mul_add, h2, Nat.add_mul (k + 1) 1, h1, e2]
      grind

/-- The first m summands of the binomial sum. -/
def bsum (n : Nat) (x : Nat) : Nat → Nat
  | 0 => 0
  | m + 1 => bsum n x m + ch n m * x ^ m

theorem bsum_succ (n x : Nat) : ∀ m, bsum (n + 1) x (m + 1) = bsum n x (m + 1) + x * bsum n x m := by
  intro m
  induction m with
  | zero => simp [bsum, ch_zero]
  | succ m ih =>
    have e1 : bsum (n + 1) x (m + 1 + 1) = bsum (n + 1) x (m + 1) + ch (n + 1) (m + 1) * x ^ (m + 1) := rfl
    have e2 : bsum n x (m + 1 + 1) = bsum n x (m + 1) + ch n (m + 1) * x ^ (m + 1) := rfl
    have e3 : bsum n x (m + 1) = bsum n x m + ch n m * x ^ m := rfl
    have e4 : ch (n + 1) (m + 1) = ch n m + ch n (m + 1) := rfl
    have e5 : x * bsum n x (m + 1) = x * bsum n x m + ch n m * x ^ (m + 1) := by
      rw [e3, Nat.pow_succ]
      grind
    rw [e1, ih, e2, e4, e5, Nat.add_mul]
    omega

theorem binom (n x : Nat) : (x + 1) ^ n = bsum n x (n + 1) := by
  induction n with
  | zero => simp [bsum, ch_zero]
  | succ n ih =>
    rw [bsum_succ, Nat.pow_succ, ih, Nat.mul_add]
    have : bsum n x (n + 1 + 1) = bsum n x (n + 1) := by
      show bsum n x (n + 1) + ch n (n + 1) * x ^ (n + 1) = _
      rw [ch_above n (n + 1) (by omega)]; simp
    rw [this, Nat.mul_comm x]; omega

theorem ch_dvd {p : Nat} (hp : IsPrime p) {k : Nat} (h0 : 0 < k) (h1 : k < p) : p ∣ ch p k := by
  obtain ⟨n, rfl⟩ : ∃ n, p = n + 1 := ⟨p - 1, by omega⟩
  obtain ⟨j, rfl⟩ : ∃ j, k = j + 1 := ⟨k - 1, by omega⟩
  have h := ch_mul n j
  have hd : n + 1 ∣ (j + 1) * ch (n + 1) (j + 1) := ⟨ch n j, h⟩
  rcases hp.dvd_mul hd with h2 | h2
  · exact absurd (Nat.le_of_dvd (by omega) h2) (by omega)
  · exact h2

theorem bsum_mod {p : Nat} (hp : IsPrime p) (x : Nat) : ∀ m, m + 1 ≤ p → bsum p x (m + 1) % p = 1 % p := by
  intro m
  induction m with
  | zero => intro _; simp [bsum, ch_zero]
  | succ m ih =>
    intro h
    have e : bsum p x (m + 1 + 1) = bsum p x (m + 1) + ch p (m + 1) * x ^ (m + 1) := rfl
    obtain ⟨c, hc⟩ := ch_dvd hp (k := m + 1) (by omega) (by omega)
    rw [e, hc, Nat.mul_assoc, Nat.add_mul_mod_self_left, ih (by omega)]

/-- FERMAT: the p-th power is the number itself, by p. -/
theorem fermat {p : Nat} (hp : IsPrime p) (a : Nat) : a ^ p % p = a % p := by
  induction a with
  | zero =>
    have := hp.1
    rw [Nat.zero_pow (by omega)]
  | succ a ih =>
    have h2 := hp.1
    obtain ⟨m, rfl⟩ : ∃ m, p = m + 1 := ⟨p - 1, by omega⟩
    have e : bsum (m + 1) a (m + 1 + 1) = bsum (m + 1) a (m + 1) + ch (m + 1) (m + 1) * a ^ (m + 1) := rfl
    rw [binom, e, ch_self, Nat.one_mul, Nat.add_mod, ih, bsum_mod hp a m (by omega), ← Nat.add_mod, Nat.add_comm]

theorem dvd_sub_of_mod {p a b : Nat} (_hle : a ≤ b) (h : b % p = a % p) : p ∣ b - a := by
  have h1 := Nat.div_add_mod b p
  have h2 := Nat.div_add_mod a p
  refine ⟨b / p - a / p, ?_⟩
  rw [Nat.mul_sub]; omega

theorem fermat_one {p : Nat} (hp : IsPrime p) {a : Nat} (h : ¬ p ∣ a) : a ^ (p - 1) % p = 1 := by
  have h2 := hp.1
  have hf := fermat hp a
  have e : a ^ p = a ^ (p - 1) * a := by rw [← Nat.pow_succ]; congr 1; omega
  have h1 : 1 ≤ a ^ (p - 1) := by
    apply Nat.pow_pos
    rcases Nat.eq_zero_or_pos a with h0 | h0
    · exact absurd (h0 ▸ Nat.dvd_zero p) h
    · exact h0
  have hle : a ≤ a ^ p := by rw [e]; exact Nat.le_mul_of_pos_left a h1
  have hd : p ∣ a ^ p - a := dvd_sub_of_mod hle hf
  have e2 : a ^ p - a = (a ^ (p - 1) - 1) * a := by rw [e, Nat.sub_mul, Nat.one_mul]
  rw [e2] at hd
  rcases hp.dvd_mul hd with h3 | h3
  · obtain ⟨c, hc⟩ := h3
    have h4 : a ^ (p - 1) = 1 + p * c := by omega
    rw [h4, Nat.add_mul_mod_self_left]; exact Nat.mod_eq_of_lt (by omega)
  · exact absurd h3 h

/-! ### The prime -/

def P : Nat := 18446744069414584321

/-- Squared by P, k times. -/
def sqs : Nat → Nat → Nat
  | 0, x => x % P
  | k + 1, x => sqs k (x * x % P)

theorem sqs_eq (k : Nat) : ∀ x, sqs k x = x ^ 2 ^ k % P := by
  induction k with
  | zero => intro x; simp [sqs]
  | succ k ih =>
    intro x
    show sqs k (x * x % P) = _
    rw [ih, ← Nat.pow_mod, Nat.pow_succ, Nat.mul_comm (2 ^ k) 2, Nat.pow_mul, Nat.pow_two]

theorem root_pow : ∃ h : Nat, sqs 31 h = P - 1 := ⟨1753635133440165772, by decide +kernel⟩

theorem neg_one {y : Nat} (h : y % P = P - 1) : (y + 1) % P = 0 := by unfold P at *; omega
theorem dvd_pow_of {a b k : Nat} (h : a ∣ b) (hk : 0 < k) : a ∣ b ^ k := by
  obtain ⟨j, rfl⟩ : ∃ j, k = j + 1 := ⟨k - 1, by omega⟩
  rw [Nat.pow_succ]; exact Nat.dvd_trans h (Nat.dvd_mul_left _ _)

/-- A prime that divides P is 1 more than a multiple of 2^32. -/
theorem dvd_form {d : Nat} (hd : d ∣ P) (hp : IsPrime d) : 2 ^ 32 ∣ d - 1 := by
  have h2 := hp.1
  have hodd : d ≠ 2 := by rintro rfl; exact absurd hd (by decide)
  -- the root's 2^31-th power is -1 by d too
  obtain ⟨h, hh⟩ := root_pow
  obtain ⟨K, hK, hK0⟩ : ∃ K, K = 2 ^ 31 ∧ 0 < K := ⟨2 ^ 31, rfl, by decide⟩
  rw [sqs_eq, ← hK] at hh
  have hr : (h ^ K + 1) % d = 0 := by
    have e : (h ^ K + 1) % P = 0 := neg_one hh
    exact Nat.mod_eq_zero_of_dvd (Nat.dvd_trans hd (Nat.dvd_of_mod_eq_zero e))
  have hnd : ¬ d ∣ h := by
    intro hdh
    have h3 : d ∣ h ^ K := dvd_pow_of hdh hK0
    have h4 : d ∣ h ^ K + 1 := Nat.dvd_of_mod_eq_zero hr
    have h5 := (Nat.dvd_add_right h3).mp h4
    have := Nat.le_of_dvd (by omega) h5
    omega
  have hf := fermat_one hp hnd
  -- an odd power of the power is -1
  have hneg : ∀ t, ((h ^ K) ^ (2 * t + 1) + 1) % d = 0 := by
    generalize h ^ K = y at hr
    intro t
    induction t with
    | zero => simpa using hr
    | succ t ih =>
      have e : y ^ (2 * (t + 1) + 1) + 1 + (y ^ (2 * t + 1) * (y + 1)) = y ^ (2 * t + 1) * y * (y + 1) + (y ^ (2 * t + 1) + 1) := by
        have : 2 * (t + 1) + 1 = 2 * t + 1 + 1 + 1 := by omega
        rw [this, Nat.pow_succ, Nat.pow_succ]
        generalize y ^ (2 * t + 1) = z
        rw [Nat.mul_add, Nat.mul_add]; omega
      have d1 : d ∣ y ^ (2 * t + 1) * y * (y + 1) + (y ^ (2 * t + 1) + 1) :=
        Nat.dvd_add (Nat.dvd_trans (Nat.dvd_of_mod_eq_zero hr) (Nat.dvd_mul_left _ _)) (Nat.dvd_of_mod_eq_zero ih)
      have d2 : d ∣ y ^ (2 * t + 1) * (y + 1) := Nat.dvd_trans (Nat.dvd_of_mod_eq_zero hr) (Nat.dvd_mul_left _ _)
      rw [← e] at d1
      exact Nat.mod_eq_zero_of_dvd ((Nat.dvd_add_left d2).mp d1)
  have step : ∀ j, j ≤ 32 → 2 ^ j ∣ d - 1 := by
    intro j
    induction j with
    | zero => intro _; exact ⟨d - 1, by omega⟩
    | succ j ih =>
      intro hj
      obtain ⟨m, hm⟩ := ih (by omega)
      rcases Nat.mod_two_eq_zero_or_one m with he | ho
      · refine ⟨m / 2, ?_⟩
        rw [hm, Nat.pow_succ, Nat.mul_assoc]
        congr 1
        omega
      · exfalso
        have h6 := hneg (m / 2)
        have e : 2 * (m / 2) + 1 = m := by omega
        rw [e, ← Nat.pow_mul] at h6
        have e2 : K * m = (d - 1) * 2 ^ (31 - j) := by
          rw [hK, hm, Nat.mul_right_comm, ← Nat.pow_add]
          congr 2; omega
        rw [e2, Nat.pow_mul, Nat.add_mod, Nat.pow_mod, hf, Nat.one_pow] at h6
        have e3 : 1 % d = 1 := Nat.mod_eq_of_lt (by omega)
        rw [e3] at h6
        have : (1 + 1) % d = 2 := Nat.mod_eq_of_lt (by omega)
        omega
  exact step 32 (Nat.le_refl _)

theorem prime_P : IsPrime P := by
  refine ⟨by decide, fun d hd => ?_⟩
  have hPpos : 0 < P := by decide
  obtain ⟨e, he⟩ := hd
  by_cases h1 : d = 1
  · exact Or.inl h1
  by_cases h2 : e = 1
  · exact Or.inr (by rw [he, h2, Nat.mul_one])
  exfalso
  have hd0 : d ≠ 0 := by rintro rfl; rw [Nat.zero_mul] at he; omega
  have he0 : e ≠ 0 := by rintro rfl; rw [Nat.mul_zero] at he; omega
  have big : ∀ n, n ∣ P → 2 ≤ n → 4294967297 ≤ n := by
    intro n hn hn2
    obtain ⟨q, hq, hqp⟩ := exists_prime_dvd n hn2
    have hf := dvd_form (Nat.dvd_trans hq hn) hqp
    have := hqp.1
    have h3 := Nat.le_of_dvd (by omega) hf
    have h4 := Nat.le_of_dvd (by omega) hq
    omega
  have b1 := big d ⟨e, he⟩ (by omega)
  have b2 := big e ⟨d, by rw [he, Nat.mul_comm]⟩ (by omega)
  have b3 := Nat.mul_le_mul b1 b2
  rw [← he] at b3
  exact absurd b3 (by decide)

#print axioms prime_P
end Go.Proofs.YtmggccepmicjhagGreatDoor

/- Numbers by the prime 2^64 - 2^32 + 1: the rest, the sum, the difference, the product, the power; the laws of a field; no program in sight. -/
namespace Go.Proofs.YtmggccepmicjhagGreatDoor

/- Each is told by cases of its first number, so that no step of a walk lays it open. -/
def fN : Nat → Nat
  | 0 => 0
  | a + 1 => (a + 1) % P
def fA : Nat → Nat → Nat
  | 0, b => b % P
  | a + 1, b => (a + 1 + b) % P
def fS : Nat → Nat → Nat
  | 0, b => (P - b % P) % P
  | a + 1, b => (a + 1 + (P - b % P)) % P
def fM : Nat → Nat → Nat
  | 0, _ => 0
  | a + 1, b => (a + 1) * b % P
def fW : Nat → Nat → Nat
  | 0, n => 0 ^ n % P
  | a + 1, n => (a + 1) ^ n % P

theorem fN_eq (a : Nat) : fN a = a % P := by cases a <;> rfl
theorem fA_eq (a b : Nat) : fA a b = (a + b) % P := by cases a <;> simp [fA]
theorem fS_eq (a b : Nat) : fS a b = (a + (P - b % P)) % P := by cases a <;> simp [fS]
theorem fM_eq (a b : Nat) : fM a b = a * b % P := by cases a <;> simp [fM]
theorem fW_eq (a n : Nat) : fW a n = a ^ n % P := by cases a <;> simp [fW]

theorem lt_int {a : Nat} (h : a < P) : (a : Int) < 18446744069414584321 := by unfold P at h; omega
theorem fN_lt (a : Nat) : (fN a : Int) < 18446744069414584321 := lt_int (by rw [fN_eq]; exact Nat.mod_lt _ (by decide))
theorem fA_lt (a b : Nat) : (fA a b : Int) < 18446744069414584321 := lt_int (by rw [fA_eq]; exact Nat.mod_lt _ (by decide))
theorem fS_lt (a b : Nat) : (fS a b : Int) < 18446744069414584321 := lt_int (by rw [fS_eq]; exact Nat.mod_lt _ (by decide))
theorem fM_lt (a b : Nat) : (fM a b : Int) < 18446744069414584321 := lt_int (by rw [fM_eq]; exact Nat.mod_lt _ (by decide))
theorem fW_lt (a n : Nat) : (fW a n : Int) < 18446744069414584321 := lt_int (by rw [fW_eq]; exact Nat.mod_lt _ (by decide))

theorem not_dvd {a : Nat} (h : fN a ≠ 0) : ¬ P ∣ a := by
  intro hd
  rw [fN_eq] at h
  exact h (Nat.mod_eq_zero_of_dvd hd)
theorem fW_mod (a k : Nat) : fW a k % P = fW a k := by rw [fW_eq, Nat.mod_mod]
theorem inv_pow_k (a k : Nat) (hk : k + 1 = P - 1) (h : fN a ≠ 0) : fM a (fW a k) = 1 := by
  rw [fM_eq, fW_eq, Nat.mul_mod, Nat.mod_mod, ← Nat.mul_mod, Nat.mul_comm, ← Nat.pow_succ, Nat.succ_eq_add_one, hk]
  exact fermat_one prime_P (not_dvd h)
theorem inv_pow (a : Nat) (h : fN a ≠ 0) : fM a (fW a 18446744069414584319) = 1 := inv_pow_k a _ (by decide) h
theorem inv_unique (a x : Nat) (h : fN a ≠ 0) (hx : x < P) (hxa : x * a % P = 1) : x = fW a 18446744069414584319 := by
  have h1 := inv_pow a h
  have h2 := fW_mod a 18446744069414584319
  generalize fW a 18446744069414584319 = z at *
  rw [fM_eq] at h1
  have e : x * (a * z) % P = z % P := by
    rw [← Nat.mul_assoc, Nat.mul_mod, hxa, Nat.one_mul, Nat.mod_mod]
  rw [Nat.mul_mod, h1, Nat.mul_one, Nat.mod_mod, Nat.mod_eq_of_lt hx] at e
  rw [e, h2]

/-! ### The laws of a field -/
theorem fA_comm (a b : Nat) : fA a b = fA b a := by rw [fA_eq, fA_eq, Nat.add_comm]
theorem fM_comm (a b : Nat) : fM a b = fM b a := by rw [fM_eq, fM_eq, Nat.mul_comm]
theorem fA_fS (a b : Nat) : fA (fS a b) b = fN a := by rw [fA_eq, fS_eq, fN_eq]; unfold P; omega
theorem fM_one (a : Nat) : fM a 1 = fN a := by rw [fM_eq, fN_eq, Nat.mul_one]
theorem fM_assoc (a b c : Nat) : fM a (fM b c) = fM (fM a b) c := by
  simp only [fM_eq]
  rw [Nat.mul_mod, Nat.mod_mod, ← Nat.mul_mod, Nat.mod_mul_mod, Nat.mul_assoc]
theorem fM_fA (a b c : Nat) : fM a (fA b c) = fA (fM a b) (fM a c) := by
  simp only [fM_eq, fA_eq]
  rw [Nat.mul_mod, Nat.mod_mod, ← Nat.mul_mod, ← Nat.add_mod, Nat.mul_add]
theorem fW_add (a m n : Nat) : fW a (m + n) = fM (fW a m) (fW a n) := by
  simp only [fM_eq, fW_eq]
  rw [← Nat.mul_mod, Nat.pow_add]
theorem fW_P (a : Nat) : fW a P = fN a := by
  rw [fW_eq, fN_eq, fermat prime_P]
theorem fW_fW (a m n : Nat) : fW (fW a m) n = fW a (m * n) := by
  simp only [fW_eq]
  rw [← Nat.pow_mod, Nat.pow_mul]
theorem fW_two (a : Nat) : fW a 2 = fM a a := by rw [fW_eq, fM_eq, Nat.pow_two]

/-- The power, by squares: for numbers that are reckoned. -/
def pm : Nat → Nat → Nat → Nat → Nat
  | 0, _, _, r => r
  | f + 1, s, n, r => pm f (s * s % P) (n / 2) (if n % 2 = 1 then r * s % P else r)
theorem pm_eq : ∀ f s n r, n < 2 ^ f → r < P → pm f s n r = r * s ^ n % P := by
  intro f
  induction f with
  | zero =>
    intro s n r hn hr
    have e : n = 0 := by simpa using hn
    subst e
    show r = _
    rw [Nat.pow_zero, Nat.mul_one, Nat.mod_eq_of_lt hr]
  | succ f ih =>
    intro s n r hn hr
    have hn2 : n / 2 < 2 ^ f := by rw [Nat.pow_succ] at hn; omega
    show pm f (s * s % P) (n / 2) (if n % 2 = 1 then r * s % P else r) = _
    by_cases h : n % 2 = 1
    · rw [if_pos h, ih _ _ _ hn2 (Nat.mod_lt _ (by decide))]
      have e : n = 2 * (n / 2) + 1 := by omega
      conv => rhs; rw [e, Nat.pow_succ, Nat.pow_mul, Nat.pow_two]
      rw [Nat.mul_mod, ← Nat.pow_mod, Nat.mod_mod, ← Nat.mul_mod, Nat.mul_assoc, Nat.mul_comm s]
    · rw [if_neg h, ih _ _ _ hn2 hr]
      have e : n = 2 * (n / 2) := by omega
      conv => rhs; rw [e, Nat.pow_mul, Nat.pow_two]
      rw [Nat.mul_mod, ← Nat.pow_mod, ← Nat.mul_mod]
theorem fW_pm (a n : Nat) (hn : n < 2 ^ 64) : fW a n = pm 64 a n 1 := by
  rw [pm_eq 64 a n 1 hn (by decide), Nat.one_mul, fW_eq]

/-! ### Roots of 1 -/
def rt (k : Nat) : Nat := fW 7 (18446744069414584320 / 2 ^ k)
theorem rt_zero : rt 0 = 1 := by
  unfold rt
  rw [Nat.pow_zero, Nat.div_one, fW_pm _ _ (by decide)]; decide +kernel
theorem rt_one : rt 1 = 18446744069414584320 := by
  unfold rt
  rw [fW_pm _ _ (by decide)]; decide +kernel
theorem half_twice (i : Nat) (hi : i ≤ 31) : 18446744069414584320 / 2 ^ i = 18446744069414584320 / 2 ^ (i + 1) * 2 := by
  have e : 18446744069414584320 = 2 ^ (i + 1) * (2 ^ (31 - i) * 4294967295) := by
    rw [← Nat.mul_assoc, ← Nat.pow_add]
    have : i + 1 + (31 - i) = 32 := by omega
    rw [this]
  have e2 : 18446744069414584320 / 2 ^ (i + 1) = 2 ^ (31 - i) * 4294967295 := by
    rw [e]; exact Nat.mul_div_cancel_left _ (Nat.pow_pos (by decide))
  rw [e2]
  conv => lhs; rw [e]
  rw [Nat.pow_succ, Nat.mul_assoc (2 ^ i), Nat.mul_div_cancel_left _ (Nat.pow_pos (by decide)), Nat.mul_comm 2]
theorem rt_sq (i : Nat) (hi : i ≤ 31) : fM (rt (i + 1)) (rt (i + 1)) = rt i := by
  unfold rt
  rw [← fW_two, fW_fW, ← half_twice i hi]
theorem rt_half (i : Nat) (hi : i ≤ 31) : fW (rt (i + 1)) (2 ^ i) = 18446744069414584320 := by
  induction i with
  | zero =>
    rw [Nat.zero_add, rt_one, Nat.pow_zero, fW_eq, Nat.pow_one]; decide
  | succ i ih =>
    rw [Nat.pow_succ, Nat.mul_comm, ← fW_fW, fW_two, rt_sq (i + 1) hi]
    exact ih (by omega)

end Go.Proofs.YtmggccepmicjhagGreatDoor

/- The field of the prime 2^64 - 2^32 + 1 as a type, sums over it, and how the numbers of the program stand in it; no program in sight. -/
namespace Go.Proofs.YtmggccepmicjhagGreatDoor

abbrev F := Fin 18446744069414584321
def toF (n : Nat) : F := Fin.ofNat 18446744069414584321 n

theorem val_toF (n : Nat) : (toF n).val = n % P := rfl
theorem toF_val (x : F) : toF x.val = x := Fin.ext (Nat.mod_eq_of_lt x.isLt)
theorem toF_eq {a b : Nat} (h : a % P = b % P) : toF a = toF b := Fin.ext h
theorem mod_of_toF {a b : Nat} (h : toF a = toF b) : a % P = b % P := congrArg Fin.val h
theorem toF_zero : toF 0 = 0 := rfl
theorem toF_one : toF 1 = 1 := rfl
theorem toF_inj {a b : Nat} (ha : a < P) (hb : b < P) (h : toF a = toF b) : a = b := by
  have := mod_of_toF h
  rw [Nat.mod_eq_of_lt ha, Nat.mod_eq_of_lt hb] at this
  exact this
theorem val_lt (x : F) : x.val < P := x.isLt

theorem toF_add (a b : Nat) : toF (a + b) = toF a + toF b := by
  apply Fin.ext
  rw [Fin.val_add, val_toF, val_toF, val_toF]
  exact Nat.add_mod a b P
theorem toF_mul (a b : Nat) : toF (a * b) = toF a * toF b := by
  apply Fin.ext
  rw [Fin.val_mul, val_toF, val_toF, val_toF]
  exact Nat.mul_mod a b P
theorem toF_mod (a : Nat) : toF (a % P) = toF a := toF_eq (Nat.mod_mod a P)

theorem toF_fN (a : Nat) : toF (fN a) = toF a := by rw [fN_eq, toF_mod]
theorem toF_fA (a b : Nat) : toF (fA a b) = toF a + toF b := by rw [fA_eq, toF_mod, toF_add]
theorem toF_fM (a b : Nat) : toF (fM a b) = toF a * toF b := by rw [fM_eq, toF_mod, toF_mul]
theorem toF_fS (a b : Nat) : toF (fS a b) = toF a - toF b := by
  have h : toF (fS a b) + toF b = toF a := by
    rw [← toF_add]
    apply toF_eq
    rw [fS_eq]; unfold P; omega
  rw [← h]
  grind
theorem fN_val (a : Nat) : fN a = (toF a).val := by rw [fN_eq, val_toF]
theorem fA_val (a b : Nat) : fA a b = (toF a + toF b).val := by rw [← toF_fA, val_toF, fA_eq, Nat.mod_mod]
theorem fM_val (a b : Nat) : fM a b = (toF a * toF b).val := by rw [← toF_fM, val_toF, fM_eq, Nat.mod_mod]
theorem fS_val (a b : Nat) : fS a b = (toF a - toF b).val := by rw [← toF_fS, val_toF, fS_eq, Nat.mod_mod]
theorem fN_zero (a : Nat) : fN a = 0 ↔ toF a = 0 := by
  constructor
  · intro h
    rw [← toF_fN, h]; rfl
  · intro h
    rw [fN_val, h]; rfl

/-- Powers. -/
def pw (x : F) : Nat → F
  | 0 => 1
  | n + 1 => pw x n * x
theorem pw_zero (x : F) : pw x 0 = 1 := rfl
theorem pw_succ (x : F) (n : Nat) : pw x (n + 1) = pw x n * x := rfl
theorem pw_add (x : F) (m n : Nat) : pw x (m + n) = pw x m * pw x n := by
  induction n with
  | zero => rw [Nat.add_zero, pw_zero]; grind
  | succ n ih => rw [← Nat.add_assoc, pw_succ, pw_succ, ih]; grind
theorem pw_mul (x : F) (m n : Nat) : pw x (m * n) = pw (pw x m) n := by
  induction n with
  | zero => rfl
  | succ n ih => rw [Nat.mul_succ, pw_add, ih, pw_succ]
theorem toF_fW (a n : Nat) : toF (fW a n) = pw (toF a) n := by
  rw [fW_eq, toF_mod]
  induction n with
  | zero => rfl
  | succ n ih => rw [Nat.pow_succ, toF_mul, ih, pw_succ]
theorem fW_val (a n : Nat) : fW a n = (pw (toF a) n).val := by rw [← toF_fW, val_toF, fW_mod]

/-- No divisors of 0; inverses. -/
theorem mul_ne {x y : F} (h : x * y = 0) : x = 0 ∨ y = 0 := by
  rw [← toF_val x, ← toF_val y, ← toF_mul] at h
  have h2 : x.val * y.val % P = 0 % P := mod_of_toF (h.trans toF_zero.symm)
  rcases prime_P.dvd_mul (Nat.dvd_of_mod_eq_zero (h2.trans (Nat.zero_mod P))) with hd | hd
  · left
    apply Fin.ext
    exact Nat.eq_zero_of_dvd_of_lt hd x.isLt
  · right
    apply Fin.ext
    exact Nat.eq_zero_of_dvd_of_lt hd y.isLt
def inv (x : F) : F := toF (fW x.val 18446744069414584319)
theorem mul_inv {x : F} (h : x ≠ 0) : x * inv x = 1 := by
  have h1 : fN x.val ≠ 0 := by
    intro h2
    rw [fN_zero, toF_val] at h2
    exact h h2
  have h3 := inv_pow x.val h1
  unfold inv
  rw [← toF_val (x * _)]
  have h4 : (x * toF (fW x.val 18446744069414584319)).val = fM x.val (fW x.val 18446744069414584319) := by
    rw [fM_val, toF_val]
  rw [h4, h3]; rfl
theorem toF_inv (a : Nat) : toF (fW a 18446744069414584319) = inv (toF a) := by
  unfold inv
  rw [toF_fW, toF_fW, toF_val]
theorem mul_cancel {x y z : F} (h : x ≠ 0) (e : x * y = x * z) : y = z := by
  have h1 := mul_inv h
  have h2 : inv x * (x * y) = inv x * (x * z) := by rw [e]
  grind

/-- Sums. -/
def S (n : Nat) (f : Nat → F) : F := match n with
  | 0 => 0
  | n + 1 => S n f + f n
theorem S_zero (f : Nat → F) : S 0 f = 0 := rfl
theorem S_succ (n : Nat) (f : Nat → F) : S (n + 1) f = S n f + f n := rfl
theorem S_congr {n : Nat} {f g : Nat → F} (h : ∀ i, i < n → f i = g i) : S n f = S n g := by
  induction n with
  | zero => rfl
  | succ n ih => rw [S_succ, S_succ, ih (fun i hi => h i (by omega)), h n (by omega)]
theorem S_zeros {n : Nat} {f : Nat → F} (h : ∀ i, i < n → f i = 0) : S n f = 0 := by
  induction n with
  | zero => rfl
  | succ n ih => rw [S_succ, ih (fun i hi => h i (by omega)), h n (by omega)]; grind
theorem S_add (n : Nat) (f g : Nat → F) : S n (fun i => f i + g i) = S n f + S n g := by
  induction n with
  | zero => rw [S_zero, S_zero, S_zero]; grind
  | succ n ih => rw [S_succ, S_succ, S_succ, ih]; grind
theorem S_mul (n : Nat) (c : F) (f : Nat → F) : S n (fun i => c * f i) = c * S n f := by
  induction n with
  | zero => rw [S_zero, S_zero]; grind
  | succ n ih => rw [S_succ, S_succ, ih]; grind
theorem S_comm (m n : Nat) (f : Nat → Nat → F) : S m (fun i => S n (fun j => f i j)) = S n (fun j => S m (fun i => f i j)) := by
  induction m with
  | zero => rw [S_zero, S_zeros (fun i _ => S_zero _)]
  | succ m ih =>
    rw [S_succ, ih, ← S_add]
    exact S_congr fun j _ => rfl
theorem S_split (m n : Nat) (f : Nat → F) : S (m + n) f = S m f + S n (fun i => f (m + i)) := by
  induction n with
  | zero => rw [S_zero, Nat.add_zero]; grind
  | succ n ih => rw [← Nat.add_assoc, S_succ, ih, S_succ]; grind
theorem S_more {m n : Nat} (h : m ≤ n) {f : Nat → F} (h0 : ∀ i, m ≤ i → i < n → f i = 0) : S n f = S m f := by
  obtain ⟨k, rfl⟩ : ∃ k, n = m + k := ⟨n - m, by omega⟩
  rw [S_split, S_zeros (n := k) (fun i hi => h0 (m + i) (by omega) (by omega))]
  grind
theorem S_first (n : Nat) (f : Nat → F) : S (n + 1) f = f 0 + S n (fun i => f (i + 1)) := by
  induction n with
  | zero => rw [S_succ, S_zero, S_zero]; grind
  | succ n ih => rw [S_succ, ih, S_succ]; grind
theorem S_rev (n : Nat) (f : Nat → F) : S n f = S n (fun i => f (n - 1 - i)) := by
  induction n with
  | zero => rfl
  | succ n ih =>
    rw [S_first n (fun i => f (n + 1 - 1 - i)), S_succ, ih]
    have : S n (fun i => f (n - 1 - i)) = S n (fun i => f (n + 1 - 1 - (i + 1))) := S_congr fun i hi => by congr 1; omega
    rw [this]
    simp only [Nat.add_sub_cancel, Nat.sub_zero]
    grind

end Go.Proofs.YtmggccepmicjhagGreatDoor

/- The normal form of a list of numbers by the prime: how many numbers of it count, and what is told; no program in sight. -/
namespace Go.Proofs.YtmggccepmicjhagGreatDoor

/-- How many numbers of a list count: all behind are 0 by the prime. -/
def sig : List Nat → Nat
  | [] => 0
  | x :: xs => if sig xs = 0 then (if fN x = 0 then 0 else 1) else sig xs + 1
/-- The normal form. -/
def pN (xs : List Nat) : List Nat := (xs.take (sig xs)).map fN

theorem sig_le : ∀ xs, sig xs ≤ xs.length := by
  intro xs
  induction xs with
  | nil => simp [sig]
  | cons x xs ih => simp only [sig, List.length_cons]; split <;> (try split) <;> omega

theorem sig_snoc : ∀ (xs : List Nat) (x : Nat), sig (xs ++ [x]) = if fN x = 0 then sig xs else xs.length + 1 := by
  intro xs
  induction xs with
  | nil => intro x; simp [sig]
  | cons y ys ih =>
    intro x
    simp only [List.cons_append, sig, ih, List.length_cons]
    by_cases h : fN x = 0 <;> simp [h]

theorem take_succ_getD (xs : List Nat) (k : Nat) (h : k < xs.length) : xs.take (k + 1) = xs.take k ++ [xs.getD k 0] := by
  rw [List.take_add_one]
  simp [List.getD, h]

theorem sig_step (xs : List Nat) (k : Nat) (h : k < xs.length) : sig (xs.take (k + 1)) = if fN (xs.getD k 0) = 0 then sig (xs.take k) else k + 1 := by
  rw [take_succ_getD xs k h, sig_snoc, List.length_take, Nat.min_eq_left (by omega)]

end Go.Proofs.YtmggccepmicjhagGreatDoor

/- Polynomials over the field of the prime, as lists: values, sums, products number by number, how many numbers count, and that a polynomial with as many roots as numbers is 0; no program in sight. -/
namespace Go.Proofs.YtmggccepmicjhagGreatDoor

/-- Number i of a polynomial; 0 behind it. -/
def gf (l : List F) (i : Nat) : F := l.getD i 0
theorem gf_nil (i : Nat) : gf [] i = 0 := by simp [gf]
theorem gf_zero (c : F) (l : List F) : gf (c :: l) 0 = c := by simp [gf]
theorem gf_succ (c : F) (l : List F) (i : Nat) : gf (c :: l) (i + 1) = gf l i := by simp [gf]
theorem gf_ge {l : List F} {i : Nat} (h : l.length ≤ i) : gf l i = 0 := by simp [gf, List.getD, List.getElem?_eq_none h]

/-- The value at a place. -/
def evF : List F → F → F
  | [], _ => 0
  | c :: l, x => c + x * evF l x
theorem evF_S (l : List F) (x : F) : evF l x = S l.length (fun i => gf l i * pw x i) := by
  induction l with
  | nil => rfl
  | cons c l ih =>
    show c + x * evF l x = _
    rw [List.length_cons, S_first, gf_zero, pw_zero, ih, ← S_mul]
    have : S l.length (fun i => gf (c :: l) (i + 1) * pw x (i + 1)) = S l.length (fun i => x * (gf l i * pw x i)) :=
      S_congr fun i _ => by rw [gf_succ, pw_succ]; grind
    rw [this]; grind
theorem evF_S_le (l : List F) (x : F) (n : Nat) (h : l.length ≤ n) : evF l x = S n (fun i => gf l i * pw x i) := by
  rw [evF_S, S_more h]
  intro i hi _
  rw [gf_ge hi]; grind
theorem evF_ext {a b : List F} (h : ∀ i, gf a i = gf b i) (x : F) : evF a x = evF b x := by
  rw [evF_S_le a x (a.length + b.length) (by omega), evF_S_le b x (a.length + b.length) (by omega)]
  exact S_congr fun i _ => by rw [h i]

/-- Sums, multiples, products. -/
def addF : List F → List F → List F
  | [], b => b
  | a, [] => a
  | c :: a, d :: b => (c + d) :: addF a b
theorem gf_addF (a b : List F) (i : Nat) : gf (addF a b) i = gf a i + gf b i := by
  induction a generalizing b i with
  | nil => rw [addF, gf_nil]; grind
  | cons c a ih =>
    cases b with
    | nil => rw [addF, gf_nil]; grind; simp
    | cons d b =>
      rw [addF]
      cases i with
      | zero => rw [gf_zero, gf_zero, gf_zero]
      | succ i => rw [gf_succ, gf_succ, gf_succ, ih]
theorem evF_addF (a b : List F) (x : F) : evF (addF a b) x = evF a x + evF b x := by
  induction a generalizing b with
  | nil => rw [addF, evF]; grind
  | cons c a ih =>
    cases b with
    | nil => rw [addF, evF, evF]; grind; simp
    | cons d b => rw [addF, evF, evF, evF, ih]; grind
def smulF (c : F) (l : List F) : List F := l.map (c * ·)
theorem gf_smulF (c : F) (l : List F) (i : Nat) : gf (smulF c l) i = c * gf l i := by
  induction l generalizing i with
  | nil => rw [smulF, List.map_nil, gf_nil]; grind
  | cons d l ih =>
    rw [smulF, List.map_cons]
    cases i with
    | zero => rw [gf_zero, gf_zero]
    | succ i => rw [gf_succ, gf_succ]; exact ih i
theorem evF_smulF (c : F) (l : List F) (x : F) : evF (smulF c l) x = c * evF l x := by
  induction l with
  | nil => rw [smulF, List.map_nil, evF]; grind
  | cons d l ih =>
    rw [smulF, List.map_cons, evF, evF]
    have : evF (List.map (c * ·) l) x = c * evF l x := ih
    rw [this]; grind
def mulF : List F → List F → List F
  | [], _ => []
  | c :: a, b => addF (smulF c b) (0 :: mulF a b)
theorem evF_mulF (a b : List F) (x : F) : evF (mulF a b) x = evF a x * evF b x := by
  induction a with
  | nil => rw [mulF, evF]; grind
  | cons c a ih => rw [mulF, evF_addF, evF_smulF, evF, ih, evF]; grind

/-- Number k of a product. -/
def conv (f g : Nat → F) (k : Nat) : F := S (k + 1) (fun i => f i * g (k - i))
theorem conv_congr {f f' g g' : Nat → F} (hf : ∀ i, f i = f' i) (hg : ∀ i, g i = g' i) (k : Nat) : conv f g k = conv f' g' k :=
  S_congr fun i _ => by rw [hf, hg]
theorem gf_mulF (a b : List F) (k : Nat) : gf (mulF a b) k = conv (gf a) (gf b) k := by
  induction a generalizing k with
  | nil =>
    rw [mulF, gf_nil]
    exact (S_zeros fun i _ => by rw [gf_nil]; grind).symm
  | cons c a ih =>
    rw [mulF, gf_addF, gf_smulF]
    unfold conv
    rw [S_first, gf_zero, Nat.sub_zero]
    cases k with
    | zero => rw [gf_zero, S_zero]
    | succ k =>
      rw [gf_succ, ih]
      have : S (k + 1) (fun i => gf (c :: a) (i + 1) * gf b (k + 1 - (i + 1))) = conv (gf a) (gf b) k :=
        S_congr fun i _ => by rw [gf_succ, Nat.add_sub_add_right]
      rw [this]
theorem conv_comm (f g : Nat → F) (k : Nat) : conv f g k = conv g f k := by
  unfold conv
  rw [S_rev]
  refine S_congr fun i hi => ?_
  have e1 : k + 1 - 1 - i = k - i := by omega
  have e2 : k - (k - i) = i := by omega
  rw [e1, e2]; grind
theorem conv_add (f g h : Nat → F) (k : Nat) : conv f (fun i => g i + h i) k = conv f g k + conv f h k := by
  unfold conv
  rw [← S_add]
  exact S_congr fun i _ => by grind
/-- Behind both ends a product is 0; at their sum it is the product of the last numbers. -/
theorem conv_above {f g : Nat → F} {m n : Nat} (hf : ∀ i, m ≤ i → f i = 0) (hg : ∀ i, n ≤ i → g i = 0) (k : Nat) (hk : m + n ≤ k + 1) : conv f g k = 0 := by
  refine S_zeros fun i hi => ?_
  by_cases h : m ≤ i
  · rw [hf i h]; grind
  · rw [hg (k - i) (by omega)]; grind
theorem conv_top {f g : Nat → F} {m n : Nat} (hf : ∀ i, m + 1 ≤ i → f i = 0) (hg : ∀ i, n + 1 ≤ i → g i = 0) : conv f g (m + n) = f m * g n := by
  unfold conv
  have e : m + n + 1 = m + (1 + n) := by omega
  rw [e, S_split, S_zeros (n := m) (fun i hi => by rw [hg (m + n - i) (by omega)]; grind), S_split, S_succ, S_zero, S_zeros (n := n) (fun i hi => by rw [hf (m + (1 + i)) (by omega)]; grind)]
  have e2 : m + n - (m + 0) = n := by omega
  rw [e2, Nat.add_zero]; grind

/-- Divided by (the power 1 less r). -/
def qr (r : F) : List F → List F
  | [] => []
  | _ :: l => if l = [] then [] else evF l r :: qr r l
theorem qr_length (r : F) (l : List F) : (qr r l).length = l.length - 1 := by
  induction l with
  | nil => rfl
  | cons c l ih =>
    rw [qr]
    by_cases h : l = []
    · subst h; rfl
    · rw [if_neg h, List.length_cons, ih, List.length_cons]
      have : l.length ≠ 0 := fun h0 => h (List.eq_nil_of_length_eq_zero h0)
      omega
theorem qr_ev (r x : F) (l : List F) : evF l x = evF l r + (x - r) * evF (qr r l) x := by
  induction l with
  | nil => rw [qr, evF, evF]; grind
  | cons c l ih =>
    rw [qr]
    by_cases h : l = []
    · subst h
      rw [if_pos rfl, evF, evF, evF, evF, evF]; grind
    · rw [if_neg h, evF, evF, evF]
      have : evF l x = evF l r + (x - r) * evF (qr r l) x := ih
      grind
theorem qr_zero (r : F) (l : List F) (h0 : evF l r = 0) (h : ∀ i, gf (qr r l) i = 0) : ∀ i, gf l i = 0 := by
  induction l with
  | nil => intro i; exact gf_nil i
  | cons c l ih =>
    rw [evF] at h0
    rw [qr] at h
    by_cases hl : l = []
    · subst hl
      rw [evF] at h0
      intro i
      cases i with
      | zero => rw [gf_zero]; grind
      | succ i => rw [gf_succ, gf_nil]
    · rw [if_neg hl] at h
      have h1 := h 0
      rw [gf_zero] at h1
      have h2 := ih h1 (fun i => by have := h (i + 1); rwa [gf_succ] at this)
      intro i
      cases i with
      | zero => rw [gf_zero]; rw [h1] at h0; grind
      | succ i => rw [gf_succ]; exact h2 i

/-- A polynomial of n numbers with n roots that differ is 0. -/
theorem roots_zero : ∀ (n : Nat) (l : List F) (xs : Nat → F), l.length ≤ n → (∀ i j, i < j → j < n → xs i ≠ xs j) → (∀ i, i < n → evF l (xs i) = 0) → ∀ i, gf l i = 0 := by
  intro n
  induction n with
  | zero =>
    intro l xs hl _ _ i
    have : l = [] := List.eq_nil_of_length_eq_zero (by omega)
    subst this
    exact gf_nil i
  | succ n ih =>
    intro l xs hl hd hv
    have hr := hv n (by omega)
    refine qr_zero (xs n) l hr (ih (qr (xs n) l) xs (by rw [qr_length]; omega) (fun i j hij hj => hd i j hij (by omega)) fun i hi => ?_)
    have h1 := hv i (by omega)
    rw [qr_ev (xs n) (xs i) l, hr] at h1
    have h2 : (xs i - xs n) * evF (qr (xs n) l) (xs i) = 0 := by grind
    rcases mul_ne h2 with h3 | h3
    · exact absurd (show xs i = xs n by grind) (hd i n hi (by omega))
    · exact h3

end Go.Proofs.YtmggccepmicjhagGreatDoor

/- Polynomials as the program has them, lists of numbers: the normal form is told by the numbers by the prime alone; sums, products, values; no program in sight. -/
namespace Go.Proofs.YtmggccepmicjhagGreatDoor

/-- Number i of a list, by the prime; 0 behind it. -/
def cf (a : List Nat) (i : Nat) : F := toF (a.getD i 0)
theorem cf_ge {a : List Nat} {i : Nat} (h : a.length ≤ i) : cf a i = 0 := by
  unfold cf
  simp [List.getD, List.getElem?_eq_none h, toF_zero]
theorem cf_gf (a : List Nat) (i : Nat) : cf a i = gf (a.map toF) i := by
  rcases Nat.lt_or_ge i a.length with h | h
  · simp [cf, gf, List.getD, h]
  · rw [cf_ge h, gf_ge (by simpa using h)]
theorem cf_cons_zero (x : Nat) (a : List Nat) : cf (x :: a) 0 = toF x := by simp [cf]
theorem cf_cons_succ (x : Nat) (a : List Nat) (i : Nat) : cf (x :: a) (i + 1) = cf a i := by simp [cf]

theorem sig_zero (a : List Nat) : ∀ i, sig a ≤ i → cf a i = 0 := by
  induction a with
  | nil => intro i _; exact cf_ge (by simp)
  | cons x a ih =>
    intro i hi
    simp only [sig] at hi
    by_cases h : sig a = 0
    · rw [if_pos h] at hi
      cases i with
      | zero =>
        by_cases hx : fN x = 0
        · rw [cf_cons_zero]; exact (fN_zero x).mp hx
        · rw [if_neg hx] at hi; omega
      | succ i => rw [cf_cons_succ]; exact ih i (by omega)
    · rw [if_neg h] at hi
      cases i with
      | zero => omega
      | succ i => rw [cf_cons_succ]; exact ih i (by omega)
theorem sig_last (a : List Nat) : sig a ≠ 0 → cf a (sig a - 1) ≠ 0 := by
  induction a with
  | nil => intro h; exact absurd rfl h
  | cons x a ih =>
    intro hs
    simp only [sig] at hs ⊢
    by_cases h : sig a = 0
    · rw [if_pos h] at hs ⊢
      by_cases hx : fN x = 0
      · rw [if_pos hx] at hs; exact absurd rfl hs
      · rw [if_neg hx]
        show cf (x :: a) 0 ≠ 0
        rw [cf_cons_zero]
        exact fun h2 => hx ((fN_zero x).mpr h2)
    · rw [if_neg h] at hs ⊢
      obtain ⟨k, hk⟩ : ∃ k, sig a = k + 1 := ⟨sig a - 1, by omega⟩
      have := ih h
      rw [hk] at this ⊢
      rw [Nat.add_sub_cancel, cf_cons_succ]
      simpa using this
theorem sig_unique {a : List Nat} {n : Nat} (h0 : ∀ i, n ≤ i → cf a i = 0) (h1 : n ≠ 0 → cf a (n - 1) ≠ 0) : sig a = n := by
  rcases Nat.lt_trichotomy (sig a) n with h | h | h
  · exact absurd (sig_zero a (n - 1) (by omega)) (h1 (by omega))
  · exact h
  · exact absurd (h0 (sig a - 1) (by omega)) (sig_last a (by omega))

/-- The list of the first n numbers of a polynomial. -/
def mk (n : Nat) (f : Nat → F) : List Nat := (List.range n).map fun i => (f i).val
theorem mk_length (n : Nat) (f : Nat → F) : (mk n f).length = n := by simp [mk]
theorem mk_getD (n : Nat) (f : Nat → F) (i : Nat) (h : i < n) : (mk n f).getD i 0 = (f i).val := by simp [mk, List.getD, h]
theorem cf_mk (n : Nat) (f : Nat → F) (i : Nat) : cf (mk n f) i = if i < n then f i else 0 := by
  by_cases h : i < n
  · rw [if_pos h]; unfold cf; rw [mk_getD n f i h, toF_val]
  · rw [if_neg h]; exact cf_ge (by rw [mk_length]; omega)
theorem cf_mk_of {n : Nat} {f : Nat → F} (h : ∀ i, n ≤ i → f i = 0) (i : Nat) : cf (mk n f) i = f i := by
  rw [cf_mk]
  by_cases hi : i < n
  · rw [if_pos hi]
  · rw [if_neg hi, h i (by omega)]
theorem mk_congr {n : Nat} {f g : Nat → F} (h : ∀ i, i < n → f i = g i) : mk n f = mk n g := by
  unfold mk
  exact List.map_congr_left fun i hi => by rw [h i (List.mem_range.mp hi)]
theorem mk_lt (n : Nat) (f : Nat → F) : ∀ x ∈ mk n f, x < P := by
  intro x hx
  obtain ⟨i, _, rfl⟩ := List.mem_map.mp hx
  exact (f i).isLt
theorem mk_succ (n : Nat) (f : Nat → F) : mk (n + 1) f = mk n f ++ [(f n).val] := by
  unfold mk
  rw [List.range_succ, List.map_append]; rfl
theorem eq_mk {a : List Nat} (h : ∀ x ∈ a, x < P) : a = mk a.length (cf a) := by
  apply List.ext_getElem
  · rw [mk_length]
  · intro i h1 h2
    have h3 : a[i] < P := h _ (List.getElem_mem h1)
    simp only [mk, List.getElem_map, List.getElem_range, cf, List.getD, List.getElem?_eq_getElem h1, Option.getD_some, val_toF]
    exact (Nat.mod_eq_of_lt h3).symm

theorem pN_mk (a : List Nat) : pN a = mk (sig a) (cf a) := by
  unfold pN mk
  apply List.ext_getElem
  · simp [sig_le a]
  · intro i h1 h2
    have h3 : i < sig a := by simpa using h2
    have h4 : i < a.length := by have := sig_le a; omega
    simp only [List.getElem_map, List.getElem_take, List.getElem_range, cf, List.getD, List.getElem?_eq_getElem h4, Option.getD_some]
    exact fN_val _
theorem pN_length (a : List Nat) : (pN a).length = sig a := by rw [pN_mk, mk_length]
theorem cf_pN (a : List Nat) (i : Nat) : cf (pN a) i = cf a i := by
  rw [pN_mk, cf_mk_of (sig_zero a)]
theorem sig_ext {a b : List Nat} (h : ∀ i, cf a i = cf b i) : sig a = sig b :=
  sig_unique (fun i hi => by rw [h]; exact sig_zero b i hi) (fun h0 => by rw [h]; exact sig_last b h0)
theorem pN_ext {a b : List Nat} (h : ∀ i, cf a i = cf b i) : pN a = pN b := by
  rw [pN_mk, pN_mk, sig_ext h]
  exact mk_congr fun i _ => h i
theorem pN_pN (a : List Nat) : pN (pN a) = pN a := pN_ext (cf_pN a)
theorem sig_pN (a : List Nat) : sig (pN a) = sig a := sig_ext (cf_pN a)
theorem pN_lt (a : List Nat) : ∀ x ∈ pN a, x < P := by rw [pN_mk]; exact mk_lt _ _
/-- A list that is normal already. -/
theorem pN_self {a : List Nat} (h : ∀ x ∈ a, x < P) (h1 : a.length ≠ 0 → cf a (a.length - 1) ≠ 0) : pN a = a := by
  rw [pN_mk, sig_unique (n := a.length) (fun i hi => cf_ge hi) h1]
  exact (eq_mk h).symm

/-! ### Sums, products, values -/
def pS (a b : List Nat) : List Nat := mk (max a.length b.length) (fun i => cf a i + cf b i)
theorem cf_pS (a b : List Nat) (i : Nat) : cf (pS a b) i = cf a i + cf b i := by
  unfold pS
  rw [cf_mk_of]
  intro i hi
  rw [cf_ge (a := a) (by omega), cf_ge (a := b) (by omega)]; grind
def pM (a b : List Nat) : List Nat := if a.length = 0 ∨ b.length = 0 then [] else mk (a.length + b.length - 1) (conv (cf a) (cf b))
theorem cf_pM (a b : List Nat) (k : Nat) : cf (pM a b) k = conv (cf a) (cf b) k := by
  unfold pM
  by_cases h : a.length = 0 ∨ b.length = 0
  · rw [if_pos h, cf_ge (by simp)]
    symm
    rcases h with h | h
    · exact S_zeros fun i _ => by rw [cf_ge (a := a) (i := i) (by omega)]; grind
    · exact S_zeros fun i _ => by rw [cf_ge (a := b) (i := k - i) (by omega)]; grind
  · rw [if_neg h, cf_mk_of]
    intro i hi
    exact conv_above (m := a.length) (n := b.length) (fun j hj => cf_ge hj) (fun j hj => cf_ge hj) i (by omega)
def pE (a : List Nat) (x : Nat) : Nat := (evF (a.map toF) (toF x)).val
theorem pE_ext {a b : List Nat} (h : ∀ i, cf a i = cf b i) (x : Nat) : pE a x = pE b x := by
  unfold pE
  rw [evF_ext (a := a.map toF) (b := b.map toF) (fun i => by rw [← cf_gf, ← cf_gf, h i])]
theorem toF_pE (a : List Nat) (x : Nat) : toF (pE a x) = evF (a.map toF) (toF x) := toF_val _
theorem ev_pM (a b : List Nat) (x : F) : evF ((pM a b).map toF) x = evF (a.map toF) x * evF (b.map toF) x := by
  rw [← evF_mulF]
  refine evF_ext (fun i => ?_) x
  rw [← cf_gf, cf_pM, gf_mulF]
  exact conv_congr (cf_gf a) (cf_gf b) i
theorem ev_pS (a b : List Nat) (x : F) : evF ((pS a b).map toF) x = evF (a.map toF) x + evF (b.map toF) x := by
  rw [← evF_addF]
  refine evF_ext (fun i => ?_) x
  rw [← cf_gf, cf_pS, gf_addF, cf_gf, cf_gf]
theorem ev_pN (a : List Nat) (x : F) : evF ((pN a).map toF) x = evF (a.map toF) x :=
  evF_ext (fun i => by rw [← cf_gf, ← cf_gf, cf_pN]) x

/-- The product of normal lists is normal, and of so many numbers. -/
theorem pM_length (a b : List Nat) : (pM (pN a) (pN b)).length = if sig a = 0 ∨ sig b = 0 then 0 else sig a + sig b - 1 := by
  unfold pM
  rw [pN_length, pN_length]
  by_cases h : sig a = 0 ∨ sig b = 0
  · rw [if_pos h, if_pos h]; rfl
  · rw [if_neg h, if_neg h, mk_length]
theorem pM_normal (a b : List Nat) : pN (pM (pN a) (pN b)) = pM (pN a) (pN b) := by
  apply pN_self
  · unfold pM
    by_cases h : (pN a).length = 0 ∨ (pN b).length = 0
    · rw [if_pos h]; intro x hx; cases hx
    · rw [if_neg h]; exact mk_lt _ _
  · rw [pM_length]
    by_cases h : sig a = 0 ∨ sig b = 0
    · rw [if_pos h]; intro h0; exact absurd rfl h0
    · rw [if_neg h]
      intro _
      obtain ⟨m, hm⟩ : ∃ m, sig a = m + 1 := ⟨sig a - 1, by omega⟩
      obtain ⟨n, hn⟩ : ∃ n, sig b = n + 1 := ⟨sig b - 1, by omega⟩
      have e : sig a + sig b - 1 - 1 = m + n := by omega
      rw [e, cf_pM, conv_congr (cf_pN a) (cf_pN b), conv_top (fun i hi => sig_zero a i (by omega)) (fun i hi => sig_zero b i (by omega))]
      have h1 := sig_last a (by omega)
      have h2 := sig_last b (by omega)
      rw [hm] at h1
      rw [hn] at h2
      intro h3
      rcases mul_ne h3 with h4 | h4
      · exact h1 h4
      · exact h2 h4
theorem pM_comm (a b : List Nat) : pM (pN a) (pN b) = pM (pN b) (pN a) := by
  rw [← pM_normal a b, ← pM_normal b a]
  exact pN_ext fun i => by rw [cf_pM, cf_pM, conv_comm]
theorem pM_pS (a b c : List Nat) : pM (pN a) (pN (pN (pS b c))) = pN (pS (pM (pN a) (pN b)) (pM (pN a) (pN c))) := by
  rw [← pM_normal a]
  refine pN_ext fun i => ?_
  rw [cf_pM, cf_pS, cf_pM, cf_pM, ← conv_add]
  exact conv_congr (fun _ => rfl) (fun j => by rw [cf_pN, cf_pN, cf_pS, cf_pN, cf_pN]) i

end Go.Proofs.YtmggccepmicjhagGreatDoor

/- LAGRANGE: products of differences, and that through points that differ goes one polynomial of at most as many numbers, in normal form; no program in sight. -/
namespace Go.Proofs.YtmggccepmicjhagGreatDoor

/-- The product of x less each of the first k places, but for place i. -/
def prd (X : Nat → F) (i : Nat) : Nat → F → F
  | 0, _ => 1
  | k + 1, x => if k = i then prd X i k x else prd X i k x * (x - X k)
theorem prd_zero (X : Nat → F) (i : Nat) (x : F) : prd X i 0 x = 1 := rfl
theorem prd_skip (X : Nat → F) (i : Nat) (x : F) : prd X i (i + 1) x = prd X i i x := by
  show (if i = i then _ else _) = _
  rw [if_pos rfl]
theorem prd_succ (X : Nat → F) {i k : Nat} (h : k ≠ i) (x : F) : prd X i (k + 1) x = prd X i k x * (x - X k) := by
  show (if k = i then _ else _) = _
  rw [if_neg h]
theorem prd_at (X : Nat → F) (i k j : Nat) (hj : j < k) (hne : j ≠ i) : prd X i k (X j) = 0 := by
  induction k with
  | zero => omega
  | succ k ih =>
    by_cases h : k = i
    · subst h
      rw [prd_skip]; exact ih (by omega)
    · rw [prd_succ X h]
      by_cases e : j = k
      · subst e; grind
      · rw [ih (by omega)]; grind
theorem prd_ne (X : Nat → F) (i k : Nat) (h : ∀ j, j < k → j ≠ i → X i ≠ X j) : prd X i k (X i) ≠ 0 := by
  induction k with
  | zero => rw [prd_zero]; decide
  | succ k ih =>
    have h1 := ih (fun j hj hne => h j (by omega) hne)
    by_cases e : k = i
    · subst e; rw [prd_skip]; exact h1
    · rw [prd_succ X e]
      intro h2
      rcases mul_ne h2 with h3 | h3
      · exact h1 h3
      · exact h k (by omega) e (by grind)

/-- The list is normal, of at most n numbers, and its values at the places are those. -/
def Goes (l : List Nat) (n : Nat) (X Y : Nat → F) : Prop := pN l = l ∧ l.length ≤ n ∧ ∀ j, j < n → evF (l.map toF) (X j) = Y j

/-- Only one does. -/
theorem Goes_unique {l l' : List Nat} {n : Nat} {X Y : Nat → F} (hd : ∀ i j, i < j → j < n → X i ≠ X j) (h : Goes l n X Y) (h' : Goes l' n X Y) : l = l' := by
  rw [← h.1, ← h'.1]
  apply pN_ext
  intro i
  have hz := roots_zero n (addF (l.map toF) (smulF (-1) (l'.map toF))) X ?_ hd ?_ i
  · rw [gf_addF, gf_smulF, ← cf_gf, ← cf_gf] at hz
    grind
  · have hl : ∀ (a b : List F), (addF a b).length ≤ max a.length b.length := by
      intro a
      induction a with
      | nil => intro b; rw [addF]; simp
      | cons c a ih =>
        intro b
        cases b with
        | nil => rw [addF]; simp; simp
        | cons d b => rw [addF, List.length_cons, List.length_cons, List.length_cons]; have := ih b; omega
    have := hl (l.map toF) (smulF (-1) (l'.map toF))
    have h1 := h.2.1
    have h2 := h'.2.1
    simp only [smulF, List.length_map] at this ⊢
    omega
  · intro j hj
    rw [evF_addF, evF_smulF, h.2.2 j hj, h'.2.2 j hj]; grind

/-- One factor more: by (the power 1 less a number). -/
theorem ev_lin (x : Nat) (y : F) : evF ([fS 0 x, 1].map toF) y = y - toF x := by
  show toF (fS 0 x) + y * (toF 1 + y * 0) = _
  rw [toF_fS, toF_zero, toF_one]; grind
theorem pM_length_le (a b : List Nat) : (pM a b).length ≤ a.length + b.length - 1 := by
  unfold pM
  by_cases h : a.length = 0 ∨ b.length = 0
  · rw [if_pos h]; simp
  · rw [if_neg h, mk_length]; omega
theorem ev_one (c : Nat) (y : F) : evF ([c].map toF) y = toF c := by
  show toF c + y * 0 = _
  grind

/-- What a division leaves: q and r normal, r of fewer numbers than b's normal form, a the sum of q times b, and r. -/
def Divs (a b q r : List Nat) : Prop := pN q = q ∧ pN r = r ∧ r.length < (pN b).length ∧ ∀ i, cf a i = conv (cf q) (cf b) i + cf r i
theorem Divs_sum {a b q r : List Nat} (h : Divs a b q r) : pN (pS (pM q (pN b)) r) = pN a :=
  pN_ext fun i => by rw [cf_pS, cf_pM, h.2.2.2 i, conv_congr (fun _ => rfl) (cf_pN b)]

end Go.Proofs.YtmggccepmicjhagGreatDoor

/- EUCLID: what is divided is told by one quotient and one rest alone; BEZOUT: divided by (the power 1 less a number) the rest is the value there; no program in sight. -/
namespace Go.Proofs.YtmggccepmicjhagGreatDoor

theorem conv_sub (f g h : Nat → F) (k : Nat) : conv (fun i => f i - g i) h k = conv f h k - conv g h k := by
  have e : conv f h k = conv (fun i => f i - g i) h k + conv g h k := by
    unfold conv
    rw [← S_add]
    exact S_congr fun i _ => by grind
  grind

theorem Divs_unique {a b q r q' r' : List Nat} (h : Divs a b q r) (h' : Divs a b q' r') : q = q' ∧ r = r' := by
  obtain ⟨hq, hr, hl, he⟩ := h
  obtain ⟨hq', hr', hl', he'⟩ := h'
  have hd : ∀ i, conv (fun j => cf q j - cf q' j) (cf b) i = cf r' i - cf r i := by
    intro i
    have h1 := he i
    have h2 := he' i
    rw [conv_sub]
    grind
  have hsb : sig b ≠ 0 := by rw [pN_length] at hl; omega
  obtain ⟨n, hn⟩ : ∃ n, sig b = n + 1 := ⟨sig b - 1, by omega⟩
  rw [pN_length] at hl hl'
  have hD : ∀ i, cf (mk (max q.length q'.length) (fun j => cf q j - cf q' j)) i = cf q i - cf q' i := cf_mk_of fun i hi => by
    rw [cf_ge (a := q) (by omega), cf_ge (a := q') (by omega)]; grind
  have hs : sig (mk (max q.length q'.length) (fun j => cf q j - cf q' j)) = 0 := by
    refine Classical.byContradiction fun hne => ?_
    obtain ⟨m, hm⟩ : ∃ m, sig (mk (max q.length q'.length) (fun j => cf q j - cf q' j)) = m + 1 := ⟨sig (mk (max q.length q'.length) (fun j => cf q j - cf q' j)) - 1, by omega⟩
    have htop := sig_last _ hne
    rw [hm, Nat.add_sub_cancel, hD] at htop
    have hbt := sig_last b hsb
    rw [hn, Nat.add_sub_cancel] at hbt
    have hz : ∀ i, m + 1 ≤ i → (fun j => cf q j - cf q' j) i = 0 := fun i hi => by
      have := sig_zero _ i (show sig (mk (max q.length q'.length) (fun j => cf q j - cf q' j)) ≤ i by omega)
      rw [hD] at this
      exact this
    have hc := conv_top hz (fun i hi => sig_zero b i (by omega) : ∀ i, n + 1 ≤ i → cf b i = 0)
    rw [hd (m + n), cf_ge (a := r') (by omega), cf_ge (a := r) (by omega)] at hc
    have hz2 : (cf q m - cf q' m) * cf b n = 0 := by grind
    rcases mul_ne hz2 with h3 | h3
    · exact htop h3
    · exact hbt h3
  have hqe : ∀ i, cf q i = cf q' i := fun i => by
    have := sig_zero _ i (show sig (mk (max q.length q'.length) (fun j => cf q j - cf q' j)) ≤ i by omega)
    rw [hD] at this
    grind
  have h1 : q = q' := by rw [← hq, ← hq']; exact pN_ext hqe
  refine ⟨h1, ?_⟩
  rw [← hr, ← hr']
  refine pN_ext fun i => ?_
  have h2 := he i
  have h3 := he' i
  rw [h1] at h2
  grind

theorem Divs_ev {a b q r : List Nat} (h : Divs a b q r) (x : F) : evF (a.map toF) x = evF (q.map toF) x * evF (b.map toF) x + evF (r.map toF) x := by
  rw [← ev_pM, ← ev_pS]
  exact evF_ext (fun i => by rw [← cf_gf, ← cf_gf, cf_pS, cf_pM, h.2.2.2 i]) x

/-- Divided by (the power 1 less x): the rest has one number at most, the value at x; none: the value is 0. -/
theorem linF_length (x : Nat) : (pN [fS 0 x, 1]).length = 2 := by
  rw [pN_length]
  have h : fN 1 ≠ 0 := by decide
  simp [sig, h]
theorem Divs_lin {a q r : List Nat} {x : Nat} (h : Divs a [fS 0 x, 1] q r) : (r = [] ∧ pE a x = 0) ∨ r = [pE a x] := by
  have hl := h.2.2.1
  rw [linF_length] at hl
  have he := Divs_ev h (toF x)
  rw [ev_lin] at he
  have he2 : evF (a.map toF) (toF x) = evF (r.map toF) (toF x) := by grind
  match r, hl, h.2.1, he2 with
  | [], _, _, he2 =>
    left
    refine ⟨rfl, ?_⟩
    unfold pE
    rw [he2]; rfl
  | [c], _, hn, he2 =>
    right
    unfold pE
    rw [he2, ev_one, val_toF]
    have hc : c ∈ pN [c] := by rw [hn]; simp
    rw [Nat.mod_eq_of_lt (pN_lt _ c hc)]

theorem Divs_lin' {a q r : List Nat} {x : Nat} (h : Divs a [fS 0 x, 1] q r) : (pE a x = 0 → r = []) ∧ (pE a x ≠ 0 → r = [pE a x]) := by
  rcases Divs_lin h with ⟨h1, h2⟩ | h1
  · exact ⟨fun _ => h1, fun h3 => absurd h2 h3⟩
  · refine ⟨fun h2 => ?_, fun _ => h1⟩
    rw [h2] at h1
    have hn := h.2.1
    rw [h1] at hn
    exact absurd hn (by decide)
theorem Divs_sum' {a b q r : List Nat} (h : Divs a b q r) : pN (pS (pM (pN q) (pN b)) r) = pN a := by rw [h.1]; exact Divs_sum h
/-- A quotient has no more numbers than what is divided. -/
theorem Divs_qlen {a b q r : List Nat} (h : Divs a b q r) : q.length ≤ a.length := by
  have hq : sig q = q.length := by rw [← pN_length, h.1]
  rcases Nat.eq_zero_or_pos q.length with h0 | h0
  · omega
  have hl := h.2.2.1
  rw [pN_length] at hl
  obtain ⟨m, hm⟩ : ∃ m, sig q = m + 1 := ⟨sig q - 1, by omega⟩
  obtain ⟨n, hn⟩ : ∃ n, sig b = n + 1 := ⟨sig b - 1, by omega⟩
  have h1 := sig_last q (by omega)
  have h2 := sig_last b (by omega)
  rw [hm, Nat.add_sub_cancel] at h1
  rw [hn, Nat.add_sub_cancel] at h2
  have hc := conv_top (fun i hi => sig_zero q i (by omega) : ∀ i, m + 1 ≤ i → cf q i = 0) (fun i hi => sig_zero b i (by omega) : ∀ i, n + 1 ≤ i → cf b i = 0)
  have he := h.2.2.2 (m + n)
  rw [hc, cf_ge (a := r) (by omega)] at he
  refine Classical.byContradiction fun hlt => ?_
  rw [cf_ge (a := a) (by omega)] at he
  have hz : cf q m * cf b n = 0 := by grind
  rcases mul_ne hz with h3 | h3
  · exact h1 h3
  · exact h2 h3

/-! ### The examples of the laws -/
theorem ex_mul : pM (pN [1, 1]) (pN [18446744069414584320, 1]) = [18446744069414584320, 0, 1] := by decide +kernel
theorem ex_div : Divs [18446744069414584320, 0, 1] [1, 1] [18446744069414584320, 1] [] := by
  refine ⟨by decide +kernel, by decide +kernel, by decide +kernel, fun i => ?_⟩
  rcases Nat.lt_or_ge i 3 with h | h
  · match i, h with
    | 0, _ => decide +kernel
    | 1, _ => decide +kernel
    | 2, _ => decide +kernel
  · rw [cf_ge (by simpa using h), cf_ge (by simp), conv_above (m := 2) (n := 2) (fun j hj => cf_ge (by simpa using hj)) (fun j hj => cf_ge (by simpa using hj)) i (by omega)]
    decide
theorem ex_goes : Goes [5, 2] 2 (cf [0, 1]) (cf [5, 7]) := by
  refine ⟨by decide +kernel, by simp, fun j hj => ?_⟩
  match j, hj with
  | 0, _ => decide +kernel
  | 1, _ => decide +kernel

end Go.Proofs.YtmggccepmicjhagGreatDoor

/- What the steps of package poly do to lists: a multiple of a list is added to another one from a place on; products, quotients and polynomials through points as such steps; no program in sight. -/
namespace Go.Proofs.YtmggccepmicjhagGreatDoor

/-- zs, with c times the first k numbers of ys added from the place off on. -/
def addK (zs : List Nat) (off : Nat) (ys : List Nat) (c : Nat) : Nat → List Nat
  | 0 => zs
  | k + 1 => (addK zs off ys c k).set (off + k) (fA ((addK zs off ys c k).getD (off + k) 0) (fM (ys.getD k 0) c))
theorem addK_length (zs : List Nat) (off : Nat) (ys : List Nat) (c k : Nat) : (addK zs off ys c k).length = zs.length := by
  induction k with
  | zero => rfl
  | succ k ih => rw [addK, List.length_set, ih]
theorem cf_set (l : List Nat) (i x t : Nat) (hi : i < l.length) : cf (l.set i x) t = if t = i then toF x else cf l t := by
  unfold cf
  by_cases h : t = i
  · subst h; simp [List.getD, hi]
  · rw [if_neg h]; simp [List.getD, Ne.symm h]
theorem cf_addK (zs : List Nat) (off : Nat) (ys : List Nat) (c k : Nat) (hk : off + k ≤ zs.length) (t : Nat) : cf (addK zs off ys c k) t = cf zs t + (if off ≤ t ∧ t < off + k then cf ys (t - off) * toF c else 0) := by
  induction k with
  | zero => rw [addK, if_neg (by omega)]; grind
  | succ k ih =>
    rw [addK, cf_set _ _ _ _ (by rw [addK_length]; omega)]
    have ih' := ih (by omega)
    by_cases h : t = off + k
    · rw [if_pos h, if_pos (by omega)]
      subst h
      rw [toF_fA, toF_fM]
      have e : toF ((addK zs off ys c k).getD (off + k) 0) = cf zs (off + k) := by
        have : cf (addK zs off ys c k) (off + k) = cf zs (off + k) := by rw [ih', if_neg (by omega)]; grind
        exact this
      rw [e, show off + k - off = k by omega]; rfl
    · rw [if_neg h, ih']
      by_cases h2 : off ≤ t ∧ t < off + k
      · rw [if_pos h2, if_pos (by omega)]
      · rw [if_neg h2, if_neg (by omega)]
theorem addK_P (zs : List Nat) (off : Nat) (ys : List Nat) (c k : Nat) (h : ∀ x ∈ zs, x < P) : ∀ x ∈ addK zs off ys c k, x < P := by
  induction k with
  | zero => exact h
  | succ k ih =>
    intro x hx
    rcases List.mem_or_eq_of_mem_set hx with h1 | h1
    · exact ih x h1
    · subst h1; have := fA_lt ((addK zs off ys c k).getD (off + k) 0) (fM (ys.getD k 0) c); unfold P; omega
theorem addK_rng (zs : List Nat) (off : Nat) (ys : List Nat) (c k : Nat) (h : ∀ x ∈ zs, (x : Int) < 18446744073709551616) : ∀ x ∈ addK zs off ys c k, (x : Int) < 18446744073709551616 := by
  induction k with
  | zero => exact h
  | succ k ih =>
    intro x hx
    rcases List.mem_or_eq_of_mem_set hx with h1 | h1
    · exact ih x h1
    · subst h1; have := fA_lt ((addK zs off ys c k).getD (off + k) 0) (fM (ys.getD k 0) c); omega
/-- All of ys. -/
def addT (zs : List Nat) (off : Nat) (ys : List Nat) (c : Nat) : List Nat := addK zs off ys c ys.length
theorem addT_length (zs : List Nat) (off : Nat) (ys : List Nat) (c : Nat) : (addT zs off ys c).length = zs.length := addK_length _ _ _ _ _
theorem cf_addT (zs : List Nat) (off : Nat) (ys : List Nat) (c : Nat) (h : off + ys.length ≤ zs.length) (t : Nat) : cf (addT zs off ys c) t = cf zs t + (if off ≤ t then cf ys (t - off) * toF c else 0) := by
  unfold addT
  rw [cf_addK _ _ _ _ _ h]
  by_cases h1 : off ≤ t
  · rw [if_pos h1]
    by_cases h2 : t < off + ys.length
    · rw [if_pos ⟨h1, h2⟩]
    · rw [if_neg (by omega), cf_ge (a := ys) (by omega)]; grind
  · rw [if_neg (by omega), if_neg h1]
theorem ev_addT0 (zs ys : List Nat) (c : Nat) (h : ys.length ≤ zs.length) (x : F) : evF ((addT zs 0 ys c).map toF) x = evF (zs.map toF) x + toF c * evF (ys.map toF) x := by
  rw [← evF_smulF, ← evF_addF]
  refine evF_ext (fun i => ?_) x
  rw [gf_addF, gf_smulF, ← cf_gf, ← cf_gf, ← cf_gf, cf_addT _ _ _ _ (by omega), if_pos (Nat.zero_le _), Nat.sub_zero]
  grind

/-- HORNER: the value of what lies from place i on. -/
def hv (xs : List Nat) (x i : Nat) : Nat := (evF ((xs.drop i).map toF) (toF x)).val
theorem hv_end (xs : List Nat) (x : Nat) : hv xs x xs.length = 0 := by
  unfold hv
  rw [List.drop_length]; rfl
theorem hv_zero (xs : List Nat) (x : Nat) : hv xs x 0 = pE xs x := rfl
theorem hv_lt (xs : List Nat) (x i : Nat) : (hv xs x i : Int) < 18446744069414584321 := lt_int (val_lt _)
theorem hv_step (xs : List Nat) (x i : Nat) (h : i < xs.length) : fA (fM (hv xs x (i + 1)) x) (xs.getD i 0) = hv xs x i := by
  unfold hv
  rw [fA_val, toF_fM, toF_val]
  have e : xs.drop i = xs.getD i 0 :: xs.drop (i + 1) := by
    rw [List.drop_eq_getElem_cons h]
    simp [List.getD, h]
  rw [e, List.map_cons, evF]
  congr 1
  grind

/-- The product, factor by factor. -/
def mulK (x y : List Nat) : Nat → List Nat
  | 0 => List.replicate (x.length + y.length - 1) 0
  | k + 1 => addT (mulK x y k) k y (x.getD k 0)
theorem mulK_length (x y : List Nat) (k : Nat) : (mulK x y k).length = x.length + y.length - 1 := by
  induction k with
  | zero => simp [mulK]
  | succ k ih => rw [mulK, addT_length, ih]
theorem mulK_P (x y : List Nat) (k : Nat) : ∀ z ∈ mulK x y k, z < P := by
  induction k with
  | zero => intro z hz; have := List.eq_of_mem_replicate hz; subst this; decide
  | succ k ih => exact addK_P _ _ _ _ _ ih
theorem cf_replicate (n i : Nat) : cf (List.replicate n 0) i = 0 := by
  unfold cf
  by_cases h : i < n
  · simp [List.getD, h]; rfl
  · simp [List.getD, List.getElem?_eq_none (l := List.replicate n 0) (i := i) (by simp; omega)]; rfl
theorem cf_mulK (x y : List Nat) (k : Nat) (hk : k ≤ x.length) (t : Nat) : cf (mulK x y k) t = S k (fun j => if j ≤ t then cf x j * cf y (t - j) else 0) := by
  induction k with
  | zero => rw [mulK, S_zero, cf_replicate]
  | succ k ih =>
    by_cases hy : y.length = 0
    · have e : y = [] := List.eq_nil_of_length_eq_zero hy
      subst e
      rw [S_zeros]
      · rw [mulK]
        show cf (mulK x [] k) t = 0
        rw [ih (by omega), S_zeros]
        intro j _
        rw [cf_ge (a := []) (by simp)]; split <;> grind
      · intro j _
        rw [cf_ge (a := []) (by simp)]; split <;> grind
    · rw [mulK, cf_addT _ _ _ _ (by rw [mulK_length]; omega), ih (by omega), S_succ]
      congr 1
      by_cases h1 : k ≤ t
      · rw [if_pos h1, if_pos h1]
        show cf y (t - k) * cf x k = _
        grind
      · rw [if_neg h1, if_neg h1]
theorem mulK_all (x y : List Nat) (hx : x.length ≠ 0) (hy : y.length ≠ 0) : mulK x y x.length = pM x y := by
  unfold pM
  rw [if_neg (by omega), eq_mk (mulK_P x y x.length), mulK_length]
  refine mk_congr fun t _ => ?_
  rw [cf_mulK x y _ (Nat.le_refl _)]
  unfold conv
  rw [← S_more (m := x.length) (n := x.length + t + 1) (by omega), S_more (m := t + 1) (n := x.length + t + 1) (by omega)]
  · exact S_congr fun i hi => by rw [if_pos (by omega)]
  · intro i h1 h2
    rw [if_neg (by omega)]
  · intro i h1 h2
    rw [cf_ge (a := x) h1]; split <;> grind

/-- A quotient under way: the numbers from i on are told. -/
def Quo (rs ds qs rs' : List Nat) (i : Nat) : Prop :=
  qs.length = rs.length - (ds.length - 1) ∧ rs'.length = rs.length ∧ (∀ x ∈ qs, x < P) ∧ (∀ x ∈ rs', x < P) ∧ (∀ t, t < i → cf qs t = 0) ∧ (∀ t, i + (ds.length - 1) ≤ t → cf rs' t = 0) ∧
  (∀ t, cf rs t = conv (cf qs) (cf ds) t + cf rs' t) ∧ (i < qs.length → cf qs (qs.length - 1) ≠ 0) ∧ (i = qs.length → rs' = rs)
theorem conv_zero_left {f : Nat → F} (hf : ∀ i, f i = 0) (g : Nat → F) (t : Nat) : conv f g t = 0 := by
  unfold conv
  rw [S_zeros]
  intro i _
  rw [hf i]; grind
theorem Quo_start {rs ds : List Nat} (h : ∀ x ∈ rs, x < P) (hl : ds.length - 1 < rs.length) : Quo rs ds (List.replicate (rs.length - (ds.length - 1)) 0) rs (rs.length - (ds.length - 1)) := by
  refine ⟨by simp, rfl, ?_, h, fun t _ => cf_replicate _ t, fun t ht => cf_ge (by omega), fun t => ?_, fun h => ?_, fun _ => rfl⟩
  · intro x hx; have := List.eq_of_mem_replicate hx; subst this; decide
  · rw [conv_zero_left (fun i => cf_replicate _ i)]; grind
  · simp at h
theorem conv_one {f f' g : Nat → F} {i : Nat} {c : F} (h : ∀ t, f' t = if t = i then c else f t) (h0 : f i = 0) (t : Nat) : conv f' g t = conv f g t + (if i ≤ t then c * g (t - i) else 0) := by
  have e : ∀ n, S n (fun j => f' j * g (t - j)) = S n (fun j => f j * g (t - j)) + (if i < n then c * g (t - i) else 0) := by
    intro n
    induction n with
    | zero => rw [S_zero, S_zero, if_neg (by omega)]; grind
    | succ n ih =>
      rw [S_succ, S_succ, ih, h n]
      by_cases h1 : n = i
      · subst h1
        rw [if_neg (by omega), if_pos rfl, if_pos (by omega), h0]; grind
      · rw [if_neg h1]
        by_cases h2 : i < n
        · rw [if_pos h2, if_pos (by omega)]; grind
        · rw [if_neg h2, if_neg (by omega)]; grind
  unfold conv
  rw [e (t + 1)]
  by_cases h1 : i ≤ t
  · rw [if_pos (by omega), if_pos h1]
  · rw [if_neg (by omega), if_neg h1]
theorem Quo_step {rs ds qs rs' : List Nat} {i v : Nat} (h : Quo rs ds qs rs' (i + 1)) (hi : i + 1 ≤ qs.length) (hd : ds.length ≠ 0) (hl : ds.length - 1 < rs.length) (hrs : rs.length ≠ 0 → cf rs (rs.length - 1) ≠ 0)
    (hv : toF v * cf ds (ds.length - 1) = 1) : Quo rs ds (qs.set i (fM (rs'.getD (i + (ds.length - 1)) 0) v)) (addT rs' i ds (fS 0 (fM (rs'.getD (i + (ds.length - 1)) 0) v))) i := by
  obtain ⟨h1, h2, h3, h4, h5, h6, h7, h8, h9⟩ := h
  generalize hL : ds.length - 1 = L at *
  have hdl : ds.length = L + 1 := by omega
  obtain ⟨c, hc⟩ : ∃ c, c = fM (rs'.getD (i + L) 0) v := ⟨_, rfl⟩
  rw [← hc]
  have hcF : toF c = cf rs' (i + L) * toF v := by rw [hc, toF_fM]; rfl
  have hcP : c < P := by have := fM_lt (rs'.getD (i + L) 0) v; rw [hc]; unfold P; omega
  have hfit : i + ds.length ≤ rs'.length := by omega
  have hcd := fun t => cf_addT rs' i ds (fS 0 c) hfit t
  have hneg : toF (fS 0 c) = 0 - toF c := by rw [toF_fS]; rfl
  have hq := fun t => cf_set qs i c t (by omega)
  refine ⟨by rw [List.length_set, hL]; exact h1, by rw [addT_length]; exact h2, ?_, addK_P _ _ _ _ _ h4, fun t ht => ?_, fun t ht => ?_, fun t => ?_, fun _ => ?_, fun e => ?_⟩
  · intro x hx
    rcases List.mem_or_eq_of_mem_set hx with h | h
    · exact h3 x h
    · subst h; exact hcP
  · rw [hq, if_neg (by omega)]; exact h5 t (by omega)
  · rw [hcd, if_pos (by omega), hneg]
    by_cases e : t = i + L
    · subst e
      rw [hcF, show i + L - i = L by omega]
      grind
    · rw [h6 t (by omega), cf_ge (a := ds) (by omega)]; grind
  · rw [conv_one hq (h5 i (by omega)), hcd, h7 t, hneg]
    by_cases e : i ≤ t
    · rw [if_pos e, if_pos e]; grind
    · rw [if_neg e, if_neg e]; grind
  · rw [List.length_set, hq]
    by_cases e : qs.length - 1 = i
    · rw [if_pos e, hcF]
      have e2 : rs' = rs := h9 (by omega)
      have e3 : i + L = rs.length - 1 := by omega
      rw [e2, e3]
      intro h0
      rcases mul_ne h0 with h | h
      · exact hrs (by omega) h
      · rw [h] at hv
        have : (0 : F) = 1 := by grind
        exact absurd this (by decide)
    · rw [if_neg e]; exact h8 (by omega)
  · rw [List.length_set] at e; omega

theorem Divs_of {xs ys qs rs' : List Nat} (hb : (pN ys).length ≠ 0) (hl : (pN ys).length - 1 < (pN xs).length) (h : Quo (pN xs) (pN ys) qs rs' 0) : Divs xs ys qs (pN rs') := by
  obtain ⟨h1, h2, h3, h4, h5, h6, h7, h8, h9⟩ := h
  refine ⟨pN_self h3 (fun _ => h8 (by omega)), pN_pN _, ?_, fun i => ?_⟩
  · rw [pN_length]
    rcases Nat.lt_or_ge (sig rs') (pN ys).length with h | h
    · exact h
    · exact absurd (h6 (sig rs' - 1) (by omega)) (sig_last rs' (by omega))
  · rw [cf_pN, ← cf_pN xs, h7 i]
    congr 1
    exact conv_congr (fun _ => rfl) (cf_pN ys) i
theorem Divs_small {xs ys : List Nat} (hb : (pN ys).length ≠ 0) (hl : (pN xs).length ≤ (pN ys).length - 1) : Divs xs ys [] (pN (pN xs)) := by
  refine ⟨by simp [pN, sig], pN_pN _, by rw [pN_pN]; omega, fun i => ?_⟩
  rw [conv_zero_left (fun i => cf_ge (by simp)), cf_pN, cf_pN]; grind

/-- The polynomial that is 0 at the first k places. -/
def zp (X : Nat → F) : Nat → F → F
  | 0, _ => 1
  | k + 1, x => zp X k x * (x - X k)
theorem zp_at (X : Nat → F) (k j : Nat) (hj : j < k) : zp X k (X j) = 0 := by
  induction k with
  | zero => omega
  | succ k ih =>
    rw [zp]
    by_cases e : j = k
    · subst e; grind
    · rw [ih (by omega)]; grind
theorem zp_ne (X : Nat → F) (k : Nat) (x : F) (h : ∀ j, j < k → x ≠ X j) : zp X k x ≠ 0 := by
  induction k with
  | zero => rw [zp]; decide
  | succ k ih =>
    rw [zp]
    intro h0
    rcases mul_ne h0 with h1 | h1
    · exact ih (fun j hj => h j (by omega)) h1
    · exact h k (by omega) (by grind)
/-- What holds on the way through points: zeros, and what goes through the first i points. -/
def Zer (xs l : List Nat) (i : Nat) : Prop := l.length = i + 1 ∧ (∀ x ∈ l, (x : Int) < 18446744073709551616) ∧ ∀ x, evF (l.map toF) x = zp (cf xs) i x
def Way (xs ys l : List Nat) (i : Nat) : Prop := l.length = xs.length ∧ (∀ x ∈ l, (x : Int) < 18446744073709551616) ∧ ∀ j, j < i → evF (l.map toF) (cf xs j) = cf ys j
theorem Zer_start (xs : List Nat) : Zer xs [1] 0 := ⟨rfl, by intro x hx; simp at hx; subst hx; decide, fun x => by rw [ev_one, toF_one]; rfl⟩
theorem Way_start (xs ys : List Nat) : Way xs ys (List.replicate xs.length 0) 0 :=
  ⟨by simp, by intro x hx; have := List.eq_of_mem_replicate hx; subst this; decide, fun j hj => by omega⟩
theorem Zer_step {xs l : List Nat} {i : Nat} (h : Zer xs l i) : Zer xs (addT (0 :: l) 0 l (fS 0 (xs.getD i 0))) (i + 1) := by
  obtain ⟨h1, h2, h3⟩ := h
  refine ⟨by rw [addT_length, List.length_cons, h1], addK_rng _ _ _ _ _ ?_, fun x => ?_⟩
  · intro x hx
    rcases List.mem_cons.mp hx with h | h
    · subst h; decide
    · exact h2 x h
  · rw [ev_addT0 _ _ _ (by simp), List.map_cons, evF, h3, zp, toF_fS, toF_zero]
    show 0 + x * _ + (0 - cf xs i) * _ = _
    grind
theorem Way_step {xs ys l z : List Nat} {i v : Nat} (hi : i < xs.length) (h : Way xs ys l i) (hz : Zer xs z i) (hv : zp (cf xs) i (cf xs i) * toF v = 1) :
    Way xs ys (addT l 0 z (fM (fS (ys.getD i 0) (pE l (xs.getD i 0))) v)) (i + 1) := by
  obtain ⟨h1, h2, h3⟩ := h
  refine ⟨by rw [addT_length]; exact h1, addK_rng _ _ _ _ _ h2, fun j hj => ?_⟩
  rw [ev_addT0 _ _ _ (by rw [hz.1, h1]; omega), hz.2.2, toF_fM, toF_fS, toF_pE]
  by_cases e : j = i
  · subst e
    show evF _ (cf xs j) + (cf ys j - evF _ (cf xs j)) * toF v * zp (cf xs) j (cf xs j) = cf ys j
    grind
  · rw [h3 j (by omega), zp_at _ _ _ (by omega)]; grind
theorem Way_end {xs ys l : List Nat} (h : Way xs ys l xs.length) : Goes (pN l) xs.length (cf xs) (cf ys) :=
  ⟨pN_pN _, by rw [pN_length]; have := sig_le l; have := h.1; omega, fun j hj => by rw [ev_pN]; exact h.2.2 j hj⟩

end Go.Proofs.YtmggccepmicjhagGreatDoor

/- Transforms over the field of the prime: roots of 1 of the order 2^k, sums of their powers, back and forth, halves, shifts, PARSEVAL, the transform of a product; no program in sight. -/
namespace Go.Proofs.YtmggccepmicjhagGreatDoor

theorem pw_one (n : Nat) : pw 1 n = 1 := by
  induction n with
  | zero => rfl
  | succ n ih => rw [pw_succ, ih]; grind
theorem pw_mul_base (x y : F) (n : Nat) : pw (x * y) n = pw x n * pw y n := by
  induction n with
  | zero => rw [pw_zero, pw_zero, pw_zero]; grind
  | succ n ih => rw [pw_succ, pw_succ, pw_succ, ih]; grind
theorem pw_comm (x : F) (m n : Nat) : pw (pw x m) n = pw (pw x n) m := by rw [← pw_mul, ← pw_mul, Nat.mul_comm]

/-- A number of the order 2^k: its 2^k-th power is 1, and (of k above 0) its 2^(k-1)-th is -1. -/
structure Ord (w : F) (k : Nat) : Prop where
  one : pw w (2 ^ k) = 1
  half : ∀ j, k = j + 1 → pw w (2 ^ j) = -1

theorem Ord.ne_zero {w : F} {k : Nat} (h : Ord w k) : w ≠ 0 := by
  intro e
  have h1 := h.one
  rw [e] at h1
  obtain ⟨j, hj⟩ : ∃ j, 2 ^ k = j + 1 := ⟨2 ^ k - 1, by have := Nat.pow_pos (n := k) (show 0 < 2 by decide); omega⟩
  rw [hj, pw_succ] at h1
  have : (0 : F) = 1 := by grind
  exact absurd this (by decide)
theorem Ord.sq {w : F} {k : Nat} (h : Ord w (k + 1)) : Ord (w * w) k := by
  have e : ∀ m, pw (w * w) m = pw w (2 * m) := fun m => by
    rw [pw_mul]
    congr 1
    rw [show (2 : Nat) = 1 + 1 from rfl, pw_succ, pw_succ, pw_zero]; grind
  refine ⟨?_, fun j hj => ?_⟩
  · rw [e, show 2 * 2 ^ k = 2 ^ (k + 1) by rw [Nat.pow_succ]; omega]; exact h.one
  · rw [e, show 2 * 2 ^ j = 2 ^ (j + 1) by rw [Nat.pow_succ]; omega]; exact h.half (j + 1) (by omega)

theorem one_ne_neg : (1 : F) ≠ -1 := by decide
theorem neg_pow_odd (m : Nat) : pw (-1) (2 * m + 1) = -1 := by
  induction m with
  | zero => rw [Nat.mul_zero, pw_succ, pw_zero]; grind
  | succ m ih => rw [show 2 * (m + 1) + 1 = 2 * m + 1 + 1 + 1 by omega, pw_succ, pw_succ, ih]; grind
theorem Ord.dvd {w : F} {k d : Nat} (h : Ord w k) (hd : pw w d = 1) : 2 ^ k ∣ d := by
  have step : ∀ s, s ≤ k → 2 ^ s ∣ d := by
    intro s
    induction s with
    | zero => intro _; exact ⟨d, by omega⟩
    | succ s ih =>
      intro hs
      obtain ⟨m, hm⟩ := ih (by omega)
      rcases Nat.mod_two_eq_zero_or_one m with he | ho
      · exact ⟨m / 2, by rw [hm, Nat.pow_succ, Nat.mul_assoc]; congr 1; omega⟩
      · exfalso
        obtain ⟨t, ht⟩ : ∃ t, k = s + t + 1 := ⟨k - s - 1, by omega⟩
        have h1 : pw (pw w d) (2 ^ t) = 1 := by rw [hd, pw_one]
        have e : d * 2 ^ t = 2 ^ (s + t) * m := by rw [hm, Nat.pow_add]; grind
        rw [← pw_mul, e, pw_mul, h.half (s + t) (by omega)] at h1
        have e2 : m = 2 * (m / 2) + 1 := by omega
        rw [e2, neg_pow_odd] at h1
        exact one_ne_neg h1.symm
  exact step k (Nat.le_refl _)
theorem Ord.pow_ne {w : F} {k d : Nat} (h : Ord w k) (h0 : 0 < d) (h1 : d < 2 ^ k) : pw w d ≠ 1 := by
  intro e
  have := Nat.le_of_dvd h0 (h.dvd e)
  omega
theorem Ord.pow_mod {w : F} {k : Nat} (h : Ord w k) (m : Nat) : pw w (m % 2 ^ k) = pw w m := by
  have e := Nat.div_add_mod m (2 ^ k)
  conv => rhs; rw [← e, pw_add, pw_mul, h.one, pw_one]
  grind
theorem Ord.inj {w : F} {k i j : Nat} (h : Ord w k) (hi : i < 2 ^ k) (hj : j < 2 ^ k) (e : pw w i = pw w j) : i = j := by
  have key : ∀ i j, i < j → j < 2 ^ k → pw w i ≠ pw w j := by
    intro i j hij hj e
    have h1 : pw w (j - i) = 1 := by
      have e2 : pw w j = pw w (j - i) * pw w i := by rw [← pw_add]; congr 1; omega
      have hne : pw w i ≠ 0 := by
        intro hz
        have h2 : pw w (i + (2 ^ k - i)) = 0 := by rw [pw_add, hz]; grind
        rw [show i + (2 ^ k - i) = 2 ^ k by omega, h.one] at h2
        exact absurd h2 (by decide)
      apply mul_cancel hne
      rw [e2] at e
      grind
    exact h.pow_ne (by omega) (by omega) h1
  rcases Nat.lt_trichotomy i j with h1 | h1 | h1
  · exact absurd e (key i j h1 hj)
  · exact h1
  · exact absurd e.symm (key j i h1 hi)

/-- Sums of powers. -/
theorem geo (v : F) (n : Nat) : (v - 1) * S n (fun j => pw v j) = pw v n - 1 := by
  induction n with
  | zero => rw [S_zero, pw_zero]; grind
  | succ n ih => rw [S_succ, pw_succ]; grind
theorem geo_zero {v : F} {n : Nat} (h1 : pw v n = 1) (hne : v ≠ 1) : S n (fun j => pw v j) = 0 := by
  have h := geo v n
  rw [h1] at h
  have h2 : (v - 1) * S n (fun j => pw v j) = 0 := by grind
  rcases mul_ne h2 with h3 | h3
  · exact absurd (show v = 1 by grind) hne
  · exact h3
theorem S_const (n : Nat) (c : F) : S n (fun _ => c) = toF n * c := by
  induction n with
  | zero => rw [S_zero, toF_zero]; grind
  | succ n ih => rw [S_succ, ih, toF_add, toF_one]; grind
theorem S_delta (n i : Nat) (hi : i < n) (f : Nat → F) (h : ∀ j, j < n → j ≠ i → f j = 0) : S n f = f i := by
  obtain ⟨m, rfl⟩ : ∃ m, n = i + (1 + m) := ⟨n - i - 1, by omega⟩
  rw [S_split, S_zeros (n := i) (fun j hj => h j (by omega) (by omega)), S_split, S_zeros (n := m) (fun j hj => h (i + (1 + j)) (by omega) (by omega)), S_succ, S_zero, Nat.add_zero]
  grind

/-- The transform of a list of n numbers, by w. -/
def dft (w : F) (n : Nat) (f : Nat → F) (j : Nat) : F := S n (fun i => f i * pw w (i * j))
theorem dft_congr {w : F} {n : Nat} {f g : Nat → F} (h : ∀ i, i < n → f i = g i) (j : Nat) : dft w n f j = dft w n g j :=
  S_congr fun i hi => by rw [h i hi]
theorem dft_lin (w : F) (n : Nat) (c : F) (f g : Nat → F) (j : Nat) : dft w n (fun i => c * f i + g i) j = c * dft w n f j + dft w n g j := by
  unfold dft
  rw [← S_mul, ← S_add]
  exact S_congr fun i _ => by grind
theorem dft_ev (w : F) (l : List F) (j : Nat) : evF l (pw w j) = dft w l.length (gf l) j := by
  rw [evF_S]
  exact S_congr fun i _ => by rw [← pw_mul, Nat.mul_comm]

/-- Back: by the inverse root, and by how many there are. -/
theorem dft_back {w v : F} {k : Nat} (h : Ord w k) (hv : w * v = 1) (f : Nat → F) (i : Nat) (hi : i < 2 ^ k) : dft v (2 ^ k) (dft w (2 ^ k) f) i = toF (2 ^ k) * f i := by
  unfold dft
  have e1 : S (2 ^ k) (fun j => S (2 ^ k) (fun l => f l * pw w (l * j)) * pw v (j * i)) = S (2 ^ k) (fun l => f l * S (2 ^ k) (fun j => pw (pw w l * pw v i) j)) := by
    have e2 : S (2 ^ k) (fun j => S (2 ^ k) (fun l => f l * pw w (l * j)) * pw v (j * i)) = S (2 ^ k) (fun j => S (2 ^ k) (fun l => f l * pw (pw w l * pw v i) j)) := by
      refine S_congr fun j _ => ?_
      rw [show S (2 ^ k) (fun l => f l * pw w (l * j)) * pw v (j * i) = pw v (j * i) * S (2 ^ k) (fun l => f l * pw w (l * j)) by grind, ← S_mul]
      refine S_congr fun l _ => ?_
      rw [pw_mul_base, ← pw_mul, ← pw_mul, Nat.mul_comm i j]; grind
    rw [e2, S_comm]
    exact S_congr fun l _ => by rw [← S_mul]
  rw [e1, S_delta (2 ^ k) i hi]
  · have e3 : pw w i * pw v i = 1 := by rw [← pw_mul_base, hv, pw_one]
    rw [e3]
    have e4 : S (2 ^ k) (fun j => pw 1 j) = toF (2 ^ k) * 1 := by rw [← S_const]; exact S_congr fun j _ => pw_one j
    rw [e4]; grind
  · intro l hl hne
    have hvn : pw v (2 ^ k) = 1 := by
      have : pw (w * v) (2 ^ k) = 1 := by rw [hv, pw_one]
      rw [pw_mul_base, h.one] at this
      grind
    rw [geo_zero]
    · grind
    · rw [pw_mul_base, ← pw_mul, ← pw_mul, Nat.mul_comm l, Nat.mul_comm i, pw_mul, pw_mul, h.one, hvn, pw_one, pw_one]; grind
    · intro e
      apply hne
      apply h.inj hl hi
      have e3 : pw w i * pw v i = 1 := by rw [← pw_mul_base, hv, pw_one]
      have hz : pw v i ≠ 0 := by
        intro hz
        rw [hz] at e3
        exact absurd (show (0 : F) = 1 by grind) (by decide)
      apply mul_cancel hz
      grind
theorem Ord.inv {w v : F} {k : Nat} (h : Ord w k) (hv : w * v = 1) : Ord v k := by
  have hp : ∀ n, pw w n * pw v n = 1 := fun n => by rw [← pw_mul_base, hv, pw_one]
  refine ⟨?_, fun j hj => ?_⟩
  · have := hp (2 ^ k); rw [h.one] at this; grind
  · have := hp (2 ^ j); rw [h.half j hj] at this; grind
theorem two_pow_ne (k : Nat) (hk : k ≤ 32) : toF (2 ^ k) ≠ 0 := by
  intro h
  have h1 : 2 ^ k % P = 0 % P := mod_of_toF (h.trans toF_zero.symm)
  have h2 : 2 ^ k ≤ 2 ^ 32 := Nat.pow_le_pow_right (by decide) hk
  have h3 : 2 ^ k < P := Nat.lt_of_le_of_lt h2 (by decide)
  rw [Nat.mod_eq_of_lt h3] at h1
  have := Nat.pow_pos (n := k) (show 0 < 2 by decide)
  simp at h1

/-- Halves: of even and of odd numbers. -/
theorem S_even_odd (m : Nat) (f : Nat → F) : S (2 * m) f = S m (fun i => f (2 * i)) + S m (fun i => f (2 * i + 1)) := by
  induction m with
  | zero => rw [Nat.mul_zero, S_zero, S_zero, S_zero]; grind
  | succ m ih => rw [show 2 * (m + 1) = 2 * m + 1 + 1 by omega, S_succ, S_succ, ih, S_succ, S_succ]; grind
theorem dft_halves (w : F) (m : Nat) (f : Nat → F) (j : Nat) : dft w (2 * m) f j = dft (w * w) m (fun i => f (2 * i)) j + pw w j * dft (w * w) m (fun i => f (2 * i + 1)) j := by
  have e : ∀ n, pw (w * w) n = pw w (2 * n) := fun n => by rw [pw_mul_base, ← pw_add]; congr 1; omega
  unfold dft
  rw [S_even_odd, ← S_mul]
  congr 1
  · exact S_congr fun i _ => by rw [e]; congr 2; grind
  · refine S_congr fun i _ => ?_
    rw [e, show (2 * i + 1) * j = j + 2 * (i * j) by grind, pw_add]; grind
theorem dft_upper {w : F} {k : Nat} (h : Ord w (k + 1)) (f : Nat → F) (j : Nat) : dft w (2 * 2 ^ k) f (j + 2 ^ k) = dft (w * w) (2 ^ k) (fun i => f (2 * i)) j - pw w j * dft (w * w) (2 ^ k) (fun i => f (2 * i + 1)) j := by
  have hs := h.sq
  have hp : ∀ (g : Nat → F), dft (w * w) (2 ^ k) g (j + 2 ^ k) = dft (w * w) (2 ^ k) g j := fun g => by
    refine S_congr fun i _ => ?_
    rw [Nat.mul_add, pw_add, Nat.mul_comm i (2 ^ k), pw_mul (w * w) (2 ^ k) i, hs.one, pw_one]; grind
  rw [dft_halves, hp, hp, pw_add, h.half k rfl]; grind

/-- The roots of the program are of their orders. -/
theorem pw_rt_one (k : Nat) (hk : k ≤ 32) : pw (toF (rt k)) (2 ^ k) = 1 := by
  induction k with
  | zero => rw [rt_zero, Nat.pow_zero, pw_succ, pw_zero, toF_one]; grind
  | succ k ih =>
    rw [show 2 ^ (k + 1) = 2 * 2 ^ k by rw [Nat.pow_succ]; omega, pw_mul]
    have e : pw (toF (rt (k + 1))) 2 = toF (rt k) := by
      rw [← rt_sq k (by omega), toF_fM, show (2 : Nat) = 1 + 1 from rfl, pw_succ, pw_succ, pw_zero]; grind
    rw [e]
    exact ih (by omega)
theorem toF_neg_one : toF 18446744069414584320 = -1 := by decide
theorem ord_rt (k : Nat) (hk : k ≤ 32) : Ord (toF (rt k)) k := by
  refine ⟨pw_rt_one k hk, fun j hj => ?_⟩
  subst hj
  rw [← toF_fW, rt_half j (by omega), toF_neg_one]

/-- Gone on by one place, round the end. -/
theorem S_shift (n : Nat) (f : Nat → F) : S (n + 1) (fun i => f ((i + 1) % (n + 1))) = S (n + 1) f := by
  rw [S_succ, S_first n f, Nat.mod_self]
  have : S n (fun i => f ((i + 1) % (n + 1))) = S n (fun i => f (i + 1)) := S_congr fun i hi => by rw [Nat.mod_eq_of_lt (by omega)]
  rw [this]; grind
theorem dft_shift {w : F} {k : Nat} (h : Ord w k) (f g : Nat → F) (hg : ∀ i, i < 2 ^ k → g ((i + 1) % 2 ^ k) = f i) (j : Nat) : dft w (2 ^ k) g j = dft w (2 ^ k) f j * pw w j := by
  obtain ⟨n, hn⟩ : ∃ n, 2 ^ k = n + 1 := ⟨2 ^ k - 1, by have := Nat.pow_pos (n := k) (show 0 < 2 by decide); omega⟩
  unfold dft
  rw [show S (2 ^ k) (fun i => f i * pw w (i * j)) * pw w j = pw w j * S (2 ^ k) (fun i => f i * pw w (i * j)) by grind, ← S_mul]
  have e := S_shift n (fun i => g i * pw w (i * j))
  rw [← hn] at e
  rw [← e]
  refine S_congr fun i hi => ?_
  rw [hg i hi, pw_mul w ((i + 1) % 2 ^ k) j, h.pow_mod, ← pw_mul, Nat.add_mul, pw_add, Nat.one_mul]; grind

/-- Turned round: by the inverse root. -/
theorem S_turn (n : Nat) (f : Nat → F) : S (n + 1) (fun i => f ((n + 1 - i) % (n + 1))) = S (n + 1) f := by
  rw [S_first n f, S_first n (fun i => f ((n + 1 - i) % (n + 1))), Nat.sub_zero, Nat.mod_self, S_rev n (fun i => f (i + 1))]
  have : S n (fun i => f ((n + 1 - (i + 1)) % (n + 1))) = S n (fun i => f (n - 1 - i + 1)) := S_congr fun i hi => by
    congr 1
    rw [Nat.mod_eq_of_lt (by omega)]; omega
  rw [this]
theorem dft_turn {w v : F} {k : Nat} (h : Ord w k) (hv : w * v = 1) (f g : Nat → F) (hg : ∀ i, i < 2 ^ k → g ((2 ^ k - i) % 2 ^ k) = f i) (j : Nat) : dft w (2 ^ k) g j = dft v (2 ^ k) f j := by
  obtain ⟨n, hn⟩ : ∃ n, 2 ^ k = n + 1 := ⟨2 ^ k - 1, by have := Nat.pow_pos (n := k) (show 0 < 2 by decide); omega⟩
  unfold dft
  have e := S_turn n (fun i => g i * pw w (i * j))
  rw [← hn] at e
  rw [← e]
  refine S_congr fun i hi => ?_
  rw [hg i hi, pw_mul w ((2 ^ k - i) % 2 ^ k) j, h.pow_mod, pw_mul v i j]
  congr 2
  have h1 : pw w (2 ^ k - i) * pw w i = 1 := by rw [← pw_add, show 2 ^ k - i + i = 2 ^ k by omega, h.one]
  have h2 : pw w i * pw v i = 1 := by rw [← pw_mul_base, hv, pw_one]
  grind
/-- PARSEVAL: the sum of products with the other one turned round is that of the transforms, by how many there are. -/
theorem parseval {w v : F} {k : Nat} (h : Ord w k) (hv : w * v = 1) (f g r : Nat → F) (hr : ∀ i, i < 2 ^ k → r ((2 ^ k - i) % 2 ^ k) = g i) : S (2 ^ k) (fun j => dft w (2 ^ k) f j * dft w (2 ^ k) r j) = S (2 ^ k) (fun i => f i * g i) * toF (2 ^ k) := by
  have e1 : S (2 ^ k) (fun j => dft w (2 ^ k) f j * dft w (2 ^ k) r j) = S (2 ^ k) (fun j => S (2 ^ k) (fun i => g i * (dft w (2 ^ k) f j * pw v (i * j)))) := by
    refine S_congr fun j _ => ?_
    rw [dft_turn h hv g r hr j]
    show dft w (2 ^ k) f j * S (2 ^ k) (fun i => g i * pw v (i * j)) = _
    rw [← S_mul]
    exact S_congr fun i _ => by grind
  rw [e1, S_comm, show S (2 ^ k) (fun i => f i * g i) * toF (2 ^ k) = toF (2 ^ k) * S (2 ^ k) (fun i => f i * g i) by grind, ← S_mul]
  refine S_congr fun i hi => ?_
  rw [S_mul]
  have e2 := dft_back h hv f i hi
  have e3 : S (2 ^ k) (fun j => dft w (2 ^ k) f j * pw v (i * j)) = dft v (2 ^ k) (dft w (2 ^ k) f) i := S_congr fun j _ => by rw [Nat.mul_comm]
  rw [e3, e2]; grind

/-- The transform of a product round the end is the product of the transforms. -/
theorem S_fold {w : F} {k : Nat} (h : Ord w k) (l : Nat → F) (j : Nat) : S (2 ^ k + 2 ^ k) (fun i => l i * pw (pw w j) i) = S (2 ^ k) (fun i => (l i + l (i + 2 ^ k)) * pw w (i * j)) := by
  rw [S_split, ← S_add]
  refine S_congr fun i _ => ?_
  have e : pw (pw w j) (2 ^ k) = 1 := by rw [pw_comm, h.one, pw_one]
  rw [pw_add, e, ← pw_mul, Nat.mul_comm j i, Nat.add_comm (2 ^ k) i]; grind
theorem dft_conv {w : F} {k : Nat} (h : Ord w k) (a b : List F) (ha : a.length = 2 ^ k) (hb : b.length = 2 ^ k) (j : Nat) : dft w (2 ^ k) (fun i => conv (gf a) (gf b) i + conv (gf a) (gf b) (i + 2 ^ k)) j = dft w (2 ^ k) (gf a) j * dft w (2 ^ k) (gf b) j := by
  have e1 := evF_mulF a b (pw w j)
  rw [dft_ev w a, dft_ev w b, ha, hb] at e1
  rw [← e1]
  have hz : ∀ i, 2 ^ k + 2 ^ k ≤ i + 1 → conv (gf a) (gf b) i = 0 := fun i hi => conv_above (m := 2 ^ k) (n := 2 ^ k) (fun t ht => gf_ge (by omega)) (fun t ht => gf_ge (by omega)) i hi
  have e2 : dft w (2 ^ k) (fun i => conv (gf a) (gf b) i + conv (gf a) (gf b) (i + 2 ^ k)) j = S (2 ^ k + 2 ^ k) (fun i => conv (gf a) (gf b) i * pw (pw w j) i) := (S_fold h (conv (gf a) (gf b)) j).symm
  rw [e2, evF_S]
  rcases Nat.le_total (2 ^ k + 2 ^ k) (mulF a b).length with hle | hle
  · rw [S_more hle]
    · exact S_congr fun i _ => by rw [gf_mulF]
    · intro i h1 h2
      rw [gf_mulF, hz i (by omega)]; grind
  · rw [S_more hle]
    · exact S_congr fun i _ => by rw [gf_mulF]
    · intro i h1 h2
      rw [← gf_mulF, gf_ge h1]; grind

end Go.Proofs.YtmggccepmicjhagGreatDoor

/- The transform of a list of 2^k numbers and the way back, by the roots of the program: back and forth a list is what it was; sums; the transform of 1 and noughts; no program in sight. -/
namespace Go.Proofs.YtmggccepmicjhagGreatDoor

/-- The transform of a list; and back. -/
def fw (xs : List Nat) (k : Nat) : Nat → F := dft (toF (rt k)) (2 ^ k) (cf xs)
def bw (xs : List Nat) (k : Nat) : Nat → F := fun j => inv (toF (2 ^ k)) * dft (inv (toF (rt k))) (2 ^ k) (cf xs) j
theorem dft_cf (w : F) (xs : List Nat) (k j : Nat) (h : xs.length = 2 ^ k) : dft w (2 ^ k) (cf xs) j = evF (xs.map toF) (pw w j) := by
  rw [dft_ev, List.length_map, h]
  exact dft_congr (fun i _ => cf_gf xs i) j
theorem rt_ne (k : Nat) (hk : k ≤ 32) : fN (rt k) ≠ 0 := by
  intro h
  exact (ord_rt k hk).ne_zero ((fN_zero _).mp h)
theorem len_ne (k : Nat) (hk : k ≤ 32) : fN (2 ^ k) ≠ 0 := by
  intro h
  exact two_pow_ne k hk ((fN_zero _).mp h)
theorem dft_scale (w : F) (n : Nat) (c : F) (f : Nat → F) (j : Nat) : dft w n (fun i => c * f i) j = c * dft w n f j := by
  unfold dft
  rw [← S_mul]
  exact S_congr fun i _ => by grind
theorem rt_inv (k : Nat) (hk : k ≤ 32) : toF (rt k) * inv (toF (rt k)) = 1 := mul_inv (ord_rt k hk).ne_zero
theorem back_forth (xs : List Nat) (k : Nat) (hk : k ≤ 32) : mk (2 ^ k) (bw (mk (2 ^ k) (fw xs k)) k) = mk (2 ^ k) (cf xs) := by
  refine mk_congr fun j hj => ?_
  unfold bw
  have e : dft (inv (toF (rt k))) (2 ^ k) (cf (mk (2 ^ k) (fw xs k))) j = dft (inv (toF (rt k))) (2 ^ k) (dft (toF (rt k)) (2 ^ k) (cf xs)) j :=
    dft_congr (fun i hi => by rw [cf_mk, if_pos hi]; rfl) j
  rw [e, dft_back (ord_rt k hk) (rt_inv k hk) (cf xs) j hj]
  have := mul_inv (two_pow_ne k hk)
  grind
theorem forth_back (xs : List Nat) (k : Nat) (hk : k ≤ 32) : mk (2 ^ k) (fw (mk (2 ^ k) (bw xs k)) k) = mk (2 ^ k) (cf xs) := by
  refine mk_congr fun j hj => ?_
  unfold fw
  have e : dft (toF (rt k)) (2 ^ k) (cf (mk (2 ^ k) (bw xs k))) j = dft (toF (rt k)) (2 ^ k) (fun i => inv (toF (2 ^ k)) * dft (inv (toF (rt k))) (2 ^ k) (cf xs) i) j :=
    dft_congr (fun i hi => by rw [cf_mk, if_pos hi]; rfl) j
  have hv : inv (toF (rt k)) * toF (rt k) = 1 := by have := rt_inv k hk; grind
  rw [e, dft_scale, dft_back ((ord_rt k hk).inv (rt_inv k hk)) hv (cf xs) j hj]
  have := mul_inv (two_pow_ne k hk)
  grind
theorem fw_lin (xs ys : List Nat) (c : F) (k j : Nat) : fw (mk (2 ^ k) (fun i => c * cf xs i + cf ys i)) k j = c * fw xs k j + fw ys k j := by
  unfold fw
  rw [← dft_lin]
  exact dft_congr (fun i hi => by rw [cf_mk, if_pos hi]) j
theorem fw_delta (j : Nat) : fw [1, 0, 0, 0] 2 j = 1 := by
  unfold fw dft
  rw [S_delta (2 ^ 2) 0 (by decide)]
  · rw [Nat.zero_mul, pw_zero]; decide
  · intro i h1 h2
    have e : cf [1, 0, 0, 0] i = 0 := by
      match i, h2 with
      | 1, _ => rfl
      | 2, _ => rfl
      | 3, _ => rfl
      | n + 4, _ => exact cf_ge (by simp)
    rw [e]; grind
theorem four_ones : mk (2 ^ 2) (fw [1, 0, 0, 0] 2) = [1, 1, 1, 1] := by
  have h : mk (2 ^ 2) (fw [1, 0, 0, 0] 2) = mk (2 ^ 2) (fun _ => 1) := mk_congr fun j _ => fw_delta j
  rw [h]; decide +kernel

end Go.Proofs.YtmggccepmicjhagGreatDoor

/- Products round the end: their numbers, and their transforms; no program in sight. -/
namespace Go.Proofs.YtmggccepmicjhagGreatDoor

/-- Number k of a product round the end; of a skew one. -/
def rnd (xs ys : List Nat) (skew : Bool) (k : Nat) : F := if skew then conv (cf xs) (cf ys) k - conv (cf xs) (cf ys) (k + xs.length) else conv (cf xs) (cf ys) k + conv (cf xs) (cf ys) (k + xs.length)
theorem gf_map (a : List Nat) : gf (a.map toF) = cf a := funext fun i => (cf_gf a i).symm
/-- CONVOLUTION: the transform of a product round the end is the product of transforms. -/
theorem rnd_fw (A B : List Nat) (k : Nat) (hk : k ≤ 32) (hA : A.length = 2 ^ k) (hB : B.length = 2 ^ k) (t : Nat) : fw (mk (2 ^ k) (rnd A B false)) k t = fw A k t * fw B k t := by
  have h := dft_conv (ord_rt k hk) (A.map toF) (B.map toF) (by rw [List.length_map]; exact hA) (by rw [List.length_map]; exact hB) t
  rw [gf_map, gf_map] at h
  unfold fw
  rw [← h]
  refine dft_congr (fun i hi => ?_) t
  rw [cf_mk, if_pos hi]
  show (if false = true then _ else _) = _
  rw [if_neg (by decide), hA]
theorem pM_get (A B : List Nat) (i : Nat) (hA : 0 < A.length) (hB : 0 < B.length) (hi : i < A.length + B.length - 1) : (pM A B).getD i 0 = (conv (cf A) (cf B) i).val := by
  unfold pM
  rw [if_neg (by omega), mk_getD _ _ _ hi]
theorem pM_len (A B : List Nat) (hA : 0 < A.length) (hB : 0 < B.length) : (pM A B).length = A.length + B.length - 1 := by
  unfold pM
  rw [if_neg (by omega), mk_length]
/-- What goes over the end. -/
def ovr (A B : List Nat) (i : Nat) : Nat := (conv (cf A) (cf B) (i + A.length)).val
theorem ovr_none (A B : List Nat) (i : Nat) (h : A.length + B.length ≤ i + A.length + 1) : ovr A B i = 0 := by
  unfold ovr
  rw [conv_above (m := A.length) (n := B.length) (fun t ht => cf_ge ht) (fun t ht => cf_ge ht) _ h]; rfl
theorem rnd_add (A B : List Nat) (i : Nat) : fA (conv (cf A) (cf B) i).val (ovr A B i) = (rnd A B false i).val := by
  rw [fA_val, toF_val, ovr, toF_val]; rfl
theorem rnd_sub (A B : List Nat) (i : Nat) : fS (conv (cf A) (cf B) i).val (ovr A B i) = (rnd A B true i).val := by
  rw [fS_val, toF_val, ovr, toF_val]; rfl
theorem pN_pM (A B : List Nat) : pN (pM A B) = pM (pN A) (pN B) := by
  rw [← pM_normal]
  exact pN_ext fun i => by rw [cf_pM, cf_pM]; exact conv_congr (fun t => (cf_pN A t).symm) (fun t => (cf_pN B t).symm) i
theorem ex_lin : pM [1, 2] [3, 4] = [3, 10, 8] := by decide +kernel

end Go.Proofs.YtmggccepmicjhagGreatDoor

/- Products round the end by transforms: there, number by number, and back; skew ones by the powers of a root of twice the order; linear ones by lists long enough; no program in sight. -/
namespace Go.Proofs.YtmggccepmicjhagGreatDoor

/-- There, number by number, and back. -/
theorem cyc_way (A B : List Nat) (k : Nat) (hk : k ≤ 32) (hA : A.length = 2 ^ k) (hB : B.length = 2 ^ k) (zs : List Nat) (hz : ∀ t, t < 2 ^ k → cf zs t = fw A k t * fw B k t) : mk (2 ^ k) (bw zs k) = mk (2 ^ k) (rnd A B false) := by
  have h1 : mk (2 ^ k) (bw zs k) = mk (2 ^ k) (bw (mk (2 ^ k) (fw (mk (2 ^ k) (rnd A B false)) k)) k) := by
    refine mk_congr fun j _ => ?_
    unfold bw
    congr 1
    refine dft_congr (fun i hi => ?_) j
    rw [hz i hi, cf_mk, if_pos hi, rnd_fw A B k hk hA hB]
  rw [h1, back_forth _ k hk]
  exact mk_congr fun j hj => by rw [cf_mk, if_pos hj]
theorem conv_tw (f g : Nat → F) (c : F) (k : Nat) : conv (fun i => f i * pw c i) (fun i => g i * pw c i) k = pw c k * conv f g k := by
  unfold conv
  rw [← S_mul]
  refine S_congr fun i hi => ?_
  have e : pw c k = pw c i * pw c (k - i) := by rw [← pw_add]; congr 1; omega
  rw [e]; grind
/-- Skew: each number times a power of a number whose n-th power is -1. -/
theorem rnd_skewK (A B A' B' : List Nat) (c : F) (hl : A'.length = A.length) (hc : pw c A.length = -1) (hA : ∀ i, cf A' i = cf A i * pw c i) (hB : ∀ i, cf B' i = cf B i * pw c i) (k : Nat) : rnd A' B' false k = pw c k * rnd A B true k := by
  show conv (cf A') (cf B') k + conv (cf A') (cf B') (k + A'.length) = pw c k * (conv (cf A) (cf B) k - conv (cf A) (cf B) (k + A.length))
  rw [conv_congr hA hB, conv_congr hA hB, conv_tw, conv_tw, hl, pw_add, hc]; grind
theorem rt_neg (k : Nat) (hk : k + 1 ≤ 32) : pw (toF (rt (k + 1))) (2 ^ k) = -1 := (ord_rt (k + 1) hk).half k rfl
/-- Linear: of lists with noughts behind them, so long that nothing goes over the end. -/
theorem rnd_lin (A B A' B' : List Nat) (hA : ∀ i, cf A' i = cf A i) (hB : ∀ i, cf B' i = cf B i) (hn : A.length + B.length ≤ A'.length + 1) (k : Nat) : rnd A' B' false k = conv (cf A) (cf B) k := by
  show conv (cf A') (cf B') k + conv (cf A') (cf B') (k + A'.length) = conv (cf A) (cf B) k
  rw [conv_congr hA hB, conv_congr hA hB, conv_above (m := A.length) (n := B.length) (fun t ht => cf_ge ht) (fun t ht => cf_ge ht) (k + A'.length) (by omega)]; grind
theorem lin_take (A B : List Nat) (n : Nat) (f : Nat → F) (hA : A.length ≠ 0) (hB : B.length ≠ 0) (hn : A.length + B.length - 1 ≤ n) (hf : ∀ k, f k = conv (cf A) (cf B) k) : (mk n f).take (A.length + B.length - 1) = pM A B := by
  unfold pM
  rw [if_neg (by omega)]
  unfold mk
  rw [← List.map_take, List.take_range, Nat.min_eq_left hn]
  exact List.map_congr_left fun i _ => by rw [hf]

end Go.Proofs.YtmggccepmicjhagGreatDoor

/- Arrays with axes: the place of a number at an axis, another place there; a transform along one axis, two of them in either order; all axes together, and back; products round all axes; no program in sight. -/
namespace Go.Proofs.YtmggccepmicjhagGreatDoor

/-- The place of number p at the axis of d places whose steps go over u numbers; the number with the place s there. -/
def dg (u d p : Nat) : Nat := p / u % d
def st (u d p s : Nat) : Nat := p / (u * d) * (u * d) + s * u + p % u

theorem div_of {q b r : Nat} (h : r < b) : (q * b + r) / b = q := by
  rw [Nat.mul_comm, Nat.mul_add_div (by omega), Nat.div_eq_of_lt h, Nat.add_zero]
theorem mod_of {q b r : Nat} (h : r < b) : (q * b + r) % b = r := by
  rw [Nat.mul_comm, Nat.mul_add_mod, Nat.mod_eq_of_lt h]
theorem low_lt {u d s r : Nat} (hs : s < d) (hr : r < u) : s * u + r < u * d := by
  have : (s + 1) * u ≤ d * u := Nat.mul_le_mul_right _ hs
  rw [Nat.add_mul, Nat.one_mul, Nat.mul_comm d u] at this
  omega
theorem st_div {u d p s : Nat} (hu : 0 < u) (hs : s < d) : st u d p s / (u * d) = p / (u * d) := by
  unfold st
  rw [Nat.add_assoc]
  exact div_of (low_lt hs (Nat.mod_lt _ hu))
theorem st_mod {u d p s : Nat} (hu : 0 < u) : st u d p s % u = p % u := by
  unfold st
  have e : p / (u * d) * (u * d) + s * u = (p / (u * d) * d + s) * u := by grind
  rw [e]
  exact mod_of (Nat.mod_lt _ hu)
theorem dg_st {u d p s : Nat} (hu : 0 < u) (hs : s < d) : dg u d (st u d p s) = s := by
  unfold dg st
  have e : p / (u * d) * (u * d) + s * u = (p / (u * d) * d + s) * u := by grind
  rw [e, div_of (Nat.mod_lt _ hu)]
  exact mod_of hs
theorem dg_lt {u d p : Nat} (hd : 0 < d) : dg u d p < d := Nat.mod_lt _ hd
theorem st_self (u d p : Nat) : st u d p (dg u d p) = p := by
  unfold st dg
  have h1 := Nat.div_add_mod p u
  have h2 := Nat.div_add_mod (p / u) d
  rw [Nat.div_div_eq_div_mul] at h2
  have e : p / (u * d) * (u * d) + p / u % d * u = u * (d * (p / (u * d)) + p / u % d) := by grind
  rw [e, h2, h1]
theorem st_st {u d p s t : Nat} (hu : 0 < u) (hs : s < d) : st u d (st u d p s) t = st u d p t := by
  rw [show st u d (st u d p s) t = st u d p s / (u * d) * (u * d) + t * u + st u d p s % u from rfl, st_div hu hs, st_mod hu]; rfl
theorem st_high {u d : Nat} (hu : 0 < u) (hd : 0 < d) (m Y l s : Nat) : st u d (Y * (u * d * m) + l) s = Y * (u * d * m) + st u d l s := by
  unfold st
  have hp : 0 < u * d := Nat.mul_pos hu hd
  have e1 : Y * (u * d * m) + l = u * d * (Y * m) + l := by grind
  have e2 : Y * (u * d * m) + l = u * (Y * d * m) + l := by grind
  rw [show (Y * (u * d * m) + l) / (u * d) = Y * m + l / (u * d) by rw [e1, Nat.mul_add_div hp], show (Y * (u * d * m) + l) % u = l % u by rw [e2, Nat.mul_add_mod]]
  grind
theorem st_lt {u d : Nat} (hu : 0 < u) {m l s : Nat} (hl : l < u * d * m) (hs : s < d) : st u d l s < u * d * m := by
  unfold st
  have h1 : l / (u * d) < m := Nat.div_lt_of_lt_mul hl
  have h2 : (l / (u * d) + 1) * (u * d) ≤ m * (u * d) := Nat.mul_le_mul_right _ h1
  have h3 := low_lt (r := l % u) hs (Nat.mod_lt l hu)
  rw [Nat.add_mul, Nat.one_mul, Nat.mul_comm m] at h2
  omega

/-- Two axes: what is behind the one is a part of a step of the other. -/
theorem st_parts {u d m d' : Nat} (hu : 0 < u) (hd : 0 < d) (hm : 0 < m) (p : Nat) {s : Nat} (hs : s < d) (s' : Nat) :
    dg (u * d * m) d' (st u d p s) = dg (u * d * m) d' p ∧ dg u d (st (u * d * m) d' p s') = dg u d p ∧ st u d (st (u * d * m) d' p s') s = st (u * d * m) d' (st u d p s) s' := by
  have hU : 0 < u * d * m := Nat.mul_pos (Nat.mul_pos hu hd) hm
  obtain ⟨Y, l, hl, rfl⟩ : ∃ Y l, l < u * d * m ∧ p = Y * (u * d * m) + l := ⟨p / (u * d * m), p % (u * d * m), Nat.mod_lt _ hU, by rw [Nat.mul_comm, Nat.div_add_mod]⟩
  rw [st_high hu hd]
  have h2 := st_lt hu hl hs
  have dgl : ∀ Z r, dg u d (Z * (u * d * m) + r) = dg u d r := fun Z r => by
    unfold dg
    have e : Z * (u * d * m) + r = u * (d * (Z * m)) + r := by grind
    rw [e, Nat.mul_add_div hu, Nat.mul_add_mod]
  have sto : ∀ r, r < u * d * m → st (u * d * m) d' (Y * (u * d * m) + r) s' = (Y / d' * d' + s') * (u * d * m) + r := fun r hr => by
    unfold st
    rw [mod_of hr, ← Nat.div_div_eq_div_mul, div_of hr]; grind
  refine ⟨?_, ?_, ?_⟩
  · unfold dg
    rw [div_of h2, div_of hl]
  · rw [sto l hl, dgl, dgl]
  · rw [sto l hl, sto _ h2, st_high hu hd]

/-- A transform along one axis, each number times c. -/
def ax (c w : F) (u d : Nat) (f : Nat → F) (p : Nat) : F := c * dft w d (fun s => f (st u d p s)) (dg u d p)
theorem ax_congr {c w : F} {u d m : Nat} {f g : Nat → F} (hu : 0 < u) (h : ∀ i, i < u * d * m → f i = g i) (p : Nat) (hp : p < u * d * m) : ax c w u d f p = ax c w u d g p := by
  unfold ax
  rw [dft_congr (fun s hs => h _ (st_lt hu hp hs))]
theorem ax_comm {u d m d' : Nat} (hu : 0 < u) (hd : 0 < d) (hm : 0 < m) (c w c' w' : F) (f : Nat → F) (p : Nat) :
    ax c w u d (ax c' w' (u * d * m) d' f) p = ax c' w' (u * d * m) d' (ax c w u d f) p := by
  unfold ax dft
  have e1 : S d (fun s => c' * S d' (fun s' => f (st (u * d * m) d' (st u d p s) s') * pw w' (s' * dg (u * d * m) d' (st u d p s))) * pw w (s * dg u d p)) = S d (fun s => S d' (fun s' => c' * (f (st (u * d * m) d' (st u d p s) s') * pw w' (s' * dg (u * d * m) d' p)) * pw w (s * dg u d p))) := by
    refine S_congr fun s hs => ?_
    rw [show c' * S d' (fun s' => f (st (u * d * m) d' (st u d p s) s') * pw w' (s' * dg (u * d * m) d' (st u d p s))) * pw w (s * dg u d p) = (c' * pw w (s * dg u d p)) * S d' (fun s' => f (st (u * d * m) d' (st u d p s) s') * pw w' (s' * dg (u * d * m) d' (st u d p s))) by grind, ← S_mul]
    refine S_congr fun s' _ => ?_
    rw [(st_parts hu hd hm p hs s').1]; grind
  have e2 : S d' (fun s' => c * S d (fun s => f (st u d (st (u * d * m) d' p s') s) * pw w (s * dg u d (st (u * d * m) d' p s'))) * pw w' (s' * dg (u * d * m) d' p)) = S d' (fun s' => S d (fun s => c * (f (st (u * d * m) d' (st u d p s) s') * pw w (s * dg u d p)) * pw w' (s' * dg (u * d * m) d' p))) := by
    refine S_congr fun s' _ => ?_
    rw [show c * S d (fun s => f (st u d (st (u * d * m) d' p s') s) * pw w (s * dg u d (st (u * d * m) d' p s'))) * pw w' (s' * dg (u * d * m) d' p) = (c * pw w' (s' * dg (u * d * m) d' p)) * S d (fun s => f (st u d (st (u * d * m) d' p s') s) * pw w (s * dg u d (st (u * d * m) d' p s'))) by grind, ← S_mul]
    refine S_congr fun s hs => ?_
    rw [(st_parts hu hd hm p hs s').2.1, (st_parts hu hd hm p hs s').2.2]; grind
  rw [e1, e2, S_comm, ← S_mul, ← S_mul]
  refine S_congr fun s' _ => ?_
  rw [← S_mul, ← S_mul]
  exact S_congr fun s _ => by grind

/-- The sum over a times b numbers. -/
theorem S_two (a b : Nat) (f : Nat → F) : S (a * b) f = S a (fun i => S b (fun j => f (i * b + j))) := by
  induction a with
  | zero => rw [Nat.zero_mul, S_zero, S_zero]
  | succ a ih => rw [Nat.add_mul, Nat.one_mul, S_split, ih, S_succ]

/-- Axes, by their sizes d x and roots w x: what a number is worth at another one. -/
def chi (w : Nat → F) (d : Nat → Nat) : Nat → Nat → Nat → F
  | 0, _, _ => 1
  | x + 1, q, p => chi w d x (q / d x) (p / d x) * pw (w x) (q % d x * (p % d x))
/-- How many numbers the first x axes have. -/
def sizN (d : Nat → Nat) : Nat → Nat
  | 0 => 1
  | x + 1 => sizN d x * d x
/-- All axes up to x, one after another; U x: how many numbers lie behind the first x axes. -/
def whK (c w : Nat → F) (d U : Nat → Nat) (f : Nat → F) : Nat → Nat → F
  | 0 => f
  | x + 1 => ax (c x) (w x) (U (x + 1)) (d x) (whK c w d U f x)
def cfs (c : Nat → F) : Nat → F
  | 0 => 1
  | x + 1 => cfs c x * c x
theorem whK_chi (c w : Nat → F) (d U : Nat → Nat) (f : Nat → F) (x : Nat) (hU : ∀ y, y < x → U y = U (y + 1) * d y) (hp : ∀ y, y ≤ x → 0 < U y) (hd : ∀ y, y < x → 0 < d y) (p : Nat) :
    whK c w d U f x p = cfs c x * S (sizN d x) (fun q => f ((p / U 0 * sizN d x + q) * U x + p % U x) * chi w d x q (p / U x)) := by
  induction x generalizing p with
  | zero =>
    rw [whK, cfs, sizN, S_succ, S_zero]
    have e : (p / U 0 * 1 + 0) * U 0 + p % U 0 = p := by rw [Nat.mul_one, Nat.add_zero, Nat.mul_comm, Nat.div_add_mod]
    rw [e, chi]; grind
  | succ x ih =>
    have hUx := hU x (by omega)
    have hu := hp (x + 1) (Nat.le_refl _)
    have hdx := hd x (by omega)
    have hux := hp x (by omega)
    rw [whK, ax, dft, cfs, sizN, S_two, S_comm]
    have key : ∀ s, s < d x → whK c w d U f x (st (U (x + 1)) (d x) p s) = cfs c x * S (sizN d x) (fun q => f ((p / U 0 * (sizN d x * d x) + (q * d x + s)) * U (x + 1) + p % U (x + 1)) * chi w d x q (p / U x)) := by
      intro s hs
      rw [ih (fun y hy => hU y (by omega)) (fun y hy => hp y (by omega)) (fun y hy => hd y (by omega))]
      have h1 : st (U (x + 1)) (d x) p s / U x = p / U x := by rw [hUx]; exact st_div hu hs
      have h0 : ∀ y, y ≤ x → st (U (x + 1)) (d x) p s / U y = p / U y := by
        intro y hy
        have hdv : ∃ m, U y = U x * m := by
          clear h1 ih hux hdx hu
          induction hk : x - y generalizing y with
          | zero => obtain rfl : y = x := by omega
                    exact ⟨1, by omega⟩
          | succ k ihk =>
            obtain ⟨m, hm⟩ := ihk (y + 1) (by omega) (by omega)
            exact ⟨m * d y, by rw [hU y (by omega), hm, Nat.mul_assoc]⟩
        obtain ⟨m, hm⟩ := hdv
        rw [hm, ← Nat.div_div_eq_div_mul, h1, Nat.div_div_eq_div_mul]
      rw [h1, h0 0 (by omega)]
      congr 1
      refine S_congr fun q _ => ?_
      congr 2
      have h2 : st (U (x + 1)) (d x) p s % U x = s * U (x + 1) + p % U (x + 1) := by
        rw [hUx]
        unfold st
        rw [Nat.add_assoc]
        exact mod_of (low_lt hs (Nat.mod_lt _ hu))
      rw [h2, hUx]; grind
    have e1 : S (d x) (fun s => whK c w d U f x (st (U (x + 1)) (d x) p s) * pw (w x) (s * dg (U (x + 1)) (d x) p)) = cfs c x * S (d x) (fun s => S (sizN d x) (fun q => f ((p / U 0 * (sizN d x * d x) + (q * d x + s)) * U (x + 1) + p % U (x + 1)) * chi w d (x + 1) (q * d x + s) (p / U (x + 1)))) := by
      rw [← S_mul]
      refine S_congr fun s hs => ?_
      rw [key s hs]
      rw [show cfs c x * S (sizN d x) (fun q => f ((p / U 0 * (sizN d x * d x) + (q * d x + s)) * U (x + 1) + p % U (x + 1)) * chi w d x q (p / U x)) * pw (w x) (s * dg (U (x + 1)) (d x) p) = cfs c x * (pw (w x) (s * dg (U (x + 1)) (d x) p) * S (sizN d x) (fun q => f ((p / U 0 * (sizN d x * d x) + (q * d x + s)) * U (x + 1) + p % U (x + 1)) * chi w d x q (p / U x))) by grind, ← S_mul]
      congr 1
      refine S_congr fun q _ => ?_
      rw [chi, div_of hs, mod_of hs, Nat.div_div_eq_div_mul, ← hUx]
      unfold dg
      grind
    rw [e1, S_comm]; grind

/-- Products, and places, round all axes. -/
def atN (d : Nat → Nat) : Nat → Nat → Nat → Nat
  | 0, _, _ => 0
  | x + 1, q, r => atN d x (q / d x) (r / d x) * d x + (q % d x + r % d x) % d x
theorem atN_lt (d : Nat → Nat) (x : Nat) (hd : ∀ y, y < x → 0 < d y) (q r : Nat) : atN d x q r < sizN d x := by
  induction x generalizing q r with
  | zero => exact Nat.zero_lt_one
  | succ x ih =>
    rw [atN, sizN]
    have h1 := ih (fun y hy => hd y (by omega)) (q / d x) (r / d x)
    have h2 : (q % d x + r % d x) % d x < d x := Nat.mod_lt _ (hd x (by omega))
    have h3 : (atN d x (q / d x) (r / d x) + 1) * d x ≤ sizN d x * d x := Nat.mul_le_mul_right _ h1
    rw [Nat.add_mul, Nat.one_mul] at h3
    omega
theorem chi_symm (w : Nat → F) (d : Nat → Nat) (x q p : Nat) : chi w d x q p = chi w d x p q := by
  induction x generalizing q p with
  | zero => rfl
  | succ x ih => rw [chi, chi, ih, Nat.mul_comm]
theorem pw_mod_of {w : F} {d : Nat} (h : pw w d = 1) (m : Nat) : pw w (m % d) = pw w m := by
  have e := Nat.div_add_mod m d
  conv => rhs; rw [← e, pw_add, pw_mul, h, pw_one]
  grind
theorem chi_at (w : Nat → F) (d : Nat → Nat) (x : Nat) (hw : ∀ y, y < x → pw (w y) (d y) = 1) (hd : ∀ y, y < x → 0 < d y) (q r p : Nat) : chi w d x (atN d x q r) p = chi w d x q p * chi w d x r p := by
  induction x generalizing q r p with
  | zero => rw [chi, chi, chi]; grind
  | succ x ih =>
    rw [chi, atN]
    have h2 : (q % d x + r % d x) % d x < d x := Nat.mod_lt _ (hd x (by omega))
    rw [div_of h2, mod_of h2, ih (fun y hy => hw y (by omega)) (fun y hy => hd y (by omega)), chi, chi]
    have e : pw (w x) ((q % d x + r % d x) % d x * (p % d x)) = pw (w x) (q % d x * (p % d x)) * pw (w x) (r % d x * (p % d x)) := by
      rw [pw_mul, pw_mod_of (hw x (by omega)), ← pw_mul, Nat.add_mul, pw_add]
    rw [e]; grind
/-- The product round all axes. -/
def cyc (d : Nat → Nat) (x n : Nat) (f g : Nat → F) (k : Nat) : F := S n (fun i => S n (fun j => if atN d x i j = k then f i * g j else 0))
theorem chi_cyc (w : Nat → F) (d : Nat → Nat) (x : Nat) (hw : ∀ y, y < x → pw (w y) (d y) = 1) (hd : ∀ y, y < x → 0 < d y) (f g : Nat → F) (p : Nat) :
    S (sizN d x) (fun k => cyc d x (sizN d x) f g k * chi w d x k p) = S (sizN d x) (fun i => f i * chi w d x i p) * S (sizN d x) (fun j => g j * chi w d x j p) := by
  have e1 : S (sizN d x) (fun k => cyc d x (sizN d x) f g k * chi w d x k p) = S (sizN d x) (fun k => S (sizN d x) (fun i => S (sizN d x) (fun j => if atN d x i j = k then f i * g j * chi w d x k p else 0))) := by
    refine S_congr fun k _ => ?_
    unfold cyc
    rw [show S (sizN d x) (fun i => S (sizN d x) (fun j => if atN d x i j = k then f i * g j else 0)) * chi w d x k p = chi w d x k p * S (sizN d x) (fun i => S (sizN d x) (fun j => if atN d x i j = k then f i * g j else 0)) by grind, ← S_mul]
    refine S_congr fun i _ => ?_
    rw [← S_mul]
    refine S_congr fun j _ => ?_
    by_cases h : atN d x i j = k
    · rw [if_pos h, if_pos h]; grind
    · rw [if_neg h, if_neg h]; grind
  rw [e1, S_comm, show S (sizN d x) (fun i => f i * chi w d x i p) * S (sizN d x) (fun j => g j * chi w d x j p) = S (sizN d x) (fun j => g j * chi w d x j p) * S (sizN d x) (fun i => f i * chi w d x i p) by grind, ← S_mul]
  refine S_congr fun i _ => ?_
  rw [S_comm, show S (sizN d x) (fun j => g j * chi w d x j p) * (f i * chi w d x i p) = (f i * chi w d x i p) * S (sizN d x) (fun j => g j * chi w d x j p) by grind, ← S_mul]
  refine S_congr fun j _ => ?_
  rw [S_delta _ (atN d x i j) (atN_lt d x hd i j)]
  · rw [if_pos rfl, chi_at w d x hw hd]; grind
  · intro k _ hne
    rw [if_neg (Ne.symm hne)]

/-- Back: sums of what numbers are worth. -/
theorem chi_back (w v : Nat → F) (d : Nat → Nat) (x : Nat) (h : ∀ y, y < x → ∃ k, d y = 2 ^ k ∧ Ord (w y) k ∧ w y * v y = 1) (f : Nat → F) (p : Nat) (hp : p < sizN d x) :
    S (sizN d x) (fun q => S (sizN d x) (fun r => f r * chi w d x r q) * chi v d x q p) = toF (sizN d x) * f p := by
  induction x generalizing f p with
  | zero =>
    have : p = 0 := by rw [sizN] at hp; omega
    subst this
    rw [sizN, S_succ, S_zero, S_succ, S_zero, chi, chi, toF_one]; grind
  | succ x ih =>
    obtain ⟨k, hk, ho, hv⟩ := h x (by omega)
    have hdx : 0 < d x := by rw [hk]; exact Nat.pow_pos (by decide)
    rw [sizN] at hp
    have hp1 : p / d x < sizN d x := Nat.div_lt_of_lt_mul (by rw [Nat.mul_comm]; exact hp)
    have hp2 : p % d x < d x := Nat.mod_lt _ hdx
    have ih' := ih (fun y hy => h y (by omega))
    have e0 : ∀ q, S (sizN d x * d x) (fun r => f r * chi w d (x + 1) r q) = S (sizN d x) (fun a => dft (w x) (d x) (fun s => f (a * d x + s)) (q % d x) * chi w d x a (q / d x)) := by
      intro q
      rw [S_two]
      refine S_congr fun a _ => ?_
      unfold dft
      rw [show S (d x) (fun i => f (a * d x + i) * pw (w x) (i * (q % d x))) * chi w d x a (q / d x) = chi w d x a (q / d x) * S (d x) (fun i => f (a * d x + i) * pw (w x) (i * (q % d x))) by grind, ← S_mul]
      refine S_congr fun s hs => ?_
      rw [chi, div_of hs, mod_of hs]; grind
    have e1 : S (sizN d x * d x) (fun q => S (sizN d x * d x) (fun r => f r * chi w d (x + 1) r q) * chi v d (x + 1) q p) = S (d x) (fun t => S (sizN d x) (fun b => S (sizN d x) (fun a => dft (w x) (d x) (fun s => f (a * d x + s)) t * chi w d x a b) * chi v d x b (p / d x)) * pw (v x) (t * (p % d x))) := by
      rw [S_two, S_comm]
      refine S_congr fun t ht => ?_
      rw [show S (sizN d x) (fun b => S (sizN d x) (fun a => dft (w x) (d x) (fun s => f (a * d x + s)) t * chi w d x a b) * chi v d x b (p / d x)) * pw (v x) (t * (p % d x)) = pw (v x) (t * (p % d x)) * S (sizN d x) (fun b => S (sizN d x) (fun a => dft (w x) (d x) (fun s => f (a * d x + s)) t * chi w d x a b) * chi v d x b (p / d x)) by grind, ← S_mul]
      refine S_congr fun b _ => ?_
      rw [e0, div_of ht, mod_of ht, chi, div_of ht, mod_of ht]; grind
    rw [sizN, e1]
    have e2 : S (d x) (fun t => S (sizN d x) (fun b => S (sizN d x) (fun a => dft (w x) (d x) (fun s => f (a * d x + s)) t * chi w d x a b) * chi v d x b (p / d x)) * pw (v x) (t * (p % d x))) = toF (sizN d x) * dft (v x) (d x) (dft (w x) (d x) (fun s => f (p / d x * d x + s))) (p % d x) := by
      rw [show dft (v x) (d x) (dft (w x) (d x) (fun s => f (p / d x * d x + s))) (p % d x) = S (d x) (fun t => dft (w x) (d x) (fun s => f (p / d x * d x + s)) t * pw (v x) (t * (p % d x))) from rfl, ← S_mul]
      refine S_congr fun t _ => ?_
      rw [ih' (fun a => dft (w x) (d x) (fun s => f (a * d x + s)) t) (p / d x) hp1]; grind
    rw [e2, hk, dft_back ho hv _ _ (by rw [← hk]; exact hp2), ← hk, toF_mul, show p / d x * d x + p % d x = p by rw [Nat.mul_comm, Nat.div_add_mod]]
    grind

end Go.Proofs.YtmggccepmicjhagGreatDoor
