/-
  Plain arithmetic, no program in sight: the number 2^64 - 2^32 + 1 is a prime, FERMAT's theorem by it, and what sums, differences, products, powers and inverses by it are.
-/
namespace Go.Proofs.YtgfnjbkhncjhhaeDoor

/-! ### Primes, and FERMAT's theorem by any prime -/

def IsPrime (p : Nat) : Prop := 2 ≤ p ∧ ∀ d, d ∣ p → d = 1 ∨ d = p

theorem IsPrime.dvd_mul {p a b : Nat} (hp : IsPrime p) (h : p ∣ a * b) : p ∣ a ∨ p ∣ b := by
  rcases hp.2 (Nat.gcd p a) (Nat.gcd_dvd_left p a) with h1 | h1
  · exact Or.inr (Nat.Coprime.dvd_of_dvd_mul_left (show Nat.Coprime p a from h1) h)
  · exact Or.inl (h1 ▸ Nat.gcd_dvd_right p a)

theorem exists_prime_dvd : ∀ n : Nat, 2 ≤ n → ∃ d, d ∣ n ∧ IsPrime d := by
  intro n
  induction n using Nat.strongRecOn with
  | ind n ih =>
    intro hn
    by_cases h : ∃ e, e ∣ n ∧ e ≠ 1 ∧ e ≠ n
    · obtain ⟨e, he, h1, h2⟩ := h
      have hle : e ≤ n := Nat.le_of_dvd (by omega) he
      have h0 : e ≠ 0 := by rintro rfl; exact absurd (Nat.zero_dvd.mp he) (by omega)
      obtain ⟨d, hd, hp⟩ := ih e (by omega) (by omega)
      exact ⟨d, Nat.dvd_trans hd he, hp⟩
    · refine ⟨n, Nat.dvd_refl n, hn, fun d hd => ?_⟩
      by_cases h1 : d = 1
      · exact Or.inl h1
      · by_cases h2 : d = n
        · exact Or.inr h2
        · exact absurd ⟨d, hd, h1, h2⟩ h

/-- How many ways to choose k of n. -/
def ch : Nat → Nat → Nat
  | _, 0 => 1
  | 0, _ + 1 => 0
  | n + 1, k + 1 => ch n k + ch n (k + 1)

theorem ch_zero (n : Nat) : ch n 0 = 1 := by cases n <;> rfl
theorem ch_above : ∀ n k, n < k → ch n k = 0 := by
  intro n
  induction n with
  | zero => intro k h; cases k with
    | zero => omega
    | succ k => rfl
  | succ n ih => intro k h; cases k with
    | zero => omega
    | succ k => simp only [ch]; rw [ih k (by omega), ih (k + 1) (by omega)]
theorem ch_self (n : Nat) : ch n n = 1 := by
  induction n with
  | zero => rfl
  | succ n ih => simp only [ch]; rw [ih, ch_above n (n + 1) (by omega)]

theorem ch_mul : ∀ n k, (k + 1) * ch (n + 1) (k + 1) = (n + 1) * ch n k := by
  intro n
  induction n with
  | zero => intro k; cases k with
    | zero => rfl
    | succ k => simp [ch]
  | succ n ih =>
    intro k
    cases k with
    | zero =>
      have h := ih 0
      simp only [ch, ch_zero] at h ⊢
      omega
    | succ k =>
      have h1 := ih k
      have h2 := ih (k + 1)
      have e : ch (n + 1 + 1) (k + 1 + 1) = ch (n + 1) (k + 1) + ch (n + 1) (k + 1 + 1) := rfl
      have e2 : ch (n + 1) (k + 1) = ch n k + ch n (k + 1) := rfl
      rw [e, Nat.mul_add, h2, Nat.add_mul (k + 1) 1, h1, e2]
      grind

/-- The first m summands of the binomial sum. -/
def bsum (n : Nat) (x : Nat) : Nat → Nat
  | 0 => 0
  | m + 1 => bsum n x m + ch n m * x ^ m

theorem bsum_succ (n x : Nat) : ∀ m, bsum (n + 1) x (m + 1) = bsum n x (m + 1) + x * bsum n x m := by
  intro m
  induction m with
  | zero => simp [bsum, ch_zero]
  | succ m ih =>
    have e1 : bsum (n + 1) x (m + 1 + 1) = bsum (n + 1) x (m + 1) + ch (n + 1) (m + 1) * x ^ (m + 1) := rfl
    have e2 : bsum n x (m + 1 + 1) = bsum n x (m + 1) + ch n (m + 1) * x ^ (m + 1) := rfl
    have e3 : bsum n x (m + 1) = bsum n x m + ch n m * x ^ m := rfl
    have e4 : ch (n + 1) (m + 1) = ch n m + ch n (m + 1) := rfl
    have e5 : x * bsum n x (m + 1) = x * bsum n x m + ch n m * x ^ (m + 1) := by
      rw [e3, Nat.pow_succ]
      grind
    rw [e1, ih, e2, e4, e5, Nat.add_mul]
    omega

theorem binom (n x : Nat) : (x + 1) ^ n = bsum n x (n + 1) := by
  induction n with
  | zero => simp [bsum, ch_zero]
  | succ n ih =>
    rw [bsum_succ, Nat.pow_succ, ih, Nat.mul_add]
    have : bsum n x (n + 1 + 1) = bsum n x (n + 1) := by
      show bsum n x (n + 1) + ch n (n + 1) * x ^ (n + 1) = _
      rw [ch_above n (n + 1) (by omega)]; simp
    rw [this, Nat.mul_comm x]; omega

theorem ch_dvd {p : Nat} (hp : IsPrime p) {k : Nat} (h0 : 0 < k) (h1 : k < p) : p ∣ ch p k := by
  obtain ⟨n, rfl⟩ : ∃ n, p = n + 1 := ⟨p - 1, by omega⟩
  obtain ⟨j, rfl⟩ : ∃ j, k = j + 1 := ⟨k - 1, by omega⟩
  have h := ch_mul n j
  have hd : n + 1 ∣ (j + 1) * ch (n + 1) (j + 1) := ⟨ch n j, h⟩
  rcases hp.dvd_mul hd with h2 | h2
  · exact absurd (Nat.le_of_dvd (by omega) h2) (by omega)
  · exact h2

theorem bsum_mod {p : Nat} (hp : IsPrime p) (x : Nat) : ∀ m, m + 1 ≤ p → bsum p x (m + 1) % p = 1 % p := by
  intro m
  induction m with
  | zero => intro _; simp [bsum, ch_zero]
  | succ m ih =>
    intro h
    have e : bsum p x (m + 1 + 1) = bsum p x (m + 1) + ch p (m + 1) * x ^ (m + 1) := rfl
    obtain ⟨c, hc⟩ := ch_dvd hp (k := m + 1) (by omega) (by omega)
    rw [e, hc, Nat.mul_assoc, Nat.add_mul_mod_self_left, ih (by omega)]

/-- FERMAT: the p-th power is the number itself, by p. -/
theorem fermat {p : Nat} (hp : IsPrime p) (a : Nat) : a ^ p % p = a % p := by
  induction a with
  | zero =>
    have := hp.1
    rw [Nat.zero_pow (by omega)]
  | succ a ih =>
    have h2 := hp.1
    obtain ⟨m, rfl⟩ : ∃ m, p = m + 1 := ⟨p - 1, by omega⟩
    have e : bsum (m + 1) a (m + 1 + 1) = bsum (m + 1) a (m + 1) + ch (m + 1) (m + 1) * a ^ (m + 1) := rfl
    rw [binom, e, ch_self, Nat.one_mul, Nat.add_mod, ih, bsum_mod hp a m (by omega), ← Nat.add_mod, Nat.add_comm]

theorem dvd_sub_of_mod {p a b : Nat} (_hle : a ≤ b) (h : b % p = a % p) : p ∣ b - a := by
  have h1 := Nat.div_add_mod b p
  have h2 := Nat.div_add_mod a p
  refine ⟨b / p - a / p, ?_⟩
  rw [Nat.mul_sub]; omega

theorem fermat_one {p : Nat} (hp : IsPrime p) {a : Nat} (h : ¬ p ∣ a) : a ^ (p - 1) % p = 1 := by
  have h2 := hp.1
  have hf := fermat hp a
  have e : a ^ p = a ^ (p - 1) * a := by rw [← Nat.pow_succ]; congr 1; omega
  have h1 : 1 ≤ a ^ (p - 1) := by
    apply Nat.pow_pos
    rcases Nat.eq_zero_or_pos a with h0 | h0
    · exact absurd (h0 ▸ Nat.dvd_zero p) h
    · exact h0
  have hle : a ≤ a ^ p := by rw [e]; exact Nat.le_mul_of_pos_left a h1
  have hd : p ∣ a ^ p - a := dvd_sub_of_mod hle hf
  have e2 : a ^ p - a = (a ^ (p - 1) - 1) * a := by rw [e, Nat.sub_mul, Nat.one_mul]
  rw [e2] at hd
  rcases hp.dvd_mul hd with h3 | h3
  · obtain ⟨c, hc⟩ := h3
    have h4 : a ^ (p - 1) = 1 + p * c := by omega
    rw [h4, Nat.add_mul_mod_self_left]; exact Nat.mod_eq_of_lt (by omega)
  · exact absurd h3 h

/-! ### The prime -/

def P : Nat := 18446744069414584321

/-- Squared by P, k times. -/
def sqs : Nat → Nat → Nat
  | 0, x => x % P
  | k + 1, x => sqs k (x * x % P)

theorem sqs_eq (k : Nat) : ∀ x, sqs k x = x ^ 2 ^ k % P := by
  induction k with
  | zero => intro x; simp [sqs]
  | succ k ih =>
    intro x
    show sqs k (x * x % P) = _
    rw [ih, ← Nat.pow_mod, Nat.pow_succ, Nat.mul_comm (2 ^ k) 2, Nat.pow_mul, Nat.pow_two]

theorem root_pow : ∃ h : Nat, sqs 31 h = P - 1 := ⟨1753635133440165772, by decide +kernel⟩

theorem neg_one {y : Nat} (h : y % P = P - 1) : (y + 1) % P = 0 := by unfold P at *; omega
theorem dvd_pow_of {a b k : Nat} (h : a ∣ b) (hk : 0 < k) : a ∣ b ^ k := by
  obtain ⟨j, rfl⟩ : ∃ j, k = j + 1 := ⟨k - 1, by omega⟩
  rw [Nat.pow_succ]; exact Nat.dvd_trans h (Nat.dvd_mul_left _ _)

/-- A prime that divides P is 1 more than a multiple of 2^32. -/
theorem dvd_form {d : Nat} (hd : d ∣ P) (hp : IsPrime d) : 2 ^ 32 ∣ d - 1 := by
  have h2 := hp.1
  have hodd : d ≠ 2 := by rintro rfl; exact absurd hd (by decide)
  -- the root's 2^31-th power is -1 by d too
  obtain ⟨h, hh⟩ := root_pow
  obtain ⟨K, hK, hK0⟩ : ∃ K, K = 2 ^ 31 ∧ 0 < K := ⟨2 ^ 31, rfl, by decide⟩
  rw [sqs_eq, ← hK] at hh
  have hr : (h ^ K + 1) % d = 0 := by
    have e : (h ^ K + 1) % P = 0 := neg_one hh
    exact Nat.mod_eq_zero_of_dvd (Nat.dvd_trans hd (Nat.dvd_of_mod_eq_zero e))
  have hnd : ¬ d ∣ h := by
    intro hdh
    have h3 : d ∣ h ^ K := dvd_pow_of hdh hK0
    have h4 : d ∣ h ^ K + 1 := Nat.dvd_of_mod_eq_zero hr
    have h5 := (Nat.dvd_add_right h3).mp h4
    have := Nat.le_of_dvd (by omega) h5
    omega
  have hf := fermat_one hp hnd
  -- an odd power of the power is -1
  have hneg : ∀ t, ((h ^ K) ^ (2 * t + 1) + 1) % d = 0 := by
    generalize h ^ K = y at hr
    intro t
    induction t with
    | zero => simpa using hr
    | succ t ih =>
      have e : y ^ (2 * (t + 1) + 1) + 1 + (y ^ (2 * t + 1) * (y + 1)) = y ^ (2 * t + 1) * y * (y + 1) + (y ^ (2 * t + 1) + 1) := by
        have : 2 * (t + 1) + 1 = 2 * t + 1 + 1 + 1 := by omega
        rw [this, Nat.pow_succ, Nat.pow_succ]
        generalize y ^ (2 * t + 1) = z
        rw [Nat.mul_add, Nat.mul_add]; omega
      have d1 : d ∣ y ^ (2 * t + 1) * y * (y + 1) + (y ^ (2 * t + 1) + 1) :=
        Nat.dvd_add (Nat.dvd_trans (Nat.dvd_of_mod_eq_zero hr) (Nat.dvd_mul_left _ _)) (Nat.dvd_of_mod_eq_zero ih)
      have d2 : d ∣ y ^ (2 * t + 1) * (y + 1) := Nat.dvd_trans (Nat.dvd_of_mod_eq_zero hr) (Nat.dvd_mul_left _ _)
      rw [← e] at d1
      exact Nat.mod_eq_zero_of_dvd ((Nat.dvd_add_left d2).mp d1)
  have step : ∀ j, j ≤ 32 → 2 ^ j ∣ d - 1 := by
    intro j
    induction j with
    | zero => intro _; exact ⟨d - 1, by omega⟩
    | succ j ih =>
      intro hj
      obtain ⟨m, hm⟩ := ih (by omega)
      rcases Nat.mod_two_eq_zero_or_one m with he | ho
      · refine ⟨m / 2, ?_⟩
        rw [hm, Nat.pow_succ, Nat.mul_assoc]
        congr 1
        omega
      · exfalso
        have h6 := hneg (m / 2)
        have e : 2 * (m / 2) + 1 = m := by omega
        rw [e, ← Nat.pow_mul] at h6
        have e2 : K * m = (d - 1) * 2 ^ (31 - j) := by
          rw [hK, hm, Nat.mul_right_comm, ← Nat.pow_add]
          congr 2; omega
        rw [e2, Nat.pow_mul, Nat.add_mod, Nat.pow_mod, hf, Nat.one_pow] at h6
        have e3 : 1 % d = 1 := Nat.mod_eq_of_lt (by omega)
        rw [e3] at h6
        have : (1 + 1) % d = 2 := Nat.mod_eq_of_lt (by omega)
        omega
  exact step 32 (Nat.le_refl _)

theorem prime_P : IsPrime P := by
  refine ⟨by decide, fun d hd => ?_⟩
  have hPpos : 0 < P := by decide
  obtain ⟨e, he⟩ := hd
  by_cases h1 : d = 1
  · exact Or.inl h1
  by_cases h2 : e = 1
  · exact Or.inr (by rw [he, h2, Nat.mul_one])
  exfalso
  have hd0 : d ≠ 0 := by rintro rfl; rw [Nat.zero_mul] at he; omega
  have he0 : e ≠ 0 := by rintro rfl; rw [Nat.mul_zero] at he; omega
  have big : ∀ n, n ∣ P → 2 ≤ n → 4294967297 ≤ n := by
    intro n hn hn2
    obtain ⟨q, hq, hqp⟩ := exists_prime_dvd n hn2
    have hf := dvd_form (Nat.dvd_trans hq hn) hqp
    have := hqp.1
    have h3 := Nat.le_of_dvd (by omega) hf
    have h4 := Nat.le_of_dvd (by omega) hq
    omega
  have b1 := big d ⟨e, he⟩ (by omega)
  have b2 := big e ⟨d, by rw [he, Nat.mul_comm]⟩ (by omega)
  have b3 := Nat.mul_le_mul b1 b2
  rw [← he] at b3
  exact absurd b3 (by decide)

#print axioms prime_P
end Go.Proofs.YtgfnjbkhncjhhaeDoor
