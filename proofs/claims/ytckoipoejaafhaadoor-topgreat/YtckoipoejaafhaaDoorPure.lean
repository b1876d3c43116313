/-
  Mathematics, with no program in sight: the prime, the field, polynomials, transforms, products round the end, arrays with axes.
-/
/- Plain arithmetic, no program in sight: the number 2^64 - 2^32 + 1 is a prime, FERMAT's theorem by it, and what sums, differences, products, powers and inverses by it are. -/
namespace Go.Proofs.YtckoipoejaafhaaDoor
def IsPrime (p : Nat) : Prop := 2 ≤ p ∧ ∀ d, d ∣ p → d = 1 ∨ d = p
theorem IsPrime.dvd_mul {p a b : Nat} (hp : IsPrime p) (h : p ∣ a * b) : p ∣ a ∨ p ∣ b := by
  rcases hp.2 (Nat.gcd p a) (Nat.gcd_dvd_left p a) with h1 | h1
  · exact Or.inr (Nat.Coprime.dvd_of_dvd_mul_left (show Nat.Coprime p a from h1) h)
  · exact Or.inl (h1 ▸ Nat.gcd_dvd_right p a)
theorem exists_prime_dvd : ∀ n : Nat, 2 ≤ n → ∃ d, d ∣ n ∧ IsPrime d := by
  intro n
  induction n using Nat.strongRecOn with
  | ind n ih =>
    intro hn
    by_cases h : ∃ e, e ∣ n ∧ e ≠ 1 ∧ e ≠ n
    · obtain ⟨e, he, h1, h2⟩ := h
      have hle : e ≤ n := Nat.le_of_dvd (by omega) he
      have h0 : e ≠ 0 := by rintro rfl; exact absurd (Nat.zero_dvd.mp he) (by omega)
      obtain ⟨d, hd, hp⟩ := ih e (by omega) (by omega)
      exact ⟨d, Nat.dvd_trans hd he, hp⟩
    · refine ⟨n, Nat.dvd_refl n, hn, fun d hd => ?_⟩
      by_cases h1 : d = 1
      · exact Or.inl h1
      · by_cases h2 : d = n
        · exact Or.inr h2
        · exact absurd ⟨d, hd, h1, h2⟩ h
def ch : Nat → Nat → Nat
  | _, 0 => 1
  | 0, _ + 1 => 0
  | n + 1, k + 1 => ch n k + ch n (k + 1)
theorem ch_zero (n : Nat) : ch n 0 = 1 := by cases n <;> rfl
theorem ch_above : ∀ n k, n < k → ch n k = 0 := by
  intro n
  induction n with
  | zero => intro k h; cases k with
    | zero => omega
    | succ k => rfl
  | succ n ih => intro k h; cases k with
    | zero => omega
    | succ k => simp only [ch]; rw [ih k (by omega), ih (k + 1) (by omega)]
theorem ch_self (n : Nat) : ch n n = 1 := by
  induction n with
  | zero => rfl
  | succ n ih => simp only [ch]; rw [ih, ch_above n (n + 1) (by omega)]
theorem ch_mul : ∀ n k, (k + 1) * ch (n + 1) (k + 1) = (n + 1) * ch n k := by
  intro n
  induction n with
  | zero => intro k; cases k with
    | zero => rfl
    | succ k => simp [ch]
  | succ n ih =>
    intro k
    cases k with
    | zero =>
      have h := ih 0
      simp only [ch, ch_zero] at h ⊢
      omega
    | succ k =>
      have h1 := ih k
      have h2 := ih (k + 1)
      have e : ch (n + 1 + 1) (k + 1 + 1) = ch (n + 1) (k + 1) + ch (n + 1) (k + 1 + 1) := rfl
      have e2 : ch (n + 1) (k + 1) = ch n k + ch n (k + 1) := rfl
      rw [e, Nat.mul_add, h2, Nat.add_mul (k + 1) 1, h1, e2]
      grind
def bsum (n : Nat) (x : Nat) : Nat → Nat
  | 0 => 0
  | m + 1 => bsum n x m + ch n m * x ^ m
theorem bsum_succ (n x : Nat) : ∀ m, bsum (n + 1) x (m + 1) = bsum n x (m + 1) + x * bsum n x m := by
  intro m
  induction m with
  | zero => simp [bsum, ch_zero]
  | succ m ih =>
    have e1 : bsum (n + 1) x (m + 1 + 1) = bsum (n + 1) x (m + 1) + ch (n + 1) (m + 1) * x ^ (m + 1) := rfl
    have e2 : bsum n x (m + 1 + 1) = bsum n x (m + 1) + ch n (m + 1) * x ^ (m + 1) := rfl
    have e3 : bsum n x (m + 1) = bsum n x m + ch n m * x ^ m := rfl
    have e4 : ch (n + 1) (m + 1) = ch n m + ch n (m + 1) := rfl
    have e5 : x * bsum n x (m + 1) = x * bsum n x m + ch n m * x ^ (m + 1) := by
      rw [e3, Nat.pow_succ]
      grind
    rw [e1, ih, e2, e4, e5, Nat.add_mul]
    omega
theorem binom (n x : Nat) : (x + 1) ^ n = bsum n x (n + 1) := by
  induction n with
  | zero => simp [bsum, ch_zero]
  | succ n ih =>
    rw [bsum_succ, Nat.pow_succ, ih, Nat.mul_add]
    have : bsum n x (n + 1 + 1) = bsum n x (n + 1) := by
      show bsum n x (n + 1) + ch n (n + 1) * x ^ (n + 1) = _
      rw [ch_above n (n + 1) (by omega)]; simp
    rw [this, Nat.mul_comm x]; omega
theorem ch_dvd {p : Nat} (hp : IsPrime p) {k : Nat} (h0 : 0 < k) (h1 : k < p) : p ∣ ch p k := by
  obtain ⟨n, rfl⟩ : ∃ n, p = n + 1 := ⟨p - 1, by omega⟩
  obtain ⟨j, rfl⟩ : ∃ j, k = j + 1 := ⟨k - 1, by omega⟩
  have h := ch_mul n j
  have hd : n + 1 ∣ (j + 1) * ch (n + 1) (j + 1) := ⟨ch n j, h⟩
  rcases hp.dvd_mul hd with h2 | h2
  · exact absurd (Nat.le_of_dvd (by omega) h2) (by omega)
  · exact h2
theorem bsum_mod {p : Nat} (hp : IsPrime p) (x : Nat) : ∀ m, m + 1 ≤ p → bsum p x (m + 1) % p = 1 % p := by
  intro m
  induction m with
  | zero => intro _; simp [bsum, ch_zero]
  | succ m ih =>
    intro h
    have e : bsum p x (m + 1 + 1) = bsum p x (m + 1) + ch p (m + 1) * x ^ (m + 1) := rfl
    obtain ⟨c, hc⟩ := ch_dvd hp (k := m + 1) (by omega) (by omega)
    rw [e, hc, Nat.mul_assoc, Nat.add_mul_mod_self_left, ih (by omega)]
theorem fermat {p : Nat} (hp : IsPrime p) (a : Nat) : a ^ p % p = a % p := by
  induction a with
  | zero =>
    have := hp.1
    rw [Nat.zero_pow (by omega)]
  | succ a ih =>
    have h2 := hp.1
    obtain ⟨m, rfl⟩ : ∃ m, p = m + 1 := ⟨p - 1, by omega⟩
    have e : bsum (m + 1) a (m + 1 + 1) = bsum (m + 1) a (m + 1) + ch (m + 1) (m + 1) * a ^ (m + 1) := rfl
    rw [binom, e, ch_self, Nat.one_mul, Nat.add_mod, ih, bsum_mod hp a m (by omega), ← Nat.add_mod, Nat.add_comm]
theorem dvd_sub_of_mod {p a b : Nat} (_hle : a ≤ b) (h : b % p = a % p) : p ∣ b - a := by
  have h1 := Nat.div_add_mod b p
  have h2 := Nat.div_add_mod a p
  refine ⟨b / p - a / p, ?_⟩
  rw [Nat.mul_sub]; omega
theorem fermat_one {p : Nat} (hp : IsPrime p) {a : Nat} (h : ¬ p ∣ a) : a ^ (p - 1) % p = 1 := by
  have h2 := hp.1
  have hf := fermat hp a
  have e : a ^ p = a ^ (p - 1) * a := by rw [← Nat.pow_succ]; congr 1; omega
  have h1 : 1 ≤ a ^ (p - 1) := by
    apply Nat.pow_pos
    rcases Nat.eq_zero_or_pos a with h0 | h0
    · exact absurd (h0 ▸ Nat.dvd_zero p) h
    · exact h0
  have hle : a ≤ a ^ p := by rw [e]; exact Nat.le_mul_of_pos_left a h1
  have hd : p ∣ a ^ p - a := dvd_sub_of_mod hle hf
  have e2 : a ^ p - a = (a ^ (p - 1) - 1) * a := by rw [e, Nat.sub_mul, Nat.one_mul]
  rw [e2] at hd
  rcases hp.dvd_mul hd with h3 | h3
  · obtain ⟨c, hc⟩ := h3
    have h4 : a ^ (p - 1) = 1 + p * c := by omega
    rw [h4, Nat.add_mul_mod_self_left]; exact Nat.mod_eq_of_lt (by omega)
  · exact absurd h3 h
def P : Nat := 18446744069414584321
def sqs : Nat → Nat → Nat
  | 0, x => x % P
  | k + 1, x => sqs k (x * x % P)
theorem sqs_eq (k : Nat) : ∀ x, sqs k x = x ^ 2 ^ k % P := by
  induction k with
  | zero => intro x; simp [sqs]
  | succ k ih =>
    intro x
    show sqs k (x * x % P) = _
    rw [ih, ← Nat.pow_mod, Nat.pow_succ, Nat.mul_comm (2 ^ k) 2, Nat.pow_mul, Nat.pow_two]
theorem root_pow : ∃ h : Nat, sqs 31 h = P - 1 := ⟨1753635133440165772, by decide +kernel⟩
theorem neg_one {y : Nat} (h : y % P = P - 1) : (y + 1) % P = 0 := by unfold P at *; omega
theorem dvd_pow_of {a b k : Nat} (h : a ∣ b) (hk : 0 < k) : a ∣ b ^ k := by
  obtain ⟨j, rfl⟩ : ∃ j, k = j + 1 := ⟨k - 1, by omega⟩
  rw [Nat.pow_succ]; exact Nat.dvd_trans h (Nat.dvd_mul_left _ _)
theorem dvd_form {d : Nat} (hd : d ∣ P) (hp : IsPrime d) : 2 ^ 32 ∣ d - 1 := by
  have h2 := hp.1
  have hodd : d ≠ 2 := by rintro rfl; exact absurd hd (by decide)
  -- the root's 2^31-th power is -1 by d too
  obtain ⟨h, hh⟩ := root_pow
  obtain ⟨K, hK, hK0⟩ : ∃ K, K = 2 ^ 31 ∧ 0 < K := ⟨2 ^ 31, rfl, by decide⟩
  rw [sqs_eq, ← hK] at hh
  have hr : (h ^ K + 1) % d = 0 := by
    have e : (h ^ K + 1) % P = 0 := neg_one hh
    exact Nat.mod_eq_zero_of_dvd (Nat.dvd_trans hd (Nat.dvd_of_mod_eq_zero e))
  have hnd : ¬ d ∣ h := by
    intro hdh
    have h3 : d ∣ h ^ K := dvd_pow_of hdh hK0
    have h4 : d ∣ h ^ K + 1 := Nat.dvd_of_mod_eq_zero hr
    have h5 := (Nat.dvd_add_right h3).mp h4
    have := Nat.le_of_dvd (by omega) h5
    omega
  have hf := fermat_one hp hnd
  -- an odd power of the power is -1
  have hneg : ∀ t, ((h ^ K) ^ (2 * t + 1) + 1) % d = 0 := by
    generalize h ^ K = y at hr
    intro t
    induction t with
    | zero => simpa using hr
    | succ t ih =>
      have e : y ^ (2 * (t + 1) + 1) + 1 + (y ^ (2 * t + 1) * (y + 1)) = y ^ (2 * t + 1) * y * (y + 1) + (y ^ (2 * t + 1) + 1) := by
        have : 2 * (t + 1) + 1 = 2 * t + 1 + 1 + 1 := by omega
        rw [this, Nat.pow_succ, Nat.pow_succ]
        generalize y ^ (2 * t + 1) = z
        rw [Nat.mul_add, Nat.mul_add]; omega
      have d1 : d ∣ y ^ (2 * t + 1) * y * (y + 1) + (y ^ (2 * t + 1) + 1) :=
        Nat.dvd_add (Nat.dvd_trans (Nat.dvd_of_mod_eq_zero hr) (Nat.dvd_mul_left _ _)) (Nat.dvd_of_mod_eq_zero ih)
      have d2 : d ∣ y ^ (2 * t + 1) * (y + 1) := Nat.dvd_trans (Nat.dvd_of_mod_eq_zero hr) (Nat.dvd_mul_left _ _)
      rw [← e] at d1
      exact Nat.mod_eq_zero_of_dvd ((Nat.dvd_add_left d2).mp d1)
  have step : ∀ j, j ≤ 32 → 2 ^ j ∣ d - 1 := by
    intro j
    induction j with
    | zero => intro _; exact ⟨d - 1, by omega⟩
    | succ j ih =>
      intro hj
      obtain ⟨m, hm⟩ := ih (by omega)
      rcases Nat.mod_two_eq_zero_or_one m with he | ho
      · refine ⟨m / 2, ?_⟩
        rw [hm, Nat.pow_succ, Nat.mul_assoc]
        congr 1
        omega
      · exfalso
        have h6 := hneg (m / 2)
        have e : 2 * (m / 2) + 1 = m := by omega
        rw [e, ← Nat.pow_mul] at h6
        have e2 : K * m = (d - 1) * 2 ^ (31 - j) := by
          rw [hK, hm, Nat.mul_right_comm, ← Nat.pow_add]
          congr 2; omega
        rw [e2, Nat.pow_mul, Nat.add_mod, Nat.pow_mod, hf, Nat.one_pow] at h6
        have e3 : 1 % d = 1 := Nat.mod_eq_of_lt (by omega)
        rw [e3] at h6
        have : (1 + 1) % d = 2 := Nat.mod_eq_of_lt (by omega)
        omega
  exact step 32 (Nat.le_refl _)
theorem prime_P : IsPrime P := by
  refine ⟨by decide, fun d hd => ?_⟩
  have hPpos : 0 < P := by decide
  obtain ⟨e, he⟩ := hd
  by_cases h1 : d = 1
  · exact Or.inl h1
  by_cases h2 : e = 1
  · exact Or.inr (by rw [he, h2, Nat.mul_one])
  exfalso
  have hd0 : d ≠ 0 := by rintro rfl; rw [Nat.zero_mul] at he; omega
  have he0 : e ≠ 0 := by rintro rfl; rw [Nat.mul_zero] at he; omega
  have big : ∀ n, n ∣ P → 2 ≤ n → 4294967297 ≤ n := by
    intro n hn hn2
    obtain ⟨q, hq, hqp⟩ := exists_prime_dvd n hn2
    have hf := dvd_form (Nat.dvd_trans hq hn) hqp
    have := hqp.1
    have h3 := Nat.le_of_dvd (by omega) hf
    have h4 := Nat.le_of_dvd (by omega) hq
    omega
  have b1 := big d ⟨e, he⟩ (by omega)
  have b2 := big e ⟨d, by rw [he, Nat.mul_comm]⟩ (by omega)
  have b3 := Nat.mul_le_mul b1 b2
  rw [← he] at b3
  exact absurd b3 (by decide)
#print axioms prime_P
end Go.Proofs.YtckoipoejaafhaaDoor
/- Numbers by the prime 2^64 - 2^32 + 1: the rest, the sum, the difference, the product, the power; the laws of a field; no program in sight. -/
namespace Go.Proofs.YtckoipoejaafhaaDoor
/- Each is told by cases of its first number, so that no step of a walk lays it open. -/
def fN : Nat → Nat
  | 0 => 0
  | a + 1 => (a + 1) % P
def fA : Nat → Nat → Nat
  | 0, b => b % P
  | a + 1, b => (a + 1 + b) % P
def fS : Nat → Nat → Nat
  | 0, b => (P - b % P) % P
  | a + 1, b => (a + 1 + (P - b % P)) % P
def fM : Nat → Nat → Nat
  | 0, _ => 0
  | a + 1, b => (a + 1) * b % P
def fW : Nat → Nat → Nat
  | 0, n => 0 ^ n % P
  | a + 1, n => (a + 1) ^ n % P
theorem fN_eq (a : Nat) : fN a = a % P := by cases a <;> rfl
theorem fA_eq (a b : Nat) : fA a b = (a + b) % P := by cases a <;> simp [fA]
theorem fS_eq (a b : Nat) : fS a b = (a + (P - b % P)) % P := by cases a <;> simp [fS]
theorem fM_eq (a b : Nat) : fM a b = a * b % P := by cases a <;> simp [fM]
theorem fW_eq (a n : Nat) : fW a n = a ^ n % P := by cases a <;> simp [fW]
theorem lt_int {a : Nat} (h : a < P) : (a : Int) < 18446744069414584321 := by unfold P at h; omega
theorem fN_lt (a : Nat) : (fN a : Int) < 18446744069414584321 := lt_int (by rw [fN_eq]; exact Nat.mod_lt _ (by decide))
theorem fA_lt (a b : Nat) : (fA a b : Int) < 18446744069414584321 := lt_int (by rw [fA_eq]; exact Nat.mod_lt _ (by decide))
theorem fS_lt (a b : Nat) : (fS a b : Int) < 18446744069414584321 := lt_int (by rw [fS_eq]; exact Nat.mod_lt _ (by decide))
theorem fM_lt (a b : Nat) : (fM a b : Int) < 18446744069414584321 := lt_int (by rw [fM_eq]; exact Nat.mod_lt _ (by decide))
theorem fW_lt (a n : Nat) : (fW a n : Int) < 18446744069414584321 := lt_int (by rw [fW_eq]; exact Nat.mod_lt _ (by decide))
theorem not_dvd {a : Nat} (h : fN a ≠ 0) : ¬ P ∣ a := by
  intro hd
  rw [fN_eq] at h
  exact h (Nat.mod_eq_zero_of_dvd hd)
theorem inv_pow_k (a k : Nat) (hk : k + 1 = P - 1) (h : fN a ≠ 0) : fM a (fW a k) = 1 := by
  rw [fM_eq, fW_eq, Nat.mul_mod, Nat.mod_mod, ← Nat.mul_mod, Nat.mul_comm, ← Nat.pow_succ, Nat.succ_eq_add_one, hk]
  exact fermat_one prime_P (not_dvd h)
theorem inv_pow (a : Nat) (h : fN a ≠ 0) : fM a (fW a 18446744069414584319) = 1 := inv_pow_k a _ (by decide) h
theorem fW_fW (a m n : Nat) : fW (fW a m) n = fW a (m * n) := by
  simp only [fW_eq]
  rw [← Nat.pow_mod, Nat.pow_mul]
theorem fW_two (a : Nat) : fW a 2 = fM a a := by rw [fW_eq, fM_eq, Nat.pow_two]
def pm : Nat → Nat → Nat → Nat → Nat
  | 0, _, _, r => r
  | f + 1, s, n, r => pm f (s * s % P) (n / 2) (if n % 2 = 1 then r * s % P else r)
theorem pm_eq : ∀ f s n r, n < 2 ^ f → r < P → pm f s n r = r * s ^ n % P := by
  intro f
  induction f with
  | zero =>
    intro s n r hn hr
    have e : n = 0 := by simpa using hn
    subst e
    show r = _
    rw [Nat.pow_zero, Nat.mul_one, Nat.mod_eq_of_lt hr]
  | succ f ih =>
    intro s n r hn hr
    have hn2 : n / 2 < 2 ^ f := by rw [Nat.pow_succ] at hn; omega
    show pm f (s * s % P) (n / 2) (if n % 2 = 1 then r * s % P else r) = _
    by_cases h : n % 2 = 1
    · rw [if_pos h, ih _ _ _ hn2 (Nat.mod_lt _ (by decide))]
      have e : n = 2 * (n / 2) + 1 := by omega
      conv => rhs; rw [e, Nat.pow_succ, Nat.pow_mul, Nat.pow_two]
      rw [Nat.mul_mod, ← Nat.pow_mod, Nat.mod_mod, ← Nat.mul_mod, Nat.mul_assoc, Nat.mul_comm s]
    · rw [if_neg h, ih _ _ _ hn2 hr]
      have e : n = 2 * (n / 2) := by omega
      conv => rhs; rw [e, Nat.pow_mul, Nat.pow_two]
      rw [Nat.mul_mod, ← Nat.pow_mod, ← Nat.mul_mod]
theorem fW_pm (a n : Nat) (hn : n < 2 ^ 64) : fW a n = pm 64 a n 1 := by
  rw [pm_eq 64 a n 1 hn (by decide), Nat.one_mul, fW_eq]
def rt (k : Nat) : Nat := fW 7 (18446744069414584320 / 2 ^ k)
theorem rt_zero : rt 0 = 1 := by
  unfold rt
  rw [Nat.pow_zero, Nat.div_one, fW_pm _ _ (by decide)]; decide +kernel
theorem rt_one : rt 1 = 18446744069414584320 := by
  unfold rt
  rw [fW_pm _ _ (by decide)]; decide +kernel
theorem half_twice (i : Nat) (hi : i ≤ 31) : 18446744069414584320 / 2 ^ i = 18446744069414584320 / 2 ^ (i + 1) * 2 := by
  have e : 18446744069414584320 = 2 ^ (i + 1) * (2 ^ (31 - i) * 4294967295) := by
    rw [← Nat.mul_assoc, ← Nat.pow_add]
    have : i + 1 + (31 - i) = 32 := by omega
    rw [this]
  have e2 : 18446744069414584320 / 2 ^ (i + 1) = 2 ^ (31 - i) * 4294967295 := by
    rw [e]; exact Nat.mul_div_cancel_left _ (Nat.pow_pos (by decide))
  rw [e2]
  conv => lhs; rw [e]
  rw [Nat.pow_succ, Nat.mul_assoc (2 ^ i), Nat.mul_div_cancel_left _ (Nat.pow_pos (by decide)), Nat.mul_comm 2]
theorem rt_sq (i : Nat) (hi : i ≤ 31) : fM (rt (i + 1)) (rt (i + 1)) = rt i := by
  unfold rt
  rw [← fW_two, fW_fW, ← half_twice i hi]
theorem rt_half (i : Nat) (hi : i ≤ 31) : fW (rt (i + 1)) (2 ^ i) = 18446744069414584320 := by
  induction i with
  | zero =>
    rw [Nat.zero_add, rt_one, Nat.pow_zero, fW_eq, Nat.pow_one]; decide
  | succ i ih =>
    rw [Nat.pow_succ, Nat.mul_comm, ← fW_fW, fW_two, rt_sq (i + 1) hi]
    exact ih (by omega)
end Go.Proofs.YtckoipoejaafhaaDoor
/- The field of the prime 2^64 - 2^32 + 1 as a type, sums over it, and how the numbers of the program stand in it; no program in sight. -/
namespace Go.Proofs.YtckoipoejaafhaaDoor
abbrev F := Fin 18446744069414584321
def toF (n : Nat) : F := Fin.ofNat 18446744069414584321 n
theorem val_toF (n : Nat) : (toF n).val = n % P := rfl
theorem toF_val (x : F) : toF x.val = x := Fin.ext (Nat.mod_eq_of_lt x.isLt)
theorem toF_eq {a b : Nat} (h : a % P = b % P) : toF a = toF b := Fin.ext h
theorem mod_of_toF {a b : Nat} (h : toF a = toF b) : a % P = b % P := congrArg Fin.val h
theorem toF_zero : toF 0 = 0 := rfl
theorem toF_one : toF 1 = 1 := rfl
theorem toF_add (a b : Nat) : toF (a + b) = toF a + toF b := by
  apply Fin.ext
  rw [Fin.val_add, val_toF, val_toF, val_toF]
  exact Nat.add_mod a b P
theorem toF_mul (a b : Nat) : toF (a * b) = toF a * toF b := by
  apply Fin.ext
  rw [Fin.val_mul, val_toF, val_toF, val_toF]
  exact Nat.mul_mod a b P
theorem toF_mod (a : Nat) : toF (a % P) = toF a := toF_eq (Nat.mod_mod a P)
theorem toF_fN (a : Nat) : toF (fN a) = toF a := by rw [fN_eq, toF_mod]
theorem toF_fA (a b : Nat) : toF (fA a b) = toF a + toF b := by rw [fA_eq, toF_mod, toF_add]
theorem toF_fM (a b : Nat) : toF (fM a b) = toF a * toF b := by rw [fM_eq, toF_mod, toF_mul]
theorem toF_fS (a b : Nat) : toF (fS a b) = toF a - toF b := by
  have h : toF (fS a b) + toF b = toF a := by
    rw [← toF_add]
    apply toF_eq
    rw [fS_eq]; unfold P; omega
  rw [← h]
  grind
theorem fN_val (a : Nat) : fN a = (toF a).val := by rw [fN_eq, val_toF]
theorem fM_val (a b : Nat) : fM a b = (toF a * toF b).val := by rw [← toF_fM, val_toF, fM_eq, Nat.mod_mod]
theorem fN_zero (a : Nat) : fN a = 0 ↔ toF a = 0 := by
  constructor
  · intro h
    rw [← toF_fN, h]; rfl
  · intro h
    rw [fN_val, h]; rfl
def pw (x : F) : Nat → F
  | 0 => 1
  | n + 1 => pw x n * x
theorem pw_zero (x : F) : pw x 0 = 1 := rfl
theorem pw_succ (x : F) (n : Nat) : pw x (n + 1) = pw x n * x := rfl
theorem pw_add (x : F) (m n : Nat) : pw x (m + n) = pw x m * pw x n := by
  induction n with
  | zero => rw [Nat.add_zero, pw_zero]; grind
  | succ n ih => rw [← Nat.add_assoc, pw_succ, pw_succ, ih]; grind
theorem pw_mul (x : F) (m n : Nat) : pw x (m * n) = pw (pw x m) n := by
  induction n with
  | zero => rfl
  | succ n ih => rw [Nat.mul_succ, pw_add, ih, pw_succ]
theorem toF_fW (a n : Nat) : toF (fW a n) = pw (toF a) n := by
  rw [fW_eq, toF_mod]
  induction n with
  | zero => rfl
  | succ n ih => rw [Nat.pow_succ, toF_mul, ih, pw_succ]
theorem mul_ne {x y : F} (h : x * y = 0) : x = 0 ∨ y = 0 := by
  rw [← toF_val x, ← toF_val y, ← toF_mul] at h
  have h2 : x.val * y.val % P = 0 % P := mod_of_toF (h.trans toF_zero.symm)
  rcases prime_P.dvd_mul (Nat.dvd_of_mod_eq_zero (h2.trans (Nat.zero_mod P))) with hd | hd
  · left
    apply Fin.ext
    exact Nat.eq_zero_of_dvd_of_lt hd x.isLt
  · right
    apply Fin.ext
    exact Nat.eq_zero_of_dvd_of_lt hd y.isLt
def inv (x : F) : F := toF (fW x.val 18446744069414584319)
theorem mul_inv {x : F} (h : x ≠ 0) : x * inv x = 1 := by
  have h1 : fN x.val ≠ 0 := by
    intro h2
    rw [fN_zero, toF_val] at h2
    exact h h2
  have h3 := inv_pow x.val h1
  unfold inv
  rw [← toF_val (x * _)]
  have h4 : (x * toF (fW x.val 18446744069414584319)).val = fM x.val (fW x.val 18446744069414584319) := by
    rw [fM_val, toF_val]
  rw [h4, h3]; rfl
theorem toF_inv (a : Nat) : toF (fW a 18446744069414584319) = inv (toF a) := by
  unfold inv
  rw [toF_fW, toF_fW, toF_val]
theorem mul_cancel {x y z : F} (h : x ≠ 0) (e : x * y = x * z) : y = z := by
  have h1 := mul_inv h
  have h2 : inv x * (x * y) = inv x * (x * z) := by rw [e]
  grind
def S (n : Nat) (f : Nat → F) : F := match n with
  | 0 => 0
  | n + 1 => S n f + f n
theorem S_zero (f : Nat → F) : S 0 f = 0 := rfl
theorem S_succ (n : Nat) (f : Nat → F) : S (n + 1) f = S n f + f n := rfl
theorem S_congr {n : Nat} {f g : Nat → F} (h : ∀ i, i < n → f i = g i) : S n f = S n g := by
  induction n with
  | zero => rfl
  | succ n ih => rw [S_succ, S_succ, ih (fun i hi => h i (by omega)), h n (by omega)]
theorem S_zeros {n : Nat} {f : Nat → F} (h : ∀ i, i < n → f i = 0) : S n f = 0 := by
  induction n with
  | zero => rfl
  | succ n ih => rw [S_succ, ih (fun i hi => h i (by omega)), h n (by omega)]; grind
theorem S_add (n : Nat) (f g : Nat → F) : S n (fun i => f i + g i) = S n f + S n g := by
  induction n with
  | zero => rw [S_zero, S_zero, S_zero]; grind
  | succ n ih => rw [S_succ, S_succ, S_succ, ih]; grind
theorem S_mul (n : Nat) (c : F) (f : Nat → F) : S n (fun i => c * f i) = c * S n f := by
  induction n with
  | zero => rw [S_zero, S_zero]; grind
  | succ n ih => rw [S_succ, S_succ, ih]; grind
theorem S_comm (m n : Nat) (f : Nat → Nat → F) : S m (fun i => S n (fun j => f i j)) = S n (fun j => S m (fun i => f i j)) := by
  induction m with
  | zero => rw [S_zero, S_zeros (fun i _ => S_zero _)]
  | succ m ih =>
    rw [S_succ, ih, ← S_add]
    exact S_congr fun j _ => rfl
theorem S_split (m n : Nat) (f : Nat → F) : S (m + n) f = S m f + S n (fun i => f (m + i)) := by
  induction n with
  | zero => rw [S_zero, Nat.add_zero]; grind
  | succ n ih => rw [← Nat.add_assoc, S_succ, ih, S_succ]; grind
theorem S_more {m n : Nat} (h : m ≤ n) {f : Nat → F} (h0 : ∀ i, m ≤ i → i < n → f i = 0) : S n f = S m f := by
  obtain ⟨k, rfl⟩ : ∃ k, n = m + k := ⟨n - m, by omega⟩
  rw [S_split, S_zeros (n := k) (fun i hi => h0 (m + i) (by omega) (by omega))]
  grind
theorem S_first (n : Nat) (f : Nat → F) : S (n + 1) f = f 0 + S n (fun i => f (i + 1)) := by
  induction n with
  | zero => rw [S_succ, S_zero, S_zero]; grind
  | succ n ih => rw [S_succ, ih, S_succ]; grind
end Go.Proofs.YtckoipoejaafhaaDoor
/- The normal form of a list of numbers by the prime: how many numbers of it count, and what is told; no program in sight. -/
namespace Go.Proofs.YtckoipoejaafhaaDoor
def sig : List Nat → Nat
  | [] => 0
  | x :: xs => if sig xs = 0 then (if fN x = 0 then 0 else 1) else sig xs + 1
def pN (xs : List Nat) : List Nat := (xs.take (sig xs)).map fN
end Go.Proofs.YtckoipoejaafhaaDoor
/- Polynomials over the field of the prime, as lists: values, sums, products number by number, how many numbers count, and that a polynomial with as many roots as numbers is 0; no program in sight. -/
namespace Go.Proofs.YtckoipoejaafhaaDoor
def gf (l : List F) (i : Nat) : F := l.getD i 0
theorem gf_nil (i : Nat) : gf [] i = 0 := by simp [gf]
theorem gf_zero (c : F) (l : List F) : gf (c :: l) 0 = c := by simp [gf]
theorem gf_succ (c : F) (l : List F) (i : Nat) : gf (c :: l) (i + 1) = gf l i := by simp [gf]
theorem gf_ge {l : List F} {i : Nat} (h : l.length ≤ i) : gf l i = 0 := by simp [gf, List.getD, List.getElem?_eq_none h]
def evF : List F → F → F
  | [], _ => 0
  | c :: l, x => c + x * evF l x
theorem evF_S (l : List F) (x : F) : evF l x = S l.length (fun i => gf l i * pw x i) := by
  induction l with
  | nil => rfl
  | cons c l ih =>
    show c + x * evF l x = _
    rw [List.length_cons, S_first, gf_zero, pw_zero, ih, ← S_mul]
    have : S l.length (fun i => gf (c :: l) (i + 1) * pw x (i + 1)) = S l.length (fun i => x * (gf l i * pw x i)) :=
      S_congr fun i _ => by rw [gf_succ, pw_succ]; grind
    rw [this]; grind
def addF : List F → List F → List F
  | [], b => b
  | a, [] => a
  | c :: a, d :: b => (c + d) :: addF a b
theorem gf_addF (a b : List F) (i : Nat) : gf (addF a b) i = gf a i + gf b i := by
  induction a generalizing b i with
  | nil => rw [addF, gf_nil]; grind
  | cons c a ih =>
    cases b with
    | nil => rw [addF, gf_nil]; grind; simp
    | cons d b =>
      rw [addF]
      cases i with
      | zero => rw [gf_zero, gf_zero, gf_zero]
      | succ i => rw [gf_succ, gf_succ, gf_succ, ih]
theorem evF_addF (a b : List F) (x : F) : evF (addF a b) x = evF a x + evF b x := by
  induction a generalizing b with
  | nil => rw [addF, evF]; grind
  | cons c a ih =>
    cases b with
    | nil => rw [addF, evF, evF]; grind; simp
    | cons d b => rw [addF, evF, evF, evF, ih]; grind
def smulF (c : F) (l : List F) : List F := l.map (c * ·)
theorem gf_smulF (c : F) (l : List F) (i : Nat) : gf (smulF c l) i = c * gf l i := by
  induction l generalizing i with
  | nil => rw [smulF, List.map_nil, gf_nil]; grind
  | cons d l ih =>
    rw [smulF, List.map_cons]
    cases i with
    | zero => rw [gf_zero, gf_zero]
    | succ i => rw [gf_succ, gf_succ]; exact ih i
theorem evF_smulF (c : F) (l : List F) (x : F) : evF (smulF c l) x = c * evF l x := by
  induction l with
  | nil => rw [smulF, List.map_nil, evF]; grind
  | cons d l ih =>
    rw [smulF, List.map_cons, evF, evF]
    have : evF (List.map (c * ·) l) x = c * evF l x := ih
    rw [this]; grind
def mulF : List F → List F → List F
  | [], _ => []
  | c :: a, b => addF (smulF c b) (0 :: mulF a b)
theorem evF_mulF (a b : List F) (x : F) : evF (mulF a b) x = evF a x * evF b x := by
  induction a with
  | nil => rw [mulF, evF]; grind
  | cons c a ih => rw [mulF, evF_addF, evF_smulF, evF, ih, evF]; grind
def conv (f g : Nat → F) (k : Nat) : F := S (k + 1) (fun i => f i * g (k - i))
theorem conv_congr {f f' g g' : Nat → F} (hf : ∀ i, f i = f' i) (hg : ∀ i, g i = g' i) (k : Nat) : conv f g k = conv f' g' k :=
  S_congr fun i _ => by rw [hf, hg]
theorem gf_mulF (a b : List F) (k : Nat) : gf (mulF a b) k = conv (gf a) (gf b) k := by
  induction a generalizing k with
  | nil =>
    rw [mulF, gf_nil]
    exact (S_zeros fun i _ => by rw [gf_nil]; grind).symm
  | cons c a ih =>
    rw [mulF, gf_addF, gf_smulF]
    unfold conv
    rw [S_first, gf_zero, Nat.sub_zero]
    cases k with
    | zero => rw [gf_zero, S_zero]
    | succ k =>
      rw [gf_succ, ih]
      have : S (k + 1) (fun i => gf (c :: a) (i + 1) * gf b (k + 1 - (i + 1))) = conv (gf a) (gf b) k :=
        S_congr fun i _ => by rw [gf_succ, Nat.add_sub_add_right]
      rw [this]
theorem conv_above {f g : Nat → F} {m n : Nat} (hf : ∀ i, m ≤ i → f i = 0) (hg : ∀ i, n ≤ i → g i = 0) (k : Nat) (hk : m + n ≤ k + 1) : conv f g k = 0 := by
  refine S_zeros fun i hi => ?_
  by_cases h : m ≤ i
  · rw [hf i h]; grind
  · rw [hg (k - i) (by omega)]; grind
end Go.Proofs.YtckoipoejaafhaaDoor
/- Polynomials as the program has them, lists of numbers: the normal form is told by the numbers by the prime alone; sums, products, values; no program in sight. -/
namespace Go.Proofs.YtckoipoejaafhaaDoor
def cf (a : List Nat) (i : Nat) : F := toF (a.getD i 0)
theorem cf_ge {a : List Nat} {i : Nat} (h : a.length ≤ i) : cf a i = 0 := by
  unfold cf
  simp [List.getD, List.getElem?_eq_none h, toF_zero]
theorem cf_gf (a : List Nat) (i : Nat) : cf a i = gf (a.map toF) i := by
  rcases Nat.lt_or_ge i a.length with h | h
  · simp [cf, gf, List.getD, h]
  · rw [cf_ge h, gf_ge (by simpa using h)]
def mk (n : Nat) (f : Nat → F) : List Nat := (List.range n).map fun i => (f i).val
theorem mk_length (n : Nat) (f : Nat → F) : (mk n f).length = n := by simp [mk]
theorem mk_getD (n : Nat) (f : Nat → F) (i : Nat) (h : i < n) : (mk n f).getD i 0 = (f i).val := by simp [mk, List.getD, h]
theorem cf_mk (n : Nat) (f : Nat → F) (i : Nat) : cf (mk n f) i = if i < n then f i else 0 := by
  by_cases h : i < n
  · rw [if_pos h]; unfold cf; rw [mk_getD n f i h, toF_val]
  · rw [if_neg h]; exact cf_ge (by rw [mk_length]; omega)
theorem mk_congr {n : Nat} {f g : Nat → F} (h : ∀ i, i < n → f i = g i) : mk n f = mk n g := by
  unfold mk
  exact List.map_congr_left fun i hi => by rw [h i (List.mem_range.mp hi)]
theorem mk_lt (n : Nat) (f : Nat → F) : ∀ x ∈ mk n f, x < P := by
  intro x hx
  obtain ⟨i, _, rfl⟩ := List.mem_map.mp hx
  exact (f i).isLt
theorem mk_succ (n : Nat) (f : Nat → F) : mk (n + 1) f = mk n f ++ [(f n).val] := by
  unfold mk
  rw [List.range_succ, List.map_append]; rfl
def pM (a b : List Nat) : List Nat := if a.length = 0 ∨ b.length = 0 then [] else mk (a.length + b.length - 1) (conv (cf a) (cf b))
end Go.Proofs.YtckoipoejaafhaaDoor
/- LAGRANGE: products of differences, and that through points that differ goes one polynomial of at most as many numbers, in normal form; no program in sight. -/
namespace Go.Proofs.YtckoipoejaafhaaDoor
def Goes (l : List Nat) (n : Nat) (X Y : Nat → F) : Prop := pN l = l ∧ l.length ≤ n ∧ ∀ j, j < n → evF (l.map toF) (X j) = Y j
end Go.Proofs.YtckoipoejaafhaaDoor
/- EUCLID: what is divided is told by one quotient and one rest alone; BEZOUT: divided by (the power 1 less a number) the rest is the value there; no program in sight. -/
namespace Go.Proofs.YtckoipoejaafhaaDoor
end Go.Proofs.YtckoipoejaafhaaDoor
/- What the steps of package poly do to lists: a multiple of a list is added to another one from a place on; products, quotients and polynomials through points as such steps; no program in sight. -/
namespace Go.Proofs.YtckoipoejaafhaaDoor
def hv (xs : List Nat) (x i : Nat) : Nat := (evF ((xs.drop i).map toF) (toF x)).val
def zp (X : Nat → F) : Nat → F → F
  | 0, _ => 1
  | k + 1, x => zp X k x * (x - X k)
def Way (xs ys l : List Nat) (i : Nat) : Prop := l.length = xs.length ∧ (∀ x ∈ l, (x : Int) < 18446744073709551616) ∧ ∀ j, j < i → evF (l.map toF) (cf xs j) = cf ys j
end Go.Proofs.YtckoipoejaafhaaDoor
/- Transforms over the field of the prime: roots of 1 of the order 2^k, sums of their powers, back and forth, halves, shifts, PARSEVAL, the transform of a product; no program in sight. -/
namespace Go.Proofs.YtckoipoejaafhaaDoor
theorem pw_one (n : Nat) : pw 1 n = 1 := by
  induction n with
  | zero => rfl
  | succ n ih => rw [pw_succ, ih]; grind
theorem pw_mul_base (x y : F) (n : Nat) : pw (x * y) n = pw x n * pw y n := by
  induction n with
  | zero => rw [pw_zero, pw_zero, pw_zero]; grind
  | succ n ih => rw [pw_succ, pw_succ, pw_succ, ih]; grind
theorem pw_comm (x : F) (m n : Nat) : pw (pw x m) n = pw (pw x n) m := by rw [← pw_mul, ← pw_mul, Nat.mul_comm]
structure Ord (w : F) (k : Nat) : Prop where
  one : pw w (2 ^ k) = 1
  half : ∀ j, k = j + 1 → pw w (2 ^ j) = -1
theorem Ord.ne_zero {w : F} {k : Nat} (h : Ord w k) : w ≠ 0 := by
  intro e
  have h1 := h.one
  rw [e] at h1
  obtain ⟨j, hj⟩ : ∃ j, 2 ^ k = j + 1 := ⟨2 ^ k - 1, by have := Nat.pow_pos (n := k) (show 0 < 2 by decide); omega⟩
  rw [hj, pw_succ] at h1
  have : (0 : F) = 1 := by grind
  exact absurd this (by decide)
theorem Ord.sq {w : F} {k : Nat} (h : Ord w (k + 1)) : Ord (w * w) k := by
  have e : ∀ m, pw (w * w) m = pw w (2 * m) := fun m => by
    rw [pw_mul]
    congr 1
    rw [show (2 : Nat) = 1 + 1 from rfl, pw_succ, pw_succ, pw_zero]; grind
  refine ⟨?_, fun j hj => ?_⟩
  · rw [e, show 2 * 2 ^ k = 2 ^ (k + 1) by rw [Nat.pow_succ]; omega]; exact h.one
  · rw [e, show 2 * 2 ^ j = 2 ^ (j + 1) by rw [Nat.pow_succ]; omega]; exact h.half (j + 1) (by omega)
theorem one_ne_neg : (1 : F) ≠ -1 := by decide
theorem neg_pow_odd (m : Nat) : pw (-1) (2 * m + 1) = -1 := by
  induction m with
  | zero => rw [Nat.mul_zero, pw_succ, pw_zero]; grind
  | succ m ih => rw [show 2 * (m + 1) + 1 = 2 * m + 1 + 1 + 1 by omega, pw_succ, pw_succ, ih]; grind
theorem Ord.dvd {w : F} {k d : Nat} (h : Ord w k) (hd : pw w d = 1) : 2 ^ k ∣ d := by
  have step : ∀ s, s ≤ k → 2 ^ s ∣ d := by
    intro s
    induction s with
    | zero => intro _; exact ⟨d, by omega⟩
    | succ s ih =>
      intro hs
      obtain ⟨m, hm⟩ := ih (by omega)
      rcases Nat.mod_two_eq_zero_or_one m with he | ho
      · exact ⟨m / 2, by rw [hm, Nat.pow_succ, Nat.mul_assoc]; congr 1; omega⟩
      · exfalso
        obtain ⟨t, ht⟩ : ∃ t, k = s + t + 1 := ⟨k - s - 1, by omega⟩
        have h1 : pw (pw w d) (2 ^ t) = 1 := by rw [hd, pw_one]
        have e : d * 2 ^ t = 2 ^ (s + t) * m := by rw [hm, Nat.pow_add]; grind
        rw [← pw_mul, e, pw_mul, h.half (s + t) (by omega)] at h1
        have e2 : m = 2 * (m / 2) + 1 := by omega
        rw [e2, neg_pow_odd] at h1
        exact one_ne_neg h1.symm
  exact step k (Nat.le_refl _)
theorem Ord.pow_ne {w : F} {k d : Nat} (h : Ord w k) (h0 : 0 < d) (h1 : d < 2 ^ k) : pw w d ≠ 1 := by
  intro e
  have := Nat.le_of_dvd h0 (h.dvd e)
  omega
theorem Ord.inj {w : F} {k i j : Nat} (h : Ord w k) (hi : i < 2 ^ k) (hj : j < 2 ^ k) (e : pw w i = pw w j) : i = j := by
  have key : ∀ i j, i < j → j < 2 ^ k → pw w i ≠ pw w j := by
    intro i j hij hj e
    have h1 : pw w (j - i) = 1 := by
      have e2 : pw w j = pw w (j - i) * pw w i := by rw [← pw_add]; congr 1; omega
      have hne : pw w i ≠ 0 := by
        intro hz
        have h2 : pw w (i + (2 ^ k - i)) = 0 := by rw [pw_add, hz]; grind
        rw [show i + (2 ^ k - i) = 2 ^ k by omega, h.one] at h2
        exact absurd h2 (by decide)
      apply mul_cancel hne
      rw [e2] at e
      grind
    exact h.pow_ne (by omega) (by omega) h1
  rcases Nat.lt_trichotomy i j with h1 | h1 | h1
  · exact absurd e (key i j h1 hj)
  · exact h1
  · exact absurd e.symm (key j i h1 hi)
theorem geo (v : F) (n : Nat) : (v - 1) * S n (fun j => pw v j) = pw v n - 1 := by
  induction n with
  | zero => rw [S_zero, pw_zero]; grind
  | succ n ih => rw [S_succ, pw_succ]; grind
theorem geo_zero {v : F} {n : Nat} (h1 : pw v n = 1) (hne : v ≠ 1) : S n (fun j => pw v j) = 0 := by
  have h := geo v n
  rw [h1] at h
  have h2 : (v - 1) * S n (fun j => pw v j) = 0 := by grind
  rcases mul_ne h2 with h3 | h3
  · exact absurd (show v = 1 by grind) hne
  · exact h3
theorem S_const (n : Nat) (c : F) : S n (fun _ => c) = toF n * c := by
  induction n with
  | zero => rw [S_zero, toF_zero]; grind
  | succ n ih => rw [S_succ, ih, toF_add, toF_one]; grind
theorem S_delta (n i : Nat) (hi : i < n) (f : Nat → F) (h : ∀ j, j < n → j ≠ i → f j = 0) : S n f = f i := by
  obtain ⟨m, rfl⟩ : ∃ m, n = i + (1 + m) := ⟨n - i - 1, by omega⟩
  rw [S_split, S_zeros (n := i) (fun j hj => h j (by omega) (by omega)), S_split, S_zeros (n := m) (fun j hj => h (i + (1 + j)) (by omega) (by omega)), S_succ, S_zero, Nat.add_zero]
  grind
def dft (w : F) (n : Nat) (f : Nat → F) (j : Nat) : F := S n (fun i => f i * pw w (i * j))
theorem dft_congr {w : F} {n : Nat} {f g : Nat → F} (h : ∀ i, i < n → f i = g i) (j : Nat) : dft w n f j = dft w n g j :=
  S_congr fun i hi => by rw [h i hi]
theorem dft_ev (w : F) (l : List F) (j : Nat) : evF l (pw w j) = dft w l.length (gf l) j := by
  rw [evF_S]
  exact S_congr fun i _ => by rw [← pw_mul, Nat.mul_comm]
theorem dft_back {w v : F} {k : Nat} (h : Ord w k) (hv : w * v = 1) (f : Nat → F) (i : Nat) (hi : i < 2 ^ k) : dft v (2 ^ k) (dft w (2 ^ k) f) i = toF (2 ^ k) * f i := by
  unfold dft
  have e1 : S (2 ^ k) (fun j => S (2 ^ k) (fun l => f l * pw w (l * j)) * pw v (j * i)) = S (2 ^ k) (fun l => f l * S (2 ^ k) (fun j => pw (pw w l * pw v i) j)) := by
    have e2 : S (2 ^ k) (fun j => S (2 ^ k) (fun l => f l * pw w (l * j)) * pw v (j * i)) = S (2 ^ k) (fun j => S (2 ^ k) (fun l => f l * pw (pw w l * pw v i) j)) := by
      refine S_congr fun j _ => ?_
      rw [show S (2 ^ k) (fun l => f l * pw w (l * j)) * pw v (j * i) = pw v (j * i) * S (2 ^ k) (fun l => f l * pw w (l * j)) by grind, ← S_mul]
      refine S_congr fun l _ => ?_
      rw [pw_mul_base, ← pw_mul, ← pw_mul, Nat.mul_comm i j]; grind
    rw [e2, S_comm]
    exact S_congr fun l _ => by rw [← S_mul]
  rw [e1, S_delta (2 ^ k) i hi]
  · have e3 : pw w i * pw v i = 1 := by rw [← pw_mul_base, hv, pw_one]
    rw [e3]
    have e4 : S (2 ^ k) (fun j => pw 1 j) = toF (2 ^ k) * 1 := by rw [← S_const]; exact S_congr fun j _ => pw_one j
    rw [e4]; grind
  · intro l hl hne
    have hvn : pw v (2 ^ k) = 1 := by
      have : pw (w * v) (2 ^ k) = 1 := by rw [hv, pw_one]
      rw [pw_mul_base, h.one] at this
      grind
    rw [geo_zero]
    · grind
    · rw [pw_mul_base, ← pw_mul, ← pw_mul, Nat.mul_comm l, Nat.mul_comm i, pw_mul, pw_mul, h.one, hvn, pw_one, pw_one]; grind
    · intro e
      apply hne
      apply h.inj hl hi
      have e3 : pw w i * pw v i = 1 := by rw [← pw_mul_base, hv, pw_one]
      have hz : pw v i ≠ 0 := by
        intro hz
        rw [hz] at e3
        exact absurd (show (0 : F) = 1 by grind) (by decide)
      apply mul_cancel hz
      grind
theorem Ord.inv {w v : F} {k : Nat} (h : Ord w k) (hv : w * v = 1) : Ord v k := by
  have hp : ∀ n, pw w n * pw v n = 1 := fun n => by rw [← pw_mul_base, hv, pw_one]
  refine ⟨?_, fun j hj => ?_⟩
  · have := hp (2 ^ k); rw [h.one] at this; grind
  · have := hp (2 ^ j); rw [h.half j hj] at this; grind
theorem two_pow_ne (k : Nat) (hk : k ≤ 32) : toF (2 ^ k) ≠ 0 := by
  intro h
  have h1 : 2 ^ k % P = 0 % P := mod_of_toF (h.trans toF_zero.symm)
  have h2 : 2 ^ k ≤ 2 ^ 32 := Nat.pow_le_pow_right (by decide) hk
  have h3 : 2 ^ k < P := Nat.lt_of_le_of_lt h2 (by decide)
  rw [Nat.mod_eq_of_lt h3] at h1
  have := Nat.pow_pos (n := k) (show 0 < 2 by decide)
  simp at h1
theorem S_even_odd (m : Nat) (f : Nat → F) : S (2 * m) f = S m (fun i => f (2 * i)) + S m (fun i => f (2 * i + 1)) := by
  induction m with
  | zero => rw [Nat.mul_zero, S_zero, S_zero, S_zero]; grind
  | succ m ih => rw [show 2 * (m + 1) = 2 * m + 1 + 1 by omega, S_succ, S_succ, ih, S_succ, S_succ]; grind
theorem dft_halves (w : F) (m : Nat) (f : Nat → F) (j : Nat) : dft w (2 * m) f j = dft (w * w) m (fun i => f (2 * i)) j + pw w j * dft (w * w) m (fun i => f (2 * i + 1)) j := by
  have e : ∀ n, pw (w * w) n = pw w (2 * n) := fun n => by rw [pw_mul_base, ← pw_add]; congr 1; omega
  unfold dft
  rw [S_even_odd, ← S_mul]
  congr 1
  · exact S_congr fun i _ => by rw [e]; congr 2; grind
  · refine S_congr fun i _ => ?_
    rw [e, show (2 * i + 1) * j = j + 2 * (i * j) by grind, pw_add]; grind
theorem dft_upper {w : F} {k : Nat} (h : Ord w (k + 1)) (f : Nat → F) (j : Nat) : dft w (2 * 2 ^ k) f (j + 2 ^ k) = dft (w * w) (2 ^ k) (fun i => f (2 * i)) j - pw w j * dft (w * w) (2 ^ k) (fun i => f (2 * i + 1)) j := by
  have hs := h.sq
  have hp : ∀ (g : Nat → F), dft (w * w) (2 ^ k) g (j + 2 ^ k) = dft (w * w) (2 ^ k) g j := fun g => by
    refine S_congr fun i _ => ?_
    rw [Nat.mul_add, pw_add, Nat.mul_comm i (2 ^ k), pw_mul (w * w) (2 ^ k) i, hs.one, pw_one]; grind
  rw [dft_halves, hp, hp, pw_add, h.half k rfl]; grind
theorem pw_rt_one (k : Nat) (hk : k ≤ 32) : pw (toF (rt k)) (2 ^ k) = 1 := by
  induction k with
  | zero => rw [rt_zero, Nat.pow_zero, pw_succ, pw_zero, toF_one]; grind
  | succ k ih =>
    rw [show 2 ^ (k + 1) = 2 * 2 ^ k by rw [Nat.pow_succ]; omega, pw_mul]
    have e : pw (toF (rt (k + 1))) 2 = toF (rt k) := by
      rw [← rt_sq k (by omega), toF_fM, show (2 : Nat) = 1 + 1 from rfl, pw_succ, pw_succ, pw_zero]; grind
    rw [e]
    exact ih (by omega)
theorem toF_neg_one : toF 18446744069414584320 = -1 := by decide
theorem ord_rt (k : Nat) (hk : k ≤ 32) : Ord (toF (rt k)) k := by
  refine ⟨pw_rt_one k hk, fun j hj => ?_⟩
  subst hj
  rw [← toF_fW, rt_half j (by omega), toF_neg_one]
theorem S_fold {w : F} {k : Nat} (h : Ord w k) (l : Nat → F) (j : Nat) : S (2 ^ k + 2 ^ k) (fun i => l i * pw (pw w j) i) = S (2 ^ k) (fun i => (l i + l (i + 2 ^ k)) * pw w (i * j)) := by
  rw [S_split, ← S_add]
  refine S_congr fun i _ => ?_
  have e : pw (pw w j) (2 ^ k) = 1 := by rw [pw_comm, h.one, pw_one]
  rw [pw_add, e, ← pw_mul, Nat.mul_comm j i, Nat.add_comm (2 ^ k) i]; grind
theorem dft_conv {w : F} {k : Nat} (h : Ord w k) (a b : List F) (ha : a.length = 2 ^ k) (hb : b.length = 2 ^ k) (j : Nat) : dft w (2 ^ k) (fun i => conv (gf a) (gf b) i + conv (gf a) (gf b) (i + 2 ^ k)) j = dft w (2 ^ k) (gf a) j * dft w (2 ^ k) (gf b) j := by
  have e1 := evF_mulF a b (pw w j)
  rw [dft_ev w a, dft_ev w b, ha, hb] at e1
  rw [← e1]
  have hz : ∀ i, 2 ^ k + 2 ^ k ≤ i + 1 → conv (gf a) (gf b) i = 0 := fun i hi => conv_above (m := 2 ^ k) (n := 2 ^ k) (fun t ht => gf_ge (by omega)) (fun t ht => gf_ge (by omega)) i hi
  have e2 : dft w (2 ^ k) (fun i => conv (gf a) (gf b) i + conv (gf a) (gf b) (i + 2 ^ k)) j = S (2 ^ k + 2 ^ k) (fun i => conv (gf a) (gf b) i * pw (pw w j) i) := (S_fold h (conv (gf a) (gf b)) j).symm
  rw [e2, evF_S]
  rcases Nat.le_total (2 ^ k + 2 ^ k) (mulF a b).length with hle | hle
  · rw [S_more hle]
    · exact S_congr fun i _ => by rw [gf_mulF]
    · intro i h1 h2
      rw [gf_mulF, hz i (by omega)]; grind
  · rw [S_more hle]
    · exact S_congr fun i _ => by rw [gf_mulF]
    · intro i h1 h2
      rw [← gf_mulF, gf_ge h1]; grind
end Go.Proofs.YtckoipoejaafhaaDoor
/- The transform of a list of 2^k numbers and the way back, by the roots of the program: back and forth a list is what it was; sums; the transform of 1 and noughts; no program in sight. -/
namespace Go.Proofs.YtckoipoejaafhaaDoor
def fw (xs : List Nat) (k : Nat) : Nat → F := dft (toF (rt k)) (2 ^ k) (cf xs)
def bw (xs : List Nat) (k : Nat) : Nat → F := fun j => inv (toF (2 ^ k)) * dft (inv (toF (rt k))) (2 ^ k) (cf xs) j
theorem rt_ne (k : Nat) (hk : k ≤ 32) : fN (rt k) ≠ 0 := by
  intro h
  exact (ord_rt k hk).ne_zero ((fN_zero _).mp h)
theorem len_ne (k : Nat) (hk : k ≤ 32) : fN (2 ^ k) ≠ 0 := by
  intro h
  exact two_pow_ne k hk ((fN_zero _).mp h)
theorem rt_inv (k : Nat) (hk : k ≤ 32) : toF (rt k) * inv (toF (rt k)) = 1 := mul_inv (ord_rt k hk).ne_zero
theorem back_forth (xs : List Nat) (k : Nat) (hk : k ≤ 32) : mk (2 ^ k) (bw (mk (2 ^ k) (fw xs k)) k) = mk (2 ^ k) (cf xs) := by
  refine mk_congr fun j hj => ?_
  unfold bw
  have e : dft (inv (toF (rt k))) (2 ^ k) (cf (mk (2 ^ k) (fw xs k))) j = dft (inv (toF (rt k))) (2 ^ k) (dft (toF (rt k)) (2 ^ k) (cf xs)) j :=
    dft_congr (fun i hi => by rw [cf_mk, if_pos hi]; rfl) j
  rw [e, dft_back (ord_rt k hk) (rt_inv k hk) (cf xs) j hj]
  have := mul_inv (two_pow_ne k hk)
  grind
end Go.Proofs.YtckoipoejaafhaaDoor
/- Products round the end: their numbers, and their transforms; no program in sight. -/
namespace Go.Proofs.YtckoipoejaafhaaDoor
def rnd (xs ys : List Nat) (skew : Bool) (k : Nat) : F := if skew then conv (cf xs) (cf ys) k - conv (cf xs) (cf ys) (k + xs.length) else conv (cf xs) (cf ys) k + conv (cf xs) (cf ys) (k + xs.length)
theorem gf_map (a : List Nat) : gf (a.map toF) = cf a := funext fun i => (cf_gf a i).symm
theorem rnd_fw (A B : List Nat) (k : Nat) (hk : k ≤ 32) (hA : A.length = 2 ^ k) (hB : B.length = 2 ^ k) (t : Nat) : fw (mk (2 ^ k) (rnd A B false)) k t = fw A k t * fw B k t := by
  have h := dft_conv (ord_rt k hk) (A.map toF) (B.map toF) (by rw [List.length_map]; exact hA) (by rw [List.length_map]; exact hB) t
  rw [gf_map, gf_map] at h
  unfold fw
  rw [← h]
  refine dft_congr (fun i hi => ?_) t
  rw [cf_mk, if_pos hi]
  show (if false = true then _ else _) = _
  rw [if_neg (by decide), hA]
theorem pM_get (A B : List Nat) (i : Nat) (hA : 0 < A.length) (hB : 0 < B.length) (hi : i < A.length + B.length - 1) : (pM A B).getD i 0 = (conv (cf A) (cf B) i).val := by
  unfold pM
  rw [if_neg (by omega), mk_getD _ _ _ hi]
theorem pM_len (A B : List Nat) (hA : 0 < A.length) (hB : 0 < B.length) : (pM A B).length = A.length + B.length - 1 := by
  unfold pM
  rw [if_neg (by omega), mk_length]
end Go.Proofs.YtckoipoejaafhaaDoor
/- Products round the end by transforms: there, number by number, and back; skew ones by the powers of a root of twice the order; linear ones by lists long enough; no program in sight. -/
namespace Go.Proofs.YtckoipoejaafhaaDoor
theorem cyc_way (A B : List Nat) (k : Nat) (hk : k ≤ 32) (hA : A.length = 2 ^ k) (hB : B.length = 2 ^ k) (zs : List Nat) (hz : ∀ t, t < 2 ^ k → cf zs t = fw A k t * fw B k t) : mk (2 ^ k) (bw zs k) = mk (2 ^ k) (rnd A B false) := by
  have h1 : mk (2 ^ k) (bw zs k) = mk (2 ^ k) (bw (mk (2 ^ k) (fw (mk (2 ^ k) (rnd A B false)) k)) k) := by
    refine mk_congr fun j _ => ?_
    unfold bw
    congr 1
    refine dft_congr (fun i hi => ?_) j
    rw [hz i hi, cf_mk, if_pos hi, rnd_fw A B k hk hA hB]
  rw [h1, back_forth _ k hk]
  exact mk_congr fun j hj => by rw [cf_mk, if_pos hj]
theorem rnd_lin (A B A' B' : List Nat) (hA : ∀ i, cf A' i = cf A i) (hB : ∀ i, cf B' i = cf B i) (hn : A.length + B.length ≤ A'.length + 1) (k : Nat) : rnd A' B' false k = conv (cf A) (cf B) k := by
  show conv (cf A') (cf B') k + conv (cf A') (cf B') (k + A'.length) = conv (cf A) (cf B) k
  rw [conv_congr hA hB, conv_congr hA hB, conv_above (m := A.length) (n := B.length) (fun t ht => cf_ge ht) (fun t ht => cf_ge ht) (k + A'.length) (by omega)]; grind
theorem lin_take (A B : List Nat) (n : Nat) (f : Nat → F) (hA : A.length ≠ 0) (hB : B.length ≠ 0) (hn : A.length + B.length - 1 ≤ n) (hf : ∀ k, f k = conv (cf A) (cf B) k) : (mk n f).take (A.length + B.length - 1) = pM A B := by
  unfold pM
  rw [if_neg (by omega)]
  unfold mk
  rw [← List.map_take, List.take_range, Nat.min_eq_left hn]
  exact List.map_congr_left fun i _ => by rw [hf]
end Go.Proofs.YtckoipoejaafhaaDoor
/- Arrays with axes: the place of a number at an axis, another place there; a transform along one axis, two of them in either order; all axes together, and back; products round all axes; no program in sight. -/
namespace Go.Proofs.YtckoipoejaafhaaDoor
def dg (u d p : Nat) : Nat := p / u % d
def st (u d p s : Nat) : Nat := p / (u * d) * (u * d) + s * u + p % u
theorem div_of {q b r : Nat} (h : r < b) : (q * b + r) / b = q := by
  rw [Nat.mul_comm, Nat.mul_add_div (by omega), Nat.div_eq_of_lt h, Nat.add_zero]
theorem mod_of {q b r : Nat} (h : r < b) : (q * b + r) % b = r := by
  rw [Nat.mul_comm, Nat.mul_add_mod, Nat.mod_eq_of_lt h]
theorem low_lt {u d s r : Nat} (hs : s < d) (hr : r < u) : s * u + r < u * d := by
  have : (s + 1) * u ≤ d * u := Nat.mul_le_mul_right _ hs
  rw [Nat.add_mul, Nat.one_mul, Nat.mul_comm d u] at this
  omega
theorem st_div {u d p s : Nat} (hu : 0 < u) (hs : s < d) : st u d p s / (u * d) = p / (u * d) := by
  unfold st
  rw [Nat.add_assoc]
  exact div_of (low_lt hs (Nat.mod_lt _ hu))
theorem dg_lt {u d p : Nat} (hd : 0 < d) : dg u d p < d := Nat.mod_lt _ hd
theorem st_self (u d p : Nat) : st u d p (dg u d p) = p := by
  unfold st dg
  have h1 := Nat.div_add_mod p u
  have h2 := Nat.div_add_mod (p / u) d
  rw [Nat.div_div_eq_div_mul] at h2
  have e : p / (u * d) * (u * d) + p / u % d * u = u * (d * (p / (u * d)) + p / u % d) := by grind
  rw [e, h2, h1]
theorem st_lt {u d : Nat} (hu : 0 < u) {m l s : Nat} (hl : l < u * d * m) (hs : s < d) : st u d l s < u * d * m := by
  unfold st
  have h1 : l / (u * d) < m := Nat.div_lt_of_lt_mul hl
  have h2 : (l / (u * d) + 1) * (u * d) ≤ m * (u * d) := Nat.mul_le_mul_right _ h1
  have h3 := low_lt (r := l % u) hs (Nat.mod_lt l hu)
  rw [Nat.add_mul, Nat.one_mul, Nat.mul_comm m] at h2
  omega
def ax (c w : F) (u d : Nat) (f : Nat → F) (p : Nat) : F := c * dft w d (fun s => f (st u d p s)) (dg u d p)
theorem ax_congr {c w : F} {u d m : Nat} {f g : Nat → F} (hu : 0 < u) (h : ∀ i, i < u * d * m → f i = g i) (p : Nat) (hp : p < u * d * m) : ax c w u d f p = ax c w u d g p := by
  unfold ax
  rw [dft_congr (fun s hs => h _ (st_lt hu hp hs))]
theorem S_two (a b : Nat) (f : Nat → F) : S (a * b) f = S a (fun i => S b (fun j => f (i * b + j))) := by
  induction a with
  | zero => rw [Nat.zero_mul, S_zero, S_zero]
  | succ a ih => rw [Nat.add_mul, Nat.one_mul, S_split, ih, S_succ]
def chi (w : Nat → F) (d : Nat → Nat) : Nat → Nat → Nat → F
  | 0, _, _ => 1
  | x + 1, q, p => chi w d x (q / d x) (p / d x) * pw (w x) (q % d x * (p % d x))
def sizN (d : Nat → Nat) : Nat → Nat
  | 0 => 1
  | x + 1 => sizN d x * d x
def whK (c w : Nat → F) (d U : Nat → Nat) (f : Nat → F) : Nat → Nat → F
  | 0 => f
  | x + 1 => ax (c x) (w x) (U (x + 1)) (d x) (whK c w d U f x)
def cfs (c : Nat → F) : Nat → F
  | 0 => 1
  | x + 1 => cfs c x * c x
theorem whK_chi (c w : Nat → F) (d U : Nat → Nat) (f : Nat → F) (x : Nat) (hU : ∀ y, y < x → U y = U (y + 1) * d y) (hp : ∀ y, y ≤ x → 0 < U y) (hd : ∀ y, y < x → 0 < d y) (p : Nat) :
    whK c w d U f x p = cfs c x * S (sizN d x) (fun q => f ((p / U 0 * sizN d x + q) * U x + p % U x) * chi w d x q (p / U x)) := by
  induction x generalizing p with
  | zero =>
    rw [whK, cfs, sizN, S_succ, S_zero]
    have e : (p / U 0 * 1 + 0) * U 0 + p % U 0 = p := by rw [Nat.mul_one, Nat.add_zero, Nat.mul_comm, Nat.div_add_mod]
    rw [e, chi]; grind
  | succ x ih =>
    have hUx := hU x (by omega)
    have hu := hp (x + 1) (Nat.le_refl _)
    have hdx := hd x (by omega)
    have hux := hp x (by omega)
    rw [whK, ax, dft, cfs, sizN, S_two, S_comm]
    have key : ∀ s, s < d x → whK c w d U f x (st (U (x + 1)) (d x) p s) = cfs c x * S (sizN d x) (fun q => f ((p / U 0 * (sizN d x * d x) + (q * d x + s)) * U (x + 1) + p % U (x + 1)) * chi w d x q (p / U x)) := by
      intro s hs
      rw [ih (fun y hy => hU y (by omega)) (fun y hy => hp y (by omega)) (fun y hy => hd y (by omega))]
      have h1 : st (U (x + 1)) (d x) p s / U x = p / U x := by rw [hUx]; exact st_div hu hs
      have h0 : ∀ y, y ≤ x → st (U (x + 1)) (d x) p s / U y = p / U y := by
        intro y hy
        have hdv : ∃ m, U y = U x * m := by
          clear h1 ih hux hdx hu
          induction hk : x - y generalizing y with
          | zero => obtain rfl : y = x := by omega
                    exact ⟨1, by omega⟩
          | succ k ihk =>
            obtain ⟨m, hm⟩ := ihk (y + 1) (by omega) (by omega)
            exact ⟨m * d y, by rw [hU y (by omega), hm, Nat.mul_assoc]⟩
        obtain ⟨m, hm⟩ := hdv
        rw [hm, ← Nat.div_div_eq_div_mul, h1, Nat.div_div_eq_div_mul]
      rw [h1, h0 0 (by omega)]
      congr 1
      refine S_congr fun q _ => ?_
      congr 2
      have h2 : st (U (x + 1)) (d x) p s % U x = s * U (x + 1) + p % U (x + 1) := by
        rw [hUx]
        unfold st
        rw [Nat.add_assoc]
        exact mod_of (low_lt hs (Nat.mod_lt _ hu))
      rw [h2, hUx]; grind
    have e1 : S (d x) (fun s => whK c w d U f x (st (U (x + 1)) (d x) p s) * pw (w x) (s * dg (U (x + 1)) (d x) p)) = cfs c x * S (d x) (fun s => S (sizN d x) (fun q => f ((p / U 0 * (sizN d x * d x) + (q * d x + s)) * U (x + 1) + p % U (x + 1)) * chi w d (x + 1) (q * d x + s) (p / U (x + 1)))) := by
      rw [← S_mul]
      refine S_congr fun s hs => ?_
      rw [key s hs]
      rw [show cfs c x * S (sizN d x) (fun q => f ((p / U 0 * (sizN d x * d x) + (q * d x + s)) * U (x + 1) + p % U (x + 1)) * chi w d x q (p / U x)) * pw (w x) (s * dg (U (x + 1)) (d x) p) = cfs c x * (pw (w x) (s * dg (U (x + 1)) (d x) p) * S (sizN d x) (fun q => f ((p / U 0 * (sizN d x * d x) + (q * d x + s)) * U (x + 1) + p % U (x + 1)) * chi w d x q (p / U x))) by grind, ← S_mul]
      congr 1
      refine S_congr fun q _ => ?_
      rw [chi, div_of hs, mod_of hs, Nat.div_div_eq_div_mul, ← hUx]
      unfold dg
      grind
    rw [e1, S_comm]; grind
end Go.Proofs.YtckoipoejaafhaaDoor
