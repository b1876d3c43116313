/-
  Transforms over the field of the prime: roots of 1 of the order 2^k, sums of their powers, back and forth, halves, shifts, PARSEVAL, the transform of a product; no program in sight.
-/
import Derived.Test.YtgfnjbkhncjhhabDoorPolyB
namespace Go.Proofs.YtgfnjbkhncjhhabDoor

theorem pw_one (n : Nat) : pw 1 n = 1 := by
  induction n with
  | zero => rfl
  | succ n ih => rw [pw_succ, ih]; grind
theorem pw_mul_base (x y : F) (n : Nat) : pw (x * y) n = pw x n * pw y n := by
  induction n with
  | zero => rw [pw_zero, pw_zero, pw_zero]; grind
  | succ n ih => rw [pw_succ, pw_succ, pw_succ, ih]; grind
theorem pw_comm (x : F) (m n : Nat) : pw (pw x m) n = pw (pw x n) m := by rw [← pw_mul, ← pw_mul, Nat.mul_comm]

/-- A number of the order 2^k: its 2^k-th power is 1, and (of k above 0) its 2^(k-1)-th is -1. -/
structure Ord (w : F) (k : Nat) : Prop where
  one : pw w (2 ^ k) = 1
  half : ∀ j, k = j + 1 → pw w (2 ^ j) = -1

theorem Ord.ne_zero {w : F} {k : Nat} (h : Ord w k) : w ≠ 0 := by
  intro e
  have h1 := h.one
  rw [e] at h1
  obtain ⟨j, hj⟩ : ∃ j, 2 ^ k = j + 1 := ⟨2 ^ k - 1, by have := Nat.pow_pos (n := k) (show 0 < 2 by decide); omega⟩
  rw [hj, pw_succ] at h1
  have : (0 : F) = 1 := by grind
  exact absurd this (by decide)
theorem Ord.sq {w : F} {k : Nat} (h : Ord w (k + 1)) : Ord (w * w) k := by
  have e : ∀ m, pw (w * w) m = pw w (2 * m) := fun m => by
    rw [pw_mul]
    congr 1
    rw [show (2 : Nat) = 1 + 1 from rfl, pw_succ, pw_succ, pw_zero]; grind
  refine ⟨?_, fun j hj => ?_⟩
  · rw [e, show 2 * 2 ^ k = 2 ^ (k + 1) by rw [Nat.pow_succ]; omega]; exact h.one
  · rw [e, show 2 * 2 ^ j = 2 ^ (j + 1) by rw [Nat.pow_succ]; omega]; exact h.half (j + 1) (by omega)

theorem one_ne_neg : (1 : F) ≠ -1 := by decide
theorem neg_pow_odd (m : Nat) : pw (-1) (2 * m + 1) = -1 := by
  induction m with
  | zero => rw [Nat.mul_zero, pw_succ, pw_zero]; grind
  | succ m ih => rw [show 2 * (m + 1) + 1 = 2 * m + 1 + 1 + 1 by omega, pw_succ, pw_succ, ih]; grind
theorem Ord.dvd {w : F} {k d : Nat} (h : Ord w k) (hd : pw w d = 1) : 2 ^ k ∣ d := by
  have step : ∀ s, s ≤ k → 2 ^ s ∣ d := by
    intro s
    induction s with
    | zero => intro _; exact ⟨d, by omega⟩
    | succ s ih =>
      intro hs
      obtain ⟨m, hm⟩ := ih (by omega)
      rcases Nat.mod_two_eq_zero_or_one m with he | ho
      · exact ⟨m / 2, by rw [hm, Nat.pow_succ, Nat.mul_assoc]; congr 1; omega⟩
      · exfalso
        obtain ⟨t, ht⟩ : ∃ t, k = s + t + 1 := ⟨k - s - 1, by omega⟩
        have h1 : pw (pw w d) (2 ^ t) = 1 := by rw [hd, pw_one]
        have e : d * 2 ^ t = 2 ^ (s + t) * m := by rw [hm, Nat.pow_add]; grind
        rw [← pw_mul, e, pw_mul, h.half (s + t) (by omega)] at h1
        have e2 : m = 2 * (m / 2) + 1 := by omega
        rw [e2, neg_pow_odd] at h1
        exact one_ne_neg h1.symm
  exact step k (Nat.le_refl _)
theorem Ord.pow_ne {w : F} {k d : Nat} (h : Ord w k) (h0 : 0 < d) (h1 : d < 2 ^ k) : pw w d ≠ 1 := by
  intro e
  have := Nat.le_of_dvd h0 (h.dvd e)
  omega
theorem Ord.pow_mod {w : F} {k : Nat} (h : Ord w k) (m : Nat) : pw w (m % 2 ^ k) = pw w m := by
  have e := Nat.div_add_mod m (2 ^ k)
  conv => rhs; rw [← e, pw_add, pw_mul, h.one, pw_one]
  grind
theorem Ord.inj {w : F} {k i j : Nat} (h : Ord w k) (hi : i < 2 ^ k) (hj : j < 2 ^ k) (e : pw w i = pw w j) : i = j := by
  have key : ∀ i j, i < j → j < 2 ^ k → pw w i ≠ pw w j := by
    intro i j hij hj e
    have h1 : pw w (j - i) = 1 := by
      have e2 : pw w j = pw w (j - i) * pw w i := by rw [← pw_add]; congr 1; omega
      have hne : pw w i ≠ 0 := by
        intro hz
        have h2 : pw w (i + (2 ^ k - i)) = 0 := by rw [pw_add, hz]; grind
        rw [show i + (2 ^ k - i) = 2 ^ k by omega, h.one] at h2
        exact absurd h2 (by decide)
      apply mul_cancel hne
      rw [e2] at e
      grind
    exact h.pow_ne (by omega) (by omega) h1
  rcases Nat.lt_trichotomy i j with h1 | h1 | h1
  · exact absurd e (key i j h1 hj)
  · exact h1
  · exact absurd e.symm (key j i h1 hi)

/-- Sums of powers. -/
theorem geo (v : F) (n : Nat) : (v - 1) * S n (fun j => pw v j) = pw v n - 1 := by
  induction n with
  | zero => rw [S_zero, pw_zero]; grind
  | succ n ih => rw [S_succ, pw_succ]; grind
theorem geo_zero {v : F} {n : Nat} (h1 : pw v n = 1) (hne : v ≠ 1) : S n (fun j => pw v j) = 0 := by
  have h := geo v n
  rw [h1] at h
  have h2 : (v - 1) * S n (fun j => pw v j) = 0 := by grind
  rcases mul_ne h2 with h3 | h3
  · exact absurd (show v = 1 by grind) hne
  · exact h3
theorem S_const (n : Nat) (c : F) : S n (fun _ => c) = toF n * c := by
  induction n with
  | zero => rw [S_zero, toF_zero]; grind
  | succ n ih => rw [S_succ, ih, toF_add, toF_one]; grind
theorem S_delta (n i : Nat) (hi : i < n) (f : Nat → F) (h : ∀ j, j < n → j ≠ i → f j = 0) : S n f = f i := by
  obtain ⟨m, rfl⟩ : ∃ m, n = i + (1 + m) := ⟨n - i - 1, by omega⟩
  rw [S_split, S_zeros (n := i) (fun j hj => h j (by omega) (by omega)), S_split, S_zeros (n := m) (fun j hj => h (i + (1 + j)) (by omega) (by omega)), S_succ, S_zero, Nat.add_zero]
  grind

/-- The transform of a list of n numbers, by w. -/
def dft (w : F) (n : Nat) (f : Nat → F) (j : Nat) : F := S n (fun i => f i * pw w (i * j))
theorem dft_congr {w : F} {n : Nat} {f g : Nat → F} (h : ∀ i, i < n → f i = g i) (j : Nat) : dft w n f j = dft w n g j :=
  S_congr fun i hi => by rw [h i hi]
theorem dft_lin (w : F) (n : Nat) (c : F) (f g : Nat → F) (j : Nat) : dft w n (fun i => c * f i + g i) j = c * dft w n f j + dft w n g j := by
  unfold dft
  rw [← S_mul, ← S_add]
  exact S_congr fun i _ => by grind
theorem dft_ev (w : F) (l : List F) (j : Nat) : evF l (pw w j) = dft w l.length (gf l) j := by
  rw [evF_S]
  exact S_congr fun i _ => by rw [← pw_mul, Nat.mul_comm]

/-- Back: by the inverse root, and by how many there are. -/
theorem dft_back {w v : F} {k : Nat} (h : Ord w k) (hv : w * v = 1) (f : Nat → F) (i : Nat) (hi : i < 2 ^ k) : dft v (2 ^ k) (dft w (2 ^ k) f) i = toF (2 ^ k) * f i := by
  unfold dft
  have e1 : S (2 ^ k) (fun j => S (2 ^ k) (fun l => f l * pw w (l * j)) * pw v (j * i)) = S (2 ^ k) (fun l => f l * S (2 ^ k) (fun j => pw (pw w l * pw v i) j)) := by
    have e2 : S (2 ^ k) (fun j => S (2 ^ k) (fun l => f l * pw w (l * j)) * pw v (j * i)) = S (2 ^ k) (fun j => S (2 ^ k) (fun l => f l * pw (pw w l * pw v i) j)) := by
      refine S_congr fun j _ => ?_
      rw [show S (2 ^ k) (fun l => f l * pw w (l * j)) * pw v (j * i) = pw v (j * i) * S (2 ^ k) (fun l => f l * pw w (l * j)) by grind, ← S_mul]
      refine S_congr fun l _ => ?_
      rw [pw_mul_base, ← pw_mul, ← pw_mul, Nat.mul_comm i j]; grind
    rw [e2, S_comm]
    exact S_congr fun l _ => by rw [← S_mul]
  rw [e1, S_delta (2 ^ k) i hi]
  · have e3 : pw w i * pw v i = 1 := by rw [← pw_mul_base, hv, pw_one]
    rw [e3]
    have e4 : S (2 ^ k) (fun j => pw 1 j) = toF (2 ^ k) * 1 := by rw [← S_const]; exact S_congr fun j _ => pw_one j
    rw [e4]; grind
  · intro l hl hne
    have hvn : pw v (2 ^ k) = 1 := by
      have : pw (w * v) (2 ^ k) = 1 := by rw [hv, pw_one]
      rw [pw_mul_base, h.one] at this
      grind
    rw [geo_zero]
    · grind
    · rw [pw_mul_base, ← pw_mul, ← pw_mul, Nat.mul_comm l, Nat.mul_comm i, pw_mul, pw_mul, h.one, hvn, pw_one, pw_one]; grind
    · intro e
      apply hne
      apply h.inj hl hi
      have e3 : pw w i * pw v i = 1 := by rw [← pw_mul_base, hv, pw_one]
      have hz : pw v i ≠ 0 := by
        intro hz
        rw [hz] at e3
        exact absurd (show (0 : F) = 1 by grind) (by decide)
      apply mul_cancel hz
      grind
theorem Ord.inv {w v : F} {k : Nat} (h : Ord w k) (hv : w * v = 1) : Ord v k := by
  have hp : ∀ n, pw w n * pw v n = 1 := fun n => by rw [← pw_mul_base, hv, pw_one]
  refine ⟨?_, fun j hj => ?_⟩
  · have := hp (2 ^ k); rw [h.one] at this; grind
  · have := hp (2 ^ j); rw [h.half j hj] at this; grind
theorem two_pow_ne (k : Nat) (hk : k ≤ 32) : toF (2 ^ k) ≠ 0 := by
  intro h
  have h1 : 2 ^ k % P = 0 % P := mod_of_toF (h.trans toF_zero.symm)
  have h2 : 2 ^ k ≤ 2 ^ 32 := Nat.pow_le_pow_right (by decide) hk
  have h3 : 2 ^ k < P := Nat.lt_of_le_of_lt h2 (by decide)
  rw [Nat.mod_eq_of_lt h3] at h1
  have := Nat.pow_pos (n := k) (show 0 < 2 by decide)
  simp at h1

/-- Halves: of even and of odd numbers. -/
theorem S_even_odd (m : Nat) (f : Nat → F) : S (2 * m) f = S m (fun i => f (2 * i)) + S m (fun i => f (2 * i + 1)) := by
  induction m with
  | zero => rw [Nat.mul_zero, S_zero, S_zero, S_zero]; grind
  | succ m ih => rw [show 2 * (m + 1) = 2 * m + 1 + 1 by omega, S_succ, S_succ, ih, S_succ, S_succ]; grind
theorem dft_halves (w : F) (m : Nat) (f : Nat → F) (j : Nat) : dft w (2 * m) f j = dft (w * w) m (fun i => f (2 * i)) j + pw w j * dft (w * w) m (fun i => f (2 * i + 1)) j := by
  have e : ∀ n, pw (w * w) n = pw w (2 * n) := fun n => by rw [pw_mul_base, ← pw_add]; congr 1; omega
  unfold dft
  rw [S_even_odd, ← S_mul]
  congr 1
  · exact S_congr fun i _ => by rw [e]; congr 2; grind
  · refine S_congr fun i _ => ?_
    rw [e, show (2 * i + 1) * j = j + 2 * (i * j) by grind, pw_add]; grind
theorem dft_upper {w : F} {k : Nat} (h : Ord w (k + 1)) (f : Nat → F) (j : Nat) : dft w (2 * 2 ^ k) f (j + 2 ^ k) = dft (w * w) (2 ^ k) (fun i => f (2 * i)) j - pw w j * dft (w * w) (2 ^ k) (fun i => f (2 * i + 1)) j := by
  have hs := h.sq
  have hp : ∀ (g : Nat → F), dft (w * w) (2 ^ k) g (j + 2 ^ k) = dft (w * w) (2 ^ k) g j := fun g => by
    refine S_congr fun i _ => ?_
    rw [Nat.mul_add, pw_add, Nat.mul_comm i (2 ^ k), pw_mul (w * w) (2 ^ k) i, hs.one, pw_one]; grind
  rw [dft_halves, hp, hp, pw_add, h.half k rfl]; grind

/-- The roots of the program are of their orders. -/
theorem pw_rt_one (k : Nat) (hk : k ≤ 32) : pw (toF (rt k)) (2 ^ k) = 1 := by
  induction k with
  | zero => rw [rt_zero, Nat.pow_zero, pw_succ, pw_zero, toF_one]; grind
  | succ k ih =>
    rw [show 2 ^ (k + 1) = 2 * 2 ^ k by rw [Nat.pow_succ]; omega, pw_mul]
    have e : pw (toF (rt (k + 1))) 2 = toF (rt k) := by
      rw [← rt_sq k (by omega), toF_fM, show (2 : Nat) = 1 + 1 from rfl, pw_succ, pw_succ, pw_zero]; grind
    rw [e]
    exact ih (by omega)
theorem toF_neg_one : toF 18446744069414584320 = -1 := by decide
theorem ord_rt (k : Nat) (hk : k ≤ 32) : Ord (toF (rt k)) k := by
  refine ⟨pw_rt_one k hk, fun j hj => ?_⟩
  subst hj
  rw [← toF_fW, rt_half j (by omega), toF_neg_one]

/-- Gone on by one place, round the end. -/
theorem S_shift (n : Nat) (f : Nat → F) : S (n + 1) (fun i => f ((i + 1) % (n + 1))) = S (n + 1) f := by
  rw [S_succ, S_first n f, Nat.mod_self]
  have : S n (fun i => f ((i + 1) % (n + 1))) = S n (fun i => f (i + 1)) := S_congr fun i hi => by rw [Nat.mod_eq_of_lt (by omega)]
  rw [this]; grind
theorem dft_shift {w : F} {k : Nat} (h : Ord w k) (f g : Nat → F) (hg : ∀ i, i < 2 ^ k → g ((i + 1) % 2 ^ k) = f i) (j : Nat) : dft w (2 ^ k) g j = dft w (2 ^ k) f j * pw w j := by
  obtain ⟨n, hn⟩ : ∃ n, 2 ^ k = n + 1 := ⟨2 ^ k - 1, by have := Nat.pow_pos (n := k) (show 0 < 2 by decide); omega⟩
  unfold dft
  rw [show S (2 ^ k) (fun i => f i * pw w (i * j)) * pw w j = pw w j * S (2 ^ k) (fun i => f i * pw w (i * j)) by grind, ← S_mul]
  have e := S_shift n (fun i => g i * pw w (i * j))
  rw [← hn] at e
  rw [← e]
  refine S_congr fun i hi => ?_
  rw [hg i hi, pw_mul w ((i + 1) % 2 ^ k) j, h.pow_mod, ← pw_mul, Nat.add_mul, pw_add, Nat.one_mul]; grind

/-- Turned round: by the inverse root. -/
theorem S_turn (n : Nat) (f : Nat → F) : S (n + 1) (fun i => f ((n + 1 - i) % (n + 1))) = S (n + 1) f := by
  rw [S_first n f, S_first n (fun i => f ((n + 1 - i) % (n + 1))), Nat.sub_zero, Nat.mod_self, S_rev n (fun i => f (i + 1))]
  have : S n (fun i => f ((n + 1 - (i + 1)) % (n + 1))) = S n (fun i => f (n - 1 - i + 1)) := S_congr fun i hi => by
    congr 1
    rw [Nat.mod_eq_of_lt (by omega)]; omega
  rw [this]
theorem dft_turn {w v : F} {k : Nat} (h : Ord w k) (hv : w * v = 1) (f g : Nat → F) (hg : ∀ i, i < 2 ^ k → g ((2 ^ k - i) % 2 ^ k) = f i) (j : Nat) : dft w (2 ^ k) g j = dft v (2 ^ k) f j := by
  obtain ⟨n, hn⟩ : ∃ n, 2 ^ k = n + 1 := ⟨2 ^ k - 1, by have := Nat.pow_pos (n := k) (show 0 < 2 by decide); omega⟩
  unfold dft
  have e := S_turn n (fun i => g i * pw w (i * j))
  rw [← hn] at e
  rw [← e]
  refine S_congr fun i hi => ?_
  rw [hg i hi, pw_mul w ((2 ^ k - i) % 2 ^ k) j, h.pow_mod, pw_mul v i j]
  congr 2
  have h1 : pw w (2 ^ k - i) * pw w i = 1 := by rw [← pw_add, show 2 ^ k - i + i = 2 ^ k by omega, h.one]
  have h2 : pw w i * pw v i = 1 := by rw [← pw_mul_base, hv, pw_one]
  grind
/-- PARSEVAL: the sum of products with the other one turned round is that of the transforms, by how many there are. -/
theorem parseval {w v : F} {k : Nat} (h : Ord w k) (hv : w * v = 1) (f g r : Nat → F) (hr : ∀ i, i < 2 ^ k → r ((2 ^ k - i) % 2 ^ k) = g i) : S (2 ^ k) (fun j => dft w (2 ^ k) f j * dft w (2 ^ k) r j) = S (2 ^ k) (fun i => f i * g i) * toF (2 ^ k) := by
  have e1 : S (2 ^ k) (fun j => dft w (2 ^ k) f j * dft w (2 ^ k) r j) = S (2 ^ k) (fun j => S (2 ^ k) (fun i => g i * (dft w (2 ^ k) f j * pw v (i * j)))) := by
    refine S_congr fun j _ => ?_
    rw [dft_turn h hv g r hr j]
    show dft w (2 ^ k) f j * S (2 ^ k) (fun i => g i * pw v (i * j)) = _
    rw [← S_mul]
    exact S_congr fun i _ => by grind
  rw [e1, S_comm, show S (2 ^ k) (fun i => f i * g i) * toF (2 ^ k) = toF (2 ^ k) * S (2 ^ k) (fun i => f i * g i) by grind, ← S_mul]
  refine S_congr fun i hi => ?_
  rw [S_mul]
  have e2 := dft_back h hv f i hi
  have e3 : S (2 ^ k) (fun j => dft w (2 ^ k) f j * pw v (i * j)) = dft v (2 ^ k) (dft w (2 ^ k) f) i := S_congr fun j _ => by rw [Nat.mul_comm]
  rw [e3, e2]; grind

/-- The transform of a product round the end is the product of the transforms. -/
theorem S_fold {w : F} {k : Nat} (h : Ord w k) (l : Nat → F) (j : Nat) : S (2 ^ k + 2 ^ k) (fun i => l i * pw (pw w j) i) = S (2 ^ k) (fun i => (l i + l (i + 2 ^ k)) * pw w (i * j)) := by
  rw [S_split, ← S_add]
  refine S_congr fun i _ => ?_
  have e : pw (pw w j) (2 ^ k) = 1 := by rw [pw_comm, h.one, pw_one]
  rw [pw_add, e, ← pw_mul, Nat.mul_comm j i, Nat.add_comm (2 ^ k) i]; grind
theorem dft_conv {w : F} {k : Nat} (h : Ord w k) (a b : List F) (ha : a.length = 2 ^ k) (hb : b.length = 2 ^ k) (j : Nat) : dft w (2 ^ k) (fun i => conv (gf a) (gf b) i + conv (gf a) (gf b) (i + 2 ^ k)) j = dft w (2 ^ k) (gf a) j * dft w (2 ^ k) (gf b) j := by
  have e1 := evF_mulF a b (pw w j)
  rw [dft_ev w a, dft_ev w b, ha, hb] at e1
  rw [← e1]
  have hz : ∀ i, 2 ^ k + 2 ^ k ≤ i + 1 → conv (gf a) (gf b) i = 0 := fun i hi => conv_above (m := 2 ^ k) (n := 2 ^ k) (fun t ht => gf_ge (by omega)) (fun t ht => gf_ge (by omega)) i hi
  have e2 : dft w (2 ^ k) (fun i => conv (gf a) (gf b) i + conv (gf a) (gf b) (i + 2 ^ k)) j = S (2 ^ k + 2 ^ k) (fun i => conv (gf a) (gf b) i * pw (pw w j) i) := (S_fold h (conv (gf a) (gf b)) j).symm
  rw [e2, evF_S]
  rcases Nat.le_total (2 ^ k + 2 ^ k) (mulF a b).length with hle | hle
  · rw [S_more hle]
    · exact S_congr fun i _ => by rw [gf_mulF]
    · intro i h1 h2
      rw [gf_mulF, hz i (by omega)]; grind
  · rw [S_more hle]
    · exact S_congr fun i _ => by rw [gf_mulF]
    · intro i h1 h2
      rw [← gf_mulF, gf_ge h1]; grind

end Go.Proofs.YtgfnjbkhncjhhabDoor
