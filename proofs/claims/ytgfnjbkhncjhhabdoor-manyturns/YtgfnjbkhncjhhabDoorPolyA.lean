/-
  Polynomials over the field of the prime, as lists: values, sums, products number by number, how many numbers count, and that a polynomial with as many roots as numbers is 0; no program in sight.
-/
import Derived.Test.YtgfnjbkhncjhhabDoorAlg
import Derived.Test.YtgfnjbkhncjhhabDoorPolyN
namespace Go.Proofs.YtgfnjbkhncjhhabDoor

/-- Number i of a polynomial; 0 behind it. -/
def gf (l : List F) (i : Nat) : F := l.getD i 0
theorem gf_nil (i : Nat) : gf [] i = 0 := by simp [gf]
theorem gf_zero (c : F) (l : List F) : gf (c :: l) 0 = c := by simp [gf]
theorem gf_succ (c : F) (l : List F) (i : Nat) : gf (c :: l) (i + 1) = gf l i := by simp [gf]
theorem gf_ge {l : List F} {i : Nat} (h : l.length ≤ i) : gf l i = 0 := by simp [gf, List.getD, List.getElem?_eq_none h]

/-- The value at a place. -/
def evF : List F → F → F
  | [], _ => 0
  | c :: l, x => c + x * evF l x
theorem evF_S (l : List F) (x : F) : evF l x = S l.length (fun i => gf l i * pw x i) := by
  induction l with
  | nil => rfl
  | cons c l ih =>
    show c + x * evF l x = _
    rw [List.length_cons, S_first, gf_zero, pw_zero, ih, ← S_mul]
    have : S l.length (fun i => gf (c :: l) (i + 1) * pw x (i + 1)) = S l.length (fun i => x * (gf l i * pw x i)) :=
      S_congr fun i _ => by rw [gf_succ, pw_succ]; grind
    rw [this]; grind
theorem evF_S_le (l : List F) (x : F) (n : Nat) (h : l.length ≤ n) : evF l x = S n (fun i => gf l i * pw x i) := by
  rw [evF_S, S_more h]
  intro i hi _
  rw [gf_ge hi]; grind
theorem evF_ext {a b : List F} (h : ∀ i, gf a i = gf b i) (x : F) : evF a x = evF b x := by
  rw [evF_S_le a x (a.length + b.length) (by omega), evF_S_le b x (a.length + b.length) (by omega)]
  exact S_congr fun i _ => by rw [h i]

/-- Sums, multiples, products. -/
def addF : List F → List F → List F
  | [], b => b
  | a, [] => a
  | c :: a, d :: b => (c + d) :: addF a b
theorem gf_addF (a b : List F) (i : Nat) : gf (addF a b) i = gf a i + gf b i := by
  induction a generalizing b i with
  | nil => rw [addF, gf_nil]; grind
  | cons c a ih =>
    cases b with
    | nil => rw [addF, gf_nil]; grind; simp
    | cons d b =>
      rw [addF]
      cases i with
      | zero => rw [gf_zero, gf_zero, gf_zero]
      | succ i => rw [gf_succ, gf_succ, gf_succ, ih]
theorem evF_addF (a b : List F) (x : F) : evF (addF a b) x = evF a x + evF b x := by
  induction a generalizing b with
  | nil => rw [addF, evF]; grind
  | cons c a ih =>
    cases b with
    | nil => rw [addF, evF, evF]; grind; simp
    | cons d b => rw [addF, evF, evF, evF, ih]; grind
def smulF (c : F) (l : List F) : List F := l.map (c * ·)
theorem gf_smulF (c : F) (l : List F) (i : Nat) : gf (smulF c l) i = c * gf l i := by
  induction l generalizing i with
  | nil => rw [smulF, List.map_nil, gf_nil]; grind
  | cons d l ih =>
    rw [smulF, List.map_cons]
    cases i with
    | zero => rw [gf_zero, gf_zero]
    | succ i => rw [gf_succ, gf_succ]; exact ih i
theorem evF_smulF (c : F) (l : List F) (x : F) : evF (smulF c l) x = c * evF l x := by
  induction l with
  | nil => rw [smulF, List.map_nil, evF]; grind
  | cons d l ih =>
    rw [smulF, List.map_cons, evF, evF]
    have : evF (List.map (c * ·) l) x = c * evF l x := ih
    rw [this]; grind
def mulF : List F → List F → List F
  | [], _ => []
  | c :: a, b => addF (smulF c b) (0 :: mulF a b)
theorem evF_mulF (a b : List F) (x : F) : evF (mulF a b) x = evF a x * evF b x := by
  induction a with
  | nil => rw [mulF, evF]; grind
  | cons c a ih => rw [mulF, evF_addF, evF_smulF, evF, ih, evF]; grind

/-- Number k of a product. -/
def conv (f g : Nat → F) (k : Nat) : F := S (k + 1) (fun i => f i * g (k - i))
theorem conv_congr {f f' g g' : Nat → F} (hf : ∀ i, f i = f' i) (hg : ∀ i, g i = g' i) (k : Nat) : conv f g k = conv f' g' k :=
  S_congr fun i _ => by rw [hf, hg]
theorem gf_mulF (a b : List F) (k : Nat) : gf (mulF a b) k = conv (gf a) (gf b) k := by
  induction a generalizing k with
  | nil =>
    rw [mulF, gf_nil]
    exact (S_zeros fun i _ => by rw [gf_nil]; grind).symm
  | cons c a ih =>
    rw [mulF, gf_addF, gf_smulF]
    unfold conv
    rw [S_first, gf_zero, Nat.sub_zero]
    cases k with
    | zero => rw [gf_zero, S_zero]
    | succ k =>
      rw [gf_succ, ih]
      have : S (k + 1) (fun i => gf (c :: a) (i + 1) * gf b (k + 1 - (i + 1))) = conv (gf a) (gf b) k :=
        S_congr fun i _ => by rw [gf_succ, Nat.add_sub_add_right]
      rw [this]
theorem conv_comm (f g : Nat → F) (k : Nat) : conv f g k = conv g f k := by
  unfold conv
  rw [S_rev]
  refine S_congr fun i hi => ?_
  have e1 : k + 1 - 1 - i = k - i := by omega
  have e2 : k - (k - i) = i := by omega
  rw [e1, e2]; grind
theorem conv_add (f g h : Nat → F) (k : Nat) : conv f (fun i => g i + h i) k = conv f g k + conv f h k := by
  unfold conv
  rw [← S_add]
  exact S_congr fun i _ => by grind
/-- Behind both ends a product is 0; at their sum it is the product of the last numbers. -/
theorem conv_above {f g : Nat → F} {m n : Nat} (hf : ∀ i, m ≤ i → f i = 0) (hg : ∀ i, n ≤ i → g i = 0) (k : Nat) (hk : m + n ≤ k + 1) : conv f g k = 0 := by
  refine S_zeros fun i hi => ?_
  by_cases h : m ≤ i
  · rw [hf i h]; grind
  · rw [hg (k - i) (by omega)]; grind
theorem conv_top {f g : Nat → F} {m n : Nat} (hf : ∀ i, m + 1 ≤ i → f i = 0) (hg : ∀ i, n + 1 ≤ i → g i = 0) : conv f g (m + n) = f m * g n := by
  unfold conv
  have e : m + n + 1 = m + (1 + n) := by omega
  rw [e, S_split, S_zeros (n := m) (fun i hi => by rw [hg (m + n - i) (by omega)]; grind), S_split, S_succ, S_zero, S_zeros (n := n) (fun i hi => by rw [hf (m + (1 + i)) (by omega)]; grind)]
  have e2 : m + n - (m + 0) = n := by omega
  rw [e2, Nat.add_zero]; grind

/-- Divided by (the power 1 less r). -/
def qr (r : F) : List F → List F
  | [] => []
  | _ :: l => if l = [] then [] else evF l r :: qr r l
theorem qr_length (r : F) (l : List F) : (qr r l).length = l.length - 1 := by
  induction l with
  | nil => rfl
  | cons c l ih =>
    rw [qr]
    by_cases h : l = []
    · subst h; rfl
    · rw [if_neg h, List.length_cons, ih, List.length_cons]
      have : l.length ≠ 0 := fun h0 => h (List.eq_nil_of_length_eq_zero h0)
      omega
theorem qr_ev (r x : F) (l : List F) : evF l x = evF l r + (x - r) * evF (qr r l) x := by
  induction l with
  | nil => rw [qr, evF, evF]; grind
  | cons c l ih =>
    rw [qr]
    by_cases h : l = []
    · subst h
      rw [if_pos rfl, evF, evF, evF, evF, evF]; grind
    · rw [if_neg h, evF, evF, evF]
      have : evF l x = evF l r + (x - r) * evF (qr r l) x := ih
      grind
theorem qr_zero (r : F) (l : List F) (h0 : evF l r = 0) (h : ∀ i, gf (qr r l) i = 0) : ∀ i, gf l i = 0 := by
  induction l with
  | nil => intro i; exact gf_nil i
  | cons c l ih =>
    rw [evF] at h0
    rw [qr] at h
    by_cases hl : l = []
    · subst hl
      rw [evF] at h0
      intro i
      cases i with
      | zero => rw [gf_zero]; grind
      | succ i => rw [gf_succ, gf_nil]
    · rw [if_neg hl] at h
      have h1 := h 0
      rw [gf_zero] at h1
      have h2 := ih h1 (fun i => by have := h (i + 1); rwa [gf_succ] at this)
      intro i
      cases i with
      | zero => rw [gf_zero]; rw [h1] at h0; grind
      | succ i => rw [gf_succ]; exact h2 i

/-- A polynomial of n numbers with n roots that differ is 0. -/
theorem roots_zero : ∀ (n : Nat) (l : List F) (xs : Nat → F), l.length ≤ n → (∀ i j, i < j → j < n → xs i ≠ xs j) → (∀ i, i < n → evF l (xs i) = 0) → ∀ i, gf l i = 0 := by
  intro n
  induction n with
  | zero =>
    intro l xs hl _ _ i
    have : l = [] := List.eq_nil_of_length_eq_zero (by omega)
    subst this
    exact gf_nil i
  | succ n ih =>
    intro l xs hl hd hv
    have hr := hv n (by omega)
    refine qr_zero (xs n) l hr (ih (qr (xs n) l) xs (by rw [qr_length]; omega) (fun i j hij hj => hd i j hij (by omega)) fun i hi => ?_)
    have h1 := hv i (by omega)
    rw [qr_ev (xs n) (xs i) l, hr] at h1
    have h2 : (xs i - xs n) * evF (qr (xs n) l) (xs i) = 0 := by grind
    rcases mul_ne h2 with h3 | h3
    · exact absurd (show xs i = xs n by grind) (hd i n hi (by omega))
    · exact h3

end Go.Proofs.YtgfnjbkhncjhhabDoor
