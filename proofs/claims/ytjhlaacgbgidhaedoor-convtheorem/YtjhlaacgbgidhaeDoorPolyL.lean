/-
  LAGRANGE: products of differences, and that through points that differ goes one polynomial of at most as many numbers, in normal form; no program in sight.
-/
import Derived.Test.YtjhlaacgbgidhaeDoorPolyB
namespace Go.Proofs.YtjhlaacgbgidhaeDoor

/-- The product of x less each of the first k places, but for place i. -/
def prd (X : Nat → F) (i : Nat) : Nat → F → F
  | 0, _ => 1
  | k + 1, x => if k = i then prd X i k x else prd X i k x * (x - X k)
theorem prd_zero (X : Nat → F) (i : Nat) (x : F) : prd X i 0 x = 1 := rfl
theorem prd_skip (X : Nat → F) (i : Nat) (x : F) : prd X i (i + 1) x = prd X i i x := by
  show (if i = i then _ else _) = _
  rw [if_pos rfl]
theorem prd_succ (X : Nat → F) {i k : Nat} (h : k ≠ i) (x : F) : prd X i (k + 1) x = prd X i k x * (x - X k) := by
  show (if k = i then _ else _) = _
  rw [if_neg h]
theorem prd_at (X : Nat → F) (i k j : Nat) (hj : j < k) (hne : j ≠ i) : prd X i k (X j) = 0 := by
  induction k with
  | zero => omega
  | succ k ih =>
    by_cases h : k = i
    · subst h
      rw [prd_skip]; exact ih (by omega)
    · rw [prd_succ X h]
      by_cases e : j = k
      · subst e; grind
      · rw [ih (by omega)]; grind
theorem prd_ne (X : Nat → F) (i k : Nat) (h : ∀ j, j < k → j ≠ i → X i ≠ X j) : prd X i k (X i) ≠ 0 := by
  induction k with
  | zero => rw [prd_zero]; decide
  | succ k ih =>
    have h1 := ih (fun j hj hne => h j (by omega) hne)
    by_cases e : k = i
    · subst e; rw [prd_skip]; exact h1
    · rw [prd_succ X e]
      intro h2
      rcases mul_ne h2 with h3 | h3
      · exact h1 h3
      · exact h k (by omega) e (by grind)

/-- The list is normal, of at most n numbers, and its values at the places are those. -/
def Goes (l : List Nat) (n : Nat) (X Y : Nat → F) : Prop := pN l = l ∧ l.length ≤ n ∧ ∀ j, j < n → evF (l.map toF) (X j) = Y j

/-- Only one does. -/
theorem Goes_unique {l l' : List Nat} {n : Nat} {X Y : Nat → F} (hd : ∀ i j, i < j → j < n → X i ≠ X j) (h : Goes l n X Y) (h' : Goes l' n X Y) : l = l' := by
  rw [← h.1, ← h'.1]
  apply pN_ext
  intro i
  have hz := roots_zero n (addF (l.map toF) (smulF (-1) (l'.map toF))) X ?_ hd ?_ i
  · rw [gf_addF, gf_smulF, ← cf_gf, ← cf_gf] at hz
    grind
  · have hl : ∀ (a b : List F), (addF a b).length ≤ max a.length b.length := by
      intro a
      induction a with
      | nil => intro b; rw [addF]; simp
      | cons c a ih =>
        intro b
        cases b with
        | nil => rw [addF]; simp; simp
        | cons d b => rw [addF, List.length_cons, List.length_cons, List.length_cons]; have := ih b; omega
    have := hl (l.map toF) (smulF (-1) (l'.map toF))
    have h1 := h.2.1
    have h2 := h'.2.1
    simp only [smulF, List.length_map] at this ⊢
    omega
  · intro j hj
    rw [evF_addF, evF_smulF, h.2.2 j hj, h'.2.2 j hj]; grind

/-- One factor more: by (the power 1 less a number). -/
theorem ev_lin (x : Nat) (y : F) : evF ([fS 0 x, 1].map toF) y = y - toF x := by
  show toF (fS 0 x) + y * (toF 1 + y * 0) = _
  rw [toF_fS, toF_zero, toF_one]; grind
theorem pM_length_le (a b : List Nat) : (pM a b).length ≤ a.length + b.length - 1 := by
  unfold pM
  by_cases h : a.length = 0 ∨ b.length = 0
  · rw [if_pos h]; simp
  · rw [if_neg h, mk_length]; omega
theorem ev_one (c : Nat) (y : F) : evF ([c].map toF) y = toF c := by
  show toF c + y * 0 = _
  grind

/-- What a division leaves: q and r normal, r of fewer numbers than b's normal form, a the sum of q times b, and r. -/
def Divs (a b q r : List Nat) : Prop := pN q = q ∧ pN r = r ∧ r.length < (pN b).length ∧ ∀ i, cf a i = conv (cf q) (cf b) i + cf r i
theorem Divs_sum {a b q r : List Nat} (h : Divs a b q r) : pN (pS (pM q (pN b)) r) = pN a :=
  pN_ext fun i => by rw [cf_pS, cf_pM, h.2.2.2 i, conv_congr (fun _ => rfl) (cf_pN b)]

end Go.Proofs.YtjhlaacgbgidhaeDoor
