/-
  Polynomials as the program has them, lists of numbers: the normal form is told by the numbers by the prime alone; sums, products, values; no program in sight.
-/
import Derived.Test.YtgfnjbkhncjhhaeDoorPolyA
namespace Go.Proofs.YtgfnjbkhncjhhaeDoor

/-- Number i of a list, by the prime; 0 behind it. -/
def cf (a : List Nat) (i : Nat) : F := toF (a.getD i 0)
theorem cf_ge {a : List Nat} {i : Nat} (h : a.length ≤ i) : cf a i = 0 := by
  unfold cf
  simp [List.getD, List.getElem?_eq_none h, toF_zero]
theorem cf_gf (a : List Nat) (i : Nat) : cf a i = gf (a.map toF) i := by
  rcases Nat.lt_or_ge i a.length with h | h
  · simp [cf, gf, List.getD, h]
  · rw [cf_ge h, gf_ge (by simpa using h)]
theorem cf_cons_zero (x : Nat) (a : List Nat) : cf (x :: a) 0 = toF x := by simp [cf]
theorem cf_cons_succ (x : Nat) (a : List Nat) (i : Nat) : cf (x :: a) (i + 1) = cf a i := by simp [cf]

theorem sig_zero (a : List Nat) : ∀ i, sig a ≤ i → cf a i = 0 := by
  induction a with
  | nil => intro i _; exact cf_ge (by simp)
  | cons x a ih =>
    intro i hi
    simp only [sig] at hi
    by_cases h : sig a = 0
    · rw [if_pos h] at hi
      cases i with
      | zero =>
        by_cases hx : fN x = 0
        · rw [cf_cons_zero]; exact (fN_zero x).mp hx
        · rw [if_neg hx] at hi; omega
      | succ i => rw [cf_cons_succ]; exact ih i (by omega)
    · rw [if_neg h] at hi
      cases i with
      | zero => omega
      | succ i => rw [cf_cons_succ]; exact ih i (by omega)
theorem sig_last (a : List Nat) : sig a ≠ 0 → cf a (sig a - 1) ≠ 0 := by
  induction a with
  | nil => intro h; exact absurd rfl h
  | cons x a ih =>
    intro hs
    simp only [sig] at hs ⊢
    by_cases h : sig a = 0
    · rw [if_pos h] at hs ⊢
      by_cases hx : fN x = 0
      · rw [if_pos hx] at hs; exact absurd rfl hs
      · rw [if_neg hx]
        show cf (x :: a) 0 ≠ 0
        rw [cf_cons_zero]
        exact fun h2 => hx ((fN_zero x).mpr h2)
    · rw [if_neg h] at hs ⊢
      obtain ⟨k, hk⟩ : ∃ k, sig a = k + 1 := ⟨sig a - 1, by omega⟩
      have := ih h
      rw [hk] at this ⊢
      rw [Nat.add_sub_cancel, cf_cons_succ]
      simpa using this
theorem sig_unique {a : List Nat} {n : Nat} (h0 : ∀ i, n ≤ i → cf a i = 0) (h1 : n ≠ 0 → cf a (n - 1) ≠ 0) : sig a = n := by
  rcases Nat.lt_trichotomy (sig a) n with h | h | h
  · exact absurd (sig_zero a (n - 1) (by omega)) (h1 (by omega))
  · exact h
  · exact absurd (h0 (sig a - 1) (by omega)) (sig_last a (by omega))

/-- The list of the first n numbers of a polynomial. -/
def mk (n : Nat) (f : Nat → F) : List Nat := (List.range n).map fun i => (f i).val
theorem mk_length (n : Nat) (f : Nat → F) : (mk n f).length = n := by simp [mk]
theorem mk_getD (n : Nat) (f : Nat → F) (i : Nat) (h : i < n) : (mk n f).getD i 0 = (f i).val := by simp [mk, List.getD, h]
theorem cf_mk (n : Nat) (f : Nat → F) (i : Nat) : cf (mk n f) i = if i < n then f i else 0 := by
  by_cases h : i < n
  · rw [if_pos h]; unfold cf; rw [mk_getD n f i h, toF_val]
  · rw [if_neg h]; exact cf_ge (by rw [mk_length]; omega)
theorem cf_mk_of {n : Nat} {f : Nat → F} (h : ∀ i, n ≤ i → f i = 0) (i : Nat) : cf (mk n f) i = f i := by
  rw [cf_mk]
  by_cases hi : i < n
  · rw [if_pos hi]
  · rw [if_neg hi, h i (by omega)]
theorem mk_congr {n : Nat} {f g : Nat → F} (h : ∀ i, i < n → f i = g i) : mk n f = mk n g := by
  unfold mk
  exact List.map_congr_left fun i hi => by rw [h i (List.mem_range.mp hi)]
theorem mk_lt (n : Nat) (f : Nat → F) : ∀ x ∈ mk n f, x < P := by
  intro x hx
  obtain ⟨i, _, rfl⟩ := List.mem_map.mp hx
  exact (f i).isLt
theorem mk_succ (n : Nat) (f : Nat → F) : mk (n + 1) f = mk n f ++ [(f n).val] := by
  unfold mk
  rw [List.range_succ, List.map_append]; rfl
theorem eq_mk {a : List Nat} (h : ∀ x ∈ a, x < P) : a = mk a.length (cf a) := by
  apply List.ext_getElem
  · rw [mk_length]
  · intro i h1 h2
    have h3 : a[i] < P := h _ (List.getElem_mem h1)
    simp only [mk, List.getElem_map, List.getElem_range, cf, List.getD, List.getElem?_eq_getElem h1, Option.getD_some, val_toF]
    exact (Nat.mod_eq_of_lt h3).symm

theorem pN_mk (a : List Nat) : pN a = mk (sig a) (cf a) := by
  unfold pN mk
  apply List.ext_getElem
  · simp [sig_le a]
  · intro i h1 h2
    have h3 : i < sig a := by simpa using h2
    have h4 : i < a.length := by have := sig_le a; omega
    simp only [List.getElem_map, List.getElem_take, List.getElem_range, cf, List.getD, List.getElem?_eq_getElem h4, Option.getD_some]
    exact fN_val _
theorem pN_length (a : List Nat) : (pN a).length = sig a := by rw [pN_mk, mk_length]
theorem cf_pN (a : List Nat) (i : Nat) : cf (pN a) i = cf a i := by
  rw [pN_mk, cf_mk_of (sig_zero a)]
theorem sig_ext {a b : List Nat} (h : ∀ i, cf a i = cf b i) : sig a = sig b :=
  sig_unique (fun i hi => by rw [h]; exact sig_zero b i hi) (fun h0 => by rw [h]; exact sig_last b h0)
theorem pN_ext {a b : List Nat} (h : ∀ i, cf a i = cf b i) : pN a = pN b := by
  rw [pN_mk, pN_mk, sig_ext h]
  exact mk_congr fun i _ => h i
theorem pN_pN (a : List Nat) : pN (pN a) = pN a := pN_ext (cf_pN a)
theorem sig_pN (a : List Nat) : sig (pN a) = sig a := sig_ext (cf_pN a)
theorem pN_lt (a : List Nat) : ∀ x ∈ pN a, x < P := by rw [pN_mk]; exact mk_lt _ _
/-- A list that is normal already. -/
theorem pN_self {a : List Nat} (h : ∀ x ∈ a, x < P) (h1 : a.length ≠ 0 → cf a (a.length - 1) ≠ 0) : pN a = a := by
  rw [pN_mk, sig_unique (n := a.length) (fun i hi => cf_ge hi) h1]
  exact (eq_mk h).symm

/-! ### Sums, products, values -/
def pS (a b : List Nat) : List Nat := mk (max a.length b.length) (fun i => cf a i + cf b i)
theorem cf_pS (a b : List Nat) (i : Nat) : cf (pS a b) i = cf a i + cf b i := by
  unfold pS
  rw [cf_mk_of]
  intro i hi
  rw [cf_ge (a := a) (by omega), cf_ge (a := b) (by omega)]; grind
def pM (a b : List Nat) : List Nat := if a.length = 0 ∨ b.length = 0 then [] else mk (a.length + b.length - 1) (conv (cf a) (cf b))
theorem cf_pM (a b : List Nat) (k : Nat) : cf (pM a b) k = conv (cf a) (cf b) k := by
  unfold pM
  by_cases h : a.length = 0 ∨ b.length = 0
  · rw [if_pos h, cf_ge (by simp)]
    symm
    rcases h with h | h
    · exact S_zeros fun i _ => by rw [cf_ge (a := a) (i := i) (by omega)]; grind
    · exact S_zeros fun i _ => by rw [cf_ge (a := b) (i := k - i) (by omega)]; grind
  · rw [if_neg h, cf_mk_of]
    intro i hi
    exact conv_above (m := a.length) (n := b.length) (fun j hj => cf_ge hj) (fun j hj => cf_ge hj) i (by omega)
def pE (a : List Nat) (x : Nat) : Nat := (evF (a.map toF) (toF x)).val
theorem pE_ext {a b : List Nat} (h : ∀ i, cf a i = cf b i) (x : Nat) : pE a x = pE b x := by
  unfold pE
  rw [evF_ext (a := a.map toF) (b := b.map toF) (fun i => by rw [← cf_gf, ← cf_gf, h i])]
theorem toF_pE (a : List Nat) (x : Nat) : toF (pE a x) = evF (a.map toF) (toF x) := toF_val _
theorem ev_pM (a b : List Nat) (x : F) : evF ((pM a b).map toF) x = evF (a.map toF) x * evF (b.map toF) x := by
  rw [← evF_mulF]
  refine evF_ext (fun i => ?_) x
  rw [← cf_gf, cf_pM, gf_mulF]
  exact conv_congr (cf_gf a) (cf_gf b) i
theorem ev_pS (a b : List Nat) (x : F) : evF ((pS a b).map toF) x = evF (a.map toF) x + evF (b.map toF) x := by
  rw [← evF_addF]
  refine evF_ext (fun i => ?_) x
  rw [← cf_gf, cf_pS, gf_addF, cf_gf, cf_gf]
theorem ev_pN (a : List Nat) (x : F) : evF ((pN a).map toF) x = evF (a.map toF) x :=
  evF_ext (fun i => by rw [← cf_gf, ← cf_gf, cf_pN]) x

/-- The product of normal lists is normal, and of so many numbers. -/
theorem pM_length (a b : List Nat) : (pM (pN a) (pN b)).length = if sig a = 0 ∨ sig b = 0 then 0 else sig a + sig b - 1 := by
  unfold pM
  rw [pN_length, pN_length]
  by_cases h : sig a = 0 ∨ sig b = 0
  · rw [if_pos h, if_pos h]; rfl
  · rw [if_neg h, if_neg h, mk_length]
theorem pM_normal (a b : List Nat) : pN (pM (pN a) (pN b)) = pM (pN a) (pN b) := by
  apply pN_self
  · unfold pM
    by_cases h : (pN a).length = 0 ∨ (pN b).length = 0
    · rw [if_pos h]; intro x hx; cases hx
    · rw [if_neg h]; exact mk_lt _ _
  · rw [pM_length]
    by_cases h : sig a = 0 ∨ sig b = 0
    · rw [if_pos h]; intro h0; exact absurd rfl h0
    · rw [if_neg h]
      intro _
      obtain ⟨m, hm⟩ : ∃ m, sig a = m + 1 := ⟨sig a - 1, by omega⟩
      obtain ⟨n, hn⟩ : ∃ n, sig b = n + 1 := ⟨sig b - 1, by omega⟩
      have e : sig a + sig b - 1 - 1 = m + n := by omega
      rw [e, cf_pM, conv_congr (cf_pN a) (cf_pN b), conv_top (fun i hi => sig_zero a i (by omega)) (fun i hi => sig_zero b i (by omega))]
      have h1 := sig_last a (by omega)
      have h2 := sig_last b (by omega)
      rw [hm] at h1
      rw [hn] at h2
      intro h3
      rcases mul_ne h3 with h4 | h4
      · exact h1 h4
      · exact h2 h4
theorem pM_comm (a b : List Nat) : pM (pN a) (pN b) = pM (pN b) (pN a) := by
  rw [← pM_normal a b, ← pM_normal b a]
  exact pN_ext fun i => by rw [cf_pM, cf_pM, conv_comm]
theorem pM_pS (a b c : List Nat) : pM (pN a) (pN (pN (pS b c))) = pN (pS (pM (pN a) (pN b)) (pM (pN a) (pN c))) := by
  rw [← pM_normal a]
  refine pN_ext fun i => ?_
  rw [cf_pM, cf_pS, cf_pM, cf_pM, ← conv_add]
  exact conv_congr (fun _ => rfl) (fun j => by rw [cf_pN, cf_pN, cf_pS, cf_pN, cf_pN]) i

end Go.Proofs.YtgfnjbkhncjhhaeDoor
