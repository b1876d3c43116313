/-
  A product of great numbers, as it is done at school: what holds while it is done; no program in sight.
-/
import Derived.Test.YtmggccepmicjhagGreatDoorBigM
namespace Go.Proofs.YtmggccepmicjhagGreatDoor

theorem val_set (l : List Nat) (k x : Nat) (hk : k < l.length) : val (l.set k x) + l.getD k 0 * 10 ^ (l.length - 1 - k) = val l + x * 10 ^ (l.length - 1 - k) := by
  induction l generalizing k with
  | nil => simp at hk
  | cons d l ih =>
    cases k with
    | zero =>
      simp only [List.set_cons_zero, List.getD_cons_zero, val_cons, List.length_cons, Nat.add_sub_cancel, Nat.sub_zero]
      omega
    | succ k =>
      simp only [List.length_cons, Nat.add_lt_add_iff_right] at hk
      simp only [List.set_cons_succ, List.getD_cons_succ, val_cons, List.length_set, List.length_cons, Nat.add_sub_cancel]
      have := ih k hk
      rw [show l.length - (k + 1) = l.length - 1 - k by omega]
      omega
theorem val_take_succ (l : List Nat) (i : Nat) (h : i < l.length) : val (l.take (i + 1)) = val (l.take i) * 10 + l.getD i 0 := by
  rw [List.take_add_one, List.getElem?_eq_getElem h, Option.toList_some, val_snoc]
  simp [List.getD, h]
theorem getD_set_nat (l : List Nat) (k j x : Nat) (hk : k < l.length) : (l.set k x).getD j 0 = if j = k then x else l.getD j 0 := by
  by_cases e : j = k
  · subst e; simp [List.getD, hk]
  · rw [if_neg e, List.getD, List.getElem?_set_ne (Ne.symm e)]; rfl
/-- Rows below i are added, and j digits of row i. -/
structure Pd (a b l : List Nat) (i j : Nat) : Prop where
  len : l.length = a.length + b.length
  eq : val l = val (a.take i) * 10 ^ (a.length - i) * val b + a.getD i 0 * (val (b.take j) * 10 ^ (b.length - j)) * 10 ^ (a.length - 1 - i)
  bd : ∀ k, l.getD k 0 ≤ 81 * i + (if k < i + j + 1 then 81 else 0)
theorem Pd.start (a b : List Nat) : Pd a b (List.replicate (a.length + b.length) 0) 0 0 := by
  have hv : ∀ n, val (List.replicate n 0) = 0 := fun n => by
    induction n with
    | zero => rfl
    | succ n ih => rw [List.replicate_succ, val_cons, ih]; simp
  refine ⟨by simp, by rw [hv]; simp [val_nil], fun k => ?_⟩
  have : (List.replicate (a.length + b.length) 0).getD k 0 = 0 := by
    rw [List.getD, List.getElem?_replicate]
    split <;> rfl
  rw [this]; exact Nat.zero_le _
theorem Pd.inner {a b l : List Nat} {i j : Nat} (h : Pd a b l i j) (ha : Dg a) (hb : Dg b) (hi : i < a.length) (hj : j < b.length) : Pd a b (l.set (i + j + 1) (l.getD (i + j + 1) 0 + a.getD i 0 * b.getD j 0)) i (j + 1) := by
  have hlen := h.len
  have hk : i + j + 1 < l.length := by omega
  have hA : a.getD i 0 ≤ 9 := by rw [show a.getD i 0 = a[i] by simp [List.getD, hi]]; exact ha _ (List.getElem_mem hi)
  have hB : b.getD j 0 ≤ 9 := by rw [show b.getD j 0 = b[j] by simp [List.getD, hj]]; exact hb _ (List.getElem_mem hj)
  have hAB : a.getD i 0 * b.getD j 0 ≤ 81 := Nat.mul_le_mul hA hB
  refine ⟨by rw [List.length_set]; exact hlen, ?_, fun k => ?_⟩
  · have hs := val_set l (i + j + 1) (l.getD (i + j + 1) 0 + a.getD i 0 * b.getD j 0) hk
    rw [show l.length - 1 - (i + j + 1) = (a.length - 1 - i) + (b.length - 1 - j) by omega, Nat.pow_add] at hs
    rw [val_take_succ b j hj, show b.length - (j + 1) = b.length - 1 - j by omega]
    have he := h.eq
    rw [show b.length - j = (b.length - 1 - j) + 1 by omega, Nat.pow_succ] at he
    generalize val (a.take i) * 10 ^ (a.length - i) * val b = A at *
    generalize 10 ^ (a.length - 1 - i) = U at *
    generalize 10 ^ (b.length - 1 - j) = W at *
    generalize a.getD i 0 = x at *
    generalize b.getD j 0 = y at *
    generalize val (b.take j) = V at *
    generalize l.getD (i + j + 1) 0 = z at *
    have e1 : (z + x * y) * (U * W) = z * (U * W) + x * y * (U * W) := Nat.add_mul _ _ _
    have e2 : x * ((V * 10 + y) * W) * U = x * (V * (W * 10)) * U + x * y * (U * W) := by grind
    omega
  · rw [getD_set_nat l _ _ _ hk]
    have h0 := h.bd k
    have h1 := h.bd (i + j + 1)
    rw [if_neg (by omega)] at h1
    by_cases e : k = i + j + 1
    · rw [if_pos e, if_pos (by omega)]; omega
    · rw [if_neg e]
      by_cases e2 : k < i + j + 1
      · rw [if_pos e2] at h0; rw [if_pos (by omega)]; exact h0
      · rw [if_neg e2] at h0; rw [if_neg (by omega)]; exact h0
theorem Pd.outer {a b l : List Nat} {i : Nat} (h : Pd a b l i b.length) (hi : i < a.length) : Pd a b l (i + 1) 0 := by
  refine ⟨h.len, ?_, fun k => ?_⟩
  · have he := h.eq
    rw [List.take_length, Nat.sub_self, Nat.pow_zero, Nat.mul_one, show a.length - i = (a.length - 1 - i) + 1 by omega, Nat.pow_succ] at he
    rw [val_take_succ a i hi, show a.length - (i + 1) = a.length - 1 - i by omega, List.take_zero, val_nil, Nat.zero_mul, Nat.mul_zero, Nat.zero_mul, Nat.add_zero, he]
    generalize 10 ^ (a.length - 1 - i) = U
    generalize val (a.take i) = V
    generalize a.getD i 0 = x
    generalize val b = B
    grind
  · have := h.bd k
    split at this <;> split <;> omega
theorem Pd.full {a b l : List Nat} (h : Pd a b l a.length 0) : val l = val a * val b := by
  have he := h.eq
  rw [List.take_length, Nat.sub_self, Nat.pow_zero, Nat.mul_one, List.take_zero, val_nil, Nat.zero_mul, Nat.mul_zero, Nat.zero_mul, Nat.add_zero] at he
  exact he

/-- What is carried on: digits above place k are told. -/
structure Cy (v : Nat) (l : List Nat) (N k : Nat) : Prop where
  len : l.length = N
  eq : val l = v
  low : ∀ j, j < k → l.getD j 0 ≤ 170000
  at' : l.getD k 0 ≤ 190000
  dg : ∀ j, k < j → l.getD j 0 ≤ 9
theorem Cy.start {a b l : List Nat} (h : Pd a b l a.length 0) (ha : a.length ≤ 2000) (hN : 1 ≤ a.length + b.length) : Cy (val a * val b) l (a.length + b.length) (a.length + b.length - 1) := by
  have hall : ∀ k, l.getD k 0 ≤ 81 * a.length + 81 := fun k => by
    have := h.bd k
    split at this <;> omega
  have hlen := h.len
  refine ⟨hlen, h.full, fun j _ => by have := hall j; omega, by have := hall (a.length + b.length - 1); omega, fun j hj => ?_⟩
  rw [List.getD, List.getElem?_eq_none (by omega)]; exact Nat.zero_le _
theorem Cy.step {v : Nat} {l : List Nat} {N k : Nat} (h : Cy v l N (k + 1)) (hk : k + 1 < N) : Cy v ((l.set k (l.getD k 0 + l.getD (k + 1) 0 / 10)).set (k + 1) (l.getD (k + 1) 0 % 10)) N k := by
  have hlen := h.len
  have h1 := val_set l k (l.getD k 0 + l.getD (k + 1) 0 / 10) (by omega)
  have h2 := val_set (l.set k (l.getD k 0 + l.getD (k + 1) 0 / 10)) (k + 1) (l.getD (k + 1) 0 % 10) (by rw [List.length_set]; omega)
  have hg : ∀ j, ((l.set k (l.getD k 0 + l.getD (k + 1) 0 / 10)).set (k + 1) (l.getD (k + 1) 0 % 10)).getD j 0 = if j = k + 1 then l.getD (k + 1) 0 % 10 else if j = k then l.getD k 0 + l.getD (k + 1) 0 / 10 else l.getD j 0 := fun j => by
    rw [getD_set_nat _ _ _ _ (by rw [List.length_set]; omega), getD_set_nat _ _ _ _ (by omega)]
  have hl := h.low k (by omega)
  have ha := h.at'
  refine ⟨by rw [List.length_set, List.length_set]; exact hlen, ?_, fun j hj => ?_, ?_, fun j hj => ?_⟩
  · have he := h.eq
    rw [getD_set_nat _ _ _ _ (by omega), if_neg (by omega), List.length_set] at h2
    rw [show l.length - 1 - k = (l.length - 1 - (k + 1)) + 1 by omega, Nat.pow_succ] at h1
    have hd : l.getD (k + 1) 0 % 10 + 10 * (l.getD (k + 1) 0 / 10) = l.getD (k + 1) 0 := Nat.mod_add_div _ _
    generalize 10 ^ (l.length - 1 - (k + 1)) = W at *
    generalize l.getD (k + 1) 0 / 10 = q at *
    generalize l.getD (k + 1) 0 % 10 = r at *
    generalize l.getD k 0 = x at *
    rw [← hd] at h2
    have e1 : (x + q) * (W * 10) = x * (W * 10) + q * 10 * W := by grind
    have e2 : (r + 10 * q) * W = r * W + q * 10 * W := by grind
    omega
  · rw [hg, if_neg (by omega), if_neg (by omega)]; exact h.low j (by omega)
  · rw [hg, if_neg (by omega), if_pos rfl]; omega
  · rw [hg]
    by_cases e : j = k + 1
    · rw [if_pos e]; omega
    · rw [if_neg e, if_neg (by omega)]; exact h.dg j (by omega)
theorem Cy.ends {v : Nat} {l : List Nat} {N : Nat} (h : Cy v l N 0) (hN : 1 ≤ N) (hv : v < 10 ^ N) : Dg l := by
  have hlen := h.len
  have he := h.eq
  have hd := h.dg
  cases l with
  | nil => simp at hlen; omega
  | cons d t =>
    rw [Dg.cons]
    rw [List.length_cons] at hlen
    constructor
    · rw [val_cons] at he
      rw [← hlen, Nat.pow_succ] at hv
      rcases Nat.lt_or_ge 9 d with q | q
      · have : 10 * 10 ^ t.length ≤ d * 10 ^ t.length := Nat.mul_le_mul_right _ q
        omega
      · exact q
    · intro x hx
      obtain ⟨i, hi, rfl⟩ := List.mem_iff_getElem.mp hx
      have := hd (i + 1) (by omega)
      rw [List.getD_cons_succ] at this
      rw [show t.getD i 0 = t[i] by simp [List.getD, hi]] at this
      exact this
theorem val_mul_lt {a b : List Nat} (ha : Dg a) (hb : Dg b) : val a * val b < 10 ^ (a.length + b.length) := by
  rw [Nat.pow_add]
  have h1 := dval_lt ha
  have h2 := dval_lt hb
  calc val a * val b ≤ val a * 10 ^ b.length := Nat.mul_le_mul_left _ (by omega)
    _ < 10 ^ a.length * 10 ^ b.length := Nat.mul_lt_mul_of_pos_right h1 (pow_pos10 _)
/-- A nought ahead is taken off. -/
theorem val_drop {l : List Nat} {o : Nat} (ho : o < l.length) (h0 : l.getD o 0 = 0) : val (l.drop (o + 1)) = val (l.drop o) := by
  rw [List.drop_eq_getElem_cons ho, val_cons]
  rw [show l.getD o 0 = l[o] by simp [List.getD, ho]] at h0
  rw [h0]; simp
theorem Gt.drop {l : List Nat} {o : Nat} (h : Dg l) (ho : o < l.length) (h1 : o + 1 = l.length ∨ l.getD o 0 ≠ 0) : Gt (l.drop o) := by
  refine ⟨fun d hd => h d (List.mem_of_mem_drop hd), fun e => ?_, fun h2 => ?_⟩
  · have := congrArg List.length e
    simp at this
    omega
  · rw [List.length_drop] at h2
    rw [List.drop_eq_getElem_cons ho, List.headD_cons]
    rcases h1 with h1 | h1
    · omega
    · rw [show l.getD o 0 = l[o] by simp [List.getD, ho]] at h1
      exact h1

end Go.Proofs.YtmggccepmicjhagGreatDoor
