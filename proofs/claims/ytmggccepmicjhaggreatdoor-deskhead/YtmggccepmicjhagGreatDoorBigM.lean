/-
  Great numbers as lists of digits: values, how many digits there are, which list tells which number; no program in sight.
-/
import Derived.Test.YtmggccepmicjhagGreatDoorRows
namespace Go.Proofs.YtmggccepmicjhagGreatDoor

/-- The value of a list of digits, the greatest first (a digit may be any number here). -/
def val (l : List Nat) : Nat := l.foldl (fun v d => v * 10 + d) 0
theorem foldl_val (l : List Nat) (v : Nat) : l.foldl (fun v d => v * 10 + d) v = v * 10 ^ l.length + val l := by
  unfold val
  induction l generalizing v with
  | nil => simp
  | cons d l ih =>
    simp only [List.foldl_cons, List.length_cons, Nat.zero_mul, Nat.zero_add]
    rw [ih, ih d, Nat.pow_succ, Nat.add_mul, Nat.mul_assoc, Nat.mul_comm 10, Nat.add_assoc]
theorem val_nil : val [] = 0 := rfl
theorem val_cons (d : Nat) (l : List Nat) : val (d :: l) = d * 10 ^ l.length + val l := by
  have := foldl_val l d
  unfold val at this ⊢
  simp only [List.foldl_cons, Nat.zero_mul, Nat.zero_add]
  exact this
theorem val_append (a b : List Nat) : val (a ++ b) = val a * 10 ^ b.length + val b := by
  unfold val
  rw [List.foldl_append, foldl_val]
  rfl
theorem val_snoc (a : List Nat) (d : Nat) : val (a ++ [d]) = val a * 10 + d := by rw [val_append]; simp [val]
/-- Digits. -/
def Dg (l : List Nat) : Prop := ∀ d ∈ l, d ≤ 9
theorem Dg.cons {d : Nat} {l : List Nat} : Dg (d :: l) ↔ d ≤ 9 ∧ Dg l := by simp [Dg]
theorem pow_pos10 (k : Nat) : 0 < 10 ^ k := Nat.pow_pos (by decide)
theorem dval_lt {l : List Nat} (h : Dg l) : val l < 10 ^ l.length := by
  induction l with
  | nil => simp [val]
  | cons d l ih =>
    obtain ⟨h1, h2⟩ := Dg.cons.mp h
    have := ih h2
    rw [val_cons, List.length_cons, Nat.pow_succ]
    have h3 : d * 10 ^ l.length ≤ 9 * 10 ^ l.length := Nat.mul_le_mul_right _ h1
    omega
/-- A great number: some digits, the first of which isn't 0 unless it is the only one. -/
def Gt (l : List Nat) : Prop := Dg l ∧ l ≠ [] ∧ (2 ≤ l.length → l.headD 0 ≠ 0)
theorem val_ge {l : List Nat} (h : Gt l) (h2 : 2 ≤ l.length) : 10 ^ (l.length - 1) ≤ val l := by
  obtain ⟨_, _, h3⟩ := h
  cases l with
  | nil => simp at h2
  | cons d l =>
    have hd : d ≠ 0 := h3 h2
    rw [val_cons, List.length_cons, Nat.add_sub_cancel]
    have : 1 * 10 ^ l.length ≤ d * 10 ^ l.length := Nat.mul_le_mul_right _ (by omega)
    omega
theorem Gt.of_ge {l : List Nat} (h : Dg l) (hn : l ≠ []) (hv : 2 ≤ l.length → 10 ^ (l.length - 1) ≤ val l) : Gt l := by
  refine ⟨h, hn, fun h2 => ?_⟩
  cases l with
  | nil => simp at h2
  | cons d l =>
    intro e
    have e2 : d = 0 := e
    have := hv h2
    rw [val_cons, List.length_cons, Nat.add_sub_cancel, e2, Nat.zero_mul, Nat.zero_add] at this
    have := dval_lt (Dg.cons.mp h).2
    omega
theorem pow_mono {a b : Nat} (h : a ≤ b) : 10 ^ a ≤ 10 ^ b := Nat.pow_le_pow_right (by decide) h
/-- How many digits a number has at most. -/
theorem Gt.len {l : List Nat} (h : Gt l) {k : Nat} (hk : 1 ≤ k) (hv : val l < 10 ^ k) : l.length ≤ k := by
  rcases Nat.lt_or_ge k l.length with q | q
  · have h1 := val_ge h (by omega)
    have := pow_mono (show k ≤ l.length - 1 by omega)
    omega
  · exact q
/-- Fewer digits, the lesser number. -/
theorem Gt.less {a b : List Nat} (ha : Gt a) (hb : Gt b) (h : a.length < b.length) : val a < val b := by
  have h0 : 1 ≤ a.length := by
    rcases Nat.eq_zero_or_pos a.length with q | q
    · exact absurd (List.eq_nil_of_length_eq_zero q) ha.2.1
    · exact q
  have h1 := dval_lt ha.1
  have h2 := val_ge hb (by omega)
  have := pow_mono (show a.length ≤ b.length - 1 by omega)
  omega
theorem dval_inj {a b : List Nat} (ha : Dg a) (hb : Dg b) (hl : a.length = b.length) (hv : val a = val b) : a = b := by
  induction a generalizing b with
  | nil => cases b with
    | nil => rfl
    | cons _ _ => simp at hl
  | cons d a ih => cases b with
    | nil => simp at hl
    | cons e b =>
      simp only [List.length_cons, Nat.add_right_cancel_iff] at hl
      rw [val_cons, val_cons, hl] at hv
      have h1 := dval_lt (Dg.cons.mp ha).2
      have h2 := dval_lt (Dg.cons.mp hb).2
      rw [hl] at h1
      have e1 : d = e := by
        rcases Nat.lt_trichotomy d e with q | q | q
        · have : (d + 1) * 10 ^ b.length ≤ e * 10 ^ b.length := Nat.mul_le_mul_right _ q
          rw [Nat.add_mul, Nat.one_mul] at this
          omega
        · exact q
        · have : (e + 1) * 10 ^ b.length ≤ d * 10 ^ b.length := Nat.mul_le_mul_right _ q
          rw [Nat.add_mul, Nat.one_mul] at this
          omega
      subst e1
      rw [ih (Dg.cons.mp ha).2 (Dg.cons.mp hb).2 hl (by omega)]
/-- One list tells one number. -/
theorem Gt.one {a b : List Nat} (ha : Gt a) (hb : Gt b) (hv : val a = val b) : a = b := by
  refine dval_inj ha.1 hb.1 ?_ hv
  rcases Nat.lt_trichotomy a.length b.length with q | q | q
  · have := ha.less hb q; omega
  · exact q
  · have := hb.less ha q; omega
/-- Lists of one length: the lesser one by its first digit that differs. -/
theorem lex_val {a b : List Nat} (ha : Dg a) (hb : Dg b) (hl : a.length = b.length) : a < b ↔ val a < val b := by
  induction a generalizing b with
  | nil => cases b with
    | nil => simp
    | cons _ _ => simp at hl
  | cons d a ih => cases b with
    | nil => simp at hl
    | cons e b =>
      simp only [List.length_cons, Nat.add_right_cancel_iff] at hl
      have h1 := dval_lt (Dg.cons.mp ha).2
      have h2 := dval_lt (Dg.cons.mp hb).2
      rw [hl] at h1
      rw [List.cons_lt_cons_iff, val_cons, val_cons, hl, ih (Dg.cons.mp ha).2 (Dg.cons.mp hb).2 hl]
      rcases Nat.lt_trichotomy d e with q | q | q
      · have : (d + 1) * 10 ^ b.length ≤ e * 10 ^ b.length := Nat.mul_le_mul_right _ q
        rw [Nat.add_mul, Nat.one_mul] at this
        constructor
        · intro _; omega
        · intro _; exact .inl q
      · subst q
        constructor
        · rintro (h | h)
          · omega
          · omega
        · intro h; exact .inr ⟨rfl, by omega⟩
      · have : (e + 1) * 10 ^ b.length ≤ d * 10 ^ b.length := Nat.mul_le_mul_right _ q
        rw [Nat.add_mul, Nat.one_mul] at this
        constructor
        · rintro (h | h)
          · omega
          · omega
        · intro h; omega

/-! ### The last digits -/
/-- The i-th digit from the end. -/
def dgE (l : List Nat) (i : Nat) : Nat := if i < l.length then l.getD (l.length - 1 - i) 0 else 0
/-- The value of the last i digits. -/
def low (l : List Nat) : Nat → Nat
  | 0 => 0
  | i + 1 => low l i + dgE l i * 10 ^ i
theorem low_beyond (l : List Nat) (i : Nat) (h : l.length ≤ i) : low l (i + 1) = low l i := by
  rw [low, dgE, if_neg (by omega), Nat.zero_mul, Nat.add_zero]
theorem low_cons (d : Nat) (l : List Nat) (i : Nat) (h : i ≤ l.length) : low (d :: l) i = low l i := by
  induction i with
  | zero => rfl
  | succ i ih =>
    rw [low, low, ih (by omega), dgE, dgE, if_pos (by simp; omega), if_pos (by omega)]
    congr 2
    simp only [List.length_cons, Nat.add_sub_cancel]
    rw [show l.length - i = (l.length - 1 - i) + 1 by omega, List.getD_cons_succ]
theorem low_all (l : List Nat) : low l l.length = val l := by
  induction l with
  | nil => rfl
  | cons d l ih =>
    rw [List.length_cons, low, low_cons d l _ (Nat.le_refl _), ih, val_cons, dgE, if_pos (by simp)]
    simp
    omega
theorem low_more (l : List Nat) (i : Nat) (h : l.length ≤ i) : low l i = val l := by
  obtain ⟨j, rfl⟩ : ∃ j, i = l.length + j := ⟨i - l.length, by omega⟩
  induction j with
  | zero => exact low_all l
  | succ j ih => rw [← Nat.add_assoc, low_beyond l _ (by omega)]; exact ih (by omega)
theorem dgE_le {l : List Nat} (h : Dg l) (i : Nat) : dgE l i ≤ 9 := by
  unfold dgE
  split
  · next hi =>
    have : l.length - 1 - i < l.length := by omega
    rw [show l.getD (l.length - 1 - i) 0 = l[l.length - 1 - i] by simp [List.getD, this]]
    exact h _ (List.getElem_mem _)
  · omega

/-! ### A sum, digit by digit -/
/-- i digits of the sum are told, and what is carried. -/
structure Sm (a b : List Nat) (i cr : Nat) (o : List Nat) : Prop where
  len : o.length = i
  dg : Dg o
  cr1 : cr ≤ 1
  eq : val o + cr * 10 ^ i = low a i + low b i
theorem Sm.start (a b : List Nat) : Sm a b 0 0 [] := ⟨rfl, (fun d hd => by cases hd), by omega, rfl⟩
theorem Sm.step {a b : List Nat} {i cr : Nat} {o : List Nat} (h : Sm a b i cr o) (ha : Dg a) (hb : Dg b) : Sm a b (i + 1) ((cr + dgE a i + dgE b i) / 10) ((cr + dgE a i + dgE b i) % 10 :: o) := by
  have h1 := dgE_le ha i
  have h2 := dgE_le hb i
  have h3 := h.cr1
  refine ⟨by rw [List.length_cons, h.len], Dg.cons.mpr ⟨by omega, h.dg⟩, by omega, ?_⟩
  rw [val_cons, h.len, low, low, Nat.pow_succ]
  have e := h.eq
  have hs : (cr + dgE a i + dgE b i) % 10 + 10 * ((cr + dgE a i + dgE b i) / 10) = cr + dgE a i + dgE b i := Nat.mod_add_div _ _
  generalize (cr + dgE a i + dgE b i) % 10 = x at *
  generalize (cr + dgE a i + dgE b i) / 10 = y at *
  have e2 : (x + 10 * y) * 10 ^ i = (cr + dgE a i + dgE b i) * 10 ^ i := by rw [hs]
  simp only [Nat.add_mul] at e2
  have e3 : y * (10 ^ i * 10) = 10 * y * 10 ^ i := by rw [Nat.mul_comm 10 y, Nat.mul_assoc, Nat.mul_comm (10 ^ i)]
  omega
theorem Sm.ends {a b : List Nat} {i : Nat} {o : List Nat} (h : Sm a b i 0 o) (ha : Gt a) (hb : Gt b) (h1 : a.length ≤ i) (h2 : b.length ≤ i) (h3 : i ≤ max a.length b.length ∨ 10 ^ (i - 1) ≤ val o) : Gt o ∧ val o = val a + val b := by
  have e := h.eq
  rw [low_more a i h1, low_more b i h2, Nat.zero_mul, Nat.add_zero] at e
  have h0 : 1 ≤ a.length := by
    rcases Nat.eq_zero_or_pos a.length with q | q
    · exact absurd (List.eq_nil_of_length_eq_zero q) ha.2.1
    · exact q
  refine ⟨Gt.of_ge h.dg (fun q => by rw [q] at h; have := h.len; simp at this; omega) (fun q => ?_), e⟩
  rw [h.len] at q ⊢
  rcases h3 with h3 | h3
  · rcases Nat.lt_or_ge a.length b.length with r | r
    · have := val_ge hb (by omega)
      rw [show i = b.length by omega]; omega
    · have := val_ge ha (by omega)
      rw [show i = a.length by omega]; omega
  · exact h3

/-! ### As bytes -/
def tx (l : List Nat) : List UInt8 := l.map fun d => UInt8.ofNat (48 + d)
theorem tx_length (l : List Nat) : (tx l).length = l.length := by simp [tx]
theorem tx_cons (d : Nat) (l : List Nat) : tx (d :: l) = UInt8.ofNat (48 + d) :: tx l := rfl

end Go.Proofs.YtmggccepmicjhagGreatDoor
