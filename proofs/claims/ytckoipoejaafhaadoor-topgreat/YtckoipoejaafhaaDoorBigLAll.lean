/-
  Texts that stood one behind the other, as one.
-/
import Derived.Test.YtckoipoejaafhaaDoorCdFtAll
import Derived.Test.YtckoipoejaafhaaDoorPure
import Derived.Lib.ItoaNum
import Derived.Test.YtckoipoejaafhaaDoorBigC1All
import Derived.Test.YtckoipoejaafhaaDoorBigC1All
import Derived.Test.YtckoipoejaafhaaDoorSlAppAll
namespace Go.Proofs.YtckoipoejaafhaaDoor
def lv : List Nat → Nat
  | [] => 0
  | x :: l => x + 100000000 * lv l
theorem lv_append (a b : List Nat) : lv (a ++ b) = lv a + 100000000 ^ a.length * lv b := by
  induction a with
  | nil => simp [lv]
  | cons x a ih =>
    rw [List.cons_append, lv, lv, ih, List.length_cons, Nat.pow_succ]
    grind
theorem lv_snoc (a : List Nat) (x : Nat) : lv (a ++ [x]) = lv a + 100000000 ^ a.length * x := by
  rw [lv_append]; simp [lv]
def Lm (l : List Nat) : Prop := ∀ x ∈ l, x < 100000000
theorem Lm.cons {x : Nat} {l : List Nat} : Lm (x :: l) ↔ x < 100000000 ∧ Lm l := by simp [Lm]
theorem Lm.snoc {x : Nat} {l : List Nat} (h : Lm l) (hx : x < 100000000) : Lm (l ++ [x]) := by
  intro y hy
  rcases List.mem_append.mp hy with q | q
  · exact h y q
  · simp at q; omega
theorem Lm.get {l : List Nat} (h : Lm l) (i : Nat) : l.getD i 0 < 100000000 := by
  rcases Nat.lt_or_ge i l.length with q | q
  · rw [show l.getD i 0 = l[i] by simp [List.getD, q]]; exact h _ (List.getElem_mem q)
  · rw [List.getD, List.getElem?_eq_none q]; decide
theorem lbpos (k : Nat) : 0 < 100000000 ^ k := Nat.pow_pos (by decide)
theorem lv_lt {l : List Nat} (h : Lm l) : lv l < 100000000 ^ l.length := by
  induction l with
  | nil => simp [lv]
  | cons x l ih =>
    obtain ⟨h1, h2⟩ := Lm.cons.mp h
    have := ih h2
    rw [lv, List.length_cons, Nat.pow_succ]
    omega
def NS : Nat → (Nat → Nat) → Nat
  | 0, _ => 0
  | n + 1, f => NS n f + f n
theorem NS_congr {n : Nat} {f g : Nat → Nat} (h : ∀ i, i < n → f i = g i) : NS n f = NS n g := by
  induction n with
  | zero => rfl
  | succ n ih => rw [NS, NS, ih (fun i hi => h i (by omega)), h n (by omega)]
theorem NS_first (n : Nat) (f : Nat → Nat) : NS (n + 1) f = f 0 + NS n (fun i => f (i + 1)) := by
  induction n with
  | zero => simp [NS]
  | succ n ih => rw [NS, ih, NS]; omega
theorem NS_add (n : Nat) (f g : Nat → Nat) : NS n (fun i => f i + g i) = NS n f + NS n g := by
  induction n with
  | zero => rfl
  | succ n ih => rw [NS, NS, NS, ih]; omega
theorem NS_mul (n c : Nat) (f : Nat → Nat) : NS n (fun i => c * f i) = c * NS n f := by
  induction n with
  | zero => rfl
  | succ n ih => rw [NS, NS, ih, Nat.mul_add]
theorem NS_zero {n : Nat} {f : Nat → Nat} (h : ∀ i, i < n → f i = 0) : NS n f = 0 := by
  induction n with
  | zero => rfl
  | succ n ih => rw [NS, ih (fun i hi => h i (by omega)), h n (by omega)]
theorem NS_le {n m c : Nat} {f : Nat → Nat} (h : ∀ i, f i ≤ c) (h0 : ∀ i, m ≤ i → f i = 0) : NS n f ≤ m * c := by
  have h1 : NS n f ≤ min n m * c := by
    induction n with
    | zero => simp [NS]
    | succ n ih =>
      rw [NS]
      rcases Nat.lt_or_ge n m with q | q
      · rw [show min n m = n by omega] at ih
        rw [show min (n + 1) m = n + 1 by omega, Nat.add_mul, Nat.one_mul]
        have := h n
        omega
      · rw [h0 n q, show min (n + 1) m = min n m by omega]
        exact ih
  exact Nat.le_trans h1 (Nat.mul_le_mul_right _ (Nat.min_le_right _ _))
theorem toF_NS (n : Nat) (f : Nat → Nat) : toF (NS n f) = S n (fun i => toF (f i)) := by
  induction n with
  | zero => rfl
  | succ n ih => rw [NS, S_succ, toF_add, ih]
def lw (f : Nat → Nat) (n : Nat) : Nat := NS n (fun i => 100000000 ^ i * f i)
theorem lw_succ (f : Nat → Nat) (n : Nat) : lw f (n + 1) = lw f n + 100000000 ^ n * f n := rfl
theorem lw_first (f : Nat → Nat) (n : Nat) : lw f (n + 1) = f 0 + 100000000 * lw (fun i => f (i + 1)) n := by
  unfold lw
  rw [NS_first, Nat.pow_zero, Nat.one_mul, ← NS_mul]
  congr 1
  apply NS_congr
  intro i _
  rw [Nat.pow_succ]
  grind
theorem lw_congr {f g : Nat → Nat} {n : Nat} (h : ∀ i, i < n → f i = g i) : lw f n = lw g n := NS_congr fun i hi => by rw [h i hi]
theorem lw_add (f g : Nat → Nat) (n : Nat) : lw (fun i => f i + g i) n = lw f n + lw g n := by
  unfold lw
  rw [← NS_add]
  apply NS_congr
  intro i _
  rw [Nat.mul_add]
theorem lw_mul (c : Nat) (f : Nat → Nat) (n : Nat) : lw (fun i => c * f i) n = c * lw f n := by
  unfold lw
  rw [← NS_mul]
  apply NS_congr
  intro i _
  grind
def lg (l : List Nat) (i : Nat) : Nat := l.getD i 0
theorem lg_ge {l : List Nat} {i : Nat} (h : l.length ≤ i) : lg l i = 0 := by unfold lg; rw [List.getD, List.getElem?_eq_none h]; rfl
theorem lv_lw (l : List Nat) (n : Nat) (h : l.length ≤ n) : lv l = lw (lg l) n := by
  induction l generalizing n with
  | nil => rw [lv]; exact (NS_zero fun i _ => by rw [lg_ge (by simp)]; rfl).symm
  | cons x l ih =>
    cases n with
    | zero => simp at h
    | succ n =>
      simp only [List.length_cons, Nat.add_le_add_iff_right] at h
      rw [lw_first, lv, ih n h]
      rfl
theorem lv_of {l : List Nat} {f : Nat → Nat} (h : ∀ i, i < l.length → l.getD i 0 = f i) : lv l = lw f l.length := by
  rw [lv_lw l l.length (Nat.le_refl _)]
  exact lw_congr h
def cN (f g : Nat → Nat) (k : Nat) : Nat := NS (k + 1) (fun i => f i * g (k - i))
theorem cN_first (f g : Nat → Nat) (k : Nat) : cN f g (k + 1) = f 0 * g (k + 1) + cN (fun i => f (i + 1)) g k := by
  unfold cN
  rw [NS_first]
  congr 1
  apply NS_congr
  intro i _
  rw [show k + 1 - (i + 1) = k - i by omega]
theorem cN_zero (f g : Nat → Nat) : cN f g 0 = f 0 * g 0 := by simp [cN, NS]
theorem cN_lw (a b : List Nat) (n : Nat) (h : a.length + b.length ≤ n + 1) : lw (cN (lg a) (lg b)) n = lv a * lv b := by
  induction a generalizing n with
  | nil =>
    rw [lv, Nat.zero_mul]
    refine NS_zero fun i _ => ?_
    have : cN (lg []) (lg b) i = 0 := NS_zero fun j _ => by rw [lg_ge (by simp), Nat.zero_mul]
    rw [this]; rfl
  | cons x a ih =>
    cases n with
    | zero =>
      have hb : b.length = 0 := by simp only [List.length_cons] at h; omega
      rw [List.eq_nil_of_length_eq_zero hb]
      simp [lw, NS, lv]
    | succ n =>
      simp only [List.length_cons] at h
      have e : ∀ k, cN (lg (x :: a)) (lg b) (k + 1) = x * lg b (k + 1) + cN (lg a) (lg b) k := fun k => cN_first _ _ _
      rw [lw_first, cN_zero, show (fun i => cN (lg (x :: a)) (lg b) (i + 1)) = (fun i => x * lg b (i + 1) + cN (lg a) (lg b) i) from funext e, lw_add, ih n (by omega), lw_mul, lv]
      have e2 := lw_first (lg b) n
      rw [← lv_lw b (n + 1) (by omega)] at e2
      rw [e2]
      show x * lg b 0 + _ = _
      grind
theorem conv_cN (a b : List Nat) (k : Nat) : conv (cf a) (cf b) k = toF (cN (lg a) (lg b) k) := by
  unfold conv cN
  rw [toF_NS]
  apply S_congr
  intro i _
  rw [toF_mul]; rfl
theorem cN_le {a b : List Nat} (ha : Lm a) (hb : Lm b) (k : Nat) : cN (lg a) (lg b) k ≤ a.length * 10000000000000000 := by
  refine NS_le (fun i => ?_) (fun i hi => by rw [lg_ge hi, Nat.zero_mul])
  have h1 := ha.get i
  have h2 := hb.get (k - i)
  have h3 : lg a i ≤ 100000000 := by show a.getD i 0 ≤ _; omega
  have h4 : lg b (k - i) ≤ 100000000 := by show b.getD (k - i) 0 ≤ _; omega
  exact Nat.mul_le_mul h3 h4
theorem pM_limbs {a b : List Nat} (ha : Lm a) (hb : Lm b) (h1 : 0 < a.length) (h2 : 0 < b.length) (h9 : a.length ≤ 250) :
    (pM a b).length = a.length + b.length - 1 ∧ (∀ i, (pM a b).getD i 0 ≤ 2500000000000000000) ∧ lv (pM a b) = lv a * lv b := by
  have hl := pM_len a b h1 h2
  have hc : ∀ k, cN (lg a) (lg b) k ≤ 2500000000000000000 := fun k => Nat.le_trans (cN_le ha hb k) (Nat.mul_le_mul_right 10000000000000000 h9)
  have hg : ∀ i, i < (pM a b).length → (pM a b).getD i 0 = cN (lg a) (lg b) i := fun i hi => by
    rw [pM_get a b i h1 h2 (by omega), conv_cN, val_toF]
    have := hc i
    exact Nat.mod_eq_of_lt (by unfold P; omega)
  refine ⟨hl, fun i => ?_, ?_⟩
  · rcases Nat.lt_or_ge i (pM a b).length with q | q
    · rw [hg i q]; exact hc i
    · rw [List.getD, List.getElem?_eq_none q]; exact Nat.zero_le _
  · rw [lv_of hg, hl]
    exact cN_lw a b _ (by omega)
structure Cr (xs : List Nat) (i cr : Nat) (ys : List Nat) : Prop where
  len : ys.length = xs.length + 1
  lm : ∀ j, j < i → ys.getD j 0 < 100000000
  cr1 : cr ≤ 200000000000
  eq : lw (lg ys) i + 100000000 ^ i * cr = lw (lg xs) i
theorem Cr.start (xs : List Nat) : Cr xs 0 0 (List.replicate (xs.length + 1) 0) := ⟨by simp, fun j hj => absurd hj (by omega), by omega, rfl⟩
theorem getD_set_n (l : List Nat) (k j x : Nat) (hk : k < l.length) : (l.set k x).getD j 0 = if j = k then x else l.getD j 0 := by
  by_cases e : j = k
  · subst e; simp [List.getD, hk]
  · rw [if_neg e, List.getD, List.getElem?_set_ne (Ne.symm e)]; rfl
theorem Cr.step {xs ys : List Nat} {i cr : Nat} (h : Cr xs i cr ys) (hi : i < xs.length) (hx : xs.getD i 0 ≤ 18000000000000000000) : Cr xs (i + 1) ((xs.getD i 0 + cr) / 100000000) (ys.set i ((xs.getD i 0 + cr) % 100000000)) := by
  have h1 := h.len
  have h2 := h.cr1
  have hg : ∀ j, (ys.set i ((xs.getD i 0 + cr) % 100000000)).getD j 0 = if j = i then (xs.getD i 0 + cr) % 100000000 else ys.getD j 0 := fun j => getD_set_n _ _ _ _ (by omega)
  refine ⟨by rw [List.length_set]; exact h1, fun j hj => ?_, by omega, ?_⟩
  · rw [hg]
    by_cases e : j = i
    · rw [if_pos e]; omega
    · rw [if_neg e]; exact h.lm j (by omega)
  · rw [lw_succ, lw_succ, ← h.eq]
    have e1 : lw (lg (ys.set i ((xs.getD i 0 + cr) % 100000000))) i = lw (lg ys) i := lw_congr fun j hj => by show List.getD _ _ _ = _; rw [hg, if_neg (by omega)]; rfl
    have e2 : lg (ys.set i ((xs.getD i 0 + cr) % 100000000)) i = (xs.getD i 0 + cr) % 100000000 := by show List.getD _ _ _ = _; rw [hg, if_pos rfl]
    rw [e1, e2, Nat.pow_succ]
    show _ + _ * _ + _ = _ + _ + _ * xs.getD i 0
    have hs : (xs.getD i 0 + cr) % 100000000 + 100000000 * ((xs.getD i 0 + cr) / 100000000) = xs.getD i 0 + cr := Nat.mod_add_div _ _
    generalize (xs.getD i 0 + cr) % 100000000 = r at *
    generalize (xs.getD i 0 + cr) / 100000000 = q at *
    generalize xs.getD i 0 = x at *
    generalize 100000000 ^ i = B at *
    have e3 : B * (r + 100000000 * q) = B * (x + cr) := by rw [hs]
    grind
theorem Cr.ends {xs ys : List Nat} {cr : Nat} (h : Cr xs xs.length cr ys) (hv : lv xs < 100000000 ^ (xs.length + 1)) : Lm (ys.set xs.length cr) ∧ (ys.set xs.length cr).length = xs.length + 1 ∧ lv (ys.set xs.length cr) = lv xs := by
  have h1 := h.len
  have hg : ∀ j, (ys.set xs.length cr).getD j 0 = if j = xs.length then cr else ys.getD j 0 := fun j => getD_set_n _ _ _ _ (by omega)
  have hl : (ys.set xs.length cr).length = xs.length + 1 := by rw [List.length_set]; exact h1
  have he := h.eq
  rw [← lv_lw xs xs.length (Nat.le_refl _)] at he
  have hval : lv (ys.set xs.length cr) = lv xs := by
    rw [lv_lw _ (xs.length + 1) (by omega), lw_succ, ← he]
    have e1 : lw (lg (ys.set xs.length cr)) xs.length = lw (lg ys) xs.length := lw_congr fun j hj => by show List.getD _ _ _ = _; rw [hg, if_neg (by omega)]; rfl
    have e2 : lg (ys.set xs.length cr) xs.length = cr := by show List.getD _ _ _ = _; rw [hg, if_pos rfl]
    rw [e1, e2]
  refine ⟨fun x hx => ?_, hl, hval⟩
  obtain ⟨i, hi, rfl⟩ := List.mem_iff_getElem.mp hx
  have hgi := hg i
  rw [show (ys.set xs.length cr).getD i 0 = (ys.set xs.length cr)[i] by simp only [List.getD, List.getElem?_eq_getElem hi, Option.getD_some]] at hgi
  rw [hgi]
  by_cases e : i = xs.length
  · rw [if_pos e]
    rw [Nat.pow_succ] at hv
    rcases Nat.lt_or_ge cr 100000000 with q | q
    · exact q
    · have : 100000000 ^ xs.length * 100000000 ≤ 100000000 ^ xs.length * cr := Nat.mul_le_mul_left _ q
      omega
  · rw [if_neg e]; exact h.lm i (by omega)
structure Lb (a : List Nat) (X : List Nat) : Prop where
  lm : Lm X
  eq : lv X + 100000000 ^ X.length * val (a.take (a.length - 8 * X.length)) = val a
  len : 8 * X.length < a.length + 8
theorem Lb.start (a : List Nat) : Lb a [] := ⟨(fun x hx => by cases hx), (by simp [lv]), (by simp)⟩
def pce (a : List Nat) (t : Nat) : List Nat := (a.take t).drop (t - 8)
theorem pce_dg {a : List Nat} (h : Dg a) (t : Nat) : Dg (pce a t) := fun d hd => h d (List.mem_of_mem_take (List.mem_of_mem_drop hd))
theorem pce_len {a : List Nat} {t : Nat} (ht : t ≤ a.length) : (pce a t).length = t - (t - 8) := by
  unfold pce; rw [List.length_drop, List.length_take]; omega
theorem pce_lt {a : List Nat} (h : Dg a) {t : Nat} (ht : t ≤ a.length) : val (pce a t) < 100000000 := by
  have h1 := dval_lt (pce_dg h t)
  have h2 := pow_mono (show (pce a t).length ≤ 8 by rw [pce_len ht]; omega)
  omega
theorem pce_val {a : List Nat} {t : Nat} (ht : t ≤ a.length) : val (a.take t) = 100000000 * val (a.take (t - 8)) + val (pce a t) := by
  have e : a.take t = a.take (t - 8) ++ pce a t := by
    unfold pce
    conv => lhs; rw [← List.take_append_drop (t - 8) (a.take t)]
    rw [List.take_take, show min (t - 8) t = t - 8 by omega]
  rw [e, val_append, pce_len ht]
  rcases Nat.lt_or_ge t 8 with q | q
  · rw [show t - 8 = 0 by omega, List.take_zero, val_nil]; simp
  · rw [show t - (t - 8) = 8 by omega]
    have : (10 : Nat) ^ 8 = 100000000 := by decide
    rw [this, Nat.mul_comm]
theorem Lb.step {a X : List Nat} (h : Lb a X) (ha : Dg a) (hlt : 8 * X.length < a.length) : Lb a (X ++ [val (pce a (a.length - 8 * X.length))]) := by
  refine ⟨h.lm.snoc (pce_lt ha (by omega)), ?_, by rw [List.length_append]; simp; omega⟩
  rw [lv_snoc, List.length_append, ← h.eq]
  simp only [List.length_cons, List.length_nil, Nat.zero_add]
  rw [pce_val (a := a) (t := a.length - 8 * X.length) (by omega), show a.length - 8 * (X.length + 1) = a.length - 8 * X.length - 8 by omega, Nat.pow_succ]
  grind
theorem Lb.ends {a X : List Nat} (h : Lb a X) (hge : a.length ≤ 8 * X.length) : lv X = val a := by
  have := h.eq
  rw [show a.length - 8 * X.length = 0 by omega, List.take_zero, val_nil, Nat.mul_zero, Nat.add_zero] at this
  exact this
theorem lv_drop {Y : List Nat} {i : Nat} (hi : i < Y.length) : lv (Y.drop i) = Y.getD i 0 + 100000000 * lv (Y.drop (i + 1)) := by
  rw [List.drop_eq_getElem_cons hi, lv]
  rw [show Y.getD i 0 = Y[i] by simp [List.getD, hi]]
structure Tx (Y : List Nat) (top i : Nat) (c : List Nat) : Prop where
  gt : Gt c
  hd : i < top → c.headD 0 ≠ 0
  eq : val c = lv (Y.drop i)
theorem lv_zeros {Y : List Nat} {i : Nat} (h : ∀ j, i ≤ j → Y.getD j 0 = 0) : lv (Y.drop i) = 0 := by
  have : ∀ k, ∀ i, Y.length - i = k → (∀ j, i ≤ j → Y.getD j 0 = 0) → lv (Y.drop i) = 0 := by
    intro k
    induction k with
    | zero => intro i hk _; rw [List.drop_eq_nil_of_le (by omega)]; rfl
    | succ k ih =>
      intro i hk h0
      rw [lv_drop (by omega), h0 i (Nat.le_refl _), ih (i + 1) (by omega) (fun j hj => h0 j (by omega))]
  exact this _ i rfl h
theorem head_ne {c : List Nat} (h : Gt c) (hv : val c ≠ 0) : c.headD 0 ≠ 0 := by
  rcases Nat.lt_or_ge c.length 2 with q | q
  · obtain ⟨h1, h2, _⟩ := h
    match c, h2, q with
    | [d], _, _ =>
      intro e
      apply hv
      have : d = 0 := e
      subst this; rfl
  · exact h.2.2 q
theorem Tx.start {Y : List Nat} {top : Nat} (ht : top < Y.length) (hz : ∀ j, top + 1 ≤ j → Y.getD j 0 = 0) {c : List Nat} (hc : Gt c) (hv : val c = Y.getD top 0) : Tx Y top top c :=
  ⟨hc, fun h => absurd h (by omega), by rw [lv_drop ht, lv_zeros hz, hv, Nat.mul_zero, Nat.add_zero]⟩
theorem Tx.first {Y : List Nat} {top : Nat} (hne : 0 < top → Y.getD top 0 ≠ 0) {c : List Nat} (hc : Gt c) (hv : val c = Y.getD top 0) (h0 : 0 < top) : c.headD 0 ≠ 0 := head_ne hc (by rw [hv]; exact hne h0)
theorem gt_more {c t : List Nat} (hc : Gt c) (hh : c.headD 0 ≠ 0) (ht : Dg t) : Gt (c ++ t) ∧ (c ++ t).headD 0 ≠ 0 := by
  obtain ⟨h1, h2, _⟩ := hc
  cases c with
  | nil => exact absurd rfl h2
  | cons d c =>
    refine ⟨⟨fun x hx => ?_, by simp, fun _ => hh⟩, hh⟩
    rcases List.mem_append.mp hx with q | q
    · exact h1 x q
    · exact ht x q
theorem dec_tx (u : Nat) : ∃ c, Gt c ∧ val c = u ∧ Lib.decDigits u = tx c := by
  induction u using Nat.strongRecOn with
  | _ n ih =>
    by_cases h : n < 10
    · refine ⟨[n], ⟨fun d hd => ?_, by simp, fun h2 => by simp at h2⟩, by simp [val], by rw [Lib.decDigits, dif_pos h]; rfl⟩
      simp at hd; omega
    · obtain ⟨c, hc, hv, he⟩ := ih (n / 10) (by omega)
      have hd : Dg [n % 10] := fun d hd => by simp at hd; omega
      obtain ⟨g1, _⟩ := gt_more hc (head_ne hc (by omega)) hd
      refine ⟨c ++ [n % 10], g1, by rw [val_snoc, hv]; omega, ?_⟩
      rw [Lib.decDigits, dif_neg h, he]
      simp [tx]
theorem pad8 {x : Nat} (hx : x < 100000000) : ∃ t, Dg t ∧ t.length = 8 ∧ val t = x ∧ Lib.decDigits (100000000 + x) = 49 :: tx t := by
  obtain ⟨c, hc, hv, he⟩ := dec_tx (100000000 + x)
  have hl1 : c.length ≤ 9 := hc.len (by omega) (by rw [hv]; omega)
  have hl2 : 9 ≤ c.length := by
    rcases Nat.lt_or_ge c.length 9 with q | q
    · have h1 := dval_lt hc.1
      have h2 := pow_mono (show c.length ≤ 8 by omega)
      rw [hv] at h1
      omega
    · exact q
  cases c with
  | nil => simp at hl2
  | cons d t =>
    simp only [List.length_cons] at hl1 hl2
    have ht := (Dg.cons.mp hc.1).2
    have h8 : t.length = 8 := by omega
    have h1 := dval_lt ht
    rw [h8] at h1
    rw [val_cons, h8] at hv
    have hd : d = 1 := by omega
    refine ⟨t, ht, h8, by omega, ?_⟩
    rw [he, hd]
    rfl
end Go.Proofs.YtckoipoejaafhaaDoor

namespace Go.Proofs.YtckoipoejaafhaaDoor
open Go.RowKit
set_option maxRecDepth 100000
set_option maxHeartbeats 1000000 in
theorem big_value (w : World) (s : ByteArray) (ds : List Nat) (hB : Bt s (by' ds)) (hd : Dg ds) (h8 : ds.length ≤ 8) :
    Calls Tryd.prog 95 #[.string s] w fun e w' => e = .returned (.int .u64 ((val ds : Nat) : Int)) ∧ w' = w := by
  have hsz : s.size = ds.length := by rw [hB.1, by'_length]
  have hby : Hid (∀ i, i < ds.length → ∀ hs : i < s.size, (s[i]'hs).toNat = 48 + ds.getD i 0) := fun i hi hs => by rw [hB.2 i hs, by'_get ds i hi]
  have hdg : Hid (∀ i, ds.getD i 0 ≤ 9) := fun i => by
    rcases Nat.lt_or_ge i ds.length with q | q
    · rw [show ds.getD i 0 = ds[i] by simp [List.getD, q]]; exact hd _ (List.getElem_mem q)
    · rw [List.getD, List.getElem?_eq_none q]; decide
  have hlt9 : Hid (∀ i, val (ds.take i) < 100000000) := fun i => by
    have h1 := dval_lt (l := ds.take i) (fun d hx => hd d (List.mem_of_mem_take hx))
    have h2 := pow_mono (show (ds.take i).length ≤ 8 by rw [List.length_take]; omega)
    have h3 : (10 : Nat) ^ 8 = 100000000 := by decide
    omega
  have hstep : Hid (∀ i, i < ds.length → val (ds.take (i + 1)) = val (ds.take i) * 10 + ds.getD i 0) := fun i hi => val_take_succ ds i hi
  have hend : Hid (val (ds.take ds.length) = val ds) := by show _ = _; rw [List.take_length]
  have h0 : Hid (val (ds.take 0) = 0) := rfl
  clear hB hd
  generalize hn : ds.length = n at *
  clear hn
  generalize val ds = V at *
  go_enter Tryd.func95, Tryd.ntmps95
  go_wp2
  go_loopw [3, 7] (fun vr vi wr => ∃ (i : Nat), i ≤ n ∧ vi = .int .i64 (i : Int) ∧ vr = .int .u64 ((val (ds.take i) : Nat) : Int) ∧ wr = w)
    (fun _ vi _ => n - (intOf vi).toNat)
  case atStart => exact ⟨0, Nat.zero_le _, rfl, by rw [h0.out]; rfl, rfl⟩
  case round =>
    obtain ⟨i, hi, rfl, rfl, hwr⟩ := hrel
    rw [hwr]
    by_cases hlt : i < n
    · have hb := hby.out i hlt
      have hd := hdg.out i
      have hv := hlt9.out i
      have hs := hstep.out i hlt
      have hs' : Hid (val (ds.take (i + 1)) = val (ds.take i) * 10 + ds.getD i 0) := hs
      clear hs
      generalize val (ds.take i) = x at *
      generalize ds.getD i 0 = d at *
      go_wp2
      go_roundw
      case rel => exact ⟨i + 1, by omega, by go_num, by rw [hs'.out]; refine congrArg (Value.int IntKind.u64) ?_; omega, by trivial⟩
      case measure => simp only [intOf]; omega
    · have e : n = i := by omega
      have hge : n ≤ i := by omega
      have hv : Hid (val (ds.take i) = V) := by show _ = _; rw [← e]; exact hend.out
      clear e
      rw [hv.out]
      go_wp2
      go_ret
      exact ⟨rfl, rfl⟩
set_option maxHeartbeats 1000000 in
theorem big_carried (w : World) (v : Value) (xs : List Nat) (h : IsU w v xs) (hb : ∀ i, xs.getD i 0 ≤ 18000000000000000000) (hl : xs.length ≤ 1000000) (hv : lv xs < 100000000 ^ (xs.length + 1)) :
    Calls Tryd.prog 57 #[v] w fun e w' => ∃ u ys, e = .returned u ∧ IsU w' u ys ∧ Lm ys ∧ ys.length = xs.length + 1 ∧ lv ys = lv xs ∧ Below w.heap.size w w' := by
  have h0 := h
  have hb' : Hid (∀ i, xs.getD i 0 ≤ 18000000000000000000) := hb
  have hend : Hid (∀ cr ys, Cr xs xs.length cr ys → Lm (ys.set xs.length cr) ∧ (ys.set xs.length cr).length = xs.length + 1 ∧ lv (ys.set xs.length cr) = lv xs) := fun cr ys hc => hc.ends hv
  obtain ⟨a, cap, rfl, hcap, hmax, hc, hr⟩ := h
  clear hcap hmax hb hv hr
  go_enter Tryd.func57, Tryd.ntmps57
  go_wp2_with (at_make; refine wp_makeG rfl _ _ rfl (xs.length + 1) (by simp [Act.eval]) (by simp [Act.eval]) (by omega) ?_; intro g w2 hg hrow hb; replace hg : w.heap.size ≤ g := (by rw [hg.out]; exact Nat.le_refl _))
  go_loopw [4, 13] (fun vc vi wr => ∃ (i cr : Nat) (ys : List Nat), i ≤ xs.length ∧ vi = .int .i64 (i : Int) ∧ vc = .int .u64 (cr : Int) ∧ Hid (Cr xs i cr ys) ∧ RowU wr g ys ∧ Below w.heap.size w wr)
    (fun _ vi _ => xs.length - (intOf vi).toNat)
  case atStart => exact ⟨0, 0, _, Nat.zero_le _, rfl, rfl, Cr.start xs, hrow, hb⟩
  case round =>
    clear hrow hb
    obtain ⟨i, cr, ys, hi, rfl, rfl, hCr, hrow, hnx⟩ := hrel
    have hcr := hCr.out.cr1
    have hlen := hCr.out.len
    by_cases hlt : i < xs.length
    · obtain ⟨b, o', rfl, -⟩ := hc i hlt
      have hcell := (h0.below hnx).cell i hlt
      have hcS := hrow.cell i (by omega)
      have hfr := hrow.frozen i
      have hx := hb'.out i
      have hnext : Hid (Cr xs (i + 1) ((xs.getD i 0 + cr) / 100000000) (ys.set i ((xs.getD i 0 + cr) % 100000000))) := hCr.out.step hlt hx
      have hset : Hid (RowU (wr.setCell ⟨g, i, none⟩ (.int .u64 (((xs.getD i 0 + cr) % 100000000 : Nat) : Int))) g (ys.set i ((xs.getD i 0 + cr) % 100000000))) := hrow.set i _
      have hB2 := fun (u : Value) => hnx.setCell (p := ⟨g, i, none⟩) hg u
      generalize ys.set i ((xs.getD i 0 + cr) % 100000000) = ys2 at *
      clear hCr hrow hc h0 hlen
      generalize ys.getD i 0 = old at *
      generalize xs.getD i 0 = x at *
      obtain ⟨z, hz⟩ : ∃ z, z = x + cr := ⟨_, rfl⟩
      have hz1 : (x : Int) + (cr : Int) = (z : Int) := by omega
      have hz2 : z ≤ 18000000200000000000 := by omega
      rw [← hz] at hnext hset
      have hz3 : (z : Int) % 100000000 = ((z % 100000000 : Nat) : Int) := by omega
      have hz4 : (z : Int) / 100000000 = ((z / 100000000 : Nat) : Int) := by omega
      have hz5 : (z : Int).tmod 100000000 = ((z % 100000000 : Nat) : Int) := by rw [Int.tmod_eq_emod_of_nonneg (by omega)]; omega
      have hz6 : (z : Int).tdiv 100000000 = ((z / 100000000 : Nat) : Int) := by rw [Int.tdiv_eq_ediv_of_nonneg (by omega)]; omega
      have hz7 : z % 100000000 < 100000000 := by omega
      have hz8 : z / 100000000 ≤ 200000000000 := by omega
      clear hz
      generalize z % 100000000 = zr at *
      generalize z / 100000000 = zq at *
      go_wp2
      go_roundw
      case rel => exact ⟨i + 1, zq, ys2, by omega, by go_num, rfl, hnext, hset.out, hB2 _⟩
      case measure => simp only [intOf]; omega
    · have e : i = xs.length := by omega
      subst e
      have hge : xs.length ≤ xs.length := Nat.le_refl _
      obtain ⟨e1, e2, e3⟩ := hend.out cr ys hCr.out
      have hcS := hrow.cell xs.length (by omega)
      have hfr := hrow.frozen xs.length
      have hset : Hid (RowU (wr.setCell ⟨g, xs.length, none⟩ (.int .u64 (cr : Int))) g (ys.set xs.length cr)) := hrow.set xs.length _
      have hB2 := fun (u : Value) => hnx.setCell (p := ⟨g, xs.length, none⟩) hg u
      have hRng : Hid (Rng (ys.set xs.length cr)) := fun x hx => by have := e1 x hx; omega
      have f1 : Hid (Lm (ys.set xs.length cr)) := e1
      have f2 : Hid ((ys.set xs.length cr).length = xs.length + 1) := e2
      have f3 : Hid (lv (ys.set xs.length cr) = lv xs) := e3
      clear hc h0 hCr hlen hrow e1 e2 e3 hend hb'
      generalize ys.set xs.length cr = zs at *
      generalize ys.getD xs.length 0 = old at *
      go_wp2
      go_ret
      exact ⟨_, zs, rfl, hset.out.isUN hRng.out (by rw [f2.out]; omega) f2.out, f1.out, f2.out, f3.out, hB2 _⟩
theorem Bt.ext {s : ByteArray} {X : List Nat} (h : Bt s X) (lo hi : Nat) (h1 : lo ≤ hi) (h2 : hi ≤ X.length) : Bt (s.extract lo hi) ((X.take hi).drop lo) := by
  have hsz := h.1
  have e1 : (s.extract lo hi).size = hi - lo := by rw [ByteArray.size_extract]; omega
  refine ⟨by rw [e1, List.length_drop, List.length_take]; omega, fun i hi' => ?_⟩
  rw [ByteArray.getElem_extract]
  rw [h.2 (lo + i) (by omega)]
  rw [e1] at hi'
  simp only [List.getD, List.getElem?_drop]
  rw [List.getElem?_take_of_lt (by omega)]
theorem by'_take (a : List Nat) (n : Nat) : (by' a).take n = by' (a.take n) := by simp [by']
theorem by'_drop (a : List Nat) (n : Nat) : (by' a).drop n = by' (a.drop n) := by simp [by']
theorem cellsU_snoc (xs : List Nat) (z : Nat) : cellsU xs ++ [.int .u64 (z : Int)] = cellsU (xs ++ [z]) := by rw [cellsU_append]; rfl
theorem wp_make0 {ops : Array Oper} {rest : List Oper} {o : Oper} {a : Act} {Q : Exit → Act → World → Prop} {w : World} (hgd : o.guard = none) (l c : Operand) (ho : o.op = Op.makeSlice 23 l c) (n : Nat) (C : Int)
    (hl : a.eval l = .int .i64 0) (hc : a.eval c = .int .i64 C) (hC : C = (n : Int)) (hn : n ≤ 1000000000)
    (h : ∀ u w', w'.ownsRow w.heap.size 34 1 u 0 (cellsU []) → Below w.heap.size w w' → wpList Tryd.prog ops Q rest (a.put o.dst u) w') :
    wpList Tryd.prog ops Q (o :: rest) a w := by
  obtain ⟨i0, hi, hz0, hz1, hz2⟩ := info_parts info_u64
  refine wpList_make_own w hgd l c 23 ho w.heap.size 34 i0 (.int .u64 0) 1 Tryd.underlying23 hi hz0 hz1 .i64 .i64 C n hl hc hC (by rw [hz2]; omega) (by unfold maxLen; omega) (Nat.le_refl _) ?_
  intro w' hown hgrow
  exact h _ w' hown ((Below.refl _ _).grown hgrow (Nat.le_refl _) (fun k hk => by cases hk))
set_option maxHeartbeats 1000000 in
theorem big_limbs (w : World) (s : ByteArray) (a : List Nat) (h : Gd s a) :
    Calls Tryd.prog 55 #[.string s] w fun e w' => ∃ u X, e = .returned u ∧ IsU w' u X ∧ Lm X ∧ lv X = val a ∧ 0 < X.length ∧ X.length ≤ 250 ∧ Below w.heap.size w w' := by
  have hsz := h.1.size
  have h9 := h.2
  have hpos : 0 < a.length := by
    rcases Nat.eq_zero_or_pos a.length with e | e
    · exact absurd (List.eq_nil_of_length_eq_zero e) h.1.1.2.1
    · exact e
  have hst : Hid (∀ X, Lb a X → 8 * X.length < a.length → Lb a (X ++ [val (pce a (a.length - 8 * X.length))])) := fun X hX hlt => hX.step h.1.1.1 hlt
  have hfin : Hid (∀ X, Lb a X → a.length ≤ 8 * X.length → lv X = val a ∧ Lm X ∧ 0 < X.length ∧ X.length ≤ 250) := fun X hX hge => ⟨hX.ends hge, hX.lm, by omega, by have := hX.len; omega⟩
  have cV : Hid (∀ W t, t ≤ a.length → Calls Tryd.prog 95 #[.string (s.extract (t - 8) t)] W fun e w' => e = .returned (.int .u64 ((val (pce a t) : Nat) : Int)) ∧ w' = W) := fun W t ht => by
    have hB := h.1.2.ext (t - 8) t (by omega) (by rw [by'_length]; exact ht)
    rw [by'_take, by'_drop] at hB
    exact big_value W _ (pce a t) hB (pce_dg h.1.1.1 t) (by rw [pce_len ht]; omega)
  have hz8 : Hid (∀ t, t ≤ a.length → val (pce a t) < 100000000) := fun t ht => pce_lt h.1.1.1 ht
  have hs0 : Hid (Lb a []) := Lb.start a
  clear h
  obtain ⟨la, hla⟩ : ∃ la, la = a.length := ⟨_, rfl⟩
  rw [← hla] at hsz h9 hpos hst hfin cV hz8
  clear hla
  have hq : (la : Int).tdiv 8 = ((la / 8 : Nat) : Int) := by rw [Int.tdiv_eq_ediv_of_nonneg (by omega)]; omega
  have hq2 : (la : Int) / 8 = ((la / 8 : Nat) : Int) := by omega
  have hq3 : la / 8 ≤ 250 := by omega
  generalize la / 8 = q8 at *
  go_enter Tryd.func55, Tryd.ntmps55
  go_wp2_with (at_make; refine wp_make0 rfl _ _ rfl (q8 + 1) _ rfl rfl (by omega) (by omega) ?_; intro u0 w2 hown hb)
  clear hq hq2 hq3
  go_loopw [3, 4] (fun vr ve wr => ∃ (X : List Nat) (z : Int), ve = .int .i64 z ∧ z = (la : Int) - 8 * (X.length : Int) ∧ Hid (Lb a X) ∧ wr.ownsRow w.heap.size 34 1 vr X.length (cellsU X) ∧ -8 < z ∧ Below w.heap.size w wr)
    (fun _ ve _ => (intOf ve).toNat)
  case atStart => exact ⟨[], la, rfl, by simp, hs0, hown, by omega, hb⟩
  case round =>
    clear hown hb
    obtain ⟨X, z, rfl, hz, hX, hown, hz8', hnx⟩ := hrel
    by_cases hlt : 0 < z
    · obtain ⟨t, rfl⟩ : ∃ t : Nat, z = (t : Int) := ⟨z.toNat, by omega⟩
      have ht : t ≤ la := by omega
      have hte : la - 8 * X.length = t := by omega
      have hnext := hst.out X hX.out (by omega)
      rw [hte] at hnext
      have hnext' : Hid (Lb a (X ++ [val (pce a t)])) := hnext
      have cv := cV.out wr t ht
      have hzv := hz8.out t ht
      have hXl : X.length ≤ 1000000000 := by omega
      clear hnext hst hfin cV hz8 hX
      generalize val (pce a t) = y at *
      obtain ⟨lo, hlo⟩ : ∃ lo, lo = t - 8 := ⟨_, rfl⟩
      rw [← hlo] at cv
      have hm1 : (if (t : Int) - 8 < 0 then 0 else (t : Int) - 8) = (lo : Int) := by split <;> omega
      have hm2 : (if 0 < (t : Int) - 8 then (t : Int) - 8 else 0) = (lo : Int) := by split <;> omega
      have hm3 : max (0 : Int) ((t : Int) - 8) = (lo : Int) := by omega
      have hm4 : max ((t : Int) - 8) (0 : Int) = (lo : Int) := by omega
      have hlo2 : lo ≤ t := by omega
      have hz' : Hid ((t : Int) = (la : Int) - 8 * (X.length : Int)) := hz
      clear hz hlo hte
      go_wp2_with (first
        | (go_at_call 95; refine Calls.mono cv ?_; rintro e w' ⟨rfl, hw⟩; rw [hw]; clear hw cv)
        | (at_builtin; refine wp_append1 rfl _ _ rfl _ _ _ _ rfl hown rfl ?c3 hnx ?_; rotate_right; intro v' w3 hown3 hnx3))
      case c3 => exact hXl
      rw [cellsU_snoc] at hown3
      go_roundw
      case rel => exact ⟨X ++ [y], (t : Int) - 8, by go_num, by rw [List.length_append]; have := hz'.out; simp; omega, hnext', by rw [List.length_append]; exact hown3, by omega, hnx3⟩
      case measure => simp only [intOf]; omega
    · obtain ⟨f1, f2, f3, f4⟩ := hfin.out X hX.out (by omega)
      have hU := IsU.of_owns hown (fun x hx => by have := f2 x hx; omega)
      obtain ⟨X2, hX2⟩ : ∃ X2, X2 = X := ⟨_, rfl⟩
      have hfin2 : Hid (∃ X, IsU wr u3 X ∧ Lm X ∧ lv X = val a ∧ 0 < X.length ∧ X.length ≤ 250) := ⟨X, hU, f2, f1, f3, f4⟩
      have hU' := hU
      obtain ⟨aa, cc, rfl, -⟩ := hU'
      clear f1 f2 f3 f4 hU hown hst hfin hX cV hz8 hX2 hz
      go_wp2
      go_ret
      obtain ⟨Y, g1, g2, g3, g4, g5⟩ := hfin2.out
      exact ⟨_, rfl, Y, g1, g2, g3, g4, g5, hnx⟩
end Go.Proofs.YtckoipoejaafhaaDoor
