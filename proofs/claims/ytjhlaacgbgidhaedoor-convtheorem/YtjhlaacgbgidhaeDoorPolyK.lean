/-
  What the steps of package poly do to lists: a multiple of a list is added to another one from a place on; products, quotients and polynomials through points as such steps; no program in sight.
-/
import Derived.Test.YtjhlaacgbgidhaeDoorPolyL
namespace Go.Proofs.YtjhlaacgbgidhaeDoor

/-- zs, with c times the first k numbers of ys added from the place off on. -/
def addK (zs : List Nat) (off : Nat) (ys : List Nat) (c : Nat) : Nat → List Nat
  | 0 => zs
  | k + 1 => (addK zs off ys c k).set (off + k) (fA ((addK zs off ys c k).getD (off + k) 0) (fM (ys.getD k 0) c))
theorem addK_length (zs : List Nat) (off : Nat) (ys : List Nat) (c k : Nat) : (addK zs off ys c k).length = zs.length := by
  induction k with
  | zero => rfl
  | succ k ih => rw [addK, List.length_set, ih]
theorem cf_set (l : List Nat) (i x t : Nat) (hi : i < l.length) : cf (l.set i x) t = if t = i then toF x else cf l t := by
  unfold cf
  by_cases h : t = i
  · subst h; simp [List.getD, hi]
  · rw [if_neg h]; simp [List.getD, Ne.symm h]
theorem cf_addK (zs : List Nat) (off : Nat) (ys : List Nat) (c k : Nat) (hk : off + k ≤ zs.length) (t : Nat) : cf (addK zs off ys c k) t = cf zs t + (if off ≤ t ∧ t < off + k then cf ys (t - off) * toF c else 0) := by
  induction k with
  | zero => rw [addK, if_neg (by omega)]; grind
  | succ k ih =>
    rw [addK, cf_set _ _ _ _ (by rw [addK_length]; omega)]
    have ih' := ih (by omega)
    by_cases h : t = off + k
    · rw [if_pos h, if_pos (by omega)]
      subst h
      rw [toF_fA, toF_fM]
      have e : toF ((addK zs off ys c k).getD (off + k) 0) = cf zs (off + k) := by
        have : cf (addK zs off ys c k) (off + k) = cf zs (off + k) := by rw [ih', if_neg (by omega)]; grind
        exact this
      rw [e, show off + k - off = k by omega]; rfl
    · rw [if_neg h, ih']
      by_cases h2 : off ≤ t ∧ t < off + k
      · rw [if_pos h2, if_pos (by omega)]
      · rw [if_neg h2, if_neg (by omega)]
theorem addK_P (zs : List Nat) (off : Nat) (ys : List Nat) (c k : Nat) (h : ∀ x ∈ zs, x < P) : ∀ x ∈ addK zs off ys c k, x < P := by
  induction k with
  | zero => exact h
  | succ k ih =>
    intro x hx
    rcases List.mem_or_eq_of_mem_set hx with h1 | h1
    · exact ih x h1
    · subst h1; have := fA_lt ((addK zs off ys c k).getD (off + k) 0) (fM (ys.getD k 0) c); unfold P; omega
theorem addK_rng (zs : List Nat) (off : Nat) (ys : List Nat) (c k : Nat) (h : ∀ x ∈ zs, (x : Int) < 18446744073709551616) : ∀ x ∈ addK zs off ys c k, (x : Int) < 18446744073709551616 := by
  induction k with
  | zero => exact h
  | succ k ih =>
    intro x hx
    rcases List.mem_or_eq_of_mem_set hx with h1 | h1
    · exact ih x h1
    · subst h1; have := fA_lt ((addK zs off ys c k).getD (off + k) 0) (fM (ys.getD k 0) c); omega
/-- All of ys. -/
def addT (zs : List Nat) (off : Nat) (ys : List Nat) (c : Nat) : List Nat := addK zs off ys c ys.length
theorem addT_length (zs : List Nat) (off : Nat) (ys : List Nat) (c : Nat) : (addT zs off ys c).length = zs.length := addK_length _ _ _ _ _
theorem cf_addT (zs : List Nat) (off : Nat) (ys : List Nat) (c : Nat) (h : off + ys.length ≤ zs.length) (t : Nat) : cf (addT zs off ys c) t = cf zs t + (if off ≤ t then cf ys (t - off) * toF c else 0) := by
  unfold addT
  rw [cf_addK _ _ _ _ _ h]
  by_cases h1 : off ≤ t
  · rw [if_pos h1]
    by_cases h2 : t < off + ys.length
    · rw [if_pos ⟨h1, h2⟩]
    · rw [if_neg (by omega), cf_ge (a := ys) (by omega)]; grind
  · rw [if_neg (by omega), if_neg h1]
theorem ev_addT0 (zs ys : List Nat) (c : Nat) (h : ys.length ≤ zs.length) (x : F) : evF ((addT zs 0 ys c).map toF) x = evF (zs.map toF) x + toF c * evF (ys.map toF) x := by
  rw [← evF_smulF, ← evF_addF]
  refine evF_ext (fun i => ?_) x
  rw [gf_addF, gf_smulF, ← cf_gf, ← cf_gf, ← cf_gf, cf_addT _ _ _ _ (by omega), if_pos (Nat.zero_le _), Nat.sub_zero]
  grind

/-- HORNER: the value of what lies from place i on. -/
def hv (xs : List Nat) (x i : Nat) : Nat := (evF ((xs.drop i).map toF) (toF x)).val
theorem hv_end (xs : List Nat) (x : Nat) : hv xs x xs.length = 0 := by
  unfold hv
  rw [List.drop_length]; rfl
theorem hv_zero (xs : List Nat) (x : Nat) : hv xs x 0 = pE xs x := rfl
theorem hv_lt (xs : List Nat) (x i : Nat) : (hv xs x i : Int) < 18446744069414584321 := lt_int (val_lt _)
theorem hv_step (xs : List Nat) (x i : Nat) (h : i < xs.length) : fA (fM (hv xs x (i + 1)) x) (xs.getD i 0) = hv xs x i := by
  unfold hv
  rw [fA_val, toF_fM, toF_val]
  have e : xs.drop i = xs.getD i 0 :: xs.drop (i + 1) := by
    rw [List.drop_eq_getElem_cons h]
    simp [List.getD, h]
  rw [e, List.map_cons, evF]
  congr 1
  grind

/-- The product, factor by factor. -/
def mulK (x y : List Nat) : Nat → List Nat
  | 0 => List.replicate (x.length + y.length - 1) 0
  | k + 1 => addT (mulK x y k) k y (x.getD k 0)
theorem mulK_length (x y : List Nat) (k : Nat) : (mulK x y k).length = x.length + y.length - 1 := by
  induction k with
  | zero => simp [mulK]
  | succ k ih => rw [mulK, addT_length, ih]
theorem mulK_P (x y : List Nat) (k : Nat) : ∀ z ∈ mulK x y k, z < P := by
  induction k with
  | zero => intro z hz; have := List.eq_of_mem_replicate hz; subst this; decide
  | succ k ih => exact addK_P _ _ _ _ _ ih
theorem cf_replicate (n i : Nat) : cf (List.replicate n 0) i = 0 := by
  unfold cf
  by_cases h : i < n
  · simp [List.getD, h]; rfl
  · simp [List.getD, List.getElem?_eq_none (l := List.replicate n 0) (i := i) (by simp; omega)]; rfl
theorem cf_mulK (x y : List Nat) (k : Nat) (hk : k ≤ x.length) (t : Nat) : cf (mulK x y k) t = S k (fun j => if j ≤ t then cf x j * cf y (t - j) else 0) := by
  induction k with
  | zero => rw [mulK, S_zero, cf_replicate]
  | succ k ih =>
    by_cases hy : y.length = 0
    · have e : y = [] := List.eq_nil_of_length_eq_zero hy
      subst e
      rw [S_zeros]
      · rw [mulK]
        show cf (mulK x [] k) t = 0
        rw [ih (by omega), S_zeros]
        intro j _
        rw [cf_ge (a := []) (by simp)]; split <;> grind
      · intro j _
        rw [cf_ge (a := []) (by simp)]; split <;> grind
    · rw [mulK, cf_addT _ _ _ _ (by rw [mulK_length]; omega), ih (by omega), S_succ]
      congr 1
      by_cases h1 : k ≤ t
      · rw [if_pos h1, if_pos h1]
        show cf y (t - k) * cf x k = _
        grind
      · rw [if_neg h1, if_neg h1]
theorem mulK_all (x y : List Nat) (hx : x.length ≠ 0) (hy : y.length ≠ 0) : mulK x y x.length = pM x y := by
  unfold pM
  rw [if_neg (by omega), eq_mk (mulK_P x y x.length), mulK_length]
  refine mk_congr fun t _ => ?_
  rw [cf_mulK x y _ (Nat.le_refl _)]
  unfold conv
  rw [← S_more (m := x.length) (n := x.length + t + 1) (by omega), S_more (m := t + 1) (n := x.length + t + 1) (by omega)]
  · exact S_congr fun i hi => by rw [if_pos (by omega)]
  · intro i h1 h2
    rw [if_neg (by omega)]
  · intro i h1 h2
    rw [cf_ge (a := x) h1]; split <;> grind

/-- A quotient under way: the numbers from i on are told. -/
def Quo (rs ds qs rs' : List Nat) (i : Nat) : Prop :=
  qs.length = rs.length - (ds.length - 1) ∧ rs'.length = rs.length ∧ (∀ x ∈ qs, x < P) ∧ (∀ x ∈ rs', x < P) ∧ (∀ t, t < i → cf qs t = 0) ∧ (∀ t, i + (ds.length - 1) ≤ t → cf rs' t = 0) ∧
  (∀ t, cf rs t = conv (cf qs) (cf ds) t + cf rs' t) ∧ (i < qs.length → cf qs (qs.length - 1) ≠ 0) ∧ (i = qs.length → rs' = rs)
theorem conv_zero_left {f : Nat → F} (hf : ∀ i, f i = 0) (g : Nat → F) (t : Nat) : conv f g t = 0 := by
  unfold conv
  rw [S_zeros]
  intro i _
  rw [hf i]; grind
theorem Quo_start {rs ds : List Nat} (h : ∀ x ∈ rs, x < P) (hl : ds.length - 1 < rs.length) : Quo rs ds (List.replicate (rs.length - (ds.length - 1)) 0) rs (rs.length - (ds.length - 1)) := by
  refine ⟨by simp, rfl, ?_, h, fun t _ => cf_replicate _ t, fun t ht => cf_ge (by omega), fun t => ?_, fun h => ?_, fun _ => rfl⟩
  · intro x hx; have := List.eq_of_mem_replicate hx; subst this; decide
  · rw [conv_zero_left (fun i => cf_replicate _ i)]; grind
  · simp at h
theorem conv_one {f f' g : Nat → F} {i : Nat} {c : F} (h : ∀ t, f' t = if t = i then c else f t) (h0 : f i = 0) (t : Nat) : conv f' g t = conv f g t + (if i ≤ t then c * g (t - i) else 0) := by
  have e : ∀ n, S n (fun j => f' j * g (t - j)) = S n (fun j => f j * g (t - j)) + (if i < n then c * g (t - i) else 0) := by
    intro n
    induction n with
    | zero => rw [S_zero, S_zero, if_neg (by omega)]; grind
    | succ n ih =>
      rw [S_succ, S_succ, ih, h n]
      by_cases h1 : n = i
      · subst h1
        rw [if_neg (by omega), if_pos rfl, if_pos (by omega), h0]; grind
      · rw [if_neg h1]
        by_cases h2 : i < n
        · rw [if_pos h2, if_pos (by omega)]; grind
        · rw [if_neg h2, if_neg (by omega)]; grind
  unfold conv
  rw [e (t + 1)]
  by_cases h1 : i ≤ t
  · rw [if_pos (by omega), if_pos h1]
  · rw [if_neg (by omega), if_neg h1]
theorem Quo_step {rs ds qs rs' : List Nat} {i v : Nat} (h : Quo rs ds qs rs' (i + 1)) (hi : i + 1 ≤ qs.length) (hd : ds.length ≠ 0) (hl : ds.length - 1 < rs.length) (hrs : rs.length ≠ 0 → cf rs (rs.length - 1) ≠ 0)
    (hv : toF v * cf ds (ds.length - 1) = 1) : Quo rs ds (qs.set i (fM (rs'.getD (i + (ds.length - 1)) 0) v)) (addT rs' i ds (fS 0 (fM (rs'.getD (i + (ds.length - 1)) 0) v))) i := by
  obtain ⟨h1, h2, h3, h4, h5, h6, h7, h8, h9⟩ := h
  generalize hL : ds.length - 1 = L at *
  have hdl : ds.length = L + 1 := by omega
  obtain ⟨c, hc⟩ : ∃ c, c = fM (rs'.getD (i + L) 0) v := ⟨_, rfl⟩
  rw [← hc]
  have hcF : toF c = cf rs' (i + L) * toF v := by rw [hc, toF_fM]; rfl
  have hcP : c < P := by have := fM_lt (rs'.getD (i + L) 0) v; rw [hc]; unfold P; omega
  have hfit : i + ds.length ≤ rs'.length := by omega
  have hcd := fun t => cf_addT rs' i ds (fS 0 c) hfit t
  have hneg : toF (fS 0 c) = 0 - toF c := by rw [toF_fS]; rfl
  have hq := fun t => cf_set qs i c t (by omega)
  refine ⟨by rw [List.length_set, hL]; exact h1, by rw [addT_length]; exact h2, ?_, addK_P _ _ _ _ _ h4, fun t ht => ?_, fun t ht => ?_, fun t => ?_, fun _ => ?_, fun e => ?_⟩
  · intro x hx
    rcases List.mem_or_eq_of_mem_set hx with h | h
    · exact h3 x h
    · subst h; exact hcP
  · rw [hq, if_neg (by omega)]; exact h5 t (by omega)
  · rw [hcd, if_pos (by omega), hneg]
    by_cases e : t = i + L
    · subst e
      rw [hcF, show i + L - i = L by omega]
      grind
    · rw [h6 t (by omega), cf_ge (a := ds) (by omega)]; grind
  · rw [conv_one hq (h5 i (by omega)), hcd, h7 t, hneg]
    by_cases e : i ≤ t
    · rw [if_pos e, if_pos e]; grind
    · rw [if_neg e, if_neg e]; grind
  · rw [List.length_set, hq]
    by_cases e : qs.length - 1 = i
    · rw [if_pos e, hcF]
      have e2 : rs' = rs := h9 (by omega)
      have e3 : i + L = rs.length - 1 := by omega
      rw [e2, e3]
      intro h0
      rcases mul_ne h0 with h | h
      · exact hrs (by omega) h
      · rw [h] at hv
        have : (0 : F) = 1 := by grind
        exact absurd this (by decide)
    · rw [if_neg e]; exact h8 (by omega)
  · rw [List.length_set] at e; omega

theorem Divs_of {xs ys qs rs' : List Nat} (hb : (pN ys).length ≠ 0) (hl : (pN ys).length - 1 < (pN xs).length) (h : Quo (pN xs) (pN ys) qs rs' 0) : Divs xs ys qs (pN rs') := by
  obtain ⟨h1, h2, h3, h4, h5, h6, h7, h8, h9⟩ := h
  refine ⟨pN_self h3 (fun _ => h8 (by omega)), pN_pN _, ?_, fun i => ?_⟩
  · rw [pN_length]
    rcases Nat.lt_or_ge (sig rs') (pN ys).length with h | h
    · exact h
    · exact absurd (h6 (sig rs' - 1) (by omega)) (sig_last rs' (by omega))
  · rw [cf_pN, ← cf_pN xs, h7 i]
    congr 1
    exact conv_congr (fun _ => rfl) (cf_pN ys) i
theorem Divs_small {xs ys : List Nat} (hb : (pN ys).length ≠ 0) (hl : (pN xs).length ≤ (pN ys).length - 1) : Divs xs ys [] (pN (pN xs)) := by
  refine ⟨by simp [pN, sig], pN_pN _, by rw [pN_pN]; omega, fun i => ?_⟩
  rw [conv_zero_left (fun i => cf_ge (by simp)), cf_pN, cf_pN]; grind

/-- The polynomial that is 0 at the first k places. -/
def zp (X : Nat → F) : Nat → F → F
  | 0, _ => 1
  | k + 1, x => zp X k x * (x - X k)
theorem zp_at (X : Nat → F) (k j : Nat) (hj : j < k) : zp X k (X j) = 0 := by
  induction k with
  | zero => omega
  | succ k ih =>
    rw [zp]
    by_cases e : j = k
    · subst e; grind
    · rw [ih (by omega)]; grind
theorem zp_ne (X : Nat → F) (k : Nat) (x : F) (h : ∀ j, j < k → x ≠ X j) : zp X k x ≠ 0 := by
  induction k with
  | zero => rw [zp]; decide
  | succ k ih =>
    rw [zp]
    intro h0
    rcases mul_ne h0 with h1 | h1
    · exact ih (fun j hj => h j (by omega)) h1
    · exact h k (by omega) (by grind)
/-- What holds on the way through points: zeros, and what goes through the first i points. -/
def Zer (xs l : List Nat) (i : Nat) : Prop := l.length = i + 1 ∧ (∀ x ∈ l, (x : Int) < 18446744073709551616) ∧ ∀ x, evF (l.map toF) x = zp (cf xs) i x
def Way (xs ys l : List Nat) (i : Nat) : Prop := l.length = xs.length ∧ (∀ x ∈ l, (x : Int) < 18446744073709551616) ∧ ∀ j, j < i → evF (l.map toF) (cf xs j) = cf ys j
theorem Zer_start (xs : List Nat) : Zer xs [1] 0 := ⟨rfl, by intro x hx; simp at hx; subst hx; decide, fun x => by rw [ev_one, toF_one]; rfl⟩
theorem Way_start (xs ys : List Nat) : Way xs ys (List.replicate xs.length 0) 0 :=
  ⟨by simp, by intro x hx; have := List.eq_of_mem_replicate hx; subst this; decide, fun j hj => by omega⟩
theorem Zer_step {xs l : List Nat} {i : Nat} (h : Zer xs l i) : Zer xs (addT (0 :: l) 0 l (fS 0 (xs.getD i 0))) (i + 1) := by
  obtain ⟨h1, h2, h3⟩ := h
  refine ⟨by rw [addT_length, List.length_cons, h1], addK_rng _ _ _ _ _ ?_, fun x => ?_⟩
  · intro x hx
    rcases List.mem_cons.mp hx with h | h
    · subst h; decide
    · exact h2 x h
  · rw [ev_addT0 _ _ _ (by simp), List.map_cons, evF, h3, zp, toF_fS, toF_zero]
    show 0 + x * _ + (0 - cf xs i) * _ = _
    grind
theorem Way_step {xs ys l z : List Nat} {i v : Nat} (hi : i < xs.length) (h : Way xs ys l i) (hz : Zer xs z i) (hv : zp (cf xs) i (cf xs i) * toF v = 1) :
    Way xs ys (addT l 0 z (fM (fS (ys.getD i 0) (pE l (xs.getD i 0))) v)) (i + 1) := by
  obtain ⟨h1, h2, h3⟩ := h
  refine ⟨by rw [addT_length]; exact h1, addK_rng _ _ _ _ _ h2, fun j hj => ?_⟩
  rw [ev_addT0 _ _ _ (by rw [hz.1, h1]; omega), hz.2.2, toF_fM, toF_fS, toF_pE]
  by_cases e : j = i
  · subst e
    show evF _ (cf xs j) + (cf ys j - evF _ (cf xs j)) * toF v * zp (cf xs) j (cf xs j) = cf ys j
    grind
  · rw [h3 j (by omega), zp_at _ _ _ (by omega)]; grind
theorem Way_end {xs ys l : List Nat} (h : Way xs ys l xs.length) : Goes (pN l) xs.length (cf xs) (cf ys) :=
  ⟨pN_pN _, by rw [pN_length]; have := sig_le l; have := h.1; omega, fun j hj => by rw [ev_pN]; exact h.2.2 j hj⟩

end Go.Proofs.YtjhlaacgbgidhaeDoor
