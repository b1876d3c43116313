/-
  Shares in a map: which place has which symbol; the shares in the order of their places; no program in sight.
-/
import Derived.Test.YtjbdpjbcibhflacShD
namespace Go.Proofs.Ytjbdpjbcibhflac

/-- The symbol at a place, among the first i shares. -/
def lkS (L : List (Int × Nat)) : Nat → Int → Option Nat
  | 0, _ => none
  | i + 1, z => if z = atS L i then some (syS L i) else lkS L i z
theorem lkS_some {L : List (Int × Nat)} {i : Nat} {z : Int} {s : Nat} (h : lkS L i z = some s) : ∃ j, j < i ∧ atS L j = z ∧ syS L j = s := by
  induction i with
  | zero => cases h
  | succ i ih =>
    unfold lkS at h
    split at h
    · next e => exact ⟨i, by omega, e.symm, by simpa using h⟩
    · obtain ⟨j, hj, r⟩ := ih h
      exact ⟨j, by omega, r⟩
theorem lkS_of {L : List (Int × Nat)} {i : Nat} (h : ShK L i) {j : Nat} (hj : j < i) : lkS L i (atS L j) = some (syS L j) := by
  induction i with
  | zero => omega
  | succ i ih =>
    unfold lkS
    rcases Nat.lt_or_ge j i with r | r
    · rw [if_neg (h.2 i j r (by omega))]
      exact ih ⟨fun p hp => h.1 p (by omega), fun p q hq hp => h.2 p q hq (by omega)⟩ r
    · obtain rfl : j = i := by omega
      rw [if_pos rfl]
theorem lkS_none {L : List (Int × Nat)} {i : Nat} {z : Int} (h : ∀ j, j < i → atS L j ≠ z) : lkS L i z = none := by
  rcases e : lkS L i z with _ | s
  · rfl
  · obtain ⟨j, hj, e1, _⟩ := lkS_some e
    exact absurd e1 (h j hj)
/-- The shares that a table of symbols tells, the first n places, in their order. -/
def shr (f : Int → Option Nat) : Nat → List (Int × Nat)
  | 0 => []
  | n + 1 => match f (n : Int) with
    | some s => shr f n ++ [((n : Int), s)]
    | none => shr f n
theorem shr_some {f : Int → Option Nat} {n s : Nat} (h : f (n : Int) = some s) : shr f (n + 1) = shr f n ++ [((n : Int), s)] := by simp only [shr, h]
theorem shr_none {f : Int → Option Nat} {n : Nat} (h : f (n : Int) = none) : shr f (n + 1) = shr f n := by simp only [shr, h]
theorem shr_length (f : Int → Option Nat) (n : Nat) : (shr f n).length ≤ n := by
  induction n with
  | zero => exact Nat.le_refl _
  | succ n ih =>
    rcases e : f (n : Int) with _ | s
    · rw [shr_none e]; omega
    · rw [shr_some e, List.length_append]; simp; exact ih
theorem mem_shr {f : Int → Option Nat} {n : Nat} {p : Int × Nat} : p ∈ shr f n ↔ ∃ t : Nat, t < n ∧ p.1 = (t : Int) ∧ f (t : Int) = some p.2 := by
  induction n with
  | zero => simp [shr]
  | succ n ih =>
    rcases e : f (n : Int) with _ | s
    · rw [shr_none e, ih]
      constructor
      · rintro ⟨t, ht, r⟩
        exact ⟨t, by omega, r⟩
      · rintro ⟨t, ht, r1, r2⟩
        rcases Nat.lt_or_ge t n with h | h
        · exact ⟨t, h, r1, r2⟩
        · obtain rfl : t = n := by omega
          rw [e] at r2; cases r2
    · rw [shr_some e, List.mem_append, ih]
      constructor
      · rintro (⟨t, ht, r⟩ | h)
        · exact ⟨t, by omega, r⟩
        · simp only [List.mem_singleton] at h
          subst h
          exact ⟨n, by omega, rfl, e⟩
      · rintro ⟨t, ht, r1, r2⟩
        rcases Nat.lt_or_ge t n with h | h
        · exact .inl ⟨t, h, r1, r2⟩
        · obtain rfl : t = n := by omega
          rw [e] at r2
          obtain ⟨a, b⟩ := p
          simp only at r1 r2
          cases r2
          rw [r1]
          exact .inr (by simp)
theorem getD_append_one (L : List (Int × Nat)) (p : Int × Nat) (i : Nat) (h : i < L.length) : (L ++ [p]).getD i (0, 0) = L.getD i (0, 0) := by
  simp only [List.getD, List.getElem?_append_left h]
theorem getD_append_last (L : List (Int × Nat)) (p : Int × Nat) : (L ++ [p]).getD L.length (0, 0) = p := by simp [List.getD]
theorem getD_mem {L : List (Int × Nat)} {i : Nat} (h : i < L.length) : L.getD i (0, 0) ∈ L := by
  rw [List.getD, List.getElem?_eq_getElem h]
  exact List.getElem_mem h
theorem atS_shr_lt (f : Int → Option Nat) (n i : Nat) (h : i < (shr f n).length) : 0 ≤ atS (shr f n) i ∧ atS (shr f n) i < n := by
  obtain ⟨t, ht, e, _⟩ := mem_shr.mp (getD_mem h)
  unfold atS
  omega
theorem shr_inc (f : Int → Option Nat) (n : Nat) : ∀ p q, q < p → p < (shr f n).length → atS (shr f n) q < atS (shr f n) p := by
  induction n with
  | zero => intro p q _ hp; simp [shr] at hp
  | succ n ih =>
    rcases e : f (n : Int) with _ | s
    · rw [shr_none e]; exact ih
    · intro p q hq hp
      rw [shr_some e] at hp ⊢
      rw [List.length_append] at hp
      simp only [List.length_singleton] at hp
      rcases Nat.lt_or_ge p (shr f n).length with h | h
      · have := ih p q hq h
        unfold atS at this ⊢
        rw [getD_append_one _ _ _ h, getD_append_one _ _ _ (by omega)]
        exact this
      · obtain rfl : p = (shr f n).length := by omega
        have := (atS_shr_lt f n q hq).2
        unfold atS at this ⊢
        rw [getD_append_one _ _ _ hq, getD_append_last]
        exact this
theorem shr_ShK (f : Int → Option Nat) : ShK (shr f 64) (shr f 64).length := by
  refine ⟨fun p hp => ?_, fun p q hq hp => ?_⟩
  · have := atS_shr_lt f 64 p hp
    omega
  · have := shr_inc f 64 p q hq hp
    omega
theorem Has.iff {d : List Nat} {L : List (Int × Nat)} : Has d L L.length ↔ ∀ p ∈ L, evF (d.map toF) (pw (toF (rt 6)) p.1.toNat) = toF p.2 := by
  constructor
  · intro h p hp
    obtain ⟨i, hi, rfl⟩ := List.getElem_of_mem hp
    have := h i hi
    unfold plS atS syS at this
    rw [List.getD, List.getElem?_eq_getElem hi] at this
    exact this
  · intro h i hi
    exact h _ (getD_mem hi)
theorem mem_places {L : List (Int × Nat)} (h : ShK L L.length) (p : Int × Nat) : p ∈ shr (lkS L L.length) 64 ↔ p ∈ L := by
  rw [mem_shr]
  constructor
  · rintro ⟨t, _, e1, e2⟩
    obtain ⟨j, hj, e3, e4⟩ := lkS_some e2
    have : p = L.getD j (0, 0) := Prod.ext (e1.trans e3.symm) e4.symm
    rw [this]
    exact getD_mem hj
  · intro hp
    obtain ⟨i, hi, rfl⟩ := List.getElem_of_mem hp
    have e : L[i] = L.getD i (0, 0) := by rw [List.getD, List.getElem?_eq_getElem hi]; rfl
    rw [e]
    have h1 := h.1 i hi
    have h2 := lkS_of h hi
    refine ⟨(atS L i).toNat, by omega, ?_, ?_⟩
    · show atS L i = _
      omega
    · rw [show (((atS L i).toNat : Nat) : Int) = atS L i by omega, h2]; rfl
theorem has_places {L : List (Int × Nat)} (h : ShK L L.length) (d : List Nat) : Has d (shr (lkS L L.length) 64) (shr (lkS L L.length) 64).length ↔ Has d L L.length := by
  rw [Has.iff, Has.iff]
  constructor
  · intro r p hp
    exact r p ((mem_places h p).mpr hp)
  · intro r p hp
    exact r p ((mem_places h p).mp hp)
/-- What goes through all shares is no longer than k just if some data of k numbers has them. -/
theorem fit_len {L l : List _} {k : Nat} (h : ShK L L.length) (hl : Goes l (shr (lkS L L.length) 64).length (cf (xsS (shr (lkS L L.length) 64) (shr (lkS L L.length) 64).length)) (cf (ysS (shr (lkS L L.length) 64) (shr (lkS L L.length) 64).length))) :
    (FitK k L ↔ l.length ≤ k) ∧ (l.length ≤ k → (mk k (cf l)).length = k ∧ Has (mk k (cf l)) L L.length) := by
  have hh := (has_places h l).mp hl.has
  have hm : l.length ≤ k → (mk k (cf l)).length = k ∧ Has (mk k (cf l)) L L.length := fun hk =>
    ⟨mk_length _ _, fun i hi => by rw [ev_mk_cf hk]; exact hh i hi⟩
  refine ⟨⟨?_, fun hk => ⟨_, hm hk⟩⟩, hm⟩
  rintro ⟨d, hd, hr⟩
  rcases Nat.lt_or_ge (shr (lkS L L.length) 64).length k with hlt | hge
  · have := hl.2.1
    omega
  · have hr' := (has_places h d).mpr hr
    have := Has.one (shr_ShK _) (by omega) hl.2.1 hr' hl.has
    rw [hl.1] at this
    rw [← this, pN_length]
    have := sig_le d
    omega

end Go.Proofs.Ytjbdpjbcibhflac
