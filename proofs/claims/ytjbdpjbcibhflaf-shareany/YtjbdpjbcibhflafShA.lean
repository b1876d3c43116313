/-
  Shares that are picked one after another out of places that are left: what holds of them; a wrong one is told. No program in sight.
-/
import Derived.Test.YtjbdpjbcibhflafShX
namespace Go.Proofs.Ytjbdpjbcibhflaf

/-- i shares are picked; lf: the places that are left. -/
structure Sel (n : Nat) (xs : List Nat) (i : Nat) (lf : List Nat) (L : List (Int × Nat)) : Prop where
  len : lf.length + i = n
  num : L.length = i
  nod : ∀ p q, p < q → q < lf.length → lf.getD p 0 ≠ lf.getD q 0
  bnd : ∀ p, p < lf.length → lf.getD p 0 < n
  at' : ∀ j, j < i → ∃ p, p < n ∧ L.getD j (0, 0) = ((p : Int), (symF xs p).val) ∧ ∀ q, q < lf.length → lf.getD q 0 ≠ p
  dif : ∀ j j', j < j' → j' < i → (L.getD j (0, 0)).1 ≠ (L.getD j' (0, 0)).1
theorem Sel.start (n : Nat) (xs : List Nat) : Sel n xs 0 (List.range n) [] := by
  refine ⟨by simp, rfl, fun p q hpq hq => ?_, fun p hp => ?_, fun j hj => absurd hj (by omega), fun j j' _ hj => absurd hj (by omega)⟩
  · simp at hq
    simp [List.getD, hq, show p < n by omega]
    omega
  · simp at hp
    simp [List.getD, hp]
/-- A place taken out. -/
def out (lf : List Nat) (t : Nat) : List Nat := lf.take t ++ lf.drop (t + 1)
theorem out_length {lf : List Nat} {t : Nat} (h : t < lf.length) : (out lf t).length + 1 = lf.length := by
  unfold out; rw [List.length_append, List.length_take, List.length_drop]; omega
theorem out_get {lf : List Nat} {t : Nat} (h : t < lf.length) (j : Nat) : (out lf t).getD j 0 = lf.getD (if j < t then j else j + 1) 0 := by
  unfold out
  rw [List.getD, List.getD]
  by_cases q : j < t
  · rw [if_pos q, List.getElem?_append_left (by rw [List.length_take]; omega), List.getElem?_take_of_lt q]
  · rw [if_neg q, List.getElem?_append_right (by rw [List.length_take]; omega), List.length_take, show min t lf.length = t by omega, List.getElem?_drop, show t + 1 + (j - t) = j + 1 by omega]
theorem getD_snoc {α : Type} (L : List α) (x d : α) (j : Nat) : (L ++ [x]).getD j d = if j < L.length then L.getD j d else if j = L.length then x else d := by
  rw [List.getD, List.getD]
  by_cases q : j < L.length
  · rw [if_pos q, List.getElem?_append_left q]
  · rw [if_neg q, List.getElem?_append_right (by omega)]
    by_cases e : j = L.length
    · rw [if_pos e, e, Nat.sub_self]; rfl
    · rw [if_neg e, List.getElem?_eq_none (by simp; omega)]; rfl
theorem Sel.step {n : Nat} {xs : List Nat} {i : Nat} {lf : List Nat} {L : List (Int × Nat)} (h : Sel n xs i lf L) {t : Nat} (ht : t < lf.length) :
    Sel n xs (i + 1) (out lf t) (L ++ [(((lf.getD t 0 : Nat) : Int), (symF xs (lf.getD t 0)).val)]) := by
  have hl := out_length ht
  have hn := h.num
  refine ⟨by have := h.len; omega, by rw [List.length_append, h.num]; rfl, fun p q hpq hq => ?_, fun p hp => ?_, fun j hj => ?_, fun j j' hjj hj' => ?_⟩
  · rw [out_get ht, out_get ht]
    exact h.nod _ _ (by split <;> split <;> omega) (by split <;> omega)
  · rw [out_get ht]
    exact h.bnd _ (by split <;> omega)
  · rw [getD_snoc, hn]
    by_cases q : j < i
    · rw [if_pos q]
      obtain ⟨p, h1, h2, h3⟩ := h.at' j q
      exact ⟨p, h1, h2, fun r hr => by rw [out_get ht]; exact h3 _ (by split <;> omega)⟩
    · rw [if_neg q, if_pos (by omega)]
      refine ⟨lf.getD t 0, h.bnd t ht, rfl, fun r hr => ?_⟩
      rw [out_get ht]
      by_cases q2 : r < t
      · rw [if_pos q2]; exact h.nod r t q2 ht
      · rw [if_neg q2]; exact (h.nod t (r + 1) (by omega) (by omega)).symm
  · rw [getD_snoc, getD_snoc, hn, if_pos (by omega)]
    by_cases q : j' < i
    · rw [if_pos q]; exact h.dif j j' hjj q
    · rw [if_neg q, if_pos (by omega)]
      obtain ⟨p, _, h2, h3⟩ := h.at' j (by omega)
      rw [h2]
      intro e
      have e2 : (p : Int) = ((lf.getD t 0 : Nat) : Int) := e
      exact h3 t ht (by omega)
theorem Sel.shk {n : Nat} {xs : List Nat} {i : Nat} {lf : List Nat} {L : List (Int × Nat)} (h : Sel n xs i lf L) (hn : n ≤ 64) : ShK L i := by
  refine ⟨fun p hp => ?_, fun p q hq hp => h.dif q p hq hp⟩
  obtain ⟨r, h1, h2, _⟩ := h.at' p hp
  unfold atS
  rw [h2]
  show 0 ≤ (r : Int) ∧ (r : Int) ≤ 63
  omega
theorem Sel.has {n : Nat} {xs : List Nat} {i : Nat} {lf : List Nat} {L : List (Int × Nat)} (h : Sel n xs i lf L) : Has xs L i := fun j hj => by
  obtain ⟨p, _, h2, _⟩ := h.at' j hj
  unfold plS atS syS
  rw [h2]
  show evF _ (pw _ (p : Int).toNat) = toF (symF xs p).val
  rw [toF_val, Int.toNat_natCast]; rfl
theorem Sel.rng {n : Nat} {xs : List Nat} {i : Nat} {lf : List Nat} {L : List (Int × Nat)} (h : Sel n xs i lf L) (hn : n ≤ 64) : ∀ r ∈ L, (-9223372036854775808 ≤ r.1 ∧ r.1 ≤ 9223372036854775807) ∧ r.2 < 18446744073709551616 := fun r hr => by
  obtain ⟨j, hj, rfl⟩ := List.mem_iff_getElem.mp hr
  obtain ⟨p, h1, h2, _⟩ := h.at' j (by rw [← h.num]; exact hj)
  rw [List.getD, List.getElem?_eq_getElem hj] at h2
  have h3 : L[j] = ((p : Int), (symF xs p).val) := h2
  rw [h3]
  have := val_lt (symF xs p)
  unfold P at this
  exact ⟨⟨by show _ ≤ (p : Int); omega, by show (p : Int) ≤ _; omega⟩, by show (symF xs p).val < _; omega⟩
/-! ### What Recover and Fits answer of them -/
theorem shE_of {k : Nat} {L : List (Int × Nat)} (hk : 1 ≤ k ∧ k ≤ 64) (h : ShK L L.length) : shE (k : Int) L = 0 := shE_ok (by omega) h
theorem shk_take {L : List (Int × Nat)} {k : Nat} (h : ShK L L.length) (hk : k ≤ L.length) : ShK (L.take k) (L.take k).length := by
  have hl : (L.take k).length = k := by rw [List.length_take]; omega
  have hg : ∀ p, p < k → atS (L.take k) p = atS L p := fun p hp => by unfold atS; rw [List.getD, List.getElem?_take_of_lt hp]; rfl
  rw [hl]
  exact ⟨fun p hp => by rw [hg p hp]; exact h.1 p (by omega), fun p q hq hp => by rw [hg p hp, hg q (by omega)]; exact h.2 p q hq (by omega)⟩
theorem has_take {l : List Nat} {L : List (Int × Nat)} {k : Nat} (h : Has l L L.length) (hk : k ≤ L.length) : Has l (L.take k) (L.take k).length := fun i hi => by
  rw [List.length_take] at hi
  have e : (L.take k).getD i (0, 0) = L.getD i (0, 0) := by rw [List.getD, List.getElem?_take_of_lt (by omega)]; rfl
  unfold plS atS syS
  rw [e]
  exact h i (by omega)
theorem rc_ok {xs : List Nat} {L : List (Int × Nat)} (hk : 1 ≤ xs.length ∧ xs.length ≤ 64) (hS : ShK L L.length) (hl : xs.length ≤ L.length) (hH : Has xs L L.length) : rcE (xs.length : Int) L = 0 ∧ rcL (xs.length : Int) L = mk xs.length (cf xs) := by
  obtain ⟨h1, h2, _⟩ := rcE_ok (shE_of hk hS) (by omega) (d := xs) (by simp) hH
  exact ⟨h1, by rw [h2]; rfl⟩
theorem tail_at (L : List (Int × Nat)) (i : Nat) : L.tail.getD i (0, 0) = L.getD (i + 1) (0, 0) := by cases L <;> simp [List.getD]
/-- One more share than numbers, and the first one's symbol is wrong: it doesn't fit. -/
theorem rc_wrong {xs : List Nat} {L : List (Int × Nat)} {z : Nat} (hk : 1 ≤ xs.length ∧ xs.length ≤ 64) (hS : ShK L L.length) (hl : xs.length < L.length) (hH : Has xs L L.length) (hz : toF z ≠ toF (syS L 0)) :
    shE (xs.length : Int) (L.set 0 (atS L 0, z)) = 0 ∧ rcE (xs.length : Int) (L.set 0 (atS L 0, z)) = 5 ∧ ftB (xs.length : Int) (L.set 0 (atS L 0, z)) = false := by
  obtain ⟨M, hM⟩ : ∃ M, M = L.set 0 (atS L 0, z) := ⟨_, rfl⟩
  rw [← hM]
  have hlen : M.length = L.length := by rw [hM, List.length_set]
  have h0 : M.getD 0 (0, 0) = (atS L 0, z) := by rw [hM, List.getD, List.getElem?_set_self (by omega)]; rfl
  have hs : ∀ j, 0 < j → M.getD j (0, 0) = L.getD j (0, 0) := fun j hj => by rw [hM, List.getD, List.getElem?_set_ne (by omega)]; rfl
  have hat : ∀ j, atS M j = atS L j := fun j => by
    rcases Nat.eq_zero_or_pos j with q | q
    · subst q; unfold atS; rw [h0]; rfl
    · unfold atS; rw [hs j q]
  have hSM : ShK M M.length := by
    rw [hlen]
    exact ⟨fun p hp => by rw [hat]; exact hS.1 p hp, fun p q hq hp => by rw [hat, hat]; exact hS.2 p q hq hp⟩
  have hE := shE_of hk hSM
  have hno : ¬ FitK (xs.length : Int).toNat M := by
    rintro ⟨d, hd, hh⟩
    rw [Int.toNat_natCast] at hd
    -- the shares behind the first
    have hpt : ∀ i, plS L.tail i = plS L (i + 1) := fun i => by unfold plS atS; rw [tail_at]
    have hyt : ∀ i, syS L.tail i = syS L (i + 1) := fun i => by unfold syS; rw [tail_at]
    have hSt : ShK L.tail xs.length := by
      have ha : ∀ i, atS L.tail i = atS L (i + 1) := fun i => by unfold atS; rw [tail_at]
      exact ⟨fun p hp => by rw [ha]; exact hS.1 (p + 1) (by omega), fun p q hq hp => by rw [ha, ha]; exact hS.2 (p + 1) (q + 1) (by omega) (by omega)⟩
    have g1 : Has d L.tail xs.length := fun i hi => by
      have := hh (i + 1) (by omega)
      unfold plS syS at this
      rw [hat, hs (i + 1) (by omega)] at this
      rw [hpt, hyt]
      exact this
    have g2 : Has xs L.tail xs.length := fun i hi => by
      rw [hpt, hyt]
      exact hH (i + 1) (by omega)
    have e := Has.one hSt (by omega) (Nat.le_refl _) g1 g2
    have a1 := hh 0 (by omega)
    have a2 := hH 0 (by omega)
    have ep : plS M 0 = plS L 0 := by unfold plS; rw [hat]
    rw [ep, ← ev_pN, e, ev_pN, a2] at a1
    apply hz
    rw [a1]
    unfold syS
    rw [h0]
  obtain ⟨r1, _, r3⟩ := rcE_form hE (by omega) hno
  exact ⟨hE, r1, r3⟩
theorem enL_ex : enE [5, 0] 3 = 0 ∧ enL [5, 0] 3 = [5, 5, 5] := by
  have hok : EnOk [5, 0] 3 := ⟨by decide, by decide, by decide⟩
  refine ⟨if_pos hok, ?_⟩
  unfold enL
  rw [if_pos hok]
  have h : ∀ i, symF [5, 0] i = toF 5 := fun i => by
    unfold symF
    simp only [List.map_cons, List.map_nil, evF]
    have : toF 0 = 0 := rfl
    rw [this]
    grind
  show mk 3 _ = _
  rw [mk_congr (g := fun _ => toF 5) (fun i _ => h i)]
  rfl

end Go.Proofs.Ytjbdpjbcibhflaf
