/-
  Shares as points: which data has them as its symbols; one at most where there are enough; no program in sight.
-/
import Derived.Test.YtjbdpjbcibhflacRefShares
import Derived.Test.YtjbdpjbcibhflacRefSyms
namespace Go.Proofs.Ytjbdpjbcibhflac

/-- Share i's symbol. -/
def syS (L : List (Int × Nat)) (i : Nat) : Nat := (L.getD i (0, 0)).2
/-- The place of share i: a power of the root. -/
def plS (L : List (Int × Nat)) (i : Nat) : F := pw (toF (rt 6)) (atS L i).toNat
/-- The list has all these shares as its symbols. -/
def Has (l : List Nat) (L : List (Int × Nat)) (n : Nat) : Prop := ∀ i, i < n → evF (l.map toF) (plS L i) = toF (syS L i)
theorem plS_ne {L : List (Int × Nat)} {n : Nat} (h : ShK L n) {i j : Nat} (hij : i < j) (hj : j < n) : plS L i ≠ plS L j := by
  intro e
  have h1 := h.1 i (by omega)
  have h2 := h.1 j hj
  have := (ord_rt 6 (by omega)).inj (i := (atS L i).toNat) (j := (atS L j).toNat) (by omega) (by omega) e
  exact h.2 j i hij hj (by omega)
theorem Has.nrm {l : List Nat} {L : List (Int × Nat)} {n : Nat} (h : Has l L n) : Has (pN l) L n := fun i hi => by rw [ev_pN]; exact h i hi
theorem ev_mk_cf {l : List Nat} {k : Nat} (hl : l.length ≤ k) (x : F) : evF ((mk k (cf l)).map toF) x = evF (l.map toF) x := by
  apply evF_ext
  intro i
  rw [gf_map, gf_map, cf_mk_of (fun i hi => cf_ge (by omega))]
/-- At most one list of k numbers, where there are k shares. -/
theorem Has.one {a b : List Nat} {L : List (Int × Nat)} {k : Nat} (hS : ShK L k) (ha : a.length ≤ k) (hb : b.length ≤ k) (h1 : Has a L k) (h2 : Has b L k) : pN a = pN b := by
  have g1 : Goes (pN a) k (plS L) (fun i => toF (syS L i)) := ⟨pN_pN _, by rw [pN_length]; have := sig_le a; omega, fun i hi => h1.nrm i hi⟩
  have g2 : Goes (pN b) k (plS L) (fun i => toF (syS L i)) := ⟨pN_pN _, by rw [pN_length]; have := sig_le b; omega, fun i hi => h2.nrm i hi⟩
  exact Goes_unique (fun i j hij hj => plS_ne hS hij hj) g1 g2
/-- The lists that go through the first n shares: what Through is asked. -/
def xsS (L : List (Int × Nat)) (n : Nat) : List Nat := (List.range n).map fun i => fW (rt 6) (atS L i).toNat
def ysS (L : List (Int × Nat)) (n : Nat) : List Nat := (List.range n).map fun i => syS L i
theorem getD_rmap (f : Nat → Nat) (n i : Nat) (h : i < n) : ((List.range n).map f).getD i 0 = f i := by simp [List.getD, h]
theorem xsS_length (L : List (Int × Nat)) (n : Nat) : (xsS L n).length = n := by simp [xsS]
theorem ysS_length (L : List (Int × Nat)) (n : Nat) : (ysS L n).length = n := by simp [ysS]
theorem xsS_cf (L : List (Int × Nat)) (n i : Nat) (h : i < n) : cf (xsS L n) i = plS L i := by
  unfold cf plS xsS
  rw [getD_rmap _ n i h, toF_fW]
theorem ysS_cf (L : List (Int × Nat)) (n i : Nat) (h : i < n) : cf (ysS L n) i = toF (syS L i) := by
  unfold cf ysS
  rw [getD_rmap _ n i h]
theorem Goes.has {l : List Nat} {L : List (Int × Nat)} {n : Nat} (h : Goes l n (cf (xsS L n)) (cf (ysS L n))) : Has l L n := fun i hi => by
  have := h.2.2 i hi
  rw [xsS_cf _ _ _ hi, ysS_cf _ _ _ hi] at this
  exact this
/-- Some list of n numbers goes through n points. -/
theorem goes_ex (xs ys : List Nat) (hd : ∀ i j, i < j → j < xs.length → cf xs i ≠ cf xs j) : ∃ l, Goes l xs.length (cf xs) (cf ys) := by
  have hw : ∀ i, i ≤ xs.length → ∃ l z, Way xs ys l i ∧ Zer xs z i := by
    intro i
    induction i with
    | zero => intro _; exact ⟨_, _, Way_start xs ys, Zer_start xs⟩
    | succ i ih =>
      intro hi
      obtain ⟨l, z, h1, h2⟩ := ih (by omega)
      have hne : zp (cf xs) i (cf xs i) ≠ 0 := zp_ne _ _ _ (fun j hj => (hd j i hj (by omega)).symm)
      have hv : zp (cf xs) i (cf xs i) * toF (inv (zp (cf xs) i (cf xs i))).val = 1 := by rw [toF_val]; exact mul_inv hne
      exact ⟨_, _, Way_step (by omega) h1 h2 hv, Zer_step h2⟩
  obtain ⟨l, _, h, _⟩ := hw _ (Nat.le_refl _)
  exact ⟨_, Way_end h⟩
theorem has_ex {L : List (Int × Nat)} {n : Nat} (hS : ShK L n) : ∃ l, Goes l n (cf (xsS L n)) (cf (ysS L n)) := by
  have := goes_ex (xsS L n) (ysS L n) (fun i j hij hj => by
    rw [xsS_length] at hj
    rw [xsS_cf _ _ _ (by omega), xsS_cf _ _ _ hj]
    exact plS_ne hS hij hj)
  rw [xsS_length] at this
  exact this
/-- Some data of k numbers has all of them. -/
def FitK (k : Nat) (L : List (Int × Nat)) : Prop := ∃ l : List Nat, l.length = k ∧ Has l L L.length
theorem FitK.few {k : Nat} {L : List (Int × Nat)} (hS : ShK L L.length) (h : L.length ≤ k) : FitK k L := by
  obtain ⟨l, hl⟩ := has_ex hS
  refine ⟨mk k (cf l), mk_length _ _, fun i hi => ?_⟩
  rw [ev_mk_cf (by have := hl.2.1; omega)]
  exact hl.has i hi
/-- What goes through the first k is asked of all. -/
theorem FitK.ask {k : Nat} {L : List (Int × Nat)} {l : List Nat} (hS : ShK L L.length) (hk : k ≤ L.length) (hl : Goes l k (cf (xsS L k)) (cf (ysS L k))) : FitK k L ↔ Has l L L.length := by
  have hSk : ShK L k := ⟨fun p hp => hS.1 p (by omega), fun p q hq hp => hS.2 p q hq (by omega)⟩
  constructor
  · rintro ⟨d, hd, hh⟩ i hi
    have := Has.one hSk (by omega) hl.2.1 (fun i hi => hh i (by omega)) hl.has
    rw [hl.1] at this
    rw [← this, ev_pN]
    exact hh i hi
  · intro hh
    refine ⟨mk k (cf l), mk_length _ _, fun i hi => ?_⟩
    rw [ev_mk_cf hl.2.1]
    exact hh i hi
/-- The data that is told: k numbers. -/
theorem Has.data {k : Nat} {L : List (Int × Nat)} {l d : List Nat} (hS : ShK L L.length) (hk : k ≤ L.length) (hl : Goes l k (cf (xsS L k)) (cf (ysS L k))) (hd : d.length = k) (hh : Has d L L.length) : mk k (cf l) = mk k (cf d) := by
  have hSk : ShK L k := ⟨fun p hp => hS.1 p (by omega), fun p q hq hp => hS.2 p q hq (by omega)⟩
  have := Has.one hSk (by omega) hl.2.1 (fun i hi => hh i (by omega)) hl.has
  refine mk_congr fun i _ => ?_
  rw [← cf_pN l, ← this, cf_pN]

end Go.Proofs.Ytjbdpjbcibhflac
