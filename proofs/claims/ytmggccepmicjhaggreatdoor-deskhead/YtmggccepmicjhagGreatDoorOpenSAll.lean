/-
  Texts that stood one behind the other, as one.
-/
import Derived.Test.YtmggccepmicjhagGreatDoorOpenTAll
import Derived.Test.YtmggccepmicjhagGreatDoorSlMakeAll
import Derived.BigQuiet
import Derived.Test.YtmggccepmicjhagGreatDoorRefAll
import Derived.Test.YtmggccepmicjhagGreatDoorRefPhasesAll
import Derived.Test.YtmggccepmicjhagGreatDoorSlAll
/-! What came in as a slice of shares (an int and a number each) reads as a list of pairs. -/
namespace Go.Proofs.YtmggccepmicjhagGreatDoor
open Go.RowKit Go.ChangeShapes Go.WideShapes

theorem u64_nat {a : Int} (h : (Lit.int .u64 a).wf = true) : ∃ n : Nat, a = (n : Int) ∧ (n : Int) < 18446744073709551616 := by
  have b := bounds_u64 h
  exact ⟨a.toNat, by omega, by omega⟩
/-- The struct's fields are an int and a number. -/
def ShrFields (P : Program) (t : TypeId) : Prop := ∃ (fs : Array Field) (f0 f1 : Field), P.underlying t = some (.struct fs) ∧ P.cellsOf t = 2 ∧ fs.size = 2 ∧ fs[0]? = some f0 ∧ fs[1]? = some f1 ∧ f0.offset = 0 ∧ P.cellsOf f0.type = 1 ∧ P.underlying f0.type = some (.int .i64) ∧ f1.offset = 1 ∧ P.cellsOf f1.type = 1 ∧ P.underlying f1.type = some (.int .u64)
/-- A slice of shares reads as a list of pairs. -/
def IsS (w : World) (v : Value) (L : List (Int × Nat)) : Prop :=
  ∃ (a : Option Addr) (cap : Nat), v = .slice a L.length cap ∧ L.length ≤ cap ∧ cap ≤ maxLen ∧
    (∀ i, i < L.length → ∃ b off, a = some ⟨b, off, none⟩ ∧ w.cell? ⟨b, off + i * 2, none⟩ = some (.int .i64 (L.getD i (0, 0)).1) ∧ w.cell? ⟨b, off + (i * 2 + 1), none⟩ = some (.int .u64 (((L.getD i (0, 0)).2 : Nat) : Int))) ∧
    (∀ r ∈ L, (-9223372036854775808 ≤ r.1 ∧ r.1 ≤ 9223372036854775807) ∧ r.2 < 18446744073709551616)
theorem IsS.below {w w' : World} {v : Value} {L : List (Int × Nat)} (h : IsS w v L) (hb : Below w.heap.size w w') : IsS w' v L := by
  obtain ⟨a, cap, rfl, h1, h2, hc, hr⟩ := h
  refine ⟨a, cap, rfl, h1, h2, fun i hi => ?_, hr⟩
  obtain ⟨b, off, rfl, c0, c1⟩ := hc i hi
  exact ⟨b, off, rfl, (hb.cell (block_lt c0)).trans c0, (hb.cell (block_lt c1)).trans c1⟩
theorem IsS.nil (w : World) : IsS w (.slice none 0 0) [] :=
  ⟨none, 0, rfl, by simp, by simp [maxLen], fun i hi => by simp at hi, fun r hr => by cases hr⟩
section
variable {H : Type} {enc : TypeId × Value → H} {P : Program} {w : World} {base : Nat} {spare : Nat → Bool} {held : Bool} {t e : TypeId} {d : DataW H} {p : List MemPlace}
theorem trod_share {fuel : Nat} {cs : List Value} {x : DataW H × List MemPlace} (hf : ShrFields P t) (h : DataW.trod enc P w base spare held fuel t cs = some x) :
    ∃ (z : Int) (y : Nat), cs.length = 2 ∧ cs[0]? = some (.int .i64 z) ∧ cs[1]? = some (.int .u64 (y : Int)) ∧ (-9223372036854775808 ≤ z ∧ z ≤ 9223372036854775807) ∧ y < 18446744073709551616 := by
  obtain ⟨fs, f0, f1, ht, hc, hs, h0, h1, o0, c0, u0, o1, c1, u1⟩ := hf
  obtain ⟨xs, m, _, _, hl, hxs, hx⟩ := DataW.trod_struct ht h
  have hx0 := hx 0 _ h0
  have hx1 := hx 1 _ h1
  have e0 : xs[0]? = some (xs[0]'(by omega)) := List.getElem?_eq_getElem _
  have e1 : xs[1]? = some (xs[1]'(by omega)) := List.getElem?_eq_getElem _
  rw [e0, o0, c0] at hx0
  rw [e1, o1, c1] at hx1
  obtain ⟨z, ez, _, hz⟩ := DataW.trod_int u0 hx0
  obtain ⟨y, ey, _, hy⟩ := DataW.trod_int u1 hx1
  obtain ⟨y', rfl, hy'⟩ := u64_nat hy
  refine ⟨z, y', by rw [hl, hc], ?_, ?_, bounds_i64 hz, by omega⟩
  · have := congrArg (fun (l : List Value) => l[0]?) ez
    simpa [List.getElem?_take, List.getElem?_drop] using this
  · have := congrArg (fun (l : List Value) => l[0]?) ey
    simpa [List.getElem?_take, List.getElem?_drop] using this
theorem trod_shares {fuel : Nat} {cs : List Value} {x : DataW H × List MemPlace} (ht : P.underlying t = some (.slice e)) (hf : ShrFields P e) (h : DataW.trod enc P w base spare held fuel t cs = some x) :
    ∃ v L, cs = [v] ∧ IsS w v L := by
  have hc : P.cellsOf e = 2 := by obtain ⟨_, _, _, _, h, _⟩ := hf; exact h
  rcases DataW.trod_slice ht h with ⟨rfl, rfl⟩ | ⟨a, len, cap, elems, rest, m, _, rfl, rfl, hb, hl, hm, hlen, hel, _, _⟩
  · exact ⟨_, [], rfl, IsS.nil w⟩
  · have hrow : ∀ i, i < len → ∃ y : Int × Nat, w.cell? (a.add (i * 2)) = some (.int .i64 y.1) ∧ w.cell? (a.add (i * 2 + 1)) = some (.int .u64 (y.2 : Int)) ∧ (-9223372036854775808 ≤ y.1 ∧ y.1 ≤ 9223372036854775807) ∧ y.2 < 18446744073709551616 := by
      intro i hi
      have h1 := hel i hi
      have hsome : elems[i]? = some (elems[i]'(by omega)) := List.getElem?_eq_getElem _
      rw [hsome, hc] at h1
      obtain ⟨cs, hcs, htr⟩ := Option.bind_eq_some_iff.mp h1
      obtain ⟨z, y, hl2, ez, ey, hz, hy⟩ := trod_share hf htr
      obtain ⟨_, _, hcell⟩ := World.cells?_some hcs
      have q0 := hcell 0 (by omega)
      have q1 := hcell 1 (by omega)
      rw [Addr.add_add, Nat.add_zero, ez] at q0
      rw [Addr.add_add, ey] at q1
      exact ⟨(z, y), q0, q1, hz, hy⟩
    obtain ⟨L, hL, hQ⟩ := list_all (0, 0) (fun i (y : Int × Nat) => w.cell? (a.add (i * 2)) = some (.int .i64 y.1) ∧ w.cell? (a.add (i * 2 + 1)) = some (.int .u64 (y.2 : Int)) ∧ (-9223372036854775808 ≤ y.1 ∧ y.1 ≤ 9223372036854775807) ∧ y.2 < 18446744073709551616) len hrow
    refine ⟨_, L, rfl, some a, cap, by rw [hL], by omega, hm, fun i hi => ?_, fun r hr => ?_⟩
    · obtain ⟨c0, c1, _, _⟩ := hQ i (by omega)
      obtain ⟨b0, _, _, _⟩ := hQ 0 (by omega)
      obtain ⟨b, off, spot⟩ := a
      have hspot : spot = none := by simpa [Addr.add] using World.cell?_spot b0
      subst hspot
      exact ⟨b, off, rfl, by rw [← add_plain]; exact c0, by rw [← add_plain]; exact c1⟩
    · obtain ⟨i, hi, rfl⟩ := List.mem_iff_getElem.mp hr
      obtain ⟨_, _, h1, h2⟩ := hQ i (by omega)
      rw [List.getD, List.getElem?_eq_getElem hi] at h1 h2
      exact ⟨h1, h2⟩
/-- A slice of shares that came in. -/
theorem isS_of_arg {v : Value} {r : Reach} {b0 : Nat} (ht : P.underlying t = some (.slice e)) (hf : ShrFields P e) (hval : Value.okWide P w r b0 t v) (h : DataW.Trod enc P w base spare held t v d p) : ∃ L, IsS w v L := by
  obtain ⟨a, len, cap, rfl⟩ := okWide_slice ht hval
  obtain ⟨fuel, h⟩ := h
  obtain ⟨v, L, e, hL⟩ := trod_shares ht hf h
  have e2 : [Value.slice a len cap] = [v] := e
  rw [List.cons.inj e2 |>.1]
  exact ⟨L, hL⟩
end

end Go.Proofs.YtmggccepmicjhagGreatDoor

/-! What Shares of package goldref answers: what is wrong with shares. -/
namespace Go.Proofs.YtmggccepmicjhagGreatDoor
open Go.RowKit
set_option maxRecDepth 100000

/-- Where share i stands. -/
def atS (L : List (Int × Nat)) (i : Nat) : Int := (L.getD i (0, 0)).1
/-- The first i shares stand where they may, no two at one place. -/
def ShK (L : List (Int × Nat)) (i : Nat) : Prop := (∀ p, p < i → 0 ≤ atS L p ∧ atS L p ≤ 63) ∧ ∀ p q, q < p → p < i → atS L q ≠ atS L p
theorem ShK.zero (L : List (Int × Nat)) : ShK L 0 := ⟨fun p hp => by omega, fun p q _ hp => by omega⟩
theorem ShK.succ {L : List (Int × Nat)} {i : Nat} (h : ShK L i) (h1 : 0 ≤ atS L i ∧ atS L i ≤ 63) (h2 : ∀ q, q < i → atS L q ≠ atS L i) : ShK L (i + 1) := by
  refine ⟨fun p hp => ?_, fun p q hq hp => ?_⟩
  · rcases Nat.lt_or_ge p i with r | r
    · exact h.1 p r
    · obtain rfl : p = i := by omega
      exact h1
  · rcases Nat.lt_or_ge p i with r | r
    · exact h.2 p q hq r
    · obtain rfl : p = i := by omega
      exact h2 q hq
open Classical in
/-- The error of shares. -/
noncomputable def shE (k : Int) (L : List (Int × Nat)) : Int := if 1 ≤ k ∧ k ≤ 64 then (if ShK L L.length then 0 else 5) else 1
theorem shE_arg {k : Int} {L : List (Int × Nat)} (h : ¬ (1 ≤ k ∧ k ≤ 64)) : shE k L = 1 := by unfold shE; rw [if_neg h]
theorem shE_ok {k : Int} {L : List (Int × Nat)} (h : 1 ≤ k ∧ k ≤ 64) (h2 : ShK L L.length) : shE k L = 0 := by unfold shE; rw [if_pos h, if_pos h2]
theorem shE_form {k : Int} {L : List (Int × Nat)} (h : 1 ≤ k ∧ k ≤ 64) (h2 : ¬ ShK L L.length) : shE k L = 5 := by unfold shE; rw [if_pos h, if_neg h2]

end Go.Proofs.YtmggccepmicjhagGreatDoor

/-! Shares as points: which data has them as its symbols; one at most where there are enough; no program in sight. -/
namespace Go.Proofs.YtmggccepmicjhagGreatDoor

/-- Share i's symbol. -/
def syS (L : List (Int × Nat)) (i : Nat) : Nat := (L.getD i (0, 0)).2
/-- The place of share i: a power of the root. -/
def plS (L : List (Int × Nat)) (i : Nat) : F := pw (toF (rt 6)) (atS L i).toNat
/-- The list has all these shares as its symbols. -/
def Has (l : List Nat) (L : List (Int × Nat)) (n : Nat) : Prop := ∀ i, i < n → evF (l.map toF) (plS L i) = toF (syS L i)
theorem plS_ne {L : List (Int × Nat)} {n : Nat} (h : ShK L n) {i j : Nat} (hij : i < j) (hj : j < n) : plS L i ≠ plS L j := by
  intro e
  have h1 := h.1 i (by omega)
  have h2 := h.1 j hj
  have := (ord_rt 6 (by omega)).inj (i := (atS L i).toNat) (j := (atS L j).toNat) (by omega) (by omega) e
  exact h.2 j i hij hj (by omega)
theorem Has.nrm {l : List Nat} {L : List (Int × Nat)} {n : Nat} (h : Has l L n) : Has (pN l) L n := fun i hi => by rw [ev_pN]; exact h i hi
theorem ev_mk_cf {l : List Nat} {k : Nat} (hl : l.length ≤ k) (x : F) : evF ((mk k (cf l)).map toF) x = evF (l.map toF) x := by
  apply evF_ext
  intro i
  rw [gf_map, gf_map, cf_mk_of (fun i hi => cf_ge (by omega))]
/-- At most one list of k numbers, where there are k shares. -/
theorem Has.one {a b : List Nat} {L : List (Int × Nat)} {k : Nat} (hS : ShK L k) (ha : a.length ≤ k) (hb : b.length ≤ k) (h1 : Has a L k) (h2 : Has b L k) : pN a = pN b := by
  have g1 : Goes (pN a) k (plS L) (fun i => toF (syS L i)) := ⟨pN_pN _, by rw [pN_length]; have := sig_le a; omega, fun i hi => h1.nrm i hi⟩
  have g2 : Goes (pN b) k (plS L) (fun i => toF (syS L i)) := ⟨pN_pN _, by rw [pN_length]; have := sig_le b; omega, fun i hi => h2.nrm i hi⟩
  exact Goes_unique (fun i j hij hj => plS_ne hS hij hj) g1 g2
/-- The lists that go through the first n shares: what Through is asked. -/
def xsS (L : List (Int × Nat)) (n : Nat) : List Nat := (List.range n).map fun i => fW (rt 6) (atS L i).toNat
def ysS (L : List (Int × Nat)) (n : Nat) : List Nat := (List.range n).map fun i => syS L i
theorem getD_rmap (f : Nat → Nat) (n i : Nat) (h : i < n) : ((List.range n).map f).getD i 0 = f i := by simp [List.getD, h]
theorem xsS_length (L : List (Int × Nat)) (n : Nat) : (xsS L n).length = n := by simp [xsS]
theorem ysS_length (L : List (Int × Nat)) (n : Nat) : (ysS L n).length = n := by simp [ysS]
theorem xsS_cf (L : List (Int × Nat)) (n i : Nat) (h : i < n) : cf (xsS L n) i = plS L i := by
  unfold cf plS xsS
  rw [getD_rmap _ n i h, toF_fW]
theorem ysS_cf (L : List (Int × Nat)) (n i : Nat) (h : i < n) : cf (ysS L n) i = toF (syS L i) := by
  unfold cf ysS
  rw [getD_rmap _ n i h]
theorem Goes.has {l : List Nat} {L : List (Int × Nat)} {n : Nat} (h : Goes l n (cf (xsS L n)) (cf (ysS L n))) : Has l L n := fun i hi => by
  have := h.2.2 i hi
  rw [xsS_cf _ _ _ hi, ysS_cf _ _ _ hi] at this
  exact this
/-- Some list of n numbers goes through n points. -/
theorem goes_ex (xs ys : List Nat) (hd : ∀ i j, i < j → j < xs.length → cf xs i ≠ cf xs j) : ∃ l, Goes l xs.length (cf xs) (cf ys) := by
  have hw : ∀ i, i ≤ xs.length → ∃ l z, Way xs ys l i ∧ Zer xs z i := by
    intro i
    induction i with
    | zero => intro _; exact ⟨_, _, Way_start xs ys, Zer_start xs⟩
    | succ i ih =>
      intro hi
      obtain ⟨l, z, h1, h2⟩ := ih (by omega)
      have hne : zp (cf xs) i (cf xs i) ≠ 0 := zp_ne _ _ _ (fun j hj => (hd j i hj (by omega)).symm)
      have hv : zp (cf xs) i (cf xs i) * toF (inv (zp (cf xs) i (cf xs i))).val = 1 := by rw [toF_val]; exact mul_inv hne
      exact ⟨_, _, Way_step (by omega) h1 h2 hv, Zer_step h2⟩
  obtain ⟨l, _, h, _⟩ := hw _ (Nat.le_refl _)
  exact ⟨_, Way_end h⟩
theorem has_ex {L : List (Int × Nat)} {n : Nat} (hS : ShK L n) : ∃ l, Goes l n (cf (xsS L n)) (cf (ysS L n)) := by
  have := goes_ex (xsS L n) (ysS L n) (fun i j hij hj => by
    rw [xsS_length] at hj
    rw [xsS_cf _ _ _ (by omega), xsS_cf _ _ _ hj]
    exact plS_ne hS hij hj)
  rw [xsS_length] at this
  exact this
/-- Some data of k numbers has all of them. -/
def FitK (k : Nat) (L : List (Int × Nat)) : Prop := ∃ l : List Nat, l.length = k ∧ Has l L L.length
theorem FitK.few {k : Nat} {L : List (Int × Nat)} (hS : ShK L L.length) (h : L.length ≤ k) : FitK k L := by
  obtain ⟨l, hl⟩ := has_ex hS
  refine ⟨mk k (cf l), mk_length _ _, fun i hi => ?_⟩
  rw [ev_mk_cf (by have := hl.2.1; omega)]
  exact hl.has i hi
/-- What goes through the first k is asked of all. -/
theorem FitK.ask {k : Nat} {L : List (Int × Nat)} {l : List Nat} (hS : ShK L L.length) (hk : k ≤ L.length) (hl : Goes l k (cf (xsS L k)) (cf (ysS L k))) : FitK k L ↔ Has l L L.length := by
  have hSk : ShK L k := ⟨fun p hp => hS.1 p (by omega), fun p q hq hp => hS.2 p q hq (by omega)⟩
  constructor
  · rintro ⟨d, hd, hh⟩ i hi
    have := Has.one hSk (by omega) hl.2.1 (fun i hi => hh i (by omega)) hl.has
    rw [hl.1] at this
    rw [← this, ev_pN]
    exact hh i hi
  · intro hh
    refine ⟨mk k (cf l), mk_length _ _, fun i hi => ?_⟩
    rw [ev_mk_cf hl.2.1]
    exact hh i hi
/-- The data that is told: k numbers. -/
theorem Has.data {k : Nat} {L : List (Int × Nat)} {l d : List Nat} (hS : ShK L L.length) (hk : k ≤ L.length) (hl : Goes l k (cf (xsS L k)) (cf (ysS L k))) (hd : d.length = k) (hh : Has d L L.length) : mk k (cf l) = mk k (cf d) := by
  have hSk : ShK L k := ⟨fun p hp => hS.1 p (by omega), fun p q hq hp => hS.2 p q hq (by omega)⟩
  have := Has.one hSk (by omega) hl.2.1 (fun i hi => hh i (by omega)) hl.has
  refine mk_congr fun i _ => ?_
  rw [← cf_pN l, ← this, cf_pN]

end Go.Proofs.YtmggccepmicjhagGreatDoor

/-! What package share answers, as functions of what it is handed. -/
namespace Go.Proofs.YtmggccepmicjhagGreatDoor

def EnOk (xs : List Nat) (n : Int) : Prop := 0 < xs.length ∧ (1 ≤ n ∧ n ≤ 64) ∧ (xs.length : Int) ≤ n
open Classical in
/-- Encode's error, and its symbols. -/
noncomputable def enE (xs : List Nat) (n : Int) : Int := if EnOk xs n then 0 else 1
open Classical in
noncomputable def enL (xs : List Nat) (n : Int) : List Nat := if EnOk xs n then mk n.toNat (symF xs) else []
open Classical in
/-- Recover's error, and its data. -/
noncomputable def rcE (k : Int) (L : List (Int × Nat)) : Int := if shE k L = 0 then (if (L.length : Int) < k then 4 else if FitK k.toNat L then 0 else 5) else shE k L
open Classical in
noncomputable def rcL (k : Int) (L : List (Int × Nat)) : List Nat := if h : shE k L = 0 ∧ ¬ (L.length : Int) < k ∧ FitK k.toNat L then mk k.toNat (cf (Classical.choose h.2.2)) else []
open Classical in
/-- What Fits tells. -/
noncomputable def ftB (k : Int) (L : List (Int × Nat)) : Bool := decide (shE k L = 0 ∧ FitK k.toNat L)
theorem shE_zero {k : Int} {L : List (Int × Nat)} (h : shE k L = 0) : (1 ≤ k ∧ k ≤ 64) ∧ ShK L L.length := by
  unfold shE at h
  split at h
  · next h1 =>
    split at h
    · next h2 => exact ⟨h1, h2⟩
    · cases h
  · cases h
theorem rcE_bad {k : Int} {L : List (Int × Nat)} (h : shE k L ≠ 0) : rcE k L = shE k L ∧ rcL k L = [] ∧ ftB k L = false := by
  refine ⟨by unfold rcE; rw [if_neg h], by unfold rcL; rw [dif_neg (fun q => h q.1)], by unfold ftB; rw [decide_eq_false_iff_not]; exact fun q => h q.1⟩
theorem rcE_few {k : Int} {L : List (Int × Nat)} (h : shE k L = 0) (hl : (L.length : Int) < k) : rcE k L = 4 ∧ rcL k L = [] ∧ ftB k L = true := by
  refine ⟨by unfold rcE; rw [if_pos h, if_pos hl], by unfold rcL; rw [dif_neg (fun q => q.2.1 hl)], by unfold ftB; simp only [decide_eq_true_eq]; exact ⟨h, FitK.few (shE_zero h).2 (by omega)⟩⟩
theorem rcE_form {k : Int} {L : List (Int × Nat)} (h : shE k L = 0) (hl : ¬ (L.length : Int) < k) (hf : ¬ FitK k.toNat L) : rcE k L = 5 ∧ rcL k L = [] ∧ ftB k L = false := by
  refine ⟨by unfold rcE; rw [if_pos h, if_neg hl, if_neg hf], by unfold rcL; rw [dif_neg (fun q => hf q.2.2)], by unfold ftB; rw [decide_eq_false_iff_not]; exact fun q => hf q.2⟩
theorem rcE_ok {k : Int} {L : List (Int × Nat)} {d : List Nat} (h : shE k L = 0) (hl : ¬ (L.length : Int) < k) (hd : d.length = k.toNat) (hh : Has d L L.length) : rcE k L = 0 ∧ rcL k L = mk k.toNat (cf d) ∧ ftB k L = true := by
  have hf : FitK k.toNat L := ⟨d, hd, hh⟩
  refine ⟨by unfold rcE; rw [if_pos h, if_neg hl, if_pos hf], ?_, by unfold ftB; simp only [decide_eq_true_eq]; exact ⟨h, hf⟩⟩
  have hS := (shE_zero h).2
  have hk : k.toNat ≤ L.length := by omega
  unfold rcL
  rw [dif_pos ⟨h, hl, hf⟩]
  have hc := Classical.choose_spec hf
  have hSk : ShK L k.toNat := ⟨fun p hp => hS.1 p (by omega), fun p q hq hp => hS.2 p q hq (by omega)⟩
  have e := Has.one hSk (by omega) (by omega) (fun i hi => hc.2 i (by omega)) (fun i hi => hh i (by omega))
  refine mk_congr fun i _ => ?_
  rw [← cf_pN, e, cf_pN]
theorem rcE_cases (k : Int) (L : List (Int × Nat)) (h : shE k L = 0) : ((L.length : Int) < k ∧ rcE k L = 4 ∧ rcL k L = [] ∧ ftB k L = true) ∨ (¬ (L.length : Int) < k ∧ rcE k L = 5 ∧ rcL k L = [] ∧ ftB k L = false) ∨ (¬ (L.length : Int) < k ∧ rcE k L = 0 ∧ ftB k L = true) := by
  by_cases hl : (L.length : Int) < k
  · exact .inl ⟨hl, rcE_few h hl⟩
  · by_cases hf : FitK k.toNat L
    · obtain ⟨d, hd, hh⟩ := hf
      obtain ⟨h1, _, h3⟩ := rcE_ok h hl hd hh
      exact .inr (.inr ⟨hl, h1, h3⟩)
    · exact .inr (.inl ⟨hl, rcE_form h hl hf⟩)

end Go.Proofs.YtmggccepmicjhagGreatDoor

/-! What Points of package goldref answers: whether two lists are of one length, of at most 128 numbers, and the first one's numbers differ by the prime. -/
namespace Go.Proofs.YtmggccepmicjhagGreatDoor
open Go.RowKit
set_option maxRecDepth 100000

/-- The numbers of a list differ by the prime, each from all ahead of it, up to number i, and of number i up to k. -/
def Dif (xs : List Nat) (i k : Nat) : Prop := (∀ i' k', i' < i → k' < i' → fN (xs.getD i' 0) ≠ fN (xs.getD k' 0)) ∧ ∀ k', k' < k → fN (xs.getD i 0) ≠ fN (xs.getD k' 0)
def Pts (xs ys : List Nat) : Prop := xs.length = ys.length ∧ xs.length ≤ 128 ∧ Dif xs xs.length 0
theorem Dif_zero (xs : List Nat) : Dif xs 0 0 := ⟨fun _ _ h => absurd h (by omega), fun _ h => absurd h (by omega)⟩
theorem Dif_next {xs : List Nat} {i : Nat} (h : Dif xs i i) : Dif xs (i + 1) 0 := by
  refine ⟨fun i' k' h1 h2 => ?_, fun _ h0 => absurd h0 (by omega)⟩
  by_cases e : i' = i
  · subst e; exact h.2 k' h2
  · exact h.1 i' k' (by omega) h2
theorem Dif_step {xs : List Nat} {i k : Nat} (h : Dif xs i k) (hne : fN (xs.getD i 0) ≠ fN (xs.getD k 0)) : Dif xs i (k + 1) := by
  refine ⟨h.1, fun k' hk' => ?_⟩
  by_cases e : k' = k
  · subst e; exact hne
  · exact h.2 k' (by omega)


end Go.Proofs.YtmggccepmicjhagGreatDoor
