/-
  Texts that stood one behind the other, as one.
-/
import Derived.Test.YtmggccepmicjhacGreatDoorPlanPAll
import Derived.Test.YtmggccepmicjhacGreatDoorRefSymsAll
import Derived.Test.YtmggccepmicjhacGreatDoorFieldAll
import Derived.Test.YtmggccepmicjhacGreatDoorSlAll
import Derived.BigQuiet
import Derived.OrdersHeld
import Derived.Deep.AppendLies
/-! Shares as points: which data has them as its symbols; one at most where there are enough; no program in sight. -/
namespace Go.Proofs.YtmggccepmicjhacGreatDoor

/-- Share i's symbol. -/
def syS (L : List (Int × Nat)) (i : Nat) : Nat := (L.getD i (0, 0)).2
/-- The place of share i: a power of the root. -/
def plS (L : List (Int × Nat)) (i : Nat) : F := pw (toF (rt 6)) (atS L i).toNat
/-- The list has all these shares as its symbols. -/
def Has (l : List Nat) (L : List (Int × Nat)) (n : Nat) : Prop := ∀ i, i < n → evF (l.map toF) (plS L i) = toF (syS L i)
theorem plS_ne {L : List (Int × Nat)} {n : Nat} (h : ShK L n) {i j : Nat} (hij : i < j) (hj : j < n) : plS L i ≠ plS L j := by
  intro e
  have h1 := h.1 i (by omega)
  have h2 := h.1 j hj
  have := (ord_rt 6 (by omega)).inj (i := (atS L i).toNat) (j := (atS L j).toNat) (by omega) (by omega) e
  exact h.2 j i hij hj (by omega)
theorem Has.nrm {l : List Nat} {L : List (Int × Nat)} {n : Nat} (h : Has l L n) : Has (pN l) L n := fun i hi => by rw [ev_pN]; exact h i hi
theorem ev_mk_cf {l : List Nat} {k : Nat} (hl : l.length ≤ k) (x : F) : evF ((mk k (cf l)).map toF) x = evF (l.map toF) x := by
  apply evF_ext
  intro i
  rw [gf_map, gf_map, cf_mk_of (fun i hi => cf_ge (by omega))]
/-- At most one list of k numbers, where there are k shares. -/
theorem Has.one {a b : List Nat} {L : List (Int × Nat)} {k : Nat} (hS : ShK L k) (ha : a.length ≤ k) (hb : b.length ≤ k) (h1 : Has a L k) (h2 : Has b L k) : pN a = pN b := by
  have g1 : Goes (pN a) k (plS L) (fun i => toF (syS L i)) := ⟨pN_pN _, by rw [pN_length]; have := sig_le a; omega, fun i hi => h1.nrm i hi⟩
  have g2 : Goes (pN b) k (plS L) (fun i => toF (syS L i)) := ⟨pN_pN _, by rw [pN_length]; have := sig_le b; omega, fun i hi => h2.nrm i hi⟩
  exact Goes_unique (fun i j hij hj => plS_ne hS hij hj) g1 g2
/-- The lists that go through the first n shares: what Through is asked. -/
def xsS (L : List (Int × Nat)) (n : Nat) : List Nat := (List.range n).map fun i => fW (rt 6) (atS L i).toNat
def ysS (L : List (Int × Nat)) (n : Nat) : List Nat := (List.range n).map fun i => syS L i
theorem getD_rmap (f : Nat → Nat) (n i : Nat) (h : i < n) : ((List.range n).map f).getD i 0 = f i := by simp [List.getD, h]
theorem xsS_length (L : List (Int × Nat)) (n : Nat) : (xsS L n).length = n := by simp [xsS]
theorem ysS_length (L : List (Int × Nat)) (n : Nat) : (ysS L n).length = n := by simp [ysS]
theorem xsS_cf (L : List (Int × Nat)) (n i : Nat) (h : i < n) : cf (xsS L n) i = plS L i := by
  unfold cf plS xsS
  rw [getD_rmap _ n i h, toF_fW]
theorem ysS_cf (L : List (Int × Nat)) (n i : Nat) (h : i < n) : cf (ysS L n) i = toF (syS L i) := by
  unfold cf ysS
  rw [getD_rmap _ n i h]
theorem Goes.has {l : List Nat} {L : List (Int × Nat)} {n : Nat} (h : Goes l n (cf (xsS L n)) (cf (ysS L n))) : Has l L n := fun i hi => by
  have := h.2.2 i hi
  rw [xsS_cf _ _ _ hi, ysS_cf _ _ _ hi] at this
  exact this
/-- Some list of n numbers goes through n points. -/
theorem goes_ex (xs ys : List Nat) (hd : ∀ i j, i < j → j < xs.length → cf xs i ≠ cf xs j) : ∃ l, Goes l xs.length (cf xs) (cf ys) := by
  have hw : ∀ i, i ≤ xs.length → ∃ l z, Way xs ys l i ∧ Zer xs z i := by
    intro i
    induction i with
    | zero => intro _; exact ⟨_, _, Way_start xs ys, Zer_start xs⟩
    | succ i ih =>
      intro hi
      obtain ⟨l, z, h1, h2⟩ := ih (by omega)
      have hne : zp (cf xs) i (cf xs i) ≠ 0 := zp_ne _ _ _ (fun j hj => (hd j i hj (by omega)).symm)
      have hv : zp (cf xs) i (cf xs i) * toF (inv (zp (cf xs) i (cf xs i))).val = 1 := by rw [toF_val]; exact mul_inv hne
      exact ⟨_, _, Way_step (by omega) h1 h2 hv, Zer_step h2⟩
  obtain ⟨l, _, h, _⟩ := hw _ (Nat.le_refl _)
  exact ⟨_, Way_end h⟩
theorem has_ex {L : List (Int × Nat)} {n : Nat} (hS : ShK L n) : ∃ l, Goes l n (cf (xsS L n)) (cf (ysS L n)) := by
  have := goes_ex (xsS L n) (ysS L n) (fun i j hij hj => by
    rw [xsS_length] at hj
    rw [xsS_cf _ _ _ (by omega), xsS_cf _ _ _ hj]
    exact plS_ne hS hij hj)
  rw [xsS_length] at this
  exact this
/-- Some data of k numbers has all of them. -/
def FitK (k : Nat) (L : List (Int × Nat)) : Prop := ∃ l : List Nat, l.length = k ∧ Has l L L.length
theorem FitK.few {k : Nat} {L : List (Int × Nat)} (hS : ShK L L.length) (h : L.length ≤ k) : FitK k L := by
  obtain ⟨l, hl⟩ := has_ex hS
  refine ⟨mk k (cf l), mk_length _ _, fun i hi => ?_⟩
  rw [ev_mk_cf (by have := hl.2.1; omega)]
  exact hl.has i hi
/-- What goes through the first k is asked of all. -/
theorem FitK.ask {k : Nat} {L : List (Int × Nat)} {l : List Nat} (hS : ShK L L.length) (hk : k ≤ L.length) (hl : Goes l k (cf (xsS L k)) (cf (ysS L k))) : FitK k L ↔ Has l L L.length := by
  have hSk : ShK L k := ⟨fun p hp => hS.1 p (by omega), fun p q hq hp => hS.2 p q hq (by omega)⟩
  constructor
  · rintro ⟨d, hd, hh⟩ i hi
    have := Has.one hSk (by omega) hl.2.1 (fun i hi => hh i (by omega)) hl.has
    rw [hl.1] at this
    rw [← this, ev_pN]
    exact hh i hi
  · intro hh
    refine ⟨mk k (cf l), mk_length _ _, fun i hi => ?_⟩
    rw [ev_mk_cf hl.2.1]
    exact hh i hi
/-- The data that is told: k numbers. -/
theorem Has.data {k : Nat} {L : List (Int × Nat)} {l d : List Nat} (hS : ShK L L.length) (hk : k ≤ L.length) (hl : Goes l k (cf (xsS L k)) (cf (ysS L k))) (hd : d.length = k) (hh : Has d L L.length) : mk k (cf l) = mk k (cf d) := by
  have hSk : ShK L k := ⟨fun p hp => hS.1 p (by omega), fun p q hq hp => hS.2 p q hq (by omega)⟩
  have := Has.one hSk (by omega) hl.2.1 (fun i hi => hh i (by omega)) hl.has
  refine mk_congr fun i _ => ?_
  rw [← cf_pN l, ← this, cf_pN]

end Go.Proofs.YtmggccepmicjhacGreatDoor

/-! What package share answers, as functions of what it is handed. -/
namespace Go.Proofs.YtmggccepmicjhacGreatDoor

def EnOk (xs : List Nat) (n : Int) : Prop := 0 < xs.length ∧ (1 ≤ n ∧ n ≤ 64) ∧ (xs.length : Int) ≤ n
open Classical in
/-- Encode's error, and its symbols. -/
noncomputable def enE (xs : List Nat) (n : Int) : Int := if EnOk xs n then 0 else 1
open Classical in
noncomputable def enL (xs : List Nat) (n : Int) : List Nat := if EnOk xs n then mk n.toNat (symF xs) else []
open Classical in
/-- Recover's error, and its data. -/
noncomputable def rcE (k : Int) (L : List (Int × Nat)) : Int := if shE k L = 0 then (if (L.length : Int) < k then 4 else if FitK k.toNat L then 0 else 5) else shE k L
open Classical in
noncomputable def rcL (k : Int) (L : List (Int × Nat)) : List Nat := if h : shE k L = 0 ∧ ¬ (L.length : Int) < k ∧ FitK k.toNat L then mk k.toNat (cf (Classical.choose h.2.2)) else []
open Classical in
/-- What Fits tells. -/
noncomputable def ftB (k : Int) (L : List (Int × Nat)) : Bool := decide (shE k L = 0 ∧ FitK k.toNat L)
theorem shE_zero {k : Int} {L : List (Int × Nat)} (h : shE k L = 0) : (1 ≤ k ∧ k ≤ 64) ∧ ShK L L.length := by
  unfold shE at h
  split at h
  · next h1 =>
    split at h
    · next h2 => exact ⟨h1, h2⟩
    · cases h
  · cases h
theorem rcE_bad {k : Int} {L : List (Int × Nat)} (h : shE k L ≠ 0) : rcE k L = shE k L ∧ rcL k L = [] ∧ ftB k L = false := by
  refine ⟨by unfold rcE; rw [if_neg h], by unfold rcL; rw [dif_neg (fun q => h q.1)], by unfold ftB; rw [decide_eq_false_iff_not]; exact fun q => h q.1⟩
theorem rcE_few {k : Int} {L : List (Int × Nat)} (h : shE k L = 0) (hl : (L.length : Int) < k) : rcE k L = 4 ∧ rcL k L = [] ∧ ftB k L = true := by
  refine ⟨by unfold rcE; rw [if_pos h, if_pos hl], by unfold rcL; rw [dif_neg (fun q => q.2.1 hl)], by unfold ftB; simp only [decide_eq_true_eq]; exact ⟨h, FitK.few (shE_zero h).2 (by omega)⟩⟩
theorem rcE_form {k : Int} {L : List (Int × Nat)} (h : shE k L = 0) (hl : ¬ (L.length : Int) < k) (hf : ¬ FitK k.toNat L) : rcE k L = 5 ∧ rcL k L = [] ∧ ftB k L = false := by
  refine ⟨by unfold rcE; rw [if_pos h, if_neg hl, if_neg hf], by unfold rcL; rw [dif_neg (fun q => hf q.2.2)], by unfold ftB; rw [decide_eq_false_iff_not]; exact fun q => hf q.2⟩
theorem rcE_ok {k : Int} {L : List (Int × Nat)} {d : List Nat} (h : shE k L = 0) (hl : ¬ (L.length : Int) < k) (hd : d.length = k.toNat) (hh : Has d L L.length) : rcE k L = 0 ∧ rcL k L = mk k.toNat (cf d) ∧ ftB k L = true := by
  have hf : FitK k.toNat L := ⟨d, hd, hh⟩
  refine ⟨by unfold rcE; rw [if_pos h, if_neg hl, if_pos hf], ?_, by unfold ftB; simp only [decide_eq_true_eq]; exact ⟨h, hf⟩⟩
  have hS := (shE_zero h).2
  have hk : k.toNat ≤ L.length := by omega
  unfold rcL
  rw [dif_pos ⟨h, hl, hf⟩]
  have hc := Classical.choose_spec hf
  have hSk : ShK L k.toNat := ⟨fun p hp => hS.1 p (by omega), fun p q hq hp => hS.2 p q hq (by omega)⟩
  have e := Has.one hSk (by omega) (by omega) (fun i hi => hc.2 i (by omega)) (fun i hi => hh i (by omega))
  refine mk_congr fun i _ => ?_
  rw [← cf_pN, e, cf_pN]
theorem rcE_cases (k : Int) (L : List (Int × Nat)) (h : shE k L = 0) : ((L.length : Int) < k ∧ rcE k L = 4 ∧ rcL k L = [] ∧ ftB k L = true) ∨ (¬ (L.length : Int) < k ∧ rcE k L = 5 ∧ rcL k L = [] ∧ ftB k L = false) ∨ (¬ (L.length : Int) < k ∧ rcE k L = 0 ∧ ftB k L = true) := by
  by_cases hl : (L.length : Int) < k
  · exact .inl ⟨hl, rcE_few h hl⟩
  · by_cases hf : FitK k.toNat L
    · obtain ⟨d, hd, hh⟩ := hf
      obtain ⟨h1, _, h3⟩ := rcE_ok h hl hd hh
      exact .inr (.inr ⟨hl, h1, h3⟩)
    · exact .inr (.inl ⟨hl, rcE_form h hl hf⟩)

end Go.Proofs.YtmggccepmicjhacGreatDoor

/-! What Points of package goldref answers: whether two lists are of one length, of at most 128 numbers, and the first one's numbers differ by the prime. -/
namespace Go.Proofs.YtmggccepmicjhacGreatDoor
open Go.RowKit

/-- The numbers of a list differ by the prime, each from all ahead of it, up to number i, and of number i up to k. -/
def Dif (xs : List Nat) (i k : Nat) : Prop := (∀ i' k', i' < i → k' < i' → fN (xs.getD i' 0) ≠ fN (xs.getD k' 0)) ∧ ∀ k', k' < k → fN (xs.getD i 0) ≠ fN (xs.getD k' 0)
def Pts (xs ys : List Nat) : Prop := xs.length = ys.length ∧ xs.length ≤ 128 ∧ Dif xs xs.length 0
theorem Dif_zero (xs : List Nat) : Dif xs 0 0 := ⟨fun _ _ h => absurd h (by omega), fun _ h => absurd h (by omega)⟩
theorem Dif_next {xs : List Nat} {i : Nat} (h : Dif xs i i) : Dif xs (i + 1) 0 := by
  refine ⟨fun i' k' h1 h2 => ?_, fun _ h0 => absurd h0 (by omega)⟩
  by_cases e : i' = i
  · subst e; exact h.2 k' h2
  · exact h.1 i' k' (by omega) h2
theorem Dif_step {xs : List Nat} {i k : Nat} (h : Dif xs i k) (hne : fN (xs.getD i 0) ≠ fN (xs.getD k 0)) : Dif xs i (k + 1) := by
  refine ⟨h.1, fun k' hk' => ?_⟩
  by_cases e : k' = k
  · subst e; exact hne
  · exact h.2 k' (by omega)


end Go.Proofs.YtmggccepmicjhacGreatDoor

/-! Two rows of the call's own, each appended to; shares as points. -/
namespace Go.Proofs.YtmggccepmicjhacGreatDoor
open Go.RowKit

section
variable {P : Program} {ops : Array Oper} {Q : Exit → Act → World → Prop} {md : Region.Mode} {S : World → Prop}
theorem wpAnyH_oneD {i : Nat} {o : Oper} {fuel : Nat} {listed : Array Bool} {a : Act} {w : World} (ho : ops[i]? = some o) (hr : Region.ready md ops listed = [i])
    (h : ∀ K' : Act → World → Prop, Hid (∀ a' w', S w' → wpAnyH P md ops Q S fuel (listed.setIfInBounds i true) a' w' → K' a' w') → if Region.wanted o (yielded ops a.tmps) = true then Oper.wp P o a w K' Q else K' (a.put o.dst undef) w) : wpAnyH P md ops Q S (fuel + 1) listed a w := by
  refine wpAnyH_all hr (by simp) fun j hj => ?_
  simp only [List.mem_singleton] at hj
  subst hj
  exact wpOp_step ho (fun K' hK => h K' (fun a' w' hS hW => hK a' w' ⟨hS, hW⟩))
theorem wpAnyH_two {i j : Nat} {o o' : Oper} {fuel : Nat} {listed : Array Bool} {a : Act} {w : World} (ho : ops[i]? = some o) (ho' : ops[j]? = some o') (hr : Region.ready md ops listed = [i, j])
    (h : ∀ K' : Act → World → Prop, Hid (∀ a' w', S w' → wpAnyH P md ops Q S fuel (listed.setIfInBounds i true) a' w' → K' a' w') → if Region.wanted o (yielded ops a.tmps) = true then Oper.wp P o a w K' Q else K' (a.put o.dst undef) w)
    (h' : ∀ K' : Act → World → Prop, Hid (∀ a' w', S w' → wpAnyH P md ops Q S fuel (listed.setIfInBounds j true) a' w' → K' a' w') → if Region.wanted o' (yielded ops a.tmps) = true then Oper.wp P o' a w K' Q else K' (a.put o'.dst undef) w) : wpAnyH P md ops Q S (fuel + 1) listed a w := by
  refine wpAnyH_all hr (by simp) fun k hk => ?_
  simp only [List.mem_cons, List.not_mem_nil, or_false] at hk
  rcases hk with e | e
  · subst e
    exact wpOp_step ho (fun K' hK => h K' (fun a' w' hS hW => hK a' w' ⟨hS, hW⟩))
  · subst e
    exact wpOp_step ho' (fun K' hK => h' K' (fun a' w' hS hW => hK a' w' ⟨hS, hW⟩))
theorem wp_region_HD {id : Nat} {a : Act} {w : World} (hm : P.follows .mixedOrders = true)
    (h : wpAnyH P .any ops Q S ops.size (Array.replicate ops.size false) a w.drew) : (Code.region id ops true).wp P Q a w := wp_region_held hm h
end

theorem Ow.grown {B : Nat} {w w' : World} {v : Value} {xs : List Nat} {row : Option Nat} (h : Ow B w v xs) (hg : w.grownBy w' row) (hne : ∀ g, v.ownBlock = some g → some g ≠ row) : Ow B w' v xs := by
  refine ⟨h.1, ?_⟩
  rcases h.2 with h2 | ⟨g, cap, cur, hv, hB, hh, r⟩
  · exact Or.inl h2
  · have hlt : g < w.heap.size := by
      rcases Nat.lt_or_ge g w.heap.size with hl | hl
      · exact hl
      · rw [Array.getElem?_eq_none hl] at hh; cases hh
    exact Or.inr ⟨g, cap, cur, hv, hB, (hg.block g hlt (hne g (by rw [hv]; rfl))).trans hh, r⟩
theorem Ow.lt {B : Nat} {w : World} {v : Value} {xs : List Nat} (h : Ow B w v xs) {g : Nat} (e : v.ownBlock = some g) : g < w.heap.size := by
  rcases h.2 with ⟨rfl, _⟩ | ⟨g', cap, cur, rfl, hB, hh, r⟩
  · simp [Value.ownBlock] at e
  · simp [Value.ownBlock] at e
    subst e
    rcases Nat.lt_or_ge g' w.heap.size with hl | hl
    · exact hl
    · rw [Array.getElem?_eq_none hl] at hh; cases hh
/-- Two rows of the call's own, apart from each other. -/
structure Two (w0 w : World) (vx vy : Value) (X Y : List Nat) : Prop where
  ox : Ow w0.heap.size w vx X
  oy : Ow w0.heap.size w vy Y
  ap : ∀ g, vx.ownBlock = some g → vy.ownBlock ≠ some g
  bl : Below w0.heap.size w0 w
theorem Two.swap {w0 w : World} {vx vy : Value} {X Y : List Nat} (h : Two w0 w vx vy X Y) : Two w0 w vy vx Y X := ⟨h.oy, h.ox, fun g e q => h.ap g q e, h.bl⟩
theorem Two.below {w0 w w' : World} {vx vy : Value} {X Y : List Nat} (h : Two w0 w vx vy X Y) (hb : Below w.heap.size w w') : Two w0 w' vx vy X Y :=
  ⟨h.ox.below hb, h.oy.below hb, h.ap, h.bl.trans (hb.mono h.bl.size)⟩
theorem Two.fresh {w0 w : World} {vx vy : Value} {X Y : List Nat} (h : Two w0 w vx vy X Y) (g : Nat) (hg : w.heap.size ≤ g) : vx.ownBlock ≠ some g ∧ vy.ownBlock ≠ some g :=
  ⟨fun e => by have := h.ox.lt e; omega, fun e => by have := h.oy.lt e; omega⟩
/-- Block g holds one number. -/
def Lt (w : World) (g z : Nat) : Prop := w.heap[g]? = some (.cells #[.int .u64 (z : Int)] 78 (0, 0))
theorem lt_new (w : World) (z : Nat) : Lt (w.alloc (.cells #[.int .u64 (z : Int)] 78)) w.heap.size z := by
  show (w.heap.push _)[w.heap.size]? = _
  simp
theorem Lt.lt {w : World} {g z : Nat} (h : Lt w g z) : g < w.heap.size := by
  rcases Nat.lt_or_ge g w.heap.size with hl | hl
  · exact hl
  · unfold Lt at h; rw [Array.getElem?_eq_none hl] at h; cases h
theorem Lt.below {w w' : World} {g z : Nat} (h : Lt w g z) (hb : Below w.heap.size w w') : Lt w' g z := (hb.block g h.lt).trans h
theorem Lt.grown {w w' : World} {g z : Nat} {row : Option Nat} (h : Lt w g z) (hg : w.grownBy w' row) (hne : row ≠ some g) : Lt w' g z := (hg.block g h.lt (fun e => hne e.symm)).trans h
/-- One number more for the first row. -/
theorem step_appX {ops : Array Oper} {o : Oper} {a : Act} {K : Act → World → Prop} {Q : Exit → Act → World → Prop} {E : Prop} {w0 w : World} {vx vy : Value} {X Y : List Nat} {g z : Nat} (hgd : o.guard = none) (s x : Operand)
    (ho : o.op = .call { callee := .builtin .append, args := #[s, x], argTypes := #[51, 51] }) (h : Two w0 w vx vy X Y) (hL : Lt w g z)
    (hs : a.eval s = vx) (hx : a.eval x = .slice (some ⟨g, 0, none⟩) 1 1) (hl : X.length ≤ 1000)
    (hK : ∀ v' w', Two w0 w' v' vy (X ++ [z]) Y → w.grownBy w' vx.ownBlock → K (a.put o.dst v') w') :
    if Region.wanted o (yielded ops a.tmps) = true then Oper.wp Tryz.prog o a w K Q else E := by
  obtain ⟨i0, hi, hz0, hz1, hz2⟩ := info_parts info_u64
  refine step_append_lies _ hgd s x 51 ho w0.heap.size 78 i0 (.int .u64 0) 1 8 Tryz.underlying51 hi hz0 hz1 hz2 rfl (by decide) vx X.length (cellsU X) hs h.ox ⟨g, 0, none⟩ 1 1 [.int .u64 (z : Int)] hx rfl ?_ ?_ (by decide) (by unfold maxLen; omega) (by omega) h.bl.size w.heap.size rfl ?_
  · exact World.news_of_block (cs := #[.int .u64 (z : Int)]) hL
  · intro u hu; simp at hu; subst hu; rfl
  · intro g' cap w' hown hgrow hlies hlt
    refine hK _ w' ⟨?_, h.oy.grown hgrow (fun k e q => h.ap k q.symm e), ?_, ?_⟩ hgrow
    · unfold Ow
      rw [List.length_append, cellsU_append]
      exact hown
    · intro k e q
      simp [Value.ownBlock] at e
      subst e
      rcases hlies with r | r
      · exact h.ap g' r q
      · have := h.oy.lt q; omega
    · exact h.bl.grown hgrow h.bl.size (owns_block h.ox)
theorem xsS_succ (L : List (Int × Nat)) (n : Nat) : xsS L (n + 1) = xsS L n ++ [fW (rt 6) (atS L n).toNat] := by unfold xsS; rw [List.range_succ, List.map_append]; rfl
theorem ysS_succ (L : List (Int × Nat)) (n : Nat) : ysS L (n + 1) = ysS L n ++ [syS L n] := by unfold ysS; rw [List.range_succ, List.map_append]; rfl

/-- The length of a slice. -/
def lenOf (v : Value) : Nat := match v with | .slice _ n _ => n | _ => 0
theorem xsS_rng (L : List (Int × Nat)) (n : Nat) : ∀ x ∈ xsS L n, (x : Int) < 18446744073709551616 := fun x hx => by
  obtain ⟨i, _, rfl⟩ := List.mem_map.mp hx
  have := fW_lt (rt 6) (atS L i).toNat
  omega
theorem ysS_rng (L : List (Int × Nat)) (n : Nat) (h : ∀ i, i < n → syS L i < 18446744073709551616) : ∀ x ∈ ysS L n, (x : Int) < 18446744073709551616 := fun x hx => by
  obtain ⟨i, hi, rfl⟩ := List.mem_map.mp hx
  have := h i (List.mem_range.mp hi)
  omega
theorem pts_S {L : List (Int × Nat)} {n : Nat} (h : ShK L n) (hn : n ≤ 128) : Pts (xsS L n) (ysS L n) := by
  refine ⟨by rw [xsS_length, ysS_length], by rw [xsS_length]; exact hn, ?_⟩
  have hd : ∀ i j, i < j → j < n → fN ((xsS L n).getD j 0) ≠ fN ((xsS L n).getD i 0) := fun i j hij hj e => by
    have h1 : cf (xsS L n) j = cf (xsS L n) i := by
      unfold cf
      rw [← toF_fN, e, toF_fN]
    rw [xsS_cf _ _ _ hj, xsS_cf _ _ _ (by omega)] at h1
    exact plS_ne h hij hj h1.symm
  rw [xsS_length]
  exact ⟨fun p q h1 h2 => hd q p h2 h1, fun _ h2 => absurd h2 (by omega)⟩
theorem mk_pad {l : List Nat} {k : Nat} (hl : l.length ≤ k) (hP : ∀ x ∈ l, x < P) : mk k (cf l) = l ++ List.replicate (k - l.length) 0 := by
  obtain ⟨m, rfl⟩ : ∃ m, k = l.length + m := ⟨k - l.length, by omega⟩
  rw [Nat.add_sub_cancel_left]
  clear hl
  induction m with
  | zero => rw [Nat.add_zero, List.replicate_zero, List.append_nil]; exact (eq_mk hP).symm
  | succ m ih => rw [← Nat.add_assoc, mk_succ, ih, cf_ge (by omega), List.replicate_succ', List.append_assoc]; rfl

end Go.Proofs.YtmggccepmicjhacGreatDoor
