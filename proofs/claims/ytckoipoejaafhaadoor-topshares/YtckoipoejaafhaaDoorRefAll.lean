/-
  Texts that stood one behind the other, as one.
-/
import Derived.Test.YtckoipoejaafhaaDoorCeUAll
import Derived.Test.YtckoipoejaafhaaDoorSlAll
import Derived.Test.YtckoipoejaafhaaDoorPure
import Derived.Test.YtckoipoejaafhaaDoorCeBAll
import Derived.Test.YtckoipoejaafhaaDoorNttOAll
import Derived.BigQuiet
import Derived.OrdersHeld
import Derived.Deep.AppendLies
import Derived.Test.YtckoipoejaafhaaDoorRows
import Derived.Maps.OwnOps
import Derived.Maps.OwnSet
namespace Go.Proofs.YtckoipoejaafhaaDoor
open Go.RowKit
set_option maxRecDepth 100000
def symF (xs : List Nat) (i : Nat) : F := evF (xs.map toF) (pw (toF (rt 6)) i)
theorem symF_val (xs : List Nat) (i : Nat) : (symF xs i).val = pE xs (fW (rt 6) i) := by unfold symF pE; rw [toF_fW]
end Go.Proofs.YtckoipoejaafhaaDoor

namespace Go.Proofs.YtckoipoejaafhaaDoor
def syS (L : List (Int × Nat)) (i : Nat) : Nat := (L.getD i (0, 0)).2
def plS (L : List (Int × Nat)) (i : Nat) : F := pw (toF (rt 6)) (atS L i).toNat
def Has (l : List Nat) (L : List (Int × Nat)) (n : Nat) : Prop := ∀ i, i < n → evF (l.map toF) (plS L i) = toF (syS L i)
theorem plS_ne {L : List (Int × Nat)} {n : Nat} (h : ShK L n) {i j : Nat} (hij : i < j) (hj : j < n) : plS L i ≠ plS L j := by
  intro e
  have h1 := h.1 i (by omega)
  have h2 := h.1 j hj
  have := (ord_rt 6 (by omega)).inj (i := (atS L i).toNat) (j := (atS L j).toNat) (by omega) (by omega) e
  exact h.2 j i hij hj (by omega)
theorem Has.nrm {l : List Nat} {L : List (Int × Nat)} {n : Nat} (h : Has l L n) : Has (pN l) L n := fun i hi => by rw [ev_pN]; exact h i hi
theorem ev_mk_cf {l : List Nat} {k : Nat} (hl : l.length ≤ k) (x : F) : evF ((mk k (cf l)).map toF) x = evF (l.map toF) x := by
  apply evF_ext
  intro i
  rw [gf_map, gf_map, cf_mk_of (fun i hi => cf_ge (by omega))]
theorem Has.one {a b : List Nat} {L : List (Int × Nat)} {k : Nat} (hS : ShK L k) (ha : a.length ≤ k) (hb : b.length ≤ k) (h1 : Has a L k) (h2 : Has b L k) : pN a = pN b := by
  have g1 : Goes (pN a) k (plS L) (fun i => toF (syS L i)) := ⟨pN_pN _, by rw [pN_length]; have := sig_le a; omega, fun i hi => h1.nrm i hi⟩
  have g2 : Goes (pN b) k (plS L) (fun i => toF (syS L i)) := ⟨pN_pN _, by rw [pN_length]; have := sig_le b; omega, fun i hi => h2.nrm i hi⟩
  exact Goes_unique (fun i j hij hj => plS_ne hS hij hj) g1 g2
def xsS (L : List (Int × Nat)) (n : Nat) : List Nat := (List.range n).map fun i => fW (rt 6) (atS L i).toNat
def ysS (L : List (Int × Nat)) (n : Nat) : List Nat := (List.range n).map fun i => syS L i
theorem getD_rmap (f : Nat → Nat) (n i : Nat) (h : i < n) : ((List.range n).map f).getD i 0 = f i := by simp [List.getD, h]
theorem xsS_length (L : List (Int × Nat)) (n : Nat) : (xsS L n).length = n := by simp [xsS]
theorem ysS_length (L : List (Int × Nat)) (n : Nat) : (ysS L n).length = n := by simp [ysS]
theorem xsS_cf (L : List (Int × Nat)) (n i : Nat) (h : i < n) : cf (xsS L n) i = plS L i := by
  unfold cf plS xsS
  rw [getD_rmap _ n i h, toF_fW]
theorem ysS_cf (L : List (Int × Nat)) (n i : Nat) (h : i < n) : cf (ysS L n) i = toF (syS L i) := by
  unfold cf ysS
  rw [getD_rmap _ n i h]
theorem Goes.has {l : List Nat} {L : List (Int × Nat)} {n : Nat} (h : Goes l n (cf (xsS L n)) (cf (ysS L n))) : Has l L n := fun i hi => by
  have := h.2.2 i hi
  rw [xsS_cf _ _ _ hi, ysS_cf _ _ _ hi] at this
  exact this
theorem goes_ex (xs ys : List Nat) (hd : ∀ i j, i < j → j < xs.length → cf xs i ≠ cf xs j) : ∃ l, Goes l xs.length (cf xs) (cf ys) := by
  have hw : ∀ i, i ≤ xs.length → ∃ l z, Way xs ys l i ∧ Zer xs z i := by
    intro i
    induction i with
    | zero => intro _; exact ⟨_, _, Way_start xs ys, Zer_start xs⟩
    | succ i ih =>
      intro hi
      obtain ⟨l, z, h1, h2⟩ := ih (by omega)
      have hne : zp (cf xs) i (cf xs i) ≠ 0 := zp_ne _ _ _ (fun j hj => (hd j i hj (by omega)).symm)
      have hv : zp (cf xs) i (cf xs i) * toF (inv (zp (cf xs) i (cf xs i))).val = 1 := by rw [toF_val]; exact mul_inv hne
      exact ⟨_, _, Way_step (by omega) h1 h2 hv, Zer_step h2⟩
  obtain ⟨l, _, h, _⟩ := hw _ (Nat.le_refl _)
  exact ⟨_, Way_end h⟩
theorem has_ex {L : List (Int × Nat)} {n : Nat} (hS : ShK L n) : ∃ l, Goes l n (cf (xsS L n)) (cf (ysS L n)) := by
  have := goes_ex (xsS L n) (ysS L n) (fun i j hij hj => by
    rw [xsS_length] at hj
    rw [xsS_cf _ _ _ (by omega), xsS_cf _ _ _ hj]
    exact plS_ne hS hij hj)
  rw [xsS_length] at this
  exact this
def FitK (k : Nat) (L : List (Int × Nat)) : Prop := ∃ l : List Nat, l.length = k ∧ Has l L L.length
theorem FitK.few {k : Nat} {L : List (Int × Nat)} (hS : ShK L L.length) (h : L.length ≤ k) : FitK k L := by
  obtain ⟨l, hl⟩ := has_ex hS
  refine ⟨mk k (cf l), mk_length _ _, fun i hi => ?_⟩
  rw [ev_mk_cf (by have := hl.2.1; omega)]
  exact hl.has i hi
def EnOk (xs : List Nat) (n : Int) : Prop := 0 < xs.length ∧ (1 ≤ n ∧ n ≤ 64) ∧ (xs.length : Int) ≤ n
open Classical in
noncomputable def enE (xs : List Nat) (n : Int) : Int := if EnOk xs n then 0 else 1
open Classical in
noncomputable def enL (xs : List Nat) (n : Int) : List Nat := if EnOk xs n then mk n.toNat (symF xs) else []
open Classical in
noncomputable def rcE (k : Int) (L : List (Int × Nat)) : Int := if shE k L = 0 then (if (L.length : Int) < k then 4 else if FitK k.toNat L then 0 else 5) else shE k L
open Classical in
noncomputable def rcL (k : Int) (L : List (Int × Nat)) : List Nat := if h : shE k L = 0 ∧ ¬ (L.length : Int) < k ∧ FitK k.toNat L then mk k.toNat (cf (Classical.choose h.2.2)) else []
open Classical in
noncomputable def ftB (k : Int) (L : List (Int × Nat)) : Bool := decide (shE k L = 0 ∧ FitK k.toNat L)
theorem shE_zero {k : Int} {L : List (Int × Nat)} (h : shE k L = 0) : (1 ≤ k ∧ k ≤ 64) ∧ ShK L L.length := by
  unfold shE at h
  split at h
  · next h1 =>
    split at h
    · next h2 => exact ⟨h1, h2⟩
    · cases h
  · cases h
theorem rcE_bad {k : Int} {L : List (Int × Nat)} (h : shE k L ≠ 0) : rcE k L = shE k L ∧ rcL k L = [] ∧ ftB k L = false := by
  refine ⟨by unfold rcE; rw [if_neg h], by unfold rcL; rw [dif_neg (fun q => h q.1)], by unfold ftB; rw [decide_eq_false_iff_not]; exact fun q => h q.1⟩
theorem rcE_few {k : Int} {L : List (Int × Nat)} (h : shE k L = 0) (hl : (L.length : Int) < k) : rcE k L = 4 ∧ rcL k L = [] ∧ ftB k L = true := by
  refine ⟨by unfold rcE; rw [if_pos h, if_pos hl], by unfold rcL; rw [dif_neg (fun q => q.2.1 hl)], by unfold ftB; simp only [decide_eq_true_eq]; exact ⟨h, FitK.few (shE_zero h).2 (by omega)⟩⟩
theorem rcE_form {k : Int} {L : List (Int × Nat)} (h : shE k L = 0) (hl : ¬ (L.length : Int) < k) (hf : ¬ FitK k.toNat L) : rcE k L = 5 ∧ rcL k L = [] ∧ ftB k L = false := by
  refine ⟨by unfold rcE; rw [if_pos h, if_neg hl, if_neg hf], by unfold rcL; rw [dif_neg (fun q => hf q.2.2)], by unfold ftB; rw [decide_eq_false_iff_not]; exact fun q => hf q.2⟩
theorem rcE_ok {k : Int} {L : List (Int × Nat)} {d : List Nat} (h : shE k L = 0) (hl : ¬ (L.length : Int) < k) (hd : d.length = k.toNat) (hh : Has d L L.length) : rcE k L = 0 ∧ rcL k L = mk k.toNat (cf d) ∧ ftB k L = true := by
  have hf : FitK k.toNat L := ⟨d, hd, hh⟩
  refine ⟨by unfold rcE; rw [if_pos h, if_neg hl, if_pos hf], ?_, by unfold ftB; simp only [decide_eq_true_eq]; exact ⟨h, hf⟩⟩
  have hS := (shE_zero h).2
  have hk : k.toNat ≤ L.length := by omega
  unfold rcL
  rw [dif_pos ⟨h, hl, hf⟩]
  have hc := Classical.choose_spec hf
  have hSk : ShK L k.toNat := ⟨fun p hp => hS.1 p (by omega), fun p q hq hp => hS.2 p q hq (by omega)⟩
  have e := Has.one hSk (by omega) (by omega) (fun i hi => hc.2 i (by omega)) (fun i hi => hh i (by omega))
  refine mk_congr fun i _ => ?_
  rw [← cf_pN, e, cf_pN]
end Go.Proofs.YtckoipoejaafhaaDoor

namespace Go.Proofs.YtckoipoejaafhaaDoor
open Go.RowKit
set_option maxRecDepth 100000
def Dif (xs : List Nat) (i k : Nat) : Prop := (∀ i' k', i' < i → k' < i' → fN (xs.getD i' 0) ≠ fN (xs.getD k' 0)) ∧ ∀ k', k' < k → fN (xs.getD i 0) ≠ fN (xs.getD k' 0)
def Pts (xs ys : List Nat) : Prop := xs.length = ys.length ∧ xs.length ≤ 128 ∧ Dif xs xs.length 0
section
variable {P : Program} {ops : Array Oper} {Q : Exit → Act → World → Prop} {md : Region.Mode} {S : World → Prop}
end
theorem Ow.grown {B : Nat} {w w' : World} {v : Value} {xs : List Nat} {row : Option Nat} (h : Ow B w v xs) (hg : w.grownBy w' row) (hne : ∀ g, v.ownBlock = some g → some g ≠ row) : Ow B w' v xs := by
  refine ⟨h.1, ?_⟩
  rcases h.2 with h2 | ⟨g, cap, cur, hv, hB, hh, r⟩
  · exact Or.inl h2
  · have hlt : g < w.heap.size := by
      rcases Nat.lt_or_ge g w.heap.size with hl | hl
      · exact hl
      · rw [Array.getElem?_eq_none hl] at hh; cases hh
    exact Or.inr ⟨g, cap, cur, hv, hB, (hg.block g hlt (hne g (by rw [hv]; rfl))).trans hh, r⟩
theorem Ow.lt {B : Nat} {w : World} {v : Value} {xs : List Nat} (h : Ow B w v xs) {g : Nat} (e : v.ownBlock = some g) : g < w.heap.size := by
  rcases h.2 with ⟨rfl, _⟩ | ⟨g', cap, cur, rfl, hB, hh, r⟩
  · simp [Value.ownBlock] at e
  · simp [Value.ownBlock] at e
    subst e
    rcases Nat.lt_or_ge g' w.heap.size with hl | hl
    · exact hl
    · rw [Array.getElem?_eq_none hl] at hh; cases hh
structure Two (w0 w : World) (vx vy : Value) (X Y : List Nat) : Prop where
  ox : Ow w0.heap.size w vx X
  oy : Ow w0.heap.size w vy Y
  ap : ∀ g, vx.ownBlock = some g → vy.ownBlock ≠ some g
  bl : Below w0.heap.size w0 w
theorem Two.swap {w0 w : World} {vx vy : Value} {X Y : List Nat} (h : Two w0 w vx vy X Y) : Two w0 w vy vx Y X := ⟨h.oy, h.ox, fun g e q => h.ap g q e, h.bl⟩
theorem Two.below {w0 w w' : World} {vx vy : Value} {X Y : List Nat} (h : Two w0 w vx vy X Y) (hb : Below w.heap.size w w') : Two w0 w' vx vy X Y :=
  ⟨h.ox.below hb, h.oy.below hb, h.ap, h.bl.trans (hb.mono h.bl.size)⟩
def Lt (w : World) (g z : Nat) : Prop := w.heap[g]? = some (.cells #[.int .u64 (z : Int)] 34 (0, 0))
theorem lt_new (w : World) (z : Nat) : Lt (w.alloc (.cells #[.int .u64 (z : Int)] 34)) w.heap.size z := by
  show (w.heap.push _)[w.heap.size]? = _
  simp
theorem step_appX {ops : Array Oper} {o : Oper} {a : Act} {K : Act → World → Prop} {Q : Exit → Act → World → Prop} {E : Prop} {w0 w : World} {vx vy : Value} {X Y : List Nat} {g z : Nat} (hgd : o.guard = none) (s x : Operand)
    (ho : o.op = .call { callee := .builtin .append, args := #[s, x], argTypes := #[23, 23] }) (h : Two w0 w vx vy X Y) (hL : Lt w g z)
    (hs : a.eval s = vx) (hx : a.eval x = .slice (some ⟨g, 0, none⟩) 1 1) (hl : X.length ≤ 1000)
    (hK : ∀ v' w', Two w0 w' v' vy (X ++ [z]) Y → w.grownBy w' vx.ownBlock → K (a.put o.dst v') w') :
    if Region.wanted o (yielded ops a.tmps) = true then Oper.wp Tryd.prog o a w K Q else E := by
  obtain ⟨i0, hi, hz0, hz1, hz2⟩ := info_parts info_u64
  refine step_append_lies _ hgd s x 23 ho w0.heap.size 34 i0 (.int .u64 0) 1 8 Tryd.underlying23 hi hz0 hz1 hz2 rfl (by decide) vx X.length (cellsU X) hs h.ox ⟨g, 0, none⟩ 1 1 [.int .u64 (z : Int)] hx rfl ?_ ?_ (by decide) (by unfold maxLen; omega) (by omega) h.bl.size w.heap.size rfl ?_
  · exact World.news_of_block (cs := #[.int .u64 (z : Int)]) hL
  · intro u hu; simp at hu; subst hu; rfl
  · intro g' cap w' hown hgrow hlies hlt
    refine hK _ w' ⟨?_, h.oy.grown hgrow (fun k e q => h.ap k q.symm e), ?_, ?_⟩ hgrow
    · unfold Ow
      rw [List.length_append, cellsU_append]
      exact hown
    · intro k e q
      simp [Value.ownBlock] at e
      subst e
      rcases hlies with r | r
      · exact h.ap g' r q
      · have := h.oy.lt q; omega
    · exact h.bl.grown hgrow h.bl.size (owns_block h.ox)
def lenOf (v : Value) : Nat := match v with | .slice _ n _ => n | _ => 0
theorem xsS_rng (L : List (Int × Nat)) (n : Nat) : ∀ x ∈ xsS L n, (x : Int) < 18446744073709551616 := fun x hx => by
  obtain ⟨i, _, rfl⟩ := List.mem_map.mp hx
  have := fW_lt (rt 6) (atS L i).toNat
  omega
theorem ysS_rng (L : List (Int × Nat)) (n : Nat) (h : ∀ i, i < n → syS L i < 18446744073709551616) : ∀ x ∈ ysS L n, (x : Int) < 18446744073709551616 := fun x hx => by
  obtain ⟨i, hi, rfl⟩ := List.mem_map.mp hx
  have := h i (List.mem_range.mp hi)
  omega
theorem pts_S {L : List (Int × Nat)} {n : Nat} (h : ShK L n) (hn : n ≤ 128) : Pts (xsS L n) (ysS L n) := by
  refine ⟨by rw [xsS_length, ysS_length], by rw [xsS_length]; exact hn, ?_⟩
  have hd : ∀ i j, i < j → j < n → fN ((xsS L n).getD j 0) ≠ fN ((xsS L n).getD i 0) := fun i j hij hj e => by
    have h1 : cf (xsS L n) j = cf (xsS L n) i := by
      unfold cf
      rw [← toF_fN, e, toF_fN]
    rw [xsS_cf _ _ _ hj, xsS_cf _ _ _ (by omega)] at h1
    exact plS_ne h hij hj h1.symm
  rw [xsS_length]
  exact ⟨fun p q h1 h2 => hd q p h2 h1, fun _ h2 => absurd h2 (by omega)⟩
theorem mk_pad {l : List Nat} {k : Nat} (hl : l.length ≤ k) (hP : ∀ x ∈ l, x < P) : mk k (cf l) = l ++ List.replicate (k - l.length) 0 := by
  obtain ⟨m, rfl⟩ : ∃ m, k = l.length + m := ⟨k - l.length, by omega⟩
  rw [Nat.add_sub_cancel_left]
  clear hl
  induction m with
  | zero => rw [Nat.add_zero, List.replicate_zero, List.append_nil]; exact (eq_mk hP).symm
  | succ m ih => rw [← Nat.add_assoc, mk_succ, ih, cf_ge (by omega), List.replicate_succ', List.append_assoc]; rfl
end Go.Proofs.YtckoipoejaafhaaDoor

namespace Go.Proofs.YtckoipoejaafhaaDoor
def lkS (L : List (Int × Nat)) : Nat → Int → Option Nat
  | 0, _ => none
  | i + 1, z => if z = atS L i then some (syS L i) else lkS L i z
theorem lkS_some {L : List (Int × Nat)} {i : Nat} {z : Int} {s : Nat} (h : lkS L i z = some s) : ∃ j, j < i ∧ atS L j = z ∧ syS L j = s := by
  induction i with
  | zero => cases h
  | succ i ih =>
    unfold lkS at h
    split at h
    · next e => exact ⟨i, by omega, e.symm, by simpa using h⟩
    · obtain ⟨j, hj, r⟩ := ih h
      exact ⟨j, by omega, r⟩
theorem lkS_of {L : List (Int × Nat)} {i : Nat} (h : ShK L i) {j : Nat} (hj : j < i) : lkS L i (atS L j) = some (syS L j) := by
  induction i with
  | zero => omega
  | succ i ih =>
    unfold lkS
    rcases Nat.lt_or_ge j i with r | r
    · rw [if_neg (h.2 i j r (by omega))]
      exact ih ⟨fun p hp => h.1 p (by omega), fun p q hq hp => h.2 p q hq (by omega)⟩ r
    · obtain rfl : j = i := by omega
      rw [if_pos rfl]
def shr (f : Int → Option Nat) : Nat → List (Int × Nat)
  | 0 => []
  | n + 1 => match f (n : Int) with
    | some s => shr f n ++ [((n : Int), s)]
    | none => shr f n
theorem shr_some {f : Int → Option Nat} {n s : Nat} (h : f (n : Int) = some s) : shr f (n + 1) = shr f n ++ [((n : Int), s)] := by simp only [shr, h]
theorem shr_none {f : Int → Option Nat} {n : Nat} (h : f (n : Int) = none) : shr f (n + 1) = shr f n := by simp only [shr, h]
theorem shr_length (f : Int → Option Nat) (n : Nat) : (shr f n).length ≤ n := by
  induction n with
  | zero => exact Nat.le_refl _
  | succ n ih =>
    rcases e : f (n : Int) with _ | s
    · rw [shr_none e]; omega
    · rw [shr_some e, List.length_append]; simp; exact ih
theorem mem_shr {f : Int → Option Nat} {n : Nat} {p : Int × Nat} : p ∈ shr f n ↔ ∃ t : Nat, t < n ∧ p.1 = (t : Int) ∧ f (t : Int) = some p.2 := by
  induction n with
  | zero => simp [shr]
  | succ n ih =>
    rcases e : f (n : Int) with _ | s
    · rw [shr_none e, ih]
      constructor
      · rintro ⟨t, ht, r⟩
        exact ⟨t, by omega, r⟩
      · rintro ⟨t, ht, r1, r2⟩
        rcases Nat.lt_or_ge t n with h | h
        · exact ⟨t, h, r1, r2⟩
        · obtain rfl : t = n := by omega
          rw [e] at r2; cases r2
    · rw [shr_some e, List.mem_append, ih]
      constructor
      · rintro (⟨t, ht, r⟩ | h)
        · exact ⟨t, by omega, r⟩
        · simp only [List.mem_singleton] at h
          subst h
          exact ⟨n, by omega, rfl, e⟩
      · rintro ⟨t, ht, r1, r2⟩
        rcases Nat.lt_or_ge t n with h | h
        · exact .inl ⟨t, h, r1, r2⟩
        · obtain rfl : t = n := by omega
          rw [e] at r2
          obtain ⟨a, b⟩ := p
          simp only at r1 r2
          cases r2
          rw [r1]
          exact .inr (by simp)
theorem getS_append_one (L : List (Int × Nat)) (p : Int × Nat) (i : Nat) (h : i < L.length) : (L ++ [p]).getD i (0, 0) = L.getD i (0, 0) := by
  simp only [List.getD, List.getElem?_append_left h]
theorem getS_append_last (L : List (Int × Nat)) (p : Int × Nat) : (L ++ [p]).getD L.length (0, 0) = p := by simp [List.getD]
theorem getS_mem {L : List (Int × Nat)} {i : Nat} (h : i < L.length) : L.getD i (0, 0) ∈ L := by
  rw [List.getD, List.getElem?_eq_getElem h]
  exact List.getElem_mem h
theorem atS_shr_lt (f : Int → Option Nat) (n i : Nat) (h : i < (shr f n).length) : 0 ≤ atS (shr f n) i ∧ atS (shr f n) i < n := by
  obtain ⟨t, ht, e, _⟩ := mem_shr.mp (getS_mem h)
  unfold atS
  omega
theorem shr_inc (f : Int → Option Nat) (n : Nat) : ∀ p q, q < p → p < (shr f n).length → atS (shr f n) q < atS (shr f n) p := by
  induction n with
  | zero => intro p q _ hp; simp [shr] at hp
  | succ n ih =>
    rcases e : f (n : Int) with _ | s
    · rw [shr_none e]; exact ih
    · intro p q hq hp
      rw [shr_some e] at hp ⊢
      rw [List.length_append] at hp
      simp only [List.length_singleton] at hp
      rcases Nat.lt_or_ge p (shr f n).length with h | h
      · have := ih p q hq h
        unfold atS at this ⊢
        rw [getS_append_one _ _ _ h, getS_append_one _ _ _ (by omega)]
        exact this
      · obtain rfl : p = (shr f n).length := by omega
        have := (atS_shr_lt f n q hq).2
        unfold atS at this ⊢
        rw [getS_append_one _ _ _ hq, getS_append_last]
        exact this
theorem shr_ShK (f : Int → Option Nat) : ShK (shr f 64) (shr f 64).length := by
  refine ⟨fun p hp => ?_, fun p q hq hp => ?_⟩
  · have := atS_shr_lt f 64 p hp
    omega
  · have := shr_inc f 64 p q hq hp
    omega
theorem Has.iff {d : List Nat} {L : List (Int × Nat)} : Has d L L.length ↔ ∀ p ∈ L, evF (d.map toF) (pw (toF (rt 6)) p.1.toNat) = toF p.2 := by
  constructor
  · intro h p hp
    obtain ⟨i, hi, rfl⟩ := List.getElem_of_mem hp
    have := h i hi
    unfold plS atS syS at this
    rw [List.getD, List.getElem?_eq_getElem hi] at this
    exact this
  · intro h i hi
    exact h _ (getS_mem hi)
theorem mem_places {L : List (Int × Nat)} (h : ShK L L.length) (p : Int × Nat) : p ∈ shr (lkS L L.length) 64 ↔ p ∈ L := by
  rw [mem_shr]
  constructor
  · rintro ⟨t, _, e1, e2⟩
    obtain ⟨j, hj, e3, e4⟩ := lkS_some e2
    have : p = L.getD j (0, 0) := Prod.ext (e1.trans e3.symm) e4.symm
    rw [this]
    exact getS_mem hj
  · intro hp
    obtain ⟨i, hi, rfl⟩ := List.getElem_of_mem hp
    have e : L[i] = L.getD i (0, 0) := by rw [List.getD, List.getElem?_eq_getElem hi]; rfl
    rw [e]
    have h1 := h.1 i hi
    have h2 := lkS_of h hi
    refine ⟨(atS L i).toNat, by omega, ?_, ?_⟩
    · show atS L i = _
      omega
    · rw [show (((atS L i).toNat : Nat) : Int) = atS L i by omega, h2]; rfl
theorem has_places {L : List (Int × Nat)} (h : ShK L L.length) (d : List Nat) : Has d (shr (lkS L L.length) 64) (shr (lkS L L.length) 64).length ↔ Has d L L.length := by
  rw [Has.iff, Has.iff]
  constructor
  · intro r p hp
    exact r p ((mem_places h p).mpr hp)
  · intro r p hp
    exact r p ((mem_places h p).mp hp)
theorem fit_len {L l : List _} {k : Nat} (h : ShK L L.length) (hl : Goes l (shr (lkS L L.length) 64).length (cf (xsS (shr (lkS L L.length) 64) (shr (lkS L L.length) 64).length)) (cf (ysS (shr (lkS L L.length) 64) (shr (lkS L L.length) 64).length))) :
    (FitK k L ↔ l.length ≤ k) ∧ (l.length ≤ k → (mk k (cf l)).length = k ∧ Has (mk k (cf l)) L L.length) := by
  have hh := (has_places h l).mp hl.has
  have hm : l.length ≤ k → (mk k (cf l)).length = k ∧ Has (mk k (cf l)) L L.length := fun hk =>
    ⟨mk_length _ _, fun i hi => by rw [ev_mk_cf hk]; exact hh i hi⟩
  refine ⟨⟨?_, fun hk => ⟨_, hm hk⟩⟩, hm⟩
  rintro ⟨d, hd, hr⟩
  rcases Nat.lt_or_ge (shr (lkS L L.length) 64).length k with hlt | hge
  · have := hl.2.1
    omega
  · have hr' := (has_places h d).mpr hr
    have := Has.one (shr_ShK _) (by omega) hl.2.1 hr' hl.has
    rw [hl.1] at this
    rw [← this, pN_length]
    have := sig_le d
    omega
end Go.Proofs.YtckoipoejaafhaaDoor

namespace Go.Proofs.YtckoipoejaafhaaDoor
open Go.RowKit Go.Maps
theorem lawIU : Keyed Tryd.prog 3 := int_keyed Tryd.underlying3
theorem zeroU (w : World) : (zeroValue 34).run Tryd.prog w = .ok (.int .u64 0) w := by kernel_rfl
theorem keyIU {z : Int} (hz : (Lit.int .i64 z).wf = true) : keyOf Tryd.prog 3 (.int .i64 z) = some (.int .i64 z) := keyOf_int_mk Tryd.underlying3 hz
theorem keyLitU (z : Int) : WideAt.IsKeyLit (.int .i64 z) := by simp [WideAt.IsKeyLit]
def MapU (w : World) (b : Nat) (f : Int → Option Nat) (n : Nat) : Prop := ∃ (m : Nat) (D : DataW Unit), w.ownsMap Tryd.prog 3 (plainElem Tryd.prog 34) b m D ∧ m ≤ n ∧ size D = n ∧
  ∀ z : Int, has D (.int .i64 z) = (f z).isSome ∧ D.atKey (.int .i64 z) (.lit (.int .u64 0)) = .lit (.int .u64 (((f z).getD 0 : Nat) : Int))
theorem MapU.made (w : World) : MapU (w.alloc (.map #[] 0)) w.heap.size (fun _ => none) 0 :=
  ⟨0, .map [], World.ownsMap_made _ _ _ _, Nat.le_refl _, rfl, fun _ => ⟨rfl, rfl⟩⟩
theorem MapU.lt {w : World} {b n : Nat} {f : Int → Option Nat} (h : MapU w b f n) : b < w.heap.size := by
  obtain ⟨m, D, h, _⟩ := h
  exact h.lt
theorem MapU.block {w w' : World} {b n : Nat} {f : Int → Option Nat} (h : MapU w b f n) (e : w'.heap[b]? = w.heap[b]?) : MapU w' b f n := by
  obtain ⟨m, D, ⟨es, clock, hb, r⟩, r2⟩ := h
  exact ⟨m, D, ⟨es, clock, e.trans hb, r⟩, r2⟩
theorem MapU.below {w w' : World} {b n : Nat} {f : Int → Option Nat} (h : MapU w b f n) (hb : Below w.heap.size w w') : MapU w' b f n := h.block (hb.block b h.lt)
theorem MapU.len {w : World} {b n : Nat} {f : Int → Option Nat} (h : MapU w b f n) (ty : TypeId) : (Builtin.len_ #[101] ty #[.map (some b)]).run Tryd.prog w = .ok (.int .i64 (n : Int)) w := by
  obtain ⟨m, D, h, _, hs, _⟩ := h
  rw [h.len Tryd.underlying101 ty, hs]
theorem wp_lookNone {ops : Array Oper} {rest : List Oper} {o : Oper} {a : Act} {Q : Exit → Act → World → Prop} {w : World} (hgd : o.guard = none) (m x : Operand) (hop : o.op = Op.lookup 101 m x true)
    (b : Nat) (f : Int → Option Nat) (n : Nat) (z : Int) (hm : a.eval m = .map (some b)) (hown : MapU w b f n) (hx : a.eval x = .int .i64 z) (hz : (Lit.int .i64 z).wf = true) (hf : f z = none)
    (hK : wpList Tryd.prog ops Q rest (a.put o.dst (.tuple #[.int .u64 0, .bool false])) w) : wpList Tryd.prog ops Q (o :: rest) a w := by
  obtain ⟨m', D, h, _, _, hat⟩ := hown
  refine wpList_lookup_own_ok_int w hgd m x 101 hop 3 34 .u64 lawIU Tryd.underlying101 Tryd.underlying34 (zeroU w) b m' D hm h _ _ hx (keyIU hz) fun c hc _ => ?_
  obtain ⟨h1, h2⟩ := hat z
  rw [hf] at h1 h2
  rw [h2] at hc
  simp only [DataW.lit.injEq, Lit.int.injEq, true_and] at hc
  rw [h1, ← hc]
  exact hK
theorem wp_lookSome {ops : Array Oper} {rest : List Oper} {o : Oper} {a : Act} {Q : Exit → Act → World → Prop} {w : World} (hgd : o.guard = none) (m x : Operand) (hop : o.op = Op.lookup 101 m x true)
    (b : Nat) (f : Int → Option Nat) (n : Nat) (z : Int) (s : Nat) (hm : a.eval m = .map (some b)) (hown : MapU w b f n) (hx : a.eval x = .int .i64 z) (hz : (Lit.int .i64 z).wf = true) (hf : f z = some s)
    (hK : wpList Tryd.prog ops Q rest (a.put o.dst (.tuple #[.int .u64 (s : Int), .bool true])) w) : wpList Tryd.prog ops Q (o :: rest) a w := by
  obtain ⟨m', D, h, _, _, hat⟩ := hown
  refine wpList_lookup_own_ok_int w hgd m x 101 hop 3 34 .u64 lawIU Tryd.underlying101 Tryd.underlying34 (zeroU w) b m' D hm h _ _ hx (keyIU hz) fun c hc _ => ?_
  obtain ⟨h1, h2⟩ := hat z
  rw [hf] at h1 h2
  rw [h2] at hc
  simp only [DataW.lit.injEq, Lit.int.injEq, true_and] at hc
  rw [h1, ← hc]
  exact hK
theorem wp_putU {ops : Array Oper} {rest : List Oper} {o : Oper} {a : Act} {Q : Exit → Act → World → Prop} {w : World} (hgd : o.guard = none) (m x v : Operand) (hop : o.op = Op.mapUpdate 101 m x v)
    (b : Nat) (f : Int → Option Nat) (n : Nat) (z : Int) (s : Nat) (hm : a.eval m = .map (some b)) (hown : MapU w b f n) (hx : a.eval x = .int .i64 z) (hv : a.eval v = .int .u64 (s : Int)) (hz : (Lit.int .i64 z).wf = true) (hs : (Lit.int .u64 (s : Int)).wf = true) (hn : n < maxLen) (hf : f z = none)
    (hK : ∀ w', MapU w' b (fun y => if y = z then some s else f y) (n + 1) → w.grownBy w' (some b) → wpList Tryd.prog ops Q rest (a.put o.dst undef) w') : wpList Tryd.prog ops Q (o :: rest) a w := by
  obtain ⟨m', D, h, hm', hs', hat⟩ := hown
  refine wpList_mapUpdate_own w hgd m x v 101 hop 3 34 lawIU Tryd.underlying101 (plainElem Tryd.prog 34) b m' D hm h (by omega) _ _ (.int .i64 z) hx hv (keyIU hz) (.lit (.int .u64 (s : Int))) [] (plainElem_int Tryd.underlying34 hs) fun w' h' hg => hK w' ⟨m' + 1, _, h', by omega, ?_, fun y => ?_⟩ hg
  · rw [size_put (h.tidy lawIU), (hat z).1, hs', hf]
    rfl
  · show _ = (if y = z then some s else f y).isSome ∧ _ = DataW.lit (.int .u64 (((if y = z then some s else f y).getD 0 : Nat) : Int))
    by_cases e : y = z
    · subst e
      rw [has_put_same h.isMap (keyLitU y), atKey_put_same h.isMap (keyLitU y), if_pos rfl]
      exact ⟨rfl, rfl⟩
    · have hne : (Lit.int .i64 y) ≠ .int .i64 z := fun q => by
        simp only [Lit.int.injEq, true_and] at q
        exact e q
      rw [has_put_other hne, atKey_put_other hne, if_neg e]
      exact hat y
end Go.Proofs.YtckoipoejaafhaaDoor
