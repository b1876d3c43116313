/-
  Shares in rows of the call's own; a place taken out of a row of ints by slices.Delete.
-/
import Derived.Test.YtjbdpjbcibhflafShA
import Derived.Test.YtjbdpjbcibhflafRowI
import Derived.Test.YtjbdpjbcibhflafSldl
import Derived.Deep.AppendLies
namespace Go.Proofs.Ytjbdpjbcibhflaf
open Go.RowKit

/-! ### Shares that the call made -/
def cellsS (L : List (Int × Nat)) : List Value := L.flatMap fun r => [.int .i64 r.1, .int .u64 (r.2 : Int)]
theorem cellsS_length (L : List (Int × Nat)) : (cellsS L).length = L.length * 2 := by
  induction L with
  | nil => rfl
  | cons r L ih => unfold cellsS at *; rw [List.flatMap_cons, List.length_append, ih, List.length_cons]; simp; omega
theorem cellsS_append (L M : List (Int × Nat)) : cellsS (L ++ M) = cellsS L ++ cellsS M := by unfold cellsS; rw [List.flatMap_append]
theorem cellsS_get (L : List (Int × Nat)) (i : Nat) (h : i < L.length) : (cellsS L)[i * 2]? = some (.int .i64 (L.getD i (0, 0)).1) ∧ (cellsS L)[i * 2 + 1]? = some (.int .u64 (((L.getD i (0, 0)).2 : Nat) : Int)) := by
  induction L generalizing i with
  | nil => simp at h
  | cons r L ih =>
    have e : cellsS (r :: L) = .int .i64 r.1 :: .int .u64 (r.2 : Int) :: cellsS L := rfl
    rw [e]
    cases i with
    | zero => exact ⟨rfl, rfl⟩
    | succ i =>
      have := ih i (by simpa using h)
      rw [show (i + 1) * 2 = i * 2 + 1 + 1 by omega, show i * 2 + 1 + 1 + 1 = (i * 2 + 1) + 1 + 1 by omega]
      simp only [List.getElem?_cons_succ, List.getD_cons_succ]
      exact this
theorem cellsS_set (L : List (Int × Nat)) (z : Nat) (h : 0 < L.length) : (cellsS L).set 1 (.int .u64 (z : Int)) = cellsS (L.set 0 (atS L 0, z)) := by
  cases L with
  | nil => simp at h
  | cons r L => rfl
/-- The slice v is a row of the call's own (from block B on) that holds these shares. -/
def OwS (B : Nat) (w : World) (v : Value) (L : List (Int × Nat)) : Prop := w.ownsRow B 47 2 v L.length (cellsS L)
theorem OwS.below {B : Nat} {w w' : World} {v : Value} {L : List (Int × Nat)} (h : OwS B w v L) (hb : Below w.heap.size w w') : OwS B w' v L := owns_below h hb
theorem OwS.nil (B : Nat) (w : World) : OwS B w (.slice none 0 0) [] := World.ownsRow_nil _ _ _ _
def SRng (L : List (Int × Nat)) : Prop := ∀ r ∈ L, (-9223372036854775808 ≤ r.1 ∧ r.1 ≤ 9223372036854775807) ∧ r.2 < 18446744073709551616
theorem OwS.isS {B : Nat} {w : World} {v : Value} {L : List (Int × Nat)} (h : OwS B w v L) (hr : SRng L) : IsS w v L := by
  have h0 := h
  obtain ⟨hl, hv⟩ := h
  rcases hv with ⟨rfl, h2⟩ | ⟨g, cap, cur, rfl, hg, hh, hc, hm, hs, ht⟩
  · have : L = [] := List.eq_nil_of_length_eq_zero h2
    subst this
    exact IsS.nil w
  · refine ⟨some ⟨g, 0, none⟩, cap, rfl, hc, hm, fun i hi => ⟨g, 0, rfl, ?_, ?_⟩, hr⟩
    · have := h0.cellAt (i * 2) (by omega)
      rw [Nat.zero_add, this, (cellsS_get L i hi).1]
    · have := h0.cellAt (i * 2 + 1) (by omega)
      rw [Nat.zero_add, this, (cellsS_get L i hi).2]
theorem OwS.lt {B : Nat} {w : World} {v : Value} {L : List (Int × Nat)} (h : OwS B w v L) {g : Nat} (e : v.ownBlock = some g) : g < w.heap.size := by
  rcases h.2 with ⟨rfl, _⟩ | ⟨g', cap, cur, rfl, hB, hh, r⟩
  · simp [Value.ownBlock] at e
  · simp [Value.ownBlock] at e
    subst e
    rcases Nat.lt_or_ge g' w.heap.size with hl | hl
    · exact hl
    · rw [Array.getElem?_eq_none hl] at hh; cases hh
theorem OwS.bar {B g : Nat} {w w' : World} {v : Value} {L : List (Int × Nat)} (h : OwS B w v L) (hne : v.ownBlock ≠ some g) (hb : Bar g w w') : OwS B w' v L := by
  refine ⟨h.1, ?_⟩
  rcases h.2 with h2 | ⟨g', cap, cur, hv, hB, hh, r⟩
  · exact Or.inl h2
  · have hlt : g' < w.heap.size := by
      rcases Nat.lt_or_ge g' w.heap.size with hl | hl
      · exact hl
      · rw [Array.getElem?_eq_none hl] at hh; cases hh
    have hgg : g' ≠ g := fun e => hne (by rw [hv, e]; rfl)
    exact Or.inr ⟨g', cap, cur, hv, hB, (hb.block g' hlt hgg).trans hh, r⟩
theorem OwS.slice {B : Nat} {w : World} {v : Value} {L : List (Int × Nat)} (h : OwS B w v L) (hp : 0 < L.length) : ∃ g cap, v = .slice (some ⟨g, 0, none⟩) L.length cap ∧ B ≤ g ∧ L.length ≤ cap ∧ cap ≤ maxLen := by
  rcases h.2 with ⟨_, h2⟩ | ⟨g, cap, cur, hv, hB, hh, h1, h2, _⟩
  · omega
  · exact ⟨g, cap, hv, hB, h1, h2⟩
theorem IsS.take {w : World} {a : Option Addr} {cap n : Nat} {L : List (Int × Nat)} (h : IsS w (.slice a L.length cap) L) (hn : n ≤ L.length) : IsS w (.slice a n cap) (L.take n) := by
  obtain ⟨a', cap', e, h1, h2, hc, hr⟩ := h
  simp only [Value.slice.injEq, true_and] at e
  obtain ⟨rfl, rfl⟩ := e
  have hl : (L.take n).length = n := by rw [List.length_take]; omega
  refine ⟨a, cap, by rw [hl], by omega, h2, fun i hi => ?_, fun x hx => hr x (List.mem_of_mem_take hx)⟩
  rw [hl] at hi
  obtain ⟨b, off, hb, c0, c1⟩ := hc i (by omega)
  have e : (L.take n).getD i (0, 0) = L.getD i (0, 0) := by rw [List.getD, List.getElem?_take_of_lt hi]; rfl
  rw [e]
  exact ⟨b, off, hb, c0, c1⟩
theorem info_share : (Try.prog.info? 47).map (fun i => (i.zero, i.size, i.bytes)) = some (some (.agg #[.int .i64 0, .int .u64 0]), 2, 16) := by kernel_rfl
/-- One share more. -/
theorem step_appS {ops : Array Oper} {o : Oper} {a : Act} {K : Act → World → Prop} {Q : Exit → Act → World → Prop} {E : Prop} {B : Nat} {w w0 : World} {v : Value} {L : List (Int × Nat)} {g : Nat} {p : Int} {z : Nat} (hgd : o.guard = none) (s x : Operand)
    (ho : o.op = .call { callee := .builtin .append, args := #[s, x], argTypes := #[44, 44] }) (h : OwS B w v L) (hg : w.heap[g]? = some (.cells #[.int .i64 p, .int .u64 (z : Int)] 47 (0, 0)))
    (hB0 : B = w0.heap.size) (hbl : Below w0.heap.size w0 w)
    (hs : a.eval s = v) (hx : a.eval x = .slice (some ⟨g, 0, none⟩) 1 1) (hl : L.length ≤ 1000)
    (hK : ∀ v' w', OwS B w' v' (L ++ [(p, z)]) → Below w0.heap.size w0 w' → w.grownBy w' v.ownBlock → (∀ k, v'.ownBlock = some k → v.ownBlock = some k ∨ k = w.heap.size) → K (a.put o.dst v') w') :
    if Region.wanted o (yielded ops a.tmps) = true then Oper.wp Try.prog o a w K Q else E := by
  obtain ⟨i0, hi, hz0, hz1, hz2⟩ := info_parts info_share
  subst hB0
  refine step_append_lies _ hgd s x 44 ho w0.heap.size 47 i0 (.agg #[.int .i64 0, .int .u64 0]) 2 16 Try.underlying44 hi hz0 hz1 hz2 rfl (by decide) v L.length (cellsS L) hs h ⟨g, 0, none⟩ 1 1 [.int .i64 p, .int .u64 (z : Int)] hx rfl ?_ ?_ (by decide) (by unfold maxLen; omega) (by omega) hbl.size w.heap.size rfl ?_
  · exact World.news_of_block (cs := #[.int .i64 p, .int .u64 (z : Int)]) hg
  · intro u hu
    simp only [List.mem_cons, List.not_mem_nil, or_false] at hu
    rcases hu with rfl | rfl <;> rfl
  · intro g' cap w' hown hgrow hlies hlt
    refine hK _ w' ?_ (hbl.grown hgrow hbl.size (owns_block h)) hgrow (fun k e => ?_)
    · unfold OwS
      rw [List.length_append, cellsS_append]
      exact hown
    · simp [Value.ownBlock] at e
      subst e
      exact hlies

/-! ### A place taken out -/
theorem row_setCells {t : Nat} {w : World} {g : Nat} {xs : List Value} (h : w.heap[g]? = some (.cells xs.toArray t (0, 0))) (o : Nat) (vs : List Value) (hl : o + vs.length ≤ xs.length) :
    (w.setCells g o vs).heap[g]? = some (.cells (xs.take o ++ vs ++ xs.drop (o + vs.length)).toArray t (0, 0)) ∧ Bar g w (w.setCells g o vs) := by
  induction vs generalizing w xs o with
  | nil => exact ⟨by rw [List.append_nil, List.length_nil, Nat.add_zero, List.take_append_drop]; exact h, Bar.refl _ _⟩
  | cons v r ih =>
    simp only [List.length_cons] at hl
    have h1 : (w.setCell ⟨g, o, none⟩ v).heap[g]? = some (.cells (xs.set o v).toArray t (0, 0)) := by simp [World.setCell, Array.getElem?_modify, h]
    obtain ⟨a1, a2⟩ := ih h1 (o + 1) (by rw [List.length_set]; omega)
    refine ⟨?_, (Bar.refl g w).setCell o v |>.trans a2⟩
    rw [World.setCells, a1]
    congr 3
    rw [show (o + (v :: r).length) = o + 1 + r.length by simp; omega]
    have e1 : (xs.set o v).take (o + 1) = xs.take o ++ [v] := by
      rw [List.set_eq_take_append_cons_drop, if_pos (by omega), List.take_append, List.length_take, show min o xs.length = o by omega, List.take_of_length_le (by rw [List.length_take]; omega), show o + 1 - o = 1 by omega]
      rfl
    have e2 : (xs.set o v).drop (o + 1 + r.length) = xs.drop (o + 1 + r.length) := by
      rw [List.drop_set_of_lt (by omega)]
    rw [e1, e2]
    simp
theorem slices_DeleteI (w : World) (g n m t : Nat) (lf : List Nat) (hr : RowI w g (lf ++ List.replicate (n - lf.length) 0)) (hl : lf.length = m + 1) (hn : m + 1 ≤ n) (hn9 : n ≤ 1000) (ht : t < m + 1) :
    Calls Try.prog 14 #[.slice (some ⟨g, 0, none⟩) (m + 1) n, .int .i64 (t : Int), .int .i64 ((t : Int) + 1)] w fun e w' => e = .returned (.slice (some ⟨g, 0, none⟩) m n) ∧ RowI w' g (out lf t ++ List.replicate (n - (out lf t).length) 0) ∧ Bar g w w' := by
  have hol := out_length (lf := lf) (t := t) (by omega)
  have c := Try.slices_Delete_int_cells g 0 (m + 1) n t (t + 1) (lf.map fun (x : Nat) => (x : Int)) w (by rw [List.length_map]; omega) hn (by omega) (by omega) (by omega) (fun j hj => by
    rw [List.length_map] at hj
    rw [Nat.zero_add, hr.cell j (by rw [List.length_append]; omega)]
    congr 2
    simp [List.getD, List.getElem?_append_left hj, hj]) (fun j _ => hr.frozen _)
  rw [show ((t + 1 : Nat) : Int) = (t : Int) + 1 by omega, show m + 1 - (t + 1 - t) = m by omega] at c
  refine c.mono ?_
  rintro e w' ⟨rfl, q, rfl⟩
  have hrow : (w.drewN q).heap[g]? = some (.cells (cellsI (lf ++ List.replicate (n - lf.length) 0)).toArray 3 (0, 0)) := hr
  have hlen : ((((lf.map fun (x : Nat) => (x : Int)).take (m + 1)).take t ++ ((lf.map fun (x : Nat) => (x : Int)).take (m + 1)).drop (t + 1) ++ List.replicate (t + 1 - t) 0).map (Value.int .i64)).length = m + 1 := by
    simp; omega
  obtain ⟨h1, h2⟩ := row_setCells hrow 0 ((((lf.map fun (x : Nat) => (x : Int)).take (m + 1)).take t ++ ((lf.map fun (x : Nat) => (x : Int)).take (m + 1)).drop (t + 1) ++ List.replicate (t + 1 - t) 0).map (Value.int .i64)) (by rw [hlen, cellsI_length, List.length_append]; simp; omega)
  refine ⟨rfl, ?_, (⟨rfl, rfl, rfl, Nat.le_refl _, fun _ _ _ => rfl⟩ : Bar g w (w.drewN q)).trans h2⟩
  unfold RowI
  rw [h1, hlen]
  congr 3
  rw [List.take_zero, List.nil_append, Nat.zero_add]
  have e1 : (lf.map fun (x : Nat) => (x : Int)).take (m + 1) = lf.map fun (x : Nat) => (x : Int) := List.take_of_length_le (by rw [List.length_map]; omega)
  rw [e1]
  unfold out cellsI
  rw [show t + 1 - t = 1 by omega]
  simp only [List.map_append, List.map_take, List.map_drop, List.map_map, List.map_replicate]
  rw [List.append_assoc, List.append_assoc, List.append_assoc]
  congr 1
  congr 1
  rw [List.drop_append, List.length_map, hl, Nat.sub_self, List.drop_zero, List.drop_eq_nil_of_le (by rw [List.length_map]; omega), List.nil_append]
  have e2 : n - (List.take t lf ++ List.drop (t + 1) lf).length = (n - (m + 1)) + 1 := by
    have : (List.take t lf ++ List.drop (t + 1) lf).length = (out lf t).length := rfl
    omega
  rw [e2, List.replicate_succ]
  rfl

end Go.Proofs.Ytjbdpjbcibhflaf
