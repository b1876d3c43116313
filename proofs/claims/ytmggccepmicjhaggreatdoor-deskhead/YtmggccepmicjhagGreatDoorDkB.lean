/-
  Slices of texts: what they read as; one text appended to a row of the call's own.
-/
import Derived.Test.YtmggccepmicjhagGreatDoorDkMAll
import Derived.Test.YtmggccepmicjhagGreatDoorDkMAll
import Derived.Test.YtmggccepmicjhagGreatDoorSlAll
namespace Go.Proofs.YtmggccepmicjhagGreatDoor
open Go.RowKit
set_option maxRecDepth 100000

def cellsT (L : List (List UInt8)) : List Value := L.map fun l => .string (bs l)
theorem cellsT_length (L : List (List UInt8)) : (cellsT L).length = L.length := by simp [cellsT]
theorem cellsT_append (L M : List (List UInt8)) : cellsT (L ++ M) = cellsT L ++ cellsT M := by simp [cellsT]
theorem cellsT_get (L : List (List UInt8)) (i : Nat) (h : i < L.length) : (cellsT L)[i]? = some (.string (bs (L.getD i []))) := by simp [cellsT, List.getD, h]
/-- The slice v reads as the texts L. -/
def IsB (w : World) (v : Value) (L : List (List UInt8)) : Prop :=
  ∃ (a : Option Addr) (cap : Nat), v = .slice a L.length cap ∧ L.length ≤ cap ∧ cap ≤ maxLen ∧ ∀ i, i < L.length → ∃ b off, a = some ⟨b, off, none⟩ ∧ w.cell? ⟨b, off + i, none⟩ = some (.string (bs (L.getD i [])))
theorem IsB.below {w w' : World} {v : Value} {L : List (List UInt8)} (h : IsB w v L) (hb : Below w.heap.size w w') : IsB w' v L := by
  obtain ⟨a, cap, rfl, h1, h2, hc⟩ := h
  refine ⟨a, cap, rfl, h1, h2, fun i hi => ?_⟩
  obtain ⟨b, off, e, c⟩ := hc i hi
  exact ⟨b, off, e, (hb.cell (block_lt c)).trans c⟩
/-- A row of the call's own (from block B on) that holds the texts L. -/
def OwB (B : Nat) (w : World) (v : Value) (L : List (List UInt8)) : Prop := w.ownsRow B 9 1 v L.length (cellsT L)
theorem OwB.nil (B : Nat) (w : World) : OwB B w (.slice none 0 0) [] := World.ownsRow_nil _ _ _ _
theorem OwB.below {B : Nat} {w w' : World} {v : Value} {L : List (List UInt8)} (h : OwB B w v L) (hb : Below w.heap.size w w') : OwB B w' v L := owns_below h hb
theorem OwB.isB {B : Nat} {w : World} {v : Value} {L : List (List UInt8)} (h : OwB B w v L) : IsB w v L := by
  rcases h.2 with ⟨rfl, h0⟩ | ⟨g, cap, cur, rfl, hg, hh, h1, h2, h3, h4⟩
  · obtain rfl := List.eq_nil_of_length_eq_zero h0
    exact ⟨none, 0, rfl, Nat.le_refl _, Nat.zero_le _, fun i hi => absurd hi (by simp)⟩
  · refine ⟨_, cap, rfl, h1, h2, fun i hi => ⟨g, 0, rfl, ?_⟩⟩
    have e : (cur.toList.take (L.length * 1))[i]? = some (.string (bs (L.getD i []))) := by rw [h4]; exact cellsT_get L i hi
    rw [List.getElem?_take, if_pos (by omega), Array.getElem?_toList] at e
    simp only [World.cell?, hh, Nat.zero_add, e]
    rfl
/-- Such a row that isn't empty: a cell of it, and another text in its place. -/
theorem OwB.form {B : Nat} {w : World} {v : Value} {L : List (List UInt8)} (h : OwB B w v L) (hn : 0 < L.length) :
    ∃ g cap, v = .slice (some ⟨g, 0, none⟩) L.length cap ∧ B ≤ g ∧ cap ≤ maxLen ∧ L.length ≤ cap ∧ (∀ i, i < L.length → w.cell? ⟨g, i, none⟩ = some (.string (bs (L.getD i []))) ∧ w.frozen? ⟨g, i, none⟩ = false ∧
      ∀ l, OwB B (w.setCell ⟨g, i, none⟩ (.string (bs l))) (.slice (some ⟨g, 0, none⟩) L.length cap) (L.set i l)) := by
  have hlen := h.1
  rcases h.2 with ⟨rfl, h0⟩ | ⟨g, cap, cur, hv, hg, hh, h1, h2, h3, h4⟩
  · omega
  · refine ⟨g, cap, hv, hg, h2, h1, fun i hi => ⟨?_, ?_, fun l => ?_⟩⟩
    · have e : (cur.toList.take (L.length * 1))[i]? = some (.string (bs (L.getD i []))) := by rw [h4]; exact cellsT_get L i hi
      rw [List.getElem?_take, if_pos (by omega), Array.getElem?_toList] at e
      simp only [World.cell?, hh, e]
      rfl
    · simp [World.frozen?, hh]
    · refine ⟨by rw [cellsT_length]; simp, .inr ⟨g, cap, cur.setIfInBounds i (.string (bs l)), by rw [List.length_set], hg, ?_, by rw [List.length_set]; exact h1, h2, by simp [h3], ?_⟩⟩
      · simp [World.setCell, Array.getElem?_modify, hh]
      · rw [Array.toList_setIfInBounds, List.length_set, List.take_set, h4]
        unfold cellsT
        rw [List.map_set]
theorem info_str : (Tryz.prog.info? 9).map (fun i => (i.zero, i.size, i.bytes)) = some (some (.string (bs [])), 1, 16) := by kernel_rfl
theorem info_partsT {t : Nat} {z : Value} {s b : Nat} (h : (Tryz.prog.info? t).map (fun i => (i.zero, i.size, i.bytes)) = some (some z, s, b)) : ∃ i, Tryz.prog.info? t = some i ∧ i.zero = some z ∧ i.size = s ∧ i.bytes = b := by
  cases hi : Tryz.prog.info? t with
  | none => rw [hi] at h; cases h
  | some i =>
    rw [hi] at h
    simp only [Option.map_some, Option.some.injEq, Prod.mk.injEq] at h
    exact ⟨i, rfl, h.1, h.2.1, h.2.2⟩
/-- One text more. -/
theorem wp_appB {ops : Array Oper} {rest : List Oper} {o : Oper} {a : Act} {Q : Exit → Act → World → Prop} {w w0 : World} (hgd : o.guard = none) (s x : Operand)
    (ho : o.op = .call { callee := .builtin .append, args := #[s, x], argTypes := #[23, 23] }) (v : Value) (L : List (List UInt8)) (l : List UInt8)
    (hs : a.eval s = v) (hown : OwB w0.heap.size w v L) (hx : a.eval x = .slice (some ⟨w.heap.size, 0, none⟩) 1 1)
    (hn : L.length ≤ 1000000000) (hnx : Below w0.heap.size w0 w)
    (h : ∀ v' w', OwB w0.heap.size w' v' (L ++ [l]) → Below w0.heap.size w0 w' → wpList Tryz.prog ops Q rest (a.put o.dst v') w') :
    wpList Tryz.prog ops Q (o :: rest) a (w.alloc (.cells #[.string (bs l)] 9)) := by
  obtain ⟨i0, hi, hz0, hz1, hz2⟩ := info_partsT info_str
  have hsz := hnx.size
  refine wpList_append_own _ hgd s x 23 ho w0.heap.size 9 i0 (.string (bs [])) 1 16 Tryz.underlying23 hi hz0 hz1 hz2 rfl (by decide) v L.length (cellsT L) hs (World.ownsRow.alloc hown _) ⟨w.heap.size, 0, none⟩ 1 1 [.string (bs l)] hx rfl ?_ ?_ ?_ ?_ ?_ ?_
  · intro j u hj
    match j, hj with
    | 0, hj => simp at hj; subst hj; simp [Addr.add]
  · intro u hu; simp at hu; subst hu; rfl
  · unfold maxLen; omega
  · omega
  · simp; omega
  · intro v' w' hown' hgrow _
    refine h v' w' ?_ ((hnx.alloc hsz _).grown hgrow (by simp; omega) (owns_block hown))
    unfold OwB
    rw [List.length_append, cellsT_append]
    exact hown'
theorem OwB.mono {B B' : Nat} {w : World} {v : Value} {L : List (List UInt8)} (h : OwB B' w v L) (hB : B ≤ B') : OwB B w v L := by
  refine ⟨h.1, ?_⟩
  rcases h.2 with h2 | ⟨g, cap, cur, hv, hg, r⟩
  · exact Or.inl h2
  · exact Or.inr ⟨g, cap, cur, hv, Nat.le_trans hB hg, r⟩
theorem IsB.drop {w : World} {a : Option Addr} {cap : Nat} {L : List (List UInt8)} (h : IsB w (.slice a L.length cap) L) (hn : 0 < L.length) :
    ∃ b off, a = some ⟨b, off, none⟩ ∧ ∀ k, k ≤ L.length → IsB w (.slice (some ⟨b, off + k, none⟩) (L.length - k) (cap - k)) (L.drop k) := by
  obtain ⟨a', cap', e, h1, h2, hc⟩ := h
  simp only [Value.slice.injEq, true_and] at e
  obtain ⟨rfl, rfl⟩ := e
  obtain ⟨b, off, rfl, _⟩ := hc 0 hn
  refine ⟨b, off, rfl, fun k hk => ⟨_, _, by rw [List.length_drop], by rw [List.length_drop]; omega, by omega, fun i hi => ⟨b, off + k, rfl, ?_⟩⟩⟩
  rw [List.length_drop] at hi
  obtain ⟨b', off', e, c⟩ := hc (k + i) (by omega)
  simp only [Option.some.injEq, Addr.mk.injEq, and_true] at e
  obtain ⟨rfl, rfl⟩ := e
  rw [Nat.add_assoc, c]
  simp [List.getD, List.getElem?_drop]
theorem IsB.take {w : World} {a : Option Addr} {cap k : Nat} {L : List (List UInt8)} (h : IsB w (.slice a L.length cap) L) (hk : k ≤ L.length) : IsB w (.slice a k cap) (L.take k) := by
  obtain ⟨a', cap', e, h1, h2, hc⟩ := h
  simp only [Value.slice.injEq, true_and] at e
  obtain ⟨rfl, rfl⟩ := e
  have hl : (L.take k).length = k := by rw [List.length_take]; omega
  refine ⟨a, cap, by rw [hl], by omega, h2, fun i hi => ?_⟩
  obtain ⟨b, off, e, c⟩ := hc i (by omega)
  refine ⟨b, off, e, ?_⟩
  rw [c]
  simp [List.getD, show i < k by omega]
theorem IsB.len {w : World} {v : Value} {L : List (List UInt8)} (h : IsB w v L) : ∃ a cap, v = .slice a L.length cap := by
  obtain ⟨a, cap, e, _⟩ := h
  exact ⟨a, cap, e⟩

end Go.Proofs.YtmggccepmicjhagGreatDoor
