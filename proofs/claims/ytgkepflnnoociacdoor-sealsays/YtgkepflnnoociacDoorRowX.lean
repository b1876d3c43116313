/-
  Blocks whose first cells hold a list of numbers of 64 bits, with room behind them.
-/
import Derived.Test.YtgkepflnnoociacDoorRowU
namespace Go.Proofs.YtgkepflnnoociacDoor
open Go.RowKit

/-- The first cells of block g, of c cells, hold the numbers xs. -/
def RowX (w : World) (g c : Nat) (xs : List Nat) : Prop := ∃ cur : Array Value, w.heap[g]? = some (.cells cur 47 (0, 0)) ∧ cur.size = c ∧ xs.length ≤ c ∧ cur.toList.take xs.length = cellsU xs
theorem RowX.lt {w : World} {g c : Nat} {xs : List Nat} (h : RowX w g c xs) : g < w.heap.size := by
  obtain ⟨cur, h, _⟩ := h
  obtain ⟨hlt, _⟩ := Array.getElem?_eq_some_iff.1 h
  exact hlt
theorem RowX.cell {w : World} {g c : Nat} {xs : List Nat} (h : RowX w g c xs) (i : Nat) (hi : i < xs.length) : w.cell? ⟨g, i, none⟩ = some (.int .u64 ((xs.getD i 0 : Nat) : Int)) := by
  obtain ⟨cur, hh, hs, hl, ht⟩ := h
  have hc := cellsU_get xs i hi
  rw [← ht, List.getElem?_take_of_lt hi, Array.getElem?_toList] at hc
  simp only [World.cell?, hh, hc]; rfl
theorem RowX.frozen {w : World} {g c : Nat} {xs : List Nat} (h : RowX w g c xs) (i : Nat) : w.frozen? ⟨g, i, none⟩ = false := by
  obtain ⟨cur, hh, _⟩ := h
  simp [World.frozen?, hh]
theorem RowX.set {w : World} {g c : Nat} {xs : List Nat} (h : RowX w g c xs) (i x : Nat) : RowX (w.setCell ⟨g, i, none⟩ (.int .u64 (x : Int))) g c (xs.set i x) := by
  obtain ⟨cur, hh, hs, hl, ht⟩ := h
  refine ⟨cur.setIfInBounds i (.int .u64 (x : Int)), ?_, ?_, ?_, ?_⟩
  · simp [World.setCell, Array.getElem?_modify, hh]
  · rw [Array.size_setIfInBounds]; exact hs
  · rw [List.length_set]; exact hl
  · rw [List.length_set, Array.toList_setIfInBounds, ← cellsU_set, ← ht, List.take_set]
theorem RowX.block {w w' : World} {g c : Nat} {xs : List Nat} (h : RowX w g c xs) (e : w'.heap[g]? = w.heap[g]?) : RowX w' g c xs := by
  obtain ⟨cur, hh, r⟩ := h
  exact ⟨cur, e.trans hh, r⟩
theorem RowX.below {w w' : World} {g c : Nat} {xs : List Nat} (h : RowX w g c xs) (hb : Below w.heap.size w w') : RowX w' g c xs := h.block (hb.block g h.lt)
theorem RowX.bar {w w' : World} {g g' c : Nat} {xs : List Nat} (h : RowX w g' c xs) (hne : g' ≠ g) (hb : Bar g w w') : RowX w' g' c xs := h.block (hb.block g' h.lt hne)
theorem RowX.drewN {w : World} {g c : Nat} {xs : List Nat} (h : RowX w g c xs) (n : Nat) : RowX (w.drewN n) g c xs := h
theorem RowX.cast {w : World} {g c : Nat} {xs ys : List Nat} (h : RowX w g c xs) (e : xs = ys) : RowX w g c ys := e ▸ h
theorem RowX.isUN {w : World} {g c n : Nat} {xs : List Nat} (h : RowX w g c xs) (hr : Rng xs) (hc : c ≤ maxLen) (hn : xs.length = n) : IsU w (.slice (some ⟨g, 0, none⟩) n c) xs := by
  subst hn
  exact ⟨some ⟨g, 0, none⟩, c, rfl, h.choose_spec.2.2.1, hc, fun i hi => ⟨g, 0, rfl, by rw [Nat.zero_add]; exact h.cell i hi⟩, hr⟩
theorem RowX.of_owns {w : World} {base n : Nat} {v : Value} {xs : List Nat} (h : w.ownsRow base 47 1 v n (cellsU xs)) (hn : 0 < n) : ∃ g c, v = .slice (some ⟨g, 0, none⟩) n c ∧ base ≤ g ∧ c ≤ maxLen ∧ RowX w g c xs := by
  have hlen := h.1
  rw [cellsU_length] at hlen
  rcases h.2 with ⟨rfl, h0⟩ | ⟨g, cap, cur, hv, hg, hh, h1, h2, h3, h4⟩
  · omega
  · refine ⟨g, cap, hv, hg, h2, cur, hh, by omega, by omega, ?_⟩
    rw [show xs.length = n * 1 by omega]; exact h4

/-- All numbers of a list appended to nothing. -/
theorem wp_appendAll {ops : Array Oper} {rest : List Oper} {o : Oper} {a : Act} {Q : Exit → Act → World → Prop} {w : World} (hgd : o.guard = none) (s x : Operand)
    (ho : o.op = .call { callee := .builtin .append, args := #[s, x], argTypes := #[23, 23] }) (v : Value) (xs : List Nat)
    (hs : a.eval s = .slice none 0 0) (hx : a.eval x = v) (hU : IsU w v xs) (hpos : 0 < xs.length) (hn : xs.length ≤ 1000000000)
    (h : ∀ g c w', w.heap.size ≤ g → c ≤ maxLen → RowX w' g c xs → Below w.heap.size w w' → wpList Tryd.prog ops Q rest (a.put o.dst (.slice (some ⟨g, 0, none⟩) xs.length c)) w') :
    wpList Tryd.prog ops Q (o :: rest) a w := by
  obtain ⟨p, cap, rfl, hcap, hmax, hc, hr⟩ := hU
  obtain ⟨i0, hi, hz0, hz1, hz2⟩ := info_parts info_u64
  obtain ⟨b, off, rfl, _⟩ := hc 0 hpos
  refine wpList_append_own _ hgd s x 23 ho w.heap.size 47 i0 (.int .u64 0) 1 8 Tryd.underlying23 hi hz0 hz1 hz2 rfl (by decide) (.slice none 0 0) 0 [] hs (World.ownsRow_nil _ _ _ _) ⟨b, off, none⟩ xs.length cap (cellsU xs) hx (by rw [cellsU_length]; omega) ?_ ?_ (by omega) (by omega) (Nat.le_refl _) ?_
  · intro j u hj
    have hjl : j < xs.length := by
      rcases Nat.lt_or_ge j xs.length with h5 | h5
      · exact h5
      · rw [List.getElem?_eq_none (by rw [cellsU_length]; exact h5)] at hj; cases hj
    rw [cellsU_get _ j hjl] at hj
    obtain ⟨b', off', e, hcell⟩ := hc j hjl
    simp only [Option.some.injEq, Addr.mk.injEq, and_true] at e
    obtain ⟨rfl, rfl⟩ := e
    have e3 : (Addr.mk b off none).add j = ⟨b, off + j, none⟩ := Go.WideShapes.add_plain b off j
    rw [e3, hcell, ← hj]
  · intro u hu
    obtain ⟨y, _, rfl⟩ := List.mem_map.mp hu
    rfl
  · intro v' w' hown hgrow _
    rw [Nat.zero_add, List.nil_append] at hown
    obtain ⟨g, c, rfl, hg, hc9, hrow⟩ := RowX.of_owns hown hpos
    exact h g c w' hg hc9 hrow ((Below.refl _ _).grown hgrow (Nat.le_refl _) (fun k hk => by cases hk))

end Go.Proofs.YtgkepflnnoociacDoor
