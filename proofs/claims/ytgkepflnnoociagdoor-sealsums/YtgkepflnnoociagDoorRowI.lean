/-
  Blocks that hold a list of ints and nothing else; what a store and a make do to them.
-/
import Derived.Test.YtgkepflnnoociagDoorBarB
import Derived.Test.YtgkepflnnoociagDoorCellsI
namespace Go.Proofs.YtgkepflnnoociagDoor
open Go.RowKit

/-- Block g holds the ints xs, and nothing else. -/
def RowI (w : World) (g : Nat) (xs : List Nat) : Prop := w.heap[g]? = some (.cells (cellsI xs).toArray 3 (0, 0))
theorem RowI.lt {w : World} {g : Nat} {xs : List Nat} (h : RowI w g xs) : g < w.heap.size := by
  obtain ⟨hlt, _⟩ := Array.getElem?_eq_some_iff.1 h
  exact hlt
theorem RowI.cell {w : World} {g : Nat} {xs : List Nat} (h : RowI w g xs) (i : Nat) (hi : i < xs.length) : w.cell? ⟨g, i, none⟩ = some (.int .i64 ((xs.getD i 0 : Nat) : Int)) := by
  have hh : w.heap[g]? = _ := h
  have hc := cellsI_get xs i hi
  simp only [World.cell?, hh, List.getElem?_toArray]
  rw [hc]; rfl
theorem RowI.frozen {w : World} {g : Nat} {xs : List Nat} (h : RowI w g xs) (i : Nat) : w.frozen? ⟨g, i, none⟩ = false := by
  have hh : w.heap[g]? = _ := h
  simp [World.frozen?, hh]
theorem RowI.set {w : World} {g : Nat} {xs : List Nat} (h : RowI w g xs) (i x : Nat) : RowI (w.setCell ⟨g, i, none⟩ (.int .i64 (x : Int))) g (xs.set i x) := by
  have hh : w.heap[g]? = _ := h
  unfold RowI
  rw [← cellsI_set]
  simp [World.setCell, Array.getElem?_modify, hh]
theorem RowI.block {w w' : World} {g : Nat} {xs : List Nat} (h : RowI w g xs) (e : w'.heap[g]? = w.heap[g]?) : RowI w' g xs := e.trans h
theorem RowI.below {w w' : World} {g : Nat} {xs : List Nat} (h : RowI w g xs) (hb : Below w.heap.size w w') : RowI w' g xs := h.block (hb.block g h.lt)
theorem RowI.bar {w w' : World} {g g' : Nat} {xs : List Nat} (h : RowI w g' xs) (hne : g' ≠ g) (hb : Bar g w w') : RowI w' g' xs := h.block (hb.block g' h.lt hne)
theorem RowI.cast {w : World} {g : Nat} {xs ys : List Nat} (h : RowI w g xs) (e : xs = ys) : RowI w g ys := e ▸ h
theorem RowI.isIN {w : World} {g n : Nat} {xs : List Nat} (h : RowI w g xs) (hl : xs.length ≤ 1000000000) (hn : xs.length = n) : IsI w (.slice (some ⟨g, 0, none⟩) n n) xs := by
  subst hn
  exact ⟨some ⟨g, 0, none⟩, xs.length, rfl, Nat.le_refl _, by unfold maxLen; omega, fun i hi => ⟨g, 0, rfl, by rw [Nat.zero_add]; exact h.cell i hi⟩⟩
theorem made_int (n : Nat) : (madeCells (Value.int .i64 0).cells (n * 1)).toList = cellsI (List.replicate n 0) := by
  rw [show (Value.int .i64 0).cells = #[Value.int .i64 0] from rfl, Nat.mul_one, toList_madeCells_one]
  unfold cellsI
  rw [List.map_replicate]; rfl
theorem wp_makeI {ops : Array Oper} {rest : List Oper} {o : Oper} {a : Act} {Q : Exit → Act → World → Prop} {w : World} (hgd : o.guard = none) (l c : Operand) (ho : o.op = Op.makeSlice 22 l c) (n : Nat)
    (hl : a.eval l = .int .i64 (n : Int)) (hc : a.eval c = .int .i64 (n : Int)) (hn : n ≤ 1000000000)
    (h : ∀ g w', Hid (g = w.heap.size) → RowI w' g (List.replicate n 0) → Below w.heap.size w w' → wpList Tryd.prog ops Q rest (a.put o.dst (.slice (some ⟨g, 0, none⟩) n n)) w') :
    wpList Tryd.prog ops Q (o :: rest) a w := by
  obtain ⟨i0, hi, hz0, hz1, hz2⟩ := info_parts info_int
  refine wpList_make_full w hgd l c 22 ho w.heap.size 3 i0 (.int .i64 0) 1 Tryd.underlying22 hi hz0 hz1 .i64 .i64 n n n hl hc rfl rfl (by rw [hz2]; omega) (by unfold maxLen; omega) (Nat.le_refl _) ?_
  intro w' hown hgrow
  rw [made_int] at hown
  refine h w.heap.size w' rfl ?_ ((Below.refl _ _).grown hgrow (Nat.le_refl _) (fun k hk => by cases hk))
  rcases hown.2 with ⟨hv, _⟩ | ⟨g', cap', cur, hv, hg, hh, h1, h2, h3, h4⟩
  · cases hv
  · simp only [Value.slice.injEq, Option.some.injEq, Addr.mk.injEq, and_true, true_and] at hv
    obtain ⟨rfl, rfl⟩ := hv
    have hcur : cur.toList = cellsI (List.replicate n 0) := by rw [← h4, Nat.mul_one, List.take_of_length_le (by simp [h3])]
    have hcur2 : cur = (cellsI (List.replicate n 0)).toArray := by rw [← hcur]
    rw [hcur2] at hh
    exact hh

end Go.Proofs.YtgkepflnnoociagDoor
