/-
  Lists of any length that a program's memory can hold: made, and read as slices.
-/
import Derived.Test.YtndmhceampggmafDoorRowU
namespace Go.Proofs.YtndmhceampggmafDoor
open Go.RowKit

theorem IsU.len {w : World} {a : Option Addr} {n c : Nat} {xs : List Nat} (h : IsU w (.slice a n c) xs) : xs.length = n := by
  obtain ⟨a', c', e, -⟩ := h
  simp only [Value.slice.injEq] at e
  exact e.2.1.symm
theorem RowU.isUW {w : World} {g n : Nat} {xs : List Nat} (h : RowU w g xs) (hr : Rng xs) (hl : xs.length ≤ 35184372088832) (hn : xs.length = n) : IsU w (.slice (some ⟨g, 0, none⟩) n n) xs := by
  subst hn
  exact ⟨some ⟨g, 0, none⟩, xs.length, rfl, Nat.le_refl _, by unfold maxLen; omega, fun i hi => ⟨g, 0, rfl, by rw [Nat.zero_add]; exact h.cell i hi⟩, hr⟩

theorem wp_makeW {ops : Array Oper} {rest : List Oper} {o : Oper} {a : Act} {Q : Exit → Act → World → Prop} {w : World} (hgd : o.guard = none) (l c : Operand) (ho : o.op = Op.makeSlice 23 l c) (n : Nat)
    (hl : a.eval l = .int .i64 (n : Int)) (hc : a.eval c = .int .i64 (n : Int)) (hn : n ≤ 35184372088832)
    (h : ∀ g w', Hid (g = w.heap.size) → RowU w' g (List.replicate n 0) → Below w.heap.size w w' → wpList Tryd.prog ops Q rest (a.put o.dst (.slice (some ⟨g, 0, none⟩) n n)) w') :
    wpList Tryd.prog ops Q (o :: rest) a w := by
  obtain ⟨i0, hi, hz0, hz1, hz2⟩ := info_parts info_u64
  refine wpList_make_full w hgd l c 23 ho w.heap.size 52 i0 (.int .u64 0) 1 Tryd.underlying23 hi hz0 hz1 .i64 .i64 n n n hl hc rfl rfl (by rw [hz2]; omega) (by unfold maxLen; omega) (Nat.le_refl _) ?_
  intro w' hown hgrow
  rw [made_u64] at hown
  exact h w.heap.size w' rfl (RowU.of_owns hown) ((Below.refl _ _).grown hgrow (Nat.le_refl _) (fun k hk => by cases hk))

end Go.Proofs.YtndmhceampggmafDoor
