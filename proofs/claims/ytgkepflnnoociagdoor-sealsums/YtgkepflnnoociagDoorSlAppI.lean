/-
  One int is appended to a slice that the call itself made.
-/
import Derived.Test.YtgkepflnnoociagDoorCellsI
import Derived.Deep.RegionLaw
import Derived.Deep.AppendLies
namespace Go.Proofs.YtgkepflnnoociagDoor
open Go.RowKit

theorem wp_appendI {ops : Array Oper} {rest : List Oper} {o : Oper} {a : Act} {Q : Exit → Act → World → Prop} {w w0 : World} (hgd : o.guard = none) (s x : Operand)
    (ho : o.op = .call { callee := .builtin .append, args := #[s, x], argTypes := #[22, 22] }) (v : Value) (n : Nat) (xs : List Value) (z : Nat)
    (hs : a.eval s = v) (hown : w.ownsRow w0.heap.size 3 1 v n xs) (hx : a.eval x = .slice (some ⟨w.heap.size, 0, none⟩) 1 1)
    (hn : n ≤ 1000000000) (hnx : Below w0.heap.size w0 w)
    (h : ∀ v' w', w'.ownsRow w0.heap.size 3 1 v' (n + 1) (xs ++ [.int .i64 (z : Int)]) → Below w0.heap.size w0 w' → wpList Tryd.prog ops Q rest (a.put o.dst v') w') :
    wpList Tryd.prog ops Q (o :: rest) a (w.alloc (.cells #[.int .i64 (z : Int)] 3)) := by
  obtain ⟨i0, hi, hz0, hz1, hz2⟩ := info_parts info_int
  have hsz := hnx.size
  refine wpList_append_own _ hgd s x 22 ho w0.heap.size 3 i0 (.int .i64 0) 1 8 Tryd.underlying22 hi hz0 hz1 hz2 rfl (by decide) v n xs hs (hown.alloc _) ⟨w.heap.size, 0, none⟩ 1 1 [.int .i64 (z : Int)] hx rfl ?_ ?_ ?_ ?_ ?_ ?_
  · intro j u hj
    match j, hj with
    | 0, hj => simp at hj; subst hj; simp [Addr.add]
  · intro u hu; simp at hu; subst hu; rfl
  · unfold maxLen; omega
  · omega
  · simp; omega
  · intro v' w' hown' hgrow _
    exact h v' w' hown' ((hnx.alloc hsz _).grown hgrow (by simp; omega) (owns_block hown))

/-- The same as a step of a region that draws its order. -/
theorem step_appendI {ops : Array Oper} {o : Oper} {a : Act} {K : Act → World → Prop} {Q : Exit → Act → World → Prop} {E : Prop} {w w0 : World} (hgd : o.guard = none) (s x : Operand)
    (ho : o.op = .call { callee := .builtin .append, args := #[s, x], argTypes := #[22, 22] }) (v : Value) (n : Nat) (xs : List Value) (z : Nat)
    (hs : a.eval s = v) (hx : a.eval x = .slice (some ⟨w.heap.size, 0, none⟩) 1 1) (hown : w.ownsRow w0.heap.size 3 1 v n xs)
    (hn : n ≤ 1000000000) (hnx : Below w0.heap.size w0 w)
    (h : ∀ v' w', w'.ownsRow w0.heap.size 3 1 v' (n + 1) (xs ++ [.int .i64 (z : Int)]) → Below w0.heap.size w0 w' → K (a.put o.dst v') w') :
    if Region.wanted o (yielded ops a.tmps) = true then Oper.wp Tryd.prog o a (w.alloc (.cells #[.int .i64 (z : Int)] 3)) K Q else E := by
  obtain ⟨i0, hi, hz0, hz1, hz2⟩ := info_parts info_int
  have hsz := hnx.size
  refine step_append_lies _ hgd s x 22 ho w0.heap.size 3 i0 (.int .i64 0) 1 8 Tryd.underlying22 hi hz0 hz1 hz2 rfl (by decide) v n xs hs (hown.alloc _) ⟨w.heap.size, 0, none⟩ 1 1 [.int .i64 (z : Int)] hx rfl ?_ ?_ (by decide) ?_ ?_ ?_ _ rfl ?_
  · intro j u hj
    match j, hj with
    | 0, hj => simp at hj; subst hj; simp [Addr.add]
  · intro u hu; simp at hu; subst hu; rfl
  · unfold maxLen; omega
  · omega
  · simp; omega
  · intro g cap w' hown' hgrow _ _
    exact h _ w' hown' ((hnx.alloc hsz _).grown hgrow (by simp; omega) (owns_block hown))

theorem wp_appendX {ops : Array Oper} {rest : List Oper} {o : Oper} {a : Act} {Q : Exit → Act → World → Prop} {w w0 : World} (hgd : o.guard = none) (s x : Operand)
    (ho : o.op = .call { callee := .builtin .append, args := #[s, x], argTypes := #[22, 22] }) (v : Value) (n : Nat) (xs : List Value) (z : Nat)
    (hs : a.eval s = v) (hown : w.ownsRow w0.heap.size 3 1 v n xs) (hx : a.eval x = .slice (some ⟨w.heap.size, 0, none⟩) 1 1)
    (hn : n ≤ 1000000) (hnx : Below w0.heap.size w0 w)
    (h : ∀ g cap w', w'.ownsRow w0.heap.size 3 1 (.slice (some ⟨g, 0, none⟩) (n + 1) cap) (n + 1) (xs ++ [.int .i64 (z : Int)]) → Below w0.heap.size w0 w' → (∀ b, b < w.heap.size → v.ownBlock ≠ some b → w'.heap[b]? = w.heap[b]?) → Hid (v.ownBlock = some g ∨ w.heap.size < g) → g < w'.heap.size → w.heap.size ≤ w'.heap.size → wpList Tryd.prog ops Q rest (a.put o.dst (.slice (some ⟨g, 0, none⟩) (n + 1) cap)) w') :
    wpList Tryd.prog ops Q (o :: rest) a (w.alloc (.cells #[.int .i64 (z : Int)] 3)) := by
  obtain ⟨i0, hi, hz0, hz1, hz2⟩ := info_parts info_int
  have hsz := hnx.size
  refine wpList_append_lies _ hgd s x 22 ho w0.heap.size 3 i0 (.int .i64 0) 1 8 Tryd.underlying22 hi hz0 hz1 hz2 rfl (by decide) v n xs hs (hown.alloc _) ⟨w.heap.size, 0, none⟩ 1 1 [.int .i64 (z : Int)] hx rfl ?_ ?_ (by decide) ?_ ?_ ?_ _ rfl ?_
  · intro j u hj
    match j, hj with
    | 0, hj => simp at hj; subst hj; simp [Addr.add]
  · intro u hu; simp at hu; subst hu; rfl
  · unfold maxLen; omega
  · omega
  · simp; omega
  · intro g cap w' hown' hgrow hat hlt
    have hal : (w.alloc (.cells #[.int .i64 (z : Int)] 3)).heap.size = w.heap.size + 1 := by simp
    refine h g cap w' hown' ((hnx.alloc hsz _).grown hgrow (by simp; omega) (owns_block hown)) (fun b hb hne => ?_) ?_ hlt ?_
    · rw [hgrow.block b (by rw [hal]; omega) (fun e => hne e.symm)]
      exact Below.heap_alloc _ _ _ hb
    · rcases hat with h1 | h1
      · exact .inl h1
      · exact .inr (by rw [h1, hal]; omega)
    · have := hgrow.size
      omega

theorem info_ints : (Tryd.prog.info? 22).map (fun i => (i.zero, i.size, i.bytes)) = some (some (.slice none 0 0), 1, 24) := by kernel_rfl

theorem wp_appendS {ops : Array Oper} {rest : List Oper} {o : Oper} {a : Act} {Q : Exit → Act → World → Prop} {w w0 : World} (hgd : o.guard = none) (s x : Operand)
    (ho : o.op = .call { callee := .builtin .append, args := #[s, x], argTypes := #[80, 80] }) (v : Value) (n : Nat) (xs : List Value) (p : Option Addr) (l c : Nat)
    (hs : a.eval s = v) (hown : w.ownsRow w0.heap.size 22 1 v n xs) (hx : a.eval x = .slice (some ⟨w.heap.size, 0, none⟩) 1 1)
    (hn : n ≤ 1000000) (hnx : Below w0.heap.size w0 w)
    (h : ∀ g cap w', w'.ownsRow w0.heap.size 22 1 (.slice (some ⟨g, 0, none⟩) (n + 1) cap) (n + 1) (xs ++ [.slice p l c]) → Below w0.heap.size w0 w' → (∀ b, b < w.heap.size → v.ownBlock ≠ some b → w'.heap[b]? = w.heap[b]?) → Hid (v.ownBlock = some g ∨ w.heap.size < g) → g < w'.heap.size → w.heap.size ≤ w'.heap.size → wpList Tryd.prog ops Q rest (a.put o.dst (.slice (some ⟨g, 0, none⟩) (n + 1) cap)) w') :
    wpList Tryd.prog ops Q (o :: rest) a (w.alloc (.cells #[.slice p l c] 22)) := by
  obtain ⟨i0, hi, hz0, hz1, hz2⟩ := info_parts info_ints
  have hsz := hnx.size
  refine wpList_append_lies _ hgd s x 80 ho w0.heap.size 22 i0 (.slice none 0 0) 1 24 Tryd.underlying80 hi hz0 hz1 hz2 rfl (by decide) v n xs hs (hown.alloc _) ⟨w.heap.size, 0, none⟩ 1 1 [.slice p l c] hx rfl ?_ ?_ (by decide) ?_ ?_ ?_ _ rfl ?_
  · intro j u hj
    match j, hj with
    | 0, hj => simp at hj; subst hj; simp [Addr.add]
  · intro u hu; simp at hu; subst hu; rfl
  · unfold maxLen; omega
  · omega
  · simp; omega
  · intro g cap w' hown' hgrow hat hlt
    have hal : (w.alloc (.cells #[.slice p l c] 22)).heap.size = w.heap.size + 1 := by simp
    refine h g cap w' hown' ((hnx.alloc hsz _).grown hgrow (by simp; omega) (owns_block hown)) (fun b hb hne => ?_) ?_ hlt ?_
    · rw [hgrow.block b (by rw [hal]; omega) (fun e => hne e.symm)]
      exact Below.heap_alloc _ _ _ hb
    · rcases hat with h1 | h1
      · exact .inl h1
      · exact .inr (by rw [h1, hal]; omega)
    · have := hgrow.size
      omega

end Go.Proofs.YtgkepflnnoociagDoor
