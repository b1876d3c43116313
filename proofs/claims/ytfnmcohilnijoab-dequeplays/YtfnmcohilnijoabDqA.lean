/-
  A task appended to a slice of tasks that the call itself made.
-/
import Derived.Test.YtfnmcohilnijoabDqS
import Derived.Deep.AppendLies
namespace Go.Proofs.Ytfnmcohilnijoab
open Go.RowKit

theorem info_taskD : (Try.prog.info? 40).map (fun i => (i.zero, i.size, i.bytes)) = some (some (.agg #[.int .i64 0, .int .i64 0, .int .i64 0]), 3, 24) := by kernel_rfl
theorem info_3D {t : Nat} {z : Value} {s b : Nat} (h : (Try.prog.info? t).map (fun i => (i.zero, i.size, i.bytes)) = some (some z, s, b)) : ∃ i, Try.prog.info? t = some i ∧ i.zero = some z ∧ i.size = s ∧ i.bytes = b := by
  cases hi : Try.prog.info? t with
  | none => rw [hi] at h; cases h
  | some i =>
    rw [hi] at h
    simp only [Option.map_some, Option.some.injEq, Prod.mk.injEq] at h
    exact ⟨i, rfl, h.1, h.2.1, h.2.2⟩
theorem heap_last (w : World) (o : Obj) : (w.alloc o).heap[w.heap.size]? = some o := by
  show (w.heap.push _)[w.heap.size]? = _
  simp
theorem wp_appendQ {ops : Array Oper} {rest : List Oper} {o : Oper} {a : Act} {Q : Exit → Act → World → Prop} {w w0 : World} (hgd : o.guard = none) (s x : Operand)
    (ho : o.op = .call { callee := .builtin .append, args := #[s, x], argTypes := #[38, 38] }) (v : Value) (n : Nat) (xs : List Value) (p q r : Int)
    (hs : a.eval s = v) (hown : w.ownsRow w0.heap.size 40 3 v n xs) (hx : a.eval x = .slice (some ⟨w.heap.size, 0, none⟩) 1 1)
    (hn : n ≤ 1000000) (hnx : Below w0.heap.size w0 w)
    (h : ∀ g cap w', w'.ownsRow w0.heap.size 40 3 (.slice (some ⟨g, 0, none⟩) (n + 1) cap) (n + 1) (xs ++ [.int .i64 p, .int .i64 q, .int .i64 r]) → Below w0.heap.size w0 w' → (∀ b, b < w.heap.size → v.ownBlock ≠ some b → w'.heap[b]? = w.heap[b]?) → Hid (v.ownBlock = some g ∨ w.heap.size < g) → w.heap.size ≤ w'.heap.size → wpList Try.prog ops Q rest (a.put o.dst (.slice (some ⟨g, 0, none⟩) (n + 1) cap)) w') :
    wpList Try.prog ops Q (o :: rest) a (w.alloc (.cells #[.int .i64 p, .int .i64 q, .int .i64 r] 40)) := by
  obtain ⟨i0, hi, hz0, hz1, hz2⟩ := info_3D info_taskD
  have hsz := hnx.size
  refine wpList_append_lies _ hgd s x 38 ho w0.heap.size 40 i0 (.agg #[.int .i64 0, .int .i64 0, .int .i64 0]) 3 24 Try.underlying38 hi hz0 hz1 hz2 rfl (by decide) v n xs hs (hown.alloc _) ⟨w.heap.size, 0, none⟩ 1 1 [.int .i64 p, .int .i64 q, .int .i64 r] hx rfl ?_ ?_ (by decide) ?_ ?_ ?_ _ rfl ?_
  · exact World.news_of_block (heap_last w _)
  · intro u hu
    simp only [List.mem_cons, List.not_mem_nil, or_false] at hu
    rcases hu with rfl | rfl | rfl <;> rfl
  · unfold maxLen; omega
  · omega
  · simp; omega
  · intro g cap w' hown' hgrow hat hlt
    have hal : (w.alloc (.cells #[.int .i64 p, .int .i64 q, .int .i64 r] 40)).heap.size = w.heap.size + 1 := by simp
    refine h g cap w' hown' ((hnx.alloc hsz _).grown hgrow (by simp; omega) (owns_block hown)) (fun b hb hne => ?_) ?_ ?_
    · rw [hgrow.block b (by rw [hal]; omega) (fun e => hne e.symm)]
      exact Below.heap_alloc _ _ _ hb
    · rcases hat with h1 | h1
      · exact .inl h1
      · exact .inr (by rw [h1, hal]; omega)
    · have := hgrow.size
      omega
/-- One task more. -/
theorem St.pushed {w wp w' : World} {r : Nat} {p vm : Value} {m : List (List Int)} {a b c : Int} {O2 : Nat → Prop} {g cap : Nat} (hT : T3 (m ++ [[a, b, c]])) (hD : Dq wp p r (m ++ [[a, b, c]]) O2) (hnew : ∀ k, O2 k → w.heap.size ≤ k) (hoff : ∀ g, vm.ownBlock = some g → ¬ O2 g)
    (hown : w'.ownsRow w.heap.size 40 3 (.slice (some ⟨g, 0, none⟩) (m.length + 1) cap) (m.length + 1) (tc m ++ [.int .i64 a, .int .i64 b, .int .i64 c])) (hnx : Below w.heap.size w w')
    (hk : ∀ b, b < wp.heap.size → vm.ownBlock ≠ some b → w'.heap[b]? = wp.heap[b]?) (hat : Hid (vm.ownBlock = some g ∨ wp.heap.size < g)) : St w r p (.slice (some ⟨g, 0, none⟩) (m.length + 1) cap) (m ++ [[a, b, c]]) O2 w' := by
  have hlen : (m ++ [[a, b, c]]).length = m.length + 1 := by simp
  refine ⟨hT, by rw [hlen, tc_append]; exact hown, hD.kept fun k q => hk k (hD.old k q) fun e => hoff k e q, hnew, fun g' hg q => ?_, hnx⟩
  simp only [Value.ownBlock, Option.some.injEq] at hg
  subst hg
  rcases hat.out with e | e
  · exact hoff g e q
  · have := hD.old g q
    omega

end Go.Proofs.Ytfnmcohilnijoab
