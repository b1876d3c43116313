/-
  What slices.Clone answers of a slice of tasks that has some: new memory that reads the same.
-/
import Derived.Test.YtmgfjcepebjnfagDoorSlT
import Derived.Lib.SliceRun
namespace Go.Proofs.YtmgfjcepebjnfagDoor
open Go.RowKit

theorem tc_cells {w : World} {a : Addr} {T : List (List Int)} (hT : T3 T) (h : ∀ i, i < T.length → ∀ j, j < 3 → w.cell? (a.add (i * 3 + j)) = some (.int .i64 ((T.getD i []).getD j 0))) : ∀ j u, (tc T)[j]? = some u → w.cell? (a.add j) = some u := by
  intro j u hj
  have hlt : j < T.length * 3 := by
    rw [← tc_length hT]
    rcases Nat.lt_or_ge j (tc T).length with q | q
    · exact q
    · rw [List.getElem?_eq_none q] at hj; cases hj
  have e : j = j / 3 * 3 + j % 3 := by omega
  have h1 := tc_get hT (j / 3) (j % 3) (by omega) (by omega)
  rw [← e, hj] at h1
  rw [e, h (j / 3) (by omega) (j % 3) (by omega), ← h1]
theorem tc_one' {T : List (List Int)} : ∀ u ∈ tc T, u.oneCell' = true := by
  intro u hu
  unfold tc at hu
  obtain ⟨r, _, hr⟩ := List.mem_flatMap.mp hu
  obtain ⟨z, _, rfl⟩ := List.mem_map.mp hr
  rfl

theorem wp_cloneT {ops : Array Oper} {rest : List Oper} {o : Oper} {a : Act} {Q : Exit → Act → World → Prop} {w : World} (hgd : o.guard = none) (s x : Operand)
    (ho : o.op = .call { callee := .builtin .append, args := #[s, x], argTypes := #[56, 56] }) (ad : Addr) (c : Nat) (T : List (List Int)) (hT : T3 T)
    (hs : a.eval s = .slice (some ⟨w.heap.size, 0, none⟩) 0 0) (hx : a.eval x = .slice (some ad) T.length c) (hn : 0 < T.length) (hb : T.length ≤ 1000000)
    (hnews : ∀ j u, (tc T)[j]? = some u → (w.alloc (.cells #[] 41)).cell? (ad.add j) = some u)
    (h : ∀ g cap w', w'.ownsRow w.heap.size 41 3 (.slice (some ⟨g, 0, none⟩) T.length cap) T.length (tc T) → Below w.heap.size w w' → wpList Tryd.prog ops Q rest (a.put o.dst (.slice (some ⟨g, 0, none⟩) T.length cap)) w') :
    wpList Tryd.prog ops Q (o :: rest) a (w.alloc (.cells #[] 41)) := by
  obtain ⟨i0, hi, hz0, hz1, hz2⟩ := info_3 info_task
  have hown := World.ownsRow_lit (base := w.heap.size) (e := 41) (size := 3) w #[] 0 (Nat.le_refl _) (by simp [maxLen]) rfl
  have hbl := below_alloc1 w (.cells #[] 41)
  refine wpList_append_lies _ hgd s x 56 ho w.heap.size 41 i0 (.agg #[.int .i64 0, .int .i64 0, .int .i64 0]) 3 24 Tryd.underlying56 hi hz0 hz1 hz2 rfl (by decide) _ 0 [] hs hown ad T.length c (tc T) hx (tc_length hT) hnews tc_one' hn ?_ ?_ ?_ _ rfl ?_
  · unfold maxLen; omega
  · omega
  · exact hbl.size
  · intro g cap w' hown' hgrow _ _
    rw [Nat.zero_add, List.nil_append] at hown'
    rw [Nat.zero_add]
    exact h g cap w' hown' (hbl.grown hgrow hbl.size (fun k hk => by simp [Value.ownBlock] at hk; omega))

set_option maxHeartbeats 1000000 in
theorem slices_CloneT (w : World) (v : Value) (T : List (List Int)) (h : IsR 3 w v T) (hn : 0 < T.length) (hb : T.length ≤ 1000000) :
    Calls Tryd.prog 34 #[v] w fun e w' => ∃ g cap, e = .returned (.slice (some ⟨g, 0, none⟩) T.length cap) ∧ w'.ownsRow w.heap.size 41 3 (.slice (some ⟨g, 0, none⟩) T.length cap) T.length (tc T) ∧ Below w.heap.size w w' := by
  have hT3 : T3 T := by obtain ⟨_, _, _, _, _, _, hr⟩ := h; exact hr
  obtain ⟨a, cap, rfl, hcap, hmax, hc, -⟩ := h
  obtain ⟨b, off, rfl, -⟩ := hc 0 hn
  have hcell : ∀ i, i < T.length → ∀ j, j < 3 → w.cell? ((⟨b, off, none⟩ : Addr).add (i * 3 + j)) = some (.int .i64 ((T.getD i []).getD j 0)) := fun i hi j hj => by
    obtain ⟨b', off', e, hce⟩ := hc i hi
    simp only [Option.some.injEq, Addr.mk.injEq, and_true] at e
    obtain ⟨rfl, rfl⟩ := e
    rw [Go.WideShapes.add_plain]
    exact hce j hj
  clear hc
  have hnil := fun (W : World) => Go.Lib.run_eql_slice_nil (P := Tryd.prog) W 56 41 (some ⟨b, off, none⟩) T.length cap 0 0 Tryd.underlying56
  go_enter Tryd.func34, Tryd.ntmps34
  have hnews := tc_cells (w := w.alloc (.cells #[] 41)) (a := ⟨b, off, none⟩) hT3 (fun i hi j hj => by
    have h1 := hcell i hi j hj
    rw [Go.WideShapes.add_plain] at h1 ⊢
    exact ((below_alloc1 w (.cells #[] 41)).cell (block_lt h1)).trans h1)
  clear hcell
  go_wp2_with (first
    | simp only [hnil]
    | (at_builtin; refine wp_cloneT rfl _ _ rfl ⟨b, off, none⟩ cap T hT3 rfl rfl hn hb hnews ?_; intro g c2 w2 hown hbl))
  go_ret
  exact ⟨g, c2, rfl, hown, hbl⟩

end Go.Proofs.YtmgfjcepebjnfagDoor
