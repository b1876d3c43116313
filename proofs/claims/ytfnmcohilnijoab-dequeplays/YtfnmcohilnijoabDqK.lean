/-
  What slices.Clone answers of a slice of tasks: new memory that reads the same.
-/
import Derived.Test.YtfnmcohilnijoabDqA
import Derived.Deep.Upon
import Derived.Lib.SliceRun
namespace Go.Proofs.Ytfnmcohilnijoab
open Go.RowKit

theorem tc_cellsD {w : World} {a : Addr} {T : List (List Int)} (hT : T3 T) (h : ∀ i, i < T.length → ∀ j, j < 3 → w.cell? (a.add (i * 3 + j)) = some (.int .i64 ((T.getD i []).getD j 0))) : ∀ j u, (tc T)[j]? = some u → w.cell? (a.add j) = some u := by
  intro j u hj
  have hlt : j < T.length * 3 := by
    rw [← tc_length hT]
    rcases Nat.lt_or_ge j (tc T).length with q | q
    · exact q
    · rw [List.getElem?_eq_none q] at hj; cases hj
  have e : j = j / 3 * 3 + j % 3 := by omega
  have h1 := tc_get hT (j / 3) (j % 3) (by omega) (by omega)
  rw [← e, hj] at h1
  rw [e, h (j / 3) (by omega) (j % 3) (by omega), ← h1]
theorem tc_oneD {T : List (List Int)} : ∀ u ∈ tc T, u.oneCell' = true := by
  intro u hu
  unfold tc at hu
  obtain ⟨r, _, hr⟩ := List.mem_flatMap.mp hu
  obtain ⟨z, _, rfl⟩ := List.mem_map.mp hr
  rfl
/-- Nothing is appended. -/
theorem wp_append0 {ops : Array Oper} {rest : List Oper} {o : Oper} {a : Act} {Q : Exit → Act → World → Prop} {w : World} (hgd : o.guard = none) (s x : Operand)
    (ho : o.op = .call { callee := .builtin .append, args := #[s, x], argTypes := #[38, 38] }) (base : Option Addr) (n m : Nat) (ad : Addr) (c : Nat)
    (hs : a.eval s = .slice base n m) (hnm : n ≤ m) (hx : a.eval x = .slice (some ad) 0 c)
    (h : wpList Try.prog ops Q rest (a.put o.dst (.slice base n m)) w) :
    wpList Try.prog ops Q (o :: rest) a w := by
  obtain ⟨i0, hi, hz0, hz1, hz2⟩ := info_3D info_taskD
  have hr := run_append_nothing (P := Try.prog) w 38 38 o.type 40 i0 Try.underlying38 hi base n m hnm (.slice (some ad) 0 c) (Src.ofSlice w Try.underlying38 ad 0 c [] (by simp) (fun j u hj => by simp at hj) (fun u hu => by cases hu))
  refine wpList_plain hgd fun _ hK => ?_
  unfold Oper.wp execOp
  simp only [ho, resolve, invoke, builtin, Sem.run_bind, Sem.run_pure, Result.andThen_ok, List.map_toArray, List.map_cons, List.map_nil, hs, hx, hr]
  exact hK _ _ h
theorem wp_cloneQ {ops : Array Oper} {rest : List Oper} {o : Oper} {a : Act} {Q : Exit → Act → World → Prop} {w : World} (hgd : o.guard = none) (s x : Operand)
    (ho : o.op = .call { callee := .builtin .append, args := #[s, x], argTypes := #[38, 38] }) (ad : Addr) (c : Nat) (T : List (List Int)) (hT : T3 T)
    (hs : a.eval s = .slice (some ⟨w.heap.size, 0, none⟩) 0 0) (hx : a.eval x = .slice (some ad) T.length c) (hb : T.length ≤ 1000000)
    (hnews : ∀ j u, (tc T)[j]? = some u → (w.alloc (.cells #[] 40)).cell? (ad.add j) = some u)
    (h : ∀ g cap w', w'.ownsRow w.heap.size 40 3 (.slice (some ⟨g, 0, none⟩) T.length cap) T.length (tc T) → Below w.heap.size w w' → wpList Try.prog ops Q rest (a.put o.dst (.slice (some ⟨g, 0, none⟩) T.length cap)) w') :
    wpList Try.prog ops Q (o :: rest) a (w.alloc (.cells #[] 40)) := by
  obtain ⟨i0, hi, hz0, hz1, hz2⟩ := info_3D info_taskD
  have hown := World.ownsRow_lit (base := w.heap.size) (e := 40) (size := 3) w #[] 0 (Nat.le_refl _) (by simp [maxLen]) rfl
  have hbl := below_alloc1 w (.cells #[] 40)
  by_cases hn : 0 < T.length
  · refine wpList_append_lies _ hgd s x 38 ho w.heap.size 40 i0 (.agg #[.int .i64 0, .int .i64 0, .int .i64 0]) 3 24 Try.underlying38 hi hz0 hz1 hz2 rfl (by decide) _ 0 [] hs hown ad T.length c (tc T) hx (tc_length hT) hnews tc_oneD hn ?_ ?_ ?_ _ rfl ?_
    · unfold maxLen; omega
    · omega
    · exact hbl.size
    · intro g cap w' hown' hgrow _ _
      rw [Nat.zero_add, List.nil_append] at hown'
      rw [Nat.zero_add]
      exact h g cap w' hown' (hbl.grown hgrow hbl.size (fun k hk => by simp [Value.ownBlock] at hk; omega))
  · have e : T = [] := List.eq_nil_of_length_eq_zero (by omega)
    subst e
    exact wp_append0 hgd s x ho _ 0 0 ad c hs (Nat.le_refl _) hx (h _ 0 _ hown hbl)

set_option maxHeartbeats 1000000 in
theorem slices_CloneQ (w : World) (b off n cap : Nat) (T : List (List Int)) (hT3 : T3 T) (hn : n = T.length) (hb : T.length ≤ 1000000)
    (hcell : ∀ i, i < T.length → ∀ j, j < 3 → w.cell? ⟨b, off + (i * 3 + j), none⟩ = some (.int .i64 ((T.getD i []).getD j 0))) :
    Calls Try.prog 17 #[.slice (some ⟨b, off, none⟩) n cap] w fun e w' => ∃ g cap, e = .returned (.slice (some ⟨g, 0, none⟩) n cap) ∧ w'.ownsRow w.heap.size 40 3 (.slice (some ⟨g, 0, none⟩) n cap) n (tc T) ∧ Below w.heap.size w w' := by
  subst hn
  have hnil := fun (W : World) => Go.Lib.run_eql_slice_nil (P := Try.prog) W 38 40 (some ⟨b, off, none⟩) T.length cap 0 0 Try.underlying38
  go_enter Try.func17, Try.ntmps17
  have hnews := tc_cellsD (w := w.alloc (.cells #[] 40)) (a := ⟨b, off, none⟩) hT3 (fun i hi j hj => by
    have h1 := hcell i hi j hj
    rw [Go.WideShapes.add_plain]
    exact ((below_alloc1 w (.cells #[] 40)).cell (block_lt h1)).trans h1)
  clear hcell
  go_wp2_with (first
    | simp only [hnil]
    | (at_builtin; refine wp_cloneQ rfl _ _ rfl ⟨b, off, none⟩ cap T hT3 rfl rfl hb hnews ?_; intro g c2 w2 hown hbl))
  go_ret
  exact ⟨g, c2, rfl, hown, hbl⟩

/-- The first task of the law's list, and the others. -/
theorem St.first {w wr : World} {r : Nat} {p vm : Value} {m' : List (List Int)} {xa xb xc : Int} {O : Nat → Prop} (h : St w r p vm ([xa, xb, xc] :: m') O wr) :
    ∃ g c, vm = .slice (some ⟨g, 0, none⟩) (m'.length + 1) c ∧ m'.length + 1 ≤ c ∧
      Hid (∀ (wp : World) (o : Obj), But O (wr.alloc o) wp → wp.cell? ⟨g, 0, none⟩ = some (.int .i64 xa) ∧ wp.cell? ⟨g, 1, none⟩ = some (.int .i64 xb) ∧ wp.cell? ⟨g, 2, none⟩ = some (.int .i64 xc)) ∧
      Hid (∀ (wp : World) (o o1 o2 : Obj), But O (wr.alloc o) wp → ∀ i, i < m'.length → ∀ j, j < 3 → ((wp.alloc o1).alloc o2).cell? ⟨g, 3 + (i * 3 + j), none⟩ = some (.int .i64 ((m'.getD i []).getD j 0))) := by
  have hlen : ([xa, xb, xc] :: m').length = m'.length + 1 := rfl
  have hown := h.own
  rw [hlen] at hown
  obtain ⟨g, c, rfl, hc⟩ : ∃ g c, vm = .slice (some ⟨g, 0, none⟩) (m'.length + 1) c ∧ m'.length + 1 ≤ c := by
    rcases hown.2 with ⟨_, hn⟩ | ⟨g, cap, cur, hv, hg, _, hc, _⟩
    · omega
    · exact ⟨g, cap, hv, hc⟩
  have key : ∀ (wp : World) (o : Obj), But O (wr.alloc o) wp → ∀ i, i < m'.length + 1 → ∀ j, j < 3 → wp.cell? ⟨g, i * 3 + j, none⟩ = some (.int .i64 (((([xa, xb, xc] :: m').getD i []) : List Int).getD j 0)) := fun wp o hb i hi j hj => by
    have ho := owns_but hown h.off (((But.refl O wr).alloc o).trans hb fun k q => .inl q)
    rw [ho.cellAt (i * 3 + j) (by omega), tc_get h.t3 i j (by rw [hlen]; exact hi) hj]
  refine ⟨g, c, rfl, hc, fun wp o hb => ⟨key wp o hb 0 (by omega) 0 (by omega), key wp o hb 0 (by omega) 1 (by omega), key wp o hb 0 (by omega) 2 (by omega)⟩, fun wp o o1 o2 hb i hi j hj => ?_⟩
  have := key wp o hb (i + 1) (by omega) j hj
  rw [show (i + 1) * 3 + j = 3 + (i * 3 + j) by omega] at this
  exact cell_two this o1 o2
/-- The law's list is a new one. -/
theorem St.stolen {w wr wp w6 : World} {r : Nat} {p vm : Value} {m m' : List (List Int)} {O O2 : Nat → Prop} {o o1 o2 : Obj} {g n c : Nat} (hS : St w r p vm m O wr) (hbu : But O (wr.alloc o) wp) (hO2 : ∀ k, O2 k → O k ∨ (wr.alloc o).heap.size ≤ k) (hD : Dq wp p r m' O2) (hT : T3 m') (hn : n = m'.length)
    (hown : w6.ownsRow ((wp.alloc o1).alloc o2).heap.size 40 3 (.slice (some ⟨g, 0, none⟩) n c) n (tc m')) (hb6 : Below ((wp.alloc o1).alloc o2).heap.size ((wp.alloc o1).alloc o2) w6) : St w r p (.slice (some ⟨g, 0, none⟩) n c) m' O2 w6 := by
  obtain ⟨-, hBw, hnew, -⟩ := hS.over hbu hO2
  have h1 := (below_alloc1 wp o1)
  have h2 := (below_alloc1 (wp.alloc o1) o2)
  have hB2 : Below wp.heap.size wp ((wp.alloc o1).alloc o2) := h1.trans (h2.mono h1.size)
  have hB6 : Below wp.heap.size wp w6 := hB2.trans (hb6.mono hB2.size)
  have hs := hBw.size
  have hs2 := hB2.size
  subst hn
  have hg : ((wp.alloc o1).alloc o2).heap.size ≤ g := owns_block hown g rfl
  refine ⟨hT, ⟨hown.1, ?_⟩, hD.kept fun k q => hB6.block k (hD.old k q), hnew, fun g' hg' q => ?_, hBw.trans (hB6.mono hs)⟩
  · rcases hown.2 with ⟨hv, _⟩ | ⟨g', cap, cur, hv, hg', rest⟩
    · cases hv
    · exact .inr ⟨g', cap, cur, hv, by omega, rest⟩
  · simp only [Value.ownBlock, Option.some.injEq] at hg'
    subst hg'
    have := hD.old g q
    omega

/-- What lies in two blocks that were made ahead of a call. -/
theorem box_one {w w6 : World} {c1 c2 : Array Value} {t1 t2 : Nat} (hb : Below ((w.alloc (.cells c1 t1)).alloc (.cells c2 t2)).heap.size ((w.alloc (.cells c1 t1)).alloc (.cells c2 t2)) w6) (i : Nat) (u : Value) (h : c1[i]? = some u) : w6.cell? ⟨w.heap.size, i, none⟩ = some u := by
  have hs : (w.alloc (.cells c1 t1)).heap.size = w.heap.size + 1 := by simp
  have hs2 : ((w.alloc (.cells c1 t1)).alloc (.cells c2 t2)).heap.size = w.heap.size + 2 := by simp
  have e : w6.heap[w.heap.size]? = some (.cells c1 t1) := (hb.block w.heap.size (by omega)).trans (((below_alloc1 (w.alloc (.cells c1 t1)) (.cells c2 t2)).block w.heap.size (by omega)).trans (heap_last w _))
  simp only [World.cell?, e]
  rw [h]; rfl
theorem box_two {w w6 : World} {c1 c2 : Array Value} {t1 t2 : Nat} (hb : Below ((w.alloc (.cells c1 t1)).alloc (.cells c2 t2)).heap.size ((w.alloc (.cells c1 t1)).alloc (.cells c2 t2)) w6) (i : Nat) (u : Value) (h : c2[i]? = some u) : w6.cell? ⟨w.heap.size + 1, i, none⟩ = some u := by
  have hs : (w.alloc (.cells c1 t1)).heap.size = w.heap.size + 1 := by simp
  have hs2 : ((w.alloc (.cells c1 t1)).alloc (.cells c2 t2)).heap.size = w.heap.size + 2 := by simp
  have e : w6.heap[w.heap.size + 1]? = some (.cells c2 t2) := (hb.block _ (by omega)).trans (by rw [← hs]; exact heap_last (w.alloc (.cells c1 t1)) _)
  simp only [World.cell?, e]
  rw [h]; rfl

end Go.Proofs.Ytfnmcohilnijoab
