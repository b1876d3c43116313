/-
  Slices that are appended to or cloned: tasks, numbers, ints.
-/
import Derived.Test.YtmgfjcepebjnfagDoorSlTask
import Derived.Test.YtmgfjcepebjnfagDoorExW
import Derived.Test.YtmgfjcepebjnfagDoorSlIAll
import Derived.Deep.AppendLies
import Derived.Deep.Upon
import Derived.Deep.RegionLaw
namespace Go.Proofs.YtmgfjcepebjnfagDoor
open Go.RowKit

theorem step_appendQ {ops : Array Oper} {o : Oper} {a : Act} {K : Act → World → Prop} {Q : Exit → Act → World → Prop} {E : Prop} {w : World} {B : Nat} (hgd : o.guard = none) (s x : Operand)
    (ho : o.op = .call { callee := .builtin .append, args := #[s, x], argTypes := #[55, 55] }) (v : Value) (n : Nat) (xs : List Value) (p q r : Int)
    (hs : a.eval s = v) (hx : a.eval x = .slice (some ⟨w.heap.size, 0, none⟩) 1 1) (hown : w.ownsRow B 41 3 v n xs)
    (hn : n ≤ 1000000) (hB : B ≤ w.heap.size)
    (h : ∀ g cap w', w'.ownsRow B 41 3 (.slice (some ⟨g, 0, none⟩) (n + 1) cap) (n + 1) (xs ++ [.int .i64 p, .int .i64 q, .int .i64 r]) → Hid ((w.alloc (.cells #[.int .i64 p, .int .i64 q, .int .i64 r] 41)).grownBy w' v.ownBlock) → Hid (v.ownBlock = some g ∨ w.heap.size ≤ g) → K (a.put o.dst (.slice (some ⟨g, 0, none⟩) (n + 1) cap)) w') :
    if Region.wanted o (yielded ops a.tmps) = true then Oper.wp Tryd.prog o a (w.alloc (.cells #[.int .i64 p, .int .i64 q, .int .i64 r] 41)) K Q else E := by
  obtain ⟨i0, hi, hz0, hz1, hz2⟩ := info_3 info_task
  refine step_append_lies _ hgd s x 55 ho B 41 i0 (.agg #[.int .i64 0, .int .i64 0, .int .i64 0]) 3 24 Tryd.underlying55 hi hz0 hz1 hz2 rfl (by decide) v n xs hs (hown.alloc _) ⟨w.heap.size, 0, none⟩ 1 1 [.int .i64 p, .int .i64 q, .int .i64 r] hx rfl ?_ ?_ (by decide) ?_ ?_ ?_ _ rfl ?_
  · exact World.news_of_block (heap_alloc_new w _)
  · intro u hu
    simp only [List.mem_cons, List.not_mem_nil, or_false] at hu
    rcases hu with rfl | rfl | rfl <;> rfl
  · unfold maxLen; omega
  · omega
  · simp; omega
  · intro g cap w' hown' hgrow hat _
    have hal : (w.alloc (.cells #[.int .i64 p, .int .i64 q, .int .i64 r] 41)).heap.size = w.heap.size + 1 := by simp
    refine h g cap w' hown' hgrow ?_
    rcases hat with h1 | h1
    · exact .inl h1
    · exact .inr (by rw [h1, hal]; omega)

theorem But.of_grown {w w' : World} {o : Obj} {v : Value} {O : Nat → Prop} (h : (w.alloc o).grownBy w' v.ownBlock) (hO : ∀ b, v.ownBlock = some b → O b) : But O w w' :=
  ⟨h.os, h.tape, h.output, by have := h.size; simp at this; omega, fun k hk hn => (h.block k (by simp; omega) (fun e => hn (hO k e.symm))).trans (Below.heap_alloc _ _ _ hk)⟩

/-- Nothing is appended. -/
theorem wp_append0 {ops : Array Oper} {rest : List Oper} {o : Oper} {a : Act} {Q : Exit → Act → World → Prop} {w : World} (hgd : o.guard = none) (s x : Operand)
    (ho : o.op = .call { callee := .builtin .append, args := #[s, x], argTypes := #[55, 55] }) (base : Option Addr) (n m : Nat) (ad : Addr) (c : Nat)
    (hs : a.eval s = .slice base n m) (hnm : n ≤ m) (hx : a.eval x = .slice (some ad) 0 c)
    (h : wpList Tryd.prog ops Q rest (a.put o.dst (.slice base n m)) w) :
    wpList Tryd.prog ops Q (o :: rest) a w := by
  obtain ⟨i0, hi, hz0, hz1, hz2⟩ := info_3 info_task
  have hr := run_append_nothing (P := Tryd.prog) w 55 55 o.type 41 i0 Tryd.underlying55 hi base n m hnm (.slice (some ad) 0 c) (Src.ofSlice w Tryd.underlying55 ad 0 c [] (by simp) (fun j u hj => by simp at hj) (fun u hu => by cases hu))
  refine wpList_plain hgd fun _ hK => ?_
  unfold Oper.wp execOp
  simp only [ho, resolve, invoke, builtin, Sem.run_bind, Sem.run_pure, Result.andThen_ok, List.map_toArray, List.map_cons, List.map_nil, hs, hx, hr]
  exact hK _ _ h
theorem wp_cloneQ {ops : Array Oper} {rest : List Oper} {o : Oper} {a : Act} {Q : Exit → Act → World → Prop} {w : World} (hgd : o.guard = none) (s x : Operand)
    (ho : o.op = .call { callee := .builtin .append, args := #[s, x], argTypes := #[55, 55] }) (ad : Addr) (c : Nat) (T : List (List Int)) (hT : T3 T)
    (hs : a.eval s = .slice (some ⟨w.heap.size, 0, none⟩) 0 0) (hx : a.eval x = .slice (some ad) T.length c) (hb : T.length ≤ 1000000)
    (hnews : ∀ j u, (tc T)[j]? = some u → (w.alloc (.cells #[] 41)).cell? (ad.add j) = some u)
    (h : ∀ g cap w', w'.ownsRow w.heap.size 41 3 (.slice (some ⟨g, 0, none⟩) T.length cap) T.length (tc T) → Below w.heap.size w w' → wpList Tryd.prog ops Q rest (a.put o.dst (.slice (some ⟨g, 0, none⟩) T.length cap)) w') :
    wpList Tryd.prog ops Q (o :: rest) a (w.alloc (.cells #[] 41)) := by
  obtain ⟨i0, hi, hz0, hz1, hz2⟩ := info_3 info_task
  have hown := World.ownsRow_lit (base := w.heap.size) (e := 41) (size := 3) w #[] 0 (Nat.le_refl _) (by simp [maxLen]) rfl
  have hbl := below_alloc1 w (.cells #[] 41)
  by_cases hn : 0 < T.length
  · refine wpList_append_lies _ hgd s x 55 ho w.heap.size 41 i0 (.agg #[.int .i64 0, .int .i64 0, .int .i64 0]) 3 24 Tryd.underlying55 hi hz0 hz1 hz2 rfl (by decide) _ 0 [] hs hown ad T.length c (tc T) hx (tc_length hT) hnews tc_one' hn ?_ ?_ ?_ _ rfl ?_
    · unfold maxLen; omega
    · omega
    · exact hbl.size
    · intro g cap w' hown' hgrow _ _
      rw [Nat.zero_add, List.nil_append] at hown'
      rw [Nat.zero_add]
      exact h g cap w' hown' (hbl.grown hgrow hbl.size (fun k hk => by simp [Value.ownBlock] at hk; omega))
  · have e : T = [] := List.eq_nil_of_length_eq_zero (by omega)
    subst e
    exact wp_append0 hgd s x ho _ 0 0 ad c hs (Nat.le_refl _) hx (h _ 0 _ hown hbl)
set_option maxHeartbeats 1000000 in
theorem slices_CloneQ (w : World) (b off n cap : Nat) (T : List (List Int)) (hT3 : T3 T) (hn : n = T.length) (hb : T.length ≤ 1000000)
    (hcell : ∀ i, i < T.length → ∀ j, j < 3 → w.cell? ⟨b, off + (i * 3 + j), none⟩ = some (.int .i64 ((T.getD i []).getD j 0))) :
    Calls Tryd.prog 77 #[.slice (some ⟨b, off, none⟩) n cap] w fun e w' => ∃ g cap, e = .returned (.slice (some ⟨g, 0, none⟩) n cap) ∧ w'.ownsRow w.heap.size 41 3 (.slice (some ⟨g, 0, none⟩) n cap) n (tc T) ∧ Below w.heap.size w w' := by
  subst hn
  have hnil := fun (W : World) => Go.Lib.run_eql_slice_nil (P := Tryd.prog) W 55 41 (some ⟨b, off, none⟩) T.length cap 0 0 Tryd.underlying55
  go_enter Tryd.func77, Tryd.ntmps77
  have hnews := tc_cells (w := w.alloc (.cells #[] 41)) (a := ⟨b, off, none⟩) hT3 (fun i hi j hj => by
    have h1 := hcell i hi j hj
    rw [Go.WideShapes.add_plain]
    exact ((below_alloc1 w (.cells #[] 41)).cell (block_lt h1)).trans h1)
  clear hcell
  go_wp2_with (first
    | simp only [hnil]
    | (at_builtin; refine wp_cloneQ rfl _ _ rfl ⟨b, off, none⟩ cap T hT3 rfl rfl hb hnews ?_; intro g c2 w2 hown hbl))
  go_ret
  exact ⟨g, c2, rfl, hown, hbl⟩
/-- .. of none. -/
theorem slices_CloneQ0 (w : World) :
    Calls Tryd.prog 77 #[.slice none 0 0] w fun e w' => e = .returned (.slice none 0 0) ∧ w' = w := by
  have hnil := fun (W : World) => Go.Lib.run_eql_slice_nil (P := Tryd.prog) W 55 41 none 0 0 0 0 Tryd.underlying55
  go_enter Tryd.func77, Tryd.ntmps77
  go_wp2_with simp only [hnil]
  go_ret
  exact ⟨rfl, rfl⟩
/-- What slices.Clone answers of a run's log: a list of its own. -/
theorem clone_log (w : World) (v : Value) (T : List (List Int)) (B : Nat) (hT3 : T3 T) (hb : T.length ≤ 1000000) (h : w.ownsRow B 41 3 v T.length (tc T)) :
    Calls Tryd.prog 77 #[v] w fun e w' => ∃ u, e = .returned u ∧ w'.ownsRow w.heap.size 41 3 u T.length (tc T) ∧ Below w.heap.size w w' := by
  rcases h.2 with ⟨rfl, h0⟩ | ⟨g, cap, cur, rfl, hg, hcell, h1, h2, h3, h4⟩
  · refine (slices_CloneQ0 w).mono ?_
    rintro e w' ⟨rfl, rfl⟩
    exact ⟨_, rfl, ⟨h.1, .inl ⟨rfl, h0⟩⟩, Below.refl _ _⟩
  · refine (slices_CloneQ w g 0 T.length cap T hT3 rfl hb (fun i hi j hj => ?_)).mono ?_
    · have q := tc_get hT3 i j hi hj
      rw [← h4, List.getElem?_take, if_pos (by omega)] at q
      rw [Nat.zero_add]
      simp only [World.cell?, hcell]
      rw [← Array.getElem?_toList, q]; rfl
    · rintro e w' ⟨g2, c2, rfl, hown, hb2⟩
      exact ⟨_, rfl, hown, hb2⟩

theorem info_U : (Tryd.prog.info? 25).map (fun i => (i.zero, i.size, i.bytes)) = some (some (.int .u64 0), 1, 8) := by kernel_rfl
theorem info_Z : (Tryd.prog.info? 3).map (fun i => (i.zero, i.size, i.bytes)) = some (some (.int .i64 0), 1, 8) := by kernel_rfl
def cellsZ (zs : List Int) : List Value := zs.map fun z => Value.int .i64 z
theorem cellsZ_get (zs : List Int) (i : Nat) (h : i < zs.length) : (cellsZ zs)[i]? = some (.int .i64 (zs.getD i 0)) := by simp [cellsZ, List.getD, h]

theorem wp_cloneU {ops : Array Oper} {rest : List Oper} {o : Oper} {a : Act} {Q : Exit → Act → World → Prop} {w : World} (hgd : o.guard = none) (s x : Operand)
    (ho : o.op = .call { callee := .builtin .append, args := #[s, x], argTypes := #[22, 22] }) (ad : Addr) (c : Nat) (xs : List Nat)
    (hs : a.eval s = .slice (some ⟨w.heap.size, 0, none⟩) 0 0) (hx : a.eval x = .slice (some ad) xs.length c) (hn : 0 < xs.length) (hb : xs.length ≤ 1000000)
    (hnews : ∀ j u, (cellsU xs)[j]? = some u → (w.alloc (.cells #[] 25)).cell? (ad.add j) = some u)
    (h : ∀ g cap w', w'.ownsRow w.heap.size 25 1 (.slice (some ⟨g, 0, none⟩) xs.length cap) xs.length (cellsU xs) → Below w.heap.size w w' → wpList Tryd.prog ops Q rest (a.put o.dst (.slice (some ⟨g, 0, none⟩) xs.length cap)) w') :
    wpList Tryd.prog ops Q (o :: rest) a (w.alloc (.cells #[] 25)) := by
  obtain ⟨i0, hi, hz0, hz1, hz2⟩ := info_3 info_U
  have hown := World.ownsRow_lit (base := w.heap.size) (e := 25) (size := 1) w #[] 0 (Nat.le_refl _) (by simp [maxLen]) rfl
  have hbl := below_alloc1 w (.cells #[] 25)
  refine wpList_append_lies _ hgd s x 22 ho w.heap.size 25 i0 (.int .u64 0) 1 8 Tryd.underlying22 hi hz0 hz1 hz2 rfl (by decide) _ 0 [] hs hown ad xs.length c (cellsU xs) hx (by simp [cellsU]) hnews (fun u hu => by unfold cellsU at hu; obtain ⟨z, _, rfl⟩ := List.mem_map.mp hu; rfl) hn ?_ ?_ ?_ _ rfl ?_
  · unfold maxLen; omega
  · omega
  · exact hbl.size
  · intro g cap w' hown' hgrow _ _
    rw [Nat.zero_add, List.nil_append] at hown'
    rw [Nat.zero_add]
    exact h g cap w' hown' (hbl.grown hgrow hbl.size (fun k hk => by simp [Value.ownBlock] at hk; omega))
set_option maxHeartbeats 1000000 in
theorem slices_CloneU (w : World) (v : Value) (xs : List Nat) (h : IsU w v xs) (hn : 0 < xs.length) (hb : xs.length ≤ 1000000) :
    Calls Tryd.prog 9 #[v] w fun e w' => ∃ g cap, e = .returned (.slice (some ⟨g, 0, none⟩) xs.length cap) ∧ w'.ownsRow w.heap.size 25 1 (.slice (some ⟨g, 0, none⟩) xs.length cap) xs.length (cellsU xs) ∧ Below w.heap.size w w' := by
  obtain ⟨a, cap, rfl, hcap, hmax, hc, -⟩ := h
  obtain ⟨b, off, rfl, -⟩ := hc 0 hn
  have hnews : ∀ j u, (cellsU xs)[j]? = some u → (w.alloc (.cells #[] 25)).cell? ((⟨b, off, none⟩ : Addr).add j) = some u := fun j u hj => by
    rcases Nat.lt_or_ge j xs.length with q | q
    · obtain ⟨b', off', e, hce⟩ := hc j q
      simp only [Option.some.injEq, Addr.mk.injEq, and_true] at e
      obtain ⟨rfl, rfl⟩ := e
      rw [cellsU_get xs j q] at hj
      rw [Go.WideShapes.add_plain, ← hj, ← hce]
      exact (below_alloc1 w (.cells #[] 25)).cell (block_lt hce)
    · rw [List.getElem?_eq_none (by simp [cellsU]; omega)] at hj; cases hj
  clear hc
  have hnil := fun (W : World) => Go.Lib.run_eql_slice_nil (P := Tryd.prog) W 22 25 (some ⟨b, off, none⟩) xs.length cap 0 0 Tryd.underlying22
  go_enter Tryd.func9, Tryd.ntmps9
  go_wp2_with (first
    | simp only [hnil]
    | (at_builtin; refine wp_cloneU rfl _ _ rfl ⟨b, off, none⟩ cap xs rfl rfl hn hb hnews ?_; intro g c2 w2 hown hbl))
  go_ret
  exact ⟨g, c2, rfl, hown, hbl⟩

theorem wp_cloneZ {ops : Array Oper} {rest : List Oper} {o : Oper} {a : Act} {Q : Exit → Act → World → Prop} {w : World} (hgd : o.guard = none) (s x : Operand)
    (ho : o.op = .call { callee := .builtin .append, args := #[s, x], argTypes := #[28, 28] }) (ad : Addr) (c : Nat) (xs : List Int)
    (hs : a.eval s = .slice (some ⟨w.heap.size, 0, none⟩) 0 0) (hx : a.eval x = .slice (some ad) xs.length c) (hn : 0 < xs.length) (hb : xs.length ≤ 1000000)
    (hnews : ∀ j u, (cellsZ xs)[j]? = some u → (w.alloc (.cells #[] 3)).cell? (ad.add j) = some u)
    (h : ∀ g cap w', w'.ownsRow w.heap.size 3 1 (.slice (some ⟨g, 0, none⟩) xs.length cap) xs.length (cellsZ xs) → Below w.heap.size w w' → wpList Tryd.prog ops Q rest (a.put o.dst (.slice (some ⟨g, 0, none⟩) xs.length cap)) w') :
    wpList Tryd.prog ops Q (o :: rest) a (w.alloc (.cells #[] 3)) := by
  obtain ⟨i0, hi, hz0, hz1, hz2⟩ := info_3 info_Z
  have hown := World.ownsRow_lit (base := w.heap.size) (e := 3) (size := 1) w #[] 0 (Nat.le_refl _) (by simp [maxLen]) rfl
  have hbl := below_alloc1 w (.cells #[] 3)
  refine wpList_append_lies _ hgd s x 28 ho w.heap.size 3 i0 (.int .i64 0) 1 8 Tryd.underlying28 hi hz0 hz1 hz2 rfl (by decide) _ 0 [] hs hown ad xs.length c (cellsZ xs) hx (by simp [cellsZ]) hnews (fun u hu => by unfold cellsZ at hu; obtain ⟨z, _, rfl⟩ := List.mem_map.mp hu; rfl) hn ?_ ?_ ?_ _ rfl ?_
  · unfold maxLen; omega
  · omega
  · exact hbl.size
  · intro g cap w' hown' hgrow _ _
    rw [Nat.zero_add, List.nil_append] at hown'
    rw [Nat.zero_add]
    exact h g cap w' hown' (hbl.grown hgrow hbl.size (fun k hk => by simp [Value.ownBlock] at hk; omega))
set_option maxHeartbeats 1000000 in
theorem slices_CloneZ (w : World) (v : Value) (xs : List Int) (h : IsZ w v xs) (hn : 0 < xs.length) (hb : xs.length ≤ 1000000) :
    Calls Tryd.prog 33 #[v] w fun e w' => ∃ g cap, e = .returned (.slice (some ⟨g, 0, none⟩) xs.length cap) ∧ w'.ownsRow w.heap.size 3 1 (.slice (some ⟨g, 0, none⟩) xs.length cap) xs.length (cellsZ xs) ∧ Below w.heap.size w w' := by
  obtain ⟨a, cap, rfl, hcap, hmax, hc, -⟩ := h
  obtain ⟨b, off, rfl, -⟩ := hc 0 hn
  have hnews : ∀ j u, (cellsZ xs)[j]? = some u → (w.alloc (.cells #[] 3)).cell? ((⟨b, off, none⟩ : Addr).add j) = some u := fun j u hj => by
    rcases Nat.lt_or_ge j xs.length with q | q
    · obtain ⟨b', off', e, hce⟩ := hc j q
      simp only [Option.some.injEq, Addr.mk.injEq, and_true] at e
      obtain ⟨rfl, rfl⟩ := e
      rw [cellsZ_get xs j q] at hj
      rw [Go.WideShapes.add_plain, ← hj, ← hce]
      exact (below_alloc1 w (.cells #[] 3)).cell (block_lt hce)
    · rw [List.getElem?_eq_none (by simp [cellsZ]; omega)] at hj; cases hj
  clear hc
  have hnil := fun (W : World) => Go.Lib.run_eql_slice_nil (P := Tryd.prog) W 28 3 (some ⟨b, off, none⟩) xs.length cap 0 0 Tryd.underlying28
  go_enter Tryd.func33, Tryd.ntmps33
  go_wp2_with (first
    | simp only [hnil]
    | (at_builtin; refine wp_cloneZ rfl _ _ rfl ⟨b, off, none⟩ cap xs rfl rfl hn hb hnews ?_; intro g c2 w2 hown hbl))
  go_ret
  exact ⟨g, c2, rfl, hown, hbl⟩

theorem IsZ.of_owns {w : World} {base e n : Nat} {v : Value} {zs : List Int} (h : w.ownsRow base e 1 v n (cellsZ zs)) (hr : ∀ z ∈ zs, -9223372036854775808 ≤ z ∧ z ≤ 9223372036854775807) : IsZ w v zs := by
  have hlen := h.1
  rw [Nat.mul_one] at hlen
  have hl : zs.length = n := by simpa [cellsZ] using hlen
  subst hl
  rcases h.2 with ⟨rfl, hn⟩ | ⟨g, cap, cur, rfl, hg, hh, h1, h2, h3, h4⟩
  · exact ⟨none, 0, by rw [hn], by omega, by simp [maxLen], fun i hi => by omega, hr⟩
  · refine ⟨some ⟨g, 0, none⟩, cap, rfl, h1, h2, fun i hi => ⟨g, 0, rfl, ?_⟩, hr⟩
    have q := cellsZ_get zs i hi
    rw [← h4, List.getElem?_take, if_pos (by omega)] at q
    rw [Nat.zero_add]
    simp only [World.cell?, hh]
    rw [← Array.getElem?_toList, q]; rfl
theorem IsZ.at {w w' : World} {v : Value} {zs : List Int} (h : IsZ w v zs) (hk : ∀ b, v.ownBlock = some b → w'.heap[b]? = w.heap[b]?) : IsZ w' v zs := by
  obtain ⟨a, cap, rfl, h1, h2, hc, hr⟩ := h
  refine ⟨a, cap, rfl, h1, h2, fun i hi => ?_, hr⟩
  obtain ⟨b, off, rfl, hcell⟩ := hc i hi
  exact ⟨b, off, rfl, (World.cell?_of_block (w := w) (hk b rfl)).trans hcell⟩
theorem IsR.at {k : Nat} {w w' : World} {v : Value} {T : List (List Int)} (h : IsR k w v T) (hk : ∀ b, v.ownBlock = some b → w'.heap[b]? = w.heap[b]?) : IsR k w' v T := by
  obtain ⟨a, cap, rfl, h1, h2, hc, hr⟩ := h
  refine ⟨a, cap, rfl, h1, h2, fun i hi => ?_, hr⟩
  obtain ⟨b, off, rfl, hcell⟩ := hc i hi
  exact ⟨b, off, rfl, fun j hj => (World.cell?_of_block (w := w) (hk b rfl)).trans (hcell j hj)⟩

end Go.Proofs.YtmgfjcepebjnfagDoor
