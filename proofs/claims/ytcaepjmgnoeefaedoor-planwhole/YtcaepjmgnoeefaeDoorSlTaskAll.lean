/-
  Texts that stood one behind the other, as one.
-/
import Derived.Test.YtcaepjmgnoeefaeDoorSlT
import Derived.Lib.SliceRun
import Derived.Deep.RegionLaw
import Derived.Test.YtcaepjmgnoeefaeDoorSlZ
/-! What slices.Clone answers of a slice of tasks that has some: new memory that reads the same. -/
namespace Go.Proofs.YtcaepjmgnoeefaeDoor
open Go.RowKit

theorem tc_cells {w : World} {a : Addr} {T : List (List Int)} (hT : T3 T) (h : ∀ i, i < T.length → ∀ j, j < 3 → w.cell? (a.add (i * 3 + j)) = some (.int .i64 ((T.getD i []).getD j 0))) : ∀ j u, (tc T)[j]? = some u → w.cell? (a.add j) = some u := by
  intro j u hj
  have hlt : j < T.length * 3 := by
    rw [← tc_length hT]
    rcases Nat.lt_or_ge j (tc T).length with q | q
    · exact q
    · rw [List.getElem?_eq_none q] at hj; cases hj
  have e : j = j / 3 * 3 + j % 3 := by omega
  have h1 := tc_get hT (j / 3) (j % 3) (by omega) (by omega)
  rw [← e, hj] at h1
  rw [e, h (j / 3) (by omega) (j % 3) (by omega), ← h1]
theorem tc_one' {T : List (List Int)} : ∀ u ∈ tc T, u.oneCell' = true := by
  intro u hu
  unfold tc at hu
  obtain ⟨r, _, hr⟩ := List.mem_flatMap.mp hu
  obtain ⟨z, _, rfl⟩ := List.mem_map.mp hr
  rfl

theorem wp_cloneT {ops : Array Oper} {rest : List Oper} {o : Oper} {a : Act} {Q : Exit → Act → World → Prop} {w : World} (hgd : o.guard = none) (s x : Operand)
    (ho : o.op = .call { callee := .builtin .append, args := #[s, x], argTypes := #[51, 51] }) (ad : Addr) (c : Nat) (T : List (List Int)) (hT : T3 T)
    (hs : a.eval s = .slice (some ⟨w.heap.size, 0, none⟩) 0 0) (hx : a.eval x = .slice (some ad) T.length c) (hn : 0 < T.length) (hb : T.length ≤ 1000000)
    (hnews : ∀ j u, (tc T)[j]? = some u → (w.alloc (.cells #[] 54)).cell? (ad.add j) = some u)
    (h : ∀ g cap w', w'.ownsRow w.heap.size 54 3 (.slice (some ⟨g, 0, none⟩) T.length cap) T.length (tc T) → Below w.heap.size w w' → wpList Tryd.prog ops Q rest (a.put o.dst (.slice (some ⟨g, 0, none⟩) T.length cap)) w') :
    wpList Tryd.prog ops Q (o :: rest) a (w.alloc (.cells #[] 54)) := by
  obtain ⟨i0, hi, hz0, hz1, hz2⟩ := info_3 info_task
  have hown := World.ownsRow_lit (base := w.heap.size) (e := 54) (size := 3) w #[] 0 (Nat.le_refl _) (by simp [maxLen]) rfl
  have hbl := below_alloc1 w (.cells #[] 54)
  refine wpList_append_lies _ hgd s x 51 ho w.heap.size 54 i0 (.agg #[.int .i64 0, .int .i64 0, .int .i64 0]) 3 24 Tryd.underlying51 hi hz0 hz1 hz2 rfl (by decide) _ 0 [] hs hown ad T.length c (tc T) hx (tc_length hT) hnews tc_one' hn ?_ ?_ ?_ _ rfl ?_
  · unfold maxLen; omega
  · omega
  · exact hbl.size
  · intro g cap w' hown' hgrow _ _
    rw [Nat.zero_add, List.nil_append] at hown'
    rw [Nat.zero_add]
    exact h g cap w' hown' (hbl.grown hgrow hbl.size (fun k hk => by simp [Value.ownBlock] at hk; omega))

set_option maxHeartbeats 1000000 in
theorem slices_CloneT (w : World) (v : Value) (T : List (List Int)) (h : IsR 3 w v T) (hn : 0 < T.length) (hb : T.length ≤ 1000000) :
    Calls Tryd.prog 33 #[v] w fun e w' => ∃ g cap, e = .returned (.slice (some ⟨g, 0, none⟩) T.length cap) ∧ w'.ownsRow w.heap.size 54 3 (.slice (some ⟨g, 0, none⟩) T.length cap) T.length (tc T) ∧ Below w.heap.size w w' := by
  have hT3 : T3 T := by obtain ⟨_, _, _, _, _, _, hr⟩ := h; exact hr
  obtain ⟨a, cap, rfl, hcap, hmax, hc, -⟩ := h
  obtain ⟨b, off, rfl, -⟩ := hc 0 hn
  have hcell : ∀ i, i < T.length → ∀ j, j < 3 → w.cell? ((⟨b, off, none⟩ : Addr).add (i * 3 + j)) = some (.int .i64 ((T.getD i []).getD j 0)) := fun i hi j hj => by
    obtain ⟨b', off', e, hce⟩ := hc i hi
    simp only [Option.some.injEq, Addr.mk.injEq, and_true] at e
    obtain ⟨rfl, rfl⟩ := e
    rw [Go.WideShapes.add_plain]
    exact hce j hj
  clear hc
  have hnil := fun (W : World) => Go.Lib.run_eql_slice_nil (P := Tryd.prog) W 51 54 (some ⟨b, off, none⟩) T.length cap 0 0 Tryd.underlying51
  go_enter Tryd.func33, Tryd.ntmps33
  have hnews := tc_cells (w := w.alloc (.cells #[] 54)) (a := ⟨b, off, none⟩) hT3 (fun i hi j hj => by
    have h1 := hcell i hi j hj
    rw [Go.WideShapes.add_plain] at h1 ⊢
    exact ((below_alloc1 w (.cells #[] 54)).cell (block_lt h1)).trans h1)
  clear hcell
  go_wp2_with (first
    | simp only [hnil]
    | (at_builtin; refine wp_cloneT rfl _ _ rfl ⟨b, off, none⟩ cap T hT3 rfl rfl hn hb hnews ?_; intro g c2 w2 hown hbl))
  go_ret
  exact ⟨g, c2, rfl, hown, hbl⟩

end Go.Proofs.YtcaepjmgnoeefaeDoor

/-! What slices.Delete answers of a slice of tasks that the call itself made: one task taken out. -/
namespace Go.Proofs.YtcaepjmgnoeefaeDoor
open Go.RowKit

/-- A list with another one written over it, from a place on. -/
def spl (xs : List Value) (o : Nat) : List Value → List Value
  | [] => xs
  | v :: r => spl (xs.set o v) (o + 1) r
theorem spl_length (xs : List Value) (o : Nat) (vs : List Value) : (spl xs o vs).length = xs.length := by
  induction vs generalizing xs o with
  | nil => rfl
  | cons v r ih => rw [spl, ih, List.length_set]
theorem spl_get (xs : List Value) (o : Nat) (vs : List Value) (h : o + vs.length ≤ xs.length) (j : Nat) : (spl xs o vs)[j]? = if o ≤ j ∧ j < o + vs.length then vs[j - o]? else xs[j]? := by
  induction vs generalizing xs o with
  | nil => rw [spl, if_neg (by simp)]
  | cons v r ih =>
    simp only [List.length_cons] at h
    rw [spl, ih (xs.set o v) (o + 1) (by rw [List.length_set]; omega)]
    by_cases h1 : o + 1 ≤ j ∧ j < o + 1 + r.length
    · rw [if_pos h1, if_pos (by simp only [List.length_cons]; omega), show j - o = (j - (o + 1)) + 1 by omega, List.getElem?_cons_succ]
    · rw [if_neg h1]
      by_cases h2 : j = o
      · rw [if_pos (by simp only [List.length_cons]; omega), h2, List.getElem?_set_self (by omega), Nat.sub_self]; rfl
      · rw [if_neg (by simp only [List.length_cons]; omega), List.getElem?_set_ne (by omega)]
theorem owns_setCells {w : World} {base e size n g cap : Nat} {xs : List Value} (h : w.ownsRow base e size (.slice (some ⟨g, 0, none⟩) n cap) n xs) (o : Nat) (vs : List Value) :
    (w.setCells g o vs).ownsRow base e size (.slice (some ⟨g, 0, none⟩) n cap) n (spl xs o vs) ∧ w.grownBy (w.setCells g o vs) (some g) := by
  induction vs generalizing w xs o with
  | nil => exact ⟨h, World.grownBy.refl _ _⟩
  | cons v r ih =>
    have h1 := h.stored o v
    have h2 := ih h1.1 (o + 1)
    exact ⟨h2.1, h1.2.trans h2.2⟩
theorem owns_less {w : World} {base e size n g cap : Nat} {xs : List Value} (h : w.ownsRow base e size (.slice (some ⟨g, 0, none⟩) (n + 1) cap) (n + 1) xs) : w.ownsRow base e size (.slice (some ⟨g, 0, none⟩) n cap) n (xs.take (n * size)) := by
  have e1 : (n + 1) * size = n * size + size := by rw [Nat.add_mul, Nat.one_mul]
  refine ⟨by rw [List.length_take, h.1]; omega, ?_⟩
  rcases h.2 with ⟨hv, _⟩ | ⟨g', cap', cur, hv, hb, hh, hc, hm, hs, ht⟩
  · cases hv
  · simp only [Value.slice.injEq, Option.some.injEq, Addr.mk.injEq, and_true, true_and] at hv
    obtain ⟨rfl, rfl⟩ := hv
    refine Or.inr ⟨g, cap, cur, rfl, hb, hh, by omega, hm, hs, ?_⟩
    rw [← ht, List.take_take, Nat.min_eq_left (by omega)]
theorem tc_erase {T : List (List Int)} (hT : T3 T) (i n : Nat) (hi : i < T.length) (hn : T.length = n + 1) (z : List Value) (hz : z.length = 3) :
    (spl (spl (tc T) (i * 3) ((tc T).drop ((i + 1) * 3))) (n * 3) z).take (n * 3) = tc (T.take i ++ T.drop (i + 1)) := by
  have hl := tc_length hT
  have hT1 : T3 (T.take i) := fun r hr => hT r (List.mem_of_mem_take hr)
  have hT2 : T3 (T.drop (i + 1)) := fun r hr => hT r (List.mem_of_mem_drop hr)
  have l1 := tc_length hT1
  have l2 := tc_length hT2
  rw [List.length_take, Nat.min_eq_left (by omega)] at l1
  rw [List.length_drop] at l2
  have hT1a : T3 (T.take (i + 1)) := fun r hr => hT r (List.mem_of_mem_take hr)
  have l3 := tc_length hT1a
  rw [List.length_take, Nat.min_eq_left (by omega)] at l3
  have eA : tc T = tc (T.take i) ++ tc (T.drop i) := by rw [← tc_append, List.take_append_drop]
  have eB : tc T = tc (T.take (i + 1)) ++ tc (T.drop (i + 1)) := by rw [← tc_append, List.take_append_drop]
  have dl : ((tc T).drop ((i + 1) * 3)).length = (T.length - (i + 1)) * 3 := by rw [List.length_drop, hl]; omega
  apply List.ext_getElem?
  intro j
  rw [List.getElem?_take]
  by_cases hj : j < n * 3
  · rw [if_pos hj, spl_get _ _ _ (by rw [spl_length, hl, hz]; omega), if_neg (by omega), spl_get _ _ _ (by rw [dl, hl]; omega)]
    rw [tc_append]
    by_cases h1 : j < i * 3
    · rw [if_neg (by omega), List.getElem?_append_left (by omega), eA, List.getElem?_append_left (by omega)]
    · rw [if_pos (by rw [dl]; omega), List.getElem?_append_right (by omega), l1, eB, List.getElem?_drop, List.getElem?_append_right (by omega), l3]
      congr 1; omega
  · rw [if_neg hj, List.getElem?_eq_none]
    rw [tc_append, List.length_append]; omega

theorem run_clear_task (w : World) (ty g o c : Nat) (hc : ∀ j, j < 3 → (w.cell? ⟨g, o + j, none⟩).isSome = true) (hf : ∀ j, j < 3 → w.frozen? ⟨g, o + j, none⟩ = false) :
    (Builtin.clear_ #[51] ty #[.slice (some ⟨g, o, none⟩) 1 c]).run Tryd.prog w = .ok (.tuple #[]) (w.setCells g o [.int .i64 0, .int .i64 0, .int .i64 0]) := by
  have hzc : (Builtin.zeroCells (Value.agg #[.int .i64 0, .int .i64 0, .int .i64 0]).cells 1).toList = [.int .i64 0, .int .i64 0, .int .i64 0] := by kernel_rfl
  have hst := run_storeCells_cells (P := Tryd.prog) g o [.int .i64 0, .int .i64 0, .int .i64 0] 0 w (by simpa using hc) (by simpa using hf) (by
    intro v hv
    simp only [List.mem_cons, List.not_mem_nil, or_false] at hv
    rcases hv with rfl | rfl | rfl <;> rfl)
  simp only [Nat.add_zero] at hst
  simp [Builtin.clear_, run_underlying Tryd.underlying51, hzc, hst]

set_option maxRecDepth 100000 in
set_option maxHeartbeats 4000000 in
theorem slices_DeleteT (w : World) (base g n cap i : Nat) (T : List (List Int)) (hT : T3 T) (h : w.ownsRow base 54 3 (.slice (some ⟨g, 0, none⟩) (n + 1) cap) (n + 1) (tc T)) (hl : T.length = n + 1) (hi : i < n + 1) (hn9 : n ≤ 1000000) :
    Calls Tryd.prog 36 #[.slice (some ⟨g, 0, none⟩) (n + 1) cap, .int .i64 (i : Int), .int .i64 ((i : Int) + 1)] w fun e w' => e = .returned (.slice (some ⟨g, 0, none⟩) n cap) ∧ w'.ownsRow base 54 3 (.slice (some ⟨g, 0, none⟩) n cap) n (tc (T.take i ++ T.drop (i + 1))) ∧ w.grownBy w' (some g) := by
  obtain ⟨i0, hi0, hz0, hz1, hz2⟩ := info_3 info_task
  have hcap : n + 1 ≤ cap ∧ cap ≤ 9223372036854775807 := by
    rcases h.2 with ⟨hv, _⟩ | ⟨g', cap', cur, hv, _, _, h1, h2, _, _⟩
    · cases hv
    · simp only [Value.slice.injEq, Option.some.injEq, Addr.mk.injEq, and_true, true_and] at hv
      obtain ⟨rfl, rfl⟩ := hv
      unfold maxLen at h2
      exact ⟨h1, h2⟩
  have htl := tc_length hT
  obtain ⟨news, hnews⟩ : ∃ news, news = (tc T).drop ((i + 1) * 3) := ⟨_, rfl⟩
  have hnl : news.length = (n - i) * 3 := by rw [hnews, List.length_drop, htl, hl]; omega
  obtain ⟨A, hA, hsrc⟩ : ∃ A : Addr, (if cap = i + 1 then some (⟨g, 0, none⟩ : Addr) else some ⟨g, (i + 1) * 3, none⟩) = some A ∧ Hid (∀ t u, news[t]? = some u → w.drew.cell? (A.add t) = some u) := by
    by_cases hc : cap = i + 1
    · refine ⟨⟨g, 0, none⟩, by simp [hc], fun t u hu => ?_⟩
      have h0 : news.length = 0 := by rw [hnl]; omega
      rw [List.length_eq_zero_iff.1 h0] at hu
      simp at hu
    · refine ⟨⟨g, (i + 1) * 3, none⟩, by simp [hc], fun t u hu => ?_⟩
      have ht : t < (n - i) * 3 := by
        have := (List.getElem?_eq_some_iff.1 hu).1
        omega
      rw [Go.WideShapes.add_plain]
      rw [hnews, List.getElem?_drop] at hu
      exact (h.cellAt ((i + 1) * 3 + t) (by omega)).trans hu
  have s2 : Hid (∀ u ∈ news, u.oneCell' = true) := fun u hu => tc_one' u (by rw [hnews] at hu; exact List.mem_of_mem_drop hu)
  have s3 : Hid (∀ t, t < news.length → (w.drew.cell? ⟨g, 0 + i * 3 + t, none⟩).isSome = true ∧ w.drew.frozen? ⟨g, 0 + i * 3 + t, none⟩ = false) := fun t ht => by
    rw [hnl] at ht
    refine ⟨?_, h.frozenAt _⟩
    show (w.cell? _).isSome = true
    rw [h.cellAt (0 + i * 3 + t) (by omega), List.getElem?_eq_getElem (by rw [htl, hl]; omega)]; rfl
  have s1 : Hid (news.length = (n - i) * 3) := hnl
  have hown1 := owns_setCells (w := w.drew) (show w.drew.ownsRow base 54 3 (.slice (some ⟨g, 0, none⟩) (n + 1) cap) (n + 1) (tc T) from h) (i * 3) news
  have hi9 : i ≤ cap := by omega
  have hj9 : i + 1 ≤ cap := by omega
  have hin : i ≤ n := by omega
  have h0i : (0 : Int) ≤ (i : Int) + 1 := by omega
  have hsum : i + (n - i) = n := by omega
  have hcn : ¬ cap = n := by omega
  rw [show i * 3 = 0 + i * 3 by omega] at hown1
  obtain ⟨W1, hW1⟩ : ∃ W1, W1 = w.drew.setCells g (0 + i * 3) news := ⟨_, rfl⟩
  have hW1' : Hid (W1 = w.drew.setCells g (0 + i * 3) news) := hW1
  rw [← hW1] at hown1
  have ho1 := hown1.1
  have hg1 := hown1.2
  have hxl : (spl (tc T) (0 + i * 3) news).length = (n + 1) * 3 := by rw [spl_length, htl, hl]
  have hcl : ∀ ty, (Builtin.clear_ #[51] ty #[.slice (some ⟨g, n * 3, none⟩) 1 (cap - n)]).run Tryd.prog W1 = .ok (.tuple #[]) (W1.setCells g (n * 3) [.int .i64 0, .int .i64 0, .int .i64 0]) := fun ty =>
    run_clear_task W1 ty g (n * 3) (cap - n) (fun j hj => by rw [ho1.cellAt (n * 3 + j) (by omega), List.getElem?_eq_getElem (by rw [hxl]; omega)]; rfl) (fun j hj => ho1.frozenAt _)
  have hown2 := owns_setCells ho1 (n * 3) [.int .i64 0, .int .i64 0, .int .i64 0]
  have hfin : Hid ((W1.setCells g (n * 3) [.int .i64 0, .int .i64 0, .int .i64 0]).ownsRow base 54 3 (.slice (some ⟨g, 0, none⟩) n cap) n (tc (T.take i ++ T.drop (i + 1))) ∧ w.grownBy (W1.setCells g (n * 3) [.int .i64 0, .int .i64 0, .int .i64 0]) (some g)) := by
    refine ⟨?_, ?_⟩
    · have h3 := owns_less hown2.1
      rw [hnews, Nat.zero_add, tc_erase hT i n (by omega) hl _ rfl] at h3
      exact h3
    · have hd : w.grownBy w.drew (some g) := ⟨rfl, rfl, rfl, Nat.le_refl _, fun _ _ _ => rfl⟩
      exact (hd.trans hg1).trans hown2.2
  clear hown1 hown2 ho1 hg1 hxl hW1 hnews hnl htl h hT hi
  go_enter Tryd.func36, Tryd.ntmps36
  go_wp2
  go_region_law (refine step_append_room rfl (.tmp 22) (.tmp 25) 51 rfl 54 i0 3 Tryd.underlying51 hi0 hz1 g 0 i cap (by simp [Act.eval, Act.put]) A (n - i) (cap - (i + 1)) news (by simp [Act.eval, Act.put]) s1.out hsrc.out s2.out (by omega) s3.out ?_; rw [← hW1'.out])
  clear hsrc s1 s2 s3 hW1'
  go_wp2
  go_ret
  exact ⟨rfl, hfin.out⟩

end Go.Proofs.YtcaepjmgnoeefaeDoor

/-! A slice of two ints written out in the text. -/
namespace Go.Proofs.YtcaepjmgnoeefaeDoor
open Go.RowKit

theorem IsZ.lit2 (w : World) (e : Nat) (a b : Int) (ha : -9223372036854775808 ≤ a ∧ a ≤ 9223372036854775807) (hb : -9223372036854775808 ≤ b ∧ b ≤ 9223372036854775807) : IsZ (w.alloc (.cells #[.int .i64 a, .int .i64 b] e)) (.slice (some ⟨w.heap.size, 0, none⟩) 2 2) [a, b] := by
  have h0 := World.ownsRow_lit (base := 0) (e := e) (size := 1) w #[.int .i64 a, .int .i64 b] 2 (Nat.zero_le _) (by simp [maxLen]) rfl
  refine ⟨some ⟨w.heap.size, 0, none⟩, 2, rfl, Nat.le_refl _, by simp [maxLen], fun i hi => ⟨w.heap.size, 0, rfl, ?_⟩, ?_⟩
  · have hc := h0.cellAt i (by simpa using hi)
    rw [Nat.zero_add, hc]
    match i, hi with
    | 0, _ => rfl
    | 1, _ => rfl
  · intro z hz
    simp at hz
    rcases hz with rfl | rfl
    · exact ha
    · exact hb

end Go.Proofs.YtcaepjmgnoeefaeDoor
