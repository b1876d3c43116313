/-
  What slices.Delete answers of a slice of tasks that the call itself made: one task taken out.
-/
import Derived.Test.YtcaepjmgnoeefaeDoorSlTask
import Derived.Deep.RegionLaw
namespace Go.Proofs.YtcaepjmgnoeefaeDoor
open Go.RowKit

/-- A list with another one written over it, from a place on. -/
def spl (xs : List Value) (o : Nat) : List Value → List Value
  | [] => xs
  | v :: r => spl (xs.set o v) (o + 1) r
theorem spl_length (xs : List Value) (o : Nat) (vs : List Value) : (spl xs o vs).length = xs.length := by
  induction vs generalizing xs o with
  | nil => rfl
  | cons v r ih => rw [spl, ih, List.length_set]
theorem spl_get (xs : List Value) (o : Nat) (vs : List Value) (h : o + vs.length ≤ xs.length) (j : Nat) : (spl xs o vs)[j]? = if o ≤ j ∧ j < o + vs.length then vs[j - o]? else xs[j]? := by
  induction vs generalizing xs o with
  | nil => rw [spl, if_neg (by simp)]
  | cons v r ih =>
    simp only [List.length_cons] at h
    rw [spl, ih (xs.set o v) (o + 1) (by rw [List.length_set]; omega)]
    by_cases h1 : o + 1 ≤ j ∧ j < o + 1 + r.length
    · rw [if_pos h1, if_pos (by simp only [List.length_cons]; omega), show j - o = (j - (o + 1)) + 1 by omega, List.getElem?_cons_succ]
    · rw [if_neg h1]
      by_cases h2 : j = o
      · rw [if_pos (by simp only [List.length_cons]; omega), h2, List.getElem?_set_self (by omega), Nat.sub_self]; rfl
      · rw [if_neg (by simp only [List.length_cons]; omega), List.getElem?_set_ne (by omega)]
theorem owns_setCells {w : World} {base e size n g cap : Nat} {xs : List Value} (h : w.ownsRow base e size (.slice (some ⟨g, 0, none⟩) n cap) n xs) (o : Nat) (vs : List Value) :
    (w.setCells g o vs).ownsRow base e size (.slice (some ⟨g, 0, none⟩) n cap) n (spl xs o vs) ∧ w.grownBy (w.setCells g o vs) (some g) := by
  induction vs generalizing w xs o with
  | nil => exact ⟨h, World.grownBy.refl _ _⟩
  | cons v r ih =>
    have h1 := h.stored o v
    have h2 := ih h1.1 (o + 1)
    exact ⟨h2.1, h1.2.trans h2.2⟩
theorem owns_less {w : World} {base e size n g cap : Nat} {xs : List Value} (h : w.ownsRow base e size (.slice (some ⟨g, 0, none⟩) (n + 1) cap) (n + 1) xs) : w.ownsRow base e size (.slice (some ⟨g, 0, none⟩) n cap) n (xs.take (n * size)) := by
  have e1 : (n + 1) * size = n * size + size := by rw [Nat.add_mul, Nat.one_mul]
  refine ⟨by rw [List.length_take, h.1]; omega, ?_⟩
  rcases h.2 with ⟨hv, _⟩ | ⟨g', cap', cur, hv, hb, hh, hc, hm, hs, ht⟩
  · cases hv
  · simp only [Value.slice.injEq, Option.some.injEq, Addr.mk.injEq, and_true, true_and] at hv
    obtain ⟨rfl, rfl⟩ := hv
    refine Or.inr ⟨g, cap, cur, rfl, hb, hh, by omega, hm, hs, ?_⟩
    rw [← ht, List.take_take, Nat.min_eq_left (by omega)]
theorem tc_erase {T : List (List Int)} (hT : T3 T) (i n : Nat) (hi : i < T.length) (hn : T.length = n + 1) (z : List Value) (hz : z.length = 3) :
    (spl (spl (tc T) (i * 3) ((tc T).drop ((i + 1) * 3))) (n * 3) z).take (n * 3) = tc (T.take i ++ T.drop (i + 1)) := by
  have hl := tc_length hT
  have hT1 : T3 (T.take i) := fun r hr => hT r (List.mem_of_mem_take hr)
  have hT2 : T3 (T.drop (i + 1)) := fun r hr => hT r (List.mem_of_mem_drop hr)
  have l1 := tc_length hT1
  have l2 := tc_length hT2
  rw [List.length_take, Nat.min_eq_left (by omega)] at l1
  rw [List.length_drop] at l2
  have hT1a : T3 (T.take (i + 1)) := fun r hr => hT r (List.mem_of_mem_take hr)
  have l3 := tc_length hT1a
  rw [List.length_take, Nat.min_eq_left (by omega)] at l3
  have eA : tc T = tc (T.take i) ++ tc (T.drop i) := by rw [← tc_append, List.take_append_drop]
  have eB : tc T = tc (T.take (i + 1)) ++ tc (T.drop (i + 1)) := by rw [← tc_append, List.take_append_drop]
  have dl : ((tc T).drop ((i + 1) * 3)).length = (T.length - (i + 1)) * 3 := by rw [List.length_drop, hl]; omega
  apply List.ext_getElem?
  intro j
  rw [List.getElem?_take]
  by_cases hj : j < n * 3
  · rw [if_pos hj, spl_get _ _ _ (by rw [spl_length, hl, hz]; omega), if_neg (by omega), spl_get _ _ _ (by rw [dl, hl]; omega)]
    rw [tc_append]
    by_cases h1 : j < i * 3
    · rw [if_neg (by omega), List.getElem?_append_left (by omega), eA, List.getElem?_append_left (by omega)]
    · rw [if_pos (by rw [dl]; omega), List.getElem?_append_right (by omega), l1, eB, List.getElem?_drop, List.getElem?_append_right (by omega), l3]
      congr 1; omega
  · rw [if_neg hj, List.getElem?_eq_none]
    rw [tc_append, List.length_append]; omega

theorem run_clear_task (w : World) (ty g o c : Nat) (hc : ∀ j, j < 3 → (w.cell? ⟨g, o + j, none⟩).isSome = true) (hf : ∀ j, j < 3 → w.frozen? ⟨g, o + j, none⟩ = false) :
    (Builtin.clear_ #[51] ty #[.slice (some ⟨g, o, none⟩) 1 c]).run Tryd.prog w = .ok (.tuple #[]) (w.setCells g o [.int .i64 0, .int .i64 0, .int .i64 0]) := by
  have hzc : (Builtin.zeroCells (Value.agg #[.int .i64 0, .int .i64 0, .int .i64 0]).cells 1).toList = [.int .i64 0, .int .i64 0, .int .i64 0] := by kernel_rfl
  have hst := run_storeCells_cells (P := Tryd.prog) g o [.int .i64 0, .int .i64 0, .int .i64 0] 0 w (by simpa using hc) (by simpa using hf) (by
    intro v hv
    simp only [List.mem_cons, List.not_mem_nil, or_false] at hv
    rcases hv with rfl | rfl | rfl <;> rfl)
  simp only [Nat.add_zero] at hst
  simp [Builtin.clear_, run_underlying Tryd.underlying51, hzc, hst]

set_option maxRecDepth 100000 in
set_option maxHeartbeats 4000000 in
theorem slices_DeleteT (w : World) (base g n cap i : Nat) (T : List (List Int)) (hT : T3 T) (h : w.ownsRow base 54 3 (.slice (some ⟨g, 0, none⟩) (n + 1) cap) (n + 1) (tc T)) (hl : T.length = n + 1) (hi : i < n + 1) (hn9 : n ≤ 1000000) :
    Calls Tryd.prog 36 #[.slice (some ⟨g, 0, none⟩) (n + 1) cap, .int .i64 (i : Int), .int .i64 ((i : Int) + 1)] w fun e w' => e = .returned (.slice (some ⟨g, 0, none⟩) n cap) ∧ w'.ownsRow base 54 3 (.slice (some ⟨g, 0, none⟩) n cap) n (tc (T.take i ++ T.drop (i + 1))) ∧ w.grownBy w' (some g) := by
  obtain ⟨i0, hi0, hz0, hz1, hz2⟩ := info_3 info_task
  have hcap : n + 1 ≤ cap ∧ cap ≤ 9223372036854775807 := by
    rcases h.2 with ⟨hv, _⟩ | ⟨g', cap', cur, hv, _, _, h1, h2, _, _⟩
    · cases hv
    · simp only [Value.slice.injEq, Option.some.injEq, Addr.mk.injEq, and_true, true_and] at hv
      obtain ⟨rfl, rfl⟩ := hv
      unfold maxLen at h2
      exact ⟨h1, h2⟩
  have htl := tc_length hT
  obtain ⟨news, hnews⟩ : ∃ news, news = (tc T).drop ((i + 1) * 3) := ⟨_, rfl⟩
  have hnl : news.length = (n - i) * 3 := by rw [hnews, List.length_drop, htl, hl]; omega
  obtain ⟨A, hA, hsrc⟩ : ∃ A : Addr, (if cap = i + 1 then some (⟨g, 0, none⟩ : Addr) else some ⟨g, (i + 1) * 3, none⟩) = some A ∧ Hid (∀ t u, news[t]? = some u → w.drew.cell? (A.add t) = some u) := by
    by_cases hc : cap = i + 1
    · refine ⟨⟨g, 0, none⟩, by simp [hc], fun t u hu => ?_⟩
      have h0 : news.length = 0 := by rw [hnl]; omega
      rw [List.length_eq_zero_iff.1 h0] at hu
      simp at hu
    · refine ⟨⟨g, (i + 1) * 3, none⟩, by simp [hc], fun t u hu => ?_⟩
      have ht : t < (n - i) * 3 := by
        have := (List.getElem?_eq_some_iff.1 hu).1
        omega
      rw [Go.WideShapes.add_plain]
      rw [hnews, List.getElem?_drop] at hu
      exact (h.cellAt ((i + 1) * 3 + t) (by omega)).trans hu
  have s2 : Hid (∀ u ∈ news, u.oneCell' = true) := fun u hu => tc_one' u (by rw [hnews] at hu; exact List.mem_of_mem_drop hu)
  have s3 : Hid (∀ t, t < news.length → (w.drew.cell? ⟨g, 0 + i * 3 + t, none⟩).isSome = true ∧ w.drew.frozen? ⟨g, 0 + i * 3 + t, none⟩ = false) := fun t ht => by
    rw [hnl] at ht
    refine ⟨?_, h.frozenAt _⟩
    show (w.cell? _).isSome = true
    rw [h.cellAt (0 + i * 3 + t) (by omega), List.getElem?_eq_getElem (by rw [htl, hl]; omega)]; rfl
  have s1 : Hid (news.length = (n - i) * 3) := hnl
  have hown1 := owns_setCells (w := w.drew) (show w.drew.ownsRow base 54 3 (.slice (some ⟨g, 0, none⟩) (n + 1) cap) (n + 1) (tc T) from h) (i * 3) news
  have hi9 : i ≤ cap := by omega
  have hj9 : i + 1 ≤ cap := by omega
  have hin : i ≤ n := by omega
  have h0i : (0 : Int) ≤ (i : Int) + 1 := by omega
  have hsum : i + (n - i) = n := by omega
  have hcn : ¬ cap = n := by omega
  rw [show i * 3 = 0 + i * 3 by omega] at hown1
  obtain ⟨W1, hW1⟩ : ∃ W1, W1 = w.drew.setCells g (0 + i * 3) news := ⟨_, rfl⟩
  have hW1' : Hid (W1 = w.drew.setCells g (0 + i * 3) news) := hW1
  rw [← hW1] at hown1
  have ho1 := hown1.1
  have hg1 := hown1.2
  have hxl : (spl (tc T) (0 + i * 3) news).length = (n + 1) * 3 := by rw [spl_length, htl, hl]
  have hcl : ∀ ty, (Builtin.clear_ #[51] ty #[.slice (some ⟨g, n * 3, none⟩) 1 (cap - n)]).run Tryd.prog W1 = .ok (.tuple #[]) (W1.setCells g (n * 3) [.int .i64 0, .int .i64 0, .int .i64 0]) := fun ty =>
    run_clear_task W1 ty g (n * 3) (cap - n) (fun j hj => by rw [ho1.cellAt (n * 3 + j) (by omega), List.getElem?_eq_getElem (by rw [hxl]; omega)]; rfl) (fun j hj => ho1.frozenAt _)
  have hown2 := owns_setCells ho1 (n * 3) [.int .i64 0, .int .i64 0, .int .i64 0]
  have hfin : Hid ((W1.setCells g (n * 3) [.int .i64 0, .int .i64 0, .int .i64 0]).ownsRow base 54 3 (.slice (some ⟨g, 0, none⟩) n cap) n (tc (T.take i ++ T.drop (i + 1))) ∧ w.grownBy (W1.setCells g (n * 3) [.int .i64 0, .int .i64 0, .int .i64 0]) (some g)) := by
    refine ⟨?_, ?_⟩
    · have h3 := owns_less hown2.1
      rw [hnews, Nat.zero_add, tc_erase hT i n (by omega) hl _ rfl] at h3
      exact h3
    · have hd : w.grownBy w.drew (some g) := ⟨rfl, rfl, rfl, Nat.le_refl _, fun _ _ _ => rfl⟩
      exact (hd.trans hg1).trans hown2.2
  clear hown1 hown2 ho1 hg1 hxl hW1 hnews hnl htl h hT hi
  go_enter Tryd.func36, Tryd.ntmps36
  go_wp2
  go_region_law (refine step_append_room rfl (.tmp 22) (.tmp 25) 51 rfl 54 i0 3 Tryd.underlying51 hi0 hz1 g 0 i cap (by simp [Act.eval, Act.put]) A (n - i) (cap - (i + 1)) news (by simp [Act.eval, Act.put]) s1.out hsrc.out s2.out (by omega) s3.out ?_; rw [← hW1'.out])
  clear hsrc s1 s2 s3 hW1'
  go_wp2
  go_ret
  exact ⟨rfl, hfin.out⟩

end Go.Proofs.YtcaepjmgnoeefaeDoor
