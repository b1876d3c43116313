/-
  The walk of the law DequeEnds: whatever calls are handed in, what is pushed comes out once, and the law returns true.
-/
import Derived.Test.YtfnmcohilnijoafDqE
import Derived.WalkSmall
namespace Go.Proofs.Ytfnmcohilnijoaf
open Go.RowKit

theorem wf_small (n : Nat) (h : n ≤ 1000) : (Lit.int .i64 (n : Int)).wf = true := wf_i64 (by omega)

set_option maxRecDepth 100000 in
set_option maxHeartbeats 16000000 in
theorem dequeEnds_walk (w : World) (v : Value) (L : List (List Int)) (h : IsR 4 w v L) :
    Calls Try.prog 3 #[v] w fun e w' => e = .returned (.bool true) ∧ Below w.heap.size w w' := by
  have hmm := @run_makeMap Try.prog
  have cN := deque_New_ok w 3 (by decide) (by decide)
  obtain ⟨a, cap, rfl, hcap, hmx, hcells0, hrow0⟩ := h
  have hcells : Hid _ := hcells0
  have hrow : Hid _ := hrow0
  clear hcells0 hrow0
  have z0 : (Lit.int .i64 0).wf = true := by decide
  have z1 : (Lit.int .i64 1).wf = true := by decide
  have z2 : (Lit.int .i64 2).wf = true := by decide
  by_cases hl : L.length ≤ 60
  · go_enter Try.func3, Try.ntmps3
    go_wp2_with (first
      | (go_at_call 4; refine Calls.mono cN ?_; rintro e w1 ⟨p, O1, rfl, hD1, hO1, hb1⟩; clear cN; have cP := deque_Push_ok w1 p 3 [] O1 0 1 0 hD1 (by decide) z0 z1 z0)
      | (go_at_call 5; refine Calls.mono cP ?_; rintro e w2 ⟨rfl, O2, hD2, hO2, hbu2⟩; clear cP; obtain ⟨hb2, hn2⟩ := dq_next hb1 hO1 hO2 hbu2; clear hO2 hbu2; have cQ := deque_Push_ok w2 p 3 [[0, 1, 0]] O2 0 2 0 hD2 (by decide) z0 z2 z0)
      | (go_at_call 5; refine Calls.mono cQ ?_; rintro e w3 ⟨rfl, O3, hD3, hO3, hbu3⟩; clear cQ; obtain ⟨hb3, hn3⟩ := dq_next hb2 hn2 hO3 hbu3; clear hO3 hbu3; have cS := deque_Steal_ok w3 p 3 [[0, 2, 0]] O3 0 1 0 hD3)
      | (go_at_call 6; refine Calls.mono cS ?_; rintro e w4 ⟨rfl, O4, hD4, hO4, hbu4⟩; clear cS; obtain ⟨hb4, hn4⟩ := dq_next hb3 hn3 hO4 hbu4; clear hO4 hbu4; have cO := fun o => deque_Pop_ok (w4.alloc o) p 3 [] O4 0 2 0 (hD4.alloc o))
      | (go_at_call 7; refine Calls.mono (cO _) ?_; rintro e w5 ⟨rfl, O5, hD5, hO5, hbu5⟩; clear cO; obtain ⟨hb5, hn5⟩ := dq_next (below_box hb4 _) hn4 hO5 hbu5; clear hO5 hbu5; have cL := fun o => deque_Len (w5.alloc o) p 3 [] O5 (hD5.alloc o))
      | (go_at_call 8; refine Calls.mono (cL _) ?_; rintro e w6 ⟨rfl, O6, hD6, hO6, hbu6⟩; clear cL; obtain ⟨hb6, hn6⟩ := dq_next (below_box hb5 _) hn5 hO6 hbu6; clear hO6 hbu6; have cM := deque_New_ok w6 64 (by decide) (by decide))
      | (go_at_call 4; refine Calls.mono cM ?_; rintro e w7 ⟨p2, O7, rfl, hD7, hO7, hb7⟩; clear cM))
    have hS0 : Se w p2 0 [] [] [] w7.heap.size (w7.heap.size + 1) O7 ((w7.alloc (.map #[] 0)).alloc (.map #[] 0)) := Se.start hb6 hD7 hO7 hb7
    clear hD1 hO1 hb1 hb2 hn2 hb3 hn3 hb4 hn4 hb5 hn5 hb6 hn6 hD2 hD3 hD4 hD5 hD6 hD7 hO7 hb7
    obtain ⟨bi, hbi⟩ : ∃ bi, bi = w7.heap.size := ⟨_, rfl⟩
    rw [← hbi] at hS0 ⊢
    obtain ⟨bo, hbo⟩ : ∃ bo, bo = bi + 1 := ⟨_, rfl⟩
    rw [← hbo] at hS0 ⊢
    clear hbi hbo
    go_loopw [73] (fun vi wr => ∃ (i : Nat) (q I U : List Nat) (O : Nat → Prop), i ≤ L.length ∧ vi = .int .i64 (i : Int) ∧ Se w p2 i q I U bi bo O wr)
      (fun vi _ => L.length - (intOf vi).toNat)
    case atStart => exact ⟨0, [], [], [], O7, Nat.zero_le _, rfl, hS0⟩
    case round =>
      clear hS0
      obtain ⟨i, q, I, U, O, hi, rfl, hS⟩ := hrel
      by_cases hlt : i < L.length
      · obtain ⟨b, off, rfl, hc⟩ := hcells.out i hlt
        have hc' : ∀ j, j < 4 → wr.cell? ⟨b, off + (i * 4 + j), none⟩ = some (.int .i64 ((L.getD i []).getD j 0)) := fun j hj => (hS.bel.cell (block_lt (hc j hj))).trans (hc j hj)
        have hr4 : (L.getD i []).length = 4 := by
          have : L.getD i [] = L[i] := by simp [List.getD, List.getElem?_eq_getElem hlt]
          rw [this]; exact (hrow.out _ (List.getElem_mem hlt)).1
        obtain ⟨kd, ta, tb, tcc, hL4⟩ := len_4 hr4
        rw [hL4] at hc'
        have c0 : wr.cell? ⟨b, off + i * 4, none⟩ = some (.int .i64 kd) := hc' 0 (by omega)
        have c1 : wr.cell? ⟨b, off + i * 4 + 1, none⟩ = some (.int .i64 ta) := by rw [Nat.add_assoc]; exact hc' 1 (by omega)
        have c2 : wr.cell? ⟨b, off + i * 4 + 2, none⟩ = some (.int .i64 tb) := by rw [Nat.add_assoc]; exact hc' 2 (by omega)
        have c3 : wr.cell? ⟨b, off + i * 4 + 3, none⟩ = some (.int .i64 tcc) := by rw [Nat.add_assoc]; exact hc' 3 (by omega)
        clear hc hc' hr4 hL4
        have cL : Hid (∀ W (q : List Nat) O, Dq W p2 64 (tk q) O → Calls Try.prog 8 #[p2] W fun e w' => e = .returned (.int .i64 ((tk q).length : Int)) ∧ ∃ O', Dq w' p2 64 (tk q) O' ∧ (∀ k, O' k → O k ∨ W.heap.size ≤ k) ∧ But O W w') := fun W q O h => deque_Len W p2 64 (tk q) O h
        have hfew := hS.few
        have hlenS := hS.len
        have hi60 : i ≤ 60 := by omega
        have hI6 : I.length ≤ 1000000 := by omega
        have hU6 : U.length ≤ 1000000 := by omega
        have hi6 : i ≤ 1000000 := by omega
        have hold := hS.dq.old
        by_cases hk0 : kd = 0
        · subst hk0
          have hnot : i ∉ I := fun e => Nat.lt_irrefl _ (hS.lt i e)
          have cP : Hid (∀ o, Calls Try.prog 5 #[p2, .agg #[.int .i64 (i : Int), .int .i64 0, .int .i64 0]] (wr.alloc o) fun e w' => e = .returned (.int .i64 0) ∧ ∃ O', Dq w' p2 64 (tk q ++ [[(i : Int), 0, 0]]) O' ∧ (∀ k, O' k → O k ∨ (wr.alloc o).heap.size ≤ k) ∧ But O (wr.alloc o) w') := fun o => deque_Push_ok (wr.alloc o) p2 64 (tk q) O i 0 0 (hS.dq.alloc o) (by rw [tk_length]; omega) (wf_small i (by omega)) z0 z0
          clear hlenS hfew
          go_wp2_with (first
            | (go_at_call 5; refine Calls.mono (cP.out _) ?_; rintro e wp ⟨rfl, O2, hD2, hO2, hbu2⟩; clear cP; have hmi := ((hS.box _).maps hO2 hbu2).1)
            | (at_mapUpdate; refine wp_putB rfl _ _ _ rfl bi I i rfl hmi rfl rfl hi6 hI6 hnot ?_; intro w3 hm3 hg3; have hS2 := (hS.box _).push hD2 hO2 hbu2 hm3 hg3; clear hD2 hO2 hbu2 hm3 hg3 hmi)
            | (go_at_call 8; refine Calls.mono (cL.out _ _ _ hS2.dq) ?_; rintro e wl ⟨rfl, O9, hD9, hO9, hbu9⟩; clear cL; have hS3 := hS2.same hD9 hO9 hbu9; clear hD9 hO9 hbu9; obtain ⟨ni, nu, nq, l1, l2, l3, l4, hq⟩ := hS3.lens; rw [hq]; clear hq))
          go_roundw
          case rel => exact ⟨i + 1, _, _, _, _, by omega, by go_num, hS3⟩
          case measure => simp only [intOf]; omega
        · by_cases hk12 : kd = 1 ∨ kd = 2
          · have hq : q = [] ∨ ∃ q' j, q = q' ++ [j] := by
              rcases Nat.eq_zero_or_pos q.length with e | e
              · exact .inl (List.eq_nil_of_length_eq_zero e)
              · have hne : q ≠ [] := fun e2 => by rw [e2] at e; exact Nat.lt_irrefl 0 e
                exact .inr ⟨q.dropLast, q.getLast hne, (List.dropLast_concat_getLast hne).symm⟩
            rcases hq with rfl | ⟨q', j, rfl⟩
            · have cO : Hid (∀ o, Calls Try.prog 7 #[p2] (wr.alloc o) fun e w' => e = .returned (.tuple #[.agg #[.int .i64 0, .int .i64 0, .int .i64 0], .bool false]) ∧ ∃ O', Dq w' p2 64 [] O' ∧ (∀ k, O' k → O k ∨ (wr.alloc o).heap.size ≤ k) ∧ But O (wr.alloc o) w') := fun o => deque_Pop_none (wr.alloc o) p2 64 O (hS.dq.alloc o)
              clear hlenS hfew
              rcases hk12 with rfl | rfl
              · go_wp2_with (first
                  | (go_at_call 7; refine Calls.mono (cO.out _) ?_; rintro e wp ⟨rfl, O2, hD2, hO2, hbu2⟩; clear cO; have hS1 := (hS.box _).same (q := []) hD2 hO2 hbu2; have hck := cell_one (hbu2.box hold 0 _ rfl); clear hD2 hO2 hbu2; have hS2 := fun o => (hS1.box o).next)
                  | (go_at_call 8; refine Calls.mono (cL.out _ _ _ (hS2 _).dq) ?_; rintro e wl ⟨rfl, O9, hD9, hO9, hbu9⟩; clear cL; have hS3 := (hS2 _).same hD9 hO9 hbu9; clear hD9 hO9 hbu9; obtain ⟨ni, nu, nq, l1, l2, l3, l4, hq⟩ := hS3.lens; rw [hq]; clear hq))
                go_roundw
                case rel => exact ⟨i + 1, _, _, _, _, by omega, by go_num, hS3⟩
                case measure => simp only [intOf]; omega
              · go_wp2_with (first
                  | (go_at_call 7; refine Calls.mono (cO.out _) ?_; rintro e wp ⟨rfl, O2, hD2, hO2, hbu2⟩; clear cO; have hS1 := (hS.box _).same (q := []) hD2 hO2 hbu2; have hck := cell_one (hbu2.box hold 0 _ rfl); clear hO2 hbu2; have hold2 := hD2.old; have cS := fun o => deque_Steal_none (wp.alloc o) p2 64 O2 (hD2.alloc o))
                  | (go_at_call 6; refine Calls.mono (cS _) ?_; rintro e ws ⟨rfl, O4, hD4, hO4, hbu4⟩; clear cS; have hS2 := fun (u0 u1 u2 : Value) => hS1.three (q := []) hD4 hO4 hbu4 u0 u1 u2; have e0 := hbu4.box hold2 0 _ rfl; have e1 := hbu4.box hold2 1 _ rfl; have e2 := hbu4.box hold2 2 _ rfl; have f0 := hbu4.boxF hold2 0; have f1 := hbu4.boxF hold2 1; have f2 := hbu4.boxF hold2 2; clear hD4 hO4 hbu4)
                  | (go_at_call 8; refine Calls.mono (cL.out _ _ _ (hS2 _ _ _).dq) ?_; rintro e wl ⟨rfl, O9, hD9, hO9, hbu9⟩; clear cL; have hS3 := (hS2 _ _ _).same hD9 hO9 hbu9; clear hD9 hO9 hbu9; obtain ⟨ni, nu, nq, l1, l2, l3, l4, hq⟩ := hS3.lens; rw [hq]; clear hq))
                go_roundw
                case rel => exact ⟨i + 1, _, _, _, _, by omega, by go_num, hS3⟩
                case measure => simp only [intOf]; omega
            · have cO : Hid (∀ o, Calls Try.prog 7 #[p2] (wr.alloc o) fun e w' => e = .returned (.tuple #[.agg #[.int .i64 (j : Int), .int .i64 0, .int .i64 0], .bool true]) ∧ ∃ O', Dq w' p2 64 (tk q') O' ∧ (∀ k, O' k → O k ∨ (wr.alloc o).heap.size ≤ k) ∧ But O (wr.alloc o) w') := fun o => deque_Pop_ok (wr.alloc o) p2 64 (tk q') O j 0 0 (by rw [← tk_append]; exact hS.dq.alloc o)
              have hjI : j < i := hS.lt j ((hS.mem j).mpr (.inr (by simp)))
              have hj6 : j ≤ 1000000 := by omega
              have hnot : j ∉ U := fun e => hS.dis j e (by simp)
              clear hlenS hfew
              rcases hk12 with rfl | rfl
              all_goals
                go_wp2_with (first
                  | (go_at_call 7; refine Calls.mono (cO.out _) ?_; rintro e wp ⟨rfl, O2, hD2, hO2, hbu2⟩; clear cO; have hlk := (hS.box _).looks hO2 hbu2 (by omega); have g1 := fun o => (hlk o).1; have g2 := fun o => (hlk o).2.1; have g3 := fun o => (hlk o).2.2; clear hlk; have hck := cell_one (hbu2.box hold 0 _ rfl))
                  | (at_mapUpdate; refine wp_putB rfl _ _ _ rfl bo U j rfl (g3 _) rfl rfl hj6 hU6 hnot ?_; intro w3 hm3 hg3; have hS2 := (hS.box _).pop hD2 hO2 hbu2 _ hm3 hg3; clear hD2 hO2 hbu2 hm3 hg3 g1 g2 g3)
                  | (go_at_call 8; refine Calls.mono (cL.out _ _ _ hS2.dq) ?_; rintro e wl ⟨rfl, O9, hD9, hO9, hbu9⟩; clear cL; have hS3 := hS2.same hD9 hO9 hbu9; clear hD9 hO9 hbu9; obtain ⟨ni, nu, nq, l1, l2, l3, l4, hq⟩ := hS3.lens; rw [hq]; clear hq))
                go_roundw
                case rel => exact ⟨i + 1, _, _, _, _, by omega, by go_num, hS3⟩
                case measure => simp only [intOf]; omega
          · have hk1 : kd ≠ 1 := fun e => hk12 (.inl e)
            have hk2 : kd ≠ 2 := fun e => hk12 (.inr e)
            clear hk12
            have hS2 := fun o => (hS.box o).next
            clear hlenS hfew
            go_wp2_with (go_at_call 8; refine Calls.mono (cL.out _ _ _ (hS2 _).dq) ?_; rintro e wl ⟨rfl, O9, hD9, hO9, hbu9⟩; clear cL; have hS3 := (hS2 _).same hD9 hO9 hbu9; clear hD9 hO9 hbu9; obtain ⟨ni, nu, nq, l1, l2, l3, l4, hq⟩ := hS3.lens; rw [hq]; clear hq)
            go_roundw
            case rel => exact ⟨i + 1, _, _, _, _, by omega, by go_num, hS3⟩
            case measure => simp only [intOf]; omega
      · have hge : L.length ≤ i := by omega
        go_wp2
        go_ret
        exact ⟨rfl, hS.bel⟩
  · have hl' : 60 < L.length := by omega
    clear hl hcells hrow
    go_enter Try.func3, Try.ntmps3
    go_wp2_with (first
      | (go_at_call 4; refine Calls.mono cN ?_; rintro e w1 ⟨p, O1, rfl, hD1, hO1, hb1⟩; clear cN; have cP := deque_Push_ok w1 p 3 [] O1 0 1 0 hD1 (by decide) z0 z1 z0)
      | (go_at_call 5; refine Calls.mono cP ?_; rintro e w2 ⟨rfl, O2, hD2, hO2, hbu2⟩; clear cP; obtain ⟨hb2, hn2⟩ := dq_next hb1 hO1 hO2 hbu2; clear hO2 hbu2; have cQ := deque_Push_ok w2 p 3 [[0, 1, 0]] O2 0 2 0 hD2 (by decide) z0 z2 z0)
      | (go_at_call 5; refine Calls.mono cQ ?_; rintro e w3 ⟨rfl, O3, hD3, hO3, hbu3⟩; clear cQ; obtain ⟨hb3, hn3⟩ := dq_next hb2 hn2 hO3 hbu3; clear hO3 hbu3; have cS := deque_Steal_ok w3 p 3 [[0, 2, 0]] O3 0 1 0 hD3)
      | (go_at_call 6; refine Calls.mono cS ?_; rintro e w4 ⟨rfl, O4, hD4, hO4, hbu4⟩; clear cS; obtain ⟨hb4, hn4⟩ := dq_next hb3 hn3 hO4 hbu4; clear hO4 hbu4; have cO := fun o => deque_Pop_ok (w4.alloc o) p 3 [] O4 0 2 0 (hD4.alloc o))
      | (go_at_call 7; refine Calls.mono (cO _) ?_; rintro e w5 ⟨rfl, O5, hD5, hO5, hbu5⟩; clear cO; obtain ⟨hb5, hn5⟩ := dq_next (below_box hb4 _) hn4 hO5 hbu5; clear hO5 hbu5; have cL := fun o => deque_Len (w5.alloc o) p 3 [] O5 (hD5.alloc o))
      | (go_at_call 8; refine Calls.mono (cL _) ?_; rintro e w6 ⟨rfl, O6, hD6, hO6, hbu6⟩; clear cL; obtain ⟨hb6, hn6⟩ := dq_next (below_box hb5 _) hn5 hO6 hbu6; clear hO6 hbu6))
    go_ret
    exact ⟨rfl, hb6⟩

end Go.Proofs.Ytfnmcohilnijoaf
