/-
  The walk of the law DequePlays: whatever room and calls are handed in, a deque does what a list with two ends does, call by call, and the law returns true.
-/
import Derived.Test.YtfnmcohilnijoabDqP
import Derived.Test.YtfnmcohilnijoabDqK
import Derived.WalkSmall
namespace Go.Proofs.Ytfnmcohilnijoab
open Go.RowKit

set_option maxRecDepth 100000 in
set_option maxHeartbeats 16000000 in
theorem dequePlays_loop (w : World) (r : Nat) (h1 : 1 ≤ r) (h2 : r ≤ 64) (v : Value) (L : List (List Int)) (h : IsR 4 w v L) (hl : L.length ≤ 200) :
    Calls Try.prog 4 #[.int .i64 (r : Int), v] w fun e w' => e = .returned (.bool true) ∧ Below w.heap.size w w' := by
  have cN := deque_New_ok w r h1 h2
  have cI : Hid (∀ w', Calls Try.prog 8 #[.int .i64 (r : Int), .int .i64 1, .int .i64 64] w' fun e w'' => e = .returned (.bool true) ∧ w'' = w') := fun w' => ref_In_true _ 1 64 (by omega) (by omega) w'
  obtain ⟨a, cap, rfl, hcap, hmx, hcells0, hrow0⟩ := h
  have hcells : Hid _ := hcells0
  have hrow : Hid _ := hrow0
  clear hcells0 hrow0
  go_enter Try.func4, Try.ntmps4
  go_wp2_with (first
    | (go_at_call 13; refine Calls.mono cN ?_; rintro e w1 ⟨p, O, rfl, hD, hO, hb⟩; clear cN)
    | (go_at_call 8; refine Calls.mono (cI.out _) ?_; rintro e w2 ⟨rfl, hw⟩; rw [hw]; clear hw))
  go_loopw [7, 44] (fun vm vi wr => ∃ (i : Nat) (m : List (List Int)) (O : Nat → Prop), i ≤ L.length ∧ vi = .int .i64 (i : Int) ∧ Hid (m.length ≤ i) ∧ St w r p vm m O wr)
    (fun _ vi _ => L.length - (intOf vi).toNat)
  case atStart => exact ⟨0, [], O, Nat.zero_le _, rfl, Nat.le_refl _, ⟨T3.nil, ⟨rfl, .inl ⟨rfl, rfl⟩⟩, hD, hO, (fun g hg => by cases hg), hb⟩⟩
  case round =>
    clear hD hO
    obtain ⟨i, m, O, hi, rfl, hm, hS⟩ := hrel
    by_cases hlt : i < L.length
    · obtain ⟨b, off, rfl, hc⟩ := hcells.out i hlt
      have hc' : ∀ j, j < 4 → wr.cell? ⟨b, off + (i * 4 + j), none⟩ = some (.int .i64 ((L.getD i []).getD j 0)) := fun j hj => (hS.bel.cell (block_lt (hc j hj))).trans (hc j hj)
      have hr4 : (L.getD i []).length = 4 := by
        have : L.getD i [] = L[i] := by simp [List.getD, List.getElem?_eq_getElem hlt]
        rw [this]; exact (hrow.out _ (List.getElem_mem hlt)).1
      obtain ⟨kd, ta, tb, tcc, hL4⟩ := len_4 hr4
      rw [hL4] at hc'
      have c0 : wr.cell? ⟨b, off + i * 4, none⟩ = some (.int .i64 kd) := hc' 0 (by omega)
      have c1 : wr.cell? ⟨b, off + i * 4 + 1, none⟩ = some (.int .i64 ta) := by rw [Nat.add_assoc]; exact hc' 1 (by omega)
      have c2 : wr.cell? ⟨b, off + i * 4 + 2, none⟩ = some (.int .i64 tb) := by rw [Nat.add_assoc]; exact hc' 2 (by omega)
      have c3 : wr.cell? ⟨b, off + i * 4 + 3, none⟩ = some (.int .i64 tcc) := by rw [Nat.add_assoc]; exact hc' 3 (by omega)
      have hbd : ∀ z ∈ [kd, ta, tb, tcc], (Lit.int .i64 z).wf = true := fun z hz => by
        have e : L.getD i [] = L[i] := by simp [List.getD, List.getElem?_eq_getElem hlt]
        have q := (hrow.out _ (List.getElem_mem hlt)).2 z (by rw [← e, hL4]; exact hz)
        exact wf_i64 q
      have hbd' : ∀ z ∈ [kd, ta, tb, tcc], -9223372036854775808 ≤ z ∧ z ≤ 9223372036854775807 := fun z hz => by
        have e : L.getD i [] = L[i] := by simp [List.getD, List.getElem?_eq_getElem hlt]
        exact (hrow.out _ (List.getElem_mem hlt)).2 z (by rw [← e, hL4]; exact hz)
      have wa' : Hid _ := hbd' ta (by simp)
      have wb' : Hid _ := hbd' tb (by simp)
      have wc' : Hid _ := hbd' tcc (by simp)
      have wa := hbd ta (by simp)
      have wb := hbd tb (by simp)
      have wc := hbd tcc (by simp)
      clear hc hc' hr4 hL4 hbd hbd'
      have cL : Hid (∀ W (m : List (List Int)) O, Dq W p r m O → Calls Try.prog 18 #[p] W fun e w' => e = .returned (.int .i64 (m.length : Int)) ∧ ∃ O', Dq w' p r m O' ∧ (∀ k, O' k → O k ∨ W.heap.size ≤ k) ∧ But O W w') := fun W m O h => deque_Len W p r m O h
      by_cases hk1 : kd = 1
      · subst hk1
        by_cases hm0 : m = []
        · subst hm0
          have cP : Hid (∀ W O, Dq W p r [] O → Calls Try.prog 15 #[p] W fun e w' => e = .returned (.tuple #[.agg #[.int .i64 0, .int .i64 0, .int .i64 0], .bool false]) ∧ ∃ O', Dq w' p r [] O' ∧ (∀ k, O' k → O k ∨ W.heap.size ≤ k) ∧ But O W w') := fun W O h => deque_Pop_none W p r O h
          obtain ⟨pb, po, hp, -⟩ := hS.dq.ptr
          obtain ⟨am, cm, rfl⟩ := hS.form
          simp only [List.length_nil]
          subst hp
          go_wp2_with (first
            | (go_at_call 15; refine Calls.mono (cP.out _ _ (hS.dq.alloc _)) ?_; rintro e wp ⟨rfl, O2, hD2, hO2, hbu⟩; clear cP)
            | (go_at_call 18; refine Calls.mono (cL.out _ _ _ ((hD2.alloc _).alloc _)) ?_; rintro e wl ⟨rfl, O3, hD3, hO3, hbu3⟩; clear cL))
          go_roundw
          case rel => exact ⟨i + 1, [], O3, by omega, by go_num, Nat.zero_le _, hS.two hbu hO2 hbu3 hD3 hO3⟩
          case measure => simp only [intOf]; omega
        · obtain ⟨m', t, rfl⟩ : ∃ m' t, m = m' ++ [t] := ⟨m.dropLast, m.getLast hm0, (List.dropLast_concat_getLast hm0).symm⟩
          obtain ⟨xa, xb, xc, rfl⟩ := len_3 (hS.t3 t (by simp)).1
          have cP : Hid (∀ W O, Dq W p r (m' ++ [[xa, xb, xc]]) O → Calls Try.prog 15 #[p] W fun e w' => e = .returned (.tuple #[.agg #[.int .i64 xa, .int .i64 xb, .int .i64 xc], .bool true]) ∧ ∃ O', Dq w' p r m' O' ∧ (∀ k, O' k → O k ∨ W.heap.size ≤ k) ∧ But O W w') := fun W O h => deque_Pop_ok W p r m' O xa xb xc h
          obtain ⟨pb, po, hp, hmr, hr64⟩ := hS.dq.ptr
          obtain ⟨g, cm, rfl, hgw, hcm, hcell, hless⟩ := hS.last
          have hlen : (m' ++ [[xa, xb, xc]]).length = m'.length + 1 := by simp
          have hmi := hm.out
          rw [hlen] at hmr hmi ⊢
          have hT' : T3 m' := fun q hq => hS.t3 q (List.mem_append_left _ hq)
          have hm9 : m'.length ≤ 63 := by omega
          have hwm : wrap64 (m'.length : Int) = (m'.length : Int) := by unfold wrap64; omega
          subst hp
          clear hm0 hlen
          go_wp2_with (first
            | (go_at_call 15; refine Calls.mono (cP.out _ _ (hS.dq.alloc _)) ?_; rintro e wp ⟨rfl, O2, hD2, hO2, hbu⟩; clear cP; have hcp := hcell wp _ hbu; obtain ⟨hc0, hc1, hc2⟩ := hcp; have hgp := block_lt hc0; have hck := cell_two (hbu.box hS.dq.old 0 _ rfl); replace hc0 := cell_two hc0; replace hc1 := cell_two hc1; replace hc2 := cell_two hc2; have hS2 := hS.popped hbu hO2 hD2 hT' (hless.out wp _ hbu); clear hbu hO2 hD2)
            | (go_at_call 18; refine Calls.mono (cL.out _ _ _ (hS2.boxed _ _).dq) ?_; rintro e wl ⟨rfl, O3, hD3, hO3, hbu3⟩; clear cL))
          go_roundw
          case rel => exact ⟨i + 1, m', O3, by omega, by go_num, Nat.le_succ_of_le (Nat.le_of_succ_le hmi), (hS2.boxed _ _).same hbu3 hD3 hO3⟩
          case measure => simp only [intOf]; omega
      · by_cases hk2 : kd = 2
        · subst hk2
          by_cases hm0 : m = []
          · subst hm0
            have cP : Hid (∀ W O, Dq W p r [] O → Calls Try.prog 16 #[p] W fun e w' => e = .returned (.tuple #[.agg #[.int .i64 0, .int .i64 0, .int .i64 0], .bool false]) ∧ ∃ O', Dq w' p r [] O' ∧ (∀ k, O' k → O k ∨ W.heap.size ≤ k) ∧ But O W w') := fun W O h => deque_Steal_none W p r O h
            obtain ⟨pb, po, hp, -⟩ := hS.dq.ptr
            obtain ⟨am, cm, rfl⟩ := hS.form
            simp only [List.length_nil]
            subst hp
            go_wp2_with (first
              | (go_at_call 16; refine Calls.mono (cP.out _ _ (hS.dq.alloc _)) ?_; rintro e wp ⟨rfl, O2, hD2, hO2, hbu⟩; clear cP)
              | (go_at_call 18; refine Calls.mono (cL.out _ _ _ ((hD2.alloc _).alloc _)) ?_; rintro e wl ⟨rfl, O3, hD3, hO3, hbu3⟩; clear cL))
            go_roundw
            case rel => exact ⟨i + 1, [], O3, by omega, by go_num, Nat.zero_le _, hS.two hbu hO2 hbu3 hD3 hO3⟩
            case measure => simp only [intOf]; omega
          · obtain ⟨t, m', rfl⟩ : ∃ t m', m = t :: m' := by
              cases m with
              | nil => exact absurd rfl hm0
              | cons t m' => exact ⟨t, m', rfl⟩
            obtain ⟨xa, xb, xc, rfl⟩ := len_3 (hS.t3 t (by simp)).1
            have cP : Hid (∀ W O, Dq W p r ([xa, xb, xc] :: m') O → Calls Try.prog 16 #[p] W fun e w' => e = .returned (.tuple #[.agg #[.int .i64 xa, .int .i64 xb, .int .i64 xc], .bool true]) ∧ ∃ O', Dq w' p r m' O' ∧ (∀ k, O' k → O k ∨ W.heap.size ≤ k) ∧ But O W w') := fun W O h => deque_Steal_ok W p r m' O xa xb xc h
            obtain ⟨pb, po, hp, hmr, hr64⟩ := hS.dq.ptr
            obtain ⟨g, cm, rfl, hcm, hcell, hrest⟩ := hS.first
            have hmi := hm.out
            rw [List.length_cons] at hmr hmi
            have hT' : T3 m' := fun q hq => hS.t3 q (List.mem_cons_of_mem _ hq)
            have hm9 : m'.length ≤ 63 := by omega
            have cC : Hid (∀ (W : World) (off cap : Nat), (∀ i, i < m'.length → ∀ j, j < 3 → W.cell? ⟨g, off + (i * 3 + j), none⟩ = some (.int .i64 ((m'.getD i []).getD j 0))) → Calls Try.prog 17 #[.slice (some ⟨g, off, none⟩) m'.length cap] W fun e w' => ∃ g cap, e = .returned (.slice (some ⟨g, 0, none⟩) m'.length cap) ∧ w'.ownsRow W.heap.size 40 3 (.slice (some ⟨g, 0, none⟩) m'.length cap) m'.length (tc m') ∧ Below W.heap.size W w') := fun W off cap h => slices_CloneQ W g off m'.length cap m' hT' rfl (by omega) h
            by_cases hc1m : cm = 1
            · have hnone : Hid (∀ {i : Nat}, ¬ i < m'.length) := fun {i} hi => by omega
              have hsub : (m'.length + 1 : Nat) - 1 = m'.length := by omega
              subst hp
              clear hm0
              go_wp2_with (first
                | (go_at_call 16; refine Calls.mono (cP.out _ _ (hS.dq.alloc _)) ?_; rintro e wp ⟨rfl, O2, hD2, hO2, hbu⟩; clear cP; have hcp := hcell wp _ hbu; obtain ⟨hc0, hc1, hc2⟩ := hcp; have hck := cell_two (hbu.box hS.dq.old 0 _ rfl); replace hc0 := cell_two hc0; replace hc1 := cell_two hc1; replace hc2 := cell_two hc2; have hrest2 : Hid _ := fun o1 o2 => hrest.out wp _ o1 o2 hbu; clear hrest hcell)
                | (go_at_call 17; refine Calls.mono (cC.out _ 0 _ (fun i hi => absurd hi hnone.out)) ?_; rintro e w6 ⟨g6, c6, rfl, hown6, hb6⟩; have hS6 := hS.stolen hbu hO2 hD2 hT' rfl hown6 hb6; have q0 := box_one hb6 0 _ rfl; have q1 := box_one hb6 1 _ rfl; have q2 := box_one hb6 2 _ rfl; have q3 := box_two hb6 0 _ rfl; have q4 := box_two hb6 1 _ rfl; have q5 := box_two hb6 2 _ rfl; clear hbu hO2 hD2 hown6 hb6 cC hrest2)
                | (go_at_call 18; refine Calls.mono (cL.out _ _ _ hS6.dq) ?_; rintro e wl ⟨rfl, O3, hD3, hO3, hbu3⟩; clear cL))
              go_roundw
              case rel => exact ⟨i + 1, m', O3, by omega, by go_num, Nat.le_succ_of_le (Nat.le_of_succ_le hmi), hS6.same hbu3 hD3 hO3⟩
              case measure => simp only [intOf]; omega
            · have hsub : (m'.length + 1 : Nat) - 1 = m'.length := by omega
              subst hp
              clear hm0
              go_wp2_with (first
                | (go_at_call 16; refine Calls.mono (cP.out _ _ (hS.dq.alloc _)) ?_; rintro e wp ⟨rfl, O2, hD2, hO2, hbu⟩; clear cP; have hcp := hcell wp _ hbu; obtain ⟨hc0, hc1, hc2⟩ := hcp; have hck := cell_two (hbu.box hS.dq.old 0 _ rfl); replace hc0 := cell_two hc0; replace hc1 := cell_two hc1; replace hc2 := cell_two hc2; have hrest2 : Hid _ := fun o1 o2 => hrest.out wp _ o1 o2 hbu; clear hrest hcell)
                | (go_at_call 17; refine Calls.mono (cC.out _ 3 _ (hrest2.out _ _)) ?_; rintro e w6 ⟨g6, c6, rfl, hown6, hb6⟩; have hS6 := hS.stolen hbu hO2 hD2 hT' rfl hown6 hb6; have q0 := box_one hb6 0 _ rfl; have q1 := box_one hb6 1 _ rfl; have q2 := box_one hb6 2 _ rfl; have q3 := box_two hb6 0 _ rfl; have q4 := box_two hb6 1 _ rfl; have q5 := box_two hb6 2 _ rfl; clear hbu hO2 hD2 hown6 hb6 cC hrest2)
                | (go_at_call 18; refine Calls.mono (cL.out _ _ _ hS6.dq) ?_; rintro e wl ⟨rfl, O3, hD3, hO3, hbu3⟩; clear cL))
              go_roundw
              case rel => exact ⟨i + 1, m', O3, by omega, by go_num, Nat.le_succ_of_le (Nat.le_of_succ_le hmi), hS6.same hbu3 hD3 hO3⟩
              case measure => simp only [intOf]; omega
        · obtain ⟨pb, po, hp, hmr, hr64⟩ := hS.dq.ptr
          by_cases hk0 : kd = 0
          · subst hk0
            by_cases hfull : m.length = r
            · have cP : Hid (∀ W O, Dq W p r m O → Calls Try.prog 14 #[p, .agg #[.int .i64 ta, .int .i64 tb, .int .i64 tcc]] W fun e w' => e = .returned (.int .i64 2) ∧ ∃ O', Dq w' p r m O' ∧ (∀ k, O' k → O k ∨ W.heap.size ≤ k) ∧ But O W w') := fun W O h => deque_Push_full W p r m O ta tb tcc h hfull wa wb wc
              obtain ⟨am, cm, rfl⟩ := hS.form
              subst hp
              clear cL
              go_wp2_with (go_at_call 14; refine Calls.mono (cP.out _ _ (hS.dq.alloc _)) ?_; rintro e wp ⟨rfl, O2, hD2, hO2, hbu⟩; clear cP)
              go_roundw
              case rel => exact ⟨i + 1, m, O2, by omega, by go_num, Nat.le_succ_of_le hm.out, by have q := hS.one hbu hD2 hO2; rw [hfull] at q; exact q⟩
              case measure => simp only [intOf]; omega
            · have hlt2 : m.length < r := by omega
              have hne2 : (((m.length : Nat) : Int) == ((r : Nat) : Int)) = false := by rw [beq_eq_false_iff_ne]; omega
              have cP : Hid (∀ W O, Dq W p r m O → Calls Try.prog 14 #[p, .agg #[.int .i64 ta, .int .i64 tb, .int .i64 tcc]] W fun e w' => e = .returned (.int .i64 0) ∧ ∃ O', Dq w' p r (m ++ [[ta, tb, tcc]]) O' ∧ (∀ k, O' k → O k ∨ W.heap.size ≤ k) ∧ But O W w') := fun W O h => deque_Push_ok W p r m O ta tb tcc h hlt2 wa wb wc
              have hT' : T3 (m ++ [[ta, tb, tcc]]) := T3.append hS.t3 (T3.one wa'.out wb'.out wc'.out)
              have hm6 : m.length ≤ 1000000 := by omega
              have hml : (m ++ [[ta, tb, tcc]]).length = m.length + 1 := by simp
              obtain ⟨am, cm, rfl⟩ := hS.form
              subst hp
              go_wp2_with (first
                | (go_at_call 14; refine Calls.mono (cP.out _ _ (hS.dq.alloc _)) ?_; rintro e wp ⟨rfl, O2, hD2, hO2, hbu⟩; clear cP; have hk1 := hbu.box hS.dq.old 1 _ rfl; have hk2 := hbu.box hS.dq.old 2 _ rfl; have hk3 := hbu.box hS.dq.old 3 _ rfl; obtain ⟨hown, hBw, hnew, hoff⟩ := hS.over hbu hO2; clear hbu hO2)
                | (at_builtin; refine wp_appendQ rfl _ _ rfl _ _ _ ta tb tcc rfl hown rfl hm6 hBw ?_; intro g cap5 w5 hown5 hnx5 hk5 hat5 hsz5; have hS5 := St.pushed hT' hD2 hnew hoff hown5 hnx5 hk5 hat5; clear hown5 hnx5 hk5 hat5 hsz5 hown hBw hnew hoff hD2)
                | (go_at_call 18; refine Calls.mono (cL.out _ _ _ hS5.dq) ?_; rintro e wl ⟨rfl, O3, hD3, hO3, hbu3⟩; clear cL; rw [hml]))
              go_roundw
              case rel => exact ⟨i + 1, _, O3, by omega, by go_num, by show _ ≤ _; rw [hml]; exact Nat.succ_le_succ hm.out, hS5.same hbu3 hD3 hO3⟩
              case measure => simp only [intOf]; omega
          · obtain ⟨am, cm, rfl⟩ := hS.form
            subst hp
            go_wp2_with (go_at_call 18; refine Calls.mono (cL.out _ _ _ (hS.dq.alloc _)) ?_; rintro e wl ⟨rfl, O3, hD3, hO3, hbu3⟩; clear cL)
            go_roundw
            case rel => exact ⟨i + 1, m, O3, by omega, by go_num, Nat.le_succ_of_le hm.out, hS.one hbu3 hD3 hO3⟩
            case measure => simp only [intOf]; omega
    · go_wp2
      go_ret
      exact ⟨rfl, hS.bel⟩

theorem dequePlays_walk (w : World) (z : Int) (hz : (Lit.int .i64 z).wf = true) (v : Value) (L : List (List Int)) (h : IsR 4 w v L) :
    Calls Try.prog 4 #[.int .i64 z, v] w fun e w' => e = .returned (.bool true) ∧ Below w.heap.size w w' := by
  by_cases hr : z < 1 ∨ 64 < z
  · exact dequePlays_bad w z hz v L h hr
  · obtain ⟨r, rfl⟩ : ∃ r : Nat, z = (r : Int) := ⟨z.toNat, by omega⟩
    by_cases hl : 200 < L.length
    · exact dequePlays_many w r (by omega) (by omega) v L h hl
    · exact dequePlays_loop w r (by omega) (by omega) v L h (by omega)

end Go.Proofs.Ytfnmcohilnijoab
