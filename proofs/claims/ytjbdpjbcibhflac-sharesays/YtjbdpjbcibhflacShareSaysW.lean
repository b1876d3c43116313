/-
  ShareSays returns true for all that is handed in.
-/
import Derived.Test.YtjbdpjbcibhflacShareC
import Derived.Test.YtjbdpjbcibhflacRefData
import Derived.Test.YtjbdpjbcibhflacSlEq
namespace Go.Proofs.Ytjbdpjbcibhflac
open Go.RowKit

theorem IsU.shape {w : World} {v : Value} {xs : List Nat} (h : IsU w v xs) : ∃ a c, v = .slice a xs.length c := by
  obtain ⟨a, c, e, _⟩ := h
  exact ⟨a, c, e⟩
set_option maxRecDepth 100000 in
set_option maxHeartbeats 4000000 in
theorem shareSays_yes_bad (w : World) (v : Value) (xs : List Nat) (h : IsU w v xs) (n : Int) (hn : (Lit.int .i64 n).wf = true) (k : Int) (hk : (Lit.int .i64 k).wf = true) (vl : Value) (L : List (Int × Nat)) (hL : IsS w vl L) (hTb : Tab w) (hOk : EnOk xs n) (hS0 : shE k L ≠ 0) :
    Calls Try.prog 3 #[v, .int .i64 n, .int .i64 k, vl] w fun e w' => e = .returned (.bool true) ∧ Below w.heap.size w w' := by
  have cE := fun W (hb : Below w.heap.size w W) => share_Encode W v xs n (h.below hb) hn (hTb.below hb)
  have cR := fun W (hb : Below w.heap.size w W) => share_Recover W k vl L (hL.below hb) hk (hTb.below hb)
  have cF := fun W (hb : Below w.heap.size w W) => share_Fits W k vl L (hL.below hb) hk (hTb.below hb)
  have cS := fun W (hb : Below w.heap.size w W) => ref_Shares W k vl L (hL.below hb)
  have hbn := bounds_i64 hn
  have hbk := bounds_i64 hk
  have hB := Below.refl w.heap.size w
  obtain ⟨m, rfl⟩ : ∃ m : Nat, n = (m : Int) := ⟨n.toNat, by have := hOk.2.1.1; omega⟩
  have hEe : enE xs (m : Int) = 0 := if_pos hOk
  have hEl : enL xs (m : Int) = mk m (symF xs) := by unfold enL; rw [if_pos hOk]; rfl
  have cY := fun W (hb : Below w.heap.size w W) => ref_Symbols W v xs m (h.below hb) (by have := hOk.2.1.2; omega)
  have cI := ref_In (m : Int) 1 64
  rw [decide_eq_true hOk.2.1] at cI
  obtain ⟨o1, -, o3⟩ := hOk
  have o1' : (0 : Int) < (xs.length : Int) := by omega
  have r1 : rcE k L = shE k L := (rcE_bad hS0).1
  have r2 : rcL k L = [] := (rcE_bad hS0).2.1
  have r3 : ftB k L = false := (rcE_bad hS0).2.2
  have hne : (shE k L == 0) = false := by rw [beq_eq_false_iff_ne]; exact hS0
  clear hS0
  obtain ⟨a, cap, rfl, -, hmax, -, -⟩ := h
  obtain ⟨a', cap', rfl, -, hmax', -, -⟩ := hL
  go_enter Try.func3, Try.ntmps3
  go_wp2_with (first
    | (go_at_call 4; refine Calls.mono (cE _ hB) ?_; rintro e w2 ⟨u1, rfl, hU1, hb⟩; replace hB := hB.trans (hb.mono hB.size); clear hb; rw [hEe]; rw [hEl] at hU1; obtain ⟨a1, c1, rfl⟩ := hU1.shape)
    | (go_at_call 5; refine Calls.mono (cI _) ?_; rintro e w3 ⟨rfl, hw⟩; rw [hw]; clear hw)
    | (go_at_call 6; refine Calls.mono (cY _ hB) ?_; rintro e w4 ⟨u2, rfl, hU2, hb⟩; replace hU1 := hU1.below hb; replace hB := hB.trans (hb.mono hB.size); clear hb; obtain ⟨a2, c2, rfl⟩ := hU2.shape)
    | (go_at_call 7; refine Calls.mono (slices_Equal _ _ _ _ hU1 hU2) ?_; rintro e w9 ⟨rfl, hb⟩; replace hB := hB.trans (hb.mono hB.size); clear hb hU1 hU2)
    | (go_at_call 7; refine Calls.mono (slices_Equal _ _ _ _ hU3 hU4) ?_; rintro e w9 ⟨rfl, hb⟩; replace hB := hB.trans (hb.mono hB.size); clear hb hU3 hU4)
    | (go_at_call 8; refine Calls.mono (cR _ hB) ?_; rintro e w5 ⟨u3, rfl, hU3, hb⟩; replace hB := hB.trans (hb.mono hB.size); clear hb; (try rw [r1]); (try rw [r3]); rw [r2] at hU3; obtain ⟨a3, c3, rfl⟩ := hU3.shape)
    | (go_at_call 9; refine Calls.mono (cF _ hB) ?_; rintro e w6 ⟨rfl, hb⟩; replace hU3 := hU3.below hb; replace hB := hB.trans (hb.mono hB.size); clear hb; (try rw [r1]); (try rw [r3]))
    | (go_at_call 10; refine Calls.mono (cS _ hB) ?_; rintro e w7 ⟨rfl, hb⟩; replace hU3 := hU3.below hb; replace hB := hB.trans (hb.mono hB.size); clear hb; (try rw [r1]); (try rw [r3]))
    | (go_at_call 11; refine Calls.mono (cD _ hB) ?_; rintro e w8 ⟨u4, rfl, hU4, hb⟩; replace hU3 := hU3.below hb; replace hB := hB.trans (hb.mono hB.size); clear hb; (try rw [r1]); (try rw [r3]); obtain ⟨a4, c4, rfl⟩ := hU4.shape))
  go_ret
  exact ⟨rfl, hB⟩
set_option maxRecDepth 100000 in
set_option maxHeartbeats 4000000 in
theorem shareSays_yes_good (w : World) (v : Value) (xs : List Nat) (h : IsU w v xs) (n : Int) (hn : (Lit.int .i64 n).wf = true) (k : Int) (hk : (Lit.int .i64 k).wf = true) (vl : Value) (L : List (Int × Nat)) (hL : IsS w vl L) (hTb : Tab w) (hOk : EnOk xs n) (hS0 : shE k L = 0) :
    Calls Try.prog 3 #[v, .int .i64 n, .int .i64 k, vl] w fun e w' => e = .returned (.bool true) ∧ Below w.heap.size w w' := by
  have cE := fun W (hb : Below w.heap.size w W) => share_Encode W v xs n (h.below hb) hn (hTb.below hb)
  have cR := fun W (hb : Below w.heap.size w W) => share_Recover W k vl L (hL.below hb) hk (hTb.below hb)
  have cF := fun W (hb : Below w.heap.size w W) => share_Fits W k vl L (hL.below hb) hk (hTb.below hb)
  have cS := fun W (hb : Below w.heap.size w W) => ref_Shares W k vl L (hL.below hb)
  have hbn := bounds_i64 hn
  have hbk := bounds_i64 hk
  have hB := Below.refl w.heap.size w
  obtain ⟨m, rfl⟩ : ∃ m : Nat, n = (m : Int) := ⟨n.toNat, by have := hOk.2.1.1; omega⟩
  have hEe : enE xs (m : Int) = 0 := if_pos hOk
  have hEl : enL xs (m : Int) = mk m (symF xs) := by unfold enL; rw [if_pos hOk]; rfl
  have cY := fun W (hb : Below w.heap.size w W) => ref_Symbols W v xs m (h.below hb) (by have := hOk.2.1.2; omega)
  have cI := ref_In (m : Int) 1 64
  rw [decide_eq_true hOk.2.1] at cI
  obtain ⟨o1, -, o3⟩ := hOk
  have o1' : (0 : Int) < (xs.length : Int) := by omega
  have cD := fun W (hb : Below w.heap.size w W) => ref_Data W k vl L (hL.below hb) hS0
  obtain ⟨a, cap, rfl, -, hmax, -, -⟩ := h
  obtain ⟨a', cap', rfl, -, hmax', -, -⟩ := hL
  rcases rcE_cases k L hS0 with ⟨hlk, r1, -, r3⟩ | ⟨hlk, r1, -, r3⟩ | ⟨hlk, r1, r3⟩
  all_goals
    go_enter Try.func3, Try.ntmps3
    go_wp2_with (first
      | (go_at_call 4; refine Calls.mono (cE _ hB) ?_; rintro e w2 ⟨u1, rfl, hU1, hb⟩; replace hB := hB.trans (hb.mono hB.size); clear hb; rw [hEe]; rw [hEl] at hU1; obtain ⟨a1, c1, rfl⟩ := hU1.shape)
      | (go_at_call 5; refine Calls.mono (cI _) ?_; rintro e w3 ⟨rfl, hw⟩; rw [hw]; clear hw)
      | (go_at_call 6; refine Calls.mono (cY _ hB) ?_; rintro e w4 ⟨u2, rfl, hU2, hb⟩; replace hU1 := hU1.below hb; replace hB := hB.trans (hb.mono hB.size); clear hb; obtain ⟨a2, c2, rfl⟩ := hU2.shape)
      | (go_at_call 7; refine Calls.mono (slices_Equal _ _ _ _ hU1 hU2) ?_; rintro e w9 ⟨rfl, hb⟩; replace hB := hB.trans (hb.mono hB.size); clear hb hU1 hU2)
      | (go_at_call 7; refine Calls.mono (slices_Equal _ _ _ _ hU3 hU4) ?_; rintro e w9 ⟨rfl, hb⟩; replace hB := hB.trans (hb.mono hB.size); clear hb hU3 hU4)
      | (go_at_call 8; refine Calls.mono (cR _ hB) ?_; rintro e w5 ⟨u3, rfl, hU3, hb⟩; replace hB := hB.trans (hb.mono hB.size); clear hb; (try rw [r1]); (try rw [r3]); (try rw [hS0]); obtain ⟨a3, c3, rfl⟩ := hU3.shape)
      | (go_at_call 9; refine Calls.mono (cF _ hB) ?_; rintro e w6 ⟨rfl, hb⟩; replace hU3 := hU3.below hb; replace hB := hB.trans (hb.mono hB.size); clear hb; (try rw [r1]); (try rw [r3]); (try rw [hS0]))
      | (go_at_call 10; refine Calls.mono (cS _ hB) ?_; rintro e w7 ⟨rfl, hb⟩; replace hU3 := hU3.below hb; replace hB := hB.trans (hb.mono hB.size); clear hb; (try rw [r1]); (try rw [r3]); (try rw [hS0]))
      | (go_at_call 11; refine Calls.mono (cD _ hB) ?_; rintro e w8 ⟨u4, rfl, hU4, hb⟩; replace hU3 := hU3.below hb; replace hB := hB.trans (hb.mono hB.size); clear hb; (try rw [r1]); (try rw [r3]); (try rw [hS0]); obtain ⟨a4, c4, rfl⟩ := hU4.shape))
    go_ret
    exact ⟨rfl, hB⟩
set_option maxRecDepth 100000 in
set_option maxHeartbeats 4000000 in
theorem shareSays_no_bad (w : World) (v : Value) (xs : List Nat) (h : IsU w v xs) (n : Int) (hn : (Lit.int .i64 n).wf = true) (k : Int) (hk : (Lit.int .i64 k).wf = true) (vl : Value) (L : List (Int × Nat)) (hL : IsS w vl L) (hTb : Tab w) (hOk : ¬ EnOk xs n) (hS0 : shE k L ≠ 0) :
    Calls Try.prog 3 #[v, .int .i64 n, .int .i64 k, vl] w fun e w' => e = .returned (.bool true) ∧ Below w.heap.size w w' := by
  have cE := fun W (hb : Below w.heap.size w W) => share_Encode W v xs n (h.below hb) hn (hTb.below hb)
  have cR := fun W (hb : Below w.heap.size w W) => share_Recover W k vl L (hL.below hb) hk (hTb.below hb)
  have cF := fun W (hb : Below w.heap.size w W) => share_Fits W k vl L (hL.below hb) hk (hTb.below hb)
  have cS := fun W (hb : Below w.heap.size w W) => ref_Shares W k vl L (hL.below hb)
  have hbn := bounds_i64 hn
  have hbk := bounds_i64 hk
  have hB := Below.refl w.heap.size w
  have hEe : enE xs n = 1 := if_neg hOk
  have hEl : enL xs n = [] := if_neg hOk
  have cI := ref_In n 1 64
  have hno : (¬ (0 : Int) < (xs.length : Int)) ∨ (0 < xs.length ∧ decide (1 ≤ n ∧ n ≤ 64) = false) ∨ (0 < xs.length ∧ decide (1 ≤ n ∧ n ≤ 64) = true ∧ ¬ (xs.length : Int) ≤ n) := by
    rcases Nat.eq_zero_or_pos xs.length with q | q
    · exact .inl (by omega)
    · by_cases q2 : 1 ≤ n ∧ n ≤ 64
      · exact .inr (.inr ⟨q, decide_eq_true q2, fun q3 => hOk ⟨q, q2, q3⟩⟩)
      · exact .inr (.inl ⟨q, decide_eq_false q2⟩)
  clear hOk
  have r1 : rcE k L = shE k L := (rcE_bad hS0).1
  have r2 : rcL k L = [] := (rcE_bad hS0).2.1
  have r3 : ftB k L = false := (rcE_bad hS0).2.2
  have hne : (shE k L == 0) = false := by rw [beq_eq_false_iff_ne]; exact hS0
  clear hS0
  obtain ⟨a, cap, rfl, -, hmax, -, -⟩ := h
  obtain ⟨a', cap', rfl, -, hmax', -, -⟩ := hL
  rcases hno with q | ⟨q, q2⟩ | ⟨q, q2, q3⟩
  case' inr.inl => rw [q2] at cI
  case' inr.inr => rw [q2] at cI
  all_goals (try clear q2)
  all_goals
    go_enter Try.func3, Try.ntmps3
    go_wp2_with (first
      | (go_at_call 4; refine Calls.mono (cE _ hB) ?_; rintro e w2 ⟨u1, rfl, hU1, hb⟩; replace hB := hB.trans (hb.mono hB.size); clear hb; rw [hEe]; rw [hEl] at hU1; obtain ⟨a1, c1, rfl⟩ := hU1.shape)
      | (go_at_call 5; refine Calls.mono (cI _) ?_; rintro e w3 ⟨rfl, hw⟩; rw [hw]; clear hw)
      | (go_at_call 7; refine Calls.mono (slices_Equal _ _ _ [] hU1 (IsU.nil _)) ?_; rintro e w9 ⟨rfl, hb⟩; replace hB := hB.trans (hb.mono hB.size); clear hb hU1)
      | (go_at_call 7; refine Calls.mono (slices_Equal _ _ _ _ hU3 hU4) ?_; rintro e w9 ⟨rfl, hb⟩; replace hB := hB.trans (hb.mono hB.size); clear hb hU3 hU4)
      | (go_at_call 8; refine Calls.mono (cR _ hB) ?_; rintro e w5 ⟨u3, rfl, hU3, hb⟩; replace hB := hB.trans (hb.mono hB.size); clear hb; (try rw [r1]); (try rw [r3]); rw [r2] at hU3; obtain ⟨a3, c3, rfl⟩ := hU3.shape)
      | (go_at_call 9; refine Calls.mono (cF _ hB) ?_; rintro e w6 ⟨rfl, hb⟩; replace hU3 := hU3.below hb; replace hB := hB.trans (hb.mono hB.size); clear hb; (try rw [r1]); (try rw [r3]))
      | (go_at_call 10; refine Calls.mono (cS _ hB) ?_; rintro e w7 ⟨rfl, hb⟩; replace hU3 := hU3.below hb; replace hB := hB.trans (hb.mono hB.size); clear hb; (try rw [r1]); (try rw [r3]))
      | (go_at_call 11; refine Calls.mono (cD _ hB) ?_; rintro e w8 ⟨u4, rfl, hU4, hb⟩; replace hU3 := hU3.below hb; replace hB := hB.trans (hb.mono hB.size); clear hb; (try rw [r1]); (try rw [r3]); obtain ⟨a4, c4, rfl⟩ := hU4.shape))
    go_ret
    exact ⟨rfl, hB⟩
set_option maxRecDepth 100000 in
set_option maxHeartbeats 4000000 in
theorem shareSays_no_good (w : World) (v : Value) (xs : List Nat) (h : IsU w v xs) (n : Int) (hn : (Lit.int .i64 n).wf = true) (k : Int) (hk : (Lit.int .i64 k).wf = true) (vl : Value) (L : List (Int × Nat)) (hL : IsS w vl L) (hTb : Tab w) (hOk : ¬ EnOk xs n) (hS0 : shE k L = 0) :
    Calls Try.prog 3 #[v, .int .i64 n, .int .i64 k, vl] w fun e w' => e = .returned (.bool true) ∧ Below w.heap.size w w' := by
  have cE := fun W (hb : Below w.heap.size w W) => share_Encode W v xs n (h.below hb) hn (hTb.below hb)
  have cR := fun W (hb : Below w.heap.size w W) => share_Recover W k vl L (hL.below hb) hk (hTb.below hb)
  have cF := fun W (hb : Below w.heap.size w W) => share_Fits W k vl L (hL.below hb) hk (hTb.below hb)
  have cS := fun W (hb : Below w.heap.size w W) => ref_Shares W k vl L (hL.below hb)
  have hbn := bounds_i64 hn
  have hbk := bounds_i64 hk
  have hB := Below.refl w.heap.size w
  have hEe : enE xs n = 1 := if_neg hOk
  have hEl : enL xs n = [] := if_neg hOk
  have cI := ref_In n 1 64
  have hno : (¬ (0 : Int) < (xs.length : Int)) ∨ (0 < xs.length ∧ decide (1 ≤ n ∧ n ≤ 64) = false) ∨ (0 < xs.length ∧ decide (1 ≤ n ∧ n ≤ 64) = true ∧ ¬ (xs.length : Int) ≤ n) := by
    rcases Nat.eq_zero_or_pos xs.length with q | q
    · exact .inl (by omega)
    · by_cases q2 : 1 ≤ n ∧ n ≤ 64
      · exact .inr (.inr ⟨q, decide_eq_true q2, fun q3 => hOk ⟨q, q2, q3⟩⟩)
      · exact .inr (.inl ⟨q, decide_eq_false q2⟩)
  clear hOk
  have cD := fun W (hb : Below w.heap.size w W) => ref_Data W k vl L (hL.below hb) hS0
  obtain ⟨a, cap, rfl, -, hmax, -, -⟩ := h
  obtain ⟨a', cap', rfl, -, hmax', -, -⟩ := hL
  rcases hno with q | ⟨q, q2⟩ | ⟨q, q2, q3⟩
  case' inr.inl => rw [q2] at cI
  case' inr.inr => rw [q2] at cI
  all_goals (try clear q2)
  all_goals rcases rcE_cases k L hS0 with ⟨hlk, r1, -, r3⟩ | ⟨hlk, r1, -, r3⟩ | ⟨hlk, r1, r3⟩
  all_goals
    go_enter Try.func3, Try.ntmps3
    go_wp2_with (first
      | (go_at_call 4; refine Calls.mono (cE _ hB) ?_; rintro e w2 ⟨u1, rfl, hU1, hb⟩; replace hB := hB.trans (hb.mono hB.size); clear hb; rw [hEe]; rw [hEl] at hU1; obtain ⟨a1, c1, rfl⟩ := hU1.shape)
      | (go_at_call 5; refine Calls.mono (cI _) ?_; rintro e w3 ⟨rfl, hw⟩; rw [hw]; clear hw)
      | (go_at_call 7; refine Calls.mono (slices_Equal _ _ _ [] hU1 (IsU.nil _)) ?_; rintro e w9 ⟨rfl, hb⟩; replace hB := hB.trans (hb.mono hB.size); clear hb hU1)
      | (go_at_call 7; refine Calls.mono (slices_Equal _ _ _ _ hU3 hU4) ?_; rintro e w9 ⟨rfl, hb⟩; replace hB := hB.trans (hb.mono hB.size); clear hb hU3 hU4)
      | (go_at_call 8; refine Calls.mono (cR _ hB) ?_; rintro e w5 ⟨u3, rfl, hU3, hb⟩; replace hB := hB.trans (hb.mono hB.size); clear hb; (try rw [r1]); (try rw [r3]); (try rw [hS0]); obtain ⟨a3, c3, rfl⟩ := hU3.shape)
      | (go_at_call 9; refine Calls.mono (cF _ hB) ?_; rintro e w6 ⟨rfl, hb⟩; replace hU3 := hU3.below hb; replace hB := hB.trans (hb.mono hB.size); clear hb; (try rw [r1]); (try rw [r3]); (try rw [hS0]))
      | (go_at_call 10; refine Calls.mono (cS _ hB) ?_; rintro e w7 ⟨rfl, hb⟩; replace hU3 := hU3.below hb; replace hB := hB.trans (hb.mono hB.size); clear hb; (try rw [r1]); (try rw [r3]); (try rw [hS0]))
      | (go_at_call 11; refine Calls.mono (cD _ hB) ?_; rintro e w8 ⟨u4, rfl, hU4, hb⟩; replace hU3 := hU3.below hb; replace hB := hB.trans (hb.mono hB.size); clear hb; (try rw [r1]); (try rw [r3]); (try rw [hS0]); obtain ⟨a4, c4, rfl⟩ := hU4.shape))
    go_ret
    exact ⟨rfl, hB⟩
set_option maxRecDepth 100000 in
set_option maxHeartbeats 4000000 in
theorem shareSays_walk (w : World) (v : Value) (xs : List Nat) (h : IsU w v xs) (n : Int) (hn : (Lit.int .i64 n).wf = true) (k : Int) (hk : (Lit.int .i64 k).wf = true) (vl : Value) (L : List (Int × Nat)) (hL : IsS w vl L) (hTb : Tab w) :
    Calls Try.prog 3 #[v, .int .i64 n, .int .i64 k, vl] w fun e w' => e = .returned (.bool true) ∧ Below w.heap.size w w' := by
  by_cases hOk : EnOk xs n
  · by_cases hS0 : shE k L = 0
    · exact shareSays_yes_good w v xs h n hn k hk vl L hL hTb hOk hS0
    · exact shareSays_yes_bad w v xs h n hn k hk vl L hL hTb hOk hS0
  · by_cases hS0 : shE k L = 0
    · exact shareSays_no_good w v xs h n hn k hk vl L hL hTb hOk hS0
    · exact shareSays_no_bad w v xs h n hn k hk vl L hL hTb hOk hS0

end Go.Proofs.Ytjbdpjbcibhflac
