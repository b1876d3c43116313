/-
  The walk of the law NttSays: whatever is handed in, Order, Forward and Inverse of package ntt answer what package goldref answers, or the error, and the law returns true.
-/
import Derived.Test.YtkiflapifdbgkaaDoorNttC
import Derived.Test.YtkiflapifdbgkaaDoorRefNtt
import Derived.Test.YtkiflapifdbgkaaDoorRefLog
import Derived.Test.YtkiflapifdbgkaaDoorRefR
import Derived.Test.YtkiflapifdbgkaaDoorSlEq
namespace Go.Proofs.YtkiflapifdbgkaaDoor
open Go.RowKit

/-- A size, by what may be done with it. -/
def Sz (n : Nat) : Prop := (∃ j, j ≤ 10 ∧ 6 < j ∧ n = 2 ^ j) ∨ (∃ j, j ≤ 6 ∧ n = 2 ^ j) ∨ (∀ j, j ≤ 10 → n ≠ 2 ^ j)
theorem Sz_all (n : Nat) : Sz n := by
  by_cases h : ∃ j, j ≤ 10 ∧ n = 2 ^ j
  · obtain ⟨j, hj, e⟩ := h
    by_cases h6 : j ≤ 6
    · exact .inr (.inl ⟨j, h6, e⟩)
    · exact .inl ⟨j, hj, by omega, e⟩
  · exact .inr (.inr fun j hj e => h ⟨j, hj, e⟩)

set_option maxHeartbeats 8000000 in
theorem nttSays_in (w : World) (v : Value) (xs : List Nat) (k : Nat) (h : IsU w v xs) (hk : k ≤ 10) (hT : Sz xs.length) (hTb : Tab w) :
    Calls Tryd.prog 3 #[v, .int .i64 (k : Int)] w fun e w' => e = .returned (.bool true) ∧ Below w.heap.size w w' := by
  have hA := h
  obtain ⟨a, cap, rfl, -⟩ := h
  have hW : Below w.heap.size w w := Below.refl _ _
  have cO := fun W => ntt_Order_ok W k hk
  have cIn := ref_In_true (k : Int) 0 10 (by omega) (by omega)
  go_enter Tryd.func3, Tryd.ntmps3
  go_wp2_with (first
    | (go_at_call 4; refine Calls.mono (cO _) ?_; rintro e w1 ⟨u, rfl, hL, hb⟩; replace hA := hA.below hb; replace hW := hW.trans (hb.mono hW.size); clear hb; obtain ⟨al, cl, rfl, -, -, hcl⟩ := hL)
    | (go_at_call 5; refine Calls.mono (cIn _) ?_; rintro e w' ⟨rfl, hw⟩; rw [hw]; clear hw))
  have hN := ord_length k
  have hget := fun i h => ord_get k i h
  rw [← hN] at hget
  have hpow : (2 : Int) ^ k = ((ord k).length : Int) := by rw [hN]; exact (two_pow_bound k hk).1
  have hN9 : (ord k).length ≤ 1024 := by rw [hN]; exact (two_pow_bound k hk).2
  clear hN cO cIn
  generalize ord k = L at *
  generalize L.length = N at *
  go_loop [24] (fun vi => ∃ i : Nat, i ≤ N ∧ vi = .int .i64 (i : Int)) (fun vi => N - (intOf vi).toNat)
  case atStart => exact ⟨0, Nat.zero_le _, rfl⟩
  case round =>
    obtain ⟨i, hi, rfl⟩ := hrel
    by_cases hlt : i < N
    · obtain ⟨b, off, rfl, hcell⟩ := hcl i hlt
      rw [hget i hlt] at hcell
      have hi9 : i ≤ 1024 := by omega
      clear hpow
      go_wp2
      go_loop [9, 30] (fun vb vi => ∃ b : Nat, b ≤ k ∧ vi = .int .i64 (b : Int) ∧ vb = .int .i64 ((rvK k i b : Nat) : Int)) (fun _ vi => k - (intOf vi).toNat)
      case atStart => exact ⟨0, Nat.zero_le _, rfl, rfl⟩
      case round =>
        obtain ⟨b, hb, rfl, rfl⟩ := hrel
        by_cases hbk : b < k
        · have hor := rv_or k i b hbk (two_pow_bound k hk).2 hi9
          go_wp2
          go_round
          case rel => exact ⟨b + 1, by omega, by go_num, rfl⟩
          case measure => simp only [intOf]; omega
        · have e : rvK k i b = rv k i := by unfold rv; rw [show b = k by omega]
          rw [e]
          have hq : ((rv k i : Int) != (rv k i : Int)) = false := by simp
          clear e
          generalize rv k i = r at *
          go_wp2
          go_round
          case rel => exact ⟨i + 1, by omega, by go_num⟩
          case measure => simp only [intOf]; omega
    · have e : i = N := by omega
      subst e
      have hq : ((i : Int) != (i : Int)) = false := by simp
      clear hcl hget
      rcases hT with ⟨j, hj, hj6, hlen⟩ | ⟨j, hj6, hlen⟩ | hnone
      · have cL : ∀ W, Calls Tryd.prog 6 #[.int .i64 (xs.length : Int)] W fun e w' => e = .returned (.int .i64 (j : Int)) ∧ w' = W := by
          intro W; rw [hlen]; exact ref_Log_ok j hj W
        have hd : decide ((6 : Int) < (j : Int)) = true := decide_eq_true (by omega)
        clear hlen
        go_wp2_with (go_at_call 6; refine Calls.mono (cL _) ?_; rintro e w' ⟨rfl, hw⟩; rw [hw]; clear hw)
        go_ret
        exact ⟨rfl, hW⟩
      · have cL : ∀ W, Calls Tryd.prog 6 #[.int .i64 (xs.length : Int)] W fun e w' => e = .returned (.int .i64 (j : Int)) ∧ w' = W := by
          intro W; rw [hlen]; exact ref_Log_ok j (by omega) W
        have cF := fun W hU (hB : Below w.heap.size w W) => ntt_Forward_ok W (.slice a xs.length cap) xs j hU (hTb.below hB) hlen (by omega)
        have cI := fun W hU (hB : Below w.heap.size w W) => ntt_Inverse_ok W (.slice a xs.length cap) xs j hU (hTb.below hB) hlen (by omega)
        have rF := fun W hU => ref_Forward W (.slice a xs.length cap) xs j hU hlen (by omega)
        have rI := fun W hU => ref_Inverse W (.slice a xs.length cap) xs j hU hlen (by omega)
        have hd : decide ((6 : Int) < (j : Int)) = false := decide_eq_false (by omega)
        have hd2 : decide ((j : Int) < 0) = false := decide_eq_false (by omega)
        clear hlen hj6
        generalize mk (2 ^ j) (fw xs j) = FL at *
        generalize mk (2 ^ j) (bw xs j) = IL at *
        have tk1 : True := trivial
        go_wp2_with (first
          | (go_at_call 6; refine Calls.mono (cL _) ?_; rintro e w' ⟨rfl, hw⟩; rw [hw]; clear hw)
          | (go_at_call 7; refine Calls.mono (cF _ hA hW) ?_; rintro e w3 ⟨x, rfl, hX, hb⟩; replace hA := hA.below hb; replace hW := hW.trans (hb.mono hW.size); clear hb; have hX0 := hX; obtain ⟨ax, cx, rfl, -⟩ := hX0)
          | (go_at_call 8; refine Calls.mono (cI _ hA hW) ?_; rintro e w4 ⟨y, rfl, hY, hb⟩; replace hA := hA.below hb; replace hX := hX.below hb; replace hW := hW.trans (hb.mono hW.size); clear hb; have hY0 := hY; obtain ⟨ay, cy, rfl, -⟩ := hY0)
          | (go_at_call 10; refine Calls.mono (rF _ hA) ?_; rintro e w5 ⟨p, rfl, hP, hb⟩; replace hA := hA.below hb; replace hX := hX.below hb; replace hY := hY.below hb; replace hW := hW.trans (hb.mono hW.size); clear hb)
          | (go_at_call 9; have _t := tk1; refine Calls.mono (slices_Equal _ _ _ FL hX hP) ?_; rintro e w6 ⟨rfl, hb⟩; clear tk1; replace hA := hA.below hb; replace hY := hY.below hb; replace hW := hW.trans (hb.mono hW.size); clear hb)
          | (go_at_call 11; refine Calls.mono (rI _ hA) ?_; rintro e w7 ⟨q, rfl, hQ, hb⟩; replace hY := hY.below hb; replace hW := hW.trans (hb.mono hW.size); clear hb)
          | (go_at_call 9; refine Calls.mono (slices_Equal _ _ _ IL hY hQ) ?_; rintro e w8 ⟨rfl, hb⟩; replace hW := hW.trans (hb.mono hW.size); clear hb))
        go_ret
        exact ⟨rfl, hW⟩
      · have cL := ref_Log_none xs.length hnone
        have cF := fun W hU => ntt_Forward_form W (.slice a xs.length cap) xs hU hnone
        have cI := fun W hU => ntt_Inverse_form W (.slice a xs.length cap) xs hU hnone
        clear hnone
        go_wp2_with (first
          | (go_at_call 6; refine Calls.mono (cL _) ?_; rintro e w' ⟨rfl, hw⟩; rw [hw]; clear hw)
          | (go_at_call 7; refine Calls.mono (cF _ hA) ?_; rintro e w3 ⟨x, rfl, hX, hb⟩; replace hA := hA.below hb; replace hW := hW.trans (hb.mono hW.size); clear hb; obtain ⟨ax, cx, rfl, -⟩ := hX)
          | (go_at_call 8; refine Calls.mono (cI _ hA) ?_; rintro e w4 ⟨y, rfl, hY, hb⟩; replace hW := hW.trans (hb.mono hW.size); clear hb; obtain ⟨ay, cy, rfl, -⟩ := hY))
        go_ret
        exact ⟨rfl, hW⟩

set_option maxHeartbeats 8000000 in
theorem nttSays_out (w : World) (v : Value) (xs : List Nat) (k : Int) (h : IsU w v xs) (hk : k < 0 ∨ 10 < k) (hw : (Lit.int .i64 k).wf = true) (hT : Sz xs.length) (hTb : Tab w) :
    Calls Tryd.prog 3 #[v, .int .i64 k] w fun e w' => e = .returned (.bool true) ∧ Below w.heap.size w w' := by
  have hA := h
  obtain ⟨a, cap, rfl, -⟩ := h
  have hW : Below w.heap.size w w := Below.refl _ _
  have cO := fun W => ntt_Order_arg W k hk hw
  have cIn : ∀ W, Calls Tryd.prog 5 #[.int .i64 k, .int .i64 0, .int .i64 10] W fun e w' => e = .returned (.bool false) ∧ w' = W := by
    intro W
    rcases Int.lt_or_le k 0 with h1 | h1
    · exact ref_In_low k 0 10 h1 W
    · exact ref_In_high k 0 10 h1 (by omega) W
  clear hk hw
  go_enter Tryd.func3, Tryd.ntmps3
  go_wp2_with (first
    | (go_at_call 4; refine Calls.mono (cO _) ?_; rintro e w1 ⟨u, rfl, hL, hb⟩; replace hA := hA.below hb; replace hW := hW.trans (hb.mono hW.size); clear hb; obtain ⟨al, cl, rfl, -, -, hcl⟩ := hL)
    | (go_at_call 5; refine Calls.mono (cIn _) ?_; rintro e w' ⟨rfl, hw⟩; rw [hw]; clear hw))
  clear cO cIn hcl
  rcases hT with ⟨j, hj, hj6, hlen⟩ | ⟨j, hj6, hlen⟩ | hnone
  · have cL : ∀ W, Calls Tryd.prog 6 #[.int .i64 (xs.length : Int)] W fun e w' => e = .returned (.int .i64 (j : Int)) ∧ w' = W := by
      intro W; rw [hlen]; exact ref_Log_ok j hj W
    have hd : decide ((6 : Int) < (j : Int)) = true := decide_eq_true (by omega)
    clear hlen
    go_wp2_with (go_at_call 6; refine Calls.mono (cL _) ?_; rintro e w' ⟨rfl, hw⟩; rw [hw]; clear hw)
    go_ret
    exact ⟨rfl, hW⟩
  · have cL : ∀ W, Calls Tryd.prog 6 #[.int .i64 (xs.length : Int)] W fun e w' => e = .returned (.int .i64 (j : Int)) ∧ w' = W := by
      intro W; rw [hlen]; exact ref_Log_ok j (by omega) W
    have cF := fun W hU (hB : Below w.heap.size w W) => ntt_Forward_ok W (.slice a xs.length cap) xs j hU (hTb.below hB) hlen (by omega)
    have cI := fun W hU (hB : Below w.heap.size w W) => ntt_Inverse_ok W (.slice a xs.length cap) xs j hU (hTb.below hB) hlen (by omega)
    have rF := fun W hU => ref_Forward W (.slice a xs.length cap) xs j hU hlen (by omega)
    have rI := fun W hU => ref_Inverse W (.slice a xs.length cap) xs j hU hlen (by omega)
    have hd : decide ((6 : Int) < (j : Int)) = false := decide_eq_false (by omega)
    have hd2 : decide ((j : Int) < 0) = false := decide_eq_false (by omega)
    clear hlen hj6
    generalize mk (2 ^ j) (fw xs j) = FL at *
    generalize mk (2 ^ j) (bw xs j) = IL at *
    have tk1 : True := trivial
    go_wp2_with (first
      | (go_at_call 6; refine Calls.mono (cL _) ?_; rintro e w' ⟨rfl, hw⟩; rw [hw]; clear hw)
      | (go_at_call 7; refine Calls.mono (cF _ hA hW) ?_; rintro e w3 ⟨x, rfl, hX, hb⟩; replace hA := hA.below hb; replace hW := hW.trans (hb.mono hW.size); clear hb; have hX0 := hX; obtain ⟨ax, cx, rfl, -⟩ := hX0)
      | (go_at_call 8; refine Calls.mono (cI _ hA hW) ?_; rintro e w4 ⟨y, rfl, hY, hb⟩; replace hA := hA.below hb; replace hX := hX.below hb; replace hW := hW.trans (hb.mono hW.size); clear hb; have hY0 := hY; obtain ⟨ay, cy, rfl, -⟩ := hY0)
      | (go_at_call 10; refine Calls.mono (rF _ hA) ?_; rintro e w5 ⟨p, rfl, hP, hb⟩; replace hA := hA.below hb; replace hX := hX.below hb; replace hY := hY.below hb; replace hW := hW.trans (hb.mono hW.size); clear hb)
      | (go_at_call 9; have _t := tk1; refine Calls.mono (slices_Equal _ _ _ FL hX hP) ?_; rintro e w6 ⟨rfl, hb⟩; clear tk1; replace hA := hA.below hb; replace hY := hY.below hb; replace hW := hW.trans (hb.mono hW.size); clear hb)
      | (go_at_call 11; refine Calls.mono (rI _ hA) ?_; rintro e w7 ⟨q, rfl, hQ, hb⟩; replace hY := hY.below hb; replace hW := hW.trans (hb.mono hW.size); clear hb)
      | (go_at_call 9; refine Calls.mono (slices_Equal _ _ _ IL hY hQ) ?_; rintro e w8 ⟨rfl, hb⟩; replace hW := hW.trans (hb.mono hW.size); clear hb))
    go_ret
    exact ⟨rfl, hW⟩
  · have cL := ref_Log_none xs.length hnone
    have cF := fun W hU => ntt_Forward_form W (.slice a xs.length cap) xs hU hnone
    have cI := fun W hU => ntt_Inverse_form W (.slice a xs.length cap) xs hU hnone
    clear hnone
    go_wp2_with (first
      | (go_at_call 6; refine Calls.mono (cL _) ?_; rintro e w' ⟨rfl, hw⟩; rw [hw]; clear hw)
      | (go_at_call 7; refine Calls.mono (cF _ hA) ?_; rintro e w3 ⟨x, rfl, hX, hb⟩; replace hA := hA.below hb; replace hW := hW.trans (hb.mono hW.size); clear hb; obtain ⟨ax, cx, rfl, -⟩ := hX)
      | (go_at_call 8; refine Calls.mono (cI _ hA) ?_; rintro e w4 ⟨y, rfl, hY, hb⟩; replace hW := hW.trans (hb.mono hW.size); clear hb; obtain ⟨ay, cy, rfl, -⟩ := hY))
    go_ret
    exact ⟨rfl, hW⟩

theorem nttSays_walk (w : World) (v : Value) (xs : List Nat) (h : IsU w v xs) (a1 : Int) (w1 : (Lit.int .i64 a1).wf = true) (hTb : Tab w) :
    Calls Tryd.prog 3 #[v, .int .i64 a1] w fun e w' => e = .returned (.bool true) ∧ Below w.heap.size w w' := by
  by_cases hk : 0 ≤ a1 ∧ a1 ≤ 10
  · obtain ⟨k, rfl⟩ : ∃ k : Nat, a1 = (k : Int) := ⟨a1.toNat, by omega⟩
    exact nttSays_in w v xs k h (by omega) (Sz_all _) hTb
  · exact nttSays_out w v xs a1 h (by omega) w1 (Sz_all _) hTb

end Go.Proofs.YtkiflapifdbgkaaDoor
