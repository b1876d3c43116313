/-
  What flat of package goldkeep answers: true: an array of two axes is transformed.
-/
import Derived.Test.YtgfnjbkhncjhhaeDoorManyT
import Derived.Test.YtgfnjbkhncjhhaeDoorSlEq
import Derived.Test.YtgfnjbkhncjhhaeDoorSlZL
namespace Go.Proofs.YtgfnjbkhncjhhaeDoor
open Go.RowKit

theorem axW_two : axW false 2 = -1 := by
  have e : Nat.log2 2 = 1 := by decide
  have h := (ord_rt 1 (by decide)).half 0 rfl
  rw [Nat.pow_zero, show (1 : Nat) = 0 + 1 from rfl, pw_succ, pw_zero] at h
  unfold axW
  rw [e]
  show toF (rt 1) = -1
  rw [← h]
  show toF (rt 1) = 1 * toF (rt 1)
  grind
theorem flat_who : mk 4 (who [2, 2] false (cf [1, 2, 3, 4]) 2) = [10, 18446744069414584319, 18446744069414584317, 0] := by
  have h : ∀ p, who [2, 2] false (cf [1, 2, 3, 4]) 2 p = ax 1 (-1) 1 2 (ax 1 (-1) 2 2 (cf [1, 2, 3, 4])) p := fun p => by
    rw [who_succ, who_succ, who_zero]
    unfold alo
    rw [show sz [2, 2] 1 = 2 from rfl, show sz [2, 2] 0 = 2 from rfl, show beh [2, 2] (1 + 1) = 1 from rfl, show beh [2, 2] (0 + 1) = 2 from rfl, axW_two]; rfl
  rw [mk_congr fun p _ => h p]
  decide +kernel
theorem flat_all : mk (prd2 [2, 2]) (who [2, 2] false (cf [1, 2, 3, 4]) [2, 2].length) = [10, 18446744069414584319, 18446744069414584317, 0] := by
  have e1 : prd2 [2, 2] = 4 := rfl
  have e2 : ([2, 2] : List Nat).length = 2 := rfl
  rw [e1, e2]
  exact flat_who
set_option maxHeartbeats 1000000 in
theorem keep_flat (w : World) (hTb : Tab w) : Calls Tryd.prog 24 #[] w fun e w' => e = .returned (.bool true) ∧ Below w.heap.size w w' := by
  have hZ := IsZ.lit2 w 3 2 2 (by decide) (by decide)
  have e1 : (w.alloc (.cells #[.int .i64 2, .int .i64 2] 3)).heap.size = w.heap.size + 1 := by simp
  have hL : IsU ((w.alloc (.cells #[.int .i64 2, .int .i64 2] 3)).alloc (.cells #[.int .u64 1, .int .u64 2, .int .u64 3, .int .u64 4] 23)) (.slice (some ⟨w.heap.size + 1, 0, none⟩) 4 4) [1, 2, 3, 4] := by
    have h := IsU.lit4 (w.alloc (.cells #[.int .i64 2, .int .i64 2] 3)) 23 1 2 3 4 (by decide) (by decide) (by decide) (by decide)
    rw [e1] at h
    exact h
  have hG : Good [2, 2] [2, 2] := ⟨by decide, by decide, rfl, fun d hd => by simp at hd; subst hd; exact ⟨1, rfl⟩⟩
  obtain ⟨R, hR⟩ : ∃ R : List Nat, R = mk (prd2 [2, 2]) (who [2, 2] false (cf [1, 2, 3, 4]) [2, 2].length) := ⟨_, rfl⟩
  have hR2 : R = [10, 18446744069414584319, 18446744069414584317, 0] := hR.trans flat_all
  have cF := many_Forward_ok _ _ _ [2, 2] [1, 2, 3, 4] [2, 2] (hZ.below (below_alloc1 _ _)) hL ((hTb.below (below_alloc1 _ _)).below (below_alloc1 _ _)) hG (by decide) rfl
  rw [← hR, hR2] at cF
  clear hR hR2
  have hW := Below.refl w.heap.size w
  clear hL hZ hG e1
  go_enter Tryd.func24, Tryd.ntmps24
  go_wp2_with (first
    | (go_at_call 26; refine Calls.mono cF ?_; rintro e w1 ⟨u, rfl, hU, hb⟩; replace hb := below_alloc (below_alloc hb); replace hW := hW.trans (hb.mono hW.size); clear hb)
    | (go_at_call 12; refine Calls.mono (slices_Equal _ _ _ [10, 18446744069414584319, 18446744069414584317, 0] (hU.below (below_alloc1 _ _)) (IsU.lit4 _ 23 10 18446744069414584319 18446744069414584317 0 (by decide) (by decide) (by decide) (by decide))) ?_; rintro e w2 ⟨rfl, hb⟩; replace hb := below_alloc hb; replace hW := hW.trans (hb.mono hW.size); clear hb))
  go_ret
  exact ⟨rfl, hW⟩

end Go.Proofs.YtgfnjbkhncjhhaeDoor
