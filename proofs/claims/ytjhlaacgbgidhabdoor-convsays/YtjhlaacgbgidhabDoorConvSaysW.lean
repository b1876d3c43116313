/-
  The walk of the law ConvSays: whatever is handed in, Cyclic, Skew and Linear of package conv answer what package goldref answers, or the errors, and the law returns true.
-/
import Derived.Test.YtjhlaacgbgidhabDoorConvC
import Derived.Test.YtjhlaacgbgidhabDoorRefRound
import Derived.Test.YtjhlaacgbgidhabDoorRefLog
import Derived.Test.YtjhlaacgbgidhabDoorRefProduct
import Derived.Test.YtjhlaacgbgidhabDoorSlEq
namespace Go.Proofs.YtjhlaacgbgidhabDoor
open Go.RowKit

set_option maxHeartbeats 8000000 in
theorem convSays_L1_F1 (w : World) (a : Option Addr) (cap : Nat) (xs : List Nat) (a' : Option Addr) (cap' : Nat) (ys : List Nat) (hA : IsU w (.slice a xs.length cap) xs) (hB : IsU w (.slice a' ys.length cap') ys) (hl : (1024 < xs.length)) (hf : xs.length ≠ ys.length) (hx9 : xs.length ≤ 35184372088832) (_hy9 : ys.length ≤ 35184372088832) (hTb : Tab w) :
    Calls Tryd.prog 3 #[.slice a xs.length cap, .slice a' ys.length cap'] w fun e w' => e = .returned (.bool true) ∧ Below w.heap.size w w' := by
  have _u := hTb
  have hW : Below w.heap.size w w := Below.refl _ _
  have t0 : 1024 < xs.length := by omega
  have q1 : decide ((1024 : Int) < (xs.length : Int)) = true := decide_eq_true (by omega)
  have n1 : ((xs.length : Int) != (ys.length : Int)) = true := by rw [bne_iff_ne]; omega
  have cC := fun W h h' => conv_Cyclic_form W (.slice a xs.length cap) (.slice a' ys.length cap') xs ys h h' (.inl hf)
  have cS := fun W h h' => conv_Skew_form W (.slice a xs.length cap) (.slice a' ys.length cap') xs ys h h' hx9 _hy9 (.inl hf)
  have cN := fun W h h' => conv_Linear_large W (.slice a xs.length cap) (.slice a' ys.length cap') xs ys h h' (by omega)
  clear hf hl
  have te1 : True := trivial
  have te2 : True := trivial
  go_enter Tryd.func3, Tryd.ntmps3
  go_wp2_with (first
    | (go_at_call 5; refine Calls.mono (cC _ hA hB) ?_; rintro e w3 ⟨x, rfl, hX, hb⟩; replace hA := hA.below hb; replace hB := hB.below hb; replace hW := hW.trans (hb.mono hW.size); clear hb)
    | (go_at_call 6; refine Calls.mono (cS _ hA hB) ?_; rintro e w4 ⟨y, rfl, hY, hb⟩; replace hA := hA.below hb; replace hB := hB.below hb; replace hX := hX.below hb; replace hW := hW.trans (hb.mono hW.size); clear hb)
    | (go_at_call 7; refine Calls.mono (cN _ hA hB) ?_; rintro e w5 ⟨z, rfl, hZ, hb⟩; replace hA := hA.below hb; replace hB := hB.below hb; replace hX := hX.below hb; replace hY := hY.below hb; replace hW := hW.trans (hb.mono hW.size); clear hb)
    | (go_at_call 10; have _t := te1; refine Calls.mono (slices_Equal _ _ _ [] hX (IsU.nil _)) ?_; rintro e w6 ⟨rfl, hb⟩; clear te1; replace hA := hA.below hb; replace hB := hB.below hb; replace hX := hX.below hb; replace hY := hY.below hb; replace hZ := hZ.below hb; replace hW := hW.trans (hb.mono hW.size); clear hb)
    | (go_at_call 10; have _t := te2; refine Calls.mono (slices_Equal _ _ _ [] hY (IsU.nil _)) ?_; rintro e w7 ⟨rfl, hb⟩; clear te2; replace hA := hA.below hb; replace hB := hB.below hb; replace hX := hX.below hb; replace hY := hY.below hb; replace hZ := hZ.below hb; replace hW := hW.trans (hb.mono hW.size); clear hb)
    | (go_at_call 10; refine Calls.mono (slices_Equal _ _ _ [] hZ (IsU.nil _)) ?_; rintro e w8 ⟨rfl, hb⟩; replace hA := hA.below hb; replace hB := hB.below hb; replace hX := hX.below hb; replace hY := hY.below hb; replace hZ := hZ.below hb; replace hW := hW.trans (hb.mono hW.size); clear hb))
  go_ret
  exact ⟨rfl, hW⟩

set_option maxHeartbeats 8000000 in
theorem convSays_L1_F2 (w : World) (a : Option Addr) (cap : Nat) (xs : List Nat) (a' : Option Addr) (cap' : Nat) (ys : List Nat) (hA : IsU w (.slice a xs.length cap) xs) (hB : IsU w (.slice a' ys.length cap') ys) (hl : (1024 < xs.length)) (he : xs.length = ys.length) (hf : ∀ j, j ≤ 10 → xs.length ≠ 2 ^ j) (hx9 : xs.length ≤ 35184372088832) (_hy9 : ys.length ≤ 35184372088832) (hTb : Tab w) :
    Calls Tryd.prog 3 #[.slice a xs.length cap, .slice a' ys.length cap'] w fun e w' => e = .returned (.bool true) ∧ Below w.heap.size w w' := by
  have _u := hTb
  have hW : Below w.heap.size w w := Below.refl _ _
  have t0 : 1024 < xs.length := by omega
  have q1 : decide ((1024 : Int) < (xs.length : Int)) = true := decide_eq_true (by omega)
  have n1 : ((xs.length : Int) != (ys.length : Int)) = false := by simp; omega
  have cL := ref_Log_none xs.length hf
  have cC := fun W h h' => conv_Cyclic_form W (.slice a xs.length cap) (.slice a' ys.length cap') xs ys h h' (.inr hf)
  have cS := fun W h h' => conv_Skew_form W (.slice a xs.length cap) (.slice a' ys.length cap') xs ys h h' hx9 _hy9 (.inr hf)
  have cN := fun W h h' => conv_Linear_large W (.slice a xs.length cap) (.slice a' ys.length cap') xs ys h h' (by omega)
  clear hf he hl
  have te1 : True := trivial
  have te2 : True := trivial
  go_enter Tryd.func3, Tryd.ntmps3
  go_wp2_with (first
    | (go_at_call 4; refine Calls.mono (cL _) ?_; rintro e w' ⟨rfl, hw⟩; rw [hw]; clear hw)
    | (go_at_call 5; refine Calls.mono (cC _ hA hB) ?_; rintro e w3 ⟨x, rfl, hX, hb⟩; replace hA := hA.below hb; replace hB := hB.below hb; replace hW := hW.trans (hb.mono hW.size); clear hb)
    | (go_at_call 6; refine Calls.mono (cS _ hA hB) ?_; rintro e w4 ⟨y, rfl, hY, hb⟩; replace hA := hA.below hb; replace hB := hB.below hb; replace hX := hX.below hb; replace hW := hW.trans (hb.mono hW.size); clear hb)
    | (go_at_call 7; refine Calls.mono (cN _ hA hB) ?_; rintro e w5 ⟨z, rfl, hZ, hb⟩; replace hA := hA.below hb; replace hB := hB.below hb; replace hX := hX.below hb; replace hY := hY.below hb; replace hW := hW.trans (hb.mono hW.size); clear hb)
    | (go_at_call 10; have _t := te1; refine Calls.mono (slices_Equal _ _ _ [] hX (IsU.nil _)) ?_; rintro e w6 ⟨rfl, hb⟩; clear te1; replace hA := hA.below hb; replace hB := hB.below hb; replace hX := hX.below hb; replace hY := hY.below hb; replace hZ := hZ.below hb; replace hW := hW.trans (hb.mono hW.size); clear hb)
    | (go_at_call 10; have _t := te2; refine Calls.mono (slices_Equal _ _ _ [] hY (IsU.nil _)) ?_; rintro e w7 ⟨rfl, hb⟩; clear te2; replace hA := hA.below hb; replace hB := hB.below hb; replace hX := hX.below hb; replace hY := hY.below hb; replace hZ := hZ.below hb; replace hW := hW.trans (hb.mono hW.size); clear hb)
    | (go_at_call 10; refine Calls.mono (slices_Equal _ _ _ [] hZ (IsU.nil _)) ?_; rintro e w8 ⟨rfl, hb⟩; replace hA := hA.below hb; replace hB := hB.below hb; replace hX := hX.below hb; replace hY := hY.below hb; replace hZ := hZ.below hb; replace hW := hW.trans (hb.mono hW.size); clear hb))
  go_ret
  exact ⟨rfl, hW⟩

set_option maxHeartbeats 8000000 in
theorem convSays_L2_F1 (w : World) (a : Option Addr) (cap : Nat) (xs : List Nat) (a' : Option Addr) (cap' : Nat) (ys : List Nat) (hA : IsU w (.slice a xs.length cap) xs) (hB : IsU w (.slice a' ys.length cap') ys) (hl : (xs.length ≤ 1024 ∧ 1024 < ys.length)) (hf : xs.length ≠ ys.length) (_hx9 : xs.length ≤ 35184372088832) (hy9 : ys.length ≤ 35184372088832) (hTb : Tab w) :
    Calls Tryd.prog 3 #[.slice a xs.length cap, .slice a' ys.length cap'] w fun e w' => e = .returned (.bool true) ∧ Below w.heap.size w w' := by
  have _u := hTb
  have hW : Below w.heap.size w w := Below.refl _ _
  have t0 : xs.length ≤ 1024 := by omega
  have t1 : 1024 < ys.length := by omega
  have q1 : decide ((1024 : Int) < (xs.length : Int)) = false := decide_eq_false (by omega)
  have q2 : decide ((1024 : Int) < (ys.length : Int)) = true := decide_eq_true (by omega)
  have n1 : ((xs.length : Int) != (ys.length : Int)) = true := by rw [bne_iff_ne]; omega
  have cC := fun W h h' => conv_Cyclic_form W (.slice a xs.length cap) (.slice a' ys.length cap') xs ys h h' (.inl hf)
  have cS := fun W h h' => conv_Skew_form W (.slice a xs.length cap) (.slice a' ys.length cap') xs ys h h' _hx9 hy9 (.inl hf)
  have cN := fun W h h' => conv_Linear_large W (.slice a xs.length cap) (.slice a' ys.length cap') xs ys h h' (by omega)
  clear hf hl
  have te1 : True := trivial
  have te2 : True := trivial
  go_enter Tryd.func3, Tryd.ntmps3
  go_wp2_with (first
    | (go_at_call 5; refine Calls.mono (cC _ hA hB) ?_; rintro e w3 ⟨x, rfl, hX, hb⟩; replace hA := hA.below hb; replace hB := hB.below hb; replace hW := hW.trans (hb.mono hW.size); clear hb)
    | (go_at_call 6; refine Calls.mono (cS _ hA hB) ?_; rintro e w4 ⟨y, rfl, hY, hb⟩; replace hA := hA.below hb; replace hB := hB.below hb; replace hX := hX.below hb; replace hW := hW.trans (hb.mono hW.size); clear hb)
    | (go_at_call 7; refine Calls.mono (cN _ hA hB) ?_; rintro e w5 ⟨z, rfl, hZ, hb⟩; replace hA := hA.below hb; replace hB := hB.below hb; replace hX := hX.below hb; replace hY := hY.below hb; replace hW := hW.trans (hb.mono hW.size); clear hb)
    | (go_at_call 10; have _t := te1; refine Calls.mono (slices_Equal _ _ _ [] hX (IsU.nil _)) ?_; rintro e w6 ⟨rfl, hb⟩; clear te1; replace hA := hA.below hb; replace hB := hB.below hb; replace hX := hX.below hb; replace hY := hY.below hb; replace hZ := hZ.below hb; replace hW := hW.trans (hb.mono hW.size); clear hb)
    | (go_at_call 10; have _t := te2; refine Calls.mono (slices_Equal _ _ _ [] hY (IsU.nil _)) ?_; rintro e w7 ⟨rfl, hb⟩; clear te2; replace hA := hA.below hb; replace hB := hB.below hb; replace hX := hX.below hb; replace hY := hY.below hb; replace hZ := hZ.below hb; replace hW := hW.trans (hb.mono hW.size); clear hb)
    | (go_at_call 10; refine Calls.mono (slices_Equal _ _ _ [] hZ (IsU.nil _)) ?_; rintro e w8 ⟨rfl, hb⟩; replace hA := hA.below hb; replace hB := hB.below hb; replace hX := hX.below hb; replace hY := hY.below hb; replace hZ := hZ.below hb; replace hW := hW.trans (hb.mono hW.size); clear hb))
  go_ret
  exact ⟨rfl, hW⟩

set_option maxHeartbeats 8000000 in
theorem convSays_L3_F1 (w : World) (a : Option Addr) (cap : Nat) (xs : List Nat) (a' : Option Addr) (cap' : Nat) (ys : List Nat) (hA : IsU w (.slice a xs.length cap) xs) (hB : IsU w (.slice a' ys.length cap') ys) (hl : (xs.length ≤ 1024 ∧ ys.length ≤ 1024 ∧ 0 < xs.length ∧ 0 < ys.length ∧ 1025 < xs.length + ys.length)) (hf : xs.length ≠ ys.length) (hx9 : xs.length ≤ 35184372088832) (hy9 : ys.length ≤ 35184372088832) (hTb : Tab w) :
    Calls Tryd.prog 3 #[.slice a xs.length cap, .slice a' ys.length cap'] w fun e w' => e = .returned (.bool true) ∧ Below w.heap.size w w' := by
  have _u := hTb
  have hW : Below w.heap.size w w := Below.refl _ _
  have t0 : xs.length ≤ 1024 := by omega
  have t1 : ys.length ≤ 1024 := by omega
  have t2 : 0 < xs.length := by omega
  have t2d : decide ((0 : Int) < (xs.length : Int)) = true := decide_eq_true (by omega)
  have t3 : 0 < ys.length := by omega
  have t3d : decide ((0 : Int) < (ys.length : Int)) = true := decide_eq_true (by omega)
  have t4 : 1025 < xs.length + ys.length := by omega
  have t4d : decide ((1025 : Int) < (xs.length : Int) + (ys.length : Int)) = true := decide_eq_true (by omega)
  have q1 : decide ((1024 : Int) < (xs.length : Int)) = false := decide_eq_false (by omega)
  have q2 : decide ((1024 : Int) < (ys.length : Int)) = false := decide_eq_false (by omega)
  have n1 : ((xs.length : Int) != (ys.length : Int)) = true := by rw [bne_iff_ne]; omega
  have cC := fun W h h' => conv_Cyclic_form W (.slice a xs.length cap) (.slice a' ys.length cap') xs ys h h' (.inl hf)
  have cS := fun W h h' => conv_Skew_form W (.slice a xs.length cap) (.slice a' ys.length cap') xs ys h h' hx9 hy9 (.inl hf)
  have cN := fun W h h' => conv_Linear_large W (.slice a xs.length cap) (.slice a' ys.length cap') xs ys h h' (by omega)
  clear hf hl
  have te1 : True := trivial
  have te2 : True := trivial
  go_enter Tryd.func3, Tryd.ntmps3
  go_wp2_with (first
    | (go_at_call 5; refine Calls.mono (cC _ hA hB) ?_; rintro e w3 ⟨x, rfl, hX, hb⟩; replace hA := hA.below hb; replace hB := hB.below hb; replace hW := hW.trans (hb.mono hW.size); clear hb)
    | (go_at_call 6; refine Calls.mono (cS _ hA hB) ?_; rintro e w4 ⟨y, rfl, hY, hb⟩; replace hA := hA.below hb; replace hB := hB.below hb; replace hX := hX.below hb; replace hW := hW.trans (hb.mono hW.size); clear hb)
    | (go_at_call 7; refine Calls.mono (cN _ hA hB) ?_; rintro e w5 ⟨z, rfl, hZ, hb⟩; replace hA := hA.below hb; replace hB := hB.below hb; replace hX := hX.below hb; replace hY := hY.below hb; replace hW := hW.trans (hb.mono hW.size); clear hb)
    | (go_at_call 10; have _t := te1; refine Calls.mono (slices_Equal _ _ _ [] hX (IsU.nil _)) ?_; rintro e w6 ⟨rfl, hb⟩; clear te1; replace hA := hA.below hb; replace hB := hB.below hb; replace hX := hX.below hb; replace hY := hY.below hb; replace hZ := hZ.below hb; replace hW := hW.trans (hb.mono hW.size); clear hb)
    | (go_at_call 10; have _t := te2; refine Calls.mono (slices_Equal _ _ _ [] hY (IsU.nil _)) ?_; rintro e w7 ⟨rfl, hb⟩; clear te2; replace hA := hA.below hb; replace hB := hB.below hb; replace hX := hX.below hb; replace hY := hY.below hb; replace hZ := hZ.below hb; replace hW := hW.trans (hb.mono hW.size); clear hb)
    | (go_at_call 10; refine Calls.mono (slices_Equal _ _ _ [] hZ (IsU.nil _)) ?_; rintro e w8 ⟨rfl, hb⟩; replace hA := hA.below hb; replace hB := hB.below hb; replace hX := hX.below hb; replace hY := hY.below hb; replace hZ := hZ.below hb; replace hW := hW.trans (hb.mono hW.size); clear hb))
  go_ret
  exact ⟨rfl, hW⟩

set_option maxHeartbeats 8000000 in
theorem convSays_L3_F2 (w : World) (a : Option Addr) (cap : Nat) (xs : List Nat) (a' : Option Addr) (cap' : Nat) (ys : List Nat) (hA : IsU w (.slice a xs.length cap) xs) (hB : IsU w (.slice a' ys.length cap') ys) (hl : (xs.length ≤ 1024 ∧ ys.length ≤ 1024 ∧ 0 < xs.length ∧ 0 < ys.length ∧ 1025 < xs.length + ys.length)) (he : xs.length = ys.length) (hf : ∀ j, j ≤ 10 → xs.length ≠ 2 ^ j) (hx9 : xs.length ≤ 35184372088832) (hy9 : ys.length ≤ 35184372088832) (hTb : Tab w) :
    Calls Tryd.prog 3 #[.slice a xs.length cap, .slice a' ys.length cap'] w fun e w' => e = .returned (.bool true) ∧ Below w.heap.size w w' := by
  have _u := hTb
  have hW : Below w.heap.size w w := Below.refl _ _
  have t0 : xs.length ≤ 1024 := by omega
  have t1 : ys.length ≤ 1024 := by omega
  have t2 : 0 < xs.length := by omega
  have t2d : decide ((0 : Int) < (xs.length : Int)) = true := decide_eq_true (by omega)
  have t3 : 0 < ys.length := by omega
  have t3d : decide ((0 : Int) < (ys.length : Int)) = true := decide_eq_true (by omega)
  have t4 : 1025 < xs.length + ys.length := by omega
  have t4d : decide ((1025 : Int) < (xs.length : Int) + (ys.length : Int)) = true := decide_eq_true (by omega)
  have q1 : decide ((1024 : Int) < (xs.length : Int)) = false := decide_eq_false (by omega)
  have q2 : decide ((1024 : Int) < (ys.length : Int)) = false := decide_eq_false (by omega)
  have n1 : ((xs.length : Int) != (ys.length : Int)) = false := by simp; omega
  have cL := ref_Log_none xs.length hf
  have cC := fun W h h' => conv_Cyclic_form W (.slice a xs.length cap) (.slice a' ys.length cap') xs ys h h' (.inr hf)
  have cS := fun W h h' => conv_Skew_form W (.slice a xs.length cap) (.slice a' ys.length cap') xs ys h h' hx9 hy9 (.inr hf)
  have cN := fun W h h' => conv_Linear_large W (.slice a xs.length cap) (.slice a' ys.length cap') xs ys h h' (by omega)
  clear hf he hl
  have te1 : True := trivial
  have te2 : True := trivial
  go_enter Tryd.func3, Tryd.ntmps3
  go_wp2_with (first
    | (go_at_call 4; refine Calls.mono (cL _) ?_; rintro e w' ⟨rfl, hw⟩; rw [hw]; clear hw)
    | (go_at_call 5; refine Calls.mono (cC _ hA hB) ?_; rintro e w3 ⟨x, rfl, hX, hb⟩; replace hA := hA.below hb; replace hB := hB.below hb; replace hW := hW.trans (hb.mono hW.size); clear hb)
    | (go_at_call 6; refine Calls.mono (cS _ hA hB) ?_; rintro e w4 ⟨y, rfl, hY, hb⟩; replace hA := hA.below hb; replace hB := hB.below hb; replace hX := hX.below hb; replace hW := hW.trans (hb.mono hW.size); clear hb)
    | (go_at_call 7; refine Calls.mono (cN _ hA hB) ?_; rintro e w5 ⟨z, rfl, hZ, hb⟩; replace hA := hA.below hb; replace hB := hB.below hb; replace hX := hX.below hb; replace hY := hY.below hb; replace hW := hW.trans (hb.mono hW.size); clear hb)
    | (go_at_call 10; have _t := te1; refine Calls.mono (slices_Equal _ _ _ [] hX (IsU.nil _)) ?_; rintro e w6 ⟨rfl, hb⟩; clear te1; replace hA := hA.below hb; replace hB := hB.below hb; replace hX := hX.below hb; replace hY := hY.below hb; replace hZ := hZ.below hb; replace hW := hW.trans (hb.mono hW.size); clear hb)
    | (go_at_call 10; have _t := te2; refine Calls.mono (slices_Equal _ _ _ [] hY (IsU.nil _)) ?_; rintro e w7 ⟨rfl, hb⟩; clear te2; replace hA := hA.below hb; replace hB := hB.below hb; replace hX := hX.below hb; replace hY := hY.below hb; replace hZ := hZ.below hb; replace hW := hW.trans (hb.mono hW.size); clear hb)
    | (go_at_call 10; refine Calls.mono (slices_Equal _ _ _ [] hZ (IsU.nil _)) ?_; rintro e w8 ⟨rfl, hb⟩; replace hA := hA.below hb; replace hB := hB.below hb; replace hX := hX.below hb; replace hY := hY.below hb; replace hZ := hZ.below hb; replace hW := hW.trans (hb.mono hW.size); clear hb))
  go_ret
  exact ⟨rfl, hW⟩

set_option maxHeartbeats 8000000 in
theorem convSays_L3_G_e (w : World) (a : Option Addr) (cap : Nat) (xs : List Nat) (a' : Option Addr) (cap' : Nat) (ys : List Nat) (_hA : IsU w (.slice a xs.length cap) xs) (_hB : IsU w (.slice a' ys.length cap') ys) (hl : (xs.length ≤ 1024 ∧ ys.length ≤ 1024 ∧ 0 < xs.length ∧ 0 < ys.length ∧ 1025 < xs.length + ys.length)) (j : Nat) (hj : j ≤ 10) (he : xs.length = 2 ^ j) (hf : ys.length = 2 ^ j) (hc : 64 < xs.length) (hx9 : xs.length ≤ 35184372088832) (hy9 : ys.length ≤ 35184372088832) (hTb : Tab w) :
    Calls Tryd.prog 3 #[.slice a xs.length cap, .slice a' ys.length cap'] w fun e w' => e = .returned (.bool true) ∧ Below w.heap.size w w' := by
  have _u := hTb
  have hW : Below w.heap.size w w := Below.refl _ _
  have hee : xs.length = ys.length := by rw [he, hf]
  have t0 : xs.length ≤ 1024 := by omega
  have t1 : ys.length ≤ 1024 := by omega
  have t2 : 0 < xs.length := by omega
  have t2d : decide ((0 : Int) < (xs.length : Int)) = true := decide_eq_true (by omega)
  have t3 : 0 < ys.length := by omega
  have t3d : decide ((0 : Int) < (ys.length : Int)) = true := decide_eq_true (by omega)
  have t4 : 1025 < xs.length + ys.length := by omega
  have t4d : decide ((1025 : Int) < (xs.length : Int) + (ys.length : Int)) = true := decide_eq_true (by omega)
  have q1 : decide ((1024 : Int) < (xs.length : Int)) = false := decide_eq_false (by omega)
  have q2 : decide ((1024 : Int) < (ys.length : Int)) = false := decide_eq_false (by omega)
  have n1 : ((xs.length : Int) != (ys.length : Int)) = false := by simp; omega
  have cL : ∀ W, Calls Tryd.prog 4 #[.int .i64 (xs.length : Int)] W fun e w' => e = .returned (.int .i64 (j : Int)) ∧ w' = W := by
    intro W; rw [he]; exact ref_Log_ok j hj W
  have hd2 : decide ((j : Int) < 0) = false := decide_eq_false (by omega)
  by_cases g1 : 64 < xs.length
  · have d1 : decide ((64 : Int) < (xs.length : Int)) = true := decide_eq_true (by omega)
    clear hf he hee hl hc
    go_enter Tryd.func3, Tryd.ntmps3
    go_wp2_with (go_at_call 4; refine Calls.mono (cL _) ?_; rintro e w' ⟨rfl, hw⟩; rw [hw]; clear hw)
    go_ret
    exact ⟨rfl, hW⟩
  · exact absurd hc g1

set_option maxHeartbeats 8000000 in
theorem convSays_L3_G (w : World) (a : Option Addr) (cap : Nat) (xs : List Nat) (a' : Option Addr) (cap' : Nat) (ys : List Nat) (hA : IsU w (.slice a xs.length cap) xs) (hB : IsU w (.slice a' ys.length cap') ys) (hl : (xs.length ≤ 1024 ∧ ys.length ≤ 1024 ∧ 0 < xs.length ∧ 0 < ys.length ∧ 1025 < xs.length + ys.length)) (j : Nat) (hj : j ≤ 10) (he : xs.length = 2 ^ j) (hf : ys.length = 2 ^ j) (hc : ¬ (64 < xs.length)) (hx9 : xs.length ≤ 35184372088832) (hy9 : ys.length ≤ 35184372088832) (hTb : Tab w) :
    Calls Tryd.prog 3 #[.slice a xs.length cap, .slice a' ys.length cap'] w fun e w' => e = .returned (.bool true) ∧ Below w.heap.size w w' := by
  have _u := hTb
  have hW : Below w.heap.size w w := Below.refl _ _
  have hee : xs.length = ys.length := by rw [he, hf]
  have t0 : xs.length ≤ 1024 := by omega
  have t1 : ys.length ≤ 1024 := by omega
  have t2 : 0 < xs.length := by omega
  have t2d : decide ((0 : Int) < (xs.length : Int)) = true := decide_eq_true (by omega)
  have t3 : 0 < ys.length := by omega
  have t3d : decide ((0 : Int) < (ys.length : Int)) = true := decide_eq_true (by omega)
  have t4 : 1025 < xs.length + ys.length := by omega
  have t4d : decide ((1025 : Int) < (xs.length : Int) + (ys.length : Int)) = true := decide_eq_true (by omega)
  have q1 : decide ((1024 : Int) < (xs.length : Int)) = false := decide_eq_false (by omega)
  have q2 : decide ((1024 : Int) < (ys.length : Int)) = false := decide_eq_false (by omega)
  have n1 : ((xs.length : Int) != (ys.length : Int)) = false := by simp; omega
  have cL : ∀ W, Calls Tryd.prog 4 #[.int .i64 (xs.length : Int)] W fun e w' => e = .returned (.int .i64 (j : Int)) ∧ w' = W := by
    intro W; rw [he]; exact ref_Log_ok j hj W
  have hd2 : decide ((j : Int) < 0) = false := decide_eq_false (by omega)
  have d1 : xs.length ≤ 64 := by omega
  have cC := fun W h h' (hW' : Below w.heap.size w W) => conv_Cyclic_ok W (.slice a xs.length cap) (.slice a' ys.length cap') xs ys j h h' (hTb.below hW') he hf hj
  have cS := fun W h h' (hW' : Below w.heap.size w W) => conv_Skew_ok W (.slice a xs.length cap) (.slice a' ys.length cap') xs ys j h h' (hTb.below hW') he hf hj
  have rC := fun W h h' => ref_Round W (.slice a xs.length cap) (.slice a' ys.length cap') xs ys false h h' (by omega) (by omega)
  have rS := fun W h h' => ref_Round W (.slice a xs.length cap) (.slice a' ys.length cap') xs ys true h h' (by omega) (by omega)
  have cN := fun W h h' => conv_Linear_large W (.slice a xs.length cap) (.slice a' ys.length cap') xs ys h h' (by omega)
  clear hf he hee hl hc
  generalize mk xs.length (rnd xs ys false) = CL at *
  generalize mk xs.length (rnd xs ys true) = SL2 at *
  have tk1 : True := trivial
  have te1 : True := trivial
  have te2 : True := trivial
  go_enter Tryd.func3, Tryd.ntmps3
  go_wp2_with (first
    | (go_at_call 4; refine Calls.mono (cL _) ?_; rintro e w' ⟨rfl, hw⟩; rw [hw]; clear hw)
    | (go_at_call 5; refine Calls.mono (cC _ hA hB hW) ?_; rintro e w3 ⟨x, rfl, hX, hb⟩; replace hA := hA.below hb; replace hB := hB.below hb; replace hW := hW.trans (hb.mono hW.size); clear hb)
    | (go_at_call 6; refine Calls.mono (cS _ hA hB hW) ?_; rintro e w4 ⟨y, rfl, hY, hb⟩; replace hA := hA.below hb; replace hB := hB.below hb; replace hX := hX.below hb; replace hW := hW.trans (hb.mono hW.size); clear hb)
    | (go_at_call 7; refine Calls.mono (cN _ hA hB) ?_; rintro e w5 ⟨z, rfl, hZ, hb⟩; replace hA := hA.below hb; replace hB := hB.below hb; replace hX := hX.below hb; replace hY := hY.below hb; replace hW := hW.trans (hb.mono hW.size); clear hb)
    | (go_at_call 8; have _t := tk1; refine Calls.mono (rC _ hA hB) ?_; rintro e w6 ⟨p, rfl, hP, hb⟩; clear tk1; replace hA := hA.below hb; replace hB := hB.below hb; replace hX := hX.below hb; replace hY := hY.below hb; replace hZ := hZ.below hb; replace hW := hW.trans (hb.mono hW.size); clear hb)
    | (go_at_call 8; refine Calls.mono (rS _ hA hB) ?_; rintro e w7 ⟨q, rfl, hQ, hb⟩; replace hA := hA.below hb; replace hB := hB.below hb; replace hX := hX.below hb; replace hY := hY.below hb; replace hZ := hZ.below hb; replace hP := hP.below hb; replace hW := hW.trans (hb.mono hW.size); clear hb)
    | (go_at_call 10; have _t := te1; refine Calls.mono (slices_Equal _ _ _ CL hX hP) ?_; rintro e w8 ⟨rfl, hb⟩; clear te1; replace hA := hA.below hb; replace hB := hB.below hb; replace hX := hX.below hb; replace hY := hY.below hb; replace hZ := hZ.below hb; replace hP := hP.below hb; replace hQ := hQ.below hb; replace hW := hW.trans (hb.mono hW.size); clear hb)
    | (go_at_call 10; have _t := te2; refine Calls.mono (slices_Equal _ _ _ SL2 hY hQ) ?_; rintro e w9 ⟨rfl, hb⟩; clear te2; replace hA := hA.below hb; replace hB := hB.below hb; replace hX := hX.below hb; replace hY := hY.below hb; replace hZ := hZ.below hb; replace hP := hP.below hb; replace hQ := hQ.below hb; replace hW := hW.trans (hb.mono hW.size); clear hb)
    | (go_at_call 10; refine Calls.mono (slices_Equal _ _ _ [] hZ (IsU.nil _)) ?_; rintro e w10 ⟨rfl, hb⟩; replace hA := hA.below hb; replace hB := hB.below hb; replace hX := hX.below hb; replace hY := hY.below hb; replace hZ := hZ.below hb; replace hP := hP.below hb; replace hQ := hQ.below hb; replace hW := hW.trans (hb.mono hW.size); clear hb))
  go_ret
  exact ⟨rfl, hW⟩

set_option maxHeartbeats 8000000 in
theorem convSays_N1_F1_e (w : World) (a : Option Addr) (cap : Nat) (xs : List Nat) (a' : Option Addr) (cap' : Nat) (ys : List Nat) (_hA : IsU w (.slice a xs.length cap) xs) (_hB : IsU w (.slice a' ys.length cap') ys) (hl : (xs.length = 0 ∧ ys.length ≤ 1024)) (_hf : xs.length ≠ ys.length) (hc : 64 < xs.length ∨ 64 < ys.length) (_hx9 : xs.length ≤ 35184372088832) (_hy9 : ys.length ≤ 35184372088832) (hTb : Tab w) :
    Calls Tryd.prog 3 #[.slice a xs.length cap, .slice a' ys.length cap'] w fun e w' => e = .returned (.bool true) ∧ Below w.heap.size w w' := by
  have _u := hTb
  have hW : Below w.heap.size w w := Below.refl _ _
  have t0 : decide ((0 : Int) < (xs.length : Int)) = false := decide_eq_false (by omega)
  have t0n : decide (0 < xs.length) = false := decide_eq_false (by omega)
  have t0m : xs.length ≤ 64 := by omega
  have t1 : ys.length ≤ 1024 := by omega
  have q1 : decide ((1024 : Int) < (xs.length : Int)) = false := decide_eq_false (by omega)
  have q2 : decide ((1024 : Int) < (ys.length : Int)) = false := decide_eq_false (by omega)
  have n1 : ((xs.length : Int) != (ys.length : Int)) = true := by rw [bne_iff_ne]; omega
  by_cases g1 : 64 < xs.length
  · have d1 : decide ((64 : Int) < (xs.length : Int)) = true := decide_eq_true (by omega)
    clear _hf hl hc
    go_enter Tryd.func3, Tryd.ntmps3
    go_wp2
    go_ret
    exact ⟨rfl, hW⟩
  · have d1 : decide ((64 : Int) < (xs.length : Int)) = false := decide_eq_false (by omega)
    have d1o : xs.length ≤ 64 := by omega
    have d2 : decide ((64 : Int) < (ys.length : Int)) = true := decide_eq_true (by omega)
    clear _hf hl hc
    go_enter Tryd.func3, Tryd.ntmps3
    go_wp2
    go_ret
    exact ⟨rfl, hW⟩

set_option maxHeartbeats 8000000 in
theorem convSays_N1_F1 (w : World) (a : Option Addr) (cap : Nat) (xs : List Nat) (a' : Option Addr) (cap' : Nat) (ys : List Nat) (hA : IsU w (.slice a xs.length cap) xs) (hB : IsU w (.slice a' ys.length cap') ys) (hl : (xs.length = 0 ∧ ys.length ≤ 1024)) (hf : xs.length ≠ ys.length) (hc : ¬ (64 < xs.length ∨ 64 < ys.length)) (hx9 : xs.length ≤ 35184372088832) (hy9 : ys.length ≤ 35184372088832) (hTb : Tab w) :
    Calls Tryd.prog 3 #[.slice a xs.length cap, .slice a' ys.length cap'] w fun e w' => e = .returned (.bool true) ∧ Below w.heap.size w w' := by
  have _u := hTb
  have hW : Below w.heap.size w w := Below.refl _ _
  have t0 : decide ((0 : Int) < (xs.length : Int)) = false := decide_eq_false (by omega)
  have t0n : decide (0 < xs.length) = false := decide_eq_false (by omega)
  have t0m : xs.length ≤ 64 := by omega
  have t1 : ys.length ≤ 1024 := by omega
  have q1 : decide ((1024 : Int) < (xs.length : Int)) = false := decide_eq_false (by omega)
  have q2 : decide ((1024 : Int) < (ys.length : Int)) = false := decide_eq_false (by omega)
  have n1 : ((xs.length : Int) != (ys.length : Int)) = true := by rw [bne_iff_ne]; omega
  have d1 : xs.length ≤ 64 := by omega
  have d2 : ys.length ≤ 64 := by omega
  have cC := fun W h h' => conv_Cyclic_form W (.slice a xs.length cap) (.slice a' ys.length cap') xs ys h h' (.inl hf)
  have cS := fun W h h' => conv_Skew_form W (.slice a xs.length cap) (.slice a' ys.length cap') xs ys h h' hx9 hy9 (.inl hf)
  have cN := fun W h h' (hW' : Below w.heap.size w W) => conv_Linear_ok W (.slice a xs.length cap) (.slice a' ys.length cap') xs ys h h' (hTb.below hW') (by omega) (by omega) (by omega)
  have rP := fun W h h' => ref_Product W (.slice a xs.length cap) (.slice a' ys.length cap') xs ys h h' (by omega) (by omega)
  clear hf hl hc
  have te1 : True := trivial
  have te2 : True := trivial
  go_enter Tryd.func3, Tryd.ntmps3
  go_wp2_with (first
    | (go_at_call 5; refine Calls.mono (cC _ hA hB) ?_; rintro e w3 ⟨x, rfl, hX, hb⟩; replace hA := hA.below hb; replace hB := hB.below hb; replace hW := hW.trans (hb.mono hW.size); clear hb)
    | (go_at_call 6; refine Calls.mono (cS _ hA hB) ?_; rintro e w4 ⟨y, rfl, hY, hb⟩; replace hA := hA.below hb; replace hB := hB.below hb; replace hX := hX.below hb; replace hW := hW.trans (hb.mono hW.size); clear hb)
    | (go_at_call 7; refine Calls.mono (cN _ hA hB hW) ?_; rintro e w5 ⟨z, rfl, hZ, hb⟩; replace hA := hA.below hb; replace hB := hB.below hb; replace hX := hX.below hb; replace hY := hY.below hb; replace hW := hW.trans (hb.mono hW.size); clear hb)
    | (go_at_call 9; refine Calls.mono (rP _ hA hB) ?_; rintro e w6 ⟨r, rfl, hR, hb⟩; replace hA := hA.below hb; replace hB := hB.below hb; replace hX := hX.below hb; replace hY := hY.below hb; replace hZ := hZ.below hb; replace hW := hW.trans (hb.mono hW.size); clear hb)
    | (go_at_call 10; have _t := te1; refine Calls.mono (slices_Equal _ _ _ [] hX (IsU.nil _)) ?_; rintro e w7 ⟨rfl, hb⟩; clear te1; replace hA := hA.below hb; replace hB := hB.below hb; replace hX := hX.below hb; replace hY := hY.below hb; replace hZ := hZ.below hb; replace hR := hR.below hb; replace hW := hW.trans (hb.mono hW.size); clear hb)
    | (go_at_call 10; have _t := te2; refine Calls.mono (slices_Equal _ _ _ [] hY (IsU.nil _)) ?_; rintro e w8 ⟨rfl, hb⟩; clear te2; replace hA := hA.below hb; replace hB := hB.below hb; replace hX := hX.below hb; replace hY := hY.below hb; replace hZ := hZ.below hb; replace hR := hR.below hb; replace hW := hW.trans (hb.mono hW.size); clear hb)
    | (go_at_call 10; refine Calls.mono (slices_Equal _ _ _ (pM xs ys) hZ hR) ?_; rintro e w9 ⟨rfl, hb⟩; replace hA := hA.below hb; replace hB := hB.below hb; replace hX := hX.below hb; replace hY := hY.below hb; replace hZ := hZ.below hb; replace hR := hR.below hb; replace hW := hW.trans (hb.mono hW.size); clear hb))
  go_ret
  exact ⟨rfl, hW⟩

set_option maxHeartbeats 8000000 in
theorem convSays_N1_F2_e (w : World) (a : Option Addr) (cap : Nat) (xs : List Nat) (a' : Option Addr) (cap' : Nat) (ys : List Nat) (_hA : IsU w (.slice a xs.length cap) xs) (_hB : IsU w (.slice a' ys.length cap') ys) (hl : (xs.length = 0 ∧ ys.length ≤ 1024)) (he : xs.length = ys.length) (hf : ∀ j, j ≤ 10 → xs.length ≠ 2 ^ j) (hc : 64 < xs.length ∨ 64 < ys.length) (_hx9 : xs.length ≤ 35184372088832) (_hy9 : ys.length ≤ 35184372088832) (hTb : Tab w) :
    Calls Tryd.prog 3 #[.slice a xs.length cap, .slice a' ys.length cap'] w fun e w' => e = .returned (.bool true) ∧ Below w.heap.size w w' := by
  have _u := hTb
  have hW : Below w.heap.size w w := Below.refl _ _
  have t0 : decide ((0 : Int) < (xs.length : Int)) = false := decide_eq_false (by omega)
  have t0n : decide (0 < xs.length) = false := decide_eq_false (by omega)
  have t0m : xs.length ≤ 64 := by omega
  have t1 : ys.length ≤ 1024 := by omega
  have q1 : decide ((1024 : Int) < (xs.length : Int)) = false := decide_eq_false (by omega)
  have q2 : decide ((1024 : Int) < (ys.length : Int)) = false := decide_eq_false (by omega)
  have n1 : ((xs.length : Int) != (ys.length : Int)) = false := by simp; omega
  have cL := ref_Log_none xs.length hf
  by_cases g1 : 64 < xs.length
  · have d1 : decide ((64 : Int) < (xs.length : Int)) = true := decide_eq_true (by omega)
    clear hf he hl hc
    go_enter Tryd.func3, Tryd.ntmps3
    go_wp2_with (go_at_call 4; refine Calls.mono (cL _) ?_; rintro e w' ⟨rfl, hw⟩; rw [hw]; clear hw)
    go_ret
    exact ⟨rfl, hW⟩
  · have d1 : decide ((64 : Int) < (xs.length : Int)) = false := decide_eq_false (by omega)
    have d1o : xs.length ≤ 64 := by omega
    have d2 : decide ((64 : Int) < (ys.length : Int)) = true := decide_eq_true (by omega)
    clear hf he hl hc
    go_enter Tryd.func3, Tryd.ntmps3
    go_wp2_with (go_at_call 4; refine Calls.mono (cL _) ?_; rintro e w' ⟨rfl, hw⟩; rw [hw]; clear hw)
    go_ret
    exact ⟨rfl, hW⟩

set_option maxHeartbeats 8000000 in
theorem convSays_N1_F2 (w : World) (a : Option Addr) (cap : Nat) (xs : List Nat) (a' : Option Addr) (cap' : Nat) (ys : List Nat) (hA : IsU w (.slice a xs.length cap) xs) (hB : IsU w (.slice a' ys.length cap') ys) (hl : (xs.length = 0 ∧ ys.length ≤ 1024)) (he : xs.length = ys.length) (hf : ∀ j, j ≤ 10 → xs.length ≠ 2 ^ j) (_hc : ¬ (64 < xs.length ∨ 64 < ys.length)) (hx9 : xs.length ≤ 35184372088832) (hy9 : ys.length ≤ 35184372088832) (hTb : Tab w) :
    Calls Tryd.prog 3 #[.slice a xs.length cap, .slice a' ys.length cap'] w fun e w' => e = .returned (.bool true) ∧ Below w.heap.size w w' := by
  have _u := hTb
  have hW : Below w.heap.size w w := Below.refl _ _
  have t0 : decide ((0 : Int) < (xs.length : Int)) = false := decide_eq_false (by omega)
  have t0n : decide (0 < xs.length) = false := decide_eq_false (by omega)
  have t0m : xs.length ≤ 64 := by omega
  have t1 : ys.length ≤ 1024 := by omega
  have q1 : decide ((1024 : Int) < (xs.length : Int)) = false := decide_eq_false (by omega)
  have q2 : decide ((1024 : Int) < (ys.length : Int)) = false := decide_eq_false (by omega)
  have n1 : ((xs.length : Int) != (ys.length : Int)) = false := by simp; omega
  have cL := ref_Log_none xs.length hf
  have d1 : xs.length ≤ 64 := by omega
  have d2 : ys.length ≤ 64 := by omega
  have cC := fun W h h' => conv_Cyclic_form W (.slice a xs.length cap) (.slice a' ys.length cap') xs ys h h' (.inr hf)
  have cS := fun W h h' => conv_Skew_form W (.slice a xs.length cap) (.slice a' ys.length cap') xs ys h h' hx9 hy9 (.inr hf)
  have cN := fun W h h' (hW' : Below w.heap.size w W) => conv_Linear_ok W (.slice a xs.length cap) (.slice a' ys.length cap') xs ys h h' (hTb.below hW') (by omega) (by omega) (by omega)
  have rP := fun W h h' => ref_Product W (.slice a xs.length cap) (.slice a' ys.length cap') xs ys h h' (by omega) (by omega)
  clear hf he hl _hc
  have te1 : True := trivial
  have te2 : True := trivial
  go_enter Tryd.func3, Tryd.ntmps3
  go_wp2_with (first
    | (go_at_call 4; refine Calls.mono (cL _) ?_; rintro e w' ⟨rfl, hw⟩; rw [hw]; clear hw)
    | (go_at_call 5; refine Calls.mono (cC _ hA hB) ?_; rintro e w3 ⟨x, rfl, hX, hb⟩; replace hA := hA.below hb; replace hB := hB.below hb; replace hW := hW.trans (hb.mono hW.size); clear hb)
    | (go_at_call 6; refine Calls.mono (cS _ hA hB) ?_; rintro e w4 ⟨y, rfl, hY, hb⟩; replace hA := hA.below hb; replace hB := hB.below hb; replace hX := hX.below hb; replace hW := hW.trans (hb.mono hW.size); clear hb)
    | (go_at_call 7; refine Calls.mono (cN _ hA hB hW) ?_; rintro e w5 ⟨z, rfl, hZ, hb⟩; replace hA := hA.below hb; replace hB := hB.below hb; replace hX := hX.below hb; replace hY := hY.below hb; replace hW := hW.trans (hb.mono hW.size); clear hb)
    | (go_at_call 9; refine Calls.mono (rP _ hA hB) ?_; rintro e w6 ⟨r, rfl, hR, hb⟩; replace hA := hA.below hb; replace hB := hB.below hb; replace hX := hX.below hb; replace hY := hY.below hb; replace hZ := hZ.below hb; replace hW := hW.trans (hb.mono hW.size); clear hb)
    | (go_at_call 10; have _t := te1; refine Calls.mono (slices_Equal _ _ _ [] hX (IsU.nil _)) ?_; rintro e w7 ⟨rfl, hb⟩; clear te1; replace hA := hA.below hb; replace hB := hB.below hb; replace hX := hX.below hb; replace hY := hY.below hb; replace hZ := hZ.below hb; replace hR := hR.below hb; replace hW := hW.trans (hb.mono hW.size); clear hb)
    | (go_at_call 10; have _t := te2; refine Calls.mono (slices_Equal _ _ _ [] hY (IsU.nil _)) ?_; rintro e w8 ⟨rfl, hb⟩; clear te2; replace hA := hA.below hb; replace hB := hB.below hb; replace hX := hX.below hb; replace hY := hY.below hb; replace hZ := hZ.below hb; replace hR := hR.below hb; replace hW := hW.trans (hb.mono hW.size); clear hb)
    | (go_at_call 10; refine Calls.mono (slices_Equal _ _ _ (pM xs ys) hZ hR) ?_; rintro e w9 ⟨rfl, hb⟩; replace hA := hA.below hb; replace hB := hB.below hb; replace hX := hX.below hb; replace hY := hY.below hb; replace hZ := hZ.below hb; replace hR := hR.below hb; replace hW := hW.trans (hb.mono hW.size); clear hb))
  go_ret
  exact ⟨rfl, hW⟩

set_option maxHeartbeats 8000000 in
theorem convSays_N2_F1_e (w : World) (a : Option Addr) (cap : Nat) (xs : List Nat) (a' : Option Addr) (cap' : Nat) (ys : List Nat) (_hA : IsU w (.slice a xs.length cap) xs) (_hB : IsU w (.slice a' ys.length cap') ys) (hl : (0 < xs.length ∧ xs.length ≤ 1024 ∧ ys.length = 0)) (_hf : xs.length ≠ ys.length) (hc : 64 < xs.length ∨ 64 < ys.length) (_hx9 : xs.length ≤ 35184372088832) (_hy9 : ys.length ≤ 35184372088832) (hTb : Tab w) :
    Calls Tryd.prog 3 #[.slice a xs.length cap, .slice a' ys.length cap'] w fun e w' => e = .returned (.bool true) ∧ Below w.heap.size w w' := by
  have _u := hTb
  have hW : Below w.heap.size w w := Below.refl _ _
  have t0 : 0 < xs.length := by omega
  have t0d : decide ((0 : Int) < (xs.length : Int)) = true := decide_eq_true (by omega)
  have t1 : xs.length ≤ 1024 := by omega
  have t2 : decide ((0 : Int) < (ys.length : Int)) = false := decide_eq_false (by omega)
  have t2n : decide (0 < ys.length) = false := decide_eq_false (by omega)
  have t2m : ys.length ≤ 64 := by omega
  have q1 : decide ((1024 : Int) < (xs.length : Int)) = false := decide_eq_false (by omega)
  have q2 : decide ((1024 : Int) < (ys.length : Int)) = false := decide_eq_false (by omega)
  have n1 : ((xs.length : Int) != (ys.length : Int)) = true := by rw [bne_iff_ne]; omega
  by_cases g1 : 64 < xs.length
  · have d1 : decide ((64 : Int) < (xs.length : Int)) = true := decide_eq_true (by omega)
    clear _hf hl hc
    go_enter Tryd.func3, Tryd.ntmps3
    go_wp2
    go_ret
    exact ⟨rfl, hW⟩
  · have d1 : decide ((64 : Int) < (xs.length : Int)) = false := decide_eq_false (by omega)
    have d1o : xs.length ≤ 64 := by omega
    have d2 : decide ((64 : Int) < (ys.length : Int)) = true := decide_eq_true (by omega)
    clear _hf hl hc
    go_enter Tryd.func3, Tryd.ntmps3
    go_wp2
    go_ret
    exact ⟨rfl, hW⟩

set_option maxHeartbeats 8000000 in
theorem convSays_N2_F1 (w : World) (a : Option Addr) (cap : Nat) (xs : List Nat) (a' : Option Addr) (cap' : Nat) (ys : List Nat) (hA : IsU w (.slice a xs.length cap) xs) (hB : IsU w (.slice a' ys.length cap') ys) (hl : (0 < xs.length ∧ xs.length ≤ 1024 ∧ ys.length = 0)) (hf : xs.length ≠ ys.length) (hc : ¬ (64 < xs.length ∨ 64 < ys.length)) (hx9 : xs.length ≤ 35184372088832) (hy9 : ys.length ≤ 35184372088832) (hTb : Tab w) :
    Calls Tryd.prog 3 #[.slice a xs.length cap, .slice a' ys.length cap'] w fun e w' => e = .returned (.bool true) ∧ Below w.heap.size w w' := by
  have _u := hTb
  have hW : Below w.heap.size w w := Below.refl _ _
  have t0 : 0 < xs.length := by omega
  have t0d : decide ((0 : Int) < (xs.length : Int)) = true := decide_eq_true (by omega)
  have t1 : xs.length ≤ 1024 := by omega
  have t2 : decide ((0 : Int) < (ys.length : Int)) = false := decide_eq_false (by omega)
  have t2n : decide (0 < ys.length) = false := decide_eq_false (by omega)
  have t2m : ys.length ≤ 64 := by omega
  have q1 : decide ((1024 : Int) < (xs.length : Int)) = false := decide_eq_false (by omega)
  have q2 : decide ((1024 : Int) < (ys.length : Int)) = false := decide_eq_false (by omega)
  have n1 : ((xs.length : Int) != (ys.length : Int)) = true := by rw [bne_iff_ne]; omega
  have d1 : xs.length ≤ 64 := by omega
  have d2 : ys.length ≤ 64 := by omega
  have cC := fun W h h' => conv_Cyclic_form W (.slice a xs.length cap) (.slice a' ys.length cap') xs ys h h' (.inl hf)
  have cS := fun W h h' => conv_Skew_form W (.slice a xs.length cap) (.slice a' ys.length cap') xs ys h h' hx9 hy9 (.inl hf)
  have cN := fun W h h' (hW' : Below w.heap.size w W) => conv_Linear_ok W (.slice a xs.length cap) (.slice a' ys.length cap') xs ys h h' (hTb.below hW') (by omega) (by omega) (by omega)
  have rP := fun W h h' => ref_Product W (.slice a xs.length cap) (.slice a' ys.length cap') xs ys h h' (by omega) (by omega)
  clear hf hl hc
  have te1 : True := trivial
  have te2 : True := trivial
  go_enter Tryd.func3, Tryd.ntmps3
  go_wp2_with (first
    | (go_at_call 5; refine Calls.mono (cC _ hA hB) ?_; rintro e w3 ⟨x, rfl, hX, hb⟩; replace hA := hA.below hb; replace hB := hB.below hb; replace hW := hW.trans (hb.mono hW.size); clear hb)
    | (go_at_call 6; refine Calls.mono (cS _ hA hB) ?_; rintro e w4 ⟨y, rfl, hY, hb⟩; replace hA := hA.below hb; replace hB := hB.below hb; replace hX := hX.below hb; replace hW := hW.trans (hb.mono hW.size); clear hb)
    | (go_at_call 7; refine Calls.mono (cN _ hA hB hW) ?_; rintro e w5 ⟨z, rfl, hZ, hb⟩; replace hA := hA.below hb; replace hB := hB.below hb; replace hX := hX.below hb; replace hY := hY.below hb; replace hW := hW.trans (hb.mono hW.size); clear hb)
    | (go_at_call 9; refine Calls.mono (rP _ hA hB) ?_; rintro e w6 ⟨r, rfl, hR, hb⟩; replace hA := hA.below hb; replace hB := hB.below hb; replace hX := hX.below hb; replace hY := hY.below hb; replace hZ := hZ.below hb; replace hW := hW.trans (hb.mono hW.size); clear hb)
    | (go_at_call 10; have _t := te1; refine Calls.mono (slices_Equal _ _ _ [] hX (IsU.nil _)) ?_; rintro e w7 ⟨rfl, hb⟩; clear te1; replace hA := hA.below hb; replace hB := hB.below hb; replace hX := hX.below hb; replace hY := hY.below hb; replace hZ := hZ.below hb; replace hR := hR.below hb; replace hW := hW.trans (hb.mono hW.size); clear hb)
    | (go_at_call 10; have _t := te2; refine Calls.mono (slices_Equal _ _ _ [] hY (IsU.nil _)) ?_; rintro e w8 ⟨rfl, hb⟩; clear te2; replace hA := hA.below hb; replace hB := hB.below hb; replace hX := hX.below hb; replace hY := hY.below hb; replace hZ := hZ.below hb; replace hR := hR.below hb; replace hW := hW.trans (hb.mono hW.size); clear hb)
    | (go_at_call 10; refine Calls.mono (slices_Equal _ _ _ (pM xs ys) hZ hR) ?_; rintro e w9 ⟨rfl, hb⟩; replace hA := hA.below hb; replace hB := hB.below hb; replace hX := hX.below hb; replace hY := hY.below hb; replace hZ := hZ.below hb; replace hR := hR.below hb; replace hW := hW.trans (hb.mono hW.size); clear hb))
  go_ret
  exact ⟨rfl, hW⟩

set_option maxHeartbeats 8000000 in
theorem convSays_N3_F1_e (w : World) (a : Option Addr) (cap : Nat) (xs : List Nat) (a' : Option Addr) (cap' : Nat) (ys : List Nat) (_hA : IsU w (.slice a xs.length cap) xs) (_hB : IsU w (.slice a' ys.length cap') ys) (hl : (0 < xs.length ∧ xs.length ≤ 1024 ∧ 0 < ys.length ∧ ys.length ≤ 1024 ∧ xs.length + ys.length ≤ 1025)) (hf : xs.length ≠ ys.length) (hc : 64 < xs.length ∨ 64 < ys.length) (hx9 : xs.length ≤ 35184372088832) (hy9 : ys.length ≤ 35184372088832) (hTb : Tab w) :
    Calls Tryd.prog 3 #[.slice a xs.length cap, .slice a' ys.length cap'] w fun e w' => e = .returned (.bool true) ∧ Below w.heap.size w w' := by
  have _u := hTb
  have hW : Below w.heap.size w w := Below.refl _ _
  have t0 : 0 < xs.length := by omega
  have t0d : decide ((0 : Int) < (xs.length : Int)) = true := decide_eq_true (by omega)
  have t1 : xs.length ≤ 1024 := by omega
  have t2 : 0 < ys.length := by omega
  have t2d : decide ((0 : Int) < (ys.length : Int)) = true := decide_eq_true (by omega)
  have t3 : ys.length ≤ 1024 := by omega
  have t4 : xs.length + ys.length ≤ 1025 := by omega
  have q1 : decide ((1024 : Int) < (xs.length : Int)) = false := decide_eq_false (by omega)
  have q2 : decide ((1024 : Int) < (ys.length : Int)) = false := decide_eq_false (by omega)
  have q3 : decide ((1025 : Int) < (xs.length : Int) + (ys.length : Int)) = false := decide_eq_false (by omega)
  have n1 : ((xs.length : Int) != (ys.length : Int)) = true := by rw [bne_iff_ne]; omega
  by_cases g1 : 64 < xs.length
  · have d1 : decide ((64 : Int) < (xs.length : Int)) = true := decide_eq_true (by omega)
    clear hf hl hc
    go_enter Tryd.func3, Tryd.ntmps3
    go_wp2
    go_ret
    exact ⟨rfl, hW⟩
  · have d1 : decide ((64 : Int) < (xs.length : Int)) = false := decide_eq_false (by omega)
    have d1o : xs.length ≤ 64 := by omega
    have d2 : decide ((64 : Int) < (ys.length : Int)) = true := decide_eq_true (by omega)
    clear hf hl hc
    go_enter Tryd.func3, Tryd.ntmps3
    go_wp2
    go_ret
    exact ⟨rfl, hW⟩

set_option maxHeartbeats 8000000 in
theorem convSays_N3_F1 (w : World) (a : Option Addr) (cap : Nat) (xs : List Nat) (a' : Option Addr) (cap' : Nat) (ys : List Nat) (hA : IsU w (.slice a xs.length cap) xs) (hB : IsU w (.slice a' ys.length cap') ys) (hl : (0 < xs.length ∧ xs.length ≤ 1024 ∧ 0 < ys.length ∧ ys.length ≤ 1024 ∧ xs.length + ys.length ≤ 1025)) (hf : xs.length ≠ ys.length) (hc : ¬ (64 < xs.length ∨ 64 < ys.length)) (hx9 : xs.length ≤ 35184372088832) (hy9 : ys.length ≤ 35184372088832) (hTb : Tab w) :
    Calls Tryd.prog 3 #[.slice a xs.length cap, .slice a' ys.length cap'] w fun e w' => e = .returned (.bool true) ∧ Below w.heap.size w w' := by
  have _u := hTb
  have hW : Below w.heap.size w w := Below.refl _ _
  have t0 : 0 < xs.length := by omega
  have t0d : decide ((0 : Int) < (xs.length : Int)) = true := decide_eq_true (by omega)
  have t1 : xs.length ≤ 1024 := by omega
  have t2 : 0 < ys.length := by omega
  have t2d : decide ((0 : Int) < (ys.length : Int)) = true := decide_eq_true (by omega)
  have t3 : ys.length ≤ 1024 := by omega
  have t4 : xs.length + ys.length ≤ 1025 := by omega
  have q1 : decide ((1024 : Int) < (xs.length : Int)) = false := decide_eq_false (by omega)
  have q2 : decide ((1024 : Int) < (ys.length : Int)) = false := decide_eq_false (by omega)
  have q3 : decide ((1025 : Int) < (xs.length : Int) + (ys.length : Int)) = false := decide_eq_false (by omega)
  have n1 : ((xs.length : Int) != (ys.length : Int)) = true := by rw [bne_iff_ne]; omega
  have d1 : xs.length ≤ 64 := by omega
  have d2 : ys.length ≤ 64 := by omega
  have cC := fun W h h' => conv_Cyclic_form W (.slice a xs.length cap) (.slice a' ys.length cap') xs ys h h' (.inl hf)
  have cS := fun W h h' => conv_Skew_form W (.slice a xs.length cap) (.slice a' ys.length cap') xs ys h h' hx9 hy9 (.inl hf)
  have cN := fun W h h' (hW' : Below w.heap.size w W) => conv_Linear_ok W (.slice a xs.length cap) (.slice a' ys.length cap') xs ys h h' (hTb.below hW') (by omega) (by omega) (by omega)
  have rP := fun W h h' => ref_Product W (.slice a xs.length cap) (.slice a' ys.length cap') xs ys h h' (by omega) (by omega)
  clear hf hl hc
  have te1 : True := trivial
  have te2 : True := trivial
  go_enter Tryd.func3, Tryd.ntmps3
  go_wp2_with (first
    | (go_at_call 5; refine Calls.mono (cC _ hA hB) ?_; rintro e w3 ⟨x, rfl, hX, hb⟩; replace hA := hA.below hb; replace hB := hB.below hb; replace hW := hW.trans (hb.mono hW.size); clear hb)
    | (go_at_call 6; refine Calls.mono (cS _ hA hB) ?_; rintro e w4 ⟨y, rfl, hY, hb⟩; replace hA := hA.below hb; replace hB := hB.below hb; replace hX := hX.below hb; replace hW := hW.trans (hb.mono hW.size); clear hb)
    | (go_at_call 7; refine Calls.mono (cN _ hA hB hW) ?_; rintro e w5 ⟨z, rfl, hZ, hb⟩; replace hA := hA.below hb; replace hB := hB.below hb; replace hX := hX.below hb; replace hY := hY.below hb; replace hW := hW.trans (hb.mono hW.size); clear hb)
    | (go_at_call 9; refine Calls.mono (rP _ hA hB) ?_; rintro e w6 ⟨r, rfl, hR, hb⟩; replace hA := hA.below hb; replace hB := hB.below hb; replace hX := hX.below hb; replace hY := hY.below hb; replace hZ := hZ.below hb; replace hW := hW.trans (hb.mono hW.size); clear hb)
    | (go_at_call 10; have _t := te1; refine Calls.mono (slices_Equal _ _ _ [] hX (IsU.nil _)) ?_; rintro e w7 ⟨rfl, hb⟩; clear te1; replace hA := hA.below hb; replace hB := hB.below hb; replace hX := hX.below hb; replace hY := hY.below hb; replace hZ := hZ.below hb; replace hR := hR.below hb; replace hW := hW.trans (hb.mono hW.size); clear hb)
    | (go_at_call 10; have _t := te2; refine Calls.mono (slices_Equal _ _ _ [] hY (IsU.nil _)) ?_; rintro e w8 ⟨rfl, hb⟩; clear te2; replace hA := hA.below hb; replace hB := hB.below hb; replace hX := hX.below hb; replace hY := hY.below hb; replace hZ := hZ.below hb; replace hR := hR.below hb; replace hW := hW.trans (hb.mono hW.size); clear hb)
    | (go_at_call 10; refine Calls.mono (slices_Equal _ _ _ (pM xs ys) hZ hR) ?_; rintro e w9 ⟨rfl, hb⟩; replace hA := hA.below hb; replace hB := hB.below hb; replace hX := hX.below hb; replace hY := hY.below hb; replace hZ := hZ.below hb; replace hR := hR.below hb; replace hW := hW.trans (hb.mono hW.size); clear hb))
  go_ret
  exact ⟨rfl, hW⟩

set_option maxHeartbeats 8000000 in
theorem convSays_N3_F2_e (w : World) (a : Option Addr) (cap : Nat) (xs : List Nat) (a' : Option Addr) (cap' : Nat) (ys : List Nat) (_hA : IsU w (.slice a xs.length cap) xs) (_hB : IsU w (.slice a' ys.length cap') ys) (hl : (0 < xs.length ∧ xs.length ≤ 1024 ∧ 0 < ys.length ∧ ys.length ≤ 1024 ∧ xs.length + ys.length ≤ 1025)) (he : xs.length = ys.length) (hf : ∀ j, j ≤ 10 → xs.length ≠ 2 ^ j) (hc : 64 < xs.length ∨ 64 < ys.length) (hx9 : xs.length ≤ 35184372088832) (hy9 : ys.length ≤ 35184372088832) (hTb : Tab w) :
    Calls Tryd.prog 3 #[.slice a xs.length cap, .slice a' ys.length cap'] w fun e w' => e = .returned (.bool true) ∧ Below w.heap.size w w' := by
  have _u := hTb
  have hW : Below w.heap.size w w := Below.refl _ _
  have t0 : 0 < xs.length := by omega
  have t0d : decide ((0 : Int) < (xs.length : Int)) = true := decide_eq_true (by omega)
  have t1 : xs.length ≤ 1024 := by omega
  have t2 : 0 < ys.length := by omega
  have t2d : decide ((0 : Int) < (ys.length : Int)) = true := decide_eq_true (by omega)
  have t3 : ys.length ≤ 1024 := by omega
  have t4 : xs.length + ys.length ≤ 1025 := by omega
  have q1 : decide ((1024 : Int) < (xs.length : Int)) = false := decide_eq_false (by omega)
  have q2 : decide ((1024 : Int) < (ys.length : Int)) = false := decide_eq_false (by omega)
  have q3 : decide ((1025 : Int) < (xs.length : Int) + (ys.length : Int)) = false := decide_eq_false (by omega)
  have n1 : ((xs.length : Int) != (ys.length : Int)) = false := by simp; omega
  have cL := ref_Log_none xs.length hf
  by_cases g1 : 64 < xs.length
  · have d1 : decide ((64 : Int) < (xs.length : Int)) = true := decide_eq_true (by omega)
    clear hf he hl hc
    go_enter Tryd.func3, Tryd.ntmps3
    go_wp2_with (go_at_call 4; refine Calls.mono (cL _) ?_; rintro e w' ⟨rfl, hw⟩; rw [hw]; clear hw)
    go_ret
    exact ⟨rfl, hW⟩
  · have d1 : decide ((64 : Int) < (xs.length : Int)) = false := decide_eq_false (by omega)
    have d1o : xs.length ≤ 64 := by omega
    have d2 : decide ((64 : Int) < (ys.length : Int)) = true := decide_eq_true (by omega)
    clear hf he hl hc
    go_enter Tryd.func3, Tryd.ntmps3
    go_wp2_with (go_at_call 4; refine Calls.mono (cL _) ?_; rintro e w' ⟨rfl, hw⟩; rw [hw]; clear hw)
    go_ret
    exact ⟨rfl, hW⟩

set_option maxHeartbeats 8000000 in
theorem convSays_N3_F2 (w : World) (a : Option Addr) (cap : Nat) (xs : List Nat) (a' : Option Addr) (cap' : Nat) (ys : List Nat) (hA : IsU w (.slice a xs.length cap) xs) (hB : IsU w (.slice a' ys.length cap') ys) (hl : (0 < xs.length ∧ xs.length ≤ 1024 ∧ 0 < ys.length ∧ ys.length ≤ 1024 ∧ xs.length + ys.length ≤ 1025)) (he : xs.length = ys.length) (hf : ∀ j, j ≤ 10 → xs.length ≠ 2 ^ j) (hc : ¬ (64 < xs.length ∨ 64 < ys.length)) (hx9 : xs.length ≤ 35184372088832) (hy9 : ys.length ≤ 35184372088832) (hTb : Tab w) :
    Calls Tryd.prog 3 #[.slice a xs.length cap, .slice a' ys.length cap'] w fun e w' => e = .returned (.bool true) ∧ Below w.heap.size w w' := by
  have _u := hTb
  have hW : Below w.heap.size w w := Below.refl _ _
  have t0 : 0 < xs.length := by omega
  have t0d : decide ((0 : Int) < (xs.length : Int)) = true := decide_eq_true (by omega)
  have t1 : xs.length ≤ 1024 := by omega
  have t2 : 0 < ys.length := by omega
  have t2d : decide ((0 : Int) < (ys.length : Int)) = true := decide_eq_true (by omega)
  have t3 : ys.length ≤ 1024 := by omega
  have t4 : xs.length + ys.length ≤ 1025 := by omega
  have q1 : decide ((1024 : Int) < (xs.length : Int)) = false := decide_eq_false (by omega)
  have q2 : decide ((1024 : Int) < (ys.length : Int)) = false := decide_eq_false (by omega)
  have q3 : decide ((1025 : Int) < (xs.length : Int) + (ys.length : Int)) = false := decide_eq_false (by omega)
  have n1 : ((xs.length : Int) != (ys.length : Int)) = false := by simp; omega
  have cL := ref_Log_none xs.length hf
  have d1 : xs.length ≤ 64 := by omega
  have d2 : ys.length ≤ 64 := by omega
  have cC := fun W h h' => conv_Cyclic_form W (.slice a xs.length cap) (.slice a' ys.length cap') xs ys h h' (.inr hf)
  have cS := fun W h h' => conv_Skew_form W (.slice a xs.length cap) (.slice a' ys.length cap') xs ys h h' hx9 hy9 (.inr hf)
  have cN := fun W h h' (hW' : Below w.heap.size w W) => conv_Linear_ok W (.slice a xs.length cap) (.slice a' ys.length cap') xs ys h h' (hTb.below hW') (by omega) (by omega) (by omega)
  have rP := fun W h h' => ref_Product W (.slice a xs.length cap) (.slice a' ys.length cap') xs ys h h' (by omega) (by omega)
  clear hf he hl hc
  have te1 : True := trivial
  have te2 : True := trivial
  go_enter Tryd.func3, Tryd.ntmps3
  go_wp2_with (first
    | (go_at_call 4; refine Calls.mono (cL _) ?_; rintro e w' ⟨rfl, hw⟩; rw [hw]; clear hw)
    | (go_at_call 5; refine Calls.mono (cC _ hA hB) ?_; rintro e w3 ⟨x, rfl, hX, hb⟩; replace hA := hA.below hb; replace hB := hB.below hb; replace hW := hW.trans (hb.mono hW.size); clear hb)
    | (go_at_call 6; refine Calls.mono (cS _ hA hB) ?_; rintro e w4 ⟨y, rfl, hY, hb⟩; replace hA := hA.below hb; replace hB := hB.below hb; replace hX := hX.below hb; replace hW := hW.trans (hb.mono hW.size); clear hb)
    | (go_at_call 7; refine Calls.mono (cN _ hA hB hW) ?_; rintro e w5 ⟨z, rfl, hZ, hb⟩; replace hA := hA.below hb; replace hB := hB.below hb; replace hX := hX.below hb; replace hY := hY.below hb; replace hW := hW.trans (hb.mono hW.size); clear hb)
    | (go_at_call 9; refine Calls.mono (rP _ hA hB) ?_; rintro e w6 ⟨r, rfl, hR, hb⟩; replace hA := hA.below hb; replace hB := hB.below hb; replace hX := hX.below hb; replace hY := hY.below hb; replace hZ := hZ.below hb; replace hW := hW.trans (hb.mono hW.size); clear hb)
    | (go_at_call 10; have _t := te1; refine Calls.mono (slices_Equal _ _ _ [] hX (IsU.nil _)) ?_; rintro e w7 ⟨rfl, hb⟩; clear te1; replace hA := hA.below hb; replace hB := hB.below hb; replace hX := hX.below hb; replace hY := hY.below hb; replace hZ := hZ.below hb; replace hR := hR.below hb; replace hW := hW.trans (hb.mono hW.size); clear hb)
    | (go_at_call 10; have _t := te2; refine Calls.mono (slices_Equal _ _ _ [] hY (IsU.nil _)) ?_; rintro e w8 ⟨rfl, hb⟩; clear te2; replace hA := hA.below hb; replace hB := hB.below hb; replace hX := hX.below hb; replace hY := hY.below hb; replace hZ := hZ.below hb; replace hR := hR.below hb; replace hW := hW.trans (hb.mono hW.size); clear hb)
    | (go_at_call 10; refine Calls.mono (slices_Equal _ _ _ (pM xs ys) hZ hR) ?_; rintro e w9 ⟨rfl, hb⟩; replace hA := hA.below hb; replace hB := hB.below hb; replace hX := hX.below hb; replace hY := hY.below hb; replace hZ := hZ.below hb; replace hR := hR.below hb; replace hW := hW.trans (hb.mono hW.size); clear hb))
  go_ret
  exact ⟨rfl, hW⟩

set_option maxHeartbeats 8000000 in
theorem convSays_N3_G_e (w : World) (a : Option Addr) (cap : Nat) (xs : List Nat) (a' : Option Addr) (cap' : Nat) (ys : List Nat) (_hA : IsU w (.slice a xs.length cap) xs) (_hB : IsU w (.slice a' ys.length cap') ys) (hl : (0 < xs.length ∧ xs.length ≤ 1024 ∧ 0 < ys.length ∧ ys.length ≤ 1024 ∧ xs.length + ys.length ≤ 1025)) (j : Nat) (hj : j ≤ 10) (he : xs.length = 2 ^ j) (hf : ys.length = 2 ^ j) (hc : 64 < xs.length ∨ 64 < ys.length) (hx9 : xs.length ≤ 35184372088832) (hy9 : ys.length ≤ 35184372088832) (hTb : Tab w) :
    Calls Tryd.prog 3 #[.slice a xs.length cap, .slice a' ys.length cap'] w fun e w' => e = .returned (.bool true) ∧ Below w.heap.size w w' := by
  have _u := hTb
  have hW : Below w.heap.size w w := Below.refl _ _
  have hee : xs.length = ys.length := by rw [he, hf]
  have t0 : 0 < xs.length := by omega
  have t0d : decide ((0 : Int) < (xs.length : Int)) = true := decide_eq_true (by omega)
  have t1 : xs.length ≤ 1024 := by omega
  have t2 : 0 < ys.length := by omega
  have t2d : decide ((0 : Int) < (ys.length : Int)) = true := decide_eq_true (by omega)
  have t3 : ys.length ≤ 1024 := by omega
  have t4 : xs.length + ys.length ≤ 1025 := by omega
  have q1 : decide ((1024 : Int) < (xs.length : Int)) = false := decide_eq_false (by omega)
  have q2 : decide ((1024 : Int) < (ys.length : Int)) = false := decide_eq_false (by omega)
  have q3 : decide ((1025 : Int) < (xs.length : Int) + (ys.length : Int)) = false := decide_eq_false (by omega)
  have n1 : ((xs.length : Int) != (ys.length : Int)) = false := by simp; omega
  have cL : ∀ W, Calls Tryd.prog 4 #[.int .i64 (xs.length : Int)] W fun e w' => e = .returned (.int .i64 (j : Int)) ∧ w' = W := by
    intro W; rw [he]; exact ref_Log_ok j hj W
  have hd2 : decide ((j : Int) < 0) = false := decide_eq_false (by omega)
  by_cases g1 : 64 < xs.length
  · have d1 : decide ((64 : Int) < (xs.length : Int)) = true := decide_eq_true (by omega)
    clear hf he hee hl hc
    go_enter Tryd.func3, Tryd.ntmps3
    go_wp2_with (go_at_call 4; refine Calls.mono (cL _) ?_; rintro e w' ⟨rfl, hw⟩; rw [hw]; clear hw)
    go_ret
    exact ⟨rfl, hW⟩
  · have d1 : decide ((64 : Int) < (xs.length : Int)) = false := decide_eq_false (by omega)
    have d1o : xs.length ≤ 64 := by omega
    have d2 : decide ((64 : Int) < (ys.length : Int)) = true := decide_eq_true (by omega)
    clear hf he hee hl hc
    go_enter Tryd.func3, Tryd.ntmps3
    go_wp2_with (go_at_call 4; refine Calls.mono (cL _) ?_; rintro e w' ⟨rfl, hw⟩; rw [hw]; clear hw)
    go_ret
    exact ⟨rfl, hW⟩

set_option maxHeartbeats 8000000 in
theorem convSays_N3_G (w : World) (a : Option Addr) (cap : Nat) (xs : List Nat) (a' : Option Addr) (cap' : Nat) (ys : List Nat) (hA : IsU w (.slice a xs.length cap) xs) (hB : IsU w (.slice a' ys.length cap') ys) (hl : (0 < xs.length ∧ xs.length ≤ 1024 ∧ 0 < ys.length ∧ ys.length ≤ 1024 ∧ xs.length + ys.length ≤ 1025)) (j : Nat) (hj : j ≤ 10) (he : xs.length = 2 ^ j) (hf : ys.length = 2 ^ j) (hc : ¬ (64 < xs.length ∨ 64 < ys.length)) (hx9 : xs.length ≤ 35184372088832) (hy9 : ys.length ≤ 35184372088832) (hTb : Tab w) :
    Calls Tryd.prog 3 #[.slice a xs.length cap, .slice a' ys.length cap'] w fun e w' => e = .returned (.bool true) ∧ Below w.heap.size w w' := by
  have _u := hTb
  have hW : Below w.heap.size w w := Below.refl _ _
  have hee : xs.length = ys.length := by rw [he, hf]
  have t0 : 0 < xs.length := by omega
  have t0d : decide ((0 : Int) < (xs.length : Int)) = true := decide_eq_true (by omega)
  have t1 : xs.length ≤ 1024 := by omega
  have t2 : 0 < ys.length := by omega
  have t2d : decide ((0 : Int) < (ys.length : Int)) = true := decide_eq_true (by omega)
  have t3 : ys.length ≤ 1024 := by omega
  have t4 : xs.length + ys.length ≤ 1025 := by omega
  have q1 : decide ((1024 : Int) < (xs.length : Int)) = false := decide_eq_false (by omega)
  have q2 : decide ((1024 : Int) < (ys.length : Int)) = false := decide_eq_false (by omega)
  have q3 : decide ((1025 : Int) < (xs.length : Int) + (ys.length : Int)) = false := decide_eq_false (by omega)
  have n1 : ((xs.length : Int) != (ys.length : Int)) = false := by simp; omega
  have cL : ∀ W, Calls Tryd.prog 4 #[.int .i64 (xs.length : Int)] W fun e w' => e = .returned (.int .i64 (j : Int)) ∧ w' = W := by
    intro W; rw [he]; exact ref_Log_ok j hj W
  have hd2 : decide ((j : Int) < 0) = false := decide_eq_false (by omega)
  have d1 : xs.length ≤ 64 := by omega
  have d2 : ys.length ≤ 64 := by omega
  have cC := fun W h h' (hW' : Below w.heap.size w W) => conv_Cyclic_ok W (.slice a xs.length cap) (.slice a' ys.length cap') xs ys j h h' (hTb.below hW') he hf hj
  have cS := fun W h h' (hW' : Below w.heap.size w W) => conv_Skew_ok W (.slice a xs.length cap) (.slice a' ys.length cap') xs ys j h h' (hTb.below hW') he hf hj
  have rC := fun W h h' => ref_Round W (.slice a xs.length cap) (.slice a' ys.length cap') xs ys false h h' (by omega) (by omega)
  have rS := fun W h h' => ref_Round W (.slice a xs.length cap) (.slice a' ys.length cap') xs ys true h h' (by omega) (by omega)
  have cN := fun W h h' (hW' : Below w.heap.size w W) => conv_Linear_ok W (.slice a xs.length cap) (.slice a' ys.length cap') xs ys h h' (hTb.below hW') (by omega) (by omega) (by omega)
  have rP := fun W h h' => ref_Product W (.slice a xs.length cap) (.slice a' ys.length cap') xs ys h h' (by omega) (by omega)
  clear hf he hee hl hc
  generalize mk xs.length (rnd xs ys false) = CL at *
  generalize mk xs.length (rnd xs ys true) = SL2 at *
  have tk1 : True := trivial
  have te1 : True := trivial
  have te2 : True := trivial
  go_enter Tryd.func3, Tryd.ntmps3
  go_wp2_with (first
    | (go_at_call 4; refine Calls.mono (cL _) ?_; rintro e w' ⟨rfl, hw⟩; rw [hw]; clear hw)
    | (go_at_call 5; refine Calls.mono (cC _ hA hB hW) ?_; rintro e w3 ⟨x, rfl, hX, hb⟩; replace hA := hA.below hb; replace hB := hB.below hb; replace hW := hW.trans (hb.mono hW.size); clear hb)
    | (go_at_call 6; refine Calls.mono (cS _ hA hB hW) ?_; rintro e w4 ⟨y, rfl, hY, hb⟩; replace hA := hA.below hb; replace hB := hB.below hb; replace hX := hX.below hb; replace hW := hW.trans (hb.mono hW.size); clear hb)
    | (go_at_call 7; refine Calls.mono (cN _ hA hB hW) ?_; rintro e w5 ⟨z, rfl, hZ, hb⟩; replace hA := hA.below hb; replace hB := hB.below hb; replace hX := hX.below hb; replace hY := hY.below hb; replace hW := hW.trans (hb.mono hW.size); clear hb)
    | (go_at_call 8; have _t := tk1; refine Calls.mono (rC _ hA hB) ?_; rintro e w6 ⟨p, rfl, hP, hb⟩; clear tk1; replace hA := hA.below hb; replace hB := hB.below hb; replace hX := hX.below hb; replace hY := hY.below hb; replace hZ := hZ.below hb; replace hW := hW.trans (hb.mono hW.size); clear hb)
    | (go_at_call 8; refine Calls.mono (rS _ hA hB) ?_; rintro e w7 ⟨q, rfl, hQ, hb⟩; replace hA := hA.below hb; replace hB := hB.below hb; replace hX := hX.below hb; replace hY := hY.below hb; replace hZ := hZ.below hb; replace hP := hP.below hb; replace hW := hW.trans (hb.mono hW.size); clear hb)
    | (go_at_call 9; refine Calls.mono (rP _ hA hB) ?_; rintro e w8 ⟨r, rfl, hR, hb⟩; replace hA := hA.below hb; replace hB := hB.below hb; replace hX := hX.below hb; replace hY := hY.below hb; replace hZ := hZ.below hb; replace hP := hP.below hb; replace hQ := hQ.below hb; replace hW := hW.trans (hb.mono hW.size); clear hb)
    | (go_at_call 10; have _t := te1; refine Calls.mono (slices_Equal _ _ _ CL hX hP) ?_; rintro e w9 ⟨rfl, hb⟩; clear te1; replace hA := hA.below hb; replace hB := hB.below hb; replace hX := hX.below hb; replace hY := hY.below hb; replace hZ := hZ.below hb; replace hP := hP.below hb; replace hQ := hQ.below hb; replace hR := hR.below hb; replace hW := hW.trans (hb.mono hW.size); clear hb)
    | (go_at_call 10; have _t := te2; refine Calls.mono (slices_Equal _ _ _ SL2 hY hQ) ?_; rintro e w10 ⟨rfl, hb⟩; clear te2; replace hA := hA.below hb; replace hB := hB.below hb; replace hX := hX.below hb; replace hY := hY.below hb; replace hZ := hZ.below hb; replace hP := hP.below hb; replace hQ := hQ.below hb; replace hR := hR.below hb; replace hW := hW.trans (hb.mono hW.size); clear hb)
    | (go_at_call 10; refine Calls.mono (slices_Equal _ _ _ (pM xs ys) hZ hR) ?_; rintro e w11 ⟨rfl, hb⟩; replace hA := hA.below hb; replace hB := hB.below hb; replace hX := hX.below hb; replace hY := hY.below hb; replace hZ := hZ.below hb; replace hP := hP.below hb; replace hQ := hQ.below hb; replace hR := hR.below hb; replace hW := hW.trans (hb.mono hW.size); clear hb))
  go_ret
  exact ⟨rfl, hW⟩

theorem convSays_walk (w : World) (v : Value) (xs : List Nat) (h : IsU w v xs) (v' : Value) (ys : List Nat) (h' : IsU w v' ys) (hTb : Tab w) (hx9 : xs.length ≤ 35184372088832) (hy9 : ys.length ≤ 35184372088832) :
    Calls Tryd.prog 3 #[v, v'] w fun e w' => e = .returned (.bool true) ∧ Below w.heap.size w w' := by
  have hA := h
  have hB := h'
  obtain ⟨a, cap, rfl, -⟩ := h
  obtain ⟨a', cap', rfl, -⟩ := h'
  have hF : xs.length ≠ ys.length ∨ (xs.length = ys.length ∧ ∀ j, j ≤ 10 → xs.length ≠ 2 ^ j) ∨ ∃ j, j ≤ 10 ∧ xs.length = 2 ^ j ∧ ys.length = 2 ^ j := by
    by_cases h1 : xs.length = ys.length
    · by_cases h2 : ∃ j, j ≤ 10 ∧ xs.length = 2 ^ j
      · obtain ⟨j, hj, e⟩ := h2
        exact .inr (.inr ⟨j, hj, e, by rw [← h1, e]⟩)
      · exact .inr (.inl ⟨h1, fun j hj e => h2 ⟨j, hj, e⟩⟩)
    · exact .inl h1
  have hL : 1024 < xs.length ∨ (xs.length ≤ 1024 ∧ 1024 < ys.length) ∨ (xs.length ≤ 1024 ∧ ys.length ≤ 1024 ∧ 0 < xs.length ∧ 0 < ys.length ∧ 1025 < xs.length + ys.length) ∨ (xs.length = 0 ∧ ys.length ≤ 1024) ∨ (0 < xs.length ∧ xs.length ≤ 1024 ∧ ys.length = 0) ∨ (0 < xs.length ∧ xs.length ≤ 1024 ∧ 0 < ys.length ∧ ys.length ≤ 1024 ∧ xs.length + ys.length ≤ 1025) := by omega
  rcases hF with hf | ⟨he, hf⟩ | ⟨j, hj, he, hf⟩
  · rcases hL with hl | hl | hl | hl | hl | hl
    · exact convSays_L1_F1 w a cap xs a' cap' ys hA hB hl hf hx9 hy9 hTb
    · exact convSays_L2_F1 w a cap xs a' cap' ys hA hB hl hf hx9 hy9 hTb
    · exact convSays_L3_F1 w a cap xs a' cap' ys hA hB hl hf hx9 hy9 hTb
    · by_cases hc : 64 < xs.length ∨ 64 < ys.length
      · exact convSays_N1_F1_e w a cap xs a' cap' ys hA hB hl hf hc hx9 hy9 hTb
      · exact convSays_N1_F1 w a cap xs a' cap' ys hA hB hl hf hc hx9 hy9 hTb
    · by_cases hc : 64 < xs.length ∨ 64 < ys.length
      · exact convSays_N2_F1_e w a cap xs a' cap' ys hA hB hl hf hc hx9 hy9 hTb
      · exact convSays_N2_F1 w a cap xs a' cap' ys hA hB hl hf hc hx9 hy9 hTb
    · by_cases hc : 64 < xs.length ∨ 64 < ys.length
      · exact convSays_N3_F1_e w a cap xs a' cap' ys hA hB hl hf hc hx9 hy9 hTb
      · exact convSays_N3_F1 w a cap xs a' cap' ys hA hB hl hf hc hx9 hy9 hTb
  · rcases hL with hl | hl | hl | hl | hl | hl
    · exact convSays_L1_F2 w a cap xs a' cap' ys hA hB hl he hf hx9 hy9 hTb
    · omega
    · exact convSays_L3_F2 w a cap xs a' cap' ys hA hB hl he hf hx9 hy9 hTb
    · by_cases hc : 64 < xs.length ∨ 64 < ys.length
      · exact convSays_N1_F2_e w a cap xs a' cap' ys hA hB hl he hf hc hx9 hy9 hTb
      · exact convSays_N1_F2 w a cap xs a' cap' ys hA hB hl he hf hc hx9 hy9 hTb
    · omega
    · by_cases hc : 64 < xs.length ∨ 64 < ys.length
      · exact convSays_N3_F2_e w a cap xs a' cap' ys hA hB hl he hf hc hx9 hy9 hTb
      · exact convSays_N3_F2 w a cap xs a' cap' ys hA hB hl he hf hc hx9 hy9 hTb
  · have hp := (two_pow_bound j hj).2
    have hq : 0 < 2 ^ j := Nat.pow_pos (by decide)
    rcases hL with hl | hl | hl | hl | hl | hl
    · omega
    · omega
    · by_cases hc : 64 < xs.length
      · exact convSays_L3_G_e w a cap xs a' cap' ys hA hB hl j hj he hf hc hx9 hy9 hTb
      · exact convSays_L3_G w a cap xs a' cap' ys hA hB hl j hj he hf hc hx9 hy9 hTb
    · omega
    · omega
    · by_cases hc : 64 < xs.length ∨ 64 < ys.length
      · exact convSays_N3_G_e w a cap xs a' cap' ys hA hB hl j hj he hf hc hx9 hy9 hTb
      · exact convSays_N3_G w a cap xs a' cap' ys hA hB hl j hj he hf hc hx9 hy9 hTb

end Go.Proofs.YtjhlaacgbgidhabDoor
