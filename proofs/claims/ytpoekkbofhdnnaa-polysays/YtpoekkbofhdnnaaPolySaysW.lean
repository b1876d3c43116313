/-
  The walk of the law PolySays: whatever two lists and number are handed in, Norm, Add, Mul and Eval of package poly answer what package goldref answers, and the law returns true.
-/
import Derived.Test.YtpoekkbofhdnnaaPolyC
import Derived.Test.YtpoekkbofhdnnaaRefMany
import Derived.Test.YtpoekkbofhdnnaaRefProduct
import Derived.Test.YtpoekkbofhdnnaaRefSum
import Derived.Test.YtpoekkbofhdnnaaRefEval
import Derived.Test.YtpoekkbofhdnnaaSlEq
namespace Go.Proofs.Ytpoekkbofhdnnaa
open Go.RowKit

theorem nat_of_u64 {a : Int} (h : (Lit.int .u64 a).wf = true) : ∃ n : Nat, a = (n : Int) ∧ (n : Int) < 18446744073709551616 := by
  have b := bounds_u64 h
  exact ⟨a.toNat, by omega, by omega⟩

set_option maxHeartbeats 4000000 in
theorem polySays_small (w : World) (a : Option Addr) (cap : Nat) (xs : List Nat) (a' : Option Addr) (cap' : Nat) (ys : List Nat) (x : Nat) (hA : IsU w (.slice a xs.length cap) xs) (hB : IsU w (.slice a' ys.length cap') ys) (hx : (x : Int) < 18446744073709551616) (h1 : xs.length ≤ 200) (h2 : ys.length ≤ 200) :
    Calls Try.prog 5 #[.slice a xs.length cap, .slice a' ys.length cap', .int .u64 (x : Int)] w fun e w' => e = .returned (.bool true) ∧ Below w.heap.size w w' := by
  have hW : Below w.heap.size w w := Below.refl _ _
  have hdx : decide ((200 : Int) < (xs.length : Int)) = false := decide_eq_false (by omega)
  have hdx9 : decide ((xs.length : Int) ≤ 200) = true := decide_eq_true (by omega)
  have hdy : decide ((200 : Int) < (ys.length : Int)) = false := decide_eq_false (by omega)
  have hx2 : xs.length ≤ 2048 := by omega
  have hy2 : ys.length ≤ 2048 := by omega
  have hx6 : xs.length ≤ 65536 := by omega
  have hy6 : ys.length ≤ 65536 := by omega
  have hx3 : xs.length ≤ 30000 := by omega
  have hy3 : ys.length ≤ 30000 := by omega
  have hpx : (pN xs).length ≤ 30000 := by rw [pN_length]; have := sig_le xs; omega
  have hpy : (pN ys).length ≤ 30000 := by rw [pN_length]; have := sig_le ys; omega
  have hp2 : (pM (pN xs) (pN ys)).length ≤ 2048 := by
    have := pM_length_le (pN xs) (pN ys)
    rw [pN_length, pN_length] at this
    have := sig_le xs
    have := sig_le ys
    omega
  have tk1 : True := trivial
  have tk2 : True := trivial
  have tk3 : True := trivial
  have tk4 : True := trivial
  have tk5 : True := trivial
  have tk6 : True := trivial
  have tk7 : True := trivial
  have tk8 : True := trivial
  have tk9 : True := trivial
  have tk10 : True := trivial
  have tk11 : True := trivial
  have tk12 : True := trivial
  have tk13 : True := trivial
  have tk14 : True := trivial
  have tk15 : True := trivial
  have tk16 : True := trivial
  go_enter Try.func5, Try.ntmps5
  go_wp2_with (first
    | (go_at_call 23; have _t := tk1; refine Calls.mono (ref_Many_false _ _ xs hA hx2) ?_; rintro e w' ⟨rfl, hw⟩; rw [hw]; clear hw tk1)
    | (go_at_call 23; have _t := tk2; refine Calls.mono (ref_Many_false _ _ xs hA hx2) ?_; rintro e w' ⟨rfl, hw⟩; rw [hw]; clear hw tk2)
    | (go_at_call 23; have _t := tk3; refine Calls.mono (ref_Many_false _ _ ys hB hy2) ?_; rintro e w' ⟨rfl, hw⟩; rw [hw]; clear hw tk3)
    | (go_at_call 24; have _t := tk4; refine Calls.mono (ref_Normal _ _ xs hA hx6) ?_; rintro e w104 ⟨n1, rfl, hN1, hb⟩; clear tk4; replace hA := hA.below hb; replace hB := hB.below hb; replace hW := hW.trans (hb.mono hW.size); clear hb)
    | (go_at_call 25; have _t := tk5; refine Calls.mono (ref_Eval _ _ xs x hA) ?_; rintro e w' ⟨rfl, hw⟩; rw [hw]; clear hw tk5)
    | (go_at_call 26; have _t := tk6; refine Calls.mono (ref_Sum _ _ _ xs ys hA hB hx3 hy3) ?_; rintro e w106 ⟨s1, rfl, hS1, hb⟩; clear tk6; replace hA := hA.below hb; replace hB := hB.below hb; replace hN1 := hN1.below hb; replace hW := hW.trans (hb.mono hW.size); clear hb)
    | (go_at_call 24; have _t := tk7; refine Calls.mono (ref_Normal _ _ xs hA hx6) ?_; rintro e w107 ⟨n2, rfl, hN2, hb⟩; clear tk7; replace hA := hA.below hb; replace hB := hB.below hb; replace hN1 := hN1.below hb; replace hS1 := hS1.below hb; replace hW := hW.trans (hb.mono hW.size); clear hb)
    | (go_at_call 24; have _t := tk8; refine Calls.mono (ref_Normal _ _ ys hB hy6) ?_; rintro e w108 ⟨n3, rfl, hN3, hb⟩; clear tk8; replace hA := hA.below hb; replace hB := hB.below hb; replace hN1 := hN1.below hb; replace hS1 := hS1.below hb; replace hN2 := hN2.below hb; replace hW := hW.trans (hb.mono hW.size); clear hb)
    | (go_at_call 27; have _t := tk9; refine Calls.mono (ref_Product _ _ _ (pN xs) (pN ys) hN2 hN3 hpx hpy) ?_; rintro e w109 ⟨p1, rfl, hP1, hb⟩; clear tk9; replace hA := hA.below hb; replace hB := hB.below hb; replace hN1 := hN1.below hb; replace hS1 := hS1.below hb; replace hN2 := hN2.below hb; replace hN3 := hN3.below hb; replace hW := hW.trans (hb.mono hW.size); clear hb)
    | (go_at_call 28; have _t := tk10; refine Calls.mono (poly_Norm_ok _ _ xs hA hx2) ?_; rintro e w110 ⟨n4, rfl, hN4, hb⟩; clear tk10; replace hA := hA.below hb; replace hB := hB.below hb; replace hN1 := hN1.below hb; replace hS1 := hS1.below hb; replace hN2 := hN2.below hb; replace hN3 := hN3.below hb; replace hP1 := hP1.below hb; replace hW := hW.trans (hb.mono hW.size); clear hb)
    | (go_at_call 29; have _t := tk11; refine Calls.mono (poly_Add_ok _ _ _ xs ys hA hB hx2 hy2) ?_; rintro e w111 ⟨s2, rfl, hS2, hb⟩; clear tk11; replace hA := hA.below hb; replace hB := hB.below hb; replace hN1 := hN1.below hb; replace hS1 := hS1.below hb; replace hN2 := hN2.below hb; replace hN3 := hN3.below hb; replace hP1 := hP1.below hb; replace hN4 := hN4.below hb; replace hW := hW.trans (hb.mono hW.size); clear hb)
    | (go_at_call 30; have _t := tk12; refine Calls.mono (poly_Mul_ok _ _ _ xs ys hA hB hx2 hy2 hp2) ?_; rintro e w112 ⟨p2, rfl, hP2, hb⟩; clear tk12; replace hA := hA.below hb; replace hB := hB.below hb; replace hN1 := hN1.below hb; replace hS1 := hS1.below hb; replace hN2 := hN2.below hb; replace hN3 := hN3.below hb; replace hP1 := hP1.below hb; replace hN4 := hN4.below hb; replace hS2 := hS2.below hb; replace hW := hW.trans (hb.mono hW.size); clear hb)
    | (go_at_call 31; have _t := tk13; refine Calls.mono (poly_Eval_ok _ _ xs x hA hx2 hx) ?_; rintro e w113 ⟨rfl, hb⟩; clear tk13; replace hA := hA.below hb; replace hB := hB.below hb; replace hN1 := hN1.below hb; replace hS1 := hS1.below hb; replace hN2 := hN2.below hb; replace hN3 := hN3.below hb; replace hP1 := hP1.below hb; replace hN4 := hN4.below hb; replace hS2 := hS2.below hb; replace hP2 := hP2.below hb; replace hW := hW.trans (hb.mono hW.size); clear hb)
    | (go_at_call 32; have _t := tk14; refine Calls.mono (slices_Equal _ _ _ (pN xs) hN4 hN1) ?_; rintro e w114 ⟨rfl, hb⟩; clear tk14; replace hA := hA.below hb; replace hB := hB.below hb; replace hN1 := hN1.below hb; replace hS1 := hS1.below hb; replace hN2 := hN2.below hb; replace hN3 := hN3.below hb; replace hP1 := hP1.below hb; replace hN4 := hN4.below hb; replace hS2 := hS2.below hb; replace hP2 := hP2.below hb; replace hW := hW.trans (hb.mono hW.size); clear hb)
    | (go_at_call 32; have _t := tk15; refine Calls.mono (slices_Equal _ _ _ (pN (pS xs ys)) hS2 hS1) ?_; rintro e w115 ⟨rfl, hb⟩; clear tk15; replace hA := hA.below hb; replace hB := hB.below hb; replace hN1 := hN1.below hb; replace hS1 := hS1.below hb; replace hN2 := hN2.below hb; replace hN3 := hN3.below hb; replace hP1 := hP1.below hb; replace hN4 := hN4.below hb; replace hS2 := hS2.below hb; replace hP2 := hP2.below hb; replace hW := hW.trans (hb.mono hW.size); clear hb)
    | (go_at_call 32; have _t := tk16; refine Calls.mono (slices_Equal _ _ _ (pM (pN xs) (pN ys)) hP2 hP1) ?_; rintro e w116 ⟨rfl, hb⟩; clear tk16; replace hA := hA.below hb; replace hB := hB.below hb; replace hN1 := hN1.below hb; replace hS1 := hS1.below hb; replace hN2 := hN2.below hb; replace hN3 := hN3.below hb; replace hP1 := hP1.below hb; replace hN4 := hN4.below hb; replace hS2 := hS2.below hb; replace hP2 := hP2.below hb; replace hW := hW.trans (hb.mono hW.size); clear hb))
  go_ret
  exact ⟨rfl, hW⟩

set_option maxHeartbeats 4000000 in
theorem polySays_midx (w : World) (a : Option Addr) (cap : Nat) (xs : List Nat) (a' : Option Addr) (cap' : Nat) (ys : List Nat) (x : Nat) (hA : IsU w (.slice a xs.length cap) xs) (hB : IsU w (.slice a' ys.length cap') ys) (_hx : (x : Int) < 18446744073709551616) (h1 : 200 < xs.length) (h1b : xs.length ≤ 2048) (h2b : ys.length ≤ 2048) :
    Calls Try.prog 5 #[.slice a xs.length cap, .slice a' ys.length cap', .int .u64 (x : Int)] w fun e w' => e = .returned (.bool true) ∧ Below w.heap.size w w' := by
  have hW : Below w.heap.size w w := Below.refl _ _
  have hx2 : xs.length ≤ 2048 := by omega
  have hy2 : ys.length ≤ 2048 := by omega
  have hdx : decide ((200 : Int) < (xs.length : Int)) = true := decide_eq_true (by omega)
  have tk1 : True := trivial
  have tk2 : True := trivial
  have tk3 : True := trivial
  go_enter Try.func5, Try.ntmps5
  go_wp2_with (first
    | (go_at_call 23; have _t := tk1; refine Calls.mono (ref_Many_false _ _ xs hA hx2) ?_; rintro e w' ⟨rfl, hw⟩; rw [hw]; clear hw tk1)
    | (go_at_call 23; have _t := tk2; refine Calls.mono (ref_Many_false _ _ xs hA hx2) ?_; rintro e w' ⟨rfl, hw⟩; rw [hw]; clear hw tk2)
    | (go_at_call 23; have _t := tk3; refine Calls.mono (ref_Many_false _ _ ys hB hy2) ?_; rintro e w' ⟨rfl, hw⟩; rw [hw]; clear hw tk3))
  go_ret
  exact ⟨rfl, hW⟩

set_option maxHeartbeats 4000000 in
theorem polySays_midy (w : World) (a : Option Addr) (cap : Nat) (xs : List Nat) (a' : Option Addr) (cap' : Nat) (ys : List Nat) (x : Nat) (hA : IsU w (.slice a xs.length cap) xs) (hB : IsU w (.slice a' ys.length cap') ys) (_hx : (x : Int) < 18446744073709551616) (h1 : xs.length ≤ 200) (h2 : 200 < ys.length) (h2b : ys.length ≤ 2048) :
    Calls Try.prog 5 #[.slice a xs.length cap, .slice a' ys.length cap', .int .u64 (x : Int)] w fun e w' => e = .returned (.bool true) ∧ Below w.heap.size w w' := by
  have hW : Below w.heap.size w w := Below.refl _ _
  have hx2 : xs.length ≤ 2048 := by omega
  have hy2 : ys.length ≤ 2048 := by omega
  have hdx : decide ((200 : Int) < (xs.length : Int)) = false := decide_eq_false (by omega)
  have hdy : decide ((200 : Int) < (ys.length : Int)) = true := decide_eq_true (by omega)
  have tk1 : True := trivial
  have tk2 : True := trivial
  have tk3 : True := trivial
  go_enter Try.func5, Try.ntmps5
  go_wp2_with (first
    | (go_at_call 23; have _t := tk1; refine Calls.mono (ref_Many_false _ _ xs hA hx2) ?_; rintro e w' ⟨rfl, hw⟩; rw [hw]; clear hw tk1)
    | (go_at_call 23; have _t := tk2; refine Calls.mono (ref_Many_false _ _ xs hA hx2) ?_; rintro e w' ⟨rfl, hw⟩; rw [hw]; clear hw tk2)
    | (go_at_call 23; have _t := tk3; refine Calls.mono (ref_Many_false _ _ ys hB hy2) ?_; rintro e w' ⟨rfl, hw⟩; rw [hw]; clear hw tk3))
  go_ret
  exact ⟨rfl, hW⟩

set_option maxHeartbeats 4000000 in
theorem polySays_large (w : World) (a : Option Addr) (cap : Nat) (xs : List Nat) (a' : Option Addr) (cap' : Nat) (ys : List Nat) (x : Nat) (hA : IsU w (.slice a xs.length cap) xs) (hB : IsU w (.slice a' ys.length cap') ys) (_hx : (x : Int) < 18446744073709551616) (h1 : 2048 < xs.length) :
    Calls Try.prog 5 #[.slice a xs.length cap, .slice a' ys.length cap', .int .u64 (x : Int)] w fun e w' => e = .returned (.bool true) ∧ Below w.heap.size w w' := by
  have hW : Below w.heap.size w w := Below.refl _ _
  have tk1 : True := trivial
  have tk2 : True := trivial
  have tk3 : True := trivial
  have tk4 : True := trivial
  have tk5 : True := trivial
  have tk6 : True := trivial
  have tk7 : True := trivial
  have tk8 : True := trivial
  have tk9 : True := trivial
  go_enter Try.func5, Try.ntmps5
  go_wp2_with (first
    | (go_at_call 23; have _t := tk1; refine Calls.mono (ref_Many_true _ _ xs hA h1) ?_; rintro e w' ⟨rfl, hw⟩; rw [hw]; clear hw tk1)
    | (go_at_call 23; have _t := tk2; refine Calls.mono (ref_Many_true _ _ xs hA h1) ?_; rintro e w' ⟨rfl, hw⟩; rw [hw]; clear hw tk2)
    | (go_at_call 28; have _t := tk3; refine Calls.mono (poly_Norm_large _ _ xs hA h1) ?_; rintro e w103 ⟨n4, rfl, hN4, hb⟩; clear tk3; replace hA := hA.below hb; replace hB := hB.below hb; replace hW := hW.trans (hb.mono hW.size); clear hb)
    | (go_at_call 29; have _t := tk4; refine Calls.mono (poly_Add_large _ _ _ xs ys hA hB (Or.inl h1)) ?_; rintro e w104 ⟨s2, rfl, hS2, hb⟩; clear tk4; replace hA := hA.below hb; replace hB := hB.below hb; replace hN4 := hN4.below hb; replace hW := hW.trans (hb.mono hW.size); clear hb)
    | (go_at_call 30; have _t := tk5; refine Calls.mono (poly_Mul_large _ _ _ xs ys hA hB (Or.inl h1)) ?_; rintro e w105 ⟨p2, rfl, hP2, hb⟩; clear tk5; replace hA := hA.below hb; replace hB := hB.below hb; replace hN4 := hN4.below hb; replace hS2 := hS2.below hb; replace hW := hW.trans (hb.mono hW.size); clear hb)
    | (go_at_call 31; have _t := tk6; refine Calls.mono (poly_Eval_large _ _ xs x hA h1) ?_; rintro e w106 ⟨rfl, hb⟩; clear tk6; replace hA := hA.below hb; replace hB := hB.below hb; replace hN4 := hN4.below hb; replace hS2 := hS2.below hb; replace hP2 := hP2.below hb; replace hW := hW.trans (hb.mono hW.size); clear hb)
    | (go_at_call 32; have _t := tk7; refine Calls.mono (slices_Equal _ _ _ [] hN4 (IsU.nil _)) ?_; rintro e w107 ⟨rfl, hb⟩; clear tk7; replace hA := hA.below hb; replace hB := hB.below hb; replace hN4 := hN4.below hb; replace hS2 := hS2.below hb; replace hP2 := hP2.below hb; replace hW := hW.trans (hb.mono hW.size); clear hb)
    | (go_at_call 32; have _t := tk8; refine Calls.mono (slices_Equal _ _ _ [] hS2 (IsU.nil _)) ?_; rintro e w108 ⟨rfl, hb⟩; clear tk8; replace hA := hA.below hb; replace hB := hB.below hb; replace hN4 := hN4.below hb; replace hS2 := hS2.below hb; replace hP2 := hP2.below hb; replace hW := hW.trans (hb.mono hW.size); clear hb)
    | (go_at_call 32; have _t := tk9; refine Calls.mono (slices_Equal _ _ _ [] hP2 (IsU.nil _)) ?_; rintro e w109 ⟨rfl, hb⟩; clear tk9; replace hA := hA.below hb; replace hB := hB.below hb; replace hN4 := hN4.below hb; replace hS2 := hS2.below hb; replace hP2 := hP2.below hb; replace hW := hW.trans (hb.mono hW.size); clear hb))
  go_ret
  exact ⟨rfl, hW⟩

set_option maxHeartbeats 4000000 in
theorem polySays_largey (w : World) (a : Option Addr) (cap : Nat) (xs : List Nat) (a' : Option Addr) (cap' : Nat) (ys : List Nat) (x : Nat) (hA : IsU w (.slice a xs.length cap) xs) (hB : IsU w (.slice a' ys.length cap') ys) (hx : (x : Int) < 18446744073709551616) (h1 : xs.length ≤ 200) (h2 : 2048 < ys.length) :
    Calls Try.prog 5 #[.slice a xs.length cap, .slice a' ys.length cap', .int .u64 (x : Int)] w fun e w' => e = .returned (.bool true) ∧ Below w.heap.size w w' := by
  have hW : Below w.heap.size w w := Below.refl _ _
  have hx2 : xs.length ≤ 2048 := by omega
  have hx6 : xs.length ≤ 65536 := by omega
  have hdx : decide ((200 : Int) < (xs.length : Int)) = false := decide_eq_false (by omega)
  have hdx9 : decide ((xs.length : Int) ≤ 200) = true := decide_eq_true (by omega)
  have tk1 : True := trivial
  have tk2 : True := trivial
  have tk3 : True := trivial
  have tk4 : True := trivial
  have tk5 : True := trivial
  have tk6 : True := trivial
  have tk7 : True := trivial
  have tk8 : True := trivial
  have tk9 : True := trivial
  have tk10 : True := trivial
  have tk11 : True := trivial
  have tk12 : True := trivial
  go_enter Try.func5, Try.ntmps5
  go_wp2_with (first
    | (go_at_call 23; have _t := tk1; refine Calls.mono (ref_Many_false _ _ xs hA hx2) ?_; rintro e w' ⟨rfl, hw⟩; rw [hw]; clear hw tk1)
    | (go_at_call 23; have _t := tk2; refine Calls.mono (ref_Many_false _ _ xs hA hx2) ?_; rintro e w' ⟨rfl, hw⟩; rw [hw]; clear hw tk2)
    | (go_at_call 23; have _t := tk3; refine Calls.mono (ref_Many_true _ _ ys hB h2) ?_; rintro e w' ⟨rfl, hw⟩; rw [hw]; clear hw tk3)
    | (go_at_call 24; have _t := tk4; refine Calls.mono (ref_Normal _ _ xs hA hx6) ?_; rintro e w104 ⟨n1, rfl, hN1, hb⟩; clear tk4; replace hA := hA.below hb; replace hB := hB.below hb; replace hW := hW.trans (hb.mono hW.size); clear hb)
    | (go_at_call 25; have _t := tk5; refine Calls.mono (ref_Eval _ _ xs x hA) ?_; rintro e w' ⟨rfl, hw⟩; rw [hw]; clear hw tk5)
    | (go_at_call 28; have _t := tk6; refine Calls.mono (poly_Norm_ok _ _ xs hA hx2) ?_; rintro e w106 ⟨n4, rfl, hN4, hb⟩; clear tk6; replace hA := hA.below hb; replace hB := hB.below hb; replace hN1 := hN1.below hb; replace hW := hW.trans (hb.mono hW.size); clear hb)
    | (go_at_call 29; have _t := tk7; refine Calls.mono (poly_Add_large _ _ _ xs ys hA hB (Or.inr h2)) ?_; rintro e w107 ⟨s2, rfl, hS2, hb⟩; clear tk7; replace hA := hA.below hb; replace hB := hB.below hb; replace hN1 := hN1.below hb; replace hN4 := hN4.below hb; replace hW := hW.trans (hb.mono hW.size); clear hb)
    | (go_at_call 30; have _t := tk8; refine Calls.mono (poly_Mul_large _ _ _ xs ys hA hB (Or.inr h2)) ?_; rintro e w108 ⟨p2, rfl, hP2, hb⟩; clear tk8; replace hA := hA.below hb; replace hB := hB.below hb; replace hN1 := hN1.below hb; replace hN4 := hN4.below hb; replace hS2 := hS2.below hb; replace hW := hW.trans (hb.mono hW.size); clear hb)
    | (go_at_call 31; have _t := tk9; refine Calls.mono (poly_Eval_ok _ _ xs x hA hx2 hx) ?_; rintro e w109 ⟨rfl, hb⟩; clear tk9; replace hA := hA.below hb; replace hB := hB.below hb; replace hN1 := hN1.below hb; replace hN4 := hN4.below hb; replace hS2 := hS2.below hb; replace hP2 := hP2.below hb; replace hW := hW.trans (hb.mono hW.size); clear hb)
    | (go_at_call 32; have _t := tk10; refine Calls.mono (slices_Equal _ _ _ (pN xs) hN4 hN1) ?_; rintro e w110 ⟨rfl, hb⟩; clear tk10; replace hA := hA.below hb; replace hB := hB.below hb; replace hN1 := hN1.below hb; replace hN4 := hN4.below hb; replace hS2 := hS2.below hb; replace hP2 := hP2.below hb; replace hW := hW.trans (hb.mono hW.size); clear hb)
    | (go_at_call 32; have _t := tk11; refine Calls.mono (slices_Equal _ _ _ [] hS2 (IsU.nil _)) ?_; rintro e w111 ⟨rfl, hb⟩; clear tk11; replace hA := hA.below hb; replace hB := hB.below hb; replace hN1 := hN1.below hb; replace hN4 := hN4.below hb; replace hS2 := hS2.below hb; replace hP2 := hP2.below hb; replace hW := hW.trans (hb.mono hW.size); clear hb)
    | (go_at_call 32; have _t := tk12; refine Calls.mono (slices_Equal _ _ _ [] hP2 (IsU.nil _)) ?_; rintro e w112 ⟨rfl, hb⟩; clear tk12; replace hA := hA.below hb; replace hB := hB.below hb; replace hN1 := hN1.below hb; replace hN4 := hN4.below hb; replace hS2 := hS2.below hb; replace hP2 := hP2.below hb; replace hW := hW.trans (hb.mono hW.size); clear hb))
  go_ret
  exact ⟨rfl, hW⟩

set_option maxHeartbeats 4000000 in
theorem polySays_largeyb (w : World) (a : Option Addr) (cap : Nat) (xs : List Nat) (a' : Option Addr) (cap' : Nat) (ys : List Nat) (x : Nat) (hA : IsU w (.slice a xs.length cap) xs) (hB : IsU w (.slice a' ys.length cap') ys) (hx : (x : Int) < 18446744073709551616) (h1 : 200 < xs.length) (h1b : xs.length ≤ 2048) (h2 : 2048 < ys.length) :
    Calls Try.prog 5 #[.slice a xs.length cap, .slice a' ys.length cap', .int .u64 (x : Int)] w fun e w' => e = .returned (.bool true) ∧ Below w.heap.size w w' := by
  have hW : Below w.heap.size w w := Below.refl _ _
  have hx2 : xs.length ≤ 2048 := by omega
  have hdx : decide ((200 : Int) < (xs.length : Int)) = true := decide_eq_true (by omega)
  have hdx1 : decide ((xs.length : Int) ≤ 200) = false := decide_eq_false (by omega)
  have tk1 : True := trivial
  have tk2 : True := trivial
  have tk3 : True := trivial
  have tk4 : True := trivial
  have tk5 : True := trivial
  have tk6 : True := trivial
  have tk7 : True := trivial
  have tk8 : True := trivial
  have tk9 : True := trivial
  have tk10 : True := trivial
  go_enter Try.func5, Try.ntmps5
  go_wp2_with (first
    | (go_at_call 23; have _t := tk1; refine Calls.mono (ref_Many_false _ _ xs hA hx2) ?_; rintro e w' ⟨rfl, hw⟩; rw [hw]; clear hw tk1)
    | (go_at_call 23; have _t := tk2; refine Calls.mono (ref_Many_false _ _ xs hA hx2) ?_; rintro e w' ⟨rfl, hw⟩; rw [hw]; clear hw tk2)
    | (go_at_call 23; have _t := tk3; refine Calls.mono (ref_Many_true _ _ ys hB h2) ?_; rintro e w' ⟨rfl, hw⟩; rw [hw]; clear hw tk3)
    | (go_at_call 28; have _t := tk4; refine Calls.mono (poly_Norm_ok _ _ xs hA hx2) ?_; rintro e w104 ⟨n4, rfl, hN4, hb⟩; clear tk4; replace hA := hA.below hb; replace hB := hB.below hb; replace hW := hW.trans (hb.mono hW.size); clear hb)
    | (go_at_call 29; have _t := tk5; refine Calls.mono (poly_Add_large _ _ _ xs ys hA hB (Or.inr h2)) ?_; rintro e w105 ⟨s2, rfl, hS2, hb⟩; clear tk5; replace hA := hA.below hb; replace hB := hB.below hb; replace hN4 := hN4.below hb; replace hW := hW.trans (hb.mono hW.size); clear hb)
    | (go_at_call 30; have _t := tk6; refine Calls.mono (poly_Mul_large _ _ _ xs ys hA hB (Or.inr h2)) ?_; rintro e w106 ⟨p2, rfl, hP2, hb⟩; clear tk6; replace hA := hA.below hb; replace hB := hB.below hb; replace hN4 := hN4.below hb; replace hS2 := hS2.below hb; replace hW := hW.trans (hb.mono hW.size); clear hb)
    | (go_at_call 31; have _t := tk7; refine Calls.mono (poly_Eval_ok _ _ xs x hA hx2 hx) ?_; rintro e w107 ⟨rfl, hb⟩; clear tk7; replace hA := hA.below hb; replace hB := hB.below hb; replace hN4 := hN4.below hb; replace hS2 := hS2.below hb; replace hP2 := hP2.below hb; replace hW := hW.trans (hb.mono hW.size); clear hb)
    | (go_at_call 32; have _t := tk8; refine Calls.mono (slices_Equal _ _ _ [] (IsU.nil _) (IsU.nil _)) ?_; rintro e w108 ⟨rfl, hb⟩; clear tk8; replace hA := hA.below hb; replace hB := hB.below hb; replace hN4 := hN4.below hb; replace hS2 := hS2.below hb; replace hP2 := hP2.below hb; replace hW := hW.trans (hb.mono hW.size); clear hb)
    | (go_at_call 32; have _t := tk9; refine Calls.mono (slices_Equal _ _ _ [] hS2 (IsU.nil _)) ?_; rintro e w109 ⟨rfl, hb⟩; clear tk9; replace hA := hA.below hb; replace hB := hB.below hb; replace hN4 := hN4.below hb; replace hS2 := hS2.below hb; replace hP2 := hP2.below hb; replace hW := hW.trans (hb.mono hW.size); clear hb)
    | (go_at_call 32; have _t := tk10; refine Calls.mono (slices_Equal _ _ _ [] hP2 (IsU.nil _)) ?_; rintro e w110 ⟨rfl, hb⟩; clear tk10; replace hA := hA.below hb; replace hB := hB.below hb; replace hN4 := hN4.below hb; replace hS2 := hS2.below hb; replace hP2 := hP2.below hb; replace hW := hW.trans (hb.mono hW.size); clear hb))
  go_ret
  exact ⟨rfl, hW⟩

theorem polySays_walk (w : World) (v : Value) (xs : List Nat) (h : IsU w v xs) (v' : Value) (ys : List Nat) (h' : IsU w v' ys) (a2 : Int) (w2 : (Lit.int .u64 a2).wf = true) :
    Calls Try.prog 5 #[v, v', .int .u64 a2] w fun e w' => e = .returned (.bool true) ∧ Below w.heap.size w w' := by
  obtain ⟨x, rfl, hx⟩ := nat_of_u64 w2
  have hA := h
  have hB := h'
  obtain ⟨a, cap, rfl, _⟩ := h
  obtain ⟨a', cap', rfl, _⟩ := h'
  by_cases h1 : 2048 < xs.length
  · exact polySays_large w a cap xs a' cap' ys x hA hB hx h1
  by_cases h2 : 2048 < ys.length
  · by_cases h3 : xs.length ≤ 200
    · exact polySays_largey w a cap xs a' cap' ys x hA hB hx h3 h2
    · exact polySays_largeyb w a cap xs a' cap' ys x hA hB hx (by omega) (by omega) h2
  by_cases h3 : xs.length ≤ 200
  · by_cases h4 : ys.length ≤ 200
    · exact polySays_small w a cap xs a' cap' ys x hA hB hx h3 h4
    · exact polySays_midy w a cap xs a' cap' ys x hA hB hx h3 (by omega) (by omega)
  · exact polySays_midx w a cap xs a' cap' ys x hA hB hx (by omega) (by omega) (by omega)

end Go.Proofs.Ytpoekkbofhdnnaa
