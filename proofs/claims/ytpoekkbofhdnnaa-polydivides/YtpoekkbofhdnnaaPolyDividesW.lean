/-
  The walk of the law PolyDivides (EUCLID): whatever two lists are handed in, Div of package poly answers what the document says, and the law returns true.
-/
import Derived.Test.YtpoekkbofhdnnaaPolyC
import Derived.Test.YtpoekkbofhdnnaaRefProduct
import Derived.Test.YtpoekkbofhdnnaaRefSum
import Derived.Test.YtpoekkbofhdnnaaSlEq
namespace Go.Proofs.Ytpoekkbofhdnnaa
open Go.RowKit

set_option maxHeartbeats 4000000 in
theorem polyDivides_longx (w : World) (a : Option Addr) (cap : Nat) (xs : List Nat) (a' : Option Addr) (cap' : Nat) (ys : List Nat) (_hA : IsU w (.slice a xs.length cap) xs) (_hB : IsU w (.slice a' ys.length cap') ys) (h1 : 200 < xs.length) :
    Calls Try.prog 6 #[.slice a xs.length cap, .slice a' ys.length cap'] w fun e w' => e = .returned (.bool true) ∧ Below w.heap.size w w' := by
  have hW : Below w.heap.size w w := Below.refl _ _
  have hdx : decide ((200 : Int) < (xs.length : Int)) = true := decide_eq_true (by omega)
  go_enter Try.func6, Try.ntmps6
  go_wp2
  go_ret
  exact ⟨rfl, hW⟩

set_option maxHeartbeats 4000000 in
theorem polyDivides_longy (w : World) (a : Option Addr) (cap : Nat) (xs : List Nat) (a' : Option Addr) (cap' : Nat) (ys : List Nat) (_hA : IsU w (.slice a xs.length cap) xs) (_hB : IsU w (.slice a' ys.length cap') ys) (h1 : xs.length ≤ 200) (h2 : 200 < ys.length) :
    Calls Try.prog 6 #[.slice a xs.length cap, .slice a' ys.length cap'] w fun e w' => e = .returned (.bool true) ∧ Below w.heap.size w w' := by
  have hW : Below w.heap.size w w := Below.refl _ _
  have hdx : decide ((200 : Int) < (xs.length : Int)) = false := decide_eq_false (by omega)
  have hdy : decide ((200 : Int) < (ys.length : Int)) = true := decide_eq_true (by omega)
  go_enter Try.func6, Try.ntmps6
  go_wp2
  go_ret
  exact ⟨rfl, hW⟩

set_option maxHeartbeats 4000000 in
theorem polyDivides_none (w : World) (a : Option Addr) (cap : Nat) (xs : List Nat) (a' : Option Addr) (cap' : Nat) (ys : List Nat) (hA : IsU w (.slice a xs.length cap) xs) (hB : IsU w (.slice a' ys.length cap') ys) (h1 : xs.length ≤ 200) (h2 : ys.length ≤ 200) (h0 : (pN ys).length = 0) :
    Calls Try.prog 6 #[.slice a xs.length cap, .slice a' ys.length cap'] w fun e w' => e = .returned (.bool true) ∧ Below w.heap.size w w' := by
  have hW : Below w.heap.size w w := Below.refl _ _
  have hdx : decide ((200 : Int) < (xs.length : Int)) = false := decide_eq_false (by omega)
  have hdy : decide ((200 : Int) < (ys.length : Int)) = false := decide_eq_false (by omega)
  have hx2 : xs.length ≤ 2048 := by omega
  have hy2 : ys.length ≤ 2048 := by omega
  have hx6 : xs.length ≤ 65536 := by omega
  have hy6 : ys.length ≤ 65536 := by omega
  have hny : (pN ys).length ≤ 200 := by rw [pN_length]; have := sig_le ys; omega
  have hz : (((pN ys).length : Int) == 0) = true := by rw [beq_iff_eq]; omega
  have tk1 : True := trivial
  have tk2 : True := trivial
  go_enter Try.func6, Try.ntmps6
  go_wp2_with (first
    | (go_at_call 33; have _t := tk1; refine Calls.mono (poly_Div_none _ _ _ xs ys hA hB hx2 hy2 h0) ?_; rintro e w101 ⟨u0, u1, rfl, hQ, hR, hb⟩; clear tk1; replace hA := hA.below hb; replace hB := hB.below hb; replace hW := hW.trans (hb.mono hW.size); clear hb; have hQ0 := hQ; have hR0 := hR; obtain ⟨aq, cq, rfl, -⟩ := hQ0; obtain ⟨ar, cr, rfl, -⟩ := hR0)
    | (go_at_call 24; have _t := tk2; refine Calls.mono (ref_Normal _ _ ys hB hy6) ?_; rintro e w102 ⟨n1, rfl, hN1, hb⟩; clear tk2; replace hA := hA.below hb; replace hB := hB.below hb; replace hQ := hQ.below hb; replace hR := hR.below hb; replace hW := hW.trans (hb.mono hW.size); clear hb; have hN0 := hN1; obtain ⟨an, cn, rfl, -⟩ := hN0))
  go_ret
  exact ⟨rfl, hW⟩

set_option maxHeartbeats 4000000 in
theorem polyDivides_some (w : World) (a : Option Addr) (cap : Nat) (xs : List Nat) (a' : Option Addr) (cap' : Nat) (ys : List Nat) (hA : IsU w (.slice a xs.length cap) xs) (hB : IsU w (.slice a' ys.length cap') ys) (h1 : xs.length ≤ 200) (h2 : ys.length ≤ 200) (h0 : (pN ys).length ≠ 0) :
    Calls Try.prog 6 #[.slice a xs.length cap, .slice a' ys.length cap'] w fun e w' => e = .returned (.bool true) ∧ Below w.heap.size w w' := by
  have hW : Below w.heap.size w w := Below.refl _ _
  have hdx : decide ((200 : Int) < (xs.length : Int)) = false := decide_eq_false (by omega)
  have hdy : decide ((200 : Int) < (ys.length : Int)) = false := decide_eq_false (by omega)
  have hx2 : xs.length ≤ 2048 := by omega
  have hy2 : ys.length ≤ 2048 := by omega
  have hx6 : xs.length ≤ 65536 := by omega
  have hy6 : ys.length ≤ 65536 := by omega
  have hny : (pN ys).length ≤ 200 := by rw [pN_length]; have := sig_le ys; omega
  have hny3 : (pN ys).length ≤ 30000 := by omega
  have hz : (((pN ys).length : Int) == 0) = false := by rw [beq_eq_false_iff_ne]; omega
  have tk1 : True := trivial
  have tk2 : True := trivial
  have tk3 : True := trivial
  have tk4 : True := trivial
  have tk5 : True := trivial
  have tk6 : True := trivial
  have tk7 : True := trivial
  have tk8 : True := trivial
  have tk9 : True := trivial
  have tk10 : True := trivial
  go_enter Try.func6, Try.ntmps6
  go_wp2_with (first
    | (go_at_call 33; have _t := tk1; refine Calls.mono (poly_Div_ok _ _ _ xs ys hA hB hx2 hy2 h0) ?_; rintro e w101 ⟨u0, u1, q, r, rfl, hQ, hR, hD, hql, hb⟩; clear tk1; replace hA := hA.below hb; replace hB := hB.below hb; replace hW := hW.trans (hb.mono hW.size); clear hb; have hQ0 := hQ; have hR0 := hR; obtain ⟨aq, cq, rfl, -⟩ := hQ0; obtain ⟨ar, cr, rfl, -⟩ := hR0; have hdr : decide (r.length < (pN ys).length) = true := decide_eq_true hD.2.2.1; have hq6 : q.length ≤ 65536 := Nat.le_trans hql (by decide); have hq3 : q.length ≤ 30000 := Nat.le_trans hql (by decide); have hr6 : r.length ≤ 65536 := Nat.le_trans (Nat.le_of_lt hD.2.2.1) (Nat.le_trans hny (by decide)); have hr3 : r.length ≤ 30000 := Nat.le_trans (Nat.le_of_lt hD.2.2.1) (Nat.le_trans hny (by decide)); have hpm : (pM q (pN ys)).length ≤ 30000 := Nat.le_trans (pM_length_le q (pN ys)) (by omega))
    | (go_at_call 24; have _t := tk2; refine Calls.mono (ref_Normal _ _ ys hB hy6) ?_; rintro e w102 ⟨n1, rfl, hN1, hb⟩; clear tk2; replace hA := hA.below hb; replace hB := hB.below hb; replace hQ := hQ.below hb; replace hR := hR.below hb; replace hW := hW.trans (hb.mono hW.size); clear hb; have hN0 := hN1; obtain ⟨an, cn, rfl, -⟩ := hN0)
    | (go_at_call 24; have _t := tk3; refine Calls.mono (ref_Normal _ _ q hQ hq6) ?_; rintro e w103 ⟨n2, rfl, hN2, hb⟩; clear tk3; replace hA := hA.below hb; replace hB := hB.below hb; replace hQ := hQ.below hb; replace hR := hR.below hb; replace hN1 := hN1.below hb; replace hW := hW.trans (hb.mono hW.size); clear hb)
    | (go_at_call 32; have _t := tk4; refine Calls.mono (slices_Equal _ _ _ q hQ (hN2.cast hD.1)) ?_; rintro e w104 ⟨rfl, hb⟩; clear tk4; replace hA := hA.below hb; replace hB := hB.below hb; replace hQ := hQ.below hb; replace hR := hR.below hb; replace hN1 := hN1.below hb; replace hN2 := hN2.below hb; replace hW := hW.trans (hb.mono hW.size); clear hb)
    | (go_at_call 24; have _t := tk5; refine Calls.mono (ref_Normal _ _ r hR hr6) ?_; rintro e w105 ⟨n3, rfl, hN3, hb⟩; clear tk5; replace hA := hA.below hb; replace hB := hB.below hb; replace hQ := hQ.below hb; replace hR := hR.below hb; replace hN1 := hN1.below hb; replace hN2 := hN2.below hb; replace hW := hW.trans (hb.mono hW.size); clear hb)
    | (go_at_call 32; have _t := tk6; refine Calls.mono (slices_Equal _ _ _ r hR (hN3.cast hD.2.1)) ?_; rintro e w106 ⟨rfl, hb⟩; clear tk6; replace hA := hA.below hb; replace hB := hB.below hb; replace hQ := hQ.below hb; replace hR := hR.below hb; replace hN1 := hN1.below hb; replace hN2 := hN2.below hb; replace hN3 := hN3.below hb; replace hW := hW.trans (hb.mono hW.size); clear hb)
    | (go_at_call 27; have _t := tk7; refine Calls.mono (ref_Product _ _ _ q (pN ys) hQ hN1 hq3 hny3) ?_; rintro e w107 ⟨p1, rfl, hP1, hb⟩; clear tk7; replace hA := hA.below hb; replace hB := hB.below hb; replace hQ := hQ.below hb; replace hR := hR.below hb; replace hN1 := hN1.below hb; replace hN2 := hN2.below hb; replace hN3 := hN3.below hb; replace hW := hW.trans (hb.mono hW.size); clear hb)
    | (go_at_call 26; have _t := tk8; refine Calls.mono (ref_Sum _ _ _ (pM q (pN ys)) r hP1 hR hpm hr3) ?_; rintro e w108 ⟨s1, rfl, hS1, hb⟩; clear tk8; replace hA := hA.below hb; replace hB := hB.below hb; replace hQ := hQ.below hb; replace hR := hR.below hb; replace hN1 := hN1.below hb; replace hN2 := hN2.below hb; replace hN3 := hN3.below hb; replace hP1 := hP1.below hb; replace hW := hW.trans (hb.mono hW.size); clear hb)
    | (go_at_call 24; have _t := tk9; refine Calls.mono (ref_Normal _ _ xs hA hx6) ?_; rintro e w109 ⟨n4, rfl, hN4, hb⟩; clear tk9; replace hA := hA.below hb; replace hB := hB.below hb; replace hQ := hQ.below hb; replace hR := hR.below hb; replace hN1 := hN1.below hb; replace hN2 := hN2.below hb; replace hN3 := hN3.below hb; replace hP1 := hP1.below hb; replace hS1 := hS1.below hb; replace hW := hW.trans (hb.mono hW.size); clear hb)
    | (go_at_call 32; have _t := tk10; refine Calls.mono (slices_Equal _ _ _ (pN xs) (hS1.cast (Divs_sum hD)) hN4) ?_; rintro e w110 ⟨rfl, hb⟩; clear tk10; replace hA := hA.below hb; replace hB := hB.below hb; replace hQ := hQ.below hb; replace hR := hR.below hb; replace hN1 := hN1.below hb; replace hN2 := hN2.below hb; replace hN3 := hN3.below hb; replace hP1 := hP1.below hb; replace hS1 := hS1.below hb; replace hN4 := hN4.below hb; replace hW := hW.trans (hb.mono hW.size); clear hb))
  go_ret
  exact ⟨rfl, hW⟩

theorem polyDivides_walk (w : World) (v : Value) (xs : List Nat) (h : IsU w v xs) (v' : Value) (ys : List Nat) (h' : IsU w v' ys) :
    Calls Try.prog 6 #[v, v'] w fun e w' => e = .returned (.bool true) ∧ Below w.heap.size w w' := by
  have hA := h
  have hB := h'
  obtain ⟨a, cap, rfl, _⟩ := h
  obtain ⟨a', cap', rfl, _⟩ := h'
  by_cases h1 : xs.length ≤ 200
  · by_cases h2 : ys.length ≤ 200
    · by_cases h0 : (pN ys).length = 0
      · exact polyDivides_none w a cap xs a' cap' ys hA hB h1 h2 h0
      · exact polyDivides_some w a cap xs a' cap' ys hA hB h1 h2 h0
    · exact polyDivides_longy w a cap xs a' cap' ys hA hB h1 (by omega)
  · exact polyDivides_longx w a cap xs a' cap' ys hA hB (by omega)

end Go.Proofs.Ytpoekkbofhdnnaa
