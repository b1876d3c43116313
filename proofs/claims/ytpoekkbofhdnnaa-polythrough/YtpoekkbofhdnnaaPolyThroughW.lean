/-
  The walk of the law PolyThrough (LAGRANGE): whatever two lists are handed in, Through of package poly answers what package goldref answers, and the law returns true.
-/
import Derived.Test.YtpoekkbofhdnnaaPolyC
import Derived.Test.YtpoekkbofhdnnaaRefThrough
import Derived.Test.YtpoekkbofhdnnaaSlEq
namespace Go.Proofs.Ytpoekkbofhdnnaa
open Go.RowKit

set_option maxHeartbeats 4000000 in
theorem polyThrough_longx (w : World) (a : Option Addr) (cap : Nat) (xs : List Nat) (a' : Option Addr) (cap' : Nat) (ys : List Nat) (_hA : IsU w (.slice a xs.length cap) xs) (_hB : IsU w (.slice a' ys.length cap') ys) (h1 : 40 < xs.length) :
    Calls Try.prog 7 #[.slice a xs.length cap, .slice a' ys.length cap'] w fun e w' => e = .returned (.bool true) ∧ Below w.heap.size w w' := by
  have hW : Below w.heap.size w w := Below.refl _ _
  have hdx : decide ((40 : Int) < (xs.length : Int)) = true := decide_eq_true (by omega)
  go_enter Try.func7, Try.ntmps7
  go_wp2
  go_ret
  exact ⟨rfl, hW⟩

set_option maxHeartbeats 4000000 in
theorem polyThrough_longy (w : World) (a : Option Addr) (cap : Nat) (xs : List Nat) (a' : Option Addr) (cap' : Nat) (ys : List Nat) (_hA : IsU w (.slice a xs.length cap) xs) (_hB : IsU w (.slice a' ys.length cap') ys) (h1 : xs.length ≤ 40) (h2 : 40 < ys.length) :
    Calls Try.prog 7 #[.slice a xs.length cap, .slice a' ys.length cap'] w fun e w' => e = .returned (.bool true) ∧ Below w.heap.size w w' := by
  have hW : Below w.heap.size w w := Below.refl _ _
  have hdx : decide ((40 : Int) < (xs.length : Int)) = false := decide_eq_false (by omega)
  have hdy : decide ((40 : Int) < (ys.length : Int)) = true := decide_eq_true (by omega)
  go_enter Try.func7, Try.ntmps7
  go_wp2
  go_ret
  exact ⟨rfl, hW⟩

set_option maxHeartbeats 4000000 in
theorem polyThrough_form (w : World) (a : Option Addr) (cap : Nat) (xs : List Nat) (a' : Option Addr) (cap' : Nat) (ys : List Nat) (hA : IsU w (.slice a xs.length cap) xs) (hB : IsU w (.slice a' ys.length cap') ys) (h1 : xs.length ≤ 40) (h2 : ys.length ≤ 40) (hP : ¬ Pts xs ys) :
    Calls Try.prog 7 #[.slice a xs.length cap, .slice a' ys.length cap'] w fun e w' => e = .returned (.bool true) ∧ Below w.heap.size w w' := by
  have hW : Below w.heap.size w w := Below.refl _ _
  have hdx : decide ((40 : Int) < (xs.length : Int)) = false := decide_eq_false (by omega)
  have hdy : decide ((40 : Int) < (ys.length : Int)) = false := decide_eq_false (by omega)
  have tk1 : True := trivial
  have tk2 : True := trivial
  go_enter Try.func7, Try.ntmps7
  go_wp2_with (first
    | (go_at_call 34; have _t := tk1; refine Calls.mono (poly_Through_form _ _ _ xs ys hA hB (Nat.le_trans h1 (by decide)) (Nat.le_trans h2 (by decide)) hP) ?_; rintro e w101 ⟨u0, rfl, hQ, hb⟩; clear tk1; replace hA := hA.below hb; replace hB := hB.below hb; replace hW := hW.trans (hb.mono hW.size); clear hb; have hQ0 := hQ; obtain ⟨aq, cq, rfl, -⟩ := hQ0)
    | (go_at_call 35; have _t := tk2; refine Calls.mono (ref_Points _ _ _ xs ys hA hB) ?_; rintro e w102 ⟨bb, rfl, hbb, hb⟩; clear tk2; replace hA := hA.below hb; replace hB := hB.below hb; replace hQ := hQ.below hb; replace hW := hW.trans (hb.mono hW.size); clear hb; obtain rfl : bb = false := by cases bb; rfl; exact absurd (hbb.mp rfl) hP))
  go_ret
  exact ⟨rfl, hW⟩

set_option maxHeartbeats 4000000 in
theorem polyThrough_ok (w : World) (a : Option Addr) (cap : Nat) (xs : List Nat) (a' : Option Addr) (cap' : Nat) (ys : List Nat) (hA : IsU w (.slice a xs.length cap) xs) (hB : IsU w (.slice a' ys.length cap') ys) (h1 : xs.length ≤ 40) (h2 : ys.length ≤ 40) (hP : Pts xs ys) :
    Calls Try.prog 7 #[.slice a xs.length cap, .slice a' ys.length cap'] w fun e w' => e = .returned (.bool true) ∧ Below w.heap.size w w' := by
  have hW : Below w.heap.size w w := Below.refl _ _
  have hdx : decide ((40 : Int) < (xs.length : Int)) = false := decide_eq_false (by omega)
  have hdy : decide ((40 : Int) < (ys.length : Int)) = false := decide_eq_false (by omega)
  have hdif : ∀ i j, i < j → j < xs.length → cf xs i ≠ cf xs j := fun i j hij hj => Dif_cf hP.2.2 i j (by omega) hj (by omega)
  have tk1 : True := trivial
  have tk2 : True := trivial
  have tk3 : True := trivial
  have tk4 : True := trivial
  go_enter Try.func7, Try.ntmps7
  go_wp2_with (first
    | (go_at_call 34; have _t := tk1; refine Calls.mono (poly_Through_ok _ _ _ xs ys hA hB hP) ?_; rintro e w101 ⟨u0, l, rfl, hQ, hG, hb⟩; clear tk1; replace hA := hA.below hb; replace hB := hB.below hb; replace hW := hW.trans (hb.mono hW.size); clear hb)
    | (go_at_call 35; have _t := tk2; refine Calls.mono (ref_Points _ _ _ xs ys hA hB) ?_; rintro e w102 ⟨bb, rfl, hbb, hb⟩; clear tk2; replace hA := hA.below hb; replace hB := hB.below hb; replace hQ := hQ.below hb; replace hW := hW.trans (hb.mono hW.size); clear hb; obtain rfl : bb = true := hbb.mpr hP)
    | (go_at_call 36; have _t := tk3; refine Calls.mono (ref_Through _ _ _ xs ys hA hB hP) ?_; rintro e w103 ⟨u1, l1, rfl, hQ1, hG1, hb⟩; clear tk3; replace hA := hA.below hb; replace hB := hB.below hb; replace hQ := hQ.below hb; replace hW := hW.trans (hb.mono hW.size); clear hb)
    | (go_at_call 32; have _t := tk4; refine Calls.mono (slices_Equal _ _ _ l hQ (hQ1.cast (Goes_unique hdif hG1 hG))) ?_; rintro e w104 ⟨rfl, hb⟩; clear tk4; replace hA := hA.below hb; replace hB := hB.below hb; replace hQ := hQ.below hb; replace hQ1 := hQ1.below hb; replace hW := hW.trans (hb.mono hW.size); clear hb))
  go_ret
  exact ⟨rfl, hW⟩

theorem polyThrough_walk (w : World) (v : Value) (xs : List Nat) (h : IsU w v xs) (v' : Value) (ys : List Nat) (h' : IsU w v' ys) :
    Calls Try.prog 7 #[v, v'] w fun e w' => e = .returned (.bool true) ∧ Below w.heap.size w w' := by
  have hA := h
  have hB := h'
  obtain ⟨a, cap, rfl, _⟩ := h
  obtain ⟨a', cap', rfl, _⟩ := h'
  by_cases h1 : xs.length ≤ 40
  · by_cases h2 : ys.length ≤ 40
    · by_cases hP : Pts xs ys
      · exact polyThrough_ok w a cap xs a' cap' ys hA hB h1 h2 hP
      · exact polyThrough_form w a cap xs a' cap' ys hA hB h1 h2 hP
    · exact polyThrough_longy w a cap xs a' cap' ys hA hB h1 (by omega)
  · exact polyThrough_longx w a cap xs a' cap' ys hA hB (by omega)

end Go.Proofs.Ytpoekkbofhdnnaa
