/-
  The walk of the law PolyRest (BEZOUT): whatever two lists and number are handed in, divided by the power 1 less a number the rest is the value there, what is divided is the product and the rest, and the law returns true.
-/
import Derived.Test.YtpoekkbofhdnnadPolyC
import Derived.Test.YtpoekkbofhdnnadPolyD
import Derived.Test.YtpoekkbofhdnnadKeepShort
import Derived.Test.YtpoekkbofhdnnadSlEq
import Derived.Test.YtpoekkbofhdnnadField
namespace Go.Proofs.Ytpoekkbofhdnnad
open Go.RowKit

theorem nat_of_u64 {a : Int} (h : (Lit.int .u64 a).wf = true) : ∃ n : Nat, a = (n : Int) ∧ (n : Int) < 18446744073709551616 := by
  have b := bounds_u64 h
  exact ⟨a.toNat, by omega, by omega⟩
theorem k_short60 (w : World) (v : Value) (xs : List Nat) (h : IsU w v xs) : Calls Try.prog 19 #[v, .int .i64 60] w fun e w' => (∃ u, e = .returned u ∧ IsU w u (xs.take 60)) ∧ w' = w := keep_short w v xs 60 h (by decide)
theorem k_fsub0 (x : Nat) (hx : (x : Int) < 18446744073709551616) (w : World) : Calls Try.prog 11 #[.int .u64 0, .int .u64 (x : Int)] w fun e w' => e = .returned (.int .u64 ((fS 0 x : Nat) : Int)) ∧ w' = w := field_Sub 0 x (by decide) hx w
theorem fS_lt64 (a b : Nat) : (fS a b : Int) < 18446744073709551616 := by have := fS_lt a b; omega
theorem isU_one {w : World} {v : Value} {c : Nat} (h : IsU w v [c]) : ∃ b off cap, v = .slice (some ⟨b, off, none⟩) 1 cap ∧ w.cell? ⟨b, off, none⟩ = some (.int .u64 (c : Int)) := by
  obtain ⟨a, cap, rfl, _, _, hc, _⟩ := h
  obtain ⟨b, off, rfl, hcell⟩ := hc 0 (by simp)
  exact ⟨b, off, cap, rfl, by simpa using hcell⟩

set_option maxHeartbeats 4000000 in
theorem polyRest_zn (w : World) (v v' : Value) (xs ys : List Nat) (x : Nat) (h0 : IsU w v xs) (h1 : IsU w v' ys) (hx : (x : Int) < 18446744073709551616) (hpe : pE (xs.take 60) x = 0) (hnb : (pN (ys.take 60)).length = 0) :
    Calls Try.prog 7 #[v, v', .int .u64 (x : Int)] w fun e w' => e = .returned (.bool true) ∧ Below w.heap.size w w' := by
  have hW : Below w.heap.size w w := Below.refl _ _
  have hA := h0
  have hB := h1
  have hL1 : IsU ((w.alloc (.cells #[.int .u64 18446744069414584320, .int .u64 0, .int .u64 1] 22)).alloc (.cells #[.int .u64 1, .int .u64 1] 22)) (.slice (some ⟨w.heap.size, 0, none⟩) 3 3) [18446744069414584320, 0, 1] := (IsU.lit3 w 22 18446744069414584320 0 1 (by decide) (by decide) (by decide)).below (below_alloc1 _ _)
  have hL2 : IsU ((w.alloc (.cells #[.int .u64 18446744069414584320, .int .u64 0, .int .u64 1] 22)).alloc (.cells #[.int .u64 1, .int .u64 1] 22)) (.slice (some ⟨w.heap.size + 1, 0, none⟩) 2 2) [1, 1] := (IsU.lit2 (w.alloc (.cells #[.int .u64 18446744069414584320, .int .u64 0, .int .u64 1] 22)) 22 1 1 (by decide) (by decide)).at (by simp)
  have tA : (xs.take 60).length ≤ 60 := by simp; omega
  have tB : (ys.take 60).length ≤ 60 := by simp; omega
  have lA : (xs.take 60).length ≤ 2048 := by omega
  have lB : (ys.take 60).length ≤ 2048 := by omega
  have nB : (pN (ys.take 60)).length ≤ 60 := by rw [pN_length]; have := sig_le (ys.take 60); omega
  have hlin : (pN [fS 0 x, 1]).length ≠ 0 := by rw [lin_length]; decide
  have cS := k_fsub0 x hx
  have cE := fun W v l h hl => poly_Eval_ok W v l x h hl hx
  have hpz : ((pE (xs.take 60) x : Int) != 0) = false := by rw [hpe]; rfl
  clear h0 h1 hx tB
  have tk1 : True := trivial
  have tk2 : True := trivial
  have tk3 : True := trivial
  have tk4 : True := trivial
  have tk5 : True := trivial
  have tk6 : True := trivial
  have tk7 : True := trivial
  have tk8 : True := trivial
  go_enter Try.func7, Try.ntmps7
  go_wp2_with (first
    | (go_at_call 24; have _t := tk1; refine Calls.mono (poly_Div_ok _ _ _ [18446744069414584320, 0, 1] [1, 1] hL1 hL2 (by decide) (by decide) (by decide)) ?_; rintro e w101 ⟨u0, u1, q, r, rfl, hQ, hR, hD, hql, hb⟩; clear tk1; replace hb := below_alloc hb; replace hb := below_alloc hb; replace hA := hA.below hb; replace hB := hB.below hb; replace hW := hW.trans (hb.mono hW.size); clear hb; obtain ⟨rfl, rfl⟩ := Divs_unique hD ex_div; have hs0 := hR; obtain ⟨ar, cr, rfl, -⟩ := hs0; clear hD hql)
    | (go_at_call 18; have _t := tk2; refine Calls.mono (slices_Equal _ _ _ [18446744069414584320, 1] (hQ.below (below_alloc1 _ _)) (IsU.lit2 _ 22 18446744069414584320 1 (by decide) (by decide))) ?_; rintro e w102 ⟨rfl, hb⟩; clear tk2; replace hb := below_alloc hb; replace hA := hA.below hb; replace hB := hB.below hb; replace hQ := hQ.below hb; replace hR := hR.below hb; replace hW := hW.trans (hb.mono hW.size); clear hb)
    | (go_at_call 19; have _t := tk3; refine Calls.mono (k_short60 _ _ xs hA) ?_; rintro e w' ⟨⟨sa, rfl, hsa⟩, hw⟩; rw [hw]; clear hw; clear tk3)
    | (go_at_call 19; have _t := tk4; refine Calls.mono (k_short60 _ _ ys hB) ?_; rintro e w' ⟨⟨sb, rfl, hsb⟩, hw⟩; rw [hw]; clear hw; clear tk4)
    | (go_at_call 11; have _t := tk5; refine Calls.mono (cS _) ?_; rintro e w' ⟨rfl, hw⟩; rw [hw]; clear hw tk5)
    | (go_at_call 24; have _t := tk6; refine Calls.mono (poly_Div_ok _ _ _ (xs.take 60) [fS 0 x, 1] (hsa.below (below_alloc1 _ _)) (IsU.lit2 _ 22 (fS 0 x) 1 (fS_lt64 _ _) (by decide)) lA (by simp) hlin) ?_; rintro e w106 ⟨v0, v1, q1, r1, rfl, hQ1, hR1, hD1, hql1, hb⟩; clear tk6; replace hb := below_alloc hb; replace hA := hA.below hb; replace hB := hB.below hb; replace hQ := hQ.below hb; replace hR := hR.below hb; replace hsa := hsa.below hb; replace hsb := hsb.below hb; replace hW := hW.trans (hb.mono hW.size); clear hb; obtain rfl : r1 = [] := (Divs_lin' hD1).1 hpe; have hs0 := hR1; obtain ⟨ar1, cr1, rfl, -⟩ := hs0; clear hD1 hql1)
    | (go_at_call 21; have _t := tk7; refine Calls.mono (cE _ _ (xs.take 60) hsa lA) ?_; rintro e w107 ⟨rfl, hb⟩; clear tk7; replace hA := hA.below hb; replace hB := hB.below hb; replace hQ := hQ.below hb; replace hR := hR.below hb; replace hsa := hsa.below hb; replace hsb := hsb.below hb; replace hQ1 := hQ1.below hb; replace hR1 := hR1.below hb; replace hW := hW.trans (hb.mono hW.size); clear hb)
    | (go_at_call 24; have _t := tk8; refine Calls.mono (poly_Div_none _ _ _ (xs.take 60) (ys.take 60) hsa hsb lA lB hnb) ?_; rintro e w108 ⟨y0, y1, rfl, hQ2, hR2, hb⟩; clear tk8; replace hA := hA.below hb; replace hB := hB.below hb; replace hQ := hQ.below hb; replace hR := hR.below hb; replace hsa := hsa.below hb; replace hsb := hsb.below hb; replace hQ1 := hQ1.below hb; replace hR1 := hR1.below hb; replace hW := hW.trans (hb.mono hW.size); clear hb))
  go_ret
  exact ⟨rfl, hW⟩

set_option maxHeartbeats 4000000 in
theorem polyRest_zs (w : World) (v v' : Value) (xs ys : List Nat) (x : Nat) (h0 : IsU w v xs) (h1 : IsU w v' ys) (hx : (x : Int) < 18446744073709551616) (hpe : pE (xs.take 60) x = 0) (hnb : (pN (ys.take 60)).length ≠ 0) :
    Calls Try.prog 7 #[v, v', .int .u64 (x : Int)] w fun e w' => e = .returned (.bool true) ∧ Below w.heap.size w w' := by
  have hW : Below w.heap.size w w := Below.refl _ _
  have hA := h0
  have hB := h1
  have hL1 : IsU ((w.alloc (.cells #[.int .u64 18446744069414584320, .int .u64 0, .int .u64 1] 22)).alloc (.cells #[.int .u64 1, .int .u64 1] 22)) (.slice (some ⟨w.heap.size, 0, none⟩) 3 3) [18446744069414584320, 0, 1] := (IsU.lit3 w 22 18446744069414584320 0 1 (by decide) (by decide) (by decide)).below (below_alloc1 _ _)
  have hL2 : IsU ((w.alloc (.cells #[.int .u64 18446744069414584320, .int .u64 0, .int .u64 1] 22)).alloc (.cells #[.int .u64 1, .int .u64 1] 22)) (.slice (some ⟨w.heap.size + 1, 0, none⟩) 2 2) [1, 1] := (IsU.lit2 (w.alloc (.cells #[.int .u64 18446744069414584320, .int .u64 0, .int .u64 1] 22)) 22 1 1 (by decide) (by decide)).at (by simp)
  have tA : (xs.take 60).length ≤ 60 := by simp; omega
  have tB : (ys.take 60).length ≤ 60 := by simp; omega
  have lA : (xs.take 60).length ≤ 2048 := by omega
  have lB : (ys.take 60).length ≤ 2048 := by omega
  have nB : (pN (ys.take 60)).length ≤ 60 := by rw [pN_length]; have := sig_le (ys.take 60); omega
  have hlin : (pN [fS 0 x, 1]).length ≠ 0 := by rw [lin_length]; decide
  have cS := k_fsub0 x hx
  have cE := fun W v l h hl => poly_Eval_ok W v l x h hl hx
  have hpz : ((pE (xs.take 60) x : Int) != 0) = false := by rw [hpe]; rfl
  clear h0 h1 hx tB
  have tk1 : True := trivial
  have tk2 : True := trivial
  have tk3 : True := trivial
  have tk4 : True := trivial
  have tk5 : True := trivial
  have tk6 : True := trivial
  have tk7 : True := trivial
  have tk8 : True := trivial
  have tk9 : True := trivial
  have tk10 : True := trivial
  have tk11 : True := trivial
  have tk12 : True := trivial
  go_enter Try.func7, Try.ntmps7
  go_wp2_with (first
    | (go_at_call 24; have _t := tk1; refine Calls.mono (poly_Div_ok _ _ _ [18446744069414584320, 0, 1] [1, 1] hL1 hL2 (by decide) (by decide) (by decide)) ?_; rintro e w101 ⟨u0, u1, q, r, rfl, hQ, hR, hD, hql, hb⟩; clear tk1; replace hb := below_alloc hb; replace hb := below_alloc hb; replace hA := hA.below hb; replace hB := hB.below hb; replace hW := hW.trans (hb.mono hW.size); clear hb; obtain ⟨rfl, rfl⟩ := Divs_unique hD ex_div; have hs0 := hR; obtain ⟨ar, cr, rfl, -⟩ := hs0; clear hD hql)
    | (go_at_call 18; have _t := tk2; refine Calls.mono (slices_Equal _ _ _ [18446744069414584320, 1] (hQ.below (below_alloc1 _ _)) (IsU.lit2 _ 22 18446744069414584320 1 (by decide) (by decide))) ?_; rintro e w102 ⟨rfl, hb⟩; clear tk2; replace hb := below_alloc hb; replace hA := hA.below hb; replace hB := hB.below hb; replace hQ := hQ.below hb; replace hR := hR.below hb; replace hW := hW.trans (hb.mono hW.size); clear hb)
    | (go_at_call 19; have _t := tk3; refine Calls.mono (k_short60 _ _ xs hA) ?_; rintro e w' ⟨⟨sa, rfl, hsa⟩, hw⟩; rw [hw]; clear hw; clear tk3)
    | (go_at_call 19; have _t := tk4; refine Calls.mono (k_short60 _ _ ys hB) ?_; rintro e w' ⟨⟨sb, rfl, hsb⟩, hw⟩; rw [hw]; clear hw; clear tk4)
    | (go_at_call 11; have _t := tk5; refine Calls.mono (cS _) ?_; rintro e w' ⟨rfl, hw⟩; rw [hw]; clear hw tk5)
    | (go_at_call 24; have _t := tk6; refine Calls.mono (poly_Div_ok _ _ _ (xs.take 60) [fS 0 x, 1] (hsa.below (below_alloc1 _ _)) (IsU.lit2 _ 22 (fS 0 x) 1 (fS_lt64 _ _) (by decide)) lA (by simp) hlin) ?_; rintro e w106 ⟨v0, v1, q1, r1, rfl, hQ1, hR1, hD1, hql1, hb⟩; clear tk6; replace hb := below_alloc hb; replace hA := hA.below hb; replace hB := hB.below hb; replace hQ := hQ.below hb; replace hR := hR.below hb; replace hsa := hsa.below hb; replace hsb := hsb.below hb; replace hW := hW.trans (hb.mono hW.size); clear hb; obtain rfl : r1 = [] := (Divs_lin' hD1).1 hpe; have hs0 := hR1; obtain ⟨ar1, cr1, rfl, -⟩ := hs0; clear hD1 hql1)
    | (go_at_call 21; have _t := tk7; refine Calls.mono (cE _ _ (xs.take 60) hsa lA) ?_; rintro e w107 ⟨rfl, hb⟩; clear tk7; replace hA := hA.below hb; replace hB := hB.below hb; replace hQ := hQ.below hb; replace hR := hR.below hb; replace hsa := hsa.below hb; replace hsb := hsb.below hb; replace hQ1 := hQ1.below hb; replace hR1 := hR1.below hb; replace hW := hW.trans (hb.mono hW.size); clear hb)
    | (go_at_call 24; have _t := tk8; refine Calls.mono (poly_Div_ok _ _ _ (xs.take 60) (ys.take 60) hsa hsb lA lB hnb) ?_; rintro e w108 ⟨y0, y1, q2, r2, rfl, hQ2, hR2, hD2, hql2, hb⟩; clear tk8; replace hA := hA.below hb; replace hB := hB.below hb; replace hQ := hQ.below hb; replace hR := hR.below hb; replace hsa := hsa.below hb; replace hsb := hsb.below hb; replace hQ1 := hQ1.below hb; replace hR1 := hR1.below hb; replace hW := hW.trans (hb.mono hW.size); clear hb; have hqn := Nat.le_trans (Divs_qlen hD2) tA; have hrn := hD2.2.2.1; have lpm : (pM (pN q2) (pN (ys.take 60))).length ≤ 2048 := Nat.le_trans (pM_length_le _ _) (by rw [hD2.1]; omega); have lr2 : r2.length ≤ 2048 := by omega)
    | (go_at_call 17; have _t := tk9; refine Calls.mono (poly_Mul_ok _ _ _ q2 (ys.take 60) hQ2 hsb hql2 lB lpm) ?_; rintro e w109 ⟨pp, rfl, hP, hb⟩; clear tk9; replace hA := hA.below hb; replace hB := hB.below hb; replace hQ := hQ.below hb; replace hR := hR.below hb; replace hsa := hsa.below hb; replace hsb := hsb.below hb; replace hQ1 := hQ1.below hb; replace hR1 := hR1.below hb; replace hQ2 := hQ2.below hb; replace hR2 := hR2.below hb; replace hW := hW.trans (hb.mono hW.size); clear hb)
    | (go_at_call 20; have _t := tk10; refine Calls.mono (poly_Add_ok _ _ _ (pM (pN q2) (pN (ys.take 60))) r2 hP hR2 lpm lr2) ?_; rintro e w110 ⟨bk, rfl, hBk, hb⟩; clear tk10; replace hA := hA.below hb; replace hB := hB.below hb; replace hQ := hQ.below hb; replace hR := hR.below hb; replace hsa := hsa.below hb; replace hsb := hsb.below hb; replace hQ1 := hQ1.below hb; replace hR1 := hR1.below hb; replace hQ2 := hQ2.below hb; replace hR2 := hR2.below hb; replace hP := hP.below hb; replace hW := hW.trans (hb.mono hW.size); clear hb)
    | (go_at_call 22; have _t := tk11; refine Calls.mono (poly_Norm_ok _ _ (xs.take 60) hsa lA) ?_; rintro e w111 ⟨nn, rfl, hN, hb⟩; clear tk11; replace hA := hA.below hb; replace hB := hB.below hb; replace hQ := hQ.below hb; replace hR := hR.below hb; replace hsa := hsa.below hb; replace hsb := hsb.below hb; replace hQ1 := hQ1.below hb; replace hR1 := hR1.below hb; replace hQ2 := hQ2.below hb; replace hR2 := hR2.below hb; replace hP := hP.below hb; replace hBk := hBk.below hb; replace hW := hW.trans (hb.mono hW.size); clear hb)
    | (go_at_call 18; have _t := tk12; refine Calls.mono (slices_Equal _ _ _ (pN (xs.take 60)) (hBk.cast (Divs_sum' hD2)) hN) ?_; rintro e w112 ⟨rfl, hb⟩; clear tk12; replace hA := hA.below hb; replace hB := hB.below hb; replace hQ := hQ.below hb; replace hR := hR.below hb; replace hsa := hsa.below hb; replace hsb := hsb.below hb; replace hQ1 := hQ1.below hb; replace hR1 := hR1.below hb; replace hQ2 := hQ2.below hb; replace hR2 := hR2.below hb; replace hP := hP.below hb; replace hBk := hBk.below hb; replace hN := hN.below hb; replace hW := hW.trans (hb.mono hW.size); clear hb))
  go_ret
  exact ⟨rfl, hW⟩

set_option maxHeartbeats 4000000 in
theorem polyRest_vn (w : World) (v v' : Value) (xs ys : List Nat) (x : Nat) (h0 : IsU w v xs) (h1 : IsU w v' ys) (hx : (x : Int) < 18446744073709551616) (hpe : pE (xs.take 60) x ≠ 0) (hnb : (pN (ys.take 60)).length = 0) :
    Calls Try.prog 7 #[v, v', .int .u64 (x : Int)] w fun e w' => e = .returned (.bool true) ∧ Below w.heap.size w w' := by
  have hW : Below w.heap.size w w := Below.refl _ _
  have hA := h0
  have hB := h1
  have hL1 : IsU ((w.alloc (.cells #[.int .u64 18446744069414584320, .int .u64 0, .int .u64 1] 22)).alloc (.cells #[.int .u64 1, .int .u64 1] 22)) (.slice (some ⟨w.heap.size, 0, none⟩) 3 3) [18446744069414584320, 0, 1] := (IsU.lit3 w 22 18446744069414584320 0 1 (by decide) (by decide) (by decide)).below (below_alloc1 _ _)
  have hL2 : IsU ((w.alloc (.cells #[.int .u64 18446744069414584320, .int .u64 0, .int .u64 1] 22)).alloc (.cells #[.int .u64 1, .int .u64 1] 22)) (.slice (some ⟨w.heap.size + 1, 0, none⟩) 2 2) [1, 1] := (IsU.lit2 (w.alloc (.cells #[.int .u64 18446744069414584320, .int .u64 0, .int .u64 1] 22)) 22 1 1 (by decide) (by decide)).at (by simp)
  have tA : (xs.take 60).length ≤ 60 := by simp; omega
  have tB : (ys.take 60).length ≤ 60 := by simp; omega
  have lA : (xs.take 60).length ≤ 2048 := by omega
  have lB : (ys.take 60).length ≤ 2048 := by omega
  have nB : (pN (ys.take 60)).length ≤ 60 := by rw [pN_length]; have := sig_le (ys.take 60); omega
  have hlin : (pN [fS 0 x, 1]).length ≠ 0 := by rw [lin_length]; decide
  have cS := k_fsub0 x hx
  have cE := fun W v l h hl => poly_Eval_ok W v l x h hl hx
  clear h0 h1 hx tB
  have tk1 : True := trivial
  have tk2 : True := trivial
  have tk3 : True := trivial
  have tk4 : True := trivial
  have tk5 : True := trivial
  have tk6 : True := trivial
  have tk7 : True := trivial
  have tk8 : True := trivial
  go_enter Try.func7, Try.ntmps7
  go_wp2_with (first
    | (go_at_call 24; have _t := tk1; refine Calls.mono (poly_Div_ok _ _ _ [18446744069414584320, 0, 1] [1, 1] hL1 hL2 (by decide) (by decide) (by decide)) ?_; rintro e w101 ⟨u0, u1, q, r, rfl, hQ, hR, hD, hql, hb⟩; clear tk1; replace hb := below_alloc hb; replace hb := below_alloc hb; replace hA := hA.below hb; replace hB := hB.below hb; replace hW := hW.trans (hb.mono hW.size); clear hb; obtain ⟨rfl, rfl⟩ := Divs_unique hD ex_div; have hs0 := hR; obtain ⟨ar, cr, rfl, -⟩ := hs0; clear hD hql)
    | (go_at_call 18; have _t := tk2; refine Calls.mono (slices_Equal _ _ _ [18446744069414584320, 1] (hQ.below (below_alloc1 _ _)) (IsU.lit2 _ 22 18446744069414584320 1 (by decide) (by decide))) ?_; rintro e w102 ⟨rfl, hb⟩; clear tk2; replace hb := below_alloc hb; replace hA := hA.below hb; replace hB := hB.below hb; replace hQ := hQ.below hb; replace hR := hR.below hb; replace hW := hW.trans (hb.mono hW.size); clear hb)
    | (go_at_call 19; have _t := tk3; refine Calls.mono (k_short60 _ _ xs hA) ?_; rintro e w' ⟨⟨sa, rfl, hsa⟩, hw⟩; rw [hw]; clear hw; clear tk3)
    | (go_at_call 19; have _t := tk4; refine Calls.mono (k_short60 _ _ ys hB) ?_; rintro e w' ⟨⟨sb, rfl, hsb⟩, hw⟩; rw [hw]; clear hw; clear tk4)
    | (go_at_call 11; have _t := tk5; refine Calls.mono (cS _) ?_; rintro e w' ⟨rfl, hw⟩; rw [hw]; clear hw tk5)
    | (go_at_call 24; have _t := tk6; refine Calls.mono (poly_Div_ok _ _ _ (xs.take 60) [fS 0 x, 1] (hsa.below (below_alloc1 _ _)) (IsU.lit2 _ 22 (fS 0 x) 1 (fS_lt64 _ _) (by decide)) lA (by simp) hlin) ?_; rintro e w106 ⟨v0, v1, q1, r1, rfl, hQ1, hR1, hD1, hql1, hb⟩; clear tk6; replace hb := below_alloc hb; replace hA := hA.below hb; replace hB := hB.below hb; replace hQ := hQ.below hb; replace hR := hR.below hb; replace hsa := hsa.below hb; replace hsb := hsb.below hb; replace hW := hW.trans (hb.mono hW.size); clear hb; obtain rfl : r1 = [pE (xs.take 60) x] := (Divs_lin' hD1).2 hpe; obtain ⟨rb, ro, rc, rfl, -⟩ := isU_one hR1; clear hD1 hql1)
    | (go_at_call 21; have _t := tk7; refine Calls.mono (cE _ _ (xs.take 60) hsa lA) ?_; rintro e w107 ⟨rfl, hb⟩; clear tk7; replace hA := hA.below hb; replace hB := hB.below hb; replace hQ := hQ.below hb; replace hR := hR.below hb; replace hsa := hsa.below hb; replace hsb := hsb.below hb; replace hQ1 := hQ1.below hb; replace hR1 := hR1.below hb; replace hW := hW.trans (hb.mono hW.size); clear hb; obtain ⟨rb2, ro2, rc2, hrv, hrc⟩ := isU_one hR1; simp only [Value.slice.injEq, Option.some.injEq, Addr.mk.injEq, and_true, true_and] at hrv; obtain ⟨⟨rfl, rfl⟩, rfl⟩ := hrv)
    | (go_at_call 24; have _t := tk8; refine Calls.mono (poly_Div_none _ _ _ (xs.take 60) (ys.take 60) hsa hsb lA lB hnb) ?_; rintro e w108 ⟨y0, y1, rfl, hQ2, hR2, hb⟩; clear tk8; replace hA := hA.below hb; replace hB := hB.below hb; replace hQ := hQ.below hb; replace hR := hR.below hb; replace hsa := hsa.below hb; replace hsb := hsb.below hb; replace hQ1 := hQ1.below hb; replace hR1 := hR1.below hb; replace hW := hW.trans (hb.mono hW.size); clear hb))
  go_ret
  exact ⟨rfl, hW⟩

set_option maxHeartbeats 4000000 in
theorem polyRest_vs (w : World) (v v' : Value) (xs ys : List Nat) (x : Nat) (h0 : IsU w v xs) (h1 : IsU w v' ys) (hx : (x : Int) < 18446744073709551616) (hpe : pE (xs.take 60) x ≠ 0) (hnb : (pN (ys.take 60)).length ≠ 0) :
    Calls Try.prog 7 #[v, v', .int .u64 (x : Int)] w fun e w' => e = .returned (.bool true) ∧ Below w.heap.size w w' := by
  have hW : Below w.heap.size w w := Below.refl _ _
  have hA := h0
  have hB := h1
  have hL1 : IsU ((w.alloc (.cells #[.int .u64 18446744069414584320, .int .u64 0, .int .u64 1] 22)).alloc (.cells #[.int .u64 1, .int .u64 1] 22)) (.slice (some ⟨w.heap.size, 0, none⟩) 3 3) [18446744069414584320, 0, 1] := (IsU.lit3 w 22 18446744069414584320 0 1 (by decide) (by decide) (by decide)).below (below_alloc1 _ _)
  have hL2 : IsU ((w.alloc (.cells #[.int .u64 18446744069414584320, .int .u64 0, .int .u64 1] 22)).alloc (.cells #[.int .u64 1, .int .u64 1] 22)) (.slice (some ⟨w.heap.size + 1, 0, none⟩) 2 2) [1, 1] := (IsU.lit2 (w.alloc (.cells #[.int .u64 18446744069414584320, .int .u64 0, .int .u64 1] 22)) 22 1 1 (by decide) (by decide)).at (by simp)
  have tA : (xs.take 60).length ≤ 60 := by simp; omega
  have tB : (ys.take 60).length ≤ 60 := by simp; omega
  have lA : (xs.take 60).length ≤ 2048 := by omega
  have lB : (ys.take 60).length ≤ 2048 := by omega
  have nB : (pN (ys.take 60)).length ≤ 60 := by rw [pN_length]; have := sig_le (ys.take 60); omega
  have hlin : (pN [fS 0 x, 1]).length ≠ 0 := by rw [lin_length]; decide
  have cS := k_fsub0 x hx
  have cE := fun W v l h hl => poly_Eval_ok W v l x h hl hx
  clear h0 h1 hx tB
  have tk1 : True := trivial
  have tk2 : True := trivial
  have tk3 : True := trivial
  have tk4 : True := trivial
  have tk5 : True := trivial
  have tk6 : True := trivial
  have tk7 : True := trivial
  have tk8 : True := trivial
  have tk9 : True := trivial
  have tk10 : True := trivial
  have tk11 : True := trivial
  have tk12 : True := trivial
  go_enter Try.func7, Try.ntmps7
  go_wp2_with (first
    | (go_at_call 24; have _t := tk1; refine Calls.mono (poly_Div_ok _ _ _ [18446744069414584320, 0, 1] [1, 1] hL1 hL2 (by decide) (by decide) (by decide)) ?_; rintro e w101 ⟨u0, u1, q, r, rfl, hQ, hR, hD, hql, hb⟩; clear tk1; replace hb := below_alloc hb; replace hb := below_alloc hb; replace hA := hA.below hb; replace hB := hB.below hb; replace hW := hW.trans (hb.mono hW.size); clear hb; obtain ⟨rfl, rfl⟩ := Divs_unique hD ex_div; have hs0 := hR; obtain ⟨ar, cr, rfl, -⟩ := hs0; clear hD hql)
    | (go_at_call 18; have _t := tk2; refine Calls.mono (slices_Equal _ _ _ [18446744069414584320, 1] (hQ.below (below_alloc1 _ _)) (IsU.lit2 _ 22 18446744069414584320 1 (by decide) (by decide))) ?_; rintro e w102 ⟨rfl, hb⟩; clear tk2; replace hb := below_alloc hb; replace hA := hA.below hb; replace hB := hB.below hb; replace hQ := hQ.below hb; replace hR := hR.below hb; replace hW := hW.trans (hb.mono hW.size); clear hb)
    | (go_at_call 19; have _t := tk3; refine Calls.mono (k_short60 _ _ xs hA) ?_; rintro e w' ⟨⟨sa, rfl, hsa⟩, hw⟩; rw [hw]; clear hw; clear tk3)
    | (go_at_call 19; have _t := tk4; refine Calls.mono (k_short60 _ _ ys hB) ?_; rintro e w' ⟨⟨sb, rfl, hsb⟩, hw⟩; rw [hw]; clear hw; clear tk4)
    | (go_at_call 11; have _t := tk5; refine Calls.mono (cS _) ?_; rintro e w' ⟨rfl, hw⟩; rw [hw]; clear hw tk5)
    | (go_at_call 24; have _t := tk6; refine Calls.mono (poly_Div_ok _ _ _ (xs.take 60) [fS 0 x, 1] (hsa.below (below_alloc1 _ _)) (IsU.lit2 _ 22 (fS 0 x) 1 (fS_lt64 _ _) (by decide)) lA (by simp) hlin) ?_; rintro e w106 ⟨v0, v1, q1, r1, rfl, hQ1, hR1, hD1, hql1, hb⟩; clear tk6; replace hb := below_alloc hb; replace hA := hA.below hb; replace hB := hB.below hb; replace hQ := hQ.below hb; replace hR := hR.below hb; replace hsa := hsa.below hb; replace hsb := hsb.below hb; replace hW := hW.trans (hb.mono hW.size); clear hb; obtain rfl : r1 = [pE (xs.take 60) x] := (Divs_lin' hD1).2 hpe; obtain ⟨rb, ro, rc, rfl, -⟩ := isU_one hR1; clear hD1 hql1)
    | (go_at_call 21; have _t := tk7; refine Calls.mono (cE _ _ (xs.take 60) hsa lA) ?_; rintro e w107 ⟨rfl, hb⟩; clear tk7; replace hA := hA.below hb; replace hB := hB.below hb; replace hQ := hQ.below hb; replace hR := hR.below hb; replace hsa := hsa.below hb; replace hsb := hsb.below hb; replace hQ1 := hQ1.below hb; replace hR1 := hR1.below hb; replace hW := hW.trans (hb.mono hW.size); clear hb; obtain ⟨rb2, ro2, rc2, hrv, hrc⟩ := isU_one hR1; simp only [Value.slice.injEq, Option.some.injEq, Addr.mk.injEq, and_true, true_and] at hrv; obtain ⟨⟨rfl, rfl⟩, rfl⟩ := hrv)
    | (go_at_call 24; have _t := tk8; refine Calls.mono (poly_Div_ok _ _ _ (xs.take 60) (ys.take 60) hsa hsb lA lB hnb) ?_; rintro e w108 ⟨y0, y1, q2, r2, rfl, hQ2, hR2, hD2, hql2, hb⟩; clear tk8; replace hA := hA.below hb; replace hB := hB.below hb; replace hQ := hQ.below hb; replace hR := hR.below hb; replace hsa := hsa.below hb; replace hsb := hsb.below hb; replace hQ1 := hQ1.below hb; replace hR1 := hR1.below hb; replace hW := hW.trans (hb.mono hW.size); clear hb; have hqn := Nat.le_trans (Divs_qlen hD2) tA; have hrn := hD2.2.2.1; have lpm : (pM (pN q2) (pN (ys.take 60))).length ≤ 2048 := Nat.le_trans (pM_length_le _ _) (by rw [hD2.1]; omega); have lr2 : r2.length ≤ 2048 := by omega)
    | (go_at_call 17; have _t := tk9; refine Calls.mono (poly_Mul_ok _ _ _ q2 (ys.take 60) hQ2 hsb hql2 lB lpm) ?_; rintro e w109 ⟨pp, rfl, hP, hb⟩; clear tk9; replace hA := hA.below hb; replace hB := hB.below hb; replace hQ := hQ.below hb; replace hR := hR.below hb; replace hsa := hsa.below hb; replace hsb := hsb.below hb; replace hQ1 := hQ1.below hb; replace hR1 := hR1.below hb; replace hQ2 := hQ2.below hb; replace hR2 := hR2.below hb; replace hW := hW.trans (hb.mono hW.size); clear hb)
    | (go_at_call 20; have _t := tk10; refine Calls.mono (poly_Add_ok _ _ _ (pM (pN q2) (pN (ys.take 60))) r2 hP hR2 lpm lr2) ?_; rintro e w110 ⟨bk, rfl, hBk, hb⟩; clear tk10; replace hA := hA.below hb; replace hB := hB.below hb; replace hQ := hQ.below hb; replace hR := hR.below hb; replace hsa := hsa.below hb; replace hsb := hsb.below hb; replace hQ1 := hQ1.below hb; replace hR1 := hR1.below hb; replace hQ2 := hQ2.below hb; replace hR2 := hR2.below hb; replace hP := hP.below hb; replace hW := hW.trans (hb.mono hW.size); clear hb)
    | (go_at_call 22; have _t := tk11; refine Calls.mono (poly_Norm_ok _ _ (xs.take 60) hsa lA) ?_; rintro e w111 ⟨nn, rfl, hN, hb⟩; clear tk11; replace hA := hA.below hb; replace hB := hB.below hb; replace hQ := hQ.below hb; replace hR := hR.below hb; replace hsa := hsa.below hb; replace hsb := hsb.below hb; replace hQ1 := hQ1.below hb; replace hR1 := hR1.below hb; replace hQ2 := hQ2.below hb; replace hR2 := hR2.below hb; replace hP := hP.below hb; replace hBk := hBk.below hb; replace hW := hW.trans (hb.mono hW.size); clear hb)
    | (go_at_call 18; have _t := tk12; refine Calls.mono (slices_Equal _ _ _ (pN (xs.take 60)) (hBk.cast (Divs_sum' hD2)) hN) ?_; rintro e w112 ⟨rfl, hb⟩; clear tk12; replace hA := hA.below hb; replace hB := hB.below hb; replace hQ := hQ.below hb; replace hR := hR.below hb; replace hsa := hsa.below hb; replace hsb := hsb.below hb; replace hQ1 := hQ1.below hb; replace hR1 := hR1.below hb; replace hQ2 := hQ2.below hb; replace hR2 := hR2.below hb; replace hP := hP.below hb; replace hBk := hBk.below hb; replace hN := hN.below hb; replace hW := hW.trans (hb.mono hW.size); clear hb))
  go_ret
  exact ⟨rfl, hW⟩

theorem polyRest_walk (w : World) (v : Value) (xs : List Nat) (h : IsU w v xs) (v' : Value) (ys : List Nat) (h' : IsU w v' ys) (a2 : Int) (w2 : (Lit.int .u64 a2).wf = true) :
    Calls Try.prog 7 #[v, v', .int .u64 a2] w fun e w' => e = .returned (.bool true) ∧ Below w.heap.size w w' := by
  obtain ⟨x, rfl, hx⟩ := nat_of_u64 w2
  by_cases hpe : pE (xs.take 60) x = 0
  · by_cases hnb : (pN (ys.take 60)).length = 0
    · exact polyRest_zn w v v' xs ys x h h' hx hpe hnb
    · exact polyRest_zs w v v' xs ys x h h' hx hpe hnb
  · by_cases hnb : (pN (ys.take 60)).length = 0
    · exact polyRest_vn w v v' xs ys x h h' hx hpe hnb
    · exact polyRest_vs w v v' xs ys x h h' hx hpe hnb

end Go.Proofs.Ytpoekkbofhdnnad
