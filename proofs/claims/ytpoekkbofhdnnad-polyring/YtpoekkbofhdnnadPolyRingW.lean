/-
  The walk of the law PolyRing: whatever three lists and number are handed in, sums and products of package poly are those of a ring, their values sums and products, and the law returns true.
-/
import Derived.Test.YtpoekkbofhdnnadPolyC
import Derived.Test.YtpoekkbofhdnnadPolyD
import Derived.Test.YtpoekkbofhdnnadKeepShort
import Derived.Test.YtpoekkbofhdnnadSlEq
import Derived.Test.YtpoekkbofhdnnadFieldB
namespace Go.Proofs.Ytpoekkbofhdnnad
open Go.RowKit

theorem nat_of_u64 {a : Int} (h : (Lit.int .u64 a).wf = true) : ∃ n : Nat, a = (n : Int) ∧ (n : Int) < 18446744073709551616 := by
  have b := bounds_u64 h
  exact ⟨a.toNat, by omega, by omega⟩
theorem keep_one_true (w : World) : Calls Try.prog 23 #[.bool true] w fun e w' => e = .returned (.int .i64 1) ∧ w' = w := by
  go_enter Try.func23, Try.ntmps23
  go_wp2
  go_ret
  exact ⟨rfl, rfl⟩
theorem keep_one_false (w : World) : Calls Try.prog 23 #[.bool false] w fun e w' => e = .returned (.int .i64 0) ∧ w' = w := by
  go_enter Try.func23, Try.ntmps23
  go_wp2
  go_ret
  exact ⟨rfl, rfl⟩
theorem pE_mul (A B : List Nat) (x : Nat) : fM (pE A x) (pE B x) = pE (pM (pN A) (pN B)) x := by
  rw [fM_val, toF_pE, toF_pE]
  unfold pE
  rw [ev_pM, ev_pN, ev_pN]
theorem pE_lt64 (xs : List Nat) (x : Nat) : (pE xs x : Int) < 18446744073709551616 := by
  have := lt_int (val_lt (evF (xs.map toF) (toF x)))
  unfold pE; omega
theorem k_short40 (w : World) (v : Value) (xs : List Nat) (h : IsU w v xs) : Calls Try.prog 19 #[v, .int .i64 40] w fun e w' => (∃ u, e = .returned u ∧ IsU w u (xs.take 40)) ∧ w' = w := keep_short w v xs 40 h (by decide)

set_option maxHeartbeats 4000000 in
theorem polyRing_both (w : World) (v v' v'' : Value) (xs ys zs : List Nat) (x : Nat) (h0 : IsU w v xs) (h1 : IsU w v' ys) (h2 : IsU w v'' zs) (hx : (x : Int) < 18446744073709551616) (ha : (pN (xs.take 40)).length ≠ 0) (hb0 : (pN (ys.take 40)).length ≠ 0) :
    Calls Try.prog 6 #[v, v', v'', .int .u64 (x : Int)] w fun e w' => e = .returned (.bool true) ∧ Below w.heap.size w w' := by
  have hW : Below w.heap.size w w := Below.refl _ _
  have hA := h0
  have hB := h1
  have hC := h2
  have hL1 : IsU ((w.alloc (.cells #[.int .u64 1, .int .u64 1] 22)).alloc (.cells #[.int .u64 18446744069414584320, .int .u64 1] 22)) (.slice (some ⟨w.heap.size, 0, none⟩) 2 2) [1, 1] := (IsU.lit2 w 22 1 1 (by decide) (by decide)).below (below_alloc1 _ _)
  have hL2 : IsU ((w.alloc (.cells #[.int .u64 1, .int .u64 1] 22)).alloc (.cells #[.int .u64 18446744069414584320, .int .u64 1] 22)) (.slice (some ⟨w.heap.size + 1, 0, none⟩) 2 2) [18446744069414584320, 1] := (IsU.lit2 (w.alloc (.cells #[.int .u64 1, .int .u64 1] 22)) 22 18446744069414584320 1 (by decide) (by decide)).at (by simp)
  have sA := sig_le (xs.take 40)
  have sB := sig_le (ys.take 40)
  have tA : (xs.take 40).length ≤ 40 := by simp; omega
  have tB : (ys.take 40).length ≤ 40 := by simp; omega
  have tC : (zs.take 40).length ≤ 40 := by simp; omega
  have lA : (xs.take 40).length ≤ 2048 := by omega
  have lB : (ys.take 40).length ≤ 2048 := by omega
  have lC : (zs.take 40).length ≤ 2048 := by omega
  have nA : (pN (xs.take 40)).length ≤ 40 := by rw [pN_length]; omega
  have nB : (pN (ys.take 40)).length ≤ 40 := by rw [pN_length]; omega
  have nC : (pN (zs.take 40)).length ≤ 40 := by rw [pN_length]; have := sig_le (zs.take 40); omega
  have lAB : (pM (pN (xs.take 40)) (pN (ys.take 40))).length ≤ 2048 := Nat.le_trans (pM_length_le _ _) (by omega)
  have lBA : (pM (pN (ys.take 40)) (pN (xs.take 40))).length ≤ 2048 := Nat.le_trans (pM_length_le _ _) (by omega)
  have lAC : (pM (pN (xs.take 40)) (pN (zs.take 40))).length ≤ 2048 := Nat.le_trans (pM_length_le _ _) (by omega)
  have pSl : (pS (ys.take 40) (zs.take 40)).length ≤ 40 := by unfold pS; rw [mk_length]; omega
  have nS : (pN (pS (ys.take 40) (zs.take 40))).length ≤ 40 := by rw [pN_length]; have := sig_le (pS (ys.take 40) (zs.take 40)); omega
  have lS : (pN (pS (ys.take 40) (zs.take 40))).length ≤ 2048 := by omega
  have lAS : (pM (pN (xs.take 40)) (pN (pN (pS (ys.take 40) (zs.take 40))))).length ≤ 2048 := Nat.le_trans (pM_length_le _ _) (by rw [pN_pN]; omega)
  have cM := field_Mul (pE (xs.take 40) x) (pE (ys.take 40) x) (pE_lt64 _ _) (pE_lt64 _ _)
  rw [pE_mul] at cM
  have hlen := pM_length (xs.take 40) (ys.take 40)
  rw [← pN_length, ← pN_length] at hlen
  rw [if_neg (by omega)] at hlen
  have hfin : (((pM (pN (xs.take 40)) (pN (ys.take 40))).length : Int) == ((pN (xs.take 40)).length : Int) + ((pN (ys.take 40)).length : Int) - 1) = true := by rw [beq_iff_eq]; omega
  clear hlen
  have hda : decide (0 < (pN (xs.take 40)).length) = true := decide_eq_true (by omega)
  have hdb : decide (0 < (pN (ys.take 40)).length) = true := decide_eq_true (by omega)
  have hda' : (0 : Int) < ((pN (xs.take 40)).length : Int) := by omega
  have hdb' : (0 : Int) < ((pN (ys.take 40)).length : Int) := by omega
  have cE := fun W v l h hl => poly_Eval_ok W v l x h hl hx
  have nA' : ((pN (xs.take 40)).length : Int) ≤ 40 := by omega
  have nB' : ((pN (ys.take 40)).length : Int) ≤ 40 := by omega
  clear sA sB tA tB tC nA nB nC pSl nS h0 h1 h2 hx
  have tk1 : True := trivial
  have tk2 : True := trivial
  have tk3 : True := trivial
  have tk4 : True := trivial
  have tk5 : True := trivial
  have tk6 : True := trivial
  have tk7 : True := trivial
  have tk8 : True := trivial
  have tk9 : True := trivial
  have tk10 : True := trivial
  have tk11 : True := trivial
  have tk12 : True := trivial
  have tk13 : True := trivial
  have tk14 : True := trivial
  have tk15 : True := trivial
  have tk16 : True := trivial
  have tk17 : True := trivial
  have tk18 : True := trivial
  have tk19 : True := trivial
  have tk20 : True := trivial
  go_enter Try.func6, Try.ntmps6
  go_wp2_with (first
    | (go_at_call 17; have _t := tk1; refine Calls.mono (poly_Mul_ok _ _ _ [1, 1] [18446744069414584320, 1] hL1 hL2 (by decide) (by decide) (by decide)) ?_; rintro e w101 ⟨p0, rfl, hP0, hb⟩; clear tk1; replace hb := below_alloc hb; replace hb := below_alloc hb; replace hA := hA.below hb; replace hB := hB.below hb; replace hC := hC.below hb; replace hW := hW.trans (hb.mono hW.size); clear hb)
    | (go_at_call 18; have _t := tk2; refine Calls.mono (slices_Equal _ _ _ [18446744069414584320, 0, 1] ((hP0.cast ex_mul).below (below_alloc1 _ _)) (IsU.lit3 _ 22 18446744069414584320 0 1 (by decide) (by decide) (by decide))) ?_; rintro e w102 ⟨rfl, hb⟩; clear tk2; replace hb := below_alloc hb; replace hA := hA.below hb; replace hB := hB.below hb; replace hC := hC.below hb; replace hP0 := hP0.below hb; replace hW := hW.trans (hb.mono hW.size); clear hb)
    | (go_at_call 19; have _t := tk3; refine Calls.mono (k_short40 _ _ xs hA) ?_; rintro e w' ⟨⟨sa, rfl, hsa⟩, hw⟩; rw [hw]; clear hw; clear tk3)
    | (go_at_call 19; have _t := tk4; refine Calls.mono (k_short40 _ _ ys hB) ?_; rintro e w' ⟨⟨sb, rfl, hsb⟩, hw⟩; rw [hw]; clear hw; clear tk4)
    | (go_at_call 19; have _t := tk5; refine Calls.mono (k_short40 _ _ zs hC) ?_; rintro e w' ⟨⟨sc, rfl, hsc⟩, hw⟩; rw [hw]; clear hw; clear tk5)
    | (go_at_call 17; have _t := tk6; refine Calls.mono (poly_Mul_ok _ _ _ (xs.take 40) (ys.take 40) hsa hsb lA lB lAB) ?_; rintro e w106 ⟨ab, rfl, hAB, hb⟩; clear tk6; replace hA := hA.below hb; replace hB := hB.below hb; replace hC := hC.below hb; replace hP0 := hP0.below hb; replace hsa := hsa.below hb; replace hsb := hsb.below hb; replace hsc := hsc.below hb; replace hW := hW.trans (hb.mono hW.size); clear hb; have hs0 := hAB; obtain ⟨aab, cab, rfl, -⟩ := hs0)
    | (go_at_call 17; have _t := tk7; refine Calls.mono (poly_Mul_ok _ _ _ (ys.take 40) (xs.take 40) hsb hsa lB lA lBA) ?_; rintro e w107 ⟨ba, rfl, hBA, hb⟩; clear tk7; replace hA := hA.below hb; replace hB := hB.below hb; replace hC := hC.below hb; replace hP0 := hP0.below hb; replace hsa := hsa.below hb; replace hsb := hsb.below hb; replace hsc := hsc.below hb; replace hAB := hAB.below hb; replace hW := hW.trans (hb.mono hW.size); clear hb)
    | (go_at_call 20; have _t := tk8; refine Calls.mono (poly_Add_ok _ _ _ (ys.take 40) (zs.take 40) hsb hsc lB lC) ?_; rintro e w108 ⟨sm, rfl, hSm, hb⟩; clear tk8; replace hA := hA.below hb; replace hB := hB.below hb; replace hC := hC.below hb; replace hP0 := hP0.below hb; replace hsa := hsa.below hb; replace hsb := hsb.below hb; replace hsc := hsc.below hb; replace hAB := hAB.below hb; replace hBA := hBA.below hb; replace hW := hW.trans (hb.mono hW.size); clear hb)
    | (go_at_call 17; have _t := tk9; refine Calls.mono (poly_Mul_ok _ _ _ (xs.take 40) (pN (pS (ys.take 40) (zs.take 40))) hsa hSm lA lS lAS) ?_; rintro e w109 ⟨lf, rfl, hLf, hb⟩; clear tk9; replace hA := hA.below hb; replace hB := hB.below hb; replace hC := hC.below hb; replace hP0 := hP0.below hb; replace hsa := hsa.below hb; replace hsb := hsb.below hb; replace hsc := hsc.below hb; replace hAB := hAB.below hb; replace hBA := hBA.below hb; replace hSm := hSm.below hb; replace hW := hW.trans (hb.mono hW.size); clear hb)
    | (go_at_call 17; have _t := tk10; refine Calls.mono (poly_Mul_ok _ _ _ (xs.take 40) (zs.take 40) hsa hsc lA lC lAC) ?_; rintro e w110 ⟨ac, rfl, hAC, hb⟩; clear tk10; replace hA := hA.below hb; replace hB := hB.below hb; replace hC := hC.below hb; replace hP0 := hP0.below hb; replace hsa := hsa.below hb; replace hsb := hsb.below hb; replace hsc := hsc.below hb; replace hAB := hAB.below hb; replace hBA := hBA.below hb; replace hSm := hSm.below hb; replace hLf := hLf.below hb; replace hW := hW.trans (hb.mono hW.size); clear hb)
    | (go_at_call 20; have _t := tk11; refine Calls.mono (poly_Add_ok _ _ _ (pM (pN (xs.take 40)) (pN (ys.take 40))) (pM (pN (xs.take 40)) (pN (zs.take 40))) hAB hAC lAB lAC) ?_; rintro e w111 ⟨rt, rfl, hRt, hb⟩; clear tk11; replace hA := hA.below hb; replace hB := hB.below hb; replace hC := hC.below hb; replace hP0 := hP0.below hb; replace hsa := hsa.below hb; replace hsb := hsb.below hb; replace hsc := hsc.below hb; replace hAB := hAB.below hb; replace hBA := hBA.below hb; replace hSm := hSm.below hb; replace hLf := hLf.below hb; replace hAC := hAC.below hb; replace hW := hW.trans (hb.mono hW.size); clear hb)
    | (go_at_call 21; have _t := tk12; refine Calls.mono (cE _ _ (xs.take 40) hsa lA) ?_; rintro e w112 ⟨rfl, hb⟩; clear tk12; replace hA := hA.below hb; replace hB := hB.below hb; replace hC := hC.below hb; replace hP0 := hP0.below hb; replace hsa := hsa.below hb; replace hsb := hsb.below hb; replace hsc := hsc.below hb; replace hAB := hAB.below hb; replace hBA := hBA.below hb; replace hSm := hSm.below hb; replace hLf := hLf.below hb; replace hAC := hAC.below hb; replace hRt := hRt.below hb; replace hW := hW.trans (hb.mono hW.size); clear hb)
    | (go_at_call 21; have _t := tk13; refine Calls.mono (cE _ _ (ys.take 40) hsb lB) ?_; rintro e w113 ⟨rfl, hb⟩; clear tk13; replace hA := hA.below hb; replace hB := hB.below hb; replace hC := hC.below hb; replace hP0 := hP0.below hb; replace hsa := hsa.below hb; replace hsb := hsb.below hb; replace hsc := hsc.below hb; replace hAB := hAB.below hb; replace hBA := hBA.below hb; replace hSm := hSm.below hb; replace hLf := hLf.below hb; replace hAC := hAC.below hb; replace hRt := hRt.below hb; replace hW := hW.trans (hb.mono hW.size); clear hb)
    | (go_at_call 21; have _t := tk14; refine Calls.mono (cE _ _ (pM (pN (xs.take 40)) (pN (ys.take 40))) hAB lAB) ?_; rintro e w114 ⟨rfl, hb⟩; clear tk14; replace hA := hA.below hb; replace hB := hB.below hb; replace hC := hC.below hb; replace hP0 := hP0.below hb; replace hsa := hsa.below hb; replace hsb := hsb.below hb; replace hsc := hsc.below hb; replace hAB := hAB.below hb; replace hBA := hBA.below hb; replace hSm := hSm.below hb; replace hLf := hLf.below hb; replace hAC := hAC.below hb; replace hRt := hRt.below hb; replace hW := hW.trans (hb.mono hW.size); clear hb)
    | (go_at_call 22; have _t := tk15; refine Calls.mono (poly_Norm_ok _ _ (xs.take 40) hsa lA) ?_; rintro e w115 ⟨na, rfl, hNa, hb⟩; clear tk15; replace hA := hA.below hb; replace hB := hB.below hb; replace hC := hC.below hb; replace hP0 := hP0.below hb; replace hsa := hsa.below hb; replace hsb := hsb.below hb; replace hsc := hsc.below hb; replace hAB := hAB.below hb; replace hBA := hBA.below hb; replace hSm := hSm.below hb; replace hLf := hLf.below hb; replace hAC := hAC.below hb; replace hRt := hRt.below hb; replace hW := hW.trans (hb.mono hW.size); clear hb; have hs0 := hNa; obtain ⟨ana, cna, rfl, -⟩ := hs0)
    | (go_at_call 22; have _t := tk16; refine Calls.mono (poly_Norm_ok _ _ (ys.take 40) hsb lB) ?_; rintro e w116 ⟨nb, rfl, hNb, hb⟩; clear tk16; replace hA := hA.below hb; replace hB := hB.below hb; replace hC := hC.below hb; replace hP0 := hP0.below hb; replace hsa := hsa.below hb; replace hsb := hsb.below hb; replace hsc := hsc.below hb; replace hAB := hAB.below hb; replace hBA := hBA.below hb; replace hSm := hSm.below hb; replace hLf := hLf.below hb; replace hAC := hAC.below hb; replace hRt := hRt.below hb; replace hNa := hNa.below hb; replace hW := hW.trans (hb.mono hW.size); clear hb; have hs0 := hNb; obtain ⟨anb, cnb, rfl, -⟩ := hs0)
    | (go_at_call 18; have _t := tk17; refine Calls.mono (slices_Equal _ _ _ (pM (pN (xs.take 40)) (pN (ys.take 40))) hAB (hBA.cast (pM_comm _ _))) ?_; rintro e w117 ⟨rfl, hb⟩; clear tk17; replace hA := hA.below hb; replace hB := hB.below hb; replace hC := hC.below hb; replace hP0 := hP0.below hb; replace hsa := hsa.below hb; replace hsb := hsb.below hb; replace hsc := hsc.below hb; replace hAB := hAB.below hb; replace hBA := hBA.below hb; replace hSm := hSm.below hb; replace hLf := hLf.below hb; replace hAC := hAC.below hb; replace hRt := hRt.below hb; replace hNa := hNa.below hb; replace hNb := hNb.below hb; replace hW := hW.trans (hb.mono hW.size); clear hb)
    | (go_at_call 18; have _t := tk18; refine Calls.mono (slices_Equal _ _ _ (pM (pN (xs.take 40)) (pN (pN (pS (ys.take 40) (zs.take 40))))) hLf (hRt.cast (pM_pS _ _ _).symm)) ?_; rintro e w118 ⟨rfl, hb⟩; clear tk18; replace hA := hA.below hb; replace hB := hB.below hb; replace hC := hC.below hb; replace hP0 := hP0.below hb; replace hsa := hsa.below hb; replace hsb := hsb.below hb; replace hsc := hsc.below hb; replace hAB := hAB.below hb; replace hBA := hBA.below hb; replace hSm := hSm.below hb; replace hLf := hLf.below hb; replace hAC := hAC.below hb; replace hRt := hRt.below hb; replace hNa := hNa.below hb; replace hNb := hNb.below hb; replace hW := hW.trans (hb.mono hW.size); clear hb)
    | (go_at_call 9; have _t := tk19; refine Calls.mono (cM _) ?_; rintro e w' ⟨rfl, hw⟩; rw [hw]; clear hw tk19)
    | (go_at_call 23; have _t := tk20; refine Calls.mono (keep_one_true _) ?_; rintro e w' ⟨rfl, hw⟩; rw [hw]; clear hw tk20))
  go_ret
  exact ⟨rfl, hW⟩

set_option maxHeartbeats 4000000 in
theorem polyRing_nonex (w : World) (v v' v'' : Value) (xs ys zs : List Nat) (x : Nat) (h0 : IsU w v xs) (h1 : IsU w v' ys) (h2 : IsU w v'' zs) (hx : (x : Int) < 18446744073709551616) (ha : (pN (xs.take 40)).length = 0) :
    Calls Try.prog 6 #[v, v', v'', .int .u64 (x : Int)] w fun e w' => e = .returned (.bool true) ∧ Below w.heap.size w w' := by
  have hW : Below w.heap.size w w := Below.refl _ _
  have hA := h0
  have hB := h1
  have hC := h2
  have hL1 : IsU ((w.alloc (.cells #[.int .u64 1, .int .u64 1] 22)).alloc (.cells #[.int .u64 18446744069414584320, .int .u64 1] 22)) (.slice (some ⟨w.heap.size, 0, none⟩) 2 2) [1, 1] := (IsU.lit2 w 22 1 1 (by decide) (by decide)).below (below_alloc1 _ _)
  have hL2 : IsU ((w.alloc (.cells #[.int .u64 1, .int .u64 1] 22)).alloc (.cells #[.int .u64 18446744069414584320, .int .u64 1] 22)) (.slice (some ⟨w.heap.size + 1, 0, none⟩) 2 2) [18446744069414584320, 1] := (IsU.lit2 (w.alloc (.cells #[.int .u64 1, .int .u64 1] 22)) 22 18446744069414584320 1 (by decide) (by decide)).at (by simp)
  have sA := sig_le (xs.take 40)
  have sB := sig_le (ys.take 40)
  have tA : (xs.take 40).length ≤ 40 := by simp; omega
  have tB : (ys.take 40).length ≤ 40 := by simp; omega
  have tC : (zs.take 40).length ≤ 40 := by simp; omega
  have lA : (xs.take 40).length ≤ 2048 := by omega
  have lB : (ys.take 40).length ≤ 2048 := by omega
  have lC : (zs.take 40).length ≤ 2048 := by omega
  have nA : (pN (xs.take 40)).length ≤ 40 := by rw [pN_length]; omega
  have nB : (pN (ys.take 40)).length ≤ 40 := by rw [pN_length]; omega
  have nC : (pN (zs.take 40)).length ≤ 40 := by rw [pN_length]; have := sig_le (zs.take 40); omega
  have lAB : (pM (pN (xs.take 40)) (pN (ys.take 40))).length ≤ 2048 := Nat.le_trans (pM_length_le _ _) (by omega)
  have lBA : (pM (pN (ys.take 40)) (pN (xs.take 40))).length ≤ 2048 := Nat.le_trans (pM_length_le _ _) (by omega)
  have lAC : (pM (pN (xs.take 40)) (pN (zs.take 40))).length ≤ 2048 := Nat.le_trans (pM_length_le _ _) (by omega)
  have pSl : (pS (ys.take 40) (zs.take 40)).length ≤ 40 := by unfold pS; rw [mk_length]; omega
  have nS : (pN (pS (ys.take 40) (zs.take 40))).length ≤ 40 := by rw [pN_length]; have := sig_le (pS (ys.take 40) (zs.take 40)); omega
  have lS : (pN (pS (ys.take 40) (zs.take 40))).length ≤ 2048 := by omega
  have lAS : (pM (pN (xs.take 40)) (pN (pN (pS (ys.take 40) (zs.take 40))))).length ≤ 2048 := Nat.le_trans (pM_length_le _ _) (by rw [pN_pN]; omega)
  have cM := field_Mul (pE (xs.take 40) x) (pE (ys.take 40) x) (pE_lt64 _ _) (pE_lt64 _ _)
  rw [pE_mul] at cM
  have hlen := pM_length (xs.take 40) (ys.take 40)
  rw [← pN_length, ← pN_length] at hlen
  rw [if_pos (by omega)] at hlen
  have hfin : (((pM (pN (xs.take 40)) (pN (ys.take 40))).length : Int) == 0) = true := by rw [beq_iff_eq]; omega
  clear hlen
  have hda : decide (0 < (pN (xs.take 40)).length) = false := decide_eq_false (by omega)
  have hda' : ((pN (xs.take 40)).length : Int) ≤ 0 := by omega
  have cE := fun W v l h hl => poly_Eval_ok W v l x h hl hx
  have nA' : ((pN (xs.take 40)).length : Int) ≤ 40 := by omega
  have nB' : ((pN (ys.take 40)).length : Int) ≤ 40 := by omega
  clear sA sB tA tB tC nA nB nC pSl nS h0 h1 h2 hx
  have tk1 : True := trivial
  have tk2 : True := trivial
  have tk3 : True := trivial
  have tk4 : True := trivial
  have tk5 : True := trivial
  have tk6 : True := trivial
  have tk7 : True := trivial
  have tk8 : True := trivial
  have tk9 : True := trivial
  have tk10 : True := trivial
  have tk11 : True := trivial
  have tk12 : True := trivial
  have tk13 : True := trivial
  have tk14 : True := trivial
  have tk15 : True := trivial
  have tk16 : True := trivial
  have tk17 : True := trivial
  have tk18 : True := trivial
  have tk19 : True := trivial
  have tk20 : True := trivial
  go_enter Try.func6, Try.ntmps6
  go_wp2_with (first
    | (go_at_call 17; have _t := tk1; refine Calls.mono (poly_Mul_ok _ _ _ [1, 1] [18446744069414584320, 1] hL1 hL2 (by decide) (by decide) (by decide)) ?_; rintro e w101 ⟨p0, rfl, hP0, hb⟩; clear tk1; replace hb := below_alloc hb; replace hb := below_alloc hb; replace hA := hA.below hb; replace hB := hB.below hb; replace hC := hC.below hb; replace hW := hW.trans (hb.mono hW.size); clear hb)
    | (go_at_call 18; have _t := tk2; refine Calls.mono (slices_Equal _ _ _ [18446744069414584320, 0, 1] ((hP0.cast ex_mul).below (below_alloc1 _ _)) (IsU.lit3 _ 22 18446744069414584320 0 1 (by decide) (by decide) (by decide))) ?_; rintro e w102 ⟨rfl, hb⟩; clear tk2; replace hb := below_alloc hb; replace hA := hA.below hb; replace hB := hB.below hb; replace hC := hC.below hb; replace hP0 := hP0.below hb; replace hW := hW.trans (hb.mono hW.size); clear hb)
    | (go_at_call 19; have _t := tk3; refine Calls.mono (k_short40 _ _ xs hA) ?_; rintro e w' ⟨⟨sa, rfl, hsa⟩, hw⟩; rw [hw]; clear hw; clear tk3)
    | (go_at_call 19; have _t := tk4; refine Calls.mono (k_short40 _ _ ys hB) ?_; rintro e w' ⟨⟨sb, rfl, hsb⟩, hw⟩; rw [hw]; clear hw; clear tk4)
    | (go_at_call 19; have _t := tk5; refine Calls.mono (k_short40 _ _ zs hC) ?_; rintro e w' ⟨⟨sc, rfl, hsc⟩, hw⟩; rw [hw]; clear hw; clear tk5)
    | (go_at_call 17; have _t := tk6; refine Calls.mono (poly_Mul_ok _ _ _ (xs.take 40) (ys.take 40) hsa hsb lA lB lAB) ?_; rintro e w106 ⟨ab, rfl, hAB, hb⟩; clear tk6; replace hA := hA.below hb; replace hB := hB.below hb; replace hC := hC.below hb; replace hP0 := hP0.below hb; replace hsa := hsa.below hb; replace hsb := hsb.below hb; replace hsc := hsc.below hb; replace hW := hW.trans (hb.mono hW.size); clear hb; have hs0 := hAB; obtain ⟨aab, cab, rfl, -⟩ := hs0)
    | (go_at_call 17; have _t := tk7; refine Calls.mono (poly_Mul_ok _ _ _ (ys.take 40) (xs.take 40) hsb hsa lB lA lBA) ?_; rintro e w107 ⟨ba, rfl, hBA, hb⟩; clear tk7; replace hA := hA.below hb; replace hB := hB.below hb; replace hC := hC.below hb; replace hP0 := hP0.below hb; replace hsa := hsa.below hb; replace hsb := hsb.below hb; replace hsc := hsc.below hb; replace hAB := hAB.below hb; replace hW := hW.trans (hb.mono hW.size); clear hb)
    | (go_at_call 20; have _t := tk8; refine Calls.mono (poly_Add_ok _ _ _ (ys.take 40) (zs.take 40) hsb hsc lB lC) ?_; rintro e w108 ⟨sm, rfl, hSm, hb⟩; clear tk8; replace hA := hA.below hb; replace hB := hB.below hb; replace hC := hC.below hb; replace hP0 := hP0.below hb; replace hsa := hsa.below hb; replace hsb := hsb.below hb; replace hsc := hsc.below hb; replace hAB := hAB.below hb; replace hBA := hBA.below hb; replace hW := hW.trans (hb.mono hW.size); clear hb)
    | (go_at_call 17; have _t := tk9; refine Calls.mono (poly_Mul_ok _ _ _ (xs.take 40) (pN (pS (ys.take 40) (zs.take 40))) hsa hSm lA lS lAS) ?_; rintro e w109 ⟨lf, rfl, hLf, hb⟩; clear tk9; replace hA := hA.below hb; replace hB := hB.below hb; replace hC := hC.below hb; replace hP0 := hP0.below hb; replace hsa := hsa.below hb; replace hsb := hsb.below hb; replace hsc := hsc.below hb; replace hAB := hAB.below hb; replace hBA := hBA.below hb; replace hSm := hSm.below hb; replace hW := hW.trans (hb.mono hW.size); clear hb)
    | (go_at_call 17; have _t := tk10; refine Calls.mono (poly_Mul_ok _ _ _ (xs.take 40) (zs.take 40) hsa hsc lA lC lAC) ?_; rintro e w110 ⟨ac, rfl, hAC, hb⟩; clear tk10; replace hA := hA.below hb; replace hB := hB.below hb; replace hC := hC.below hb; replace hP0 := hP0.below hb; replace hsa := hsa.below hb; replace hsb := hsb.below hb; replace hsc := hsc.below hb; replace hAB := hAB.below hb; replace hBA := hBA.below hb; replace hSm := hSm.below hb; replace hLf := hLf.below hb; replace hW := hW.trans (hb.mono hW.size); clear hb)
    | (go_at_call 20; have _t := tk11; refine Calls.mono (poly_Add_ok _ _ _ (pM (pN (xs.take 40)) (pN (ys.take 40))) (pM (pN (xs.take 40)) (pN (zs.take 40))) hAB hAC lAB lAC) ?_; rintro e w111 ⟨rt, rfl, hRt, hb⟩; clear tk11; replace hA := hA.below hb; replace hB := hB.below hb; replace hC := hC.below hb; replace hP0 := hP0.below hb; replace hsa := hsa.below hb; replace hsb := hsb.below hb; replace hsc := hsc.below hb; replace hAB := hAB.below hb; replace hBA := hBA.below hb; replace hSm := hSm.below hb; replace hLf := hLf.below hb; replace hAC := hAC.below hb; replace hW := hW.trans (hb.mono hW.size); clear hb)
    | (go_at_call 21; have _t := tk12; refine Calls.mono (cE _ _ (xs.take 40) hsa lA) ?_; rintro e w112 ⟨rfl, hb⟩; clear tk12; replace hA := hA.below hb; replace hB := hB.below hb; replace hC := hC.below hb; replace hP0 := hP0.below hb; replace hsa := hsa.below hb; replace hsb := hsb.below hb; replace hsc := hsc.below hb; replace hAB := hAB.below hb; replace hBA := hBA.below hb; replace hSm := hSm.below hb; replace hLf := hLf.below hb; replace hAC := hAC.below hb; replace hRt := hRt.below hb; replace hW := hW.trans (hb.mono hW.size); clear hb)
    | (go_at_call 21; have _t := tk13; refine Calls.mono (cE _ _ (ys.take 40) hsb lB) ?_; rintro e w113 ⟨rfl, hb⟩; clear tk13; replace hA := hA.below hb; replace hB := hB.below hb; replace hC := hC.below hb; replace hP0 := hP0.below hb; replace hsa := hsa.below hb; replace hsb := hsb.below hb; replace hsc := hsc.below hb; replace hAB := hAB.below hb; replace hBA := hBA.below hb; replace hSm := hSm.below hb; replace hLf := hLf.below hb; replace hAC := hAC.below hb; replace hRt := hRt.below hb; replace hW := hW.trans (hb.mono hW.size); clear hb)
    | (go_at_call 21; have _t := tk14; refine Calls.mono (cE _ _ (pM (pN (xs.take 40)) (pN (ys.take 40))) hAB lAB) ?_; rintro e w114 ⟨rfl, hb⟩; clear tk14; replace hA := hA.below hb; replace hB := hB.below hb; replace hC := hC.below hb; replace hP0 := hP0.below hb; replace hsa := hsa.below hb; replace hsb := hsb.below hb; replace hsc := hsc.below hb; replace hAB := hAB.below hb; replace hBA := hBA.below hb; replace hSm := hSm.below hb; replace hLf := hLf.below hb; replace hAC := hAC.below hb; replace hRt := hRt.below hb; replace hW := hW.trans (hb.mono hW.size); clear hb)
    | (go_at_call 22; have _t := tk15; refine Calls.mono (poly_Norm_ok _ _ (xs.take 40) hsa lA) ?_; rintro e w115 ⟨na, rfl, hNa, hb⟩; clear tk15; replace hA := hA.below hb; replace hB := hB.below hb; replace hC := hC.below hb; replace hP0 := hP0.below hb; replace hsa := hsa.below hb; replace hsb := hsb.below hb; replace hsc := hsc.below hb; replace hAB := hAB.below hb; replace hBA := hBA.below hb; replace hSm := hSm.below hb; replace hLf := hLf.below hb; replace hAC := hAC.below hb; replace hRt := hRt.below hb; replace hW := hW.trans (hb.mono hW.size); clear hb; have hs0 := hNa; obtain ⟨ana, cna, rfl, -⟩ := hs0)
    | (go_at_call 22; have _t := tk16; refine Calls.mono (poly_Norm_ok _ _ (ys.take 40) hsb lB) ?_; rintro e w116 ⟨nb, rfl, hNb, hb⟩; clear tk16; replace hA := hA.below hb; replace hB := hB.below hb; replace hC := hC.below hb; replace hP0 := hP0.below hb; replace hsa := hsa.below hb; replace hsb := hsb.below hb; replace hsc := hsc.below hb; replace hAB := hAB.below hb; replace hBA := hBA.below hb; replace hSm := hSm.below hb; replace hLf := hLf.below hb; replace hAC := hAC.below hb; replace hRt := hRt.below hb; replace hNa := hNa.below hb; replace hW := hW.trans (hb.mono hW.size); clear hb; have hs0 := hNb; obtain ⟨anb, cnb, rfl, -⟩ := hs0)
    | (go_at_call 18; have _t := tk17; refine Calls.mono (slices_Equal _ _ _ (pM (pN (xs.take 40)) (pN (ys.take 40))) hAB (hBA.cast (pM_comm _ _))) ?_; rintro e w117 ⟨rfl, hb⟩; clear tk17; replace hA := hA.below hb; replace hB := hB.below hb; replace hC := hC.below hb; replace hP0 := hP0.below hb; replace hsa := hsa.below hb; replace hsb := hsb.below hb; replace hsc := hsc.below hb; replace hAB := hAB.below hb; replace hBA := hBA.below hb; replace hSm := hSm.below hb; replace hLf := hLf.below hb; replace hAC := hAC.below hb; replace hRt := hRt.below hb; replace hNa := hNa.below hb; replace hNb := hNb.below hb; replace hW := hW.trans (hb.mono hW.size); clear hb)
    | (go_at_call 18; have _t := tk18; refine Calls.mono (slices_Equal _ _ _ (pM (pN (xs.take 40)) (pN (pN (pS (ys.take 40) (zs.take 40))))) hLf (hRt.cast (pM_pS _ _ _).symm)) ?_; rintro e w118 ⟨rfl, hb⟩; clear tk18; replace hA := hA.below hb; replace hB := hB.below hb; replace hC := hC.below hb; replace hP0 := hP0.below hb; replace hsa := hsa.below hb; replace hsb := hsb.below hb; replace hsc := hsc.below hb; replace hAB := hAB.below hb; replace hBA := hBA.below hb; replace hSm := hSm.below hb; replace hLf := hLf.below hb; replace hAC := hAC.below hb; replace hRt := hRt.below hb; replace hNa := hNa.below hb; replace hNb := hNb.below hb; replace hW := hW.trans (hb.mono hW.size); clear hb)
    | (go_at_call 9; have _t := tk19; refine Calls.mono (cM _) ?_; rintro e w' ⟨rfl, hw⟩; rw [hw]; clear hw tk19)
    | (go_at_call 23; have _t := tk20; refine Calls.mono (keep_one_false _) ?_; rintro e w' ⟨rfl, hw⟩; rw [hw]; clear hw tk20))
  all_goals
    go_ret
    exact ⟨rfl, hW⟩

set_option maxHeartbeats 4000000 in
theorem polyRing_noney (w : World) (v v' v'' : Value) (xs ys zs : List Nat) (x : Nat) (h0 : IsU w v xs) (h1 : IsU w v' ys) (h2 : IsU w v'' zs) (hx : (x : Int) < 18446744073709551616) (ha : (pN (xs.take 40)).length ≠ 0) (hb0 : (pN (ys.take 40)).length = 0) :
    Calls Try.prog 6 #[v, v', v'', .int .u64 (x : Int)] w fun e w' => e = .returned (.bool true) ∧ Below w.heap.size w w' := by
  have hW : Below w.heap.size w w := Below.refl _ _
  have hA := h0
  have hB := h1
  have hC := h2
  have hL1 : IsU ((w.alloc (.cells #[.int .u64 1, .int .u64 1] 22)).alloc (.cells #[.int .u64 18446744069414584320, .int .u64 1] 22)) (.slice (some ⟨w.heap.size, 0, none⟩) 2 2) [1, 1] := (IsU.lit2 w 22 1 1 (by decide) (by decide)).below (below_alloc1 _ _)
  have hL2 : IsU ((w.alloc (.cells #[.int .u64 1, .int .u64 1] 22)).alloc (.cells #[.int .u64 18446744069414584320, .int .u64 1] 22)) (.slice (some ⟨w.heap.size + 1, 0, none⟩) 2 2) [18446744069414584320, 1] := (IsU.lit2 (w.alloc (.cells #[.int .u64 1, .int .u64 1] 22)) 22 18446744069414584320 1 (by decide) (by decide)).at (by simp)
  have sA := sig_le (xs.take 40)
  have sB := sig_le (ys.take 40)
  have tA : (xs.take 40).length ≤ 40 := by simp; omega
  have tB : (ys.take 40).length ≤ 40 := by simp; omega
  have tC : (zs.take 40).length ≤ 40 := by simp; omega
  have lA : (xs.take 40).length ≤ 2048 := by omega
  have lB : (ys.take 40).length ≤ 2048 := by omega
  have lC : (zs.take 40).length ≤ 2048 := by omega
  have nA : (pN (xs.take 40)).length ≤ 40 := by rw [pN_length]; omega
  have nB : (pN (ys.take 40)).length ≤ 40 := by rw [pN_length]; omega
  have nC : (pN (zs.take 40)).length ≤ 40 := by rw [pN_length]; have := sig_le (zs.take 40); omega
  have lAB : (pM (pN (xs.take 40)) (pN (ys.take 40))).length ≤ 2048 := Nat.le_trans (pM_length_le _ _) (by omega)
  have lBA : (pM (pN (ys.take 40)) (pN (xs.take 40))).length ≤ 2048 := Nat.le_trans (pM_length_le _ _) (by omega)
  have lAC : (pM (pN (xs.take 40)) (pN (zs.take 40))).length ≤ 2048 := Nat.le_trans (pM_length_le _ _) (by omega)
  have pSl : (pS (ys.take 40) (zs.take 40)).length ≤ 40 := by unfold pS; rw [mk_length]; omega
  have nS : (pN (pS (ys.take 40) (zs.take 40))).length ≤ 40 := by rw [pN_length]; have := sig_le (pS (ys.take 40) (zs.take 40)); omega
  have lS : (pN (pS (ys.take 40) (zs.take 40))).length ≤ 2048 := by omega
  have lAS : (pM (pN (xs.take 40)) (pN (pN (pS (ys.take 40) (zs.take 40))))).length ≤ 2048 := Nat.le_trans (pM_length_le _ _) (by rw [pN_pN]; omega)
  have cM := field_Mul (pE (xs.take 40) x) (pE (ys.take 40) x) (pE_lt64 _ _) (pE_lt64 _ _)
  rw [pE_mul] at cM
  have hlen := pM_length (xs.take 40) (ys.take 40)
  rw [← pN_length, ← pN_length] at hlen
  rw [if_pos (by omega)] at hlen
  have hfin : (((pM (pN (xs.take 40)) (pN (ys.take 40))).length : Int) == 0) = true := by rw [beq_iff_eq]; omega
  clear hlen
  have hda : decide (0 < (pN (xs.take 40)).length) = true := decide_eq_true (by omega)
  have hdb : decide (0 < (pN (ys.take 40)).length) = false := decide_eq_false (by omega)
  have hda' : (0 : Int) < ((pN (xs.take 40)).length : Int) := by omega
  have hdb' : ((pN (ys.take 40)).length : Int) ≤ 0 := by omega
  have cE := fun W v l h hl => poly_Eval_ok W v l x h hl hx
  have nA' : ((pN (xs.take 40)).length : Int) ≤ 40 := by omega
  have nB' : ((pN (ys.take 40)).length : Int) ≤ 40 := by omega
  clear sA sB tA tB tC nA nB nC pSl nS h0 h1 h2 hx
  have tk1 : True := trivial
  have tk2 : True := trivial
  have tk3 : True := trivial
  have tk4 : True := trivial
  have tk5 : True := trivial
  have tk6 : True := trivial
  have tk7 : True := trivial
  have tk8 : True := trivial
  have tk9 : True := trivial
  have tk10 : True := trivial
  have tk11 : True := trivial
  have tk12 : True := trivial
  have tk13 : True := trivial
  have tk14 : True := trivial
  have tk15 : True := trivial
  have tk16 : True := trivial
  have tk17 : True := trivial
  have tk18 : True := trivial
  have tk19 : True := trivial
  have tk20 : True := trivial
  go_enter Try.func6, Try.ntmps6
  go_wp2_with (first
    | (go_at_call 17; have _t := tk1; refine Calls.mono (poly_Mul_ok _ _ _ [1, 1] [18446744069414584320, 1] hL1 hL2 (by decide) (by decide) (by decide)) ?_; rintro e w101 ⟨p0, rfl, hP0, hb⟩; clear tk1; replace hb := below_alloc hb; replace hb := below_alloc hb; replace hA := hA.below hb; replace hB := hB.below hb; replace hC := hC.below hb; replace hW := hW.trans (hb.mono hW.size); clear hb)
    | (go_at_call 18; have _t := tk2; refine Calls.mono (slices_Equal _ _ _ [18446744069414584320, 0, 1] ((hP0.cast ex_mul).below (below_alloc1 _ _)) (IsU.lit3 _ 22 18446744069414584320 0 1 (by decide) (by decide) (by decide))) ?_; rintro e w102 ⟨rfl, hb⟩; clear tk2; replace hb := below_alloc hb; replace hA := hA.below hb; replace hB := hB.below hb; replace hC := hC.below hb; replace hP0 := hP0.below hb; replace hW := hW.trans (hb.mono hW.size); clear hb)
    | (go_at_call 19; have _t := tk3; refine Calls.mono (k_short40 _ _ xs hA) ?_; rintro e w' ⟨⟨sa, rfl, hsa⟩, hw⟩; rw [hw]; clear hw; clear tk3)
    | (go_at_call 19; have _t := tk4; refine Calls.mono (k_short40 _ _ ys hB) ?_; rintro e w' ⟨⟨sb, rfl, hsb⟩, hw⟩; rw [hw]; clear hw; clear tk4)
    | (go_at_call 19; have _t := tk5; refine Calls.mono (k_short40 _ _ zs hC) ?_; rintro e w' ⟨⟨sc, rfl, hsc⟩, hw⟩; rw [hw]; clear hw; clear tk5)
    | (go_at_call 17; have _t := tk6; refine Calls.mono (poly_Mul_ok _ _ _ (xs.take 40) (ys.take 40) hsa hsb lA lB lAB) ?_; rintro e w106 ⟨ab, rfl, hAB, hb⟩; clear tk6; replace hA := hA.below hb; replace hB := hB.below hb; replace hC := hC.below hb; replace hP0 := hP0.below hb; replace hsa := hsa.below hb; replace hsb := hsb.below hb; replace hsc := hsc.below hb; replace hW := hW.trans (hb.mono hW.size); clear hb; have hs0 := hAB; obtain ⟨aab, cab, rfl, -⟩ := hs0)
    | (go_at_call 17; have _t := tk7; refine Calls.mono (poly_Mul_ok _ _ _ (ys.take 40) (xs.take 40) hsb hsa lB lA lBA) ?_; rintro e w107 ⟨ba, rfl, hBA, hb⟩; clear tk7; replace hA := hA.below hb; replace hB := hB.below hb; replace hC := hC.below hb; replace hP0 := hP0.below hb; replace hsa := hsa.below hb; replace hsb := hsb.below hb; replace hsc := hsc.below hb; replace hAB := hAB.below hb; replace hW := hW.trans (hb.mono hW.size); clear hb)
    | (go_at_call 20; have _t := tk8; refine Calls.mono (poly_Add_ok _ _ _ (ys.take 40) (zs.take 40) hsb hsc lB lC) ?_; rintro e w108 ⟨sm, rfl, hSm, hb⟩; clear tk8; replace hA := hA.below hb; replace hB := hB.below hb; replace hC := hC.below hb; replace hP0 := hP0.below hb; replace hsa := hsa.below hb; replace hsb := hsb.below hb; replace hsc := hsc.below hb; replace hAB := hAB.below hb; replace hBA := hBA.below hb; replace hW := hW.trans (hb.mono hW.size); clear hb)
    | (go_at_call 17; have _t := tk9; refine Calls.mono (poly_Mul_ok _ _ _ (xs.take 40) (pN (pS (ys.take 40) (zs.take 40))) hsa hSm lA lS lAS) ?_; rintro e w109 ⟨lf, rfl, hLf, hb⟩; clear tk9; replace hA := hA.below hb; replace hB := hB.below hb; replace hC := hC.below hb; replace hP0 := hP0.below hb; replace hsa := hsa.below hb; replace hsb := hsb.below hb; replace hsc := hsc.below hb; replace hAB := hAB.below hb; replace hBA := hBA.below hb; replace hSm := hSm.below hb; replace hW := hW.trans (hb.mono hW.size); clear hb)
    | (go_at_call 17; have _t := tk10; refine Calls.mono (poly_Mul_ok _ _ _ (xs.take 40) (zs.take 40) hsa hsc lA lC lAC) ?_; rintro e w110 ⟨ac, rfl, hAC, hb⟩; clear tk10; replace hA := hA.below hb; replace hB := hB.below hb; replace hC := hC.below hb; replace hP0 := hP0.below hb; replace hsa := hsa.below hb; replace hsb := hsb.below hb; replace hsc := hsc.below hb; replace hAB := hAB.below hb; replace hBA := hBA.below hb; replace hSm := hSm.below hb; replace hLf := hLf.below hb; replace hW := hW.trans (hb.mono hW.size); clear hb)
    | (go_at_call 20; have _t := tk11; refine Calls.mono (poly_Add_ok _ _ _ (pM (pN (xs.take 40)) (pN (ys.take 40))) (pM (pN (xs.take 40)) (pN (zs.take 40))) hAB hAC lAB lAC) ?_; rintro e w111 ⟨rt, rfl, hRt, hb⟩; clear tk11; replace hA := hA.below hb; replace hB := hB.below hb; replace hC := hC.below hb; replace hP0 := hP0.below hb; replace hsa := hsa.below hb; replace hsb := hsb.below hb; replace hsc := hsc.below hb; replace hAB := hAB.below hb; replace hBA := hBA.below hb; replace hSm := hSm.below hb; replace hLf := hLf.below hb; replace hAC := hAC.below hb; replace hW := hW.trans (hb.mono hW.size); clear hb)
    | (go_at_call 21; have _t := tk12; refine Calls.mono (cE _ _ (xs.take 40) hsa lA) ?_; rintro e w112 ⟨rfl, hb⟩; clear tk12; replace hA := hA.below hb; replace hB := hB.below hb; replace hC := hC.below hb; replace hP0 := hP0.below hb; replace hsa := hsa.below hb; replace hsb := hsb.below hb; replace hsc := hsc.below hb; replace hAB := hAB.below hb; replace hBA := hBA.below hb; replace hSm := hSm.below hb; replace hLf := hLf.below hb; replace hAC := hAC.below hb; replace hRt := hRt.below hb; replace hW := hW.trans (hb.mono hW.size); clear hb)
    | (go_at_call 21; have _t := tk13; refine Calls.mono (cE _ _ (ys.take 40) hsb lB) ?_; rintro e w113 ⟨rfl, hb⟩; clear tk13; replace hA := hA.below hb; replace hB := hB.below hb; replace hC := hC.below hb; replace hP0 := hP0.below hb; replace hsa := hsa.below hb; replace hsb := hsb.below hb; replace hsc := hsc.below hb; replace hAB := hAB.below hb; replace hBA := hBA.below hb; replace hSm := hSm.below hb; replace hLf := hLf.below hb; replace hAC := hAC.below hb; replace hRt := hRt.below hb; replace hW := hW.trans (hb.mono hW.size); clear hb)
    | (go_at_call 21; have _t := tk14; refine Calls.mono (cE _ _ (pM (pN (xs.take 40)) (pN (ys.take 40))) hAB lAB) ?_; rintro e w114 ⟨rfl, hb⟩; clear tk14; replace hA := hA.below hb; replace hB := hB.below hb; replace hC := hC.below hb; replace hP0 := hP0.below hb; replace hsa := hsa.below hb; replace hsb := hsb.below hb; replace hsc := hsc.below hb; replace hAB := hAB.below hb; replace hBA := hBA.below hb; replace hSm := hSm.below hb; replace hLf := hLf.below hb; replace hAC := hAC.below hb; replace hRt := hRt.below hb; replace hW := hW.trans (hb.mono hW.size); clear hb)
    | (go_at_call 22; have _t := tk15; refine Calls.mono (poly_Norm_ok _ _ (xs.take 40) hsa lA) ?_; rintro e w115 ⟨na, rfl, hNa, hb⟩; clear tk15; replace hA := hA.below hb; replace hB := hB.below hb; replace hC := hC.below hb; replace hP0 := hP0.below hb; replace hsa := hsa.below hb; replace hsb := hsb.below hb; replace hsc := hsc.below hb; replace hAB := hAB.below hb; replace hBA := hBA.below hb; replace hSm := hSm.below hb; replace hLf := hLf.below hb; replace hAC := hAC.below hb; replace hRt := hRt.below hb; replace hW := hW.trans (hb.mono hW.size); clear hb; have hs0 := hNa; obtain ⟨ana, cna, rfl, -⟩ := hs0)
    | (go_at_call 22; have _t := tk16; refine Calls.mono (poly_Norm_ok _ _ (ys.take 40) hsb lB) ?_; rintro e w116 ⟨nb, rfl, hNb, hb⟩; clear tk16; replace hA := hA.below hb; replace hB := hB.below hb; replace hC := hC.below hb; replace hP0 := hP0.below hb; replace hsa := hsa.below hb; replace hsb := hsb.below hb; replace hsc := hsc.below hb; replace hAB := hAB.below hb; replace hBA := hBA.below hb; replace hSm := hSm.below hb; replace hLf := hLf.below hb; replace hAC := hAC.below hb; replace hRt := hRt.below hb; replace hNa := hNa.below hb; replace hW := hW.trans (hb.mono hW.size); clear hb; have hs0 := hNb; obtain ⟨anb, cnb, rfl, -⟩ := hs0)
    | (go_at_call 18; have _t := tk17; refine Calls.mono (slices_Equal _ _ _ (pM (pN (xs.take 40)) (pN (ys.take 40))) hAB (hBA.cast (pM_comm _ _))) ?_; rintro e w117 ⟨rfl, hb⟩; clear tk17; replace hA := hA.below hb; replace hB := hB.below hb; replace hC := hC.below hb; replace hP0 := hP0.below hb; replace hsa := hsa.below hb; replace hsb := hsb.below hb; replace hsc := hsc.below hb; replace hAB := hAB.below hb; replace hBA := hBA.below hb; replace hSm := hSm.below hb; replace hLf := hLf.below hb; replace hAC := hAC.below hb; replace hRt := hRt.below hb; replace hNa := hNa.below hb; replace hNb := hNb.below hb; replace hW := hW.trans (hb.mono hW.size); clear hb)
    | (go_at_call 18; have _t := tk18; refine Calls.mono (slices_Equal _ _ _ (pM (pN (xs.take 40)) (pN (pN (pS (ys.take 40) (zs.take 40))))) hLf (hRt.cast (pM_pS _ _ _).symm)) ?_; rintro e w118 ⟨rfl, hb⟩; clear tk18; replace hA := hA.below hb; replace hB := hB.below hb; replace hC := hC.below hb; replace hP0 := hP0.below hb; replace hsa := hsa.below hb; replace hsb := hsb.below hb; replace hsc := hsc.below hb; replace hAB := hAB.below hb; replace hBA := hBA.below hb; replace hSm := hSm.below hb; replace hLf := hLf.below hb; replace hAC := hAC.below hb; replace hRt := hRt.below hb; replace hNa := hNa.below hb; replace hNb := hNb.below hb; replace hW := hW.trans (hb.mono hW.size); clear hb)
    | (go_at_call 9; have _t := tk19; refine Calls.mono (cM _) ?_; rintro e w' ⟨rfl, hw⟩; rw [hw]; clear hw tk19)
    | (go_at_call 23; have _t := tk20; refine Calls.mono (keep_one_false _) ?_; rintro e w' ⟨rfl, hw⟩; rw [hw]; clear hw tk20))
  all_goals
    go_ret
    exact ⟨rfl, hW⟩

theorem polyRing_walk (w : World) (v : Value) (xs : List Nat) (h : IsU w v xs) (v' : Value) (ys : List Nat) (h' : IsU w v' ys) (v'' : Value) (zs : List Nat) (h'' : IsU w v'' zs) (a3 : Int) (w3 : (Lit.int .u64 a3).wf = true) :
    Calls Try.prog 6 #[v, v', v'', .int .u64 a3] w fun e w' => e = .returned (.bool true) ∧ Below w.heap.size w w' := by
  obtain ⟨x, rfl, hx⟩ := nat_of_u64 w3
  by_cases ha : (pN (xs.take 40)).length = 0
  · exact polyRing_nonex w v v' v'' xs ys zs x h h' h'' hx ha
  · by_cases hb0 : (pN (ys.take 40)).length = 0
    · exact polyRing_noney w v v' v'' xs ys zs x h h' h'' hx ha hb0
    · exact polyRing_both w v v' v'' xs ys zs x h h' h'' hx ha hb0

end Go.Proofs.Ytpoekkbofhdnnad
