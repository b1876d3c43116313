/-
  The walk of the law NttBack: whatever is handed in, back and forth a list is what it was, either way, the transform of a sum is the sum of transforms, and the law returns true.
-/
import Derived.Test.YtkiflapifdbgkaeDoorKeepFour
import Derived.Test.YtkiflapifdbgkaeDoorKeepSized
import Derived.Test.YtkiflapifdbgkaeDoorFieldB
import Derived.Test.YtkiflapifdbgkaeDoorSlRow
import Derived.Deep.RegionWith
namespace Go.Proofs.YtkiflapifdbgkaeDoor
open Go.RowKit

theorem nat_of_u64 {a : Int} (h : (Lit.int .u64 a).wf = true) : ∃ n : Nat, a = (n : Int) ∧ (n : Int) < 18446744073709551616 := by
  have b := bounds_u64 h
  exact ⟨a.toNat, by omega, by omega⟩
theorem mk_cf_getD (l : List Nat) (n m : Nat) (h : m < n) : (mk n (cf l)).getD m 0 = fN (l.getD m 0) := by
  rw [mk_getD n _ m h, fN_val]; rfl

set_option maxHeartbeats 8000000 in
theorem nttBack_nat (w : World) (v v' : Value) (xs ys : List Nat) (k : Int) (c j n : Nat) (h : IsU w v xs) (h' : IsU w v' ys) (hc : (c : Int) < 18446744073709551616) (hkj : k % 7 = (j : Int)) (hj6 : j ≤ 6) (hn0 : n = 2 ^ j) (hTb : Tab w) :
    Calls Tryd.prog 3 #[v, v', .int .i64 k, .int .u64 (c : Int)] w fun e w' => e = .returned (.bool true) ∧ Below w.heap.size w w' := by
  have hn : Hid (n = 2 ^ j) := hn0
  have hW : Below w.heap.size w w := Below.refl _ _
  have hX := h
  have hY := h'
  have h64 : n ≤ 64 := by rw [hn0]; exact (two_pow_six j hj6).2
  have hpos : 0 < n := by rw [hn0]; exact Nat.pow_pos (by decide)
  have lA : (szd xs n).length = n := szd_length xs n
  have lB : (szd ys n).length = n := szd_length ys n
  have lF : (mk n (fw (szd xs n) j)).length = n := mk_length _ _
  have lJ : (mk n (bw (szd xs n) j)).length = n := mk_length _ _
  have cF : ∀ (W : World) (u : Value) (l : List Nat), IsU W u l → l.length = n → Below w.heap.size w W → Calls Tryd.prog 7 #[u] W fun e w' => ∃ u', e = .returned (.tuple #[u', .int .i64 0]) ∧ IsU w' u' (mk n (fw l j)) ∧ Below W.heap.size W w' := by
    intro W u l h1 h2 h3
    subst hn0
    exact ntt_Forward_ok W u l j h1 (hTb.below h3) h2 (by omega)
  have cI : ∀ (W : World) (u : Value) (l : List Nat), IsU W u l → l.length = n → Below w.heap.size w W → Calls Tryd.prog 8 #[u] W fun e w' => ∃ u', e = .returned (.tuple #[u', .int .i64 0]) ∧ IsU w' u' (mk n (bw l j)) ∧ Below W.heap.size W w' := by
    intro W u l h1 h2 h3
    subst hn0
    exact ntt_Inverse_ok W u l j h1 (hTb.below h3) h2 (by omega)
  have eBF : mk n (bw (mk n (fw (szd xs n) j)) j) = mk n (cf (szd xs n)) := by subst hn0; exact back_forth _ j (by omega)
  have eFB : mk n (fw (mk n (bw (szd xs n) j)) j) = mk n (cf (szd xs n)) := by subst hn0; exact forth_back _ j (by omega)
  have eLin : Hid (∀ m, fw (mk n (fun i => toF c * cf (szd xs n) i + cf (szd ys n) i)) j m = toF c * fw (szd xs n) j m + fw (szd ys n) j m) := by
    intro m
    subst hn0
    exact fw_lin _ _ _ j m
  have eBF' : Hid (mk n (bw (mk n (fw (szd xs n) j)) j) = mk n (cf (szd xs n))) := eBF
  have cM := fun (x : Nat) (hx : (x : Int) < 18446744073709551616) => field_Mul c x hc hx
  have hn9 : n ≤ 1000000000 := by omega
  clear hn0 h h' hc
  have tk1 : True := trivial
  have tk2 : True := trivial
  have tk3 : True := trivial
  have tk4 : True := trivial
  have tk5 : True := trivial
  have tk6 : True := trivial
  have tk7 : True := trivial
  have tk8 : True := trivial
  go_enter Tryd.func3, Tryd.ntmps3
  go_wp2_with (first
    | (go_at_call 5; have _t := tk1; refine Calls.mono (keep_four _ (hTb.below hW)) ?_; rintro e w101 ⟨rfl, hb⟩; clear tk1; replace hX := hX.below hb; replace hY := hY.below hb; replace hW := hW.trans (hb.mono hW.size); clear hb)
    | (go_at_call 6; have _t := tk2; refine Calls.mono (keep_sizedU _ _ xs k j n hX hkj hj6 hn.out) ?_; rintro e w102 ⟨g1, rfl, hA, hb⟩; clear tk2; replace hX := hX.below hb; replace hY := hY.below hb; replace hW := hW.trans (hb.mono hW.size); clear hb)
    | (go_at_call 6; have _t := tk3; refine Calls.mono (keep_sizedU _ _ ys k j n hY hkj hj6 hn.out) ?_; rintro e w103 ⟨g2, rfl, hB, hb⟩; clear tk3; replace hX := hX.below hb; replace hY := hY.below hb; replace hA := hA.below hb; replace hW := hW.trans (hb.mono hW.size); clear hb)
    | (go_at_call 7; have _t := tk4; refine Calls.mono (cF _ _ (szd xs n) hA lA hW) ?_; rintro e w104 ⟨f1, rfl, hF, hb⟩; clear tk4; replace hX := hX.below hb; replace hY := hY.below hb; replace hA := hA.below hb; replace hB := hB.below hb; replace hW := hW.trans (hb.mono hW.size); clear hb)
    | (go_at_call 8; have _t := tk5; refine Calls.mono (cI _ _ (mk n (fw (szd xs n) j)) hF lF hW) ?_; rintro e w105 ⟨i1, rfl, hI, hb⟩; clear tk5; replace hX := hX.below hb; replace hY := hY.below hb; replace hA := hA.below hb; replace hB := hB.below hb; replace hF := hF.below hb; replace hW := hW.trans (hb.mono hW.size); clear hb)
    | (go_at_call 8; have _t := tk6; refine Calls.mono (cI _ _ (szd xs n) hA lA hW) ?_; rintro e w106 ⟨j1, rfl, hJ, hb⟩; clear tk6; replace hX := hX.below hb; replace hY := hY.below hb; replace hA := hA.below hb; replace hB := hB.below hb; replace hF := hF.below hb; replace hI := hI.below hb; replace hW := hW.trans (hb.mono hW.size); clear hb)
    | (go_at_call 7; have _t := tk7; refine Calls.mono (cF _ _ (mk n (bw (szd xs n) j)) hJ lJ hW) ?_; rintro e w107 ⟨l1, rfl, hL, hb⟩; clear tk7; replace hX := hX.below hb; replace hY := hY.below hb; replace hA := hA.below hb; replace hB := hB.below hb; replace hF := hF.below hb; replace hI := hI.below hb; replace hJ := hJ.below hb; replace hW := hW.trans (hb.mono hW.size); clear hb)
    | (go_at_call 9; have _t := tk8; refine Calls.mono (slices_Equal _ _ _ (mk n (cf (szd xs n))) (hI.cast eBF) (hL.cast eFB)) ?_; rintro e w108 ⟨rfl, hb⟩; clear tk8; replace hX := hX.below hb; replace hY := hY.below hb; replace hA := hA.below hb; replace hB := hB.below hb; replace hF := hF.below hb; replace hI := hI.below hb; replace hJ := hJ.below hb; replace hL := hL.below hb; replace hW := hW.trans (hb.mono hW.size); clear hb)
    | (at_make; refine wp_make (w0 := w108) rfl _ _ rfl n rfl rfl hn9 (Below.refl _ _) ?_; intro wM hown hb1))
  have hIc := hI.cast eBF'.out
  clear hX hY hJ hL hI
  obtain ⟨bi, oi, ci, rfl⟩ := hIc.placeN (mk_length _ _) hpos
  obtain ⟨bf, of, cf', rfl⟩ := hF.placeN (mk_length _ _) hpos
  have rA := hA.range
  have rB := hB.range
  obtain ⟨sf, hsf⟩ : ∃ sf : Nat → F, sf = fun i => toF c * cf (szd xs n) i + cf (szd ys n) i := ⟨_, rfl⟩
  have hsf' : Hid (sf = fun i => toF c * cf (szd xs n) i + cf (szd ys n) i) := hsf
  clear hsf
  rw [← SL_zero n sf] at hown
  have hWM : Below w.heap.size w wM := hW.trans (hb1.mono hW.size)
  go_loopw [78] (fun vi wr => ∃ m : Nat, m ≤ n ∧ vi = .int .i64 (m : Int) ∧ wr.ownsRow w108.heap.size 23 1 (.slice (some ⟨w108.heap.size, 0, none⟩) n n) n (cellsU (SL n m sf)) ∧ Below w108.heap.size w108 wr)
    (fun vi _ => n - (intOf vi).toNat)
  case atStart => exact ⟨0, Nat.zero_le _, rfl, hown, hb1⟩
  case round =>
    clear hown hb1 hWM
    obtain ⟨m, hm, rfl, hown, hnx⟩ := hrel
    by_cases hlt : m < n
    · have hd : decide (m < n) = true := decide_eq_true hlt
      have cellI := (hIc.below hnx).cell m (by rw [mk_length]; exact hlt)
      have cellA := (hA.below hnx).cell m (by rw [lA]; exact hlt)
      have cellB := (hB.below hnx).cell m (by rw [lB]; exact hlt)
      rw [mk_cf_getD _ n m hlt] at cellI
      rw [Nat.zero_add] at cellA cellB
      have cellS := hown.cellAt m (by omega)
      rw [cellsU_get _ m (by rw [SL_length sf hm]; exact hlt)] at cellS
      have frS := hown.frozenAt m
      have xa := range_getD rA m
      have xb := range_getD rB m
      have hst := hown.stored m (.int .u64 (((sf m).val : Nat) : Int))
      rw [cellsU_set, SL_set sf hlt] at hst
      have c0 := field_Norm _ xa
      have c1 := cM _ xa
      have c2 := field_Add (fM c ((szd xs n).getD m 0)) ((szd ys n).getD m 0) (by have := fM_lt c ((szd xs n).getD m 0); omega) xb
      have e2 : fA (fM c ((szd xs n).getD m 0)) ((szd ys n).getD m 0) = (sf m).val := by
        rw [hsf'.out, fA_val, toF_fM]; rfl
      rw [e2] at c2
      clear e2 xa xb
      generalize (SL n m sf).getD m 0 = old at *
      generalize (sf m).val = z at *
      generalize fM c ((szd xs n).getD m 0) = ca at *
      generalize (szd xs n).getD m 0 = am at *
      generalize (szd ys n).getD m 0 = bm at *
      go_wp2
      go_quiet (first | (go_at_call 10; exact Calls.quiet_of_same (c0 _)))
      go_wp2
      go_region_with (first
        | (go_at_call 12; refine Calls.mono (c1 _) ?_; rintro e w' ⟨rfl, hw⟩; rw [hw]; clear hw)
        | (go_at_call 11; refine Calls.mono (c2 _) ?_; rintro e w' ⟨rfl, hw⟩; rw [hw]; clear hw))
      all_goals
        have hB2 : Below w108.heap.size w108 _ := hnx.grown hst.2 hnx.size (fun t ht => by simp at ht; omega)
        have hst1 := hst.1
        clear hst hown hnx cellI cellA cellB cellS frS
        go_wp2
        go_roundw
        case rel => exact ⟨m + 1, by omega, by go_num, hst1, ⟨hB2.os, hB2.tape, hB2.output, hB2.size, hB2.block⟩⟩
        case measure => simp only [intOf]; omega
    · have e : m = n := by omega
      subst e
      rw [SL_full] at hown
      have hS := IsU.of_owns hown (by rw [← SL_full]; exact SL_range sf)
      replace hF := hF.below hnx
      replace hB := hB.below hnx
      have hW2 : Below w.heap.size w wr := hW.trans (hnx.mono hW.size)
      have lS : (mk m sf).length = m := mk_length _ _
      clear hown hnx hW hIc hA
      have tk1 : True := trivial
      go_wp2_with (first
        | (go_at_call 7; have _t := tk1; refine Calls.mono (cF _ _ (szd ys m) hB lB hW2) ?_; rintro e w3 ⟨fb, rfl, hFb, hb⟩; clear tk1; replace hF := hF.below hb; replace hS := hS.below hb; replace hW2 := hW2.trans (hb.mono hW2.size); clear hb)
        | (go_at_call 7; refine Calls.mono (cF _ _ (mk m sf) hS lS hW2) ?_; rintro e w4 ⟨fs, rfl, hFs, hb⟩; replace hF := hF.below hb; replace hFb := hFb.below hb; replace hW2 := hW2.trans (hb.mono hW2.size); clear hb))
      obtain ⟨bs, os, cs, rfl⟩ := hFs.placeN (mk_length _ _) hpos
      obtain ⟨bb, ob, cb, rfl⟩ := hFb.placeN (mk_length _ _) hpos
      have eL : Hid (∀ t, fA (fM c (fw (szd xs m) j t).val) (fw (szd ys m) j t).val = (fw (mk m sf) j t).val) := by
        intro t
        rw [hsf'.out, eLin.out t, fA_val, toF_fM, toF_val, toF_val]
      clear hS hsf' eLin
      go_loopw [118] (fun vi wr => ∃ t : Nat, t ≤ m ∧ vi = .int .i64 (t : Int) ∧ Below w4.heap.size w4 wr)
        (fun vi _ => m - (intOf vi).toNat)
      case atStart => exact ⟨0, Nat.zero_le _, rfl, Below.refl _ _⟩
      case round =>
        obtain ⟨t, ht, rfl, hnx⟩ := hrel
        by_cases hlt2 : t < m
        · have hd2 : decide (t < m) = true := decide_eq_true hlt2
          have cellS := (hFs.below hnx).cell t (by rw [mk_length]; exact hlt2)
          have cellF := (hF.below hnx).cell t (by rw [mk_length]; exact hlt2)
          have cellB := (hFb.below hnx).cell t (by rw [mk_length]; exact hlt2)
          rw [mk_getD _ _ t hlt2] at cellS cellF cellB
          have c1 := cM (fw (szd xs m) j t).val (by have := lt_int (val_lt (fw (szd xs m) j t)); omega)
          have c2 := field_Add (fM c (fw (szd xs m) j t).val) (fw (szd ys m) j t).val (by have := fM_lt c (fw (szd xs m) j t).val; omega) (by have := lt_int (val_lt (fw (szd ys m) j t)); omega)
          rw [eL.out t] at c2
          generalize fM c (fw (szd xs m) j t).val = ca at *
          generalize (fw (szd xs m) j t).val = am at *
          generalize (fw (szd ys m) j t).val = bm at *
          generalize (fw (mk m sf) j t).val = sm at *
          go_wp2
          go_quiet (first | (go_at_call 12; exact Calls.quiet_of_same (c1 _)) | (go_at_call 11; exact Calls.quiet_of_same (c2 _)))
          go_wp2
          go_roundw
          case rel => exact ⟨t + 1, by omega, by go_num, below_drewN hnx _⟩
          case measure => simp only [intOf]; omega
        · have e : t = m := by omega
          subst e
          have hW3 : Below w.heap.size w wr := hW2.trans (hnx.mono hW2.size)
          clear hF hFs hFb hB hnx hW2
          go_wp2
          go_ret
          exact ⟨rfl, hW3⟩

theorem nttBack_walk (w : World) (v : Value) (xs : List Nat) (h : IsU w v xs) (v' : Value) (ys : List Nat) (h' : IsU w v' ys) (a2 : Int) (_w2 : (Lit.int .i64 a2).wf = true) (a3 : Int) (w3 : (Lit.int .u64 a3).wf = true) (hTb : Tab w) :
    Calls Tryd.prog 3 #[v, v', .int .i64 a2, .int .u64 a3] w fun e w' => e = .returned (.bool true) ∧ Below w.heap.size w w' := by
  obtain ⟨c, rfl, hc⟩ := nat_of_u64 w3
  obtain ⟨j, hj, hj6⟩ : ∃ j : Nat, a2 % 7 = (j : Int) ∧ j ≤ 6 := ⟨(a2 % 7).toNat, by omega, by omega⟩
  exact nttBack_nat w v v' xs ys a2 c j (2 ^ j) h h' hc hj hj6 rfl hTb

end Go.Proofs.YtkiflapifdbgkaeDoor
