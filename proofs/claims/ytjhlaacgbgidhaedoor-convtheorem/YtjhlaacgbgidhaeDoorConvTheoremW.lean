/-
  The walk of the law ConvTheorem: whatever is handed in, the transform of a cyclic product is the product of transforms, cyclic and skew ones together tell the linear one, and the law returns true.
-/
import Derived.Test.YtjhlaacgbgidhaeDoorConvC
import Derived.Test.YtjhlaacgbgidhaeDoorNttC
import Derived.Test.YtjhlaacgbgidhaeDoorPolyC2
import Derived.Test.YtjhlaacgbgidhaeDoorKeepSized
import Derived.Test.YtjhlaacgbgidhaeDoorFieldB
import Derived.Test.YtjhlaacgbgidhaeDoorSlEq
import Derived.BigQuiet
namespace Go.Proofs.YtjhlaacgbgidhaeDoor
open Go.RowKit

set_option maxRecDepth 100000 in
set_option maxHeartbeats 16000000 in
theorem convTheorem_nat (w : World) (v v' : Value) (xs ys : List Nat) (k : Int) (j n m : Nat) (h : IsU w v xs) (h' : IsU w v' ys) (hkj : k % 7 = (j : Int)) (hj6 : j ≤ 6) (hn0 : n = 2 ^ j) (hm0 : m = 2 * n - 1) (hTb : Tab w) :
    Calls Tryd.prog 5 #[v, v', .int .i64 k] w fun e w' => e = .returned (.bool true) ∧ Below w.heap.size w w' := by
  have hn : Hid (n = 2 ^ j) := hn0
  have hW : Below w.heap.size w w := Below.refl _ _
  have hX := h
  have hY := h'
  have h64 : n ≤ 64 := by rw [hn0]; exact (two_pow_six j hj6).2
  have hpos : 0 < n := by rw [hn0]; exact Nat.pow_pos (by decide)
  have hmpos : 0 < m := by omega
  have lA : (szd xs n).length = n := szd_length xs n
  have lB : (szd ys n).length = n := szd_length ys n
  have lC : (mk n (rnd (szd xs n) (szd ys n) false)).length = n := mk_length _ _
  have lL : (pM (szd xs n) (szd ys n)).length = m := by rw [pM_len _ _ (by omega) (by omega)]; omega
  have hL1 : IsU ((w.alloc (.cells #[.int .u64 1, .int .u64 2] 23)).alloc (.cells #[.int .u64 3, .int .u64 4] 23)) (.slice (some ⟨w.heap.size, 0, none⟩) 2 2) [1, 2] := (IsU.lit2 w 23 1 2 (by decide) (by decide)).below (below_alloc1 _ _)
  have hL2 : IsU ((w.alloc (.cells #[.int .u64 1, .int .u64 2] 23)).alloc (.cells #[.int .u64 3, .int .u64 4] 23)) (.slice (some ⟨w.heap.size + 1, 0, none⟩) 2 2) [3, 4] := (IsU.lit2 (w.alloc (.cells #[.int .u64 1, .int .u64 2] 23)) 23 3 4 (by decide) (by decide)).at (by simp)
  have hTl : Tab ((w.alloc (.cells #[.int .u64 1, .int .u64 2] 23)).alloc (.cells #[.int .u64 3, .int .u64 4] 23)) := (hTb.below (below_alloc1 _ _)).below (below_alloc1 _ _)
  have cF : ∀ (W : World) (u : Value) (l : List Nat), IsU W u l → l.length = n → Below w.heap.size w W → Calls Tryd.prog 8 #[u] W fun e w' => ∃ u', e = .returned (.tuple #[u', .int .i64 0]) ∧ IsU w' u' (mk n (fw l j)) ∧ Below W.heap.size W w' := by
    intro W u l h1 h2 h3
    subst hn0
    exact ntt_Forward_ok W u l j h1 (hTb.below h3) h2 (by omega)
  have cC : ∀ (W : World) (u u' : Value), IsU W u (szd xs n) → IsU W u' (szd ys n) → Below w.heap.size w W → Calls Tryd.prog 17 #[u, u'] W fun e w' => ∃ x, e = .returned (.tuple #[x, .int .i64 0]) ∧ IsU w' x (mk n (rnd (szd xs n) (szd ys n) false)) ∧ Below W.heap.size W w' := by
    intro W u u' h1 h2 h3
    have := conv_Cyclic_ok W u u' _ _ j h1 h2 (hTb.below h3) (by rw [lA, hn0]) (by rw [lB, hn0]) (by omega)
    rw [lA] at this
    exact this
  have cS : ∀ (W : World) (u u' : Value), IsU W u (szd xs n) → IsU W u' (szd ys n) → Below w.heap.size w W → Calls Tryd.prog 18 #[u, u'] W fun e w' => ∃ x, e = .returned (.tuple #[x, .int .i64 0]) ∧ IsU w' x (mk n (rnd (szd xs n) (szd ys n) true)) ∧ Below W.heap.size W w' := by
    intro W u u' h1 h2 h3
    have := conv_Skew_ok W u u' _ _ j h1 h2 (hTb.below h3) (by rw [lA, hn0]) (by rw [lB, hn0]) (by omega)
    rw [lA] at this
    exact this
  have cN := fun (W : World) (u u' : Value) (h1 : IsU W u (szd xs n)) (h2 : IsU W u' (szd ys n)) (h3 : Below w.heap.size w W) => conv_Linear_ok W u u' _ _ h1 h2 (hTb.below h3) (by omega) (by omega) (.inr (.inr (by omega)))
  have eF : Hid (∀ t, fM (fw (szd xs n) j t).val (fw (szd ys n) j t).val = (fw (mk n (rnd (szd xs n) (szd ys n) false)) j t).val) := by
    intro t
    have := rnd_fw (szd xs n) (szd ys n) j (by omega) (by rw [lA, hn0]) (by rw [lB, hn0]) t
    rw [← hn0] at this
    rw [this, fM_val, toF_val, toF_val]
  have cP := fun (W : World) (u u' : Value) (h1 : IsU W u (szd xs n)) (h2 : IsU W u' (szd ys n)) => poly_Mul_ok W u u' _ _ h1 h2 (by omega) (by omega) (by have := pM_length_le (pN (szd xs n)) (pN (szd ys n)); have h3 := sig_le (szd xs n); have h4 := sig_le (szd ys n); rw [pN_length, pN_length] at this; omega)
  have cM := fun (W : World) (u : Value) (h1 : IsU W u (pM (szd xs n) (szd ys n))) => poly_Norm_ok W u _ h1 (by omega)
  have n2 : 2 * (n : Int) - 1 = (m : Int) := by omega
  have n3 : ((m : Int) != (m : Int)) = false := by simp
  have hm9 : m ≤ 200 := by omega
  have hmn : Hid (m = 2 * n - 1) := hm0
  clear hn0 h h' hm0
  have tk1 : True := trivial
  have tk2 : True := trivial
  have tk3 : True := trivial
  have tk4 : True := trivial
  have tk5 : True := trivial
  have tk6 : True := trivial
  have tk7 : True := trivial
  have tk8 : True := trivial
  have tk9 : True := trivial
  have tk10 : True := trivial
  go_enter Tryd.func5, Tryd.ntmps5
  go_wp2_with (first
    | (go_at_call 16; have _t := tk1; refine Calls.mono (conv_Linear_ok _ _ _ [1, 2] [3, 4] hL1 hL2 hTl (by decide) (by decide) (by decide)) ?_; rintro e w101 ⟨l0, rfl, hQ0, hb⟩; clear tk1; replace hb := below_alloc hb; replace hb := below_alloc hb; replace hX := hX.below hb; replace hY := hY.below hb; replace hW := hW.trans (hb.mono hW.size); clear hb)
    | (go_at_call 10; have _t := tk2; refine Calls.mono (slices_Equal _ _ _ [3, 10, 8] ((hQ0.cast ex_lin).below (below_alloc1 _ _)) (IsU.lit3 _ 23 3 10 8 (by decide) (by decide) (by decide))) ?_; rintro e w102 ⟨rfl, hb⟩; clear tk2; replace hb := below_alloc hb; replace hX := hX.below hb; replace hY := hY.below hb; replace hQ0 := hQ0.below hb; replace hW := hW.trans (hb.mono hW.size); clear hb)
    | (go_at_call 7; have _t := tk3; refine Calls.mono (keep_sizedU _ _ xs k j n hX hkj hj6 hn.out) ?_; rintro e w103 ⟨g1, rfl, hA, hb⟩; clear tk3; replace hX := hX.below hb; replace hY := hY.below hb; replace hQ0 := hQ0.below hb; replace hW := hW.trans (hb.mono hW.size); clear hb)
    | (go_at_call 7; have _t := tk4; refine Calls.mono (keep_sizedU _ _ ys k j n hY hkj hj6 hn.out) ?_; rintro e w104 ⟨g2, rfl, hB, hb⟩; clear tk4; replace hX := hX.below hb; replace hY := hY.below hb; replace hQ0 := hQ0.below hb; replace hA := hA.below hb; replace hW := hW.trans (hb.mono hW.size); clear hb)
    | (go_at_call 17; have _t := tk5; refine Calls.mono (cC _ _ _ hA hB hW) ?_; rintro e w105 ⟨cv, rfl, hC, hb⟩; clear tk5; replace hX := hX.below hb; replace hY := hY.below hb; replace hQ0 := hQ0.below hb; replace hA := hA.below hb; replace hB := hB.below hb; replace hW := hW.trans (hb.mono hW.size); clear hb; obtain ⟨bc, oc, cc, rfl⟩ := hC.placeN (mk_length _ _) hpos)
    | (go_at_call 18; have _t := tk6; refine Calls.mono (cS _ _ _ hA hB hW) ?_; rintro e w106 ⟨sv, rfl, hS, hb⟩; clear tk6; replace hX := hX.below hb; replace hY := hY.below hb; replace hQ0 := hQ0.below hb; replace hA := hA.below hb; replace hB := hB.below hb; replace hC := hC.below hb; replace hW := hW.trans (hb.mono hW.size); clear hb; obtain ⟨bs, os, cs, rfl⟩ := hS.placeN (mk_length _ _) hpos)
    | (go_at_call 16; have _t := tk7; refine Calls.mono (cN _ _ _ hA hB hW) ?_; rintro e w107 ⟨lv, rfl, hL, hb⟩; clear tk7; replace hX := hX.below hb; replace hY := hY.below hb; replace hQ0 := hQ0.below hb; replace hA := hA.below hb; replace hB := hB.below hb; replace hC := hC.below hb; replace hS := hS.below hb; replace hW := hW.trans (hb.mono hW.size); clear hb; obtain ⟨bl, ol, cl, rfl⟩ := hL.placeN lL hmpos)
    | (go_at_call 8; have _t := tk8; refine Calls.mono (cF _ _ (szd xs n) hA lA hW) ?_; rintro e w108 ⟨fav, rfl, hFa, hb⟩; clear tk8; replace hX := hX.below hb; replace hY := hY.below hb; replace hQ0 := hQ0.below hb; replace hA := hA.below hb; replace hB := hB.below hb; replace hC := hC.below hb; replace hS := hS.below hb; replace hL := hL.below hb; replace hW := hW.trans (hb.mono hW.size); clear hb; obtain ⟨bfa, ofa, cfa, rfl⟩ := hFa.placeN (mk_length _ _) hpos)
    | (go_at_call 8; have _t := tk9; refine Calls.mono (cF _ _ (szd ys n) hB lB hW) ?_; rintro e w109 ⟨fbv, rfl, hFb, hb⟩; clear tk9; replace hX := hX.below hb; replace hY := hY.below hb; replace hQ0 := hQ0.below hb; replace hA := hA.below hb; replace hB := hB.below hb; replace hC := hC.below hb; replace hS := hS.below hb; replace hL := hL.below hb; replace hFa := hFa.below hb; replace hW := hW.trans (hb.mono hW.size); clear hb; obtain ⟨bfb, ofb, cfb, rfl⟩ := hFb.placeN (mk_length _ _) hpos)
    | (go_at_call 8; have _t := tk10; refine Calls.mono (cF _ _ (mk n (rnd (szd xs n) (szd ys n) false)) hC lC hW) ?_; rintro e w110 ⟨fcv, rfl, hFc, hb⟩; clear tk10; replace hX := hX.below hb; replace hY := hY.below hb; replace hQ0 := hQ0.below hb; replace hA := hA.below hb; replace hB := hB.below hb; replace hC := hC.below hb; replace hS := hS.below hb; replace hL := hL.below hb; replace hFa := hFa.below hb; replace hFb := hFb.below hb; replace hW := hW.trans (hb.mono hW.size); clear hb; obtain ⟨bfc, ofc, cfc, rfl⟩ := hFc.placeN (mk_length _ _) hpos))
  clear hX hY hQ0 hL1 hL2 hTl cF cC cS cN
  have hm2 := hmn.out
  go_loopw [103] (fun vi wr => ∃ i : Nat, i ≤ n ∧ vi = .int .i64 (i : Int) ∧ Below w110.heap.size w110 wr)
    (fun vi _ => n - (intOf vi).toNat)
  case atStart => exact ⟨0, Nat.zero_le _, rfl, Below.refl _ _⟩
  case round =>
    obtain ⟨i, hi, rfl, hnx⟩ := hrel
    by_cases hlt : i < n
    · have hd : decide (i < n) = true := decide_eq_true hlt
      by_cases hov : i + n < m
      · skip
        have cF1 := (hFc.below hnx).cell i (by rw [mk_length]; exact hlt)
        have cF2 := (hFa.below hnx).cell i (by rw [mk_length]; exact hlt)
        have cF3 := (hFb.below hnx).cell i (by rw [mk_length]; exact hlt)
        rw [mk_getD _ _ i hlt] at cF1 cF2 cF3
        have c1 := field_Mul (fw (szd xs n) j i).val (fw (szd ys n) j i).val (by have := lt_int (val_lt (fw (szd xs n) j i)); omega) (by have := lt_int (val_lt (fw (szd ys n) j i)); omega)
        rw [eF.out i] at c1
        have cellC : ∀ W : World, Below w110.heap.size w110 W → W.cell? ⟨bc, oc + i, none⟩ = some (.int .u64 (((rnd (szd xs n) (szd ys n) false i).val : Nat) : Int)) := fun W hb => by have := (hC.below hb).cell i (by rw [mk_length]; exact hlt); rw [mk_getD _ _ i hlt] at this; exact this
        have cellS : ∀ W : World, Below w110.heap.size w110 W → W.cell? ⟨bs, os + i, none⟩ = some (.int .u64 (((rnd (szd xs n) (szd ys n) true i).val : Nat) : Int)) := fun W hb => by have := (hS.below hb).cell i (by rw [mk_length]; exact hlt); rw [mk_getD _ _ i hlt] at this; exact this
        have cellL : ∀ W : World, Below w110.heap.size w110 W → W.cell? ⟨bl, ol + i, none⟩ = some (.int .u64 (((conv (cf (szd xs n)) (cf (szd ys n)) i).val : Nat) : Int)) := fun W hb => by have := (hL.below hb).cell i (by rw [lL]; omega); rw [pM_get _ _ i (by omega) (by omega) (by omega)] at this; exact this
        have a64 : ((conv (cf (szd xs n)) (cf (szd ys n)) i).val : Int) < 18446744073709551616 := by have := lt_int (val_lt (conv (cf (szd xs n)) (cf (szd ys n)) i)); omega
        have o64 : (ovr (szd xs n) (szd ys n) i : Int) < 18446744073709551616 := by have := lt_int (val_lt (conv (cf (szd xs n)) (cf (szd ys n)) (i + (szd xs n).length))); unfold ovr; omega
        have c2 := field_Add (conv (cf (szd xs n)) (cf (szd ys n)) i).val (ovr (szd xs n) (szd ys n) i) a64 o64
        rw [rnd_add] at c2
        have c3 := field_Sub (conv (cf (szd xs n)) (cf (szd ys n)) i).val (ovr (szd xs n) (szd ys n) i) a64 o64
        rw [rnd_sub] at c3
        have cellO : ∀ W : World, Below w110.heap.size w110 W → W.cell? ⟨bl, ol + (i + n), none⟩ = some (.int .u64 ((ovr (szd xs n) (szd ys n) i : Nat) : Int)) := fun W hb => by have := (hL.below hb).cell (i + n) (by rw [lL]; omega); rw [pM_get _ _ (i + n) (by omega) (by omega) (by omega)] at this; unfold ovr; rw [lA]; exact this
        have hov' : decide ((i : Int) + (n : Int) < (m : Int)) = true := decide_eq_true (by omega)
        clear a64 o64
        generalize (fw (szd xs n) j i).val = z1 at *
        generalize (fw (szd ys n) j i).val = z2 at *
        generalize (fw (mk n (rnd (szd xs n) (szd ys n) false)) j i).val = z3 at *
        generalize (rnd (szd xs n) (szd ys n) false i).val = z4 at *
        generalize (rnd (szd xs n) (szd ys n) true i).val = z5 at *
        generalize (conv (cf (szd xs n)) (cf (szd ys n)) i).val = z6 at *
        generalize ovr (szd xs n) (szd ys n) i = z7 at *
        have hq1 : ((z3 : Int) != (z3 : Int)) = false := by simp
        have hq2 : ((z4 : Int) != (z4 : Int)) = false := by simp
        have hq3 : ((z5 : Int) != (z5 : Int)) = false := by simp
        clear hA hB hC hS hL hFa hFb hFc cP cM eF
        go_wp2
        go_quiet (first | (go_at_call 13; exact Calls.quiet_of_same (c1 _)))
        obtain ⟨w6, hw6⟩ : ∃ w6 : World, w6 = wr.drewN nq := ⟨_, rfl⟩
        rw [← hw6]
        have hnx6 : Below w110.heap.size w110 w6 := by rw [hw6]; exact below_drewN hnx _
        clear hw6 hnx cF1 cF2 cF3 c1
        have d1 := cellC _ hnx6
        have d2 := cellS _ hnx6
        have d3 := cellL _ hnx6
        have d4 := cellO _ hnx6
        clear cellO
        clear cellC cellS cellL
        go_wp2
        go_quiet (first | (go_at_call 12; exact Calls.quiet_of_same (c2 _)) | (go_at_call 19; exact Calls.quiet_of_same (c3 _)))
        go_wp2
        go_roundw
        case rel => exact ⟨i + 1, by omega, by go_num, below_drewN hnx6 _⟩
        case measure => simp only [intOf]; omega
      · skip
        have cF1 := (hFc.below hnx).cell i (by rw [mk_length]; exact hlt)
        have cF2 := (hFa.below hnx).cell i (by rw [mk_length]; exact hlt)
        have cF3 := (hFb.below hnx).cell i (by rw [mk_length]; exact hlt)
        rw [mk_getD _ _ i hlt] at cF1 cF2 cF3
        have c1 := field_Mul (fw (szd xs n) j i).val (fw (szd ys n) j i).val (by have := lt_int (val_lt (fw (szd xs n) j i)); omega) (by have := lt_int (val_lt (fw (szd ys n) j i)); omega)
        rw [eF.out i] at c1
        have cellC : ∀ W : World, Below w110.heap.size w110 W → W.cell? ⟨bc, oc + i, none⟩ = some (.int .u64 (((rnd (szd xs n) (szd ys n) false i).val : Nat) : Int)) := fun W hb => by have := (hC.below hb).cell i (by rw [mk_length]; exact hlt); rw [mk_getD _ _ i hlt] at this; exact this
        have cellS : ∀ W : World, Below w110.heap.size w110 W → W.cell? ⟨bs, os + i, none⟩ = some (.int .u64 (((rnd (szd xs n) (szd ys n) true i).val : Nat) : Int)) := fun W hb => by have := (hS.below hb).cell i (by rw [mk_length]; exact hlt); rw [mk_getD _ _ i hlt] at this; exact this
        have cellL : ∀ W : World, Below w110.heap.size w110 W → W.cell? ⟨bl, ol + i, none⟩ = some (.int .u64 (((conv (cf (szd xs n)) (cf (szd ys n)) i).val : Nat) : Int)) := fun W hb => by have := (hL.below hb).cell i (by rw [lL]; omega); rw [pM_get _ _ i (by omega) (by omega) (by omega)] at this; exact this
        have a64 : ((conv (cf (szd xs n)) (cf (szd ys n)) i).val : Int) < 18446744073709551616 := by have := lt_int (val_lt (conv (cf (szd xs n)) (cf (szd ys n)) i)); omega
        have o64 : (ovr (szd xs n) (szd ys n) i : Int) < 18446744073709551616 := by have := lt_int (val_lt (conv (cf (szd xs n)) (cf (szd ys n)) (i + (szd xs n).length))); unfold ovr; omega
        have c2 := field_Add (conv (cf (szd xs n)) (cf (szd ys n)) i).val (ovr (szd xs n) (szd ys n) i) a64 o64
        rw [rnd_add] at c2
        have c3 := field_Sub (conv (cf (szd xs n)) (cf (szd ys n)) i).val (ovr (szd xs n) (szd ys n) i) a64 o64
        rw [rnd_sub] at c3
        rw [ovr_none _ _ i (by omega)] at c2 c3
        have hov' : decide ((i : Int) + (n : Int) < (m : Int)) = false := decide_eq_false (by omega)
        clear a64 o64
        generalize (fw (szd xs n) j i).val = z1 at *
        generalize (fw (szd ys n) j i).val = z2 at *
        generalize (fw (mk n (rnd (szd xs n) (szd ys n) false)) j i).val = z3 at *
        generalize (rnd (szd xs n) (szd ys n) false i).val = z4 at *
        generalize (rnd (szd xs n) (szd ys n) true i).val = z5 at *
        generalize (conv (cf (szd xs n)) (cf (szd ys n)) i).val = z6 at *
        have c2z : ∀ W, Calls Tryd.prog 12 #[.int .u64 (z6 : Int), .int .u64 0] W fun e w' => e = .returned (.int .u64 (z4 : Int)) ∧ w' = W := c2
        have c3z : ∀ W, Calls Tryd.prog 19 #[.int .u64 (z6 : Int), .int .u64 0] W fun e w' => e = .returned (.int .u64 (z5 : Int)) ∧ w' = W := c3
        have hq1 : ((z3 : Int) != (z3 : Int)) = false := by simp
        have hq2 : ((z4 : Int) != (z4 : Int)) = false := by simp
        have hq3 : ((z5 : Int) != (z5 : Int)) = false := by simp
        clear hA hB hC hS hL hFa hFb hFc cP cM eF
        go_wp2
        go_quiet (first | (go_at_call 13; exact Calls.quiet_of_same (c1 _)))
        obtain ⟨w6, hw6⟩ : ∃ w6 : World, w6 = wr.drewN nq := ⟨_, rfl⟩
        rw [← hw6]
        have hnx6 : Below w110.heap.size w110 w6 := by rw [hw6]; exact below_drewN hnx _
        clear hw6 hnx cF1 cF2 cF3 c1
        have d1 := cellC _ hnx6
        have d2 := cellS _ hnx6
        have d3 := cellL _ hnx6
        clear cellC cellS cellL
        go_wp2
        go_quiet (first | (go_at_call 12; exact Calls.quiet_of_same (c2z _)) | (go_at_call 19; exact Calls.quiet_of_same (c3z _)))
        go_wp2
        go_roundw
        case rel => exact ⟨i + 1, by omega, by go_num, below_drewN hnx6 _⟩
        case measure => simp only [intOf]; omega
    · have e : i = n := by omega
      subst e
      replace hA := hA.below hnx
      replace hB := hB.below hnx
      replace hL := hL.below hnx
      replace hW := hW.trans (hnx.mono hW.size)
      clear hC hS hFa hFb hFc hnx eF hm2
      have hq1 : (pN (pM (szd xs i) (szd ys i))) = pM (pN (szd xs i)) (pN (szd ys i)) := pN_pM _ _
      have hq2 : Hid (pN (pM (szd xs i) (szd ys i)) = pM (pN (szd xs i)) (pN (szd ys i))) := hq1
      clear hq1
      go_wp2_with (first
        | (go_at_call 20; refine Calls.mono (cP _ _ _ hA hB) ?_; rintro e w7 ⟨p, rfl, hP, hb⟩; replace hL := hL.below hb; replace hW := hW.trans (hb.mono hW.size); clear hb)
        | (go_at_call 21; refine Calls.mono (cM _ _ hL) ?_; rintro e w8 ⟨q, rfl, hQ, hb⟩; replace hP := hP.below hb; replace hW := hW.trans (hb.mono hW.size); clear hb)
        | (go_at_call 10; refine Calls.mono (slices_Equal _ _ _ (pM (pN (szd xs i)) (pN (szd ys i))) hP (hQ.cast hq2.out)) ?_; rintro e w9 ⟨rfl, hb⟩; replace hW := hW.trans (hb.mono hW.size); clear hb))
      go_ret
      exact ⟨rfl, hW⟩

theorem convTheorem_walk (w : World) (v : Value) (xs : List Nat) (h : IsU w v xs) (v' : Value) (ys : List Nat) (h' : IsU w v' ys) (a2 : Int) (_w2 : (Lit.int .i64 a2).wf = true) (hTb : Tab w) :
    Calls Tryd.prog 5 #[v, v', .int .i64 a2] w fun e w' => e = .returned (.bool true) ∧ Below w.heap.size w w' := by
  obtain ⟨j, hj, hj6⟩ : ∃ j : Nat, a2 % 7 = (j : Int) ∧ j ≤ 6 := ⟨(a2 % 7).toNat, by omega, by omega⟩
  exact convTheorem_nat w v v' xs ys a2 j (2 ^ j) (2 * 2 ^ j - 1) h h' hj hj6 rfl rfl hTb

end Go.Proofs.YtjhlaacgbgidhaeDoor
