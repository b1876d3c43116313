/-
  The walk of the law NttShifts: whatever is handed in, a list gone on by one place has each number of its transform times a power of the root, PARSEVAL holds, and the law returns true.
-/
import Derived.Test.YtkiflapifdbgkaeDoorKeepFour
import Derived.Test.YtkiflapifdbgkaeDoorKeepSized
import Derived.Test.YtkiflapifdbgkaeDoorFieldR
import Derived.Test.YtkiflapifdbgkaeDoorRefLog
import Derived.Test.YtkiflapifdbgkaeDoorSlRow
import Derived.Deep.RegionWith
import Derived.Deep.OwnRows
namespace Go.Proofs.YtkiflapifdbgkaeDoor
open Go.RowKit

theorem rt_lt (i : Nat) : (rt i : Int) < 18446744069414584321 := fW_lt _ _
/-- A row that is filled from a list, number i at place p i: the first m are there. -/
def Fil (L A : List Nat) (p : Nat → Nat) (n m : Nat) : Prop := L.length = n ∧ (∀ x ∈ L, (x : Int) < 18446744073709551616) ∧ ∀ i, i < m → L.getD (p i) 0 = A.getD i 0
theorem Fil_zero (A : List Nat) (p : Nat → Nat) (n : Nat) : Fil (List.replicate n 0) A p n 0 :=
  ⟨by simp, fun x hx => by have := List.eq_of_mem_replicate hx; subst this; decide, fun i hi => absurd hi (by omega)⟩
theorem Fil_step {L A : List Nat} {p : Nat → Nat} {n m : Nat} (h : Fil L A p n m) (hm : m < n) (hA : ∀ x ∈ A, (x : Int) < 18446744073709551616) (hp : p m < n) (hi : ∀ i, i < m → p i ≠ p m) : Fil (L.set (p m) (A.getD m 0)) A p n (m + 1) := by
  obtain ⟨h1, h2, h3⟩ := h
  refine ⟨by rw [List.length_set]; exact h1, fun x hx => ?_, fun i hi2 => ?_⟩
  · rcases List.mem_or_eq_of_mem_set hx with h4 | h4
    · exact h2 x h4
    · rw [h4]; exact range_getD hA m
  · by_cases e : i = m
    · subst e
      simp [List.getD, h1, hp]
    · have h4 := hi i (by omega)
      have h5 := h3 i (by omega)
      simp only [List.getD, List.getElem?_set] at h5 ⊢
      rw [if_neg (fun h6 => h4 h6.symm)]
      exact h5
theorem mod_on {n i m : Nat} (hi : i < m) (hm : m < n) : (i + 1) % n ≠ (m + 1) % n := by
  rw [Nat.mod_eq_of_lt (show i + 1 < n by omega)]
  by_cases h : m + 1 = n
  · rw [h, Nat.mod_self]; omega
  · rw [Nat.mod_eq_of_lt (by omega)]; omega
theorem mod_round {n i m : Nat} (hi : i < m) (hm : m < n) : (n - i) % n ≠ (n - m) % n := by
  rw [Nat.mod_eq_of_lt (show n - m < n by omega)]
  by_cases h : i = 0
  · rw [h, Nat.sub_zero, Nat.mod_self]; omega
  · rw [Nat.mod_eq_of_lt (by omega)]; omega
theorem owns_base {w : World} {base base' e size n : Nat} {v : Value} {xs : List Value} (h : w.ownsRow base e size v n xs) (hb : base' ≤ base) : w.ownsRow base' e size v n xs := by
  refine ⟨h.1, ?_⟩
  rcases h.2 with h2 | ⟨g, cap, cur, hv, hg, r⟩
  · exact Or.inl h2
  · exact Or.inr ⟨g, cap, cur, hv, Nat.le_trans hb hg, r⟩
theorem owns_lit0 (w : World) (n : Nat) (hn : n ≤ 1000000000) : (w.alloc (.cells (madeCells #[.int .u64 0] n) 23)).ownsRow w.heap.size 23 1 (.slice (some ⟨w.heap.size, 0, none⟩) n n) n (cellsU (List.replicate n 0)) := by
  have h := World.ownsRow_lit (base := w.heap.size) (e := 23) (size := 1) w (madeCells #[.int .u64 0] n) n (Nat.le_refl _) (by unfold maxLen; omega) (by rw [size_madeCells]; omega)
  have e : (madeCells #[Value.int .u64 0] n).toList = cellsU (List.replicate n 0) := by
    rw [toList_madeCells_one]
    unfold cellsU
    rw [List.map_replicate]; rfl
  rw [e] at h
  exact h

set_option maxHeartbeats 16000000 in
theorem nttShifts_nat (w : World) (v v' : Value) (xs ys : List Nat) (k : Int) (j n : Nat) (h : IsU w v xs) (h' : IsU w v' ys) (hkj : k % 7 = (j : Int)) (hj6 : j ≤ 6) (hn0 : n = 2 ^ j) (hTb : Tab w) :
    Calls Tryd.prog 4 #[v, v', .int .i64 k] w fun e w' => e = .returned (.bool true) ∧ Below w.heap.size w w' := by
  have hn : Hid (n = 2 ^ j) := hn0
  have hW : Below w.heap.size w w := Below.refl _ _
  have hX := h
  have hY := h'
  have h64 : n ≤ 64 := by rw [hn0]; exact (two_pow_six j hj6).2
  have hpos : 0 < n := by rw [hn0]; exact Nat.pow_pos (by decide)
  have lA : (szd xs n).length = n := szd_length xs n
  have lB : (szd ys n).length = n := szd_length ys n
  have cF : ∀ (W : World) (u : Value) (l : List Nat), IsU W u l → l.length = n → Below w.heap.size w W → Calls Tryd.prog 7 #[u] W fun e w' => ∃ u', e = .returned (.tuple #[u', .int .i64 0]) ∧ IsU w' u' (mk n (fw l j)) ∧ Below W.heap.size W w' := by
    intro W u l h1 h2 h3
    subst hn0
    exact ntt_Forward_ok W u l j h1 (hTb.below h3) h2 (by omega)
  have cL : ∀ W, Calls Tryd.prog 14 #[.int .i64 (n : Int)] W fun e w' => e = .returned (.int .i64 (j : Int)) ∧ w' = W := by
    intro W
    subst hn0
    exact ref_Log_ok j (by omega) W
  have cR : ∀ W, Calls Tryd.prog 13 #[.int .i64 (j : Int)] W fun e w' => e = .returned (.tuple #[.int .u64 ((rt j : Nat) : Int), .int .i64 0]) ∧ w' = W := fun W => field_Root_in j (by omega) W
  have hmk := fun W => run_make_row' (P := Tryd.prog) 22 23 (.int .u64 0) 8 Tryd.underlying22 info_u64 rfl .i64 .i64 n (by omega) (by omega) W
  have hn9 : n ≤ 1000000000 := by omega
  clear hn0 h h'
  have tk1 : True := trivial
  have tk2 : True := trivial
  have tk3 : True := trivial
  go_enter Tryd.func4, Tryd.ntmps4
  go_wp2_with (first
    | (go_at_call 5; have _t := tk1; refine Calls.mono (keep_four _ (hTb.below hW)) ?_; rintro e w101 ⟨rfl, hb⟩; clear tk1; replace hX := hX.below hb; replace hY := hY.below hb; replace hW := hW.trans (hb.mono hW.size); clear hb)
    | (go_at_call 6; have _t := tk2; refine Calls.mono (keep_sizedU _ _ xs k j n hX hkj hj6 hn.out) ?_; rintro e w102 ⟨g1, rfl, hA, hb⟩; clear tk2; replace hX := hX.below hb; replace hY := hY.below hb; replace hW := hW.trans (hb.mono hW.size); clear hb)
    | (go_at_call 6; have _t := tk3; refine Calls.mono (keep_sizedU _ _ ys k j n hY hkj hj6 hn.out) ?_; rintro e w103 ⟨g2, rfl, hB, hb⟩; clear tk3; replace hX := hX.below hb; replace hY := hY.below hb; replace hA := hA.below hb; replace hW := hW.trans (hb.mono hW.size); clear hb))
  go_region
  · skip
    have hdW : Below w103.heap.size w103 ((w103.alloc (.cells (madeCells #[.int .u64 0] n) 23)).alloc (.cells (madeCells #[.int .u64 0] n) 23)) := (below_alloc1 _ _).trans ((below_alloc1 _ _).mono (by simp))
    have o1 : ((w103.alloc (.cells (madeCells #[.int .u64 0] n) 23)).alloc (.cells (madeCells #[.int .u64 0] n) 23)).ownsRow w103.heap.size 23 1 (.slice (some ⟨w103.heap.size, 0, none⟩) n n) n (cellsU (List.replicate n 0)) := (owns_lit0 w103 n hn9).alloc _
    have o2 : ((w103.alloc (.cells (madeCells #[.int .u64 0] n) 23)).alloc (.cells (madeCells #[.int .u64 0] n) 23)).ownsRow w103.heap.size 23 1 (.slice (some ⟨w103.heap.size + 1, 0, none⟩) n n) n (cellsU (List.replicate n 0)) := owns_base (by have := owns_lit0 (w103.alloc (.cells (madeCells #[.int .u64 0] n) 23)) n hn9; rw [show (w103.alloc (.cells (madeCells #[.int .u64 0] n) 23)).heap.size = w103.heap.size + 1 by simp] at this; exact this) (by omega)
    have rA := hA.range
    have rB := hB.range
    have hg1 : g1 < w103.heap.size := block_lt (hA.cell 0 (by rw [lA]; exact hpos))
    have hg2 : g2 < w103.heap.size := block_lt (hB.cell 0 (by rw [lB]; exact hpos))
    clear hX hY hmk
    go_wp2
    go_loopw [42] (fun vi wr => ∃ (m : Nat) (O R : List Nat), m ≤ n ∧ vi = .int .i64 (m : Int) ∧ wr.ownsRow w103.heap.size 23 1 (.slice (some ⟨w103.heap.size, 0, none⟩) n n) n (cellsU O) ∧ wr.ownsRow w103.heap.size 23 1 (.slice (some ⟨w103.heap.size + 1, 0, none⟩) n n) n (cellsU R) ∧ Hid (Fil O (szd xs n) (fun i => (i + 1) % n) n m) ∧ Hid (Fil R (szd ys n) (fun i => (n - i) % n) n m) ∧ Below w103.heap.size w103 wr)
      (fun vi _ => n - (intOf vi).toNat)
    case atStart => exact ⟨0, _, _, Nat.zero_le _, rfl, o1, o2, Fil_zero _ _ n, Fil_zero _ _ n, ⟨hdW.os, hdW.tape, hdW.output, hdW.size, hdW.block⟩⟩
    case round =>
      clear o1 o2 hdW
      obtain ⟨m, O, R, hm, rfl, hO, hR, fO, fR, hnx⟩ := hrel
      by_cases hlt : m < n
      · have hd : decide (m < n) = true := decide_eq_true hlt
        obtain ⟨p, hp⟩ : ∃ p, p = (m + 1) % n := ⟨_, rfl⟩
        obtain ⟨q, hq⟩ : ∃ q, q = (n - m) % n := ⟨_, rfl⟩
        have hpn : p < n := by rw [hp]; exact Nat.mod_lt _ hpos
        have hqn : q < n := by rw [hq]; exact Nat.mod_lt _ hpos
        have ep : ((m : Int) + 1) % (n : Int) = (p : Int) := by rw [hp, Int.natCast_emod]; rfl
        have eq' : ((n : Int) - (m : Int)) % (n : Int) = (q : Int) := by rw [hq, Int.natCast_emod]; congr 1; omega
        have fO2 : Hid (Fil (O.set p ((szd xs n).getD m 0)) (szd xs n) (fun i => (i + 1) % n) n (m + 1)) := by
          have := Fil_step fO.out hlt rA (Nat.mod_lt _ hpos) (fun i hi => mod_on hi hlt)
          rw [← hp] at this
          exact this
        have fR2 : Hid (Fil (R.set q ((szd ys n).getD m 0)) (szd ys n) (fun i => (n - i) % n) n (m + 1)) := by
          have := Fil_step fR.out hlt rB (Nat.mod_lt _ hpos) (fun i hi => mod_round hi hlt)
          rw [← hq] at this
          exact this
        have lO := fO.out.1
        have lR := fR.out.1
        have cellA := (hA.below hnx).cell m (by rw [lA]; exact hlt)
        have cellB := (hB.below hnx).cell m (by rw [lB]; exact hlt)
        rw [Nat.zero_add] at cellA cellB
        have cellO := hO.cellAt p (by omega)
        rw [cellsU_get _ p (by omega)] at cellO
        have frO := hO.frozenAt p
        have cellR := hR.cellAt q (by omega)
        rw [cellsU_get _ q (by omega)] at cellR
        have frR := hR.frozenAt q
        have sO := hO.stored p (.int .u64 (((szd xs n).getD m 0 : Nat) : Int))
        rw [cellsU_set] at sO
        have sR0 := hR.kept sO.2 (Or.inr (by simp [Value.ownBlock]))
        have sR := sR0.stored q (.int .u64 (((szd ys n).getD m 0 : Nat) : Int))
        rw [cellsU_set] at sR
        have sO2 := sO.1.kept sR.2 (Or.inr (by simp [Value.ownBlock]))
        have hB1 := hnx.grown sO.2 hnx.size (fun t ht => by simp at ht; omega)
        have hB2 := hB1.grown sR.2 hB1.size (fun t ht => by simp at ht; omega)
        have sR1 := sR.1
        clear sO sR sR0 hp hq hO hR fO fR hB1 lO lR
        have hnx0 := hnx
        clear hnx
        generalize (szd xs n).getD m 0 = am at *
        generalize (szd ys n).getD m 0 = bm at *
        generalize O.getD p 0 = oldo at *
        generalize R.getD q 0 = oldr at *
        go_wp2
        go_region
        go_wp2
        go_region
        go_wp2
        go_roundw
        case rel => exact ⟨m + 1, _, _, by omega, by go_num, sO2, sR1, fO2, fR2, ⟨hB2.os, hB2.tape, hB2.output, hB2.size, hB2.block⟩⟩
        case measure => simp only [intOf]; omega
      · have e : m = n := by omega
        subst e
        have hOu := IsU.of_owns hO fO.out.2.1
        have hRu := IsU.of_owns hR fR.out.2.1
        have lO := fO.out.1
        have lR := fR.out.1
        have eS : Hid (∀ t, fM (fw (szd xs m) j t).val (pw (toF (rt j)) t).val = (fw O j t).val) := by
          intro t
          have e1 : fw O j t = fw (szd xs m) j t * pw (toF (rt j)) t := by
            have hm2 := hn.out
            have fO3 := fO.out
            subst hm2
            exact dft_shift (ord_rt j (by omega)) _ _ (fun i hi => by unfold cf; rw [fO3.2.2 i hi]) t
          rw [e1, fM_val, toF_val, toF_val]
        have eP : Hid (fM (S m (fun i => cf (szd xs m) i * cf (szd ys m) i)).val m = (S m (fun t => fw (szd xs m) j t * fw R j t)).val) := by
          show fM _ _ = _
          have hm2 := hn.out
          have fR3 := fR.out
          rw [fM_val, toF_val]
          congr 1
          subst hm2
          exact (parseval (ord_rt j (by omega)) (rt_inv j (by omega)) _ _ _ (fun i hi => by unfold cf; rw [fR3.2.2 i hi])).symm
        replace hA := hA.below hnx
        replace hB := hB.below hnx
        have hW2 : Below w.heap.size w wr := hW.trans (hnx.mono hW.size)
        clear hO hR fO fR hnx hW
        have tk1 : True := trivial
        go_wp2_with (first
          | (go_at_call 7; have _t := tk1; refine Calls.mono (cF _ _ (szd xs m) hA lA hW2) ?_; rintro e w3 ⟨fa, rfl, hFa, hb⟩; obtain ⟨ba, oa, ca, rfl⟩ := hFa.placeN (mk_length _ _) hpos; clear tk1; replace hA := hA.below hb; replace hB := hB.below hb; replace hOu := hOu.below hb; replace hRu := hRu.below hb; replace hW2 := hW2.trans (hb.mono hW2.size); clear hb)
          | (go_at_call 7; refine Calls.mono (cF _ _ O hOu lO hW2) ?_; rintro e w4 ⟨fo, rfl, hFo, hb⟩; replace hA := hA.below hb; replace hB := hB.below hb; replace hRu := hRu.below hb; replace hFa := hFa.below hb; replace hW2 := hW2.trans (hb.mono hW2.size); clear hb)
          | (go_at_call 14; refine Calls.mono (cL _) ?_; rintro e w' ⟨rfl, hw⟩; rw [hw]; clear hw)
          | (go_at_call 13; refine Calls.mono (cR _) ?_; rintro e w' ⟨rfl, hw⟩; rw [hw]; clear hw))
        obtain ⟨bo, oo, co, rfl⟩ := hFo.placeN (mk_length _ _) hpos
        clear hOu cL cR
        go_loopw [19, 85] (fun vt vi wr => ∃ t : Nat, t ≤ m ∧ vi = .int .i64 (t : Int) ∧ vt = .int .u64 (((pw (toF (rt j)) t).val : Nat) : Int) ∧ Below w4.heap.size w4 wr)
          (fun _ vi _ => m - (intOf vi).toNat)
        case atStart => exact ⟨0, Nat.zero_le _, rfl, rfl, Below.refl _ _⟩
        case round =>
          obtain ⟨t, ht, rfl, rfl, hnx⟩ := hrel
          by_cases hlt2 : t < m
          · have hd2 : decide (t < m) = true := decide_eq_true hlt2
            have cellA := (hFa.below hnx).cell t (by rw [mk_length]; exact hlt2)
            have cellO := (hFo.below hnx).cell t (by rw [mk_length]; exact hlt2)
            rw [mk_getD _ _ t hlt2] at cellA cellO
            have c1 := field_Mul (fw (szd xs m) j t).val (pw (toF (rt j)) t).val (by have := lt_int (val_lt (fw (szd xs m) j t)); omega) (by have := lt_int (val_lt (pw (toF (rt j)) t)); omega)
            rw [eS.out t] at c1
            have c2 := field_Mul (pw (toF (rt j)) t).val (rt j) (by have := lt_int (val_lt (pw (toF (rt j)) t)); omega) (by have := rt_lt j; omega)
            have e2 : fM (pw (toF (rt j)) t).val (rt j) = (pw (toF (rt j)) (t + 1)).val := by rw [fM_val, toF_val, pw_succ]
            rw [e2] at c2
            clear e2
            generalize (fw (szd xs m) j t).val = am at *
            generalize (fw O j t).val = om at *
            generalize (pw (toF (rt j)) t).val = pt at *
            go_wp2
            go_quiet (first | (go_at_call 12; exact Calls.quiet_of_same (c1 _)))
            go_wp2_with (go_at_call 12; refine Calls.mono (c2 _) ?_; rintro e w' ⟨rfl, hw⟩; rw [hw]; clear hw)
            go_roundw
            case rel => exact ⟨t + 1, by omega, by go_num, rfl, below_drewN hnx _⟩
            case measure => simp only [intOf]; omega
          · have e : t = m := by omega
            subst e
            have hA3 := hA.below hnx
            have hB3 := hB.below hnx
            have hRu3 := hRu.below hnx
            have hFa3 := hFa.below hnx
            have hW3 : Below w.heap.size w wr := hW2.trans (hnx.mono hW2.size)
            clear hA hB hRu hFa hW2 hFo eS hnx
            go_wp2_with (go_at_call 7; refine Calls.mono (cF _ _ R hRu3 lR hW3) ?_; rintro e w5 ⟨fr, rfl, hFr, hb⟩; replace hA3 := hA3.below hb; replace hB3 := hB3.below hb; replace hFa3 := hFa3.below hb; replace hW3 := hW3.trans (hb.mono hW3.size); clear hb)
            obtain ⟨br, or', cr, rfl⟩ := hFr.placeN (mk_length _ _) hpos
            clear hRu3 cF
            go_loopw [23, 24, 110] (fun vl vr vi wr => ∃ s : Nat, s ≤ t ∧ vi = .int .i64 (s : Int) ∧ vl = .int .u64 (((S s (fun i => cf (szd xs t) i * cf (szd ys t) i)).val : Nat) : Int) ∧ vr = .int .u64 (((S s (fun i => fw (szd xs t) j i * fw R j i)).val : Nat) : Int) ∧ Below w5.heap.size w5 wr)
              (fun _ _ vi _ => t - (intOf vi).toNat)
            case atStart => exact ⟨0, Nat.zero_le _, rfl, rfl, rfl, Below.refl _ _⟩
            case round =>
              obtain ⟨s, hs, rfl, rfl, rfl, hnx⟩ := hrel
              by_cases hlt3 : s < t
              · have hd3 : decide (s < t) = true := decide_eq_true hlt3
                have cellA := (hA3.below hnx).cell s (by rw [lA]; exact hlt3)
                have cellB := (hB3.below hnx).cell s (by rw [lB]; exact hlt3)
                rw [Nat.zero_add] at cellA cellB
                have cellF := (hFa3.below hnx).cell s (by rw [mk_length]; exact hlt3)
                have cellR := (hFr.below hnx).cell s (by rw [mk_length]; exact hlt3)
                rw [mk_getD _ _ s hlt3] at cellF cellR
                have xa := range_getD rA s
                have xb := range_getD rB s
                have c1 := field_Mul _ _ xa xb
                have c2 := field_Add (S s (fun i => cf (szd xs t) i * cf (szd ys t) i)).val (fM ((szd xs t).getD s 0) ((szd ys t).getD s 0)) (by have := lt_int (val_lt (S s (fun i => cf (szd xs t) i * cf (szd ys t) i))); omega) (by have := fM_lt ((szd xs t).getD s 0) ((szd ys t).getD s 0); omega)
                have e2 : fA (S s (fun i => cf (szd xs t) i * cf (szd ys t) i)).val (fM ((szd xs t).getD s 0) ((szd ys t).getD s 0)) = (S (s + 1) (fun i => cf (szd xs t) i * cf (szd ys t) i)).val := by rw [fA_val, toF_val, toF_fM, S_succ]; rfl
                rw [e2] at c2
                have c3 := field_Mul (fw (szd xs t) j s).val (fw R j s).val (by have := lt_int (val_lt (fw (szd xs t) j s)); omega) (by have := lt_int (val_lt (fw R j s)); omega)
                have c4 := field_Add (S s (fun i => fw (szd xs t) j i * fw R j i)).val (fM (fw (szd xs t) j s).val (fw R j s).val) (by have := lt_int (val_lt (S s (fun i => fw (szd xs t) j i * fw R j i))); omega) (by have := fM_lt (fw (szd xs t) j s).val (fw R j s).val; omega)
                have e4 : fA (S s (fun i => fw (szd xs t) j i * fw R j i)).val (fM (fw (szd xs t) j s).val (fw R j s).val) = (S (s + 1) (fun i => fw (szd xs t) j i * fw R j i)).val := by rw [fA_val, toF_val, toF_fM, toF_val, toF_val, S_succ]
                rw [e4] at c4
                clear e2 e4 xa xb rA rB eP
                generalize fM ((szd xs t).getD s 0) ((szd ys t).getD s 0) = p1 at *
                generalize (szd xs t).getD s 0 = am at *
                generalize (szd ys t).getD s 0 = bm at *
                generalize fM (fw (szd xs t) j s).val (fw R j s).val = p2 at *
                generalize (fw (szd xs t) j s).val = fm at *
                generalize (fw R j s).val = rm at *
                obtain ⟨z1, hz1⟩ : ∃ z1 : Nat, z1 = (S (s + 1) (fun i => cf (szd xs t) i * cf (szd ys t) i)).val := ⟨_, rfl⟩
                obtain ⟨z2, hz2⟩ : ∃ z2 : Nat, z2 = (S (s + 1) (fun i => fw (szd xs t) j i * fw R j i)).val := ⟨_, rfl⟩
                rw [← hz1] at c2
                rw [← hz2] at c4
                have hz1' : Hid (z1 = (S (s + 1) (fun i => cf (szd xs t) i * cf (szd ys t) i)).val) := hz1
                have hz2' : Hid (z2 = (S (s + 1) (fun i => fw (szd xs t) j i * fw R j i)).val) := hz2
                clear hz1 hz2
                generalize (S s (fun i => cf (szd xs t) i * cf (szd ys t) i)).val = y1 at *
                generalize (S s (fun i => fw (szd xs t) j i * fw R j i)).val = y2 at *
                go_wp2
                go_quiet (first | (go_at_call 12; exact Calls.quiet_of_same (c1 _)) | (go_at_call 11; exact Calls.quiet_of_same (c2 _)))
                obtain ⟨w6, hw6⟩ : ∃ w6 : World, w6 = wr.drewN nq := ⟨_, rfl⟩
                rw [← hw6]
                have hnx6 : Below w5.heap.size w5 w6 := by rw [hw6]; exact below_drewN hnx _
                have h6c : ∀ a, w6.cell? a = wr.cell? a := fun a => by rw [hw6]; rfl
                rw [← h6c] at cellF cellR
                clear cellA cellB c1 c2 hw6 hnx h6c
                go_wp2
                go_quiet (first | (go_at_call 12; exact Calls.quiet_of_same (c3 _)) | (go_at_call 11; exact Calls.quiet_of_same (c4 _)))
                go_wp2
                go_roundw
                case rel => exact ⟨s + 1, by omega, by go_num, by rw [← hz1'.out], by rw [← hz2'.out], below_drewN hnx6 _⟩
                case measure => simp only [intOf]; omega
              · have e : s = t := by omega
                subst e
                have hW4 : Below w.heap.size w wr := hW3.trans (hnx.mono hW3.size)
                have c1 := field_Mul (S s (fun i => cf (szd xs s) i * cf (szd ys s) i)).val s (by have := lt_int (val_lt (S s (fun i => cf (szd xs s) i * cf (szd ys s) i))); omega) (by omega)
                rw [eP.out] at c1
                clear hA3 hB3 hFa3 hFr hW3 hnx eP
                generalize (S s (fun i => cf (szd xs s) i * cf (szd ys s) i)).val = lf at *
                generalize (S s (fun i => fw (szd xs s) j i * fw R j i)).val = rg at *
                go_wp2_with (go_at_call 12; refine Calls.mono (c1 _) ?_; rintro e w' ⟨rfl, hw⟩; rw [hw]; clear hw)
                go_ret
                exact ⟨rfl, hW4⟩
  · skip
    have hdW : Below w103.heap.size w103 ((w103.alloc (.cells (madeCells #[.int .u64 0] n) 23)).alloc (.cells (madeCells #[.int .u64 0] n) 23)) := (below_alloc1 _ _).trans ((below_alloc1 _ _).mono (by simp))
    have o1 : ((w103.alloc (.cells (madeCells #[.int .u64 0] n) 23)).alloc (.cells (madeCells #[.int .u64 0] n) 23)).ownsRow w103.heap.size 23 1 (.slice (some ⟨w103.heap.size, 0, none⟩) n n) n (cellsU (List.replicate n 0)) := (owns_lit0 w103 n hn9).alloc _
    have o2 : ((w103.alloc (.cells (madeCells #[.int .u64 0] n) 23)).alloc (.cells (madeCells #[.int .u64 0] n) 23)).ownsRow w103.heap.size 23 1 (.slice (some ⟨w103.heap.size + 1, 0, none⟩) n n) n (cellsU (List.replicate n 0)) := owns_base (by have := owns_lit0 (w103.alloc (.cells (madeCells #[.int .u64 0] n) 23)) n hn9; rw [show (w103.alloc (.cells (madeCells #[.int .u64 0] n) 23)).heap.size = w103.heap.size + 1 by simp] at this; exact this) (by omega)
    have rA := hA.range
    have rB := hB.range
    have hg1 : g1 < w103.heap.size := block_lt (hA.cell 0 (by rw [lA]; exact hpos))
    have hg2 : g2 < w103.heap.size := block_lt (hB.cell 0 (by rw [lB]; exact hpos))
    clear hX hY hmk
    go_wp2
    go_loopw [42] (fun vi wr => ∃ (m : Nat) (O R : List Nat), m ≤ n ∧ vi = .int .i64 (m : Int) ∧ wr.ownsRow w103.heap.size 23 1 (.slice (some ⟨w103.heap.size + 1, 0, none⟩) n n) n (cellsU O) ∧ wr.ownsRow w103.heap.size 23 1 (.slice (some ⟨w103.heap.size, 0, none⟩) n n) n (cellsU R) ∧ Hid (Fil O (szd xs n) (fun i => (i + 1) % n) n m) ∧ Hid (Fil R (szd ys n) (fun i => (n - i) % n) n m) ∧ Below w103.heap.size w103 wr)
      (fun vi _ => n - (intOf vi).toNat)
    case atStart => exact ⟨0, _, _, Nat.zero_le _, rfl, o2, o1, Fil_zero _ _ n, Fil_zero _ _ n, ⟨hdW.os, hdW.tape, hdW.output, hdW.size, hdW.block⟩⟩
    case round =>
      clear o1 o2 hdW
      obtain ⟨m, O, R, hm, rfl, hO, hR, fO, fR, hnx⟩ := hrel
      by_cases hlt : m < n
      · have hd : decide (m < n) = true := decide_eq_true hlt
        obtain ⟨p, hp⟩ : ∃ p, p = (m + 1) % n := ⟨_, rfl⟩
        obtain ⟨q, hq⟩ : ∃ q, q = (n - m) % n := ⟨_, rfl⟩
        have hpn : p < n := by rw [hp]; exact Nat.mod_lt _ hpos
        have hqn : q < n := by rw [hq]; exact Nat.mod_lt _ hpos
        have ep : ((m : Int) + 1) % (n : Int) = (p : Int) := by rw [hp, Int.natCast_emod]; rfl
        have eq' : ((n : Int) - (m : Int)) % (n : Int) = (q : Int) := by rw [hq, Int.natCast_emod]; congr 1; omega
        have fO2 : Hid (Fil (O.set p ((szd xs n).getD m 0)) (szd xs n) (fun i => (i + 1) % n) n (m + 1)) := by
          have := Fil_step fO.out hlt rA (Nat.mod_lt _ hpos) (fun i hi => mod_on hi hlt)
          rw [← hp] at this
          exact this
        have fR2 : Hid (Fil (R.set q ((szd ys n).getD m 0)) (szd ys n) (fun i => (n - i) % n) n (m + 1)) := by
          have := Fil_step fR.out hlt rB (Nat.mod_lt _ hpos) (fun i hi => mod_round hi hlt)
          rw [← hq] at this
          exact this
        have lO := fO.out.1
        have lR := fR.out.1
        have cellA := (hA.below hnx).cell m (by rw [lA]; exact hlt)
        have cellB := (hB.below hnx).cell m (by rw [lB]; exact hlt)
        rw [Nat.zero_add] at cellA cellB
        have cellO := hO.cellAt p (by omega)
        rw [cellsU_get _ p (by omega)] at cellO
        have frO := hO.frozenAt p
        have cellR := hR.cellAt q (by omega)
        rw [cellsU_get _ q (by omega)] at cellR
        have frR := hR.frozenAt q
        have sO := hO.stored p (.int .u64 (((szd xs n).getD m 0 : Nat) : Int))
        rw [cellsU_set] at sO
        have sR0 := hR.kept sO.2 (Or.inr (by simp [Value.ownBlock]))
        have sR := sR0.stored q (.int .u64 (((szd ys n).getD m 0 : Nat) : Int))
        rw [cellsU_set] at sR
        have sO2 := sO.1.kept sR.2 (Or.inr (by simp [Value.ownBlock]))
        have hB1 := hnx.grown sO.2 hnx.size (fun t ht => by simp at ht; omega)
        have hB2 := hB1.grown sR.2 hB1.size (fun t ht => by simp at ht; omega)
        have sR1 := sR.1
        clear sO sR sR0 hp hq hO hR fO fR hB1 lO lR
        have hnx0 := hnx
        clear hnx
        generalize (szd xs n).getD m 0 = am at *
        generalize (szd ys n).getD m 0 = bm at *
        generalize O.getD p 0 = oldo at *
        generalize R.getD q 0 = oldr at *
        go_wp2
        go_region
        go_wp2
        go_region
        go_wp2
        go_roundw
        case rel => exact ⟨m + 1, _, _, by omega, by go_num, sO2, sR1, fO2, fR2, ⟨hB2.os, hB2.tape, hB2.output, hB2.size, hB2.block⟩⟩
        case measure => simp only [intOf]; omega
      · have e : m = n := by omega
        subst e
        have hOu := IsU.of_owns hO fO.out.2.1
        have hRu := IsU.of_owns hR fR.out.2.1
        have lO := fO.out.1
        have lR := fR.out.1
        have eS : Hid (∀ t, fM (fw (szd xs m) j t).val (pw (toF (rt j)) t).val = (fw O j t).val) := by
          intro t
          have e1 : fw O j t = fw (szd xs m) j t * pw (toF (rt j)) t := by
            have hm2 := hn.out
            have fO3 := fO.out
            subst hm2
            exact dft_shift (ord_rt j (by omega)) _ _ (fun i hi => by unfold cf; rw [fO3.2.2 i hi]) t
          rw [e1, fM_val, toF_val, toF_val]
        have eP : Hid (fM (S m (fun i => cf (szd xs m) i * cf (szd ys m) i)).val m = (S m (fun t => fw (szd xs m) j t * fw R j t)).val) := by
          show fM _ _ = _
          have hm2 := hn.out
          have fR3 := fR.out
          rw [fM_val, toF_val]
          congr 1
          subst hm2
          exact (parseval (ord_rt j (by omega)) (rt_inv j (by omega)) _ _ _ (fun i hi => by unfold cf; rw [fR3.2.2 i hi])).symm
        replace hA := hA.below hnx
        replace hB := hB.below hnx
        have hW2 : Below w.heap.size w wr := hW.trans (hnx.mono hW.size)
        clear hO hR fO fR hnx hW
        have tk1 : True := trivial
        go_wp2_with (first
          | (go_at_call 7; have _t := tk1; refine Calls.mono (cF _ _ (szd xs m) hA lA hW2) ?_; rintro e w3 ⟨fa, rfl, hFa, hb⟩; obtain ⟨ba, oa, ca, rfl⟩ := hFa.placeN (mk_length _ _) hpos; clear tk1; replace hA := hA.below hb; replace hB := hB.below hb; replace hOu := hOu.below hb; replace hRu := hRu.below hb; replace hW2 := hW2.trans (hb.mono hW2.size); clear hb)
          | (go_at_call 7; refine Calls.mono (cF _ _ O hOu lO hW2) ?_; rintro e w4 ⟨fo, rfl, hFo, hb⟩; replace hA := hA.below hb; replace hB := hB.below hb; replace hRu := hRu.below hb; replace hFa := hFa.below hb; replace hW2 := hW2.trans (hb.mono hW2.size); clear hb)
          | (go_at_call 14; refine Calls.mono (cL _) ?_; rintro e w' ⟨rfl, hw⟩; rw [hw]; clear hw)
          | (go_at_call 13; refine Calls.mono (cR _) ?_; rintro e w' ⟨rfl, hw⟩; rw [hw]; clear hw))
        obtain ⟨bo, oo, co, rfl⟩ := hFo.placeN (mk_length _ _) hpos
        clear hOu cL cR
        go_loopw [19, 85] (fun vt vi wr => ∃ t : Nat, t ≤ m ∧ vi = .int .i64 (t : Int) ∧ vt = .int .u64 (((pw (toF (rt j)) t).val : Nat) : Int) ∧ Below w4.heap.size w4 wr)
          (fun _ vi _ => m - (intOf vi).toNat)
        case atStart => exact ⟨0, Nat.zero_le _, rfl, rfl, Below.refl _ _⟩
        case round =>
          obtain ⟨t, ht, rfl, rfl, hnx⟩ := hrel
          by_cases hlt2 : t < m
          · have hd2 : decide (t < m) = true := decide_eq_true hlt2
            have cellA := (hFa.below hnx).cell t (by rw [mk_length]; exact hlt2)
            have cellO := (hFo.below hnx).cell t (by rw [mk_length]; exact hlt2)
            rw [mk_getD _ _ t hlt2] at cellA cellO
            have c1 := field_Mul (fw (szd xs m) j t).val (pw (toF (rt j)) t).val (by have := lt_int (val_lt (fw (szd xs m) j t)); omega) (by have := lt_int (val_lt (pw (toF (rt j)) t)); omega)
            rw [eS.out t] at c1
            have c2 := field_Mul (pw (toF (rt j)) t).val (rt j) (by have := lt_int (val_lt (pw (toF (rt j)) t)); omega) (by have := rt_lt j; omega)
            have e2 : fM (pw (toF (rt j)) t).val (rt j) = (pw (toF (rt j)) (t + 1)).val := by rw [fM_val, toF_val, pw_succ]
            rw [e2] at c2
            clear e2
            generalize (fw (szd xs m) j t).val = am at *
            generalize (fw O j t).val = om at *
            generalize (pw (toF (rt j)) t).val = pt at *
            go_wp2
            go_quiet (first | (go_at_call 12; exact Calls.quiet_of_same (c1 _)))
            go_wp2_with (go_at_call 12; refine Calls.mono (c2 _) ?_; rintro e w' ⟨rfl, hw⟩; rw [hw]; clear hw)
            go_roundw
            case rel => exact ⟨t + 1, by omega, by go_num, rfl, below_drewN hnx _⟩
            case measure => simp only [intOf]; omega
          · have e : t = m := by omega
            subst e
            have hA3 := hA.below hnx
            have hB3 := hB.below hnx
            have hRu3 := hRu.below hnx
            have hFa3 := hFa.below hnx
            have hW3 : Below w.heap.size w wr := hW2.trans (hnx.mono hW2.size)
            clear hA hB hRu hFa hW2 hFo eS hnx
            go_wp2_with (go_at_call 7; refine Calls.mono (cF _ _ R hRu3 lR hW3) ?_; rintro e w5 ⟨fr, rfl, hFr, hb⟩; replace hA3 := hA3.below hb; replace hB3 := hB3.below hb; replace hFa3 := hFa3.below hb; replace hW3 := hW3.trans (hb.mono hW3.size); clear hb)
            obtain ⟨br, or', cr, rfl⟩ := hFr.placeN (mk_length _ _) hpos
            clear hRu3 cF
            go_loopw [23, 24, 110] (fun vl vr vi wr => ∃ s : Nat, s ≤ t ∧ vi = .int .i64 (s : Int) ∧ vl = .int .u64 (((S s (fun i => cf (szd xs t) i * cf (szd ys t) i)).val : Nat) : Int) ∧ vr = .int .u64 (((S s (fun i => fw (szd xs t) j i * fw R j i)).val : Nat) : Int) ∧ Below w5.heap.size w5 wr)
              (fun _ _ vi _ => t - (intOf vi).toNat)
            case atStart => exact ⟨0, Nat.zero_le _, rfl, rfl, rfl, Below.refl _ _⟩
            case round =>
              obtain ⟨s, hs, rfl, rfl, rfl, hnx⟩ := hrel
              by_cases hlt3 : s < t
              · have hd3 : decide (s < t) = true := decide_eq_true hlt3
                have cellA := (hA3.below hnx).cell s (by rw [lA]; exact hlt3)
                have cellB := (hB3.below hnx).cell s (by rw [lB]; exact hlt3)
                rw [Nat.zero_add] at cellA cellB
                have cellF := (hFa3.below hnx).cell s (by rw [mk_length]; exact hlt3)
                have cellR := (hFr.below hnx).cell s (by rw [mk_length]; exact hlt3)
                rw [mk_getD _ _ s hlt3] at cellF cellR
                have xa := range_getD rA s
                have xb := range_getD rB s
                have c1 := field_Mul _ _ xa xb
                have c2 := field_Add (S s (fun i => cf (szd xs t) i * cf (szd ys t) i)).val (fM ((szd xs t).getD s 0) ((szd ys t).getD s 0)) (by have := lt_int (val_lt (S s (fun i => cf (szd xs t) i * cf (szd ys t) i))); omega) (by have := fM_lt ((szd xs t).getD s 0) ((szd ys t).getD s 0); omega)
                have e2 : fA (S s (fun i => cf (szd xs t) i * cf (szd ys t) i)).val (fM ((szd xs t).getD s 0) ((szd ys t).getD s 0)) = (S (s + 1) (fun i => cf (szd xs t) i * cf (szd ys t) i)).val := by rw [fA_val, toF_val, toF_fM, S_succ]; rfl
                rw [e2] at c2
                have c3 := field_Mul (fw (szd xs t) j s).val (fw R j s).val (by have := lt_int (val_lt (fw (szd xs t) j s)); omega) (by have := lt_int (val_lt (fw R j s)); omega)
                have c4 := field_Add (S s (fun i => fw (szd xs t) j i * fw R j i)).val (fM (fw (szd xs t) j s).val (fw R j s).val) (by have := lt_int (val_lt (S s (fun i => fw (szd xs t) j i * fw R j i))); omega) (by have := fM_lt (fw (szd xs t) j s).val (fw R j s).val; omega)
                have e4 : fA (S s (fun i => fw (szd xs t) j i * fw R j i)).val (fM (fw (szd xs t) j s).val (fw R j s).val) = (S (s + 1) (fun i => fw (szd xs t) j i * fw R j i)).val := by rw [fA_val, toF_val, toF_fM, toF_val, toF_val, S_succ]
                rw [e4] at c4
                clear e2 e4 xa xb rA rB eP
                generalize fM ((szd xs t).getD s 0) ((szd ys t).getD s 0) = p1 at *
                generalize (szd xs t).getD s 0 = am at *
                generalize (szd ys t).getD s 0 = bm at *
                generalize fM (fw (szd xs t) j s).val (fw R j s).val = p2 at *
                generalize (fw (szd xs t) j s).val = fm at *
                generalize (fw R j s).val = rm at *
                obtain ⟨z1, hz1⟩ : ∃ z1 : Nat, z1 = (S (s + 1) (fun i => cf (szd xs t) i * cf (szd ys t) i)).val := ⟨_, rfl⟩
                obtain ⟨z2, hz2⟩ : ∃ z2 : Nat, z2 = (S (s + 1) (fun i => fw (szd xs t) j i * fw R j i)).val := ⟨_, rfl⟩
                rw [← hz1] at c2
                rw [← hz2] at c4
                have hz1' : Hid (z1 = (S (s + 1) (fun i => cf (szd xs t) i * cf (szd ys t) i)).val) := hz1
                have hz2' : Hid (z2 = (S (s + 1) (fun i => fw (szd xs t) j i * fw R j i)).val) := hz2
                clear hz1 hz2
                generalize (S s (fun i => cf (szd xs t) i * cf (szd ys t) i)).val = y1 at *
                generalize (S s (fun i => fw (szd xs t) j i * fw R j i)).val = y2 at *
                go_wp2
                go_quiet (first | (go_at_call 12; exact Calls.quiet_of_same (c1 _)) | (go_at_call 11; exact Calls.quiet_of_same (c2 _)))
                obtain ⟨w6, hw6⟩ : ∃ w6 : World, w6 = wr.drewN nq := ⟨_, rfl⟩
                rw [← hw6]
                have hnx6 : Below w5.heap.size w5 w6 := by rw [hw6]; exact below_drewN hnx _
                have h6c : ∀ a, w6.cell? a = wr.cell? a := fun a => by rw [hw6]; rfl
                rw [← h6c] at cellF cellR
                clear cellA cellB c1 c2 hw6 hnx h6c
                go_wp2
                go_quiet (first | (go_at_call 12; exact Calls.quiet_of_same (c3 _)) | (go_at_call 11; exact Calls.quiet_of_same (c4 _)))
                go_wp2
                go_roundw
                case rel => exact ⟨s + 1, by omega, by go_num, by rw [← hz1'.out], by rw [← hz2'.out], below_drewN hnx6 _⟩
                case measure => simp only [intOf]; omega
              · have e : s = t := by omega
                subst e
                have hW4 : Below w.heap.size w wr := hW3.trans (hnx.mono hW3.size)
                have c1 := field_Mul (S s (fun i => cf (szd xs s) i * cf (szd ys s) i)).val s (by have := lt_int (val_lt (S s (fun i => cf (szd xs s) i * cf (szd ys s) i))); omega) (by omega)
                rw [eP.out] at c1
                clear hA3 hB3 hFa3 hFr hW3 hnx eP
                generalize (S s (fun i => cf (szd xs s) i * cf (szd ys s) i)).val = lf at *
                generalize (S s (fun i => fw (szd xs s) j i * fw R j i)).val = rg at *
                go_wp2_with (go_at_call 12; refine Calls.mono (c1 _) ?_; rintro e w' ⟨rfl, hw⟩; rw [hw]; clear hw)
                go_ret
                exact ⟨rfl, hW4⟩

theorem nttShifts_walk (w : World) (v : Value) (xs : List Nat) (h : IsU w v xs) (v' : Value) (ys : List Nat) (h' : IsU w v' ys) (a2 : Int) (_w2 : (Lit.int .i64 a2).wf = true) (hTb : Tab w) :
    Calls Tryd.prog 4 #[v, v', .int .i64 a2] w fun e w' => e = .returned (.bool true) ∧ Below w.heap.size w w' := by
  obtain ⟨j, hj, hj6⟩ : ∃ j : Nat, a2 % 7 = (j : Int) ∧ j ≤ 6 := ⟨(a2 % 7).toNat, by omega, by omega⟩
  exact nttShifts_nat w v v' xs ys a2 j (2 ^ j) h h' hj hj6 rfl hTb

end Go.Proofs.YtkiflapifdbgkaeDoor
