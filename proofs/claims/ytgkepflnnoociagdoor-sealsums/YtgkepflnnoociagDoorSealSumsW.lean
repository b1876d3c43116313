/-
  SealSums returns true for all that is handed in.
-/
import Derived.Test.YtgkepflnnoociagDoorSealC
import Derived.Test.YtgkepflnnoociagDoorSealS
import Derived.Test.YtgkepflnnoociagDoorSealB
import Derived.Test.YtgkepflnnoociagDoorKeepShaped
import Derived.Test.YtgkepflnnoociagDoorRefRest
import Derived.Test.YtgkepflnnoociagDoorField
import Derived.Test.YtgkepflnnoociagDoorSlEq
import Derived.Deep.Cut
import Derived.BigQuiet
namespace Go.Proofs.YtgkepflnnoociagDoor
open Go.RowKit

theorem IsU.shs {w : World} {v : Value} {xs : List Nat} (h : IsU w v xs) : ∃ a c, v = .slice a xs.length c := by
  obtain ⟨a, c, e, _⟩ := h
  exact ⟨a, c, e⟩
set_option maxRecDepth 100000 in
set_option maxHeartbeats 8000000 in
theorem sealSums_no (w : World) (v : Value) (zs : List Int) (h : IsZ w v zs) (v1 : Value) (xs : List Nat) (h1 : IsU w v1 xs) (v2 : Value) (bs : List Int) (h2 : IsZ w v2 bs) (hTb : Tab w) (hno : ∀ ds, Good zs ds → 64 < prd2 ds) :
    Calls Tryd.prog 3 #[v, v1, v2] w fun e w' => e = .returned (.bool true) ∧ Below w.heap.size w w' := by
  have hb0 : Below w.heap.size w ((w.alloc (.cells #[.int .i64 2] 3)).alloc (.cells #[.int .u64 5, .int .u64 3] 27)) := (below_alloc1 w (.cells #[.int .i64 2] 3)).trans ((below_alloc1 _ (.cells #[.int .u64 5, .int .u64 3] 27)).mono (below_alloc1 w (.cells #[.int .i64 2] 3)).size)
  have cC0 := seal_Corners ((w.alloc (.cells #[.int .i64 2] 3)).alloc (.cells #[.int .u64 5, .int .u64 3] 27)) (.slice (some ⟨w.heap.size, 0, none⟩) 1 1) (.slice (some ⟨w.heap.size + 1, 0, none⟩) 2 2) [2] [5, 3] ((isZ_lit1 w 3 2 (by omega)).below (below_alloc1 _ _)) (by have q := IsU.lit2 (w.alloc (.cells #[.int .i64 2] 3)) 27 5 3 (by decide) (by decide); have e : (w.alloc (.cells #[.int .i64 2] 3)).heap.size = w.heap.size + 1 := (by simp); rw [e] at q; exact q) (hTb.below hb0)
  rw [seal_ex.2] at cC0
  rw [show ([5, 3] : List Nat).length = 2 from rfl, seal_ex.1] at cC0
  have hT : Hid (∀ W, Below w.heap.size w W → Tab W) := fun W hW => hTb.below hW
  have cS := fun (W : World) (hb : Below w.heap.size w W) => keep_shaped_no W v v1 zs (h.below hb) hno
  obtain ⟨a, cap, rfl, hq1, hmx, -, -⟩ := h
  obtain ⟨a1, cap1, rfl, hq2, hmx1, -, -⟩ := h1
  obtain ⟨a2, cap2, rfl, hq3, hmx2, -, -⟩ := h2
  have hz9 : zs.length ≤ 9223372036854775807 := by unfold maxLen at hmx; omega
  have hb9 : bs.length ≤ 9223372036854775807 := by unfold maxLen at hmx2; omega
  clear hmx hmx1 hmx2 hq1 hq2 hq3
  clear hno
  go_enter Tryd.func3, Tryd.ntmps3
  go_wp2_with (first
    | (go_at_call 7; refine Calls.mono cC0 ?_; rintro e w1 ⟨u1, rfl, hU1, hb1⟩; clear cC0; have hB1 := hb0.trans (hb1.mono hb0.size); clear hb1; obtain ⟨x1, y1, rfl⟩ := hU1.shs; have hb2 := below_alloc1 w1 (.cells #[.int .u64 8, .int .u64 2] 27); have cQ := slices_Equal _ _ _ [8, 2] (hU1.below hb2) (IsU.lit2 w1 27 8 2 (by decide) (by decide)); have hB2 := hB1.trans (hb2.mono hB1.size); clear hU1 hb2)
    | (go_at_call 8; refine Calls.mono cQ ?_; rintro e w2 ⟨rfl, hb3⟩; clear cQ; have hB3 := hB2.trans (hb3.mono hB2.size); clear hb3 hB2 hB1; have cS1 := cS w2 hB3; clear cS)
    | (go_at_call 9; refine Calls.mono cS1 ?_; rintro e w3 ⟨rfl, hw3⟩; rw [hw3]; clear hw3 cS1))
  go_ret
  exact ⟨rfl, hB3⟩
set_option maxRecDepth 100000 in
set_option maxHeartbeats 8000000 in
theorem sealSums_arg (w : World) (v : Value) (zs : List Int) (h : IsZ w v zs) (v1 : Value) (xs : List Nat) (h1 : IsU w v1 xs) (v2 : Value) (bs : List Int) (h2 : IsZ w v2 bs) (hTb : Tab w) (ds : List Nat) (hG : Good zs ds) (h64 : prd2 ds ≤ 64) (hbl : bs.length ≠ zs.length) :
    Calls Tryd.prog 3 #[v, v1, v2] w fun e w' => e = .returned (.bool true) ∧ Below w.heap.size w w' := by
  have hb0 : Below w.heap.size w ((w.alloc (.cells #[.int .i64 2] 3)).alloc (.cells #[.int .u64 5, .int .u64 3] 27)) := (below_alloc1 w (.cells #[.int .i64 2] 3)).trans ((below_alloc1 _ (.cells #[.int .u64 5, .int .u64 3] 27)).mono (below_alloc1 w (.cells #[.int .i64 2] 3)).size)
  have cC0 := seal_Corners ((w.alloc (.cells #[.int .i64 2] 3)).alloc (.cells #[.int .u64 5, .int .u64 3] 27)) (.slice (some ⟨w.heap.size, 0, none⟩) 1 1) (.slice (some ⟨w.heap.size + 1, 0, none⟩) 2 2) [2] [5, 3] ((isZ_lit1 w 3 2 (by omega)).below (below_alloc1 _ _)) (by have q := IsU.lit2 (w.alloc (.cells #[.int .i64 2] 3)) 27 5 3 (by decide) (by decide); have e : (w.alloc (.cells #[.int .i64 2] 3)).heap.size = w.heap.size + 1 := (by simp); rw [e] at q; exact q) (hTb.below hb0)
  rw [seal_ex.2] at cC0
  rw [show ([5, 3] : List Nat).length = 2 from rfl, seal_ex.1] at cC0
  have hT : Hid (∀ W, Below w.heap.size w W → Tab W) := fun W hW => hTb.below hW
  have cS := fun (W : World) (hb : Below w.heap.size w W) => keep_shaped_ok W v v1 zs ds xs (h.below hb) (h1.below hb) hG h64
  have hnb : ((bs.length : Int) != (zs.length : Int)) = true := by simp; omega
  have hnb2 : ((bs.length : Int) == (zs.length : Int)) = false := by simp; omega
  obtain ⟨a, cap, rfl, hq1, hmx, -, -⟩ := h
  obtain ⟨a1, cap1, rfl, hq2, hmx1, -, -⟩ := h1
  obtain ⟨a2, cap2, rfl, hq3, hmx2, -, -⟩ := h2
  have hz9 : zs.length ≤ 9223372036854775807 := by unfold maxLen at hmx; omega
  have hb9 : bs.length ≤ 9223372036854775807 := by unfold maxLen at hmx2; omega
  clear hmx hmx1 hmx2 hq1 hq2 hq3
  clear hG hbl
  generalize szd xs (prd2 ds) = X at *
  generalize prd2 ds = N at *
  go_enter Tryd.func3, Tryd.ntmps3
  go_wp2_with (first
    | (go_at_call 7; refine Calls.mono cC0 ?_; rintro e w1 ⟨u1, rfl, hU1, hb1⟩; clear cC0; have hB1 := hb0.trans (hb1.mono hb0.size); clear hb1; obtain ⟨x1, y1, rfl⟩ := hU1.shs; have hb2 := below_alloc1 w1 (.cells #[.int .u64 8, .int .u64 2] 27); have cQ := slices_Equal _ _ _ [8, 2] (hU1.below hb2) (IsU.lit2 w1 27 8 2 (by decide) (by decide)); have hB2 := hB1.trans (hb2.mono hB1.size); clear hU1 hb2)
    | (go_at_call 8; refine Calls.mono cQ ?_; rintro e w2 ⟨rfl, hb3⟩; clear cQ; have hB3 := hB2.trans (hb3.mono hB2.size); clear hb3 hB2 hB1; have cS1 := cS w2 hB3; clear cS)
    | (go_at_call 9; refine Calls.mono cS1 ?_; rintro e w3 ⟨gx, rfl, hX, hb4⟩; clear cS1))
  go_ret
  exact ⟨rfl, hB3.trans (hb4.mono hB3.size)⟩
set_option maxRecDepth 100000 in
set_option maxHeartbeats 8000000 in
theorem sealSums_main (w : World) (v : Value) (zs : List Int) (h : IsZ w v zs) (v1 : Value) (xs : List Nat) (h1 : IsU w v1 xs) (v2 : Value) (bs : List Int) (h2 : IsZ w v2 bs) (hTb : Tab w) (ds : List Nat) (hG : Good zs ds) (h64 : prd2 ds ≤ 64) (hbl : bs.length = zs.length) :
    Calls Tryd.prog 3 #[v, v1, v2] w fun e w' => e = .returned (.bool true) ∧ Below w.heap.size w w' := by
  have hb0 : Below w.heap.size w ((w.alloc (.cells #[.int .i64 2] 3)).alloc (.cells #[.int .u64 5, .int .u64 3] 27)) := (below_alloc1 w (.cells #[.int .i64 2] 3)).trans ((below_alloc1 _ (.cells #[.int .u64 5, .int .u64 3] 27)).mono (below_alloc1 w (.cells #[.int .i64 2] 3)).size)
  have cC0 := seal_Corners ((w.alloc (.cells #[.int .i64 2] 3)).alloc (.cells #[.int .u64 5, .int .u64 3] 27)) (.slice (some ⟨w.heap.size, 0, none⟩) 1 1) (.slice (some ⟨w.heap.size + 1, 0, none⟩) 2 2) [2] [5, 3] ((isZ_lit1 w 3 2 (by omega)).below (below_alloc1 _ _)) (by have q := IsU.lit2 (w.alloc (.cells #[.int .i64 2] 3)) 27 5 3 (by decide) (by decide); have e : (w.alloc (.cells #[.int .i64 2] 3)).heap.size = w.heap.size + 1 := (by simp); rw [e] at q; exact q) (hTb.below hb0)
  rw [seal_ex.2] at cC0
  rw [show ([5, 3] : List Nat).length = 2 from rfl, seal_ex.1] at cC0
  have hT : Hid (∀ W, Below w.heap.size w W → Tab W) := fun W hW => hTb.below hW
  have hn : prd2 ds ≤ 1024 := by omega
  have hS : Shp ds := hG.2.2.2
  have hE := spE_ok hG hn
  have hds := dsZ_of hG
  have hzl : zs.length = ds.length := by rw [hG.2.2.1, List.length_map]
  have h3 : ds.length ≤ 3 := by rw [← hzl]; exact hG.2.1
  have h13 : 1 ≤ ds.length := by rw [← hzl]; exact hG.1
  have cS := fun (W : World) (hb : Below w.heap.size w W) => keep_shaped_ok W v v1 zs ds xs (h.below hb) (h1.below hb) hG h64
  obtain ⟨X, hX0⟩ : ∃ X, X = szd xs (prd2 ds) := ⟨_, rfl⟩
  have hXl : X.length = prd2 ds := by rw [hX0]; exact szd_length _ _
  rw [← hX0] at cS
  clear hX0
  obtain ⟨qa1, qa2, qa3, qa4, qa5⟩ := sl_ok hE X bs 1 (by rw [hds]; exact hXl) hbl
  obtain ⟨qb1, -, -, qb4, -⟩ := sl_ok hE (shW ds bs X) bs 1 (by rw [hds]; exact shW_length _ _ _) hbl
  obtain ⟨-, qc2, -, -, qc5⟩ := sl_ok hE (shW ds bs X) (bkL ds bs ds.length) 1 (by rw [hds]; exact shW_length _ _ _) (by rw [bkL_length]; exact hzl.symm)
  obtain ⟨-, qd2, -, -, qd5⟩ := sl_ok hE X (wlL ds bs ds.length) 1 (by rw [hds]; exact hXl) (by rw [wlL_length]; exact hzl.symm)
  rw [hds] at qa4 qa5 qb4 qc5 qd5
  rw [whole_all hS] at qd5
  have cA1 := fun (W : World) (u : Value) (hb : Below w.heap.size w W) (hu : IsU W u X) => seal_Corners W v u zs X (h.below hb) hu (hTb.below hb)
  rw [qa1, qa4] at cA1
  have cA2 := fun (W : World) (u : Value) (hb : Below w.heap.size w W) (hu : IsU W u X) => seal_Of W v u zs X 1 (h.below hb) hu (by decide) (hTb.below hb)
  rw [qa1, qa3] at cA2
  have cA3 := fun (W : World) (u : Value) (hb : Below w.heap.size w W) (hu : IsU W u X) => seal_Shift W v u v2 zs bs X (h.below hb) hu (h2.below hb) (hTb.below hb)
  rw [qa2, qa5] at cA3
  have cA4 := fun (W : World) (u : Value) (hb : Below w.heap.size w W) (hu : IsU W u (shW ds bs X)) => seal_Corners W v u zs (shW ds bs X) (h.below hb) hu (hTb.below hb)
  rw [qb1, qb4] at cA4
  have cA5 := fun (W : World) (u ub : Value) (hb : Below w.heap.size w W) (hu : IsU W u (shW ds bs X)) (hub : IsZ W ub (bkL ds bs ds.length)) => seal_Shift W v u ub zs (bkL ds bs ds.length) (shW ds bs X) (h.below hb) hu hub (hTb.below hb)
  rw [qc2, qc5] at cA5
  have cA6 := fun (W : World) (u ub : Value) (hb : Below w.heap.size w W) (hu : IsU W u X) (hub : IsZ W ub (wlL ds bs ds.length)) => seal_Shift W v u ub zs (wlL ds bs ds.length) X (h.below hb) hu hub (hTb.below hb)
  rw [qd2, qd5] at cA6
  clear qa1 qa2 qa3 qa4 qa5 qb1 qb4 qc2 qc5 qd2 qd5
  obtain ⟨cn, hcn⟩ : ∃ cn, cn = (crs ds (prd2 ds)).length := ⟨_, rfl⟩
  have hcn0 : 0 < cn := by rw [hcn]; exact (crs_pos hS).1
  have hcn9 : cn ≤ 64 := by rw [hcn]; exact Nat.le_trans (crs_len _) h64
  have hlc : Hid ((crW ds X).length = cn) := by show _ = _; rw [crW_length, hcn]
  have hld : Hid ((crW ds (shW ds bs X)).length = cn) := by show _ = _; rw [crW_length, hcn]
  have hf1 : Hid ((crW ds X).getD 0 0 = pE X 1) := first_sum hS hXl
  have hf2 : Hid ((crW ds (shW ds bs X)).getD 0 0 = pE X 1) := by show _ = _; rw [first_stays hS hn]; exact first_sum hS hXl
  have hsg : Hid (∀ i, i < cn → (crW ds (shW ds bs X)).getD i 0 = (crW ds X).getD i 0 ∨ (crW ds (shW ds bs X)).getD i 0 = fS 0 ((crW ds X).getD i 0)) := fun i hi => corner_sign hS hn bs X i (by rw [← hcn]; exact hi)
  have hcr : Hid (∀ i, (((crW ds X).getD i 0 : Nat) : Int) < 18446744073709551616) := fun i => range_getD (crW_rng ds X) i
  have hbk : Hid (∀ i, i < prd2 ds → (shW ds (bkL ds bs ds.length) (shW ds bs X)).getD i 0 = fN (X.getD i 0)) := fun i hi => back_all hS bs X i hi
  have hlb : Hid ((shW ds bs X).length = prd2 ds) := shW_length _ _ _
  have hlu : Hid ((shW ds (bkL ds bs ds.length) (shW ds bs X)).length = prd2 ds) := shW_length _ _ _
  have hXl' : Hid (X.length = prd2 ds) := hXl
  have hN0 : 0 < prd2 ds := prd2_pos hS.pos
  have hZ := h
  obtain ⟨a, cap, rfl, hq1, hmx, hcz, -⟩ := h
  obtain ⟨a1, cap1, rfl, hq2, hmx1, -, -⟩ := h1
  obtain ⟨a2, cap2, rfl, hq3, hmx2, hcb, hrb⟩ := h2
  have hz9 : zs.length ≤ 9223372036854775807 := by unfold maxLen at hmx; omega
  obtain ⟨bz, oz, rfl, -⟩ := hcz 0 (by omega)
  obtain ⟨bb, ob, rfl, -⟩ := hcb 0 (by omega)
  have hcell : Hid (∀ W : World, Below w.heap.size w W → ∀ x, x < ds.length → W.cell? ⟨bz, oz + x, none⟩ = some (.int .i64 ((sz ds x : Nat) : Int)) ∧ W.cell? ⟨bb, ob + x, none⟩ = some (.int .i64 (bs.getD x 0)) ∧ 0 < sz ds x ∧ sz ds x ≤ 1024) := fun W hb x hx => by
    obtain ⟨b, off, e, hc⟩ := hcz x (by omega)
    simp only [Option.some.injEq, Addr.mk.injEq, and_true] at e
    obtain ⟨rfl, rfl⟩ := e
    rw [(Good_get hG x (by omega)).1] at hc
    obtain ⟨b', off', e', hc'⟩ := hcb x (by omega)
    simp only [Option.some.injEq, Addr.mk.injEq, and_true] at e'
    obtain ⟨rfl, rfl⟩ := e'
    exact ⟨(hb.cell (block_lt hc)).trans hc, (hb.cell (block_lt hc')).trans hc', P2_pos (hS.at x hx), sz_le hS hn x hx⟩
  have hbr : Hid (∀ y, y < ds.length → -9223372036854775808 ≤ bs.getD y 0 ∧ bs.getD y 0 ≤ 9223372036854775807) := fun y hy => hrb _ (by rw [List.getD, List.getElem?_eq_getElem (by omega)]; exact List.getElem_mem _)
  have hrg : Hid ((∀ z ∈ bkL ds bs ds.length, -9223372036854775808 ≤ z ∧ z ≤ 9223372036854775807) ∧ ∀ z ∈ wlL ds bs ds.length, -9223372036854775808 ≤ z ∧ z ≤ 9223372036854775807) := by
    refine ⟨fun z hz => ?_, fun z hz => ?_⟩
    · obtain ⟨t, ht, rfl⟩ := List.mem_map.mp hz
      have ht' := List.mem_range.mp ht
      have h0 := P2_pos (hS.at t ht')
      have h4 := sz_le hS hn t ht'
      have h5 := Int.emod_lt_of_pos (bs.getD t 0) (show (0 : Int) < (sz ds t : Int) by omega)
      have h6 := Int.emod_nonneg (bs.getD t 0) (show (sz ds t : Int) ≠ 0 by omega)
      omega
    · obtain ⟨t, ht, rfl⟩ := List.mem_map.mp hz
      have ht' := List.mem_range.mp ht
      have h0 := P2_pos (hS.at t ht')
      have h4 := sz_le hS hn t ht'
      have h5 := Int.emod_lt_of_pos (bs.getD t 0) (show (0 : Int) < (sz ds t : Int) by omega)
      have h6 := Int.emod_nonneg (bs.getD t 0) (show (sz ds t : Int) ≠ 0 by omega)
      omega
  have hnb : ((bs.length : Int) != (zs.length : Int)) = false := by simp [hbl]
  have hnb2 : ((bs.length : Int) == (zs.length : Int)) = true := by simp [hbl]
  rw [hbl, hzl] at *
  clear hmx hmx1 hmx2 hq1 hq2 hq3 hcz hcb hrb hG hE hds hcn hTb hXl hS hZ
  generalize crW ds X = CL at *
  generalize crW ds (shW ds bs X) = DL at *
  generalize shW ds (bkL ds bs ds.length) (shW ds bs X) = UL at *
  generalize shW ds bs X = BL at *
  generalize pE X 1 = on at *
  generalize prd2 ds = N at *
  generalize hm : ds.length = m at *
  clear hm
  go_enter Tryd.func3, Tryd.ntmps3
  go_upto_region 11 with (first
    | (go_at_call 7; refine Calls.mono cC0 ?_; rintro e w1 ⟨u1, rfl, hU1, hb1⟩; clear cC0; have hB1 := hb0.trans (hb1.mono hb0.size); clear hb1; obtain ⟨x1, y1, rfl⟩ := hU1.shs; have hb2 := below_alloc1 w1 (.cells #[.int .u64 8, .int .u64 2] 27); have cQ := slices_Equal _ _ _ [8, 2] (hU1.below hb2) (IsU.lit2 w1 27 8 2 (by decide) (by decide)); have hB2 := hB1.trans (hb2.mono hB1.size); clear hU1 hb2)
    | (go_at_call 8; refine Calls.mono cQ ?_; rintro e w2 ⟨rfl, hb3⟩; clear cQ; have hB3 := hB2.trans (hb3.mono hB2.size); clear hb3 hB2 hB1; have cS1 := cS w2 hB3; clear cS)
    | (go_at_call 9; refine Calls.mono cS1 ?_; rintro e w3 ⟨gx, rfl, hX, hb4⟩; clear cS1; have hB4 := hB3.trans (hb4.mono hB3.size); clear hB3 hb4; have c1 := cA1 w3 _ hB4 hX; have tk : True := trivial)
    | (go_at_call 7; have _t := tk; refine Calls.mono c1 ?_; rintro e w4 ⟨u4, rfl, hC, hb5⟩; clear tk c1; replace hX := hX.below hb5; have hB5 := hB4.trans (hb5.mono hB4.size); clear hB4 hb5; obtain ⟨bc, oc, cc, rfl⟩ := hC.placeN hlc.out hcn0; have c2 := cA2 w4 _ hB5 hX)
    | (go_at_call 10; refine Calls.mono c2 ?_; rintro e w5 ⟨rfl, hb6⟩; clear c2; replace hX := hX.below hb6; replace hC := hC.below hb6; have hB6 := hB5.trans (hb6.mono hB5.size); clear hB5 hb6; have c3 := cA3 w5 _ hB6 hX)
    | (go_at_call 11; refine Calls.mono c3 ?_; rintro e w6 ⟨u6, rfl, hBB, hb7⟩; clear c3; replace hX := hX.below hb7; replace hC := hC.below hb7; have hB7 := hB6.trans (hb7.mono hB6.size); clear hB6 hb7; obtain ⟨b6, o6, c6, rfl⟩ := hBB.placeN hlb.out hN0; have c4 := cA4 w6 _ hB7 hBB)
    | (go_at_call 7; refine Calls.mono c4 ?_; rintro e w7 ⟨u7, rfl, hD, hb8⟩; clear c4; replace hX := hX.below hb8; replace hC := hC.below hb8; replace hBB := hBB.below hb8; have hB8 := hB7.trans (hb8.mono hB7.size); clear hB7 hb8; obtain ⟨bd, od, cd, rfl⟩ := hD.placeN hld.out hcn0))
  clear cA1 cA2 cA3 cA4
  have cc0 := hC.cell 0 (by rw [hlc.out]; exact hcn0)
  have cd0 := hD.cell 0 (by rw [hld.out]; exact hcn0)
  rw [hf1.out, Nat.add_zero] at cc0
  rw [hf2.out, Nat.add_zero] at cd0
  have hoo : ((on : Int) != (on : Int)) = false := by simp
  have hcc : ((cn : Int) != (cn : Int)) = false := by simp
  have hcz0 : ((cn : Int) == 0) = false := by rw [beq_eq_false_iff_ne]; omega
  have hcni : (0 : Int) < (cn : Int) := by omega
  go_quiet (fail)
  have hbq := below_drewN (Below.refl w7.heap.size w7) nq
  replace hX := hX.below hbq
  replace hC := hC.below hbq
  replace hBB := hBB.below hbq
  replace hD := hD.below hbq
  have hB9 := hB8.trans (hbq.mono hB8.size)
  clear cc0 cd0 hoo hcc hcz0 hbq hB8 hf1 hf2
  generalize w7.drewN nq = w8 at *
  go_wp2
  go_loopw [126] (fun vi wr => ∃ i : Nat, i ≤ cn ∧ vi = .int .i64 (i : Int) ∧ Below w8.heap.size w8 wr)
    (fun vi _ => cn - (intOf vi).toNat)
  case atStart => exact ⟨0, Nat.zero_le _, rfl, Below.refl _ _⟩
  case round =>
    obtain ⟨i, hi, rfl, hnx⟩ := hrel
    by_cases hlt : i < cn
    · have cci := (hC.below hnx).cell i (by rw [hlc.out]; exact hlt)
      have cdi := (hD.below hnx).cell i (by rw [hld.out]; exact hlt)
      have hr := hcr.out i
      have hi9 : i ≤ 64 := by omega
      have hbq := fun n => below_drewN (Below.refl wr.heap.size wr) n
      by_cases hsame : DL.getD i 0 = CL.getD i 0
      · rw [hsame] at cdi
        generalize CL.getD i 0 = x at *
        have hxx : ((x : Int) != (x : Int)) = false := by simp
        go_wp2
        go_quiet (fail)
        have hn2 := hnx.trans ((hbq nq).mono hnx.size)
        clear hbq cci cdi hnx
        generalize wr.drewN nq = w9 at *
        go_wp2
        go_roundw
        case rel => exact ⟨i + 1, by omega, by go_num, hn2⟩
        case measure => simp only [intOf]; omega
      · have hneg : DL.getD i 0 = fS 0 (CL.getD i 0) := by
          rcases hsg.out i hlt with q | q
          · exact absurd q hsame
          · exact q
        have hxy : (((DL.getD i 0 : Nat) : Int) != ((CL.getD i 0 : Nat) : Int)) = true := bne_iff_ne.mpr (fun q => hsame (by omega))
        have cSu : ∀ W, Calls Tryd.prog 12 #[.int .u64 0, .int .u64 ((CL.getD i 0 : Nat) : Int)] W fun e w' => e = .returned (.int .u64 ((fS 0 (CL.getD i 0) : Nat) : Int)) ∧ w' = W := fun W => field_Sub 0 (CL.getD i 0) (by decide) hr W
        rw [← hneg] at cSu
        clear hneg hsame
        generalize CL.getD i 0 = x at *
        generalize DL.getD i 0 = y at *
        have hyy : ((y : Int) != (y : Int)) = false := by simp
        go_wp2
        go_quiet (first | (go_at_call 12; exact Calls.quiet_of_same (cSu _)))
        have hn2 := hnx.trans ((hbq nq).mono hnx.size)
        clear hbq cci cdi hnx cSu
        generalize wr.drewN nq = w9 at *
        go_wp2
        go_roundw
        case rel => exact ⟨i + 1, by omega, by go_num, hn2⟩
        case measure => simp only [intOf]; omega
    · have e : cn = i := by omega
      subst e
      have hnl : ¬ cn < cn := Nat.lt_irrefl _
      have hX1 := hX.below hnx
      have hBB1 := hBB.below hnx
      have hB10 := hB9.trans (hnx.mono hB9.size)
      clear hX hBB hB9 hnx hC hD hsg hcr
      obtain ⟨w0, hw0⟩ : ∃ w0 : World, w0 = wr := ⟨_, rfl⟩
      rw [← hw0] at hX1 hBB1 hB10 ⊢
      clear hw0
      go_wp2
      go_loopw [20, 21, 153] (fun vx vy vi wr => ∃ y : Nat, y ≤ m ∧ vi = .int .i64 (y : Int) ∧ TwoZ w0 wr vx vy (bkL ds bs y) (wlL ds bs y))
        (fun _ _ vi _ => m - (intOf vi).toNat)
      case atStart => exact ⟨0, Nat.zero_le _, rfl, OwZ.nil _ _, OwZ.nil _ _, (fun g e => by simp [Value.ownBlock] at e), Below.refl _ _⟩
      case round =>
        obtain ⟨y, hy, rfl, hT2⟩ := hrel
        by_cases hlt2 : y < m
        · have hBr := hB10.trans (hT2.bl.mono hB10.size)
          obtain ⟨cz, cb, hd0, hd9⟩ := hcell.out wr hBr y hlt2
          have hbb := hbr.out y hlt2
          have hSof0 : Hid (∀ W, Below w0.heap.size w0 W → W.cell? ⟨bz, oz + y, none⟩ = some (.int .i64 ((sz ds y : Nat) : Int))) := fun W hW => (hcell.out W (hB10.trans (hW.mono hB10.size)) y hlt2).1
          have hr1 := Int.emod_lt_of_pos (bs.getD y 0) (show (0 : Int) < (sz ds y : Int) by omega)
          have hr2 := Int.emod_nonneg (bs.getD y 0) (show (sz ds y : Int) ≠ 0 by omega)
          have cR := fun (W : World) => ref_Rest (bs.getD y 0) (sz ds y : Int) (by omega) (by omega) W
          have hbks : Hid (bkL ds bs (y + 1) = bkL ds bs y ++ [-(bs.getD y 0 % (sz ds y : Int))]) := bkL_succ ds bs y
          have hwls : Hid (wlL ds bs (y + 1) = wlL ds bs y ++ [bs.getD y 0 % (sz ds y : Int) + (sz ds y : Int)]) := wlL_succ ds bs y
          generalize hrr : bs.getD y 0 % (sz ds y : Int) = r at *
          clear hrr
          generalize bs.getD y 0 = b at *
          generalize sz ds y = d at *
          have hSof : Hid (∀ W, Below w0.heap.size w0 W → (fun w' : World => w'.cell? ⟨bz, oz + y, none⟩ = some (.int .i64 (d : Int))) W) := hSof0
          clear hSof0 hBr
          have hwn : IntKind.i64.wrap (-r) = -r := by rw [IntKind.wrap_i64]; omega
          have hwa : IntKind.i64.wrap (r + (d : Int)) = r + (d : Int) := by rw [IntKind.wrap_i64]; omega
          have hy3 : y ≤ 3 := by omega
          have hmi : (y : Int) < (m : Int) := by omega
          go_upto_region 24 with (go_at_call 13; refine Calls.mono (cR _) ?_; rintro e w' ⟨rfl, hw⟩; rw [hw]; clear hw)
          clear cR cz cb
          have hTd : Below wr.heap.size wr wr.drew := below_drewN (Below.refl _ _) 1
          have hT := hT2.below hTd
          have hSd : (fun w' : World => w'.cell? ⟨bz, oz + y, none⟩ = some (.int .i64 (d : Int))) wr.drew := hSof.out _ hT.bl
          clear hT2 hTd
          refine wp_region_HB (S := (fun w' : World => w'.cell? ⟨bz, oz + y, none⟩ = some (.int .i64 (d : Int)))) (by kernel_rfl) ?_
          generalize wr.drew = wd at *
          refine wpAnyH_take (i := 0) (v := ?va0) rfl (by kernel_rfl) (by kernel_rfl) (by kernel_rfl) (fun _ _ _ h => h) (Or.inl ⟨by rfl, ?hya0⟩) hSd ?resta0
          case hya0 =>
            intro w hSw
            (try dsimp only at hSw)
            go_simp
            all_goals with_reducible rfl
          simp only [Act.put, List.getElem_toArray, List.getElem_cons_zero, List.setIfInBounds_toArray, List.set_cons_zero, List.set_cons_succ]
          refine wpAnyH_take (i := 1) (v := ?va1) rfl (by kernel_rfl) (by kernel_rfl) (by kernel_rfl) (fun _ _ _ h => h) (Or.inl ⟨by rfl, ?hya1⟩) hSd ?resta1
          case hya1 =>
            intro w hSw
            (try dsimp only at hSw)
            go_simp
            all_goals with_reducible rfl
          simp only [Act.put, List.getElem_toArray, List.getElem_cons_succ, List.getElem_cons_zero, List.setIfInBounds_toArray, List.set_cons_zero, List.set_cons_succ]
          refine wpAnyH_take (i := 2) (v := ?va2) rfl (by kernel_rfl) (by kernel_rfl) (by kernel_rfl) (fun _ _ _ h => h) (Or.inl ⟨by rfl, ?hya2⟩) hSd ?resta2
          case hya2 =>
            intro w hSw
            (try dsimp only at hSw)
            go_simp
            all_goals with_reducible rfl
          simp only [Act.put, List.getElem_toArray, List.getElem_cons_succ, List.getElem_cons_zero, List.setIfInBounds_toArray, List.set_cons_zero, List.set_cons_succ]
          refine wpAnyH_take (i := 5) (v := ?va5) rfl (by kernel_rfl) (by kernel_rfl) (by kernel_rfl) (fun _ _ _ h => h) (Or.inl ⟨by rfl, ?hya5⟩) hSd ?resta5
          case hya5 =>
            intro w hSw
            (try dsimp only at hSw)
            go_simp
            all_goals with_reducible rfl
          simp only [Act.put, List.getElem_toArray, List.getElem_cons_succ, List.getElem_cons_zero, List.setIfInBounds_toArray, List.set_cons_zero, List.set_cons_succ]
          refine wpAnyH_take (i := 6) (v := ?va6) rfl (by kernel_rfl) (by kernel_rfl) (by kernel_rfl) (fun _ _ _ h => h) (Or.inl ⟨by rfl, ?hya6⟩) hSd ?resta6
          case hya6 =>
            intro w hSw
            (try dsimp only at hSw)
            go_simp
            all_goals with_reducible rfl
          simp only [Act.put, List.getElem_toArray, List.getElem_cons_succ, List.getElem_cons_zero, List.setIfInBounds_toArray, List.set_cons_zero, List.set_cons_succ]
          refine wpAnyH_take (i := 7) (v := ?va7) rfl (by kernel_rfl) (by kernel_rfl) (by kernel_rfl) (fun _ _ _ h => h) (Or.inl ⟨by rfl, ?hya7⟩) hSd ?resta7
          case hya7 =>
            intro w hSw
            (try dsimp only at hSw)
            go_simp
            all_goals with_reducible rfl
          simp only [Act.put, List.getElem_toArray, List.getElem_cons_succ, List.getElem_cons_zero, List.setIfInBounds_toArray, List.set_cons_zero, List.set_cons_succ]
          refine wpAnyH_take (i := 8) (v := ?va8) rfl (by kernel_rfl) (by kernel_rfl) (by kernel_rfl) (fun _ _ _ h => h) (Or.inl ⟨by rfl, ?hya8⟩) hSd ?resta8
          case hya8 =>
            intro w hSw
            (try dsimp only at hSw)
            go_simp
            all_goals with_reducible rfl
          simp only [Act.put, List.getElem_toArray, List.getElem_cons_succ, List.getElem_cons_zero, List.setIfInBounds_toArray, List.set_cons_zero, List.set_cons_succ]
          refine wpAnyH_take (i := 9) (v := ?va9) rfl (by kernel_rfl) (by kernel_rfl) (by kernel_rfl) (fun _ _ _ h => h) (Or.inl ⟨by rfl, ?hya9⟩) hSd ?resta9
          case hya9 =>
            intro w hSw
            (try dsimp only at hSw)
            go_simp
            all_goals with_reducible rfl
          simp only [Act.put, List.getElem_toArray, List.getElem_cons_succ, List.getElem_cons_zero, List.setIfInBounds_toArray, List.set_cons_zero, List.set_cons_succ]
          refine wpAnyH_take (i := 10) (v := ?va10) rfl (by kernel_rfl) (by kernel_rfl) (by kernel_rfl) (fun _ _ _ h => h) (Or.inl ⟨by rfl, ?hya10⟩) hSd ?resta10
          case hya10 =>
            intro w hSw
            (try dsimp only at hSw)
            go_simp
            all_goals with_reducible rfl
          simp only [Act.put, List.getElem_toArray, List.getElem_cons_succ, List.getElem_cons_zero, List.setIfInBounds_toArray, List.set_cons_zero, List.set_cons_succ]
          refine wpAnyH_take (i := 11) (v := ?va11) rfl (by kernel_rfl) (by kernel_rfl) (by kernel_rfl) (fun _ _ _ h => h) (Or.inl ⟨by rfl, ?hya11⟩) hSd ?resta11
          case hya11 =>
            intro w hSw
            (try dsimp only at hSw)
            go_simp
            all_goals with_reducible rfl
          simp only [Act.put, List.getElem_toArray, List.getElem_cons_succ, List.getElem_cons_zero, List.setIfInBounds_toArray, List.set_cons_zero, List.set_cons_succ]
          refine wpAnyH_twoB (i := 3) (j := 12) rfl rfl (by kernel_rfl) (fun K hK => ?_) (fun K hK => ?_)
          · simp only [List.getElem_toArray, List.getElem_cons_succ, List.getElem_cons_zero]
            go_simp
            have hBx : Below (wd).heap.size (wd) ((wd).alloc (.cells #[.int .i64 (-r)] 3)) := below_alloc1 _ _
            have hTwk1 := hT.below hBx
            have hLx : LtZ ((wd).alloc (.cells #[.int .i64 (-r)] 3)) (wd).heap.size (-r) := ltZ_new _ _
            have hNx := hT.fresh (wd).heap.size (Nat.le_refl _)
            obtain ⟨gx, hgx⟩ : ∃ g, g = (wd).heap.size := ⟨_, rfl⟩
            rw [← hgx] at hLx hNx ⊢
            clear hgx
            replace hSd := hSof.out _ hTwk1.bl
            refine hK.out _ _ hSd ?_
            clear hK K hT hBx
            generalize (wd).alloc (.cells #[.int .i64 (-r)] 3) = wk1 at *
            replace hT := hTwk1
            clear hTwk1
            (try simp only [Act.put, List.getElem_toArray, List.getElem_cons_succ, List.getElem_cons_zero, List.setIfInBounds_toArray, List.set_cons_zero, List.set_cons_succ])
            refine wpAnyH_twoB (i := 4) (j := 12) rfl rfl (by kernel_rfl) (fun K hK => ?_) (fun K hK => ?_)
            · refine step_appZ rfl (.tmp 164) (.tmp 167) rfl hT hLx ?s1q1 ?s2q1 (by rw [bkL_length]; omega) ?s4q1
              case s1q1 => rfl
              case s2q1 => rfl
              intro vx wk2 hT2 hgr
              have hSd2 := hSof.out _ hT2.bl
              refine hK.out _ _ hSd2 ?_
              clear hK K hSd hT hLx hNx hgr
              have hSd := hSd2
              clear hSd2
              have hT := hT2
              clear hT2
              (try simp only [Act.put, List.getElem_toArray, List.getElem_cons_succ, List.getElem_cons_zero, List.setIfInBounds_toArray, List.set_cons_zero, List.set_cons_succ])
              refine wpAnyH_oneB (i := 12) rfl (by kernel_rfl) (fun K hK => ?_)
              simp only [List.getElem_toArray, List.getElem_cons_succ, List.getElem_cons_zero]
              go_simp
              have hBy : Below (wk2).heap.size (wk2) ((wk2).alloc (.cells #[.int .i64 (r + (d : Int))] 3)) := below_alloc1 _ _
              have hTwk3 := hT.below hBy
              have hLy : LtZ ((wk2).alloc (.cells #[.int .i64 (r + (d : Int))] 3)) (wk2).heap.size (r + (d : Int)) := ltZ_new _ _
              have hNy := hT.fresh (wk2).heap.size (Nat.le_refl _)
              obtain ⟨gy, hgy⟩ : ∃ g, g = (wk2).heap.size := ⟨_, rfl⟩
              rw [← hgy] at hLy hNy ⊢
              clear hgy
              replace hSd := hSof.out _ hTwk3.bl
              refine hK.out _ _ hSd ?_
              clear hK K hT hBy
              generalize (wk2).alloc (.cells #[.int .i64 (r + (d : Int))] 3) = wk3 at *
              replace hT := hTwk3
              clear hTwk3
              (try simp only [Act.put, List.getElem_toArray, List.getElem_cons_succ, List.getElem_cons_zero, List.setIfInBounds_toArray, List.set_cons_zero, List.set_cons_succ])
              refine wpAnyH_oneB (i := 13) rfl (by kernel_rfl) (fun K hK => ?_)
              refine step_appZ rfl (.tmp 169) (.tmp 176) rfl hT.swap hLy ?s1q2 ?s2q2 (by rw [wlL_length]; omega) ?s4q2
              case s1q2 => rfl
              case s2q2 => rfl
              intro vy wk4 hT2 hgr
              have hSd2 := hSof.out _ hT2.bl
              refine hK.out _ _ hSd2 ?_
              clear hK K hSd hT hLy hNy hgr
              have hSd := hSd2
              clear hSd2
              have hT := hT2.swap
              clear hT2
              (try simp only [Act.put, List.getElem_toArray, List.getElem_cons_succ, List.getElem_cons_zero, List.setIfInBounds_toArray, List.set_cons_zero, List.set_cons_succ])
              refine wpAnyH_oneB (i := 14) rfl (by kernel_rfl) (fun K hK => ?_)
              simp only [List.getElem_toArray, List.getElem_cons_succ, List.getElem_cons_zero]
              go_simp
              refine hK.out _ _ hSd ?_
              clear hK K
              (try simp only [Act.put, List.getElem_toArray, List.getElem_cons_succ, List.getElem_cons_zero, List.setIfInBounds_toArray, List.set_cons_zero, List.set_cons_succ])
              refine wpAnyH_oneB (i := 15) rfl (by kernel_rfl) (fun K hK => ?_)
              simp only [List.getElem_toArray, List.getElem_cons_succ, List.getElem_cons_zero]
              go_simp
              refine hK.out _ _ hSd ?_
              clear hK K
              (try simp only [Act.put, List.getElem_toArray, List.getElem_cons_succ, List.getElem_cons_zero, List.setIfInBounds_toArray, List.set_cons_zero, List.set_cons_succ])
              refine wpAnyH_done (by kernel_rfl) ?_ _
              go_wp2
              go_roundw
              case rel => exact ⟨y + 1, by omega, by go_num, by rw [hbks.out, hwls.out]; exact hT⟩
              case measure => simp only [intOf]; omega
            · simp only [List.getElem_toArray, List.getElem_cons_succ, List.getElem_cons_zero]
              go_simp
              have hBy : Below (wk1).heap.size (wk1) ((wk1).alloc (.cells #[.int .i64 (r + (d : Int))] 3)) := below_alloc1 _ _
              have hTwk2 := hT.below hBy
              have hLy : LtZ ((wk1).alloc (.cells #[.int .i64 (r + (d : Int))] 3)) (wk1).heap.size (r + (d : Int)) := ltZ_new _ _
              have hNy := hT.fresh (wk1).heap.size (Nat.le_refl _)
              obtain ⟨gy, hgy⟩ : ∃ g, g = (wk1).heap.size := ⟨_, rfl⟩
              rw [← hgy] at hLy hNy ⊢
              have hLx2 := hLx.below hBy
              clear hLx
              have hLx := hLx2
              clear hLx2
              clear hgy
              replace hSd := hSof.out _ hTwk2.bl
              refine hK.out _ _ hSd ?_
              clear hK K hT hBy
              generalize (wk1).alloc (.cells #[.int .i64 (r + (d : Int))] 3) = wk2 at *
              replace hT := hTwk2
              clear hTwk2
              (try simp only [Act.put, List.getElem_toArray, List.getElem_cons_succ, List.getElem_cons_zero, List.setIfInBounds_toArray, List.set_cons_zero, List.set_cons_succ])
              refine wpAnyH_oneB (i := 4) rfl (by kernel_rfl) (fun K hK => ?_)
              refine step_appZ rfl (.tmp 164) (.tmp 167) rfl hT hLx ?s1q3 ?s2q3 (by rw [bkL_length]; omega) ?s4q3
              case s1q3 => rfl
              case s2q3 => rfl
              intro vx wk3 hT2 hgr
              have hLy2 := hLy.grown hgr hNy.1
              clear hLy
              have hLy := hLy2
              clear hLy2
              have hSd2 := hSof.out _ hT2.bl
              refine hK.out _ _ hSd2 ?_
              clear hK K hSd hT hLx hNx hgr
              have hSd := hSd2
              clear hSd2
              have hT := hT2
              clear hT2
              (try simp only [Act.put, List.getElem_toArray, List.getElem_cons_succ, List.getElem_cons_zero, List.setIfInBounds_toArray, List.set_cons_zero, List.set_cons_succ])
              refine wpAnyH_oneB (i := 13) rfl (by kernel_rfl) (fun K hK => ?_)
              refine step_appZ rfl (.tmp 169) (.tmp 176) rfl hT.swap hLy ?s1q4 ?s2q4 (by rw [wlL_length]; omega) ?s4q4
              case s1q4 => rfl
              case s2q4 => rfl
              intro vy wk4 hT2 hgr
              have hSd2 := hSof.out _ hT2.bl
              refine hK.out _ _ hSd2 ?_
              clear hK K hSd hT hLy hNy hgr
              have hSd := hSd2
              clear hSd2
              have hT := hT2.swap
              clear hT2
              (try simp only [Act.put, List.getElem_toArray, List.getElem_cons_succ, List.getElem_cons_zero, List.setIfInBounds_toArray, List.set_cons_zero, List.set_cons_succ])
              refine wpAnyH_oneB (i := 14) rfl (by kernel_rfl) (fun K hK => ?_)
              simp only [List.getElem_toArray, List.getElem_cons_succ, List.getElem_cons_zero]
              go_simp
              refine hK.out _ _ hSd ?_
              clear hK K
              (try simp only [Act.put, List.getElem_toArray, List.getElem_cons_succ, List.getElem_cons_zero, List.setIfInBounds_toArray, List.set_cons_zero, List.set_cons_succ])
              refine wpAnyH_oneB (i := 15) rfl (by kernel_rfl) (fun K hK => ?_)
              simp only [List.getElem_toArray, List.getElem_cons_succ, List.getElem_cons_zero]
              go_simp
              refine hK.out _ _ hSd ?_
              clear hK K
              (try simp only [Act.put, List.getElem_toArray, List.getElem_cons_succ, List.getElem_cons_zero, List.setIfInBounds_toArray, List.set_cons_zero, List.set_cons_succ])
              refine wpAnyH_done (by kernel_rfl) ?_ _
              go_wp2
              go_roundw
              case rel => exact ⟨y + 1, by omega, by go_num, by rw [hbks.out, hwls.out]; exact hT⟩
              case measure => simp only [intOf]; omega
          · simp only [List.getElem_toArray, List.getElem_cons_succ, List.getElem_cons_zero]
            go_simp
            have hBy : Below (wd).heap.size (wd) ((wd).alloc (.cells #[.int .i64 (r + (d : Int))] 3)) := below_alloc1 _ _
            have hTwk1 := hT.below hBy
            have hLy : LtZ ((wd).alloc (.cells #[.int .i64 (r + (d : Int))] 3)) (wd).heap.size (r + (d : Int)) := ltZ_new _ _
            have hNy := hT.fresh (wd).heap.size (Nat.le_refl _)
            obtain ⟨gy, hgy⟩ : ∃ g, g = (wd).heap.size := ⟨_, rfl⟩
            rw [← hgy] at hLy hNy ⊢
            clear hgy
            replace hSd := hSof.out _ hTwk1.bl
            refine hK.out _ _ hSd ?_
            clear hK K hT hBy
            generalize (wd).alloc (.cells #[.int .i64 (r + (d : Int))] 3) = wk1 at *
            replace hT := hTwk1
            clear hTwk1
            (try simp only [Act.put, List.getElem_toArray, List.getElem_cons_succ, List.getElem_cons_zero, List.setIfInBounds_toArray, List.set_cons_zero, List.set_cons_succ])
            refine wpAnyH_oneB (i := 3) rfl (by kernel_rfl) (fun K hK => ?_)
            simp only [List.getElem_toArray, List.getElem_cons_succ, List.getElem_cons_zero]
            go_simp
            have hBx : Below (wk1).heap.size (wk1) ((wk1).alloc (.cells #[.int .i64 (-r)] 3)) := below_alloc1 _ _
            have hTwk2 := hT.below hBx
            have hLx : LtZ ((wk1).alloc (.cells #[.int .i64 (-r)] 3)) (wk1).heap.size (-r) := ltZ_new _ _
            have hNx := hT.fresh (wk1).heap.size (Nat.le_refl _)
            obtain ⟨gx, hgx⟩ : ∃ g, g = (wk1).heap.size := ⟨_, rfl⟩
            rw [← hgx] at hLx hNx ⊢
            have hLy2 := hLy.below hBx
            clear hLy
            have hLy := hLy2
            clear hLy2
            clear hgx
            replace hSd := hSof.out _ hTwk2.bl
            refine hK.out _ _ hSd ?_
            clear hK K hT hBx
            generalize (wk1).alloc (.cells #[.int .i64 (-r)] 3) = wk2 at *
            replace hT := hTwk2
            clear hTwk2
            (try simp only [Act.put, List.getElem_toArray, List.getElem_cons_succ, List.getElem_cons_zero, List.setIfInBounds_toArray, List.set_cons_zero, List.set_cons_succ])
            refine wpAnyH_oneB (i := 4) rfl (by kernel_rfl) (fun K hK => ?_)
            refine step_appZ rfl (.tmp 164) (.tmp 167) rfl hT hLx ?s1q5 ?s2q5 (by rw [bkL_length]; omega) ?s4q5
            case s1q5 => rfl
            case s2q5 => rfl
            intro vx wk3 hT2 hgr
            have hLy2 := hLy.grown hgr hNy.1
            clear hLy
            have hLy := hLy2
            clear hLy2
            have hSd2 := hSof.out _ hT2.bl
            refine hK.out _ _ hSd2 ?_
            clear hK K hSd hT hLx hNx hgr
            have hSd := hSd2
            clear hSd2
            have hT := hT2
            clear hT2
            (try simp only [Act.put, List.getElem_toArray, List.getElem_cons_succ, List.getElem_cons_zero, List.setIfInBounds_toArray, List.set_cons_zero, List.set_cons_succ])
            refine wpAnyH_oneB (i := 13) rfl (by kernel_rfl) (fun K hK => ?_)
            refine step_appZ rfl (.tmp 169) (.tmp 176) rfl hT.swap hLy ?s1q6 ?s2q6 (by rw [wlL_length]; omega) ?s4q6
            case s1q6 => rfl
            case s2q6 => rfl
            intro vy wk4 hT2 hgr
            have hSd2 := hSof.out _ hT2.bl
            refine hK.out _ _ hSd2 ?_
            clear hK K hSd hT hLy hNy hgr
            have hSd := hSd2
            clear hSd2
            have hT := hT2.swap
            clear hT2
            (try simp only [Act.put, List.getElem_toArray, List.getElem_cons_succ, List.getElem_cons_zero, List.setIfInBounds_toArray, List.set_cons_zero, List.set_cons_succ])
            refine wpAnyH_oneB (i := 14) rfl (by kernel_rfl) (fun K hK => ?_)
            simp only [List.getElem_toArray, List.getElem_cons_succ, List.getElem_cons_zero]
            go_simp
            refine hK.out _ _ hSd ?_
            clear hK K
            (try simp only [Act.put, List.getElem_toArray, List.getElem_cons_succ, List.getElem_cons_zero, List.setIfInBounds_toArray, List.set_cons_zero, List.set_cons_succ])
            refine wpAnyH_oneB (i := 15) rfl (by kernel_rfl) (fun K hK => ?_)
            simp only [List.getElem_toArray, List.getElem_cons_succ, List.getElem_cons_zero]
            go_simp
            refine hK.out _ _ hSd ?_
            clear hK K
            (try simp only [Act.put, List.getElem_toArray, List.getElem_cons_succ, List.getElem_cons_zero, List.setIfInBounds_toArray, List.set_cons_zero, List.set_cons_succ])
            refine wpAnyH_done (by kernel_rfl) ?_ _
            go_wp2
            go_roundw
            case rel => exact ⟨y + 1, by omega, by go_num, by rw [hbks.out, hwls.out]; exact hT⟩
            case measure => simp only [intOf]; omega
        · have e : m = y := by omega
          subst e
          have hnl2 : ¬ m < m := Nat.lt_irrefl _
          have hZx := hT2.ox.isZ hrg.out.1
          have hZy := hT2.oy.isZ hrg.out.2
          have hBr := hB10.trans (hT2.bl.mono hB10.size)
          have hX2 := hX1.below hT2.bl
          have hBB2 := hBB1.below hT2.bl
          have c5 := cA5 wr _ _ hBr hBB2 hZx
          have hZxs : ∃ ax cx, u20 = .slice ax m cx := by obtain ⟨ax, cx, e, _⟩ := hZx; rw [bkL_length] at e; exact ⟨ax, cx, e⟩
          have hZys : ∃ ay cy, u21 = .slice ay m cy := by obtain ⟨ay, cy, e, _⟩ := hZy; rw [wlL_length] at e; exact ⟨ay, cy, e⟩
          obtain ⟨ax, cx, rfl⟩ := hZxs
          obtain ⟨ay, cy, rfl⟩ := hZys
          clear hT2 hX1 hBB1 hB10 hZx hcell hbr hrg cA5
          go_upto_region 30 with (first
            | (go_at_call 11; refine Calls.mono c5 ?_; rintro e wa ⟨ua, rfl, hUU, hba⟩; clear c5; replace hX2 := hX2.below hba; replace hBB2 := hBB2.below hba; replace hZy := hZy.below hba; replace hBr := hBr.trans (hba.mono hBr.size); clear hba; obtain ⟨bu, ou, cu, rfl⟩ := hUU.placeN hlu.out hN0; have c6 := cA6 wa _ _ hBr hX2 hZy; clear cA6)
            | (go_at_call 11; refine Calls.mono c6 ?_; rintro e wb ⟨ub, rfl, hVV, hbb⟩; clear c6; replace hX2 := hX2.below hbb; replace hBB2 := hBB2.below hbb; replace hUU := hUU.below hbb; replace hBr := hBr.trans (hbb.mono hBr.size); clear hbb hZy; obtain ⟨bv, ov, cv, rfl⟩ := hVV.placeN hlb.out hN0; have cQ := slices_Equal wb _ _ _ hVV hBB2)
            | (go_at_call 8; refine Calls.mono cQ ?_; rintro e wc ⟨rfl, hbc⟩; clear cQ; replace hX2 := hX2.below hbc; replace hUU := hUU.below hbc; replace hBr := hBr.trans (hbc.mono hBr.size); clear hbc hVV hBB2))
          go_wp2
          go_loopw [207] (fun vi wr => ∃ i : Nat, i ≤ N ∧ vi = .int .i64 (i : Int) ∧ Below wc.heap.size wc wr)
            (fun vi _ => N - (intOf vi).toNat)
          case atStart => exact ⟨0, Nat.zero_le _, rfl, Below.refl _ _⟩
          case round =>
            obtain ⟨i, hi4, rfl, hnx⟩ := hrel
            by_cases hlt4 : i < N
            · have cx := (hX2.below hnx).cell i (by rw [hXl'.out]; exact hlt4)
              have cu' := (hUU.below hnx).cell i (by rw [hlu.out]; exact hlt4)
              rw [hbk.out i hlt4] at cu'
              rw [Nat.zero_add] at cx
              have hr := range_getD hX2.range i
              have cNx := field_Norm (X.getD i 0) hr
              have hbq := fun n => below_drewN (Below.refl wr.heap.size wr) n
              have hi9 : i ≤ 64 := by omega
              generalize fN (X.getD i 0) = z at *
              generalize X.getD i 0 = x at *
              have hzz : ((z : Int) != (z : Int)) = false := by simp
              go_wp2
              go_quiet (first | (go_at_call 14; exact Calls.quiet_of_same (cNx _)))
              have hn2 := hnx.trans ((hbq nq).mono hnx.size)
              clear hbq cx cu' hnx cNx
              generalize wr.drewN nq = w9 at *
              go_wp2
              go_roundw
              case rel => exact ⟨i + 1, by omega, by go_num, hn2⟩
              case measure => simp only [intOf]; omega
            · have e : N = i := by omega
              subst e
              have hnl3 : ¬ N < N := Nat.lt_irrefl _
              go_wp2
              go_ret
              exact ⟨rfl, hBr.trans (hnx.mono hBr.size)⟩
set_option maxRecDepth 100000 in
set_option maxHeartbeats 8000000 in
theorem sealSums_walk (w : World) (v : Value) (zs : List Int) (h : IsZ w v zs) (v1 : Value) (xs : List Nat) (h1 : IsU w v1 xs) (v2 : Value) (bs : List Int) (h2 : IsZ w v2 bs) (hTb : Tab w) :
    Calls Tryd.prog 3 #[v, v1, v2] w fun e w' => e = .returned (.bool true) ∧ Below w.heap.size w w' := by
  by_cases hno : ∃ ds, Good zs ds ∧ prd2 ds ≤ 64
  · obtain ⟨ds, hG, h64⟩ := hno
    by_cases hbl : bs.length = zs.length
    · exact sealSums_main w v zs h v1 xs h1 v2 bs h2 hTb ds hG h64 hbl
    · exact sealSums_arg w v zs h v1 xs h1 v2 bs h2 hTb ds hG h64 hbl
  · exact sealSums_no w v zs h v1 xs h1 v2 bs h2 hTb (fun ds hG => by
      rcases Nat.lt_or_ge 64 (prd2 ds) with q | q
      · exact q
      · exact absurd ⟨ds, hG, q⟩ hno)

end Go.Proofs.YtgkepflnnoociagDoor
