/-
  That what Forward and Cyclic of package many and Do of package plan tell lies in new memory.
-/
import Derived.Test.YtgkepflnnoociagDoorManyT
import Derived.Test.YtgkepflnnoociagDoorPlanC
import Derived.Test.YtgkepflnnoociagDoorSlAppAll
namespace Go.Proofs.YtgkepflnnoociagDoor
open Go.RowKit

set_option maxHeartbeats 2000000 in
theorem many_Forward_okN (w : World) (v v' : Value) (zs : List Int) (xs : List Nat) (ds : List Nat) (h : IsZ w v zs) (h' : IsU w v' xs) (ht : Tab w) (hG : Good zs ds) (hn : prd2 ds ≤ 1024) (hl : xs.length = prd2 ds) :
    Calls Tryd.prog 29 #[v, v'] w fun e w' => ∃ u, e = .returned (.tuple #[u, .int .i64 0]) ∧ NewU w.heap.size w' u ∧ Below w.heap.size w w' := by
  have hZ := h
  have hA := h'
  obtain ⟨az, cz, rfl, -⟩ := h
  obtain ⟨a, cap, rfl, -⟩ := h'
  have c1 := fun (t : Nat) => many_checkArrays_ok (w.alloc (.cells #[.slice a xs.length cap] t)) _ zs ds [xs.length] w.heap.size 1 (hZ.below (below_alloc1 w _)) hG hn (lists1 w t _ _ _) (by omega) (fun i hi => match i, hi with | 0, _ => hl)
  have c3 := fun (W : World) (hb : Below w.heap.size w W) => many_alongAll W _ _ zs xs ds false (hZ.below hb) (hA.below hb) (ht.below hb) hG hn hl
  have hlR : Hid ((mk (prd2 ds) (who ds false (cf xs) ds.length)).length = prd2 ds) := mk_length _ _
  generalize mk (prd2 ds) (who ds false (cf xs) ds.length) = RL at *
  clear hG hl ht hZ hA
  generalize prd2 ds = N at *
  go_enter Tryd.func29, Tryd.ntmps29
  go_wp2_with (first
    | (go_at_call 70; refine Calls.mono (c1 _) ?_; rintro e w' ⟨rfl, hw⟩; rw [hw]; clear hw)
    | (go_at_call 71; refine Calls.mono (c3 _ (below_alloc1 _ _)) ?_; rintro e w2 ⟨g, rfl, hg, hr, hb⟩))
  go_ret2
  exact ⟨_, rfl, .of_row hr hlR.out (by omega) (Nat.le_trans (below_alloc1 w _).size hg), below_alloc hb⟩
set_option maxHeartbeats 2000000 in
theorem many_Cyclic_okN (w : World) (v v' v2 : Value) (zs : List Int) (xs ys : List Nat) (ds : List Nat) (h : IsZ w v zs) (h' : IsU w v' xs) (h2 : IsU w v2 ys) (ht : Tab w) (hG : Good zs ds) (hn : prd2 ds ≤ 1024) (hl : xs.length = prd2 ds) (hl2 : ys.length = prd2 ds) :
    Calls Tryd.prog 30 #[v, v', v2] w fun e w' => ∃ u, e = .returned (.tuple #[u, .int .i64 0]) ∧ NewU w.heap.size w' u ∧ Below w.heap.size w w' := by
  have hZ := h
  have hA := h'
  have hB := h2
  obtain ⟨az, cz, rfl, -⟩ := h
  obtain ⟨a, cap, rfl, -⟩ := h'
  obtain ⟨a', cap', rfl, -⟩ := h2
  have c1 := fun (t : Nat) => many_checkArrays_ok (w.alloc (.cells #[.slice a xs.length cap, .slice a' ys.length cap'] t)) _ zs ds [xs.length, ys.length] w.heap.size 2 (hZ.below (below_alloc1 w _)) hG hn (lists2 w t _ _ _ _ _ _) (by omega) (fun i hi => match i, hi with | 0, _ => hl | 1, _ => hl2)
  have cA := fun (W : World) (hb : Below w.heap.size w W) => many_alongAll W _ _ zs xs ds false (hZ.below hb) (hA.below hb) (ht.below hb) hG hn hl
  have cB := fun (W : World) (hb : Below w.heap.size w W) => many_alongAll W _ _ zs ys ds false (hZ.below hb) (hB.below hb) (ht.below hb) hG hn hl2
  have cI := fun (W : World) (hb : Below w.heap.size w W) (g : Nat) (ms : List Nat) (hU : IsU W (.slice (some ⟨g, 0, none⟩) (prd2 ds) (prd2 ds)) ms) (hms : ms.length = prd2 ds) => many_alongAll W _ _ zs ms ds true (hZ.below hb) hU (ht.below hb) hG hn hms
  have hS : Shp ds := hG.2.2.2
  have hfin : Hid (mk (prd2 ds) (who ds true (cf (muK (mk (prd2 ds) (who ds false (cf xs) ds.length)) (mk (prd2 ds) (who ds false (cf ys) ds.length)) (prd2 ds))) ds.length) = mk (prd2 ds) (cyD ds (cf xs) (cf ys))) := by
    show _ = _
    refine mk_congr fun p hp => ?_
    rw [← cyc_by hS hn (cf xs) (cf ys) p hp]
    refine who_congr hS true (fun i hi => ?_) p hp
    rw [cf_muK _ _ _ (by rw [mk_length]; exact Nat.le_refl _), if_pos hi, cf_mk, if_pos hi, cf_mk, if_pos hi]
  have hlX : Hid ((mk (prd2 ds) (who ds false (cf xs) ds.length)).length = prd2 ds) := mk_length _ _
  have hlY : Hid ((mk (prd2 ds) (who ds false (cf ys) ds.length)).length = prd2 ds) := mk_length _ _
  have hPX : ∀ z ∈ mk (prd2 ds) (who ds false (cf xs) ds.length), z < P := mk_lt _ _
  have hPY : ∀ z ∈ mk (prd2 ds) (who ds false (cf ys) ds.length), z < P := mk_lt _ _
  have hlR : Hid ((mk (prd2 ds) (cyD ds (cf xs) (cf ys))).length = prd2 ds) := mk_length _ _
  generalize mk (prd2 ds) (cyD ds (cf xs) (cf ys)) = RL at *
  generalize mk (prd2 ds) (who ds false (cf xs) ds.length) = X at *
  generalize mk (prd2 ds) (who ds false (cf ys) ds.length) = Y at *
  obtain ⟨bk, hbk⟩ : ∃ f : List Nat → List Nat, ∀ ms, mk (prd2 ds) (who ds true (cf ms) ds.length) = f ms := ⟨fun ms => mk (prd2 ds) (who ds true (cf ms) ds.length), fun _ => rfl⟩
  simp only [hbk] at cI hfin
  rw [hl, hl2] at *
  clear hbk hS hG ht hZ hA hB hl hl2
  generalize prd2 ds = N at *
  go_enter Tryd.func30, Tryd.ntmps30
  go_wp2_with (first
    | (go_at_call 70; refine Calls.mono (c1 _) ?_; rintro e w' ⟨rfl, hw⟩; rw [hw]; clear hw)
    | (go_at_call 71; refine Calls.mono (cA _ (below_alloc1 _ _)) ?_; rintro e w1 ⟨g, rfl, hg, hrow, hb⟩; clear cA; replace hb := below_alloc hb)
    | (go_at_call 71; refine Calls.mono (cB _ hb) ?_; rintro e w2 ⟨g2, rfl, hg2, hrow2, hb2⟩; clear cB))
  have hlt := hrow.lt
  have hne : g2 ≠ g := by omega
  have hgw : w.heap.size ≤ g := Nat.le_trans (below_alloc1 w _).size hg
  have hrowB := hrow.below hb2
  have hbB := hb.trans (hb2.mono hb.size)
  clear hrow hb hb2 hg hg2 hlt c1
  go_loopw [28] (fun vi wr => ∃ i : Nat, i ≤ N ∧ vi = .int .i64 (i : Int) ∧ RowU wr g (muK X Y i) ∧ RowU wr g2 Y ∧ Below w.heap.size w wr)
    (fun vi _ => N - (intOf vi).toNat)
  case atStart => exact ⟨0, Nat.zero_le _, rfl, hrowB, hrow2, hbB⟩
  case round =>
    clear hrowB hbB hrow2
    obtain ⟨i, hi, rfl, hrow, hrow2, hnx⟩ := hrel
    by_cases hlt : i < N
    · have hcS := hrow.cell i (by rw [muK_length, hlX.out]; exact hlt)
      have hc2 := hrow2.cell i (by rw [hlY.out]; exact hlt)
      have hfr := hrow.frozen i
      have hset : Hid (∀ m : Nat, RowU ((wr.drewN m).setCell ⟨g, i, none⟩ (.int .u64 ((fM ((muK X Y i).getD i 0) (Y.getD i 0) : Nat) : Int))) g (muK X Y (i + 1))) := fun m => (hrow.drewN m).set i _
      have hset2 : Hid (∀ (m : Nat) (u : Value), RowU ((wr.drewN m).setCell ⟨g, i, none⟩ u) g2 Y) := fun m u => (hrow2.drewN m).bar hne ((Bar.refl g _).setCell i u)
      have cM := field_Mul ((muK X Y i).getD i 0) (Y.getD i 0) (range_getD (Rng_of_P (muK_P X Y i hPX)) _) (range_getD (Rng_of_P hPY) _)
      have hB2 : Hid (∀ (m : Nat) (u : Value), Below w.heap.size w ((wr.drewN m).setCell ⟨g, i, none⟩ u)) := fun m u => (show Below w.heap.size w (wr.drewN m) from ⟨hnx.os, hnx.tape, hnx.output, hnx.size, hnx.block⟩).setCell (p := ⟨g, i, none⟩) hgw u
      clear hrow hrow2 hnx cI hPX hPY hne
      generalize fM ((muK X Y i).getD i 0) (Y.getD i 0) = z at *
      generalize (muK X Y i).getD i 0 = old at *
      generalize Y.getD i 0 = y at *
      go_wp2
      go_region_with (go_at_call 66; refine Calls.mono (cM _) ?_; rintro e w' ⟨rfl, hw⟩; rw [hw]; clear hw)
      all_goals
        clear hcS hc2 hfr
        go_wp2
        go_roundw
        case rel => exact ⟨i + 1, by omega, by go_num, hset.out 1, hset2.out 1 _, hB2.out 1 _⟩
        case measure => simp only [intOf]; omega
    · have e : N = i := by omega
      subst e
      have hlM : (muK X Y N).length = N := by rw [muK_length, hlX.out]
      have hU := hrow.isUN (Rng_of_P (muK_P X Y N hPX)) (by rw [hlM]; omega) hlM
      have c := cI wr hnx g (muK X Y N) hU hlM
      rw [hfin.out] at c
      have hge : N ≤ N := Nat.le_refl _
      clear hlM hU hrow hrow2 cI hPX hPY
      go_wp2_with (go_at_call 71; refine Calls.mono c ?_; rintro e w3 ⟨g3, rfl, hg3, hr3, hb3⟩)
      go_ret2
      exact ⟨_, rfl, .of_row hr3 hlR.out (by omega) (Nat.le_trans hnx.size hg3), hnx.trans (hb3.mono hnx.size)⟩
theorem plan_Do_new (w : World) (v v' : Value) (zs : List Int) (xs ds : List Nat) (x f l : Nat) (back : Bool) (h : IsZ w v zs) (h' : IsU w v' xs) (ht : Tab w) (hG : Good zs ds) (hn : prd2 ds ≤ 1024) (hl : xs.length = prd2 ds) (hx : x < ds.length) (hfl : f < l) (hln : l ≤ nln ds x) :
    Calls Tryd.prog 31 #[v, v', .agg #[.int .i64 (x : Int), .int .i64 (f : Int), .int .i64 (l : Int)], .bool back] w fun e w' => ∃ u, e = .returned (.tuple #[u, .int .i64 0]) ∧ NewU w.heap.size w' u ∧ Below w.heap.size w w' := by
  refine Calls.mono (plan_Do_row w v v' zs xs ds x f l back h h' ht hG hn hl hx hfl hln) ?_
  rintro e w' ⟨g, rfl, hg, hrow, hb⟩
  exact ⟨_, rfl, .of_row hrow (trK_length _ _ _ _ _ _ _) (by omega) hg, hb⟩

end Go.Proofs.YtgkepflnnoociagDoor
