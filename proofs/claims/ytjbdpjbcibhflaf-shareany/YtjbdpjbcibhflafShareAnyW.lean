/-
  ShareAny returns true for all that is handed in.
-/
import Derived.Test.YtjbdpjbcibhflafShareC
import Derived.Test.YtjbdpjbcibhflafShB
import Derived.Test.YtjbdpjbcibhflafSlEq
import Derived.Test.YtjbdpjbcibhflafSlZ
import Derived.Test.YtjbdpjbcibhflafKeepShort
import Derived.Test.YtjbdpjbcibhflafRefRest
import Derived.Test.YtjbdpjbcibhflafField
import Derived.Test.YtjbdpjbcibhflafRowU
import Derived.Test.YtjbdpjbcibhflafSlRow
import Derived.Deep.Cut
import Derived.OrdersHeld
namespace Go.Proofs.Ytjbdpjbcibhflaf
open Go.RowKit

section
variable {P : Program} {ops : Array Oper} {Q : Exit → Act → World → Prop} {md : Region.Mode} {S : World → Prop}
theorem wpAnyH_oneA {i : Nat} {o : Oper} {fuel : Nat} {listed : Array Bool} {a : Act} {w : World} (ho : ops[i]? = some o) (hr : Region.ready md ops listed = [i])
    (h : ∀ K' : Act → World → Prop, Hid (∀ a' w', S w' → wpAnyH P md ops Q S fuel (listed.setIfInBounds i true) a' w' → K' a' w') → if Region.wanted o (yielded ops a.tmps) = true then Oper.wp P o a w K' Q else K' (a.put o.dst undef) w) : wpAnyH P md ops Q S (fuel + 1) listed a w := by
  refine wpAnyH_all hr (by simp) fun j hj => ?_
  simp only [List.mem_singleton] at hj
  subst hj
  exact wpOp_step ho (fun K' hK => h K' (fun a' w' hS hW => hK a' w' ⟨hS, hW⟩))
theorem wp_region_HA {id : Nat} {a : Act} {w : World} (hm : P.follows .mixedOrders = true)
    (h : wpAnyH P .any ops Q S ops.size (Array.replicate ops.size false) a w.drew) : (Code.region id ops true).wp P Q a w := wp_region_held hm h
end
theorem IsU.shp {w : World} {v : Value} {xs : List Nat} (h : IsU w v xs) : ∃ a c, v = .slice a xs.length c := by
  obtain ⟨a, c, e, _⟩ := h
  exact ⟨a, c, e⟩
theorem range_set (i m : Nat) (h : i < m) : (List.range i ++ List.replicate (m - i) 0).set i i = List.range (i + 1) ++ List.replicate (m - (i + 1)) 0 := by
  obtain ⟨r, hr⟩ : ∃ r, m - i = r + 1 := ⟨m - i - 1, by omega⟩
  rw [hr, show m - (i + 1) = r by omega, List.set_append_right _ _ (by simp), List.length_range, Nat.sub_self, List.replicate_succ, List.set_cons_zero, List.range_succ, List.append_assoc]
  rfl
set_option maxRecDepth 100000 in
set_option maxHeartbeats 8000000 in
theorem shareAny_bad (w : World) (v : Value) (xs0 : List Nat) (h : IsU w v xs0) (n : Int) (hn : (Lit.int .i64 n).wf = true) (vp : Value) (ps : List Int) (hP : IsZ w vp ps) (z : Int) (hz : (Lit.int .u64 z).wf = true) (hTb : Tab w) (hOk : ¬ EnOk (xs0.take 20) n) :
    Calls Try.prog 4 #[v, .int .i64 n, vp, .int .u64 z] w fun e w' => e = .returned (.bool true) ∧ Below w.heap.size w w' := by
  have hbn := bounds_i64 hn
  have hbz := bounds_u64 hz
  obtain ⟨zw, rfl⟩ : ∃ zw : Nat, z = (zw : Int) := ⟨z.toNat, by omega⟩
  have hT : Hid (∀ W, Below w.heap.size w W → Tab W) := fun W hW => hTb.below hW
  have hb0 := below_alloc1 w (.cells #[.int .u64 5, .int .u64 0] 39)
  have cE0 := share_Encode (w.alloc (.cells #[.int .u64 5, .int .u64 0] 39)) (.slice (some ⟨w.heap.size, 0, none⟩) 2 2) [5, 0] 3 (IsU.lit2 w 39 5 0 (by decide) (by decide)) rfl (hT.out _ hb0)
  rw [enL_ex.1, enL_ex.2] at cE0
  have cS := fun (W : World) (hb : Below w.heap.size w W) => keep_short W v xs0 20 (h.below hb) (by decide)
  obtain ⟨xs, hxs⟩ : ∃ xs, xs = xs0.take 20 := ⟨_, rfl⟩
  rw [← hxs] at cS hOk
  have hk20 : xs.length ≤ 20 := by rw [hxs, List.length_take]; omega
  have cE := fun (W : World) (u : Value) (hu : IsU W u xs) (hb : Below w.heap.size w W) => share_Encode W u xs n hu hn (hT.out W hb)
  have hUv := h.shp
  obtain ⟨av, cv, rfl⟩ := hUv
  have hPz := hP
  obtain ⟨ap, cp, rfl, hpc, hpm, -, -⟩ := hPz
  have hPc : Hid (∀ i, i < ps.length → ∃ b off, ap = some ⟨b, off, none⟩ ∧ w.cell? ⟨b, off + i, none⟩ = some (.int .i64 (ps.getD i 0)) ∧ -9223372036854775808 ≤ ps.getD i 0 ∧ ps.getD i 0 ≤ 9223372036854775807) := fun i hi => by
    obtain ⟨a', c', e, _, _, hc, hr⟩ := hP
    simp only [Value.slice.injEq, true_and] at e
    obtain ⟨rfl, rfl⟩ := e
    obtain ⟨b, off, e2, hcell⟩ := hc i hi
    have hm := hr (ps.getD i 0) (by rw [List.getD, List.getElem?_eq_getElem hi]; exact List.getElem_mem hi)
    exact ⟨b, off, e2, hcell, hm.1, hm.2⟩
  clear hxs h hTb hP
  have hpl : ps.length ≤ 9223372036854775807 := by unfold maxLen at hpm; omega
  clear hpm hpc
  have tk1 : True := trivial
  have hEe : enE xs n = 1 := if_neg hOk
  have hEl : enL xs n = [] := if_neg hOk
  rw [hEe, hEl] at cE
  clear hEe hEl hOk
  go_enter Try.func4, Try.ntmps4
  go_upto_region 7 with (first
    | (go_at_call 10; have _t := tk1; refine Calls.mono cE0 ?_; rintro e w1 ⟨u1, rfl, hU1, hb1⟩; clear cE0 tk1; have hB1 := hb0.trans (hb1.mono hb0.size); clear hb1; obtain ⟨a1, c1, rfl⟩ := hU1.shp; have hb2 := below_alloc1 w1 (.cells #[.int .u64 5, .int .u64 5, .int .u64 5] 39); have cQ := slices_Equal _ _ _ [5, 5, 5] (hU1.below hb2) (IsU.lit3 w1 39 5 5 5 (by decide) (by decide) (by decide)); have hB2 := hB1.trans (hb2.mono hB1.size); clear hU1 hb2)
    | (go_at_call 11; refine Calls.mono cQ ?_; rintro e w2 ⟨rfl, hb3⟩; clear cQ; have hB3 := hB2.trans (hb3.mono hB2.size); clear hb3 hB2 hB1; have cS1 := cS w2 hB3; clear cS)
    | (go_at_call 12; refine Calls.mono cS1 ?_; rintro e w3 ⟨⟨u3, rfl, hU3⟩, hw3⟩; rw [hw3]; clear hw3 cS1; have cE1 := cE w2 u3 hU3 hB3; obtain ⟨a3, c3, rfl⟩ := hU3.shp; clear cE)
    | (go_at_call 10; refine Calls.mono cE1 ?_; rintro e w4 ⟨u4, rfl, hU4, hb4⟩; clear cE1; replace hU3 := hU3.below hb4; have hB4 := hB3.trans (hb4.mono hB3.size); clear hb4 hB3; obtain ⟨a4, c4, rfl⟩ := hU4.shp))
  go_wp2
  go_ret
  exact ⟨rfl, hB4⟩
set_option maxRecDepth 100000 in
set_option maxHeartbeats 8000000 in
theorem shareAny_ok (w : World) (v : Value) (xs0 : List Nat) (h : IsU w v xs0) (n : Int) (hn : (Lit.int .i64 n).wf = true) (vp : Value) (ps : List Int) (hP : IsZ w vp ps) (z : Int) (hz : (Lit.int .u64 z).wf = true) (hTb : Tab w) (hOk : EnOk (xs0.take 20) n) :
    Calls Try.prog 4 #[v, .int .i64 n, vp, .int .u64 z] w fun e w' => e = .returned (.bool true) ∧ Below w.heap.size w w' := by
  have hbn := bounds_i64 hn
  have hbz := bounds_u64 hz
  obtain ⟨zw, rfl⟩ : ∃ zw : Nat, z = (zw : Int) := ⟨z.toNat, by omega⟩
  have hT : Hid (∀ W, Below w.heap.size w W → Tab W) := fun W hW => hTb.below hW
  have hb0 := below_alloc1 w (.cells #[.int .u64 5, .int .u64 0] 39)
  have cE0 := share_Encode (w.alloc (.cells #[.int .u64 5, .int .u64 0] 39)) (.slice (some ⟨w.heap.size, 0, none⟩) 2 2) [5, 0] 3 (IsU.lit2 w 39 5 0 (by decide) (by decide)) rfl (hT.out _ hb0)
  rw [enL_ex.1, enL_ex.2] at cE0
  have cS := fun (W : World) (hb : Below w.heap.size w W) => keep_short W v xs0 20 (h.below hb) (by decide)
  obtain ⟨xs, hxs⟩ : ∃ xs, xs = xs0.take 20 := ⟨_, rfl⟩
  rw [← hxs] at cS hOk
  have hk20 : xs.length ≤ 20 := by rw [hxs, List.length_take]; omega
  have cE := fun (W : World) (u : Value) (hu : IsU W u xs) (hb : Below w.heap.size w W) => share_Encode W u xs n hu hn (hT.out W hb)
  have hUv := h.shp
  obtain ⟨av, cv, rfl⟩ := hUv
  have hPz := hP
  obtain ⟨ap, cp, rfl, hpc, hpm, -, -⟩ := hPz
  have hPc : Hid (∀ i, i < ps.length → ∃ b off, ap = some ⟨b, off, none⟩ ∧ w.cell? ⟨b, off + i, none⟩ = some (.int .i64 (ps.getD i 0)) ∧ -9223372036854775808 ≤ ps.getD i 0 ∧ ps.getD i 0 ≤ 9223372036854775807) := fun i hi => by
    obtain ⟨a', c', e, _, _, hc, hr⟩ := hP
    simp only [Value.slice.injEq, true_and] at e
    obtain ⟨rfl, rfl⟩ := e
    obtain ⟨b, off, e2, hcell⟩ := hc i hi
    have hm := hr (ps.getD i 0) (by rw [List.getD, List.getElem?_eq_getElem hi]; exact List.getElem_mem hi)
    exact ⟨b, off, e2, hcell, hm.1, hm.2⟩
  clear hxs h hTb hP
  have hpl : ps.length ≤ 9223372036854775807 := by unfold maxLen at hpm; omega
  clear hpm hpc
  have tk1 : True := trivial
  obtain ⟨m, rfl⟩ : ∃ m : Nat, n = (m : Int) := ⟨n.toNat, by have := hOk.2.1.1; omega⟩
  have hEe : enE xs (m : Int) = 0 := if_pos hOk
  have hEl : enL xs (m : Int) = mk m (symF xs) := by unfold enL; rw [if_pos hOk]; rfl
  rw [hEe, hEl] at cE
  have hk1 : 0 < xs.length := hOk.1
  have hm64 : 1 ≤ m ∧ m ≤ 64 := by have := hOk.2.1; omega
  have hkm : xs.length ≤ m := by have := hOk.2.2; omega
  clear hEe hEl hOk
  obtain ⟨k, hk⟩ : ∃ k, k = xs.length := ⟨_, rfl⟩
  have hk' : Hid (k = xs.length) := hk
  have hml : (mk m (symF xs)).length = m := mk_length _ _
  have hml' : Hid ((mk m (symF xs)).length = m) := hml
  rw [← hk] at hk20 hk1 hkm
  clear hk
  go_enter Try.func4, Try.ntmps4
  go_upto_region 7 with (first
    | (go_at_call 10; have _t := tk1; refine Calls.mono cE0 ?_; rintro e w1 ⟨u1, rfl, hU1, hb1⟩; clear cE0 tk1; have hB1 := hb0.trans (hb1.mono hb0.size); clear hb1; obtain ⟨a1, c1, rfl⟩ := hU1.shp; have hb2 := below_alloc1 w1 (.cells #[.int .u64 5, .int .u64 5, .int .u64 5] 39); have cQ := slices_Equal _ _ _ [5, 5, 5] (hU1.below hb2) (IsU.lit3 w1 39 5 5 5 (by decide) (by decide) (by decide)); have hB2 := hB1.trans (hb2.mono hB1.size); clear hU1 hb2)
    | (go_at_call 11; refine Calls.mono cQ ?_; rintro e w2 ⟨rfl, hb3⟩; clear cQ; have hB3 := hB2.trans (hb3.mono hB2.size); clear hb3 hB2 hB1; have cS1 := cS w2 hB3; clear cS)
    | (go_at_call 12; refine Calls.mono cS1 ?_; rintro e w3 ⟨⟨u3, rfl, hU3⟩, hw3⟩; rw [hw3]; clear hw3 cS1; have cE1 := cE w2 u3 hU3 hB3; obtain ⟨b3, o3, c3, rfl⟩ := hU3.placeN hk'.out.symm hk1; clear cE)
    | (go_at_call 10; refine Calls.mono cE1 ?_; rintro e w4 ⟨u4, rfl, hU4, hb4⟩; clear cE1; replace hU3 := hU3.below hb4; have hB4 := hB3.trans (hb4.mono hB3.size); clear hb4 hB3; obtain ⟨ba, oa, c4, rfl⟩ := hU4.placeN hml'.out hm64.1))
  clear hml
  have hmin : Hid (∃ mm, mm = min (k + 1) m) := ⟨_, rfl⟩
  obtain ⟨mm, hmm⟩ := hmin.out
  have hmk : k ≤ mm := by omega
  have hmm1 : mm ≤ m := by omega
  have hmm2 : mm ≤ k + 1 := by omega
  have hmm3 : min ((k : Int) + 1) (m : Int) = (mm : Int) := by omega
  have hmm4 : (if (m : Int) < (k : Int) + 1 then (m : Int) else (k : Int) + 1) = (mm : Int) := by split <;> omega
  have hmm5 : Hid (k < mm ↔ k < m) := by show _ ↔ _; omega
  clear hmin hmm
  go_upto_region 10 with (at_make; refine wp_makeI rfl _ _ rfl m (by simp [Act.eval]) (by simp [Act.eval]) (by omega) ?_; intro gl w5 hgl hrow5 hb5; replace hgl : w4.heap.size ≤ gl := (by rw [hgl.out]; exact Nat.le_refl _))
  go_wp2
  go_loopw [61] (fun vi wr => ∃ i : Nat, i ≤ m ∧ vi = .int .i64 (i : Int) ∧ RowI wr gl (List.range i ++ List.replicate (m - i) 0) ∧ Below w4.heap.size w4 wr)
    (fun vi _ => m - (intOf vi).toNat)
  case atStart => exact ⟨0, Nat.zero_le _, rfl, hrow5, hb5⟩
  case round =>
    clear hrow5 hb5
    obtain ⟨i, hi, rfl, hrow, hnx⟩ := hrel
    by_cases hlt : i < m
    · have hcS := hrow.cell i (by simp; omega)
      have hfr := hrow.frozen i
      have hset : Hid (RowI (wr.setCell ⟨gl, i, none⟩ (.int .i64 (i : Int))) gl (List.range (i + 1) ++ List.replicate (m - (i + 1)) 0)) := (hrow.set i i).cast (range_set i m hlt)
      have hB2 := fun (u : Value) => hnx.setCell (p := ⟨gl, i, none⟩) hgl u
      have hi9 : i ≤ 64 := by omega
      clear hrow
      generalize (List.range i ++ List.replicate (m - i) 0).getD i 0 = old at *
      go_wp2
      go_roundw
      case rel => exact ⟨i + 1, by omega, by go_num, hset.out, hB2 _⟩
      case measure => simp only [intOf]; omega
    · have e : m = i := by omega
      subst e
      have hnl : ¬ m < m := Nat.lt_irrefl _
      have hrow' : RowI wr gl (List.range m ++ List.replicate (m - (List.range m).length) 0) := by rw [List.length_range]; exact hrow
      clear hrow
      have hSel0 : Hid (Sel m xs 0 (List.range m) []) := Sel.start m xs
      go_wp2
      go_loopw [14, 16, 73] (fun vl vs vi wk => ∃ (i : Nat) (lf : List Nat) (L : List (Int × Nat)), i ≤ mm ∧ vi = .int .i64 (i : Int) ∧ vl = .slice (some ⟨gl, 0, none⟩) (m - i) m ∧ Hid (Sel m xs i lf L) ∧ OwS w4.heap.size wk vs L ∧ RowI wk gl (lf ++ List.replicate (m - lf.length) 0) ∧ vs.ownBlock ≠ some gl ∧ Below w4.heap.size w4 wk)
        (fun _ _ vi _ => mm - (intOf vi).toNat)
      case atStart => exact ⟨0, List.range m, [], Nat.zero_le _, rfl, rfl, hSel0, OwS.nil _ _, hrow', (by simp [Value.ownBlock]), hnx⟩
      case round =>
        clear hrow' hSel0 hnx
        obtain ⟨i, lf, L, hi2, rfl, rfl, hSel, hOw, hrow, hne, hnx⟩ := hrel
        by_cases hlt2 : i < mm
        · have hlfl := hSel.out.len
          obtain ⟨r, hr⟩ : ∃ r, m - i = r + 1 := ⟨m - i - 1, by omega⟩
          have hlfr : lf.length = r + 1 := by omega
          have hBw : Below w.heap.size w wr := hB4.trans (hnx.mono hB4.size)
          rw [hr]
          have hr64 : r ≤ 64 := by omega
          have hU4' : Hid (IsU w4 (.slice (some ⟨ba, oa, none⟩) m c4) (mk m (symF xs))) := hU4
          by_cases hip : i < ps.length
          · obtain ⟨bp, op, rfl, hcp0, hq1, hq2⟩ := hPc.out i hip
            have hcp := (hBw.cell (block_lt hcp0)).trans hcp0
            clear hcp0
            generalize ps.getD i 0 = q at *
            have hql := Int.emod_lt_of_pos q (show (0 : Int) < (r : Int) + 1 by omega)
            have hq0 := Int.emod_nonneg q (show ((r : Int) + 1) ≠ 0 by omega)
            have cR := fun (W : World) => ref_Rest q ((r : Int) + 1) (by omega) (by omega) W
            obtain ⟨t, ht⟩ : ∃ t : Nat, q % ((r : Int) + 1) = (t : Int) := ⟨(q % ((r : Int) + 1)).toNat, by omega⟩
            rw [ht] at cR hql
            have htr : t < r + 1 := by omega
            clear ht hq0 hql
            go_upto_region 22 with (go_at_call 13; refine Calls.mono (cR _) ?_; rintro e w' ⟨rfl, hw⟩; rw [hw]; clear hw)
            clear cR hcp hBw hq1 hq2
            obtain ⟨p, hp0⟩ : ∃ p, p = lf.getD t 0 := ⟨_, rfl⟩
            have hpe0 : Hid (lf.getD t 0 = p) := hp0.symm
            have hpe : Hid ((some (Value.int .i64 (((lf ++ List.replicate (m - lf.length) 0).getD t 0 : Nat) : Int))) = some (Value.int .i64 (p : Int))) := by
              show _ = _
              rw [hp0, List.getD, List.getElem?_append_left (by omega)]
              rfl
            have hpm : p < m := by rw [hp0]; exact hSel.out.bnd t (by omega)
            clear hp0
            obtain ⟨y, hy0⟩ : ∃ y, y = (symF xs p).val := ⟨_, rfl⟩
            have hye : Hid ((symF xs p).val = y) := hy0.symm
            have hUd : Hid (∀ W, Below w4.heap.size w4 W → W.cell? ⟨ba, oa + p, none⟩ = some (.int .u64 (y : Int))) := fun W hW => by
              have q := (hU4'.out.below hW).cell p (by rw [hml'.out]; exact hpm)
              rw [mk_getD m (symF xs) p hpm, ← hy0] at q
              exact q
            have hyl : y < 18446744073709551616 := by rw [hy0]; have := val_lt (symF xs p); unfold P at this; omega
            clear hy0 hU4'
            have hti : ((t : Nat) : Int) < (r : Int) + 1 := by omega
            have hpi : (p : Int) < (m : Int) := by omega
            have hTd : Below wr.heap.size wr wr.drew := below_drewN (Below.refl _ _) 1
            have hOd := hOw.below hTd
            have hRd := hrow.below hTd
            have hnd := hnx.trans (hTd.mono hnx.size)
            have hSd : (fun w' : World => w'.cell? ⟨gl, t, none⟩ = some (.int .i64 (p : Int)) ∧ w'.cell? ⟨ba, oa + p, none⟩ = some (.int .u64 (y : Int))) wr.drew := ⟨by rw [hRd.cell t (by rw [List.length_append]; omega), hpe.out], (hUd.out _ hnd)⟩
            refine wp_region_HA (S := (fun w' : World => w'.cell? ⟨gl, t, none⟩ = some (.int .i64 (p : Int)) ∧ w'.cell? ⟨ba, oa + p, none⟩ = some (.int .u64 (y : Int)))) (by kernel_rfl) ?_
            clear hOw hrow hnx hTd
            generalize wr.drew = wd at *
            refine wpAnyH_take (i := 0) (v := ?vax0) rfl (by kernel_rfl) (by kernel_rfl) (by kernel_rfl) (fun _ _ _ h => h) (Or.inl ⟨by rfl, ?hyax0⟩) hSd ?restax0
            case hyax0 =>
              intro w hSw
              (try dsimp only at hSw)
              go_simp
              all_goals with_reducible rfl
            simp only [Act.put, List.getElem_toArray, List.getElem_cons_zero, List.setIfInBounds_toArray, List.set_cons_zero, List.set_cons_succ]
            refine wpAnyH_take (i := 1) (v := ?vax1) rfl (by kernel_rfl) (by kernel_rfl) (by kernel_rfl) (fun _ _ _ h => h) (Or.inl ⟨by rfl, ?hyax1⟩) hSd ?restax1
            case hyax1 =>
              intro w hSw
              (try dsimp only at hSw)
              go_simp
              all_goals with_reducible rfl
            simp only [Act.put, List.getElem_toArray, List.getElem_cons_succ, List.getElem_cons_zero, List.setIfInBounds_toArray, List.set_cons_zero, List.set_cons_succ]
            refine wpAnyH_take (i := 2) (v := ?vax2) rfl (by kernel_rfl) (by kernel_rfl) (by kernel_rfl) (fun _ _ _ h => h) (Or.inl ⟨by rfl, ?hyax2⟩) hSd ?restax2
            case hyax2 =>
              intro w hSw
              (try dsimp only at hSw)
              go_simp
              all_goals with_reducible rfl
            simp only [Act.put, List.getElem_toArray, List.getElem_cons_succ, List.getElem_cons_zero, List.setIfInBounds_toArray, List.set_cons_zero, List.set_cons_succ]
            refine wpAnyH_take (i := 3) (v := ?vax3) rfl (by kernel_rfl) (by kernel_rfl) (by kernel_rfl) (fun _ _ _ h => h) (Or.inl ⟨by rfl, ?hyax3⟩) hSd ?restax3
            case hyax3 =>
              intro w hSw
              (try dsimp only at hSw)
              go_simp
              all_goals with_reducible rfl
            simp only [Act.put, List.getElem_toArray, List.getElem_cons_succ, List.getElem_cons_zero, List.setIfInBounds_toArray, List.set_cons_zero, List.set_cons_succ]
            refine wpAnyH_take (i := 4) (v := ?vax4) rfl (by kernel_rfl) (by kernel_rfl) (by kernel_rfl) (fun _ _ _ h => h) (Or.inl ⟨by rfl, ?hyax4⟩) hSd ?restax4
            case hyax4 =>
              intro w hSw
              (try dsimp only at hSw)
              go_simp
              all_goals with_reducible rfl
            simp only [Act.put, List.getElem_toArray, List.getElem_cons_succ, List.getElem_cons_zero, List.setIfInBounds_toArray, List.set_cons_zero, List.set_cons_succ]
            refine wpAnyH_take (i := 5) (v := ?vax5) rfl (by kernel_rfl) (by kernel_rfl) (by kernel_rfl) (fun _ _ _ h => h) (Or.inl ⟨by rfl, ?hyax5⟩) hSd ?restax5
            case hyax5 =>
              intro w hSw
              (try dsimp only at hSw)
              go_simp
              all_goals with_reducible rfl
            simp only [Act.put, List.getElem_toArray, List.getElem_cons_succ, List.getElem_cons_zero, List.setIfInBounds_toArray, List.set_cons_zero, List.set_cons_succ]
            refine wpAnyH_take (i := 6) (v := ?vax6) rfl (by kernel_rfl) (by kernel_rfl) (by kernel_rfl) (fun _ _ _ h => h) (Or.inl ⟨by rfl, ?hyax6⟩) hSd ?restax6
            case hyax6 =>
              intro w hSw
              (try dsimp only at hSw)
              go_simp
              all_goals with_reducible rfl
            simp only [Act.put, List.getElem_toArray, List.getElem_cons_succ, List.getElem_cons_zero, List.setIfInBounds_toArray, List.set_cons_zero, List.set_cons_succ]
            refine wpAnyH_take (i := 7) (v := ?vax7) rfl (by kernel_rfl) (by kernel_rfl) (by kernel_rfl) (fun _ _ _ h => h) (Or.inl ⟨by rfl, ?hyax7⟩) hSd ?restax7
            case hyax7 =>
              intro w hSw
              (try dsimp only at hSw)
              go_simp
              all_goals with_reducible rfl
            simp only [Act.put, List.getElem_toArray, List.getElem_cons_succ, List.getElem_cons_zero, List.setIfInBounds_toArray, List.set_cons_zero, List.set_cons_succ]
            refine wpAnyH_take (i := 8) (v := ?vax8) rfl (by kernel_rfl) (by kernel_rfl) (by kernel_rfl) (fun _ _ _ h => h) (Or.inl ⟨by rfl, ?hyax8⟩) hSd ?restax8
            case hyax8 =>
              intro w hSw
              (try dsimp only at hSw)
              go_simp
              all_goals with_reducible rfl
            simp only [Act.put, List.getElem_toArray, List.getElem_cons_succ, List.getElem_cons_zero, List.setIfInBounds_toArray, List.set_cons_zero, List.set_cons_succ]
            refine wpAnyH_take (i := 9) (v := ?vax9) rfl (by kernel_rfl) (by kernel_rfl) (by kernel_rfl) (fun _ _ _ h => h) (Or.inl ⟨by rfl, ?hyax9⟩) hSd ?restax9
            case hyax9 =>
              intro w hSw
              (try dsimp only at hSw)
              go_simp
              all_goals with_reducible rfl
            simp only [Act.put, List.getElem_toArray, List.getElem_cons_succ, List.getElem_cons_zero, List.setIfInBounds_toArray, List.set_cons_zero, List.set_cons_succ]
            refine wpAnyH_take (i := 10) (v := ?vax10) rfl (by kernel_rfl) (by kernel_rfl) (by kernel_rfl) (fun _ _ _ h => h) (Or.inl ⟨by rfl, ?hyax10⟩) hSd ?restax10
            case hyax10 =>
              intro w hSw
              (try dsimp only at hSw)
              go_simp
              all_goals with_reducible rfl
            simp only [Act.put, List.getElem_toArray, List.getElem_cons_succ, List.getElem_cons_zero, List.setIfInBounds_toArray, List.set_cons_zero, List.set_cons_succ]
            refine wpAnyH_take (i := 11) (v := ?vax11) rfl (by kernel_rfl) (by kernel_rfl) (by kernel_rfl) (fun _ _ _ h => h) (Or.inl ⟨by rfl, ?hyax11⟩) hSd ?restax11
            case hyax11 =>
              intro w hSw
              (try dsimp only at hSw)
              go_simp
              all_goals with_reducible rfl
            simp only [Act.put, List.getElem_toArray, List.getElem_cons_succ, List.getElem_cons_zero, List.setIfInBounds_toArray, List.set_cons_zero, List.set_cons_succ]
            refine wpAnyH_take (i := 12) (v := ?vax12) rfl (by kernel_rfl) (by kernel_rfl) (by kernel_rfl) (fun _ _ _ h => h) (Or.inl ⟨by rfl, ?hyax12⟩) hSd ?restax12
            case hyax12 =>
              intro w hSw
              (try dsimp only at hSw)
              go_simp
              all_goals with_reducible rfl
            simp only [Act.put, List.getElem_toArray, List.getElem_cons_succ, List.getElem_cons_zero, List.setIfInBounds_toArray, List.set_cons_zero, List.set_cons_succ]
            refine wpAnyH_oneA (i := 13) rfl (by kernel_rfl) (fun K hK => ?_)
            simp only [List.getElem_toArray, List.getElem_cons_succ, List.getElem_cons_zero]
            go_simp
            have hbA := below_alloc1 wd (.cells #[.int .i64 (p : Int), .int .u64 (y : Int)] 47)
            have hgA : (wd.alloc (.cells #[.int .i64 (p : Int), .int .u64 (y : Int)] 47)).heap[wd.heap.size]? = some (.cells #[.int .i64 (p : Int), .int .u64 (y : Int)] 47 (0, 0)) := by
              show (wd.heap.push _)[wd.heap.size]? = _
              simp
            have hglA : gl < wd.heap.size := hRd.lt
            have hOA := hOd.below hbA
            have hRA := hRd.below hbA
            have hnA := hnd.trans (hbA.mono hnd.size)
            have hneA : wd.heap.size ≤ (wd.alloc (.cells #[.int .i64 (p : Int), .int .u64 (y : Int)] 47)).heap.size := hbA.size
            have hSA : (fun w' : World => w'.cell? ⟨gl, t, none⟩ = some (.int .i64 (p : Int)) ∧ w'.cell? ⟨ba, oa + p, none⟩ = some (.int .u64 (y : Int))) (wd.alloc (.cells #[.int .i64 (p : Int), .int .u64 (y : Int)] 47)) := ⟨by rw [hRA.cell t (by rw [List.length_append]; omega), hpe.out], (hUd.out _ hnA)⟩
            refine hK.out _ _ hSA ?_
            clear hK K hOd hRd hnd hSd hbA
            generalize wd.heap.size = gA at *
            generalize wd.alloc (.cells #[.int .i64 (p : Int), .int .u64 (y : Int)] 47) = wA at *
            (try simp only [Act.put, List.getElem_toArray, List.getElem_cons_succ, List.getElem_cons_zero, List.setIfInBounds_toArray, List.set_cons_zero, List.set_cons_succ])
            refine wpAnyH_oneA (i := 14) rfl (by kernel_rfl) (fun K hK => ?_)
            refine step_appS rfl (.tmp 87) (.tmp 100) rfl hOA hgA rfl hnA ?s1x ?s2x (by have := hSel.out.num; omega) ?s4x
            case s1x => rfl
            case s2x => rfl
            intro vs2 wB hOB hnB hgr hlies
            have hRB : RowI wB gl (lf ++ List.replicate (m - lf.length) 0) := hRA.block (hgr.block gl hRA.lt (fun e => hne e.symm))
            have hneB : vs2.ownBlock ≠ some gl := fun e => by
              rcases hlies gl e with q | q
              · exact hne q
              · have := hRA.lt; omega
            have hSB : (fun w' : World => w'.cell? ⟨gl, t, none⟩ = some (.int .i64 (p : Int)) ∧ w'.cell? ⟨ba, oa + p, none⟩ = some (.int .u64 (y : Int))) wB := ⟨by rw [hRB.cell t (by rw [List.length_append]; omega), hpe.out], (hUd.out _ hnB)⟩
            refine hK.out _ _ hSB ?_
            clear hK K hOA hRA hnA hSA hgA hgr hlies hne hneA hglA
            (try simp only [Act.put, List.getElem_toArray, List.getElem_cons_succ, List.getElem_cons_zero, List.setIfInBounds_toArray, List.set_cons_zero, List.set_cons_succ])
            refine wpAnyH_oneA (i := 15) rfl (by kernel_rfl) (fun K hK => ?_)
            simp only [List.getElem_toArray, List.getElem_cons_succ, List.getElem_cons_zero]
            go_simp
            refine hK.out _ _ hSB ?_
            clear hK K hSB
            (try simp only [Act.put, List.getElem_toArray, List.getElem_cons_succ, List.getElem_cons_zero, List.setIfInBounds_toArray, List.set_cons_zero, List.set_cons_succ])
            refine wpAnyH_done (by kernel_rfl) ?_ _
            have cD := slices_DeleteI wB gl m r t lf hRB hlfr (by omega) (by omega) htr
            have hOL : (out lf t).length = r := by have := out_length (lf := lf) (t := t) (by omega); omega
            have hnext : Hid (Sel m xs (i + 1) (out lf t) (L ++ [((p : Int), y)])) := by have q := hSel.out.step (t := t) (by omega); rw [hpe0.out, hye.out] at q; exact q
            clear hSel hUd hpe hpe0 hye
            go_wp2_with (go_at_call 14; refine Calls.mono cD ?_; rintro e wC ⟨rfl, hRC, hbC⟩; clear cD)
            have hOC := hOB.bar hneB hbC
            have hnC : Below w4.heap.size w4 wC := Bar.fresh hnB hgl hbC
            go_roundw
            case rel => exact ⟨i + 1, out lf t, L ++ [((p : Int), y)], by omega, by go_num, by rw [show m - (i + 1) = r by omega], hnext, hOC, hRC, hneB, hnC⟩
            case measure => simp only [intOf]; omega
          · have htr : 0 < r + 1 := by omega
            go_upto_region 22 with (fail)
            clear hBw
            obtain ⟨p, hp0⟩ : ∃ p, p = lf.getD 0 0 := ⟨_, rfl⟩
            have hpe0 : Hid (lf.getD 0 0 = p) := hp0.symm
            have hpe : Hid ((some (Value.int .i64 (((lf ++ List.replicate (m - lf.length) 0).getD 0 0 : Nat) : Int))) = some (Value.int .i64 (p : Int))) := by
              show _ = _
              rw [hp0, List.getD, List.getElem?_append_left (by omega)]
              rfl
            have hpm : p < m := by rw [hp0]; exact hSel.out.bnd 0 (by omega)
            clear hp0
            obtain ⟨y, hy0⟩ : ∃ y, y = (symF xs p).val := ⟨_, rfl⟩
            have hye : Hid ((symF xs p).val = y) := hy0.symm
            have hUd : Hid (∀ W, Below w4.heap.size w4 W → W.cell? ⟨ba, oa + p, none⟩ = some (.int .u64 (y : Int))) := fun W hW => by
              have q := (hU4'.out.below hW).cell p (by rw [hml'.out]; exact hpm)
              rw [mk_getD m (symF xs) p hpm, ← hy0] at q
              exact q
            have hyl : y < 18446744073709551616 := by rw [hy0]; have := val_lt (symF xs p); unfold P at this; omega
            clear hy0 hU4'
            have hti : ((0 : Nat) : Int) < (r : Int) + 1 := by omega
            have hpi : (p : Int) < (m : Int) := by omega
            have hTd : Below wr.heap.size wr wr.drew := below_drewN (Below.refl _ _) 1
            have hOd := hOw.below hTd
            have hRd := hrow.below hTd
            have hnd := hnx.trans (hTd.mono hnx.size)
            have hSd : (fun w' : World => w'.cell? ⟨gl, 0, none⟩ = some (.int .i64 (p : Int)) ∧ w'.cell? ⟨ba, oa + p, none⟩ = some (.int .u64 (y : Int))) wr.drew := ⟨by rw [hRd.cell 0 (by rw [List.length_append]; omega), hpe.out], (hUd.out _ hnd)⟩
            refine wp_region_HA (S := (fun w' : World => w'.cell? ⟨gl, 0, none⟩ = some (.int .i64 (p : Int)) ∧ w'.cell? ⟨ba, oa + p, none⟩ = some (.int .u64 (y : Int)))) (by kernel_rfl) ?_
            clear hOw hrow hnx hTd
            generalize wr.drew = wd at *
            refine wpAnyH_take (i := 0) (v := ?vay0) rfl (by kernel_rfl) (by kernel_rfl) (by kernel_rfl) (fun _ _ _ h => h) (Or.inl ⟨by rfl, ?hyay0⟩) hSd ?restay0
            case hyay0 =>
              intro w hSw
              (try dsimp only at hSw)
              go_simp
              all_goals with_reducible rfl
            simp only [Act.put, List.getElem_toArray, List.getElem_cons_zero, List.setIfInBounds_toArray, List.set_cons_zero, List.set_cons_succ]
            refine wpAnyH_take (i := 1) (v := ?vay1) rfl (by kernel_rfl) (by kernel_rfl) (by kernel_rfl) (fun _ _ _ h => h) (Or.inl ⟨by rfl, ?hyay1⟩) hSd ?restay1
            case hyay1 =>
              intro w hSw
              (try dsimp only at hSw)
              go_simp
              all_goals with_reducible rfl
            simp only [Act.put, List.getElem_toArray, List.getElem_cons_succ, List.getElem_cons_zero, List.setIfInBounds_toArray, List.set_cons_zero, List.set_cons_succ]
            refine wpAnyH_take (i := 2) (v := ?vay2) rfl (by kernel_rfl) (by kernel_rfl) (by kernel_rfl) (fun _ _ _ h => h) (Or.inl ⟨by rfl, ?hyay2⟩) hSd ?restay2
            case hyay2 =>
              intro w hSw
              (try dsimp only at hSw)
              go_simp
              all_goals with_reducible rfl
            simp only [Act.put, List.getElem_toArray, List.getElem_cons_succ, List.getElem_cons_zero, List.setIfInBounds_toArray, List.set_cons_zero, List.set_cons_succ]
            refine wpAnyH_take (i := 3) (v := ?vay3) rfl (by kernel_rfl) (by kernel_rfl) (by kernel_rfl) (fun _ _ _ h => h) (Or.inl ⟨by rfl, ?hyay3⟩) hSd ?restay3
            case hyay3 =>
              intro w hSw
              (try dsimp only at hSw)
              go_simp
              all_goals with_reducible rfl
            simp only [Act.put, List.getElem_toArray, List.getElem_cons_succ, List.getElem_cons_zero, List.setIfInBounds_toArray, List.set_cons_zero, List.set_cons_succ]
            refine wpAnyH_take (i := 4) (v := ?vay4) rfl (by kernel_rfl) (by kernel_rfl) (by kernel_rfl) (fun _ _ _ h => h) (Or.inl ⟨by rfl, ?hyay4⟩) hSd ?restay4
            case hyay4 =>
              intro w hSw
              (try dsimp only at hSw)
              go_simp
              all_goals with_reducible rfl
            simp only [Act.put, List.getElem_toArray, List.getElem_cons_succ, List.getElem_cons_zero, List.setIfInBounds_toArray, List.set_cons_zero, List.set_cons_succ]
            refine wpAnyH_take (i := 5) (v := ?vay5) rfl (by kernel_rfl) (by kernel_rfl) (by kernel_rfl) (fun _ _ _ h => h) (Or.inl ⟨by rfl, ?hyay5⟩) hSd ?restay5
            case hyay5 =>
              intro w hSw
              (try dsimp only at hSw)
              go_simp
              all_goals with_reducible rfl
            simp only [Act.put, List.getElem_toArray, List.getElem_cons_succ, List.getElem_cons_zero, List.setIfInBounds_toArray, List.set_cons_zero, List.set_cons_succ]
            refine wpAnyH_take (i := 6) (v := ?vay6) rfl (by kernel_rfl) (by kernel_rfl) (by kernel_rfl) (fun _ _ _ h => h) (Or.inl ⟨by rfl, ?hyay6⟩) hSd ?restay6
            case hyay6 =>
              intro w hSw
              (try dsimp only at hSw)
              go_simp
              all_goals with_reducible rfl
            simp only [Act.put, List.getElem_toArray, List.getElem_cons_succ, List.getElem_cons_zero, List.setIfInBounds_toArray, List.set_cons_zero, List.set_cons_succ]
            refine wpAnyH_take (i := 7) (v := ?vay7) rfl (by kernel_rfl) (by kernel_rfl) (by kernel_rfl) (fun _ _ _ h => h) (Or.inl ⟨by rfl, ?hyay7⟩) hSd ?restay7
            case hyay7 =>
              intro w hSw
              (try dsimp only at hSw)
              go_simp
              all_goals with_reducible rfl
            simp only [Act.put, List.getElem_toArray, List.getElem_cons_succ, List.getElem_cons_zero, List.setIfInBounds_toArray, List.set_cons_zero, List.set_cons_succ]
            refine wpAnyH_take (i := 8) (v := ?vay8) rfl (by kernel_rfl) (by kernel_rfl) (by kernel_rfl) (fun _ _ _ h => h) (Or.inl ⟨by rfl, ?hyay8⟩) hSd ?restay8
            case hyay8 =>
              intro w hSw
              (try dsimp only at hSw)
              go_simp
              all_goals with_reducible rfl
            simp only [Act.put, List.getElem_toArray, List.getElem_cons_succ, List.getElem_cons_zero, List.setIfInBounds_toArray, List.set_cons_zero, List.set_cons_succ]
            refine wpAnyH_take (i := 9) (v := ?vay9) rfl (by kernel_rfl) (by kernel_rfl) (by kernel_rfl) (fun _ _ _ h => h) (Or.inl ⟨by rfl, ?hyay9⟩) hSd ?restay9
            case hyay9 =>
              intro w hSw
              (try dsimp only at hSw)
              go_simp
              all_goals with_reducible rfl
            simp only [Act.put, List.getElem_toArray, List.getElem_cons_succ, List.getElem_cons_zero, List.setIfInBounds_toArray, List.set_cons_zero, List.set_cons_succ]
            refine wpAnyH_take (i := 10) (v := ?vay10) rfl (by kernel_rfl) (by kernel_rfl) (by kernel_rfl) (fun _ _ _ h => h) (Or.inl ⟨by rfl, ?hyay10⟩) hSd ?restay10
            case hyay10 =>
              intro w hSw
              (try dsimp only at hSw)
              go_simp
              all_goals with_reducible rfl
            simp only [Act.put, List.getElem_toArray, List.getElem_cons_succ, List.getElem_cons_zero, List.setIfInBounds_toArray, List.set_cons_zero, List.set_cons_succ]
            refine wpAnyH_take (i := 11) (v := ?vay11) rfl (by kernel_rfl) (by kernel_rfl) (by kernel_rfl) (fun _ _ _ h => h) (Or.inl ⟨by rfl, ?hyay11⟩) hSd ?restay11
            case hyay11 =>
              intro w hSw
              (try dsimp only at hSw)
              go_simp
              all_goals with_reducible rfl
            simp only [Act.put, List.getElem_toArray, List.getElem_cons_succ, List.getElem_cons_zero, List.setIfInBounds_toArray, List.set_cons_zero, List.set_cons_succ]
            refine wpAnyH_take (i := 12) (v := ?vay12) rfl (by kernel_rfl) (by kernel_rfl) (by kernel_rfl) (fun _ _ _ h => h) (Or.inl ⟨by rfl, ?hyay12⟩) hSd ?restay12
            case hyay12 =>
              intro w hSw
              (try dsimp only at hSw)
              go_simp
              all_goals with_reducible rfl
            simp only [Act.put, List.getElem_toArray, List.getElem_cons_succ, List.getElem_cons_zero, List.setIfInBounds_toArray, List.set_cons_zero, List.set_cons_succ]
            refine wpAnyH_oneA (i := 13) rfl (by kernel_rfl) (fun K hK => ?_)
            simp only [List.getElem_toArray, List.getElem_cons_succ, List.getElem_cons_zero]
            go_simp
            have hbA := below_alloc1 wd (.cells #[.int .i64 (p : Int), .int .u64 (y : Int)] 47)
            have hgA : (wd.alloc (.cells #[.int .i64 (p : Int), .int .u64 (y : Int)] 47)).heap[wd.heap.size]? = some (.cells #[.int .i64 (p : Int), .int .u64 (y : Int)] 47 (0, 0)) := by
              show (wd.heap.push _)[wd.heap.size]? = _
              simp
            have hglA : gl < wd.heap.size := hRd.lt
            have hOA := hOd.below hbA
            have hRA := hRd.below hbA
            have hnA := hnd.trans (hbA.mono hnd.size)
            have hneA : wd.heap.size ≤ (wd.alloc (.cells #[.int .i64 (p : Int), .int .u64 (y : Int)] 47)).heap.size := hbA.size
            have hSA : (fun w' : World => w'.cell? ⟨gl, 0, none⟩ = some (.int .i64 (p : Int)) ∧ w'.cell? ⟨ba, oa + p, none⟩ = some (.int .u64 (y : Int))) (wd.alloc (.cells #[.int .i64 (p : Int), .int .u64 (y : Int)] 47)) := ⟨by rw [hRA.cell 0 (by rw [List.length_append]; omega), hpe.out], (hUd.out _ hnA)⟩
            refine hK.out _ _ hSA ?_
            clear hK K hOd hRd hnd hSd hbA
            generalize wd.heap.size = gA at *
            generalize wd.alloc (.cells #[.int .i64 (p : Int), .int .u64 (y : Int)] 47) = wA at *
            (try simp only [Act.put, List.getElem_toArray, List.getElem_cons_succ, List.getElem_cons_zero, List.setIfInBounds_toArray, List.set_cons_zero, List.set_cons_succ])
            refine wpAnyH_oneA (i := 14) rfl (by kernel_rfl) (fun K hK => ?_)
            refine step_appS rfl (.tmp 87) (.tmp 100) rfl hOA hgA rfl hnA ?s1y ?s2y (by have := hSel.out.num; omega) ?s4y
            case s1y => rfl
            case s2y => rfl
            intro vs2 wB hOB hnB hgr hlies
            have hRB : RowI wB gl (lf ++ List.replicate (m - lf.length) 0) := hRA.block (hgr.block gl hRA.lt (fun e => hne e.symm))
            have hneB : vs2.ownBlock ≠ some gl := fun e => by
              rcases hlies gl e with q | q
              · exact hne q
              · have := hRA.lt; omega
            have hSB : (fun w' : World => w'.cell? ⟨gl, 0, none⟩ = some (.int .i64 (p : Int)) ∧ w'.cell? ⟨ba, oa + p, none⟩ = some (.int .u64 (y : Int))) wB := ⟨by rw [hRB.cell 0 (by rw [List.length_append]; omega), hpe.out], (hUd.out _ hnB)⟩
            refine hK.out _ _ hSB ?_
            clear hK K hOA hRA hnA hSA hgA hgr hlies hne hneA hglA
            (try simp only [Act.put, List.getElem_toArray, List.getElem_cons_succ, List.getElem_cons_zero, List.setIfInBounds_toArray, List.set_cons_zero, List.set_cons_succ])
            refine wpAnyH_oneA (i := 15) rfl (by kernel_rfl) (fun K hK => ?_)
            simp only [List.getElem_toArray, List.getElem_cons_succ, List.getElem_cons_zero]
            go_simp
            refine hK.out _ _ hSB ?_
            clear hK K hSB
            (try simp only [Act.put, List.getElem_toArray, List.getElem_cons_succ, List.getElem_cons_zero, List.setIfInBounds_toArray, List.set_cons_zero, List.set_cons_succ])
            refine wpAnyH_done (by kernel_rfl) ?_ _
            have cD := slices_DeleteI wB gl m r 0 lf hRB hlfr (by omega) (by omega) htr
            simp only [Int.natCast_zero, Int.zero_add] at cD
            have hOL : (out lf 0).length = r := by have := out_length (lf := lf) (t := 0) (by omega); omega
            have hnext : Hid (Sel m xs (i + 1) (out lf 0) (L ++ [((p : Int), y)])) := by have q := hSel.out.step (t := 0) (by omega); rw [hpe0.out, hye.out] at q; exact q
            clear hSel hUd hpe hpe0 hye
            go_wp2_with (go_at_call 14; refine Calls.mono cD ?_; rintro e wC ⟨rfl, hRC, hbC⟩; clear cD)
            have hOC := hOB.bar hneB hbC
            have hnC : Below w4.heap.size w4 wC := Bar.fresh hnB hgl hbC
            go_roundw
            case rel => exact ⟨i + 1, out lf 0, L ++ [((p : Int), y)], by omega, by go_num, by rw [show m - (i + 1) = r by omega], hnext, hOC, hRC, hneB, hnC⟩
            case measure => simp only [intOf]; omega
        · have e : mm = i := by omega
          subst e
          have hnl2 : ¬ mm < mm := Nat.lt_irrefl _
          have hLl : Hid (L.length = mm) := hSel.out.num
          have hRg : Hid (SRng L) := hSel.out.rng hm64.2
          have hSk : Hid (ShK L L.length) := by show ShK _ _; rw [hLl.out]; exact hSel.out.shk hm64.2
          have hHs : Hid (Has xs L L.length) := by show Has _ _ _; rw [hLl.out]; exact hSel.out.has
          have hk64 : 1 ≤ xs.length ∧ xs.length ≤ 64 := by rw [← hk'.out]; omega
          have hwrong : Hid (k < mm → ∀ y, toF y ≠ toF (syS L 0) → shE (xs.length : Int) (L.set 0 (atS L 0, y)) = 0 ∧ rcE (xs.length : Int) (L.set 0 (atS L 0, y)) = 5 ∧ ftB (xs.length : Int) (L.set 0 (atS L 0, y)) = false) := fun hkk y hy => rc_wrong hk64 hSk.out (by rw [hLl.out, ← hk'.out]; exact hkk) hHs.out hy
          have hr1 := rc_ok hk64 hSk.out (by rw [hLl.out, ← hk'.out]; exact hmk) hHs.out
          have hr2 := rc_ok (L := L.take k) hk64 (shk_take hSk.out (by rw [hLl.out]; exact hmk)) (by rw [List.length_take, hLl.out, ← hk'.out]; omega) (has_take hHs.out (by rw [hLl.out]; exact hmk))
          have hs0l : Hid (syS L 0 < 18446744073709551616) := (hRg.out (L.getD 0 (0, 0)) (by rw [List.getD, List.getElem?_eq_getElem (by rw [hLl.out]; omega)]; exact List.getElem_mem _)).2
          rw [← hk'.out] at hr1 hr2
          have hkwf : (Lit.int .i64 (k : Int)).wf = true := by simp [Lit.wf, IntKind.min, IntKind.max, IntKind.signed, IntKind.bits]; omega
          obtain ⟨gs, cs, hsv, hgs, hcs1, hcs2⟩ := hOw.slice (by rw [hLl.out]; omega)
          rw [hLl.out] at hsv hcs1
          subst hsv
          have hcs9 : cs ≤ 9223372036854775807 := by unfold maxLen at hcs2; omega
          have hkcs : k ≤ cs := by omega
          clear hcs2 hSk hHs hSel hrow hk64
          have hU3w := hU3.below hnx
          have hnx0 : Hid (Below w4.heap.size w4 wr) := hnx
          have hOw0 : Hid (OwS w4.heap.size wr (.slice (some ⟨gs, 0, none⟩) mm cs) L) := hOw
          clear hOw hnx hU3 hU4
          go_upto_region 26 with (at_make; refine wp_makeG rfl _ _ rfl k (by simp [Act.eval]) (by simp [Act.eval]) (by omega) ?_; intro gw w8 hgw hrow8 hb8; replace hgw : wr.heap.size ≤ gw := (by rw [hgw.out]; exact Nat.le_refl _))
          obtain ⟨w6, hw6⟩ : ∃ w6 : World, w6 = wr := ⟨_, rfl⟩
          rw [← hw6] at hU3w hnx0 hOw0 hgw hb8
          clear hw6
          go_wp2
          go_loopw [112] (fun vi wr => ∃ i : Nat, i ≤ k ∧ vi = .int .i64 (i : Int) ∧ RowU wr gw (SL k i (cf xs)) ∧ Below w6.heap.size w6 wr)
            (fun vi _ => k - (intOf vi).toNat)
          case atStart => exact ⟨0, Nat.zero_le _, rfl, hrow8.cast (SL_zero _ _).symm, hb8⟩
          case round =>
            clear hrow8 hb8
            obtain ⟨i, hi3, rfl, hrow, hnx⟩ := hrel
            by_cases hlt3 : i < k
            · have hcell := (hU3w.below hnx).cell i (by rw [← hk'.out]; exact hlt3)
              have hxr := range_getD hU3w.range i
              have hcS := hrow.cell i (by rw [SL_length _ hi3]; exact hlt3)
              have hfr := hrow.frozen i
              have hset : Hid (RowU (wr.setCell ⟨gw, i, none⟩ (.int .u64 ((fN (xs.getD i 0) : Nat) : Int))) gw (SL k (i + 1) (cf xs))) := by
                show RowU _ _ _
                have q := (hrow.set i (cf xs i).val).cast (SL_set (cf xs) hlt3)
                rw [fN_val]; exact q
              have hB2 := fun (u : Value) => hnx.setCell (p := ⟨gw, i, none⟩) hgw u
              have cNx := field_Norm (xs.getD i 0) hxr
              have hi9 : i ≤ 20 := by omega
              clear hrow hxr
              generalize fN (xs.getD i 0) = zz at *
              generalize (SL k i (cf xs)).getD i 0 = old at *
              generalize xs.getD i 0 = x at *
              go_wp2_with (go_at_call 15; refine Calls.mono (cNx _) ?_; rintro e w' ⟨rfl, hw⟩; rw [hw]; clear hw)
              go_roundw
              case rel => exact ⟨i + 1, by omega, by go_num, hset.out, hB2 _⟩
              case measure => simp only [intOf]; omega
            · have e : k = i := by omega
              subst e
              have hnl3 : ¬ k < k := Nat.lt_irrefl _
              have hW : IsU wr (.slice (some ⟨gw, 0, none⟩) k k) (mk k (cf xs)) := by
                have q := hrow.cast (SL_full k (cf xs))
                exact q.isUN (Rng_of_P (mk_lt _ _)) (by rw [mk_length]; omega) (mk_length _ _)
              have hOw := hOw0.out.below hnx
              have hne4 : Below w4.heap.size w4 wr := hnx0.out.trans (hnx.mono hnx0.out.size)
              have hBe : Below w.heap.size w wr := hB4.trans (hne4.mono hB4.size)
              have hS1 := hOw.isS hRg.out
              have hS1' : IsS wr (.slice (some ⟨gs, 0, none⟩) L.length cs) L := by rw [hLl.out]; exact hS1
              have hS2 := hS1'.take (n := k) (by rw [hLl.out]; exact hmk)
              have cR1 := share_Recover wr (k : Int) _ _ hS2 hkwf (hT.out _ hBe)
              rw [hr2.1, hr2.2] at cR1
              have cR2 := fun (W : World) (hb : Below wr.heap.size wr W) => share_Recover W (k : Int) _ _ (hS1.below hb) hkwf (hT.out _ (hBe.trans (hb.mono hBe.size)))
              rw [hr1.1, hr1.2] at cR2
              have hmkl : Hid ((mk k (cf xs)).length = k) := mk_length _ _
              clear hrow hS1' hS2 hr1 hr2 hU3w hnx
              go_upto_region 35 with (first
                | (go_at_call 16; refine Calls.mono cR1 ?_; rintro e wa ⟨ua, rfl, hUa, hba⟩; clear cR1; obtain ⟨xa, ya, za, rfl⟩ := hUa.placeN hmkl.out hk1; have cR3 := cR2 wa hba; clear cR2; have hWa := hW.below hba)
                | (go_at_call 16; refine Calls.mono cR3 ?_; rintro e wb ⟨ub, rfl, hUb, hbb⟩; clear cR3; obtain ⟨xb, yb, zb, rfl⟩ := hUb.placeN hmkl.out hk1; have hbw := hba.trans (hbb.mono hba.size); have hWb := hW.below hbw; have cQ1 := slices_Equal wb _ _ _ (hUa.below hbb) hWb; clear hWa)
                | (go_at_call 11; refine Calls.mono cQ1 ?_; rintro e wc ⟨rfl, hbc⟩; clear cQ1; have hbw2 := hbw.trans (hbc.mono hbw.size); have cQ2 := slices_Equal wc _ _ _ (hUb.below hbc) (hW.below hbw2))
                | (go_at_call 11; refine Calls.mono cQ2 ?_; rintro e wd ⟨rfl, hbd⟩; clear cQ2; have hbw3 := hbw2.trans (hbd.mono hbw2.size)))
              replace hOw := hOw.below hbw3
              replace hne4 := hne4.trans (hbw3.mono hne4.size)
              replace hBe := hBe.trans (hbw3.mono hBe.size)
              replace hS1 := hS1.below hbw3
              clear hW hUa hUb hba hbb hbc hbd hbw hbw2 hbw3 hWb
              obtain ⟨w9, hw9⟩ : ∃ w9 : World, w9 = wd := ⟨_, rfl⟩
              rw [← hw9] at hOw hne4 hBe hS1 ⊢
              clear hw9
              have cN := field_Norm zw (by omega)
              by_cases hkk : k < mm
              · by_cases hzn : fN zw = 0
                · rw [hzn] at cN
                  have hki : (k : Int) < (mm : Int) := by omega
                  clear hwrong hOw hS1
                  go_wp2_with (go_at_call 15; refine Calls.mono (cN _) ?_; rintro e w' ⟨rfl, hw⟩; rw [hw]; clear hw)
                  go_ret
                  exact ⟨rfl, hBe⟩
                · have hzt : toF zw ≠ 0 := fun q => hzn ((fN_zero zw).mpr q)
                  have hki : (k : Int) < (mm : Int) := by omega
                  have hnz : (((fN zw : Nat) : Int) != 0) = true := by simp; omega
                  obtain ⟨s0, hs0⟩ : ∃ s0, s0 = syS L 0 := ⟨_, rfl⟩
                  obtain ⟨q1, q2, q3⟩ := hwrong.out hkk (fA (syS L 0) zw) (by rw [toF_fA]; intro e; exact hzt (by grind))
                  have hsl : s0 < 18446744073709551616 := by rw [hs0]; exact hs0l.out
                  have cA := fun (W : World) => field_Add s0 zw (by omega) (by omega) W
                  rw [← hs0] at q1 q2 q3
                  have hOr : w9.ownsRow w4.heap.size 47 2 (.slice (some ⟨gs, 0, none⟩) mm cs) mm (cellsS L) := by have q9 := hOw; unfold OwS at q9; rw [hLl.out] at q9; exact q9
                  have hcell : w9.cell? ⟨gs, 1, none⟩ = some (.int .u64 (s0 : Int)) := by
                    have := hOr.cellAt 1 (by omega)
                    rw [this, (cellsS_get L 0 (by rw [hLl.out]; omega)).2, hs0]
                    rfl
                  have hfr : w9.frozen? ⟨gs, 1, none⟩ = false := hOr.frozenAt 1
                  have hlm : (L.set 0 (atS L 0, fA s0 zw)).length = mm := by rw [List.length_set]; exact hLl.out
                  have hSn : Hid (OwS w4.heap.size (w9.setCell ⟨gs, 1, none⟩ (.int .u64 ((fA s0 zw : Nat) : Int))) (.slice (some ⟨gs, 0, none⟩) mm cs) (L.set 0 (atS L 0, fA s0 zw))) := by
                    show OwS _ _ _ _
                    unfold OwS
                    rw [← cellsS_set L _ (by rw [hLl.out]; omega), hlm]
                    exact (hOr.stored 1 (.int .u64 ((fA s0 zw : Nat) : Int))).1
                  have hRn : Hid (SRng (L.set 0 (atS L 0, fA s0 zw))) := fun r hr => by
                    rcases List.mem_or_eq_of_mem_set hr with q | q
                    · exact hRg.out r q
                    · rw [q]
                      have h0 := hRg.out (L.getD 0 (0, 0)) (by rw [List.getD, List.getElem?_eq_getElem (by rw [hLl.out]; omega)]; exact List.getElem_mem _)
                      have h1 := fA_lt s0 zw
                      exact ⟨h0.1, by show fA s0 zw < _; omega⟩
                  have hB9 : Below w4.heap.size w4 (w9.setCell ⟨gs, 1, none⟩ (.int .u64 ((fA s0 zw : Nat) : Int))) := hne4.setCell (p := ⟨gs, 1, none⟩) hgs _
                  have hB9w : Below w.heap.size w (w9.setCell ⟨gs, 1, none⟩ (.int .u64 ((fA s0 zw : Nat) : Int))) := hB4.trans (hB9.mono hB4.size)
                  have hS9 := hSn.out.isS hRn.out
                  have cRw := share_Recover (w9.setCell ⟨gs, 1, none⟩ (.int .u64 ((fA s0 zw : Nat) : Int))) (k : Int) _ _ hS9 hkwf (hT.out _ hB9w)
                  have cFw := fun (W : World) (hb : Below (w9.setCell ⟨gs, 1, none⟩ (.int .u64 ((fA s0 zw : Nat) : Int))).heap.size (w9.setCell ⟨gs, 1, none⟩ (.int .u64 ((fA s0 zw : Nat) : Int))) W) => share_Fits W (k : Int) _ _ (hS9.below hb) hkwf (hT.out _ (hB9w.trans (hb.mono hB9w.size)))
                  rw [hk'.out, q2] at cRw
                  rw [hk'.out, q3, q1] at cFw
                  rw [← hk'.out] at cRw cFw
                  clear hs0 q1 q2 q3 hwrong hOw hOr hSn hRn hzt hS9 hB9 hRg hS1
                  generalize fA s0 zw = zz at *
                  go_wp2_with (first
                    | (go_at_call 15; refine Calls.mono (cN _) ?_; rintro e w' ⟨rfl, hw⟩; rw [hw]; clear hw)
                    | (go_at_call 17; refine Calls.mono (cA _) ?_; rintro e w' ⟨rfl, hw⟩; rw [hw]; clear hw cA)
                    | (go_at_call 16; refine Calls.mono cRw ?_; rintro e wT ⟨uT, rfl, hUT, hbT⟩; clear cRw; obtain ⟨aT, cT, rfl⟩ := hUT.shp; have cF1 := cFw wT hbT; clear cFw)
                    | (go_at_call 18; refine Calls.mono cF1 ?_; rintro e wV ⟨rfl, hbV⟩; clear cF1))
                  go_ret
                  exact ⟨rfl, (hB9w.trans (hbT.mono hB9w.size)).trans (hbV.mono (Nat.le_trans hB9w.size hbT.size))⟩
              · have hki : ¬ (k : Int) < (mm : Int) := by omega
                clear hwrong hOw hS1
                go_wp2
                go_ret
                exact ⟨rfl, hBe⟩
theorem shareAny_walk (w : World) (v : Value) (xs0 : List Nat) (h : IsU w v xs0) (n : Int) (hn : (Lit.int .i64 n).wf = true) (vp : Value) (ps : List Int) (hP : IsZ w vp ps) (z : Int) (hz : (Lit.int .u64 z).wf = true) (hTb : Tab w) :
    Calls Try.prog 4 #[v, .int .i64 n, vp, .int .u64 z] w fun e w' => e = .returned (.bool true) ∧ Below w.heap.size w w' := by
  by_cases hOk : EnOk (xs0.take 20) n
  · exact shareAny_ok w v xs0 h n hn vp ps hP z hz hTb hOk
  · exact shareAny_bad w v xs0 h n hn vp ps hP z hz hTb hOk

end Go.Proofs.Ytjbdpjbcibhflaf
