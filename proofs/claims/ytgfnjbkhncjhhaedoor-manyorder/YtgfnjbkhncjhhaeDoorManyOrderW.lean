/-
  The walk of the law ManyOrder: whatever is handed in, it doesn't matter which axis is first, back and forth an array is what it was, and the law returns true.
-/
import Derived.Test.YtgfnjbkhncjhhaeDoorKeepFlat
import Derived.Test.YtgfnjbkhncjhhaeDoorKeepShaped
import Derived.Test.YtgfnjbkhncjhhaeDoorField
import Derived.BigQuiet
import Derived.Deep.RegionWith
namespace Go.Proofs.YtgfnjbkhncjhhaeDoor
open Go.RowKit

theorem mk_cf_get (l : List Nat) (n m : Nat) (h : m < n) : (mk n (cf l)).getD m 0 = fN (l.getD m 0) := by
  rw [mk_getD n _ m h, fN_val]; rfl

set_option maxHeartbeats 8000000 in
theorem manyOrder_ok (w : World) (v v' : Value) (zs : List Int) (ds xs : List Nat) (hZ : IsZ w v zs) (hX : IsU w v' xs) (hTb : Tab w) (hG : Good zs ds) (hn : prd2 ds ≤ 64) :
    Calls Tryd.prog 6 #[v, v'] w fun e w' => e = .returned (.bool true) ∧ Below w.heap.size w w' := by
  have hW : Below w.heap.size w w := Below.refl _ _
  have hS : Shp ds := hG.2.2.2
  have hn9 : prd2 ds ≤ 1024 := by omega
  obtain ⟨az, cz, rfl, -⟩ := id hZ
  have hlen : zs.length = ds.length := by rw [hG.2.2.1, List.length_map]
  have h1 : 1 ≤ ds.length := by rw [← hlen]; exact hG.1
  have h3 : ds.length ≤ 3 := by rw [← hlen]; exact hG.2.1
  have hpos : 0 < prd2 ds := prd2_pos hS.pos
  have lA : (szd xs (prd2 ds)).length = prd2 ds := szd_length xs _
  have cSh := fun W hz hx => keep_shaped_ok W (.slice az zs.length cz) v' zs ds xs hz hx hG hn
  have mF := fun W u hz ha (hB : Below w.heap.size w W) => many_Forward_ok W (.slice az zs.length cz) u zs (szd xs (prd2 ds)) ds hz ha (hTb.below hB) hG hn9 lA
  have mI := fun W u hz ha (hB : Below w.heap.size w W) => many_Inverse_ok W (.slice az zs.length cz) u zs (mk (prd2 ds) (who ds false (cf (szd xs (prd2 ds))) ds.length)) ds hz ha (hTb.below hB) hG hn9 (mk_length _ _)
  have eI : mk (prd2 ds) (who ds true (cf (mk (prd2 ds) (who ds false (cf (szd xs (prd2 ds))) ds.length))) ds.length) = mk (prd2 ds) (cf (szd xs (prd2 ds))) := mk_congr fun p hp =>
    (who_congr hS true (fun i hi => by rw [cf_mk, if_pos hi]) p hp).trans (who_back hS hn9 false _ p hp)
  rw [eI] at mI
  have mA : Hid (∀ (W : World) (u : Value) (cur : List Nat) (x : Nat), IsZ W (.slice az zs.length cz) zs → IsU W u cur → Below w.heap.size w W → cur.length = prd2 ds → x < ds.length → Calls Tryd.prog 28 #[.slice az zs.length cz, u, .int .i64 (x : Int), .bool false] W fun e w' => ∃ u, e = .returned (.tuple #[u, .int .i64 0]) ∧ IsU w' u (mk (prd2 ds) (alo ds x false (cf cur))) ∧ Below W.heap.size W w') := fun W u cur x hz hu hB hc hx =>
    many_Along_ok W _ u zs cur ds x false hz hu (hTb.below hB) hG hn9 hc hx
  have hstep : Hid (∀ (cur : List Nat) (j : Nat), j < ds.length → (∀ i, i < prd2 ds → cf cur i = dwn ds false (cf (szd xs (prd2 ds))) ds.length (ds.length - (j + 1)) i) → mk (prd2 ds) (alo ds j false (cf cur)) = mk (prd2 ds) (dwn ds false (cf (szd xs (prd2 ds))) ds.length (ds.length - j))) := fun cur j hj hcur => by
    have e : ds.length - j = ds.length - (j + 1) + 1 := by omega
    have e2 : ds.length - (ds.length - (j + 1) + 1) = j := by omega
    rw [e, dwn, e2]
    exact mk_congr fun p hp => alo_congr hS j hj false hcur p hp
  have hfin : Hid (mk (prd2 ds) (dwn ds false (cf (szd xs (prd2 ds))) ds.length (ds.length - 0)) = mk (prd2 ds) (who ds false (cf (szd xs (prd2 ds))) ds.length)) := by
    show _ = _
    rw [Nat.sub_zero, dwn_who hS h1 h3]
  have hget : Hid (∀ i, i < prd2 ds → (mk (prd2 ds) (cf (szd xs (prd2 ds)))).getD i 0 = fN ((szd xs (prd2 ds)).getD i 0)) := fun i hi => mk_cf_get _ _ _ hi
  have lI : Hid ((mk (prd2 ds) (cf (szd xs (prd2 ds)))).length = prd2 ds) := mk_length _ _
  have lA' : Hid ((szd xs (prd2 ds)).length = prd2 ds) := lA
  have rA : ∀ x ∈ szd xs (prd2 ds), (x : Int) < 18446744073709551616 := szd_rangeN hX.range
  rw [hlen] at cSh mF mI mA hZ ⊢
  clear hG hS eI lA
  generalize szd xs (prd2 ds) = A at *
  generalize mk (prd2 ds) (who ds false (cf A) ds.length) = FL at *
  generalize mk (prd2 ds) (cf A) = IL at *
  generalize prd2 ds = n at *
  go_enter Tryd.func6, Tryd.ntmps6
  go_wp2_with (first
    | (go_at_call 24; refine Calls.mono (keep_flat _ (hTb.below hW)) ?_; rintro e w1 ⟨rfl, hb⟩; replace hZ := hZ.below hb; replace hX := hX.below hb; replace hW := hW.trans (hb.mono hW.size); clear hb)
    | (go_at_call 25; refine Calls.mono (cSh _ hZ hX) ?_; rintro e w2 ⟨g, rfl, hA, hb⟩; replace hZ := hZ.below hb; replace hW := hW.trans (hb.mono hW.size); clear hb hX)
    | (go_at_call 26; refine Calls.mono (mF _ _ hZ hA hW) ?_; rintro e w3 ⟨f, rfl, hF, hb⟩; replace hZ := hZ.below hb; replace hA := hA.below hb; replace hW := hW.trans (hb.mono hW.size); clear hb)
    | (go_at_call 27; refine Calls.mono (mI _ _ hZ hF hW) ?_; rintro e w4 ⟨b, rfl, hI, hb⟩; replace hZ := hZ.below hb; replace hA := hA.below hb; replace hF := hF.below hb; replace hW := hW.trans (hb.mono hW.size); clear hb))
  clear cSh mF mI
  go_loopw [11, 12] (fun vc vi wr => ∃ (z : Int) (j : Nat) (cur : List Nat), j ≤ ds.length ∧ z = (j : Int) - 1 ∧ vi = .int .i64 z ∧ IsU wr vc cur ∧ Hid (cur.length = n) ∧ Hid (∀ i, i < n → cf cur i = dwn ds false (cf A) ds.length (ds.length - j) i) ∧ Hid (j < ds.length → cur = mk n (dwn ds false (cf A) ds.length (ds.length - j))) ∧ Below w4.heap.size w4 wr)
    (fun _ vi _ => (intOf vi + 1).toNat)
  case atStart => exact ⟨_, ds.length, A, Nat.le_refl _, rfl, rfl, hA, lA', fun i _ => by rw [Nat.sub_self]; rfl, fun h => absurd h (Nat.lt_irrefl _), Below.refl _ _⟩
  case round =>
    obtain ⟨z, j, cur, hj, hz, rfl, hU, hcl, hcf, hcm, hnx⟩ := hrel
    rcases Nat.eq_zero_or_pos j with hj0 | hj0
    · have e : z = -1 := by omega
      subst e
      subst hj0
      have hcur : cur = FL := (hcm.out (by omega)).trans hfin.out
      have hU2 := hU.cast hcur
      replace hA := hA.below hnx
      replace hF := hF.below hnx
      replace hI := hI.below hnx
      replace hW := hW.trans (hnx.mono hW.size)
      obtain ⟨bi, oi, ci, rfl⟩ := hI.placeN lI.out hpos
      clear hcl hcf hcm hU hcur mA hstep hfin hz hnx hZ
      go_wp2_with (go_at_call 12; refine Calls.mono (slices_Equal _ _ _ FL hU2 hF) ?_; rintro e w6 ⟨rfl, hb⟩; replace hA := hA.below hb; replace hI := hI.below hb; replace hW := hW.trans (hb.mono hW.size); clear hb)
      clear hU2 hF
      go_loopw [65] (fun vi wr => ∃ i : Nat, i ≤ n ∧ vi = .int .i64 (i : Int) ∧ Hid (∃ m, wr = w6.drewN m)) (fun vi _ => n - (intOf vi).toNat)
      case atStart => exact ⟨0, Nat.zero_le _, rfl, ⟨0, rfl⟩⟩
      case round =>
        obtain ⟨i, hi, rfl, hq⟩ := hrel
        by_cases hlt : i < n
        · have c1 : wr.cell? ⟨g, i, none⟩ = some (.int .u64 ((A.getD i 0 : Nat) : Int)) := by
            obtain ⟨m, rfl⟩ := hq.out
            have := hA.cell i (by rw [lA'.out]; exact hlt)
            rw [Nat.zero_add] at this
            exact this
          have c2 : wr.cell? ⟨bi, oi + i, none⟩ = some (.int .u64 ((fN (A.getD i 0) : Nat) : Int)) := by
            obtain ⟨m, rfl⟩ := hq.out
            have := hI.cell i (by rw [lI.out]; exact hlt)
            rw [hget.out i hlt] at this
            exact this
          have cN := field_Norm (A.getD i 0) (range_getD rA i)
          have hne : (((fN (A.getD i 0) : Nat) : Int) != ((fN (A.getD i 0) : Nat) : Int)) = false := by simp
          clear hA hI hget rA
          generalize fN (A.getD i 0) = y at *
          generalize A.getD i 0 = a at *
          go_wp2
          go_quiet (first | (go_at_call 13; exact Calls.quiet_of_same (cN _)))
          go_wp2
          go_roundw
          case rel => exact ⟨i + 1, by omega, by go_num, by obtain ⟨m, rfl⟩ := hq.out; exact ⟨m + _, World.drewN_drewN _ _ _⟩⟩
          case measure => simp only [intOf]; omega
        · have e : n = i := by omega
          subst e
          have hge : n ≤ n := Nat.le_refl _
          have hWf : Below w.heap.size w wr := by
            obtain ⟨m, rfl⟩ := hq.out
            exact ⟨hW.os, hW.tape, hW.output, hW.size, hW.block⟩
          clear hA hI hget hq
          go_wp2
          go_ret
          exact ⟨rfl, hWf⟩
    · obtain ⟨x, rfl⟩ : ∃ x, j = x + 1 := ⟨j - 1, by omega⟩
      have e : z = (x : Int) := by omega
      subst e
      have hxl : x < ds.length := by omega
      have c1 := mA.out wr _ cur x (hZ.below hnx) hU (hW.trans (hnx.mono hW.size)) hcl.out hxl
      rw [hstep.out cur x hxl hcf.out] at c1
      obtain ⟨nw, hnw⟩ : ∃ nw : List Nat, nw = mk n (dwn ds false (cf A) ds.length (ds.length - x)) := ⟨_, rfl⟩
      have hnw' : Hid (nw = mk n (dwn ds false (cf A) ds.length (ds.length - x))) := hnw
      have hl2 : Hid (nw.length = n) := by show nw.length = n; rw [hnw, mk_length]
      have hcf2 : Hid (∀ i, i < n → cf nw i = dwn ds false (cf A) ds.length (ds.length - x) i) := fun i hi => by rw [hnw, cf_mk, if_pos hi]
      rw [← hnw] at c1
      obtain ⟨ac, cc, rfl, -⟩ := id hU
      clear hnw mA hstep hfin hcf hcm hz hU hcl
      go_wp2_with (go_at_call 28; refine Calls.mono c1 ?_; rintro e w5 ⟨u5, rfl, hU5, hb5⟩)
      go_roundw
      case rel => exact ⟨_, x, nw, by omega, rfl, by go_num, hU5, hl2, hcf2, fun _ => hnw'.out, hnx.trans (hb5.mono hnx.size)⟩
      case measure => simp only [intOf]; omega

set_option maxHeartbeats 1000000 in
theorem manyOrder_walk (w : World) (v : Value) (zs : List Int) (hZ : IsZ w v zs) (v' : Value) (xs : List Nat) (hX : IsU w v' xs) (hTb : Tab w) :
    Calls Tryd.prog 6 #[v, v'] w fun e w' => e = .returned (.bool true) ∧ Below w.heap.size w w' := by
  by_cases hG : ∃ ds, Good zs ds ∧ prd2 ds ≤ 64
  · obtain ⟨ds, hG, hn⟩ := hG
    exact manyOrder_ok w v v' zs ds xs hZ hX hTb hG hn
  · have cSh := fun W hz => keep_shaped_no W v v' zs hz (fun ds h => by
      rcases Nat.lt_or_ge 64 (prd2 ds) with h1 | h1
      · exact h1
      · exact absurd ⟨ds, h, h1⟩ hG)
    have hW : Below w.heap.size w w := Below.refl _ _
    clear hG hX
    go_enter Tryd.func6, Tryd.ntmps6
    go_wp2_with (first
      | (go_at_call 24; refine Calls.mono (keep_flat _ (hTb.below hW)) ?_; rintro e w1 ⟨rfl, hb⟩; replace hZ := hZ.below hb; replace hW := hW.trans (hb.mono hW.size); clear hb)
      | (go_at_call 25; refine Calls.mono (cSh _ hZ) ?_; rintro e w' ⟨rfl, hw⟩; rw [hw]; clear hw))
    go_ret
    exact ⟨rfl, hW⟩

end Go.Proofs.YtgfnjbkhncjhhaeDoor
