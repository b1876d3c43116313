/-
  What planOf and shareOf of package desk tell.
-/
import Derived.Test.YtmggccepmicjhagGreatDoorDkC4
import Derived.Test.YtmggccepmicjhagGreatDoorPolyCAll
namespace Go.Proofs.YtmggccepmicjhagGreatDoor
open Go.RowKit
set_option maxRecDepth 100000

theorem plan_MakeE (w : World) (v : Value) (ds : List Nat) (c : Nat) (h : IsZ w v (ds.map fun (d : Nat) => (d : Int))) (hc : c ≤ 1000000000) :
    Calls Tryz.prog 75 #[v, .int .i64 (c : Int)] w fun e w' => ∃ u, e = .returned (.tuple #[u, .int .i64 (plE ds c)]) ∧ IsP 3 w' u (plL ds c) ∧ Below w.heap.size w w' := by
  by_cases hG : GoodV ds
  · have hG' := goodV_iff.mp hG
    by_cases hn : 1024 < prd2 ds
    · have e : plE ds c = 2 := by unfold plE; rw [if_pos hG, if_pos hn]
      have eL : plL ds c = [] := by unfold plL; rw [e]; rfl
      rw [e, eL]
      exact plan_Make_large w v _ ds (c : Int) h hG' hn
    · by_cases hc1 : c < 1
      · have e : plE ds c = 1 := by unfold plE; rw [if_pos hG, if_neg hn, if_pos hc1]
        have eL : plL ds c = [] := by unfold plL; rw [e]; rfl
        rw [e, eL]
        exact plan_Make_cut w v _ ds (c : Int) h hG' (by omega) (by omega)
      · by_cases hF : Few ds c ds.length
        · have e : plE ds c = 0 := by unfold plE; rw [if_pos hG, if_neg hn, if_neg hc1, if_pos hF]
          have eL : plL ds c = pls ds c ds.length := by unfold plL; rw [e]; rfl
          rw [e, eL]
          exact plan_Make_ok w v _ ds c h hG' (by omega) (by omega) (by omega) hF
        · have e : plE ds c = 2 := by unfold plE; rw [if_pos hG, if_neg hn, if_neg hc1, if_neg hF]
          have eL : plL ds c = [] := by unfold plL; rw [e]; rfl
          rw [e, eL]
          exact plan_Make_many w v _ ds c h hG' (by omega) (by omega) (by omega) hF
  · have e : plE ds c = 1 := by unfold plE; rw [if_neg hG]
    have eL : plL ds c = [] := by unfold plL; rw [e]; rfl
    rw [e, eL]
    exact plan_Make_bad w v _ (c : Int) h (fun ds' hg => hG (by
      have e2 : (ds'.map fun (d : Nat) => (d : Int)) = ds.map fun (d : Nat) => (d : Int) := hg.2.2.1.symm
      have e3 : ds' = ds := (List.map_inj_right (fun a b hab => by omega)).mp e2
      rw [e3] at hg
      exact goodV_iff.mpr hg))
theorem smk_length (l : List Nat) (i : Nat) (h : i ≤ l.length) : ((l.take i).map smN).length = i := by rw [List.length_map, List.length_take]; omega
theorem smk_succ (l : List Nat) (i : Nat) (h : i < l.length) : (l.take (i + 1)).map smN = (l.take i).map smN ++ [smN (l.getD i 0)] := by
  have e : l.getD i 0 = l[i] := by simp [List.getD, h]
  rw [List.take_succ_eq_append_getElem h, List.map_append, e]
  rfl
theorem smk_all (l : List Nat) : (l.take l.length).map smN = l.map smN := by rw [List.take_length]
set_option maxRecDepth 100000 in
set_option maxHeartbeats 4000000 in
theorem desk_planOf (w : World) (v : Value) (L : List (List UInt8)) (h : IsB w v L) (hs : ∀ l ∈ L, l.length ≤ 1000000000) (h9 : L.length ≤ 1000000) (ht : Tab w) (R : List UInt8)
    (hR1 : numsB L = true → 0 < L.length → R = plnV (numsL L)) (hR2 : ¬ (numsB L = true ∧ 0 < L.length) → R = wrg 3) :
    Calls Tryz.prog 50 #[v] w fun e w' => ∃ t k, e = .returned (.tuple #[.string (bs t), .int .i64 k]) ∧ Says t k R ∧ Below w.heap.size w w' := by
  by_cases hq : numsB L = true ∧ 0 < L.length
  · have c1 := desk_readFirst_ok w v L h hs h9 ht hq.1 hq.2
    have hR0 := hR1 hq.1 hq.2
    obtain ⟨av, cv, rfl⟩ := h.len
    have hV : Hid (R = if plE (shpV (numsL L)) (smN ((numsL L).getD 0 0)) = 0 then ptx (plL (shpV (numsL L)) (smN ((numsL L).getD 0 0))) (plL (shpV (numsL L)) (smN ((numsL L).getD 0 0))).length ++ [111, 107] else wrg (plE (shpV (numsL L)) (smN ((numsL L).getD 0 0)))) := hR0
    have her := plE_le (shpV (numsL L)) (smN ((numsL L).getD 0 0))
    obtain ⟨hl3, hl64⟩ := plL_small (shpV (numsL L)) (smN ((numsL L).getD 0 0))
    have hshp : shpV (numsL L) = ((numsL L).drop 1).map smN := rfl
    have hrg : Hid (∀ i, ((((numsL L).drop 1).getD i 0 : Nat) : Int) < 18446744073709551616) := fun i => range_getD (fun x hx => numsL_rng L x (List.mem_of_mem_drop hx)) i
    have hml : ((numsL L).drop 1).length ≤ 1000000 := by rw [List.length_drop, numsL_length]; omega
    have hle := shpV_le (numsL L)
    have cP : Hid (∀ (W : World) (u : Value), IsZ W u ((shpV (numsL L)).map fun (d : Nat) => (d : Int)) → Calls Tryz.prog 75 #[u, .int .i64 ((smN ((numsL L).getD 0 0) : Nat) : Int)] W fun e w' => ∃ z, e = .returned (.tuple #[z, .int .i64 (plE (shpV (numsL L)) (smN ((numsL L).getD 0 0)))]) ∧ IsP 3 w' z (plL (shpV (numsL L)) (smN ((numsL L).getD 0 0))) ∧ Below W.heap.size W w') := fun W u hZ => plan_MakeE W u _ _ hZ (smN_le _)
    have cT : ∀ W u, Tab W → IsP 3 W u (plL (shpV (numsL L)) (smN ((numsL L).getD 0 0))) → Calls Tryz.prog 76 #[u] W fun e w' => e = .returned (.string (bs (ptx (plL (shpV (numsL L)) (smN ((numsL L).getD 0 0))) (plL (shpV (numsL L)) (smN ((numsL L).getD 0 0))).length))) ∧ (bs (ptx (plL (shpV (numsL L)) (smN ((numsL L).getD 0 0))) (plL (shpV (numsL L)) (smN ((numsL L).getD 0 0))).length)).size ≤ 1000000 ∧ Below W.heap.size W w' := fun W u hT hP => by
      have ht3 := tot_small hl64 (plL (shpV (numsL L)) (smN ((numsL L).getD 0 0))).length
      refine (plan_Print W u _ hP hT (text_size hP (by omega))).mono ?_
      rintro e w' ⟨rfl, hb2⟩
      have := ptx_le _ hP.b3 (plL (shpV (numsL L)) (smN ((numsL L).getD 0 0))).length (Nat.le_refl _)
      exact ⟨rfl, by rw [bs_size]; omega, hb2⟩
    rw [hshp] at hV her hle cP cT
    clear hl3 hl64 hshp h hs hR0 hR1 hR2 hq
    generalize plE (((numsL L).drop 1).map smN) (smN ((numsL L).getD 0 0)) = er at *
    generalize plL (((numsL L).drop 1).map smN) (smN ((numsL L).getD 0 0)) = Q at *
    generalize ptx Q Q.length = tx0 at *
    generalize smN ((numsL L).getD 0 0) = c at *
    generalize (numsL L).drop 1 = A at *
    have hzq : Hid (∀ W g, RowI W g (A.map smN) → IsZ W (.slice (some ⟨g, 0, none⟩) A.length A.length) ((A.map smN).map fun (d : Nat) => (d : Int))) := fun W g hr => (hr.isIN (by rw [List.length_map]; omega) (by rw [List.length_map])).z hle
    have hA9 : A.length ≤ 1000000000 := by omega
    have hA63 : A.length ≤ 9223372036854775807 := by omega
    have hcs : Hid (∀ i W, Calls Tryz.prog 63 #[.int .u64 ((A.getD i 0 : Nat) : Int)] W fun e w' => e = .returned (.int .i64 ((smN (A.getD i 0) : Nat) : Int)) ∧ w' = W) := fun i W => desk_count (A.getD i 0) (hrg.out i) W
    clear hle hrg
    go_enter Tryz.func50, Tryz.ntmps50
    go_wp2_with (first
      | (go_at_call 74; refine Calls.mono c1 ?_; rintro e w1 ⟨u, rfl, hU, hb⟩; clear c1; have hU0 := hU; obtain ⟨a, cap, e, -, -, hc0, -⟩ := hU0; subst e)
      | (at_make; refine wp_makeI rfl _ _ rfl A.length rfl rfl hA9 ?_; intro g w2 hg hrow hb2; have hgw : w1.heap.size ≤ g := (by rw [hg.out]; exact Nat.le_refl _); clear hg))
    have hc : Hid (∀ i, i < A.length → ∃ b off, a = some ⟨b, off, none⟩ ∧ w1.cell? ⟨b, off + i, none⟩ = some (.int .u64 ((A.getD i 0 : Nat) : Int))) := hc0
    clear hc0 hU
    go_loopw [25] (fun vi wr => ∃ i : Nat, i ≤ A.length ∧ vi = .int .i64 (i : Int) ∧ RowI wr g ((A.take i).map smN ++ List.replicate (A.length - i) 0) ∧ Below w1.heap.size w1 wr)
      (fun vi _ => A.length - (intOf vi).toNat)
    case atStart => exact ⟨0, Nat.zero_le _, rfl, hrow, hb2⟩
    case round =>
      clear hrow hb2
      obtain ⟨i, hi, rfl, hR, hB⟩ := hrel
      by_cases hlt : i < A.length
      · obtain ⟨b, off, rfl, hcell0⟩ := hc.out i hlt
        have hcell := (hB.cell (block_lt hcell0)).trans hcell0
        have cs := hcs.out i
        have hlen := smk_length A i hi
        have hset : ((A.take i).map smN ++ List.replicate (A.length - i) 0).set i (smN (A.getD i 0)) = (A.take (i + 1)).map smN ++ List.replicate (A.length - (i + 1)) 0 := by
          rw [smk_succ A i hlt, show A.length - i = (A.length - (i + 1)) + 1 by omega]
          have := set_zero ((A.take i).map smN) (A.length - (i + 1)) 0 (smN (A.getD i 0))
          rw [hlen] at this
          exact this
        have hl2 : ((A.take i).map smN ++ List.replicate (A.length - i) 0).length = A.length := by rw [List.length_append, hlen, List.length_replicate]; omega
        obtain ⟨u0, hc1⟩ : ∃ u0, wr.cell? ⟨g, i, none⟩ = some u0 := ⟨_, hR.cell i (by omega)⟩
        have hc2 := hR.frozen i
        have hup : Hid (RowI (wr.setCell ⟨g, i, none⟩ (.int .i64 ((smN (A.getD i 0) : Nat) : Int))) g ((A.take (i + 1)).map smN ++ List.replicate (A.length - (i + 1)) 0) ∧ Below w1.heap.size w1 (wr.setCell ⟨g, i, none⟩ (.int .i64 ((smN (A.getD i 0) : Nat) : Int)))) := ⟨(hR.set i _).cast hset, hB.setCell (p := ⟨g, i, none⟩) hgw _⟩
        clear hset hl2 hlen hcell0 cP cT hcs hR
        generalize hx1 : (A.take (i + 1)).map smN ++ List.replicate (A.length - (i + 1)) 0 = l2 at *
        replace hx1 : Hid _ := hx1
        generalize smN (A.getD i 0) = y at *
        generalize A.getD i 0 = x at *
        go_wp2_with (go_at_call 63; refine Calls.mono (cs _) ?_; rintro e w' ⟨rfl, hw⟩; rw [hw]; clear hw cs)
        go_roundw
        case rel => exact ⟨i + 1, by omega, by go_num, by rw [hx1.out]; exact hup.out.1, hup.out.2⟩
        case measure => simp only [intOf]; omega
      · have e : i = A.length := by omega
        subst e
        rw [Nat.sub_self, List.replicate_zero, List.append_nil, smk_all] at hR
        have hZ := hzq.out _ _ hR
        have cP' := cP.out _ _ hZ
        have hT : Tab wr := (ht.below hb).below hB
        have hnl : ¬ A.length < A.length := Nat.lt_irrefl _
        have hBw : Below w.heap.size w wr := hb.trans (hB.mono hb.size)
        clear cP hzq hcs hc hR hZ hB
        by_cases hz : er = 0
        · have hR0 := hV.out
          rw [if_pos hz] at hR0
          subst hz
          have happ : bs tx0 ++ ({ data := #[111, 107] } : ByteArray) = bs R := by rw [hR0]; exact bs_append _ [111, 107]
          clear hV hR0 her
          generalize hRR : bs R = RR at *
          replace hRR : Hid _ := hRR
          go_wp2_with (first
            | (go_at_call 75; refine Calls.mono cP' ?_; rintro e w3 ⟨z, rfl, hP, hb3⟩; replace hT := hT.below hb3; replace hBw := hBw.trans (hb3.mono hBw.size); clear cP' hb3)
            | (go_at_call 76; refine Calls.mono (cT _ _ hT hP) ?_; rintro e w4 ⟨rfl, hsz, hb4⟩; replace hBw := hBw.trans (hb4.mono hBw.size); clear cT hb4))
          go_ret2
          exact ⟨R, 0, by rw [hRR.out]; rfl, Says.ok _, hBw⟩
        · have hR0 := hV.out
          rw [if_neg hz] at hR0
          have hR' : Hid (R = wrg er) := hR0
          have hz1 : (er != 0) = true := by rw [bne_iff_ne]; exact hz
          have hk2 : Hid (0 < er ∧ er ≤ 100) := ⟨by omega, by omega⟩
          clear hV hR0 her hz cT
          go_wp2_with (first
            | (go_at_call 75; refine Calls.mono cP' ?_; rintro e w3 ⟨z, rfl, hP, hb3⟩; replace hBw := hBw.trans (hb3.mono hBw.size); clear cP' hb3))
          go_ret2
          exact ⟨[], er, rfl, Says.err hk2.out.1 hk2.out.2 hR'.out.symm, hBw⟩
  · have c1 := desk_readFirst_no w v L h hs h9 ht hq
    obtain ⟨av, cv, rfl⟩ := h.len
    have hR : Hid (R = wrg 3) := hR2 hq
    clear h hs hq hR1 hR2
    go_enter Tryz.func50, Tryz.ntmps50
    go_wp2_with (go_at_call 74; refine Calls.mono c1 ?_; rintro e w1 ⟨rfl, hb⟩; clear c1)
    go_ret2
    exact ⟨[], 3, rfl, Says.err (by decide) (by decide) hR.out.symm, hb⟩
theorem shr_err {n : List Nat} (h : ¬ ShrV n) : shrV n = wrg 1 := by unfold shrV; rw [if_neg h]
set_option maxRecDepth 100000 in
set_option maxHeartbeats 2000000 in
theorem desk_shareOf (w : World) (v : Value) (L : List (List UInt8)) (h : IsB w v L) (hs : ∀ l ∈ L, l.length ≤ 1000000000) (h9 : L.length ≤ 1000000) (ht : Tab w) (R : List UInt8)
    (hR1 : numsB L = true → 0 < L.length → R = shrV (numsL L)) (hR2 : ¬ (numsB L = true ∧ 0 < L.length) → R = wrg 3) :
    Calls Tryz.prog 51 #[v] w fun e w' => ∃ t k, e = .returned (.tuple #[.string (bs t), .int .i64 k]) ∧ Says t k R ∧ Below w.heap.size w w' := by
  by_cases hq : numsB L = true ∧ 0 < L.length
  · have c1 := desk_readFirst_ok w v L h hs h9 ht hq.1 hq.2
    have hR0 := hR1 hq.1 hq.2
    obtain ⟨av, cv, rfl⟩ := h.len
    have hnl := numsL_length L
    have hdl : ((numsL L).drop 1).length = L.length - 1 := by rw [List.length_drop, hnl]
    by_cases hS : ShrV (numsL L)
    · have hS0 := hS
      obtain ⟨s1, ⟨s2, s3⟩, s4⟩ := hS0
      have hsm : smN ((numsL L).getD 0 0) = (numsL L).getD 0 0 := by unfold smN; rw [if_neg (by omega)]
      have hR' : Hid (R = sayN (mk ((numsL L).getD 0 0) (symF ((numsL L).drop 1)))) := by
        show _ = _
        rw [hR0]
        unfold shrV
        rw [if_pos hS]
      rw [hsm] at c1
      have cE : Hid (∀ (W : World) (u : Value), IsU W u ((numsL L).drop 1) → Calls Tryz.prog 77 #[u, .int .i64 (((numsL L).getD 0 0 : Nat) : Int)] W fun e w' => ∃ z, e = .returned (.tuple #[z, .int .i64 0]) ∧ IsU w' z (mk ((numsL L).getD 0 0) (symF ((numsL L).drop 1))) ∧ Below W.heap.size W w') := fun W u hU => by
        refine (share_Encode_ok W u _ ((numsL L).getD 0 0) hU (by omega) (by omega) (by omega)).mono ?_
        rintro e w' ⟨g, rfl, -, hrow, hb⟩
        exact ⟨_, rfl, hrow.isUN (Rng_of_P (mk_lt _ _)) (by rw [mk_length]; omega) (mk_length _ _), hb⟩
      have cT : Hid (∀ (W : World) (u : Value), IsU W u (mk ((numsL L).getD 0 0) (symF ((numsL L).drop 1))) → Tab W → Calls Tryz.prog 64 #[u, .int .i64 0] W fun e w' => e = .returned (.tuple #[.string (bs (sayN (mk ((numsL L).getD 0 0) (symF ((numsL L).drop 1))))), .int .i64 0]) ∧ Below W.heap.size W w') := fun W u hU hT => desk_listText_ok W u _ hU (by rw [mk_length]; omega) hT
      clear h hs hR0 hR1 hR2 hq hnl hdl hS s1 s2 s3 s4 hsm
      generalize sayN (mk ((numsL L).getD 0 0) (symF ((numsL L).drop 1))) = D at *
      generalize mk ((numsL L).getD 0 0) (symF ((numsL L).drop 1)) = B at *
      generalize (numsL L).getD 0 0 = c at *
      generalize (numsL L).drop 1 = A at *
      go_enter Tryz.func51, Tryz.ntmps51
      go_wp2_with (first
        | (go_at_call 74; refine Calls.mono c1 ?_; rintro e w1 ⟨u, rfl, hU, hb⟩; clear c1; have hT : Tab w1 := ht.below hb)
        | (go_at_call 77; refine Calls.mono (cE.out _ _ hU) ?_; rintro e w2 ⟨z, rfl, hZ, hb2⟩; replace hT := hT.below hb2; replace hb := hb.trans (hb2.mono hb.size); clear hb2 cE hU)
        | (go_at_call 64; refine Calls.mono (cT.out _ _ hZ hT) ?_; rintro e w3 ⟨rfl, hb3⟩; replace hb := hb.trans (hb3.mono hb.size); clear cT hb3))
      go_ret2
      exact ⟨D, 0, rfl, by rw [hR'.out]; exact Says.ok _, hb⟩
    · have hR' : Hid (R = wrg 1) := by
        show _ = _
        rw [hR0, shr_err hS]
      have cE : Hid (∀ (W : World) (u : Value), IsU W u ((numsL L).drop 1) → Calls Tryz.prog 77 #[u, .int .i64 ((smN ((numsL L).getD 0 0) : Nat) : Int)] W fun e w' => e = .returned (.tuple #[.slice none 0 0, .int .i64 1]) ∧ w' = W) := fun W u hU => share_Encode_bad W u _ _ hU (fun hE => hS (by
          obtain ⟨e1, e2, e3⟩ := hE
          have h64 := (in_smN ((numsL L).getD 0 0)).mp e2
          have hsm : smN ((numsL L).getD 0 0) = (numsL L).getD 0 0 := by unfold smN; rw [if_neg (by omega)]
          rw [hsm] at e3
          refine ⟨by omega, h64, by omega⟩))
      have cT : ∀ (W : World), Calls Tryz.prog 64 #[.slice none 0 0, .int .i64 1] W fun e w' => e = .returned (.tuple #[.string { data := #[] }, .int .i64 1]) ∧ w' = W := fun W => desk_listText_bad W none 0 0 1 (by decide)
      clear h hs hR0 hR1 hR2 hq hnl hdl hS
      generalize smN ((numsL L).getD 0 0) = c at *
      generalize (numsL L).drop 1 = A at *
      go_enter Tryz.func51, Tryz.ntmps51
      go_wp2_with (first
        | (go_at_call 74; refine Calls.mono c1 ?_; rintro e w1 ⟨u, rfl, hU, hb⟩; clear c1)
        | (go_at_call 77; refine Calls.mono (cE.out _ _ hU) ?_; rintro e w' ⟨rfl, hw⟩; rw [hw]; clear hw cE hU)
        | (go_at_call 64; refine Calls.mono (cT _) ?_; rintro e w' ⟨rfl, hw⟩; rw [hw]; clear hw cT))
      go_ret2
      exact ⟨[], 1, rfl, Says.err (by decide) (by decide) hR'.out.symm, hb⟩
  · have c1 := desk_readFirst_no w v L h hs h9 ht hq
    obtain ⟨av, cv, rfl⟩ := h.len
    have hR : Hid (R = wrg 3) := hR2 hq
    clear h hs hq hR1 hR2
    go_enter Tryz.func51, Tryz.ntmps51
    go_wp2_with (go_at_call 74; refine Calls.mono c1 ?_; rintro e w1 ⟨rfl, hb⟩; clear c1)
    go_ret2
    exact ⟨[], 3, rfl, Says.err (by decide) (by decide) hR.out.symm, hb⟩

end Go.Proofs.YtmggccepmicjhagGreatDoor
