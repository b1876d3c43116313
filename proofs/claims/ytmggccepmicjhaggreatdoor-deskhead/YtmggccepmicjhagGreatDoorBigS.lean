/-
  What text of package big answers: limbs as a text of digits.
-/
import Derived.Test.YtmggccepmicjhagGreatDoorRefGreatAll
import Derived.Test.YtmggccepmicjhagGreatDoorStrbAll
import Derived.Deep.Cut
namespace Go.Proofs.YtmggccepmicjhagGreatDoor
open Go.RowKit
set_option maxRecDepth 100000

theorem cut1 (l : List UInt8) : (bsX (49 :: l)).extract 1 (bsX (49 :: l)).size = bsX l := by
  apply ByteArray.ext
  rw [ByteArray.data_extract]
  show (List.toArray (49 :: l)).extract 1 (List.toArray (49 :: l)).size = List.toArray l
  simp
theorem bsX_size (l : List UInt8) : (bsX l).size = l.length := rfl

set_option maxHeartbeats 2000000 in
set_option maxRecDepth 100000 in
theorem big_text (w : World) (v : Value) (Y : List Nat) (h : IsU w v Y) (hL : Lm Y) (h1 : 0 < Y.length) (h9 : Y.length ≤ 100000) (ht : Tab w) :
    Calls Tryz.prog 72 #[v] w fun e w' => ∃ c, e = .returned (.string (bsX (tx c))) ∧ Gt c ∧ val c = lv Y ∧ Below w.heap.size w w' := by
  have hU := h
  obtain ⟨bl, of, cp, rfl⟩ := h.place h1
  have hlm : Hid (∀ i, Y.getD i 0 < 100000000) := fun i => hL.get i
  have hcell : Hid (∀ (W : World) i, Below w.heap.size w W → i < Y.length → W.cell? ⟨bl, of + i, none⟩ = some (.int .u64 ((Y.getD i 0 : Nat) : Int))) := fun W i hb hi => (hU.below hb).cell i hi
  have hbeyond : Hid (∀ j, Y.length ≤ j → Y.getD j 0 = 0) := fun j hj => by rw [List.getD, List.getElem?_eq_none hj]; rfl
  have hY : Hid (lv (Y.drop 0) = lv Y) := rfl
  obtain ⟨n, hn⟩ : ∃ n, n = Y.length := ⟨_, rfl⟩
  rw [← hn] at h1 h9 hcell hbeyond ⊢
  have hn' : Hid (n = Y.length) := hn
  have hT : Hid (Tab w) := ht
  clear hn h hU hL ht
  go_enter Tryz.func72, Tryz.ntmps72
  go_wp2
  go_loopw [3] (fun vt wr => ∃ (t : Nat), t < n ∧ vt = .int .i64 (t : Int) ∧ Hid (∀ j, t + 1 ≤ j → Y.getD j 0 = 0) ∧ wr = w)
    (fun vt _ => (intOf vt).toNat)
  case atStart => exact ⟨n - 1, by omega, by refine congrArg (Value.int IntKind.i64) ?_; omega, fun j hj => hbeyond.out j (by omega), rfl⟩
  case round =>
    obtain ⟨t, hlt, rfl, hz, hwr⟩ := hrel
    rw [hwr]
    clear hwr
    have hc := hcell.out w t (Below.refl _ _) hlt
    by_cases hgo : 0 < t ∧ Y.getD t 0 = 0
    · obtain ⟨h0, hy⟩ := hgo
      rw [hy] at hc
      have hz2 : Hid (∀ j, t - 1 + 1 ≤ j → Y.getD j 0 = 0) := fun j hj => by
        rcases Nat.eq_or_lt_of_le (show t ≤ j by omega) with q | q
        · rw [← q]; exact hy
        · exact hz.out j q
      have h0' : (0 : Int) < (t : Int) := by omega
      clear hy
      go_wp2
      go_roundw
      case rel => exact ⟨t - 1, by omega, by refine congrArg (Value.int IntKind.i64) ?_; omega, hz2, by trivial⟩
      case measure => simp only [intOf]; omega
    · have hne : Hid (0 < t → Y.getD t 0 ≠ 0) := fun q q2 => hgo ⟨q, q2⟩
      have hyl := hlm.out t
      have hst : Hid (∀ c, Gt c → val c = Y.getD t 0 → Tx Y t t c ∧ (0 < t → c.headD 0 ≠ 0)) := fun c hc hv => ⟨Tx.start (by rw [← hn'.out]; exact hlt) hz.out hc hv, Tx.first hne.out hc hv⟩
      have hdec : (¬ 0 < t) ∨ (0 < t ∧ (((Y.getD t 0 : Nat) : Int) == 0) = false) := by
        rcases Nat.eq_zero_or_pos t with q | q
        · left; omega
        · right
          refine ⟨q, ?_⟩
          rw [beq_eq_false_iff_ne]
          have := hne.out q
          omega
      clear hgo hz hne hbeyond
      obtain ⟨x, hx⟩ : ∃ x, x = Y.getD t 0 := ⟨_, rfl⟩
      rw [← hx] at hc hyl hst hdec
      clear hx
      have hbN := bld_new w
      have hW0 := below_alloc1 w (.cells #[.pointer none, .slice none 0 0] 33)
      have hc2 : (w.alloc (.cells #[.pointer none, .slice none 0 0] 33)).cell? ⟨bl, of + t, none⟩ = some (.int .u64 (x : Int)) := (hW0.cell (block_lt hc)).trans hc
      have cT := fmtu_top x hyl _ (hT.out.below hW0)
      obtain ⟨b, hb⟩ : ∃ b, b = w.heap.size := ⟨_, rfl⟩
      replace hbN : Bld w.heap.size b [] (w.alloc (.cells #[.pointer none, .slice none 0 0] 33)) := by rw [hb]; exact hbN
      have hb' : Hid (w.heap.size = b) := hb.symm
      clear hb
      rcases hdec with hcd | ⟨hcd, hcd2⟩
      · go_upto_region 5 with (fail)
        generalize w.alloc (.cells #[.pointer none, .slice none 0 0] 33) = w0 at *
        rw [hb'.out]
        clear hcd
        go_wp2_with (first
          | (go_at_call 86; refine Calls.mono cT ?_; rintro e w3 ⟨c, rfl, hcg, hcv, hb3⟩; clear cT; have hcl : c.length ≤ 8 := hcg.len (by omega) (by rw [hcv]; omega); have hbd3 := hbN.below hb3; have hnx3 := hW0.trans (hb3.mono hW0.size); have cS : Calls Tryz.prog 14 #[.pointer (some ⟨b, 0, none⟩), .string (bsX (tx c))] w3 (fun e w' => e = .returned (.tuple #[.int .i64 ((tx c).length : Int), .nilIface]) ∧ Bld w.heap.size b ([] ++ tx c) w' ∧ Below w.heap.size w3 w') := bld_str w.heap.size b [] (tx c) w3 hbd3 (by rw [tx_length]; simp; omega) hnx3.size; clear hbN hW0 hb3 hbd3)
          | (go_at_call 14; refine Calls.mono cS ?_; rintro e w4 ⟨rfl, hbd4, hb4⟩; clear cS))
        rw [List.nil_append] at hbd4
        have hnx4 := hnx3.trans hb4
        have hinv : Hid (Gt c ∧ (0 < t → c.headD 0 ≠ 0) ∧ val c = lv (Y.drop t)) := ⟨hcg, (hst.out c hcg hcv).2, (hst.out c hcg hcv).1.eq⟩
        clear hst hcg hcv hb4 hnx3 hyl hc2
        go_loopw [5] (fun vi wr => ∃ (j : Nat) (z : Int) (c : List Nat), vi = .int .i64 z ∧ z = (j : Int) - 1 ∧ j ≤ t ∧ Bld w.heap.size b (tx c) wr ∧ Hid (Gt c ∧ (0 < t → c.headD 0 ≠ 0) ∧ val c = lv (Y.drop j)) ∧ c.length ≤ 8 * (t + 1 - j) ∧ Below w.heap.size w wr)
          (fun vi _ => ((intOf vi) + 1).toNat)
        case atStart => exact ⟨t, (t : Int) - 1, c, rfl, rfl, Nat.le_refl _, hbd4, hinv, by omega, hnx4⟩
        case round =>
          clear hbd4 hinv hcl hnx4
          obtain ⟨j, z, c, rfl, hz, hj, hbd, hinv, hcl, hnx⟩ := hrel
          rcases Nat.eq_zero_or_pos j with q | q
          · have hzn : z < 0 := by omega
            have cX := bld_text w.heap.size b (tx c) wr hbd hnx.size
            subst q
            obtain ⟨f1, -, f3⟩ := hinv.out
            have hfin : Hid (Gt c ∧ val c = lv Y) := ⟨f1, f3⟩
            clear f1 f3 hinv hcell hlm hY hz hbd
            go_wp2_with (go_at_call 17; refine Calls.mono cX ?_; rintro e w5 ⟨rfl, hb5⟩)
            go_ret
            exact ⟨c, rfl, hfin.out.1, hfin.out.2, hnx.trans hb5⟩
          · obtain ⟨i, rfl⟩ : ∃ i, j = i + 1 := ⟨j - 1, by omega⟩
            obtain rfl : z = (i : Int) := by omega
            have hil : i < n := by omega
            have hci := hcell.out wr i hnx hil
            have hyi := hlm.out i
            have hdrop : Hid (lv (Y.drop i) = Y.getD i 0 + 100000000 * lv (Y.drop (i + 1))) := lv_drop (by rw [← hn'.out]; exact hil)
            have cP := fmtu_pad (Y.getD i 0) hyi wr (hT.out.below hnx)
            have hi9 : 8 * (t + 1 - (i + 1)) + 8 ≤ 1000000 := by omega
            have hadd : Hid (∀ d, Dg d → d.length = 8 → val d = Y.getD i 0 → (Gt (c ++ d) ∧ (0 < t → (c ++ d).headD 0 ≠ 0) ∧ val (c ++ d) = lv (Y.drop i)) ∧ (c ++ d).length ≤ 8 * (t + 1 - i)) := fun d hd hd8 hdv => by
              obtain ⟨g1, g2, g3⟩ := hinv.out
              obtain ⟨m1, m2⟩ := gt_more g1 (g2 (by omega)) hd
              refine ⟨⟨m1, fun _ => m2, ?_⟩, by rw [List.length_append]; omega⟩
              rw [val_append, hd8, hdrop.out, g3, hdv]
              have e8 : (10 : Nat) ^ 8 = 100000000 := by decide
              rw [e8, Nat.mul_comm, Nat.add_comm]
            clear hinv hdrop hz
            generalize Y.getD i 0 = y at *
            go_wp2_with (first
              | (go_at_call 86; refine Calls.mono cP ?_; rintro e w5 ⟨d, rfl, hd1, hd2, hd3, hb5⟩; clear cP; have hs9 : (bsX (49 :: tx d)).size = 9 := (by rw [bsX_size, List.length_cons, tx_length, hd2]); have hcut := cut1 (tx d); rw [hs9] at hcut; have hin := hadd.out d hd1 hd2 hd3; have hbd5 := hbd.below hb5; have hnx5 := hnx.trans (hb5.mono hnx.size); have cS : Calls Tryz.prog 14 #[.pointer (some ⟨b, 0, none⟩), .string (bsX (tx d))] w5 (fun e w' => e = .returned (.tuple #[.int .i64 ((tx d).length : Int), .nilIface]) ∧ Bld w.heap.size b (tx c ++ tx d) w' ∧ Below w.heap.size w5 w') := bld_str w.heap.size b (tx c) (tx d) w5 hbd5 (by rw [tx_length, tx_length, hd2]; omega) hnx5.size; have htx : Hid (tx c ++ tx d = tx (c ++ d)) := (by show _ = _; simp [tx]); have hin1 : Hid _ := hin.1; have hin2 := hin.2; clear hin hd1 hd2 hd3 hadd hbd hb5 hnx; generalize bsX (49 :: tx d) = s1 at *)
              | (go_at_call 14; refine Calls.mono cS ?_; rintro e w6 ⟨rfl, hbd6, hb6⟩; clear cS))
            rw [htx.out] at hbd6
            have hnx6 := hnx5.trans hb6
            go_roundw
            case rel => exact ⟨i, (i : Int) - 1, c ++ d, by go_num, rfl, by omega, hbd6, hin1, hin2, hnx6⟩
            case measure => simp only [intOf]; omega
      · go_upto_region 5 with (fail)
        generalize w.alloc (.cells #[.pointer none, .slice none 0 0] 33) = w0 at *
        rw [hb'.out]
        clear hcd2
        clear hcd
        go_wp2_with (first
          | (go_at_call 86; refine Calls.mono cT ?_; rintro e w3 ⟨c, rfl, hcg, hcv, hb3⟩; clear cT; have hcl : c.length ≤ 8 := hcg.len (by omega) (by rw [hcv]; omega); have hbd3 := hbN.below hb3; have hnx3 := hW0.trans (hb3.mono hW0.size); have cS : Calls Tryz.prog 14 #[.pointer (some ⟨b, 0, none⟩), .string (bsX (tx c))] w3 (fun e w' => e = .returned (.tuple #[.int .i64 ((tx c).length : Int), .nilIface]) ∧ Bld w.heap.size b ([] ++ tx c) w' ∧ Below w.heap.size w3 w') := bld_str w.heap.size b [] (tx c) w3 hbd3 (by rw [tx_length]; simp; omega) hnx3.size; clear hbN hW0 hb3 hbd3)
          | (go_at_call 14; refine Calls.mono cS ?_; rintro e w4 ⟨rfl, hbd4, hb4⟩; clear cS))
        rw [List.nil_append] at hbd4
        have hnx4 := hnx3.trans hb4
        have hinv : Hid (Gt c ∧ (0 < t → c.headD 0 ≠ 0) ∧ val c = lv (Y.drop t)) := ⟨hcg, (hst.out c hcg hcv).2, (hst.out c hcg hcv).1.eq⟩
        clear hst hcg hcv hb4 hnx3 hyl hc2
        go_loopw [5] (fun vi wr => ∃ (j : Nat) (z : Int) (c : List Nat), vi = .int .i64 z ∧ z = (j : Int) - 1 ∧ j ≤ t ∧ Bld w.heap.size b (tx c) wr ∧ Hid (Gt c ∧ (0 < t → c.headD 0 ≠ 0) ∧ val c = lv (Y.drop j)) ∧ c.length ≤ 8 * (t + 1 - j) ∧ Below w.heap.size w wr)
          (fun vi _ => ((intOf vi) + 1).toNat)
        case atStart => exact ⟨t, (t : Int) - 1, c, rfl, rfl, Nat.le_refl _, hbd4, hinv, by omega, hnx4⟩
        case round =>
          clear hbd4 hinv hcl hnx4
          obtain ⟨j, z, c, rfl, hz, hj, hbd, hinv, hcl, hnx⟩ := hrel
          rcases Nat.eq_zero_or_pos j with q | q
          · have hzn : z < 0 := by omega
            have cX := bld_text w.heap.size b (tx c) wr hbd hnx.size
            subst q
            obtain ⟨f1, -, f3⟩ := hinv.out
            have hfin : Hid (Gt c ∧ val c = lv Y) := ⟨f1, f3⟩
            clear f1 f3 hinv hcell hlm hY hz hbd
            go_wp2_with (go_at_call 17; refine Calls.mono cX ?_; rintro e w5 ⟨rfl, hb5⟩)
            go_ret
            exact ⟨c, rfl, hfin.out.1, hfin.out.2, hnx.trans hb5⟩
          · obtain ⟨i, rfl⟩ : ∃ i, j = i + 1 := ⟨j - 1, by omega⟩
            obtain rfl : z = (i : Int) := by omega
            have hil : i < n := by omega
            have hci := hcell.out wr i hnx hil
            have hyi := hlm.out i
            have hdrop : Hid (lv (Y.drop i) = Y.getD i 0 + 100000000 * lv (Y.drop (i + 1))) := lv_drop (by rw [← hn'.out]; exact hil)
            have cP := fmtu_pad (Y.getD i 0) hyi wr (hT.out.below hnx)
            have hi9 : 8 * (t + 1 - (i + 1)) + 8 ≤ 1000000 := by omega
            have hadd : Hid (∀ d, Dg d → d.length = 8 → val d = Y.getD i 0 → (Gt (c ++ d) ∧ (0 < t → (c ++ d).headD 0 ≠ 0) ∧ val (c ++ d) = lv (Y.drop i)) ∧ (c ++ d).length ≤ 8 * (t + 1 - i)) := fun d hd hd8 hdv => by
              obtain ⟨g1, g2, g3⟩ := hinv.out
              obtain ⟨m1, m2⟩ := gt_more g1 (g2 (by omega)) hd
              refine ⟨⟨m1, fun _ => m2, ?_⟩, by rw [List.length_append]; omega⟩
              rw [val_append, hd8, hdrop.out, g3, hdv]
              have e8 : (10 : Nat) ^ 8 = 100000000 := by decide
              rw [e8, Nat.mul_comm, Nat.add_comm]
            clear hinv hdrop hz
            generalize Y.getD i 0 = y at *
            go_wp2_with (first
              | (go_at_call 86; refine Calls.mono cP ?_; rintro e w5 ⟨d, rfl, hd1, hd2, hd3, hb5⟩; clear cP; have hs9 : (bsX (49 :: tx d)).size = 9 := (by rw [bsX_size, List.length_cons, tx_length, hd2]); have hcut := cut1 (tx d); rw [hs9] at hcut; have hin := hadd.out d hd1 hd2 hd3; have hbd5 := hbd.below hb5; have hnx5 := hnx.trans (hb5.mono hnx.size); have cS : Calls Tryz.prog 14 #[.pointer (some ⟨b, 0, none⟩), .string (bsX (tx d))] w5 (fun e w' => e = .returned (.tuple #[.int .i64 ((tx d).length : Int), .nilIface]) ∧ Bld w.heap.size b (tx c ++ tx d) w' ∧ Below w.heap.size w5 w') := bld_str w.heap.size b (tx c) (tx d) w5 hbd5 (by rw [tx_length, tx_length, hd2]; omega) hnx5.size; have htx : Hid (tx c ++ tx d = tx (c ++ d)) := (by show _ = _; simp [tx]); have hin1 : Hid _ := hin.1; have hin2 := hin.2; clear hin hd1 hd2 hd3 hadd hbd hb5 hnx; generalize bsX (49 :: tx d) = s1 at *)
              | (go_at_call 14; refine Calls.mono cS ?_; rintro e w6 ⟨rfl, hbd6, hb6⟩; clear cS))
            rw [htx.out] at hbd6
            have hnx6 := hnx5.trans hb6
            go_roundw
            case rel => exact ⟨i, (i : Int) - 1, c ++ d, by go_num, rfl, by omega, hbd6, hin1, hin2, hnx6⟩
            case measure => simp only [intOf]; omega

end Go.Proofs.YtmggccepmicjhagGreatDoor
