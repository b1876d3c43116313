/-
  What Data of package goldref answers: of right shares, the data that has them all.
-/
import Derived.Test.YtjbdpjbcibhflacShD
import Derived.Test.YtjbdpjbcibhflacRefThrough
import Derived.Test.YtjbdpjbcibhflacRefEval
import Derived.Test.YtjbdpjbcibhflacRefRest
import Derived.OrdersHeld
import Derived.Deep.AppendLies
namespace Go.Proofs.Ytjbdpjbcibhflac
open Go.RowKit

set_option maxRecDepth 100000 in
set_option maxHeartbeats 8000000 in
theorem ref_Data_ok (w : World) (k : Int) (v : Value) (L : List (Int × Nat)) (h : IsS w v L) (h0 : shE k L = 0) (hkn : ¬ (L.length : Int) < k) :
    Calls Try.prog 11 #[.int .i64 k, v] w fun e w' => ∃ u, e = .returned (.tuple #[u, .int .i64 (rcE k L)]) ∧ IsU w' u (rcL k L) ∧ Below w.heap.size w w' := by
  have hS := (shE_zero h0).2
  obtain ⟨kn, rfl⟩ : ∃ kn : Nat, k = (kn : Int) := ⟨k.toNat, by have := (shE_zero h0).1; omega⟩
  have hk64 : 1 ≤ kn ∧ kn ≤ 64 := by have := (shE_zero h0).1; omega
  obtain ⟨a, cap, rfl, hcap, hmax, hc0, hr0⟩ := h
  have hc : Hid (∀ i, i < L.length → ∃ b off, a = some ⟨b, off, none⟩ ∧ w.cell? ⟨b, off + i * 2, none⟩ = some (.int .i64 (atS L i)) ∧ w.cell? ⟨b, off + i * 2 + 1, none⟩ = some (.int .u64 ((syS L i : Nat) : Int))) := fun i hi => by
    obtain ⟨b, off, e, c, d⟩ := hc0 i hi
    exact ⟨b, off, e, c, by rw [Nat.add_assoc]; exact d⟩
  have hat : Hid (∀ i, i < L.length → ∃ t : Nat, atS L i = (t : Int) ∧ t ≤ 63) := fun i hi => by
    have := hS.1 i hi
    exact ⟨(atS L i).toNat, by omega, by omega⟩
  have hsr : Hid (∀ i, i < L.length → syS L i < 18446744073709551616) := fun i hi => (hr0 (L.getD i (0, 0)) (by rw [List.getD, List.getElem?_eq_getElem hi]; exact List.getElem_mem hi)).2
  have hS' : Hid (ShK L L.length) := hS
  have hln : L.length ≤ 9223372036854775807 := by unfold maxLen at hmax; omega
  have hkl : kn ≤ L.length := by omega
  have hSk : ShK L kn := ⟨fun p hp => hS.1 p (by omega), fun p q hq hp => hS.2 p q hq (by omega)⟩
  have hPt : Hid (Pts (xsS L kn) (ysS L kn)) := pts_S hSk (by omega)
  have hsr2 : Hid (∀ i, i < kn → syS L i < 18446744073709551616) := fun i hi => hsr.out i (by omega)
  have hok : Hid (∀ l, Goes l kn (cf (xsS L kn)) (cf (ysS L kn)) → Has l L L.length → rcE (kn : Int) L = 0 ∧ rcL (kn : Int) L = l ++ List.replicate (kn - l.length) 0) := fun l hG hH => by
    have hd : (mk kn (cf l)).length = (kn : Int).toNat := by rw [mk_length]; rfl
    obtain ⟨f1, f2, _⟩ := rcE_ok h0 hkn hd (fun i hi => by rw [ev_mk_cf hG.2.1]; exact hH i hi)
    refine ⟨f1, ?_⟩
    rw [f2, ← mk_pad hG.2.1 (fun x hx => by rw [← hG.1] at hx; exact pN_lt l x hx)]
    show mk kn _ = mk kn _
    exact mk_congr fun i hi => by rw [cf_mk, if_pos hi]
  have hbad : Hid (∀ l j, Goes l kn (cf (xsS L kn)) (cf (ysS L kn)) → j < L.length → ¬ evF (l.map toF) (plS L j) = toF (syS L j) → rcE (kn : Int) L = 5 ∧ rcL (kn : Int) L = []) := fun l j hG hj hne => by
    have hf : ¬ FitK (kn : Int).toNat L := fun q => hne (((FitK.ask hS hkl hG).mp q) j hj)
    obtain ⟨f1, f2, _⟩ := rcE_form h0 hkn hf
    exact ⟨f1, f2⟩
  clear hSk
  clear hcap hmax hc0 hr0 hS hkn h0
  generalize hn : L.length = n at *
  replace hn : Hid _ := hn
  generalize hEe : rcE (kn : Int) L = E at *
  generalize hRe : rcL (kn : Int) L = R at *
  clear hEe hRe
  go_enter Try.func11, Try.ntmps11
  go_wp2
  go_loopw [6, 7, 8] (fun vx vy vi wr => ∃ i : Nat, i ≤ kn ∧ vi = .int .i64 (i : Int) ∧ Two w wr vx vy (xsS L i) (ysS L i))
    (fun _ _ vi _ => kn - (intOf vi).toNat)
  case atStart => exact ⟨0, Nat.zero_le _, rfl, Ow.nil _ _, Ow.nil _ _, fun g e => by simp [Value.ownBlock] at e, Below.refl _ _⟩
  case round =>
    obtain ⟨i, hi, rfl, hT⟩ := hrel
    by_cases hlt : i < kn
    · have hin : i < n := by omega
      have hik : i < kn := by omega
      obtain ⟨b, off, rfl, c0, c1⟩ := hc.out i hin
      obtain ⟨t, ht, ht63⟩ := hat.out i hin
      have hsy := hsr.out i hin
      rw [ht] at c0
      have hxe : Hid (fW (rt 6) t = fW (rt 6) (atS L i).toNat) := by show _ = _; rw [ht]; rfl
      obtain ⟨y, hye0⟩ : ∃ y, y = syS L i := ⟨_, rfl⟩
      have hye : Hid (y = syS L i) := hye0
      rw [← hye0] at c1 hsy
      clear hye0 ht
      obtain ⟨x, hx0⟩ : ∃ x, x = fW (rt 6) t := ⟨_, rfl⟩
      have cR := ref_Root6
      have cP := fun (W : World) => ref_Pow (rt 6) t (by omega) W
      rw [← hx0] at cP hxe
      have hxl : (x : Int) < 18446744069414584321 := by rw [hx0]; exact fW_lt _ _
      clear hx0
      generalize rt 6 = r6 at cR cP
      have hwr : IntKind.u64.wrap (t : Int) = (t : Int) := by rw [IntKind.wrap_u64]; omega
      have hSof : Hid (∀ W, Below w.heap.size w W → (fun w' : World => w'.cell? ⟨b, off + i * 2, none⟩ = some (.int .i64 (t : Int)) ∧ w'.cell? ⟨b, off + i * 2 + 1, none⟩ = some (.int .u64 (y : Int))) W) := fun W hW => ⟨(hW.cell (block_lt c0)).trans c0, (hW.cell (block_lt c1)).trans c1⟩
      clear c0 c1
      go_wp2
      have hTd : Below wr.heap.size wr wr.drew := below_drewN (Below.refl _ _) 1
      have hT2 := hT.below hTd
      have hSd : (fun w' : World => w'.cell? ⟨b, off + i * 2, none⟩ = some (.int .i64 (t : Int)) ∧ w'.cell? ⟨b, off + i * 2 + 1, none⟩ = some (.int .u64 (y : Int))) wr.drew := hSof.out _ hT2.bl
      clear hT hTd
      have hT := hT2
      clear hT2
      refine wp_region_HD (S := (fun w' : World => w'.cell? ⟨b, off + i * 2, none⟩ = some (.int .i64 (t : Int)) ∧ w'.cell? ⟨b, off + i * 2 + 1, none⟩ = some (.int .u64 (y : Int)))) (by kernel_rfl) ?_
      generalize wr.drew = wd at *
      refine wpAnyH_take (i := 0) (v := ?va0) rfl (by kernel_rfl) (by kernel_rfl) (by kernel_rfl) (fun _ _ _ h => h) (Or.inl ⟨by rfl, ?hya0⟩) hSd ?resta0
      case hya0 =>
        intro w hSw
        (try dsimp only at hSw)
        go_simp
        all_goals with_reducible rfl
      simp only [Act.put, List.getElem_toArray, List.getElem_cons_zero, List.setIfInBounds_toArray, List.set_cons_zero, List.set_cons_succ]
      refine wpAnyH_take (i := 2) (v := ?va2) rfl (by kernel_rfl) (by kernel_rfl) (by kernel_rfl) (fun _ _ _ h => h) (Or.inl ⟨by rfl, ?hya2⟩) hSd ?resta2
      case hya2 =>
        intro w hSw
        (try dsimp only at hSw)
        go_simp
        all_goals with_reducible rfl
      simp only [Act.put, List.getElem_toArray, List.getElem_cons_succ, List.getElem_cons_zero, List.setIfInBounds_toArray, List.set_cons_zero, List.set_cons_succ]
      refine wpAnyH_take (i := 3) (v := ?va3) rfl (by kernel_rfl) (by kernel_rfl) (by kernel_rfl) (fun _ _ _ h => h) (Or.inl ⟨by rfl, ?hya3⟩) hSd ?resta3
      case hya3 =>
        intro w hSw
        (try dsimp only at hSw)
        go_simp
        all_goals with_reducible rfl
      simp only [Act.put, List.getElem_toArray, List.getElem_cons_succ, List.getElem_cons_zero, List.setIfInBounds_toArray, List.set_cons_zero, List.set_cons_succ]
      refine wpAnyH_take (i := 4) (v := ?va4) rfl (by kernel_rfl) (by kernel_rfl) (by kernel_rfl) (fun _ _ _ h => h) (Or.inl ⟨by rfl, ?hya4⟩) hSd ?resta4
      case hya4 =>
        intro w hSw
        (try dsimp only at hSw)
        go_simp
        all_goals with_reducible rfl
      simp only [Act.put, List.getElem_toArray, List.getElem_cons_succ, List.getElem_cons_zero, List.setIfInBounds_toArray, List.set_cons_zero, List.set_cons_succ]
      refine wpAnyH_take (i := 5) (v := ?va5) rfl (by kernel_rfl) (by kernel_rfl) (by kernel_rfl) (fun _ _ _ h => h) (Or.inl ⟨by rfl, ?hya5⟩) hSd ?resta5
      case hya5 =>
        intro w hSw
        (try dsimp only at hSw)
        go_simp
        all_goals with_reducible rfl
      simp only [Act.put, List.getElem_toArray, List.getElem_cons_succ, List.getElem_cons_zero, List.setIfInBounds_toArray, List.set_cons_zero, List.set_cons_succ]
      refine wpAnyH_take (i := 6) (v := ?va6) rfl (by kernel_rfl) (by kernel_rfl) (by kernel_rfl) (fun _ _ _ h => h) (Or.inl ⟨by rfl, ?hya6⟩) hSd ?resta6
      case hya6 =>
        intro w hSw
        (try dsimp only at hSw)
        go_simp
        all_goals with_reducible rfl
      simp only [Act.put, List.getElem_toArray, List.getElem_cons_succ, List.getElem_cons_zero, List.setIfInBounds_toArray, List.set_cons_zero, List.set_cons_succ]
      refine wpAnyH_take (i := 7) (v := ?va7) rfl (by kernel_rfl) (by kernel_rfl) (by kernel_rfl) (fun _ _ _ h => h) (Or.inl ⟨by rfl, ?hya7⟩) hSd ?resta7
      case hya7 =>
        intro w hSw
        (try dsimp only at hSw)
        go_simp
        all_goals with_reducible rfl
      simp only [Act.put, List.getElem_toArray, List.getElem_cons_succ, List.getElem_cons_zero, List.setIfInBounds_toArray, List.set_cons_zero, List.set_cons_succ]
      refine wpAnyH_take (i := 11) (v := ?va11) rfl (by kernel_rfl) (by kernel_rfl) (by kernel_rfl) (fun _ _ _ h => h) (Or.inl ⟨by rfl, ?hya11⟩) hSd ?resta11
      case hya11 =>
        intro w hSw
        (try dsimp only at hSw)
        go_simp
        all_goals with_reducible rfl
      simp only [Act.put, List.getElem_toArray, List.getElem_cons_succ, List.getElem_cons_zero, List.setIfInBounds_toArray, List.set_cons_zero, List.set_cons_succ]
      refine wpAnyH_take (i := 12) (v := ?va12) rfl (by kernel_rfl) (by kernel_rfl) (by kernel_rfl) (fun _ _ _ h => h) (Or.inl ⟨by rfl, ?hya12⟩) hSd ?resta12
      case hya12 =>
        intro w hSw
        (try dsimp only at hSw)
        go_simp
        all_goals with_reducible rfl
      simp only [Act.put, List.getElem_toArray, List.getElem_cons_succ, List.getElem_cons_zero, List.setIfInBounds_toArray, List.set_cons_zero, List.set_cons_succ]
      refine wpAnyH_take (i := 13) (v := ?va13) rfl (by kernel_rfl) (by kernel_rfl) (by kernel_rfl) (fun _ _ _ h => h) (Or.inl ⟨by rfl, ?hya13⟩) hSd ?resta13
      case hya13 =>
        intro w hSw
        (try dsimp only at hSw)
        go_simp
        all_goals with_reducible rfl
      simp only [Act.put, List.getElem_toArray, List.getElem_cons_succ, List.getElem_cons_zero, List.setIfInBounds_toArray, List.set_cons_zero, List.set_cons_succ]
      refine wpAnyH_take (i := 14) (v := ?va14) rfl (by kernel_rfl) (by kernel_rfl) (by kernel_rfl) (fun _ _ _ h => h) (Or.inl ⟨by rfl, ?hya14⟩) hSd ?resta14
      case hya14 =>
        intro w hSw
        (try dsimp only at hSw)
        go_simp
        all_goals with_reducible rfl
      simp only [Act.put, List.getElem_toArray, List.getElem_cons_succ, List.getElem_cons_zero, List.setIfInBounds_toArray, List.set_cons_zero, List.set_cons_succ]
      refine wpAnyH_take (i := 15) (v := ?va15) rfl (by kernel_rfl) (by kernel_rfl) (by kernel_rfl) (fun _ _ _ h => h) (Or.inl ⟨by rfl, ?hya15⟩) hSd ?resta15
      case hya15 =>
        intro w hSw
        (try dsimp only at hSw)
        go_simp
        all_goals with_reducible rfl
      simp only [Act.put, List.getElem_toArray, List.getElem_cons_succ, List.getElem_cons_zero, List.setIfInBounds_toArray, List.set_cons_zero, List.set_cons_succ]
      refine wpAnyH_take (i := 16) (v := ?va16) rfl (by kernel_rfl) (by kernel_rfl) (by kernel_rfl) (fun _ _ _ h => h) (Or.inl ⟨by rfl, ?hya16⟩) hSd ?resta16
      case hya16 =>
        intro w hSw
        (try dsimp only at hSw)
        go_simp
        all_goals with_reducible rfl
      simp only [Act.put, List.getElem_toArray, List.getElem_cons_succ, List.getElem_cons_zero, List.setIfInBounds_toArray, List.set_cons_zero, List.set_cons_succ]
      refine wpAnyH_two (i := 1) (j := 17) rfl rfl (by kernel_rfl) (fun K hK => ?_) (fun K hK => ?_)
      · simp only [List.getElem_toArray, List.getElem_cons_succ, List.getElem_cons_zero]
        go_simp
        refine Calls.mono (cR _) ?_
        rintro e w8 ⟨rfl, hw⟩
        rw [hw]
        refine hK.out _ _ hSd ?_
        clear hK K hw
        (try simp only [Act.put, List.getElem_toArray, List.getElem_cons_succ, List.getElem_cons_zero, List.setIfInBounds_toArray, List.set_cons_zero, List.set_cons_succ])
        refine wpAnyH_two (i := 8) (j := 17) rfl rfl (by kernel_rfl) (fun K hK => ?_) (fun K hK => ?_)
        · simp only [List.getElem_toArray, List.getElem_cons_succ, List.getElem_cons_zero]
          go_simp
          refine Calls.mono (cP _) ?_
          rintro e w8 ⟨rfl, hw⟩
          rw [hw]
          refine hK.out _ _ hSd ?_
          clear hK K hw
          (try simp only [Act.put, List.getElem_toArray, List.getElem_cons_succ, List.getElem_cons_zero, List.setIfInBounds_toArray, List.set_cons_zero, List.set_cons_succ])
          refine wpAnyH_two (i := 9) (j := 17) rfl rfl (by kernel_rfl) (fun K hK => ?_) (fun K hK => ?_)
          · simp only [List.getElem_toArray, List.getElem_cons_succ, List.getElem_cons_zero]
            go_simp
            have hBx : Below (wd).heap.size (wd) ((wd).alloc (.cells #[.int .u64 (x : Int)] 30)) := below_alloc1 _ _
            have hTwk1 := hT.below hBx
            have hLx : Lt ((wd).alloc (.cells #[.int .u64 (x : Int)] 30)) (wd).heap.size x := lt_new _ _
            have hNx := hT.fresh (wd).heap.size (Nat.le_refl _)
            obtain ⟨gx, hgx⟩ : ∃ g, g = (wd).heap.size := ⟨_, rfl⟩
            rw [← hgx] at hLx hNx ⊢
            clear hgx
            replace hSd := hSof.out _ hTwk1.bl
            refine hK.out _ _ hSd ?_
            clear hK K hT hBx
            generalize (wd).alloc (.cells #[.int .u64 (x : Int)] 30) = wk1 at *
            replace hT := hTwk1
            clear hTwk1
            (try simp only [Act.put, List.getElem_toArray, List.getElem_cons_succ, List.getElem_cons_zero, List.setIfInBounds_toArray, List.set_cons_zero, List.set_cons_succ])
            refine wpAnyH_two (i := 10) (j := 17) rfl rfl (by kernel_rfl) (fun K hK => ?_) (fun K hK => ?_)
            · refine step_appX rfl (.tmp 22) (.tmp 31) rfl hT hLx ?s1wk2x1 ?s2wk2x1 (by rw [xsS_length]; omega) ?s4wk2x1
              case s1wk2x1 => rfl
              case s2wk2x1 => rfl
              intro vx wk2 hT2 hgr
              have hSd2 := hSof.out _ hT2.bl
              refine hK.out _ _ hSd2 ?_
              clear hK K hSd hT hLx hNx hgr
              have hSd := hSd2
              clear hSd2
              have hT := hT2
              clear hT2
              (try simp only [Act.put, List.getElem_toArray, List.getElem_cons_succ, List.getElem_cons_zero, List.setIfInBounds_toArray, List.set_cons_zero, List.set_cons_succ])
              refine wpAnyH_oneD (i := 17) rfl (by kernel_rfl) (fun K hK => ?_)
              simp only [List.getElem_toArray, List.getElem_cons_succ, List.getElem_cons_zero]
              go_simp
              have hBy : Below (wk2).heap.size (wk2) ((wk2).alloc (.cells #[.int .u64 (y : Int)] 30)) := below_alloc1 _ _
              have hTwk3 := hT.below hBy
              have hLy : Lt ((wk2).alloc (.cells #[.int .u64 (y : Int)] 30)) (wk2).heap.size y := lt_new _ _
              have hNy := hT.fresh (wk2).heap.size (Nat.le_refl _)
              obtain ⟨gy, hgy⟩ : ∃ g, g = (wk2).heap.size := ⟨_, rfl⟩
              rw [← hgy] at hLy hNy ⊢
              clear hgy
              replace hSd := hSof.out _ hTwk3.bl
              refine hK.out _ _ hSd ?_
              clear hK K hT hBy
              generalize (wk2).alloc (.cells #[.int .u64 (y : Int)] 30) = wk3 at *
              replace hT := hTwk3
              clear hTwk3
              (try simp only [Act.put, List.getElem_toArray, List.getElem_cons_succ, List.getElem_cons_zero, List.setIfInBounds_toArray, List.set_cons_zero, List.set_cons_succ])
              refine wpAnyH_oneD (i := 18) rfl (by kernel_rfl) (fun K hK => ?_)
              refine step_appX rfl (.tmp 33) (.tmp 39) rfl hT.swap hLy ?s1wk4y2 ?s2wk4y2 (by rw [ysS_length]; omega) ?s4wk4y2
              case s1wk4y2 => rfl
              case s2wk4y2 => rfl
              intro vy wk4 hT2 hgr
              have hSd2 := hSof.out _ hT2.bl
              refine hK.out _ _ hSd2 ?_
              clear hK K hSd hT hLy hNy hgr
              have hSd := hSd2
              clear hSd2
              have hT := hT2.swap
              clear hT2
              (try simp only [Act.put, List.getElem_toArray, List.getElem_cons_succ, List.getElem_cons_zero, List.setIfInBounds_toArray, List.set_cons_zero, List.set_cons_succ])
              refine wpAnyH_oneD (i := 19) rfl (by kernel_rfl) (fun K hK => ?_)
              simp only [List.getElem_toArray, List.getElem_cons_succ, List.getElem_cons_zero]
              go_simp
              refine hK.out _ _ hSd ?_
              clear hK K
              (try simp only [Act.put, List.getElem_toArray, List.getElem_cons_succ, List.getElem_cons_zero, List.setIfInBounds_toArray, List.set_cons_zero, List.set_cons_succ])
              refine wpAnyH_oneD (i := 20) rfl (by kernel_rfl) (fun K hK => ?_)
              simp only [List.getElem_toArray, List.getElem_cons_succ, List.getElem_cons_zero]
              go_simp
              refine hK.out _ _ hSd ?_
              clear hK K
              (try simp only [Act.put, List.getElem_toArray, List.getElem_cons_succ, List.getElem_cons_zero, List.setIfInBounds_toArray, List.set_cons_zero, List.set_cons_succ])
              refine wpAnyH_done (by kernel_rfl) ?_ _
              go_wp2
              go_roundw
              case rel => exact ⟨i + 1, by omega, by go_num, by rw [xsS_succ, ysS_succ, ← hxe.out, ← hye.out]; exact hT⟩
              case measure => simp only [intOf]; omega
            · simp only [List.getElem_toArray, List.getElem_cons_succ, List.getElem_cons_zero]
              go_simp
              have hBy : Below (wk1).heap.size (wk1) ((wk1).alloc (.cells #[.int .u64 (y : Int)] 30)) := below_alloc1 _ _
              have hTwk2 := hT.below hBy
              have hLy : Lt ((wk1).alloc (.cells #[.int .u64 (y : Int)] 30)) (wk1).heap.size y := lt_new _ _
              have hNy := hT.fresh (wk1).heap.size (Nat.le_refl _)
              obtain ⟨gy, hgy⟩ : ∃ g, g = (wk1).heap.size := ⟨_, rfl⟩
              rw [← hgy] at hLy hNy ⊢
              have hLx2 := hLx.below hBy
              clear hLx
              have hLx := hLx2
              clear hLx2
              clear hgy
              replace hSd := hSof.out _ hTwk2.bl
              refine hK.out _ _ hSd ?_
              clear hK K hT hBy
              generalize (wk1).alloc (.cells #[.int .u64 (y : Int)] 30) = wk2 at *
              replace hT := hTwk2
              clear hTwk2
              (try simp only [Act.put, List.getElem_toArray, List.getElem_cons_succ, List.getElem_cons_zero, List.setIfInBounds_toArray, List.set_cons_zero, List.set_cons_succ])
              refine wpAnyH_oneD (i := 10) rfl (by kernel_rfl) (fun K hK => ?_)
              refine step_appX rfl (.tmp 22) (.tmp 31) rfl hT hLx ?s1wk3x3 ?s2wk3x3 (by rw [xsS_length]; omega) ?s4wk3x3
              case s1wk3x3 => rfl
              case s2wk3x3 => rfl
              intro vx wk3 hT2 hgr
              have hLy2 := hLy.grown hgr hNy.1
              clear hLy
              have hLy := hLy2
              clear hLy2
              have hSd2 := hSof.out _ hT2.bl
              refine hK.out _ _ hSd2 ?_
              clear hK K hSd hT hLx hNx hgr
              have hSd := hSd2
              clear hSd2
              have hT := hT2
              clear hT2
              (try simp only [Act.put, List.getElem_toArray, List.getElem_cons_succ, List.getElem_cons_zero, List.setIfInBounds_toArray, List.set_cons_zero, List.set_cons_succ])
              refine wpAnyH_oneD (i := 18) rfl (by kernel_rfl) (fun K hK => ?_)
              refine step_appX rfl (.tmp 33) (.tmp 39) rfl hT.swap hLy ?s1wk4y4 ?s2wk4y4 (by rw [ysS_length]; omega) ?s4wk4y4
              case s1wk4y4 => rfl
              case s2wk4y4 => rfl
              intro vy wk4 hT2 hgr
              have hSd2 := hSof.out _ hT2.bl
              refine hK.out _ _ hSd2 ?_
              clear hK K hSd hT hLy hNy hgr
              have hSd := hSd2
              clear hSd2
              have hT := hT2.swap
              clear hT2
              (try simp only [Act.put, List.getElem_toArray, List.getElem_cons_succ, List.getElem_cons_zero, List.setIfInBounds_toArray, List.set_cons_zero, List.set_cons_succ])
              refine wpAnyH_oneD (i := 19) rfl (by kernel_rfl) (fun K hK => ?_)
              simp only [List.getElem_toArray, List.getElem_cons_succ, List.getElem_cons_zero]
              go_simp
              refine hK.out _ _ hSd ?_
              clear hK K
              (try simp only [Act.put, List.getElem_toArray, List.getElem_cons_succ, List.getElem_cons_zero, List.setIfInBounds_toArray, List.set_cons_zero, List.set_cons_succ])
              refine wpAnyH_oneD (i := 20) rfl (by kernel_rfl) (fun K hK => ?_)
              simp only [List.getElem_toArray, List.getElem_cons_succ, List.getElem_cons_zero]
              go_simp
              refine hK.out _ _ hSd ?_
              clear hK K
              (try simp only [Act.put, List.getElem_toArray, List.getElem_cons_succ, List.getElem_cons_zero, List.setIfInBounds_toArray, List.set_cons_zero, List.set_cons_succ])
              refine wpAnyH_done (by kernel_rfl) ?_ _
              go_wp2
              go_roundw
              case rel => exact ⟨i + 1, by omega, by go_num, by rw [xsS_succ, ysS_succ, ← hxe.out, ← hye.out]; exact hT⟩
              case measure => simp only [intOf]; omega
          · simp only [List.getElem_toArray, List.getElem_cons_succ, List.getElem_cons_zero]
            go_simp
            have hBy : Below (wd).heap.size (wd) ((wd).alloc (.cells #[.int .u64 (y : Int)] 30)) := below_alloc1 _ _
            have hTwk1 := hT.below hBy
            have hLy : Lt ((wd).alloc (.cells #[.int .u64 (y : Int)] 30)) (wd).heap.size y := lt_new _ _
            have hNy := hT.fresh (wd).heap.size (Nat.le_refl _)
            obtain ⟨gy, hgy⟩ : ∃ g, g = (wd).heap.size := ⟨_, rfl⟩
            rw [← hgy] at hLy hNy ⊢
            clear hgy
            replace hSd := hSof.out _ hTwk1.bl
            refine hK.out _ _ hSd ?_
            clear hK K hT hBy
            generalize (wd).alloc (.cells #[.int .u64 (y : Int)] 30) = wk1 at *
            replace hT := hTwk1
            clear hTwk1
            (try simp only [Act.put, List.getElem_toArray, List.getElem_cons_succ, List.getElem_cons_zero, List.setIfInBounds_toArray, List.set_cons_zero, List.set_cons_succ])
            refine wpAnyH_oneD (i := 9) rfl (by kernel_rfl) (fun K hK => ?_)
            simp only [List.getElem_toArray, List.getElem_cons_succ, List.getElem_cons_zero]
            go_simp
            have hBx : Below (wk1).heap.size (wk1) ((wk1).alloc (.cells #[.int .u64 (x : Int)] 30)) := below_alloc1 _ _
            have hTwk2 := hT.below hBx
            have hLx : Lt ((wk1).alloc (.cells #[.int .u64 (x : Int)] 30)) (wk1).heap.size x := lt_new _ _
            have hNx := hT.fresh (wk1).heap.size (Nat.le_refl _)
            obtain ⟨gx, hgx⟩ : ∃ g, g = (wk1).heap.size := ⟨_, rfl⟩
            rw [← hgx] at hLx hNx ⊢
            have hLy2 := hLy.below hBx
            clear hLy
            have hLy := hLy2
            clear hLy2
            clear hgx
            replace hSd := hSof.out _ hTwk2.bl
            refine hK.out _ _ hSd ?_
            clear hK K hT hBx
            generalize (wk1).alloc (.cells #[.int .u64 (x : Int)] 30) = wk2 at *
            replace hT := hTwk2
            clear hTwk2
            (try simp only [Act.put, List.getElem_toArray, List.getElem_cons_succ, List.getElem_cons_zero, List.setIfInBounds_toArray, List.set_cons_zero, List.set_cons_succ])
            refine wpAnyH_oneD (i := 10) rfl (by kernel_rfl) (fun K hK => ?_)
            refine step_appX rfl (.tmp 22) (.tmp 31) rfl hT hLx ?s1wk3x5 ?s2wk3x5 (by rw [xsS_length]; omega) ?s4wk3x5
            case s1wk3x5 => rfl
            case s2wk3x5 => rfl
            intro vx wk3 hT2 hgr
            have hLy2 := hLy.grown hgr hNy.1
            clear hLy
            have hLy := hLy2
            clear hLy2
            have hSd2 := hSof.out _ hT2.bl
            refine hK.out _ _ hSd2 ?_
            clear hK K hSd hT hLx hNx hgr
            have hSd := hSd2
            clear hSd2
            have hT := hT2
            clear hT2
            (try simp only [Act.put, List.getElem_toArray, List.getElem_cons_succ, List.getElem_cons_zero, List.setIfInBounds_toArray, List.set_cons_zero, List.set_cons_succ])
            refine wpAnyH_oneD (i := 18) rfl (by kernel_rfl) (fun K hK => ?_)
            refine step_appX rfl (.tmp 33) (.tmp 39) rfl hT.swap hLy ?s1wk4y6 ?s2wk4y6 (by rw [ysS_length]; omega) ?s4wk4y6
            case s1wk4y6 => rfl
            case s2wk4y6 => rfl
            intro vy wk4 hT2 hgr
            have hSd2 := hSof.out _ hT2.bl
            refine hK.out _ _ hSd2 ?_
            clear hK K hSd hT hLy hNy hgr
            have hSd := hSd2
            clear hSd2
            have hT := hT2.swap
            clear hT2
            (try simp only [Act.put, List.getElem_toArray, List.getElem_cons_succ, List.getElem_cons_zero, List.setIfInBounds_toArray, List.set_cons_zero, List.set_cons_succ])
            refine wpAnyH_oneD (i := 19) rfl (by kernel_rfl) (fun K hK => ?_)
            simp only [List.getElem_toArray, List.getElem_cons_succ, List.getElem_cons_zero]
            go_simp
            refine hK.out _ _ hSd ?_
            clear hK K
            (try simp only [Act.put, List.getElem_toArray, List.getElem_cons_succ, List.getElem_cons_zero, List.setIfInBounds_toArray, List.set_cons_zero, List.set_cons_succ])
            refine wpAnyH_oneD (i := 20) rfl (by kernel_rfl) (fun K hK => ?_)
            simp only [List.getElem_toArray, List.getElem_cons_succ, List.getElem_cons_zero]
            go_simp
            refine hK.out _ _ hSd ?_
            clear hK K
            (try simp only [Act.put, List.getElem_toArray, List.getElem_cons_succ, List.getElem_cons_zero, List.setIfInBounds_toArray, List.set_cons_zero, List.set_cons_succ])
            refine wpAnyH_done (by kernel_rfl) ?_ _
            go_wp2
            go_roundw
            case rel => exact ⟨i + 1, by omega, by go_num, by rw [xsS_succ, ysS_succ, ← hxe.out, ← hye.out]; exact hT⟩
            case measure => simp only [intOf]; omega
        · simp only [List.getElem_toArray, List.getElem_cons_succ, List.getElem_cons_zero]
          go_simp
          have hBy : Below (wd).heap.size (wd) ((wd).alloc (.cells #[.int .u64 (y : Int)] 30)) := below_alloc1 _ _
          have hTwk1 := hT.below hBy
          have hLy : Lt ((wd).alloc (.cells #[.int .u64 (y : Int)] 30)) (wd).heap.size y := lt_new _ _
          have hNy := hT.fresh (wd).heap.size (Nat.le_refl _)
          obtain ⟨gy, hgy⟩ : ∃ g, g = (wd).heap.size := ⟨_, rfl⟩
          rw [← hgy] at hLy hNy ⊢
          clear hgy
          replace hSd := hSof.out _ hTwk1.bl
          refine hK.out _ _ hSd ?_
          clear hK K hT hBy
          generalize (wd).alloc (.cells #[.int .u64 (y : Int)] 30) = wk1 at *
          replace hT := hTwk1
          clear hTwk1
          (try simp only [Act.put, List.getElem_toArray, List.getElem_cons_succ, List.getElem_cons_zero, List.setIfInBounds_toArray, List.set_cons_zero, List.set_cons_succ])
          refine wpAnyH_oneD (i := 8) rfl (by kernel_rfl) (fun K hK => ?_)
          simp only [List.getElem_toArray, List.getElem_cons_succ, List.getElem_cons_zero]
          go_simp
          refine Calls.mono (cP _) ?_
          rintro e w8 ⟨rfl, hw⟩
          rw [hw]
          refine hK.out _ _ hSd ?_
          clear hK K hw
          (try simp only [Act.put, List.getElem_toArray, List.getElem_cons_succ, List.getElem_cons_zero, List.setIfInBounds_toArray, List.set_cons_zero, List.set_cons_succ])
          refine wpAnyH_oneD (i := 9) rfl (by kernel_rfl) (fun K hK => ?_)
          simp only [List.getElem_toArray, List.getElem_cons_succ, List.getElem_cons_zero]
          go_simp
          have hBx : Below (wk1).heap.size (wk1) ((wk1).alloc (.cells #[.int .u64 (x : Int)] 30)) := below_alloc1 _ _
          have hTwk2 := hT.below hBx
          have hLx : Lt ((wk1).alloc (.cells #[.int .u64 (x : Int)] 30)) (wk1).heap.size x := lt_new _ _
          have hNx := hT.fresh (wk1).heap.size (Nat.le_refl _)
          obtain ⟨gx, hgx⟩ : ∃ g, g = (wk1).heap.size := ⟨_, rfl⟩
          rw [← hgx] at hLx hNx ⊢
          have hLy2 := hLy.below hBx
          clear hLy
          have hLy := hLy2
          clear hLy2
          clear hgx
          replace hSd := hSof.out _ hTwk2.bl
          refine hK.out _ _ hSd ?_
          clear hK K hT hBx
          generalize (wk1).alloc (.cells #[.int .u64 (x : Int)] 30) = wk2 at *
          replace hT := hTwk2
          clear hTwk2
          (try simp only [Act.put, List.getElem_toArray, List.getElem_cons_succ, List.getElem_cons_zero, List.setIfInBounds_toArray, List.set_cons_zero, List.set_cons_succ])
          refine wpAnyH_oneD (i := 10) rfl (by kernel_rfl) (fun K hK => ?_)
          refine step_appX rfl (.tmp 22) (.tmp 31) rfl hT hLx ?s1wk3x7 ?s2wk3x7 (by rw [xsS_length]; omega) ?s4wk3x7
          case s1wk3x7 => rfl
          case s2wk3x7 => rfl
          intro vx wk3 hT2 hgr
          have hLy2 := hLy.grown hgr hNy.1
          clear hLy
          have hLy := hLy2
          clear hLy2
          have hSd2 := hSof.out _ hT2.bl
          refine hK.out _ _ hSd2 ?_
          clear hK K hSd hT hLx hNx hgr
          have hSd := hSd2
          clear hSd2
          have hT := hT2
          clear hT2
          (try simp only [Act.put, List.getElem_toArray, List.getElem_cons_succ, List.getElem_cons_zero, List.setIfInBounds_toArray, List.set_cons_zero, List.set_cons_succ])
          refine wpAnyH_oneD (i := 18) rfl (by kernel_rfl) (fun K hK => ?_)
          refine step_appX rfl (.tmp 33) (.tmp 39) rfl hT.swap hLy ?s1wk4y8 ?s2wk4y8 (by rw [ysS_length]; omega) ?s4wk4y8
          case s1wk4y8 => rfl
          case s2wk4y8 => rfl
          intro vy wk4 hT2 hgr
          have hSd2 := hSof.out _ hT2.bl
          refine hK.out _ _ hSd2 ?_
          clear hK K hSd hT hLy hNy hgr
          have hSd := hSd2
          clear hSd2
          have hT := hT2.swap
          clear hT2
          (try simp only [Act.put, List.getElem_toArray, List.getElem_cons_succ, List.getElem_cons_zero, List.setIfInBounds_toArray, List.set_cons_zero, List.set_cons_succ])
          refine wpAnyH_oneD (i := 19) rfl (by kernel_rfl) (fun K hK => ?_)
          simp only [List.getElem_toArray, List.getElem_cons_succ, List.getElem_cons_zero]
          go_simp
          refine hK.out _ _ hSd ?_
          clear hK K
          (try simp only [Act.put, List.getElem_toArray, List.getElem_cons_succ, List.getElem_cons_zero, List.setIfInBounds_toArray, List.set_cons_zero, List.set_cons_succ])
          refine wpAnyH_oneD (i := 20) rfl (by kernel_rfl) (fun K hK => ?_)
          simp only [List.getElem_toArray, List.getElem_cons_succ, List.getElem_cons_zero]
          go_simp
          refine hK.out _ _ hSd ?_
          clear hK K
          (try simp only [Act.put, List.getElem_toArray, List.getElem_cons_succ, List.getElem_cons_zero, List.setIfInBounds_toArray, List.set_cons_zero, List.set_cons_succ])
          refine wpAnyH_done (by kernel_rfl) ?_ _
          go_wp2
          go_roundw
          case rel => exact ⟨i + 1, by omega, by go_num, by rw [xsS_succ, ysS_succ, ← hxe.out, ← hye.out]; exact hT⟩
          case measure => simp only [intOf]; omega
      · simp only [List.getElem_toArray, List.getElem_cons_succ, List.getElem_cons_zero]
        go_simp
        have hBy : Below (wd).heap.size (wd) ((wd).alloc (.cells #[.int .u64 (y : Int)] 30)) := below_alloc1 _ _
        have hTwk1 := hT.below hBy
        have hLy : Lt ((wd).alloc (.cells #[.int .u64 (y : Int)] 30)) (wd).heap.size y := lt_new _ _
        have hNy := hT.fresh (wd).heap.size (Nat.le_refl _)
        obtain ⟨gy, hgy⟩ : ∃ g, g = (wd).heap.size := ⟨_, rfl⟩
        rw [← hgy] at hLy hNy ⊢
        clear hgy
        replace hSd := hSof.out _ hTwk1.bl
        refine hK.out _ _ hSd ?_
        clear hK K hT hBy
        generalize (wd).alloc (.cells #[.int .u64 (y : Int)] 30) = wk1 at *
        replace hT := hTwk1
        clear hTwk1
        (try simp only [Act.put, List.getElem_toArray, List.getElem_cons_succ, List.getElem_cons_zero, List.setIfInBounds_toArray, List.set_cons_zero, List.set_cons_succ])
        refine wpAnyH_oneD (i := 1) rfl (by kernel_rfl) (fun K hK => ?_)
        simp only [List.getElem_toArray, List.getElem_cons_succ, List.getElem_cons_zero]
        go_simp
        refine Calls.mono (cR _) ?_
        rintro e w8 ⟨rfl, hw⟩
        rw [hw]
        refine hK.out _ _ hSd ?_
        clear hK K hw
        (try simp only [Act.put, List.getElem_toArray, List.getElem_cons_succ, List.getElem_cons_zero, List.setIfInBounds_toArray, List.set_cons_zero, List.set_cons_succ])
        refine wpAnyH_oneD (i := 8) rfl (by kernel_rfl) (fun K hK => ?_)
        simp only [List.getElem_toArray, List.getElem_cons_succ, List.getElem_cons_zero]
        go_simp
        refine Calls.mono (cP _) ?_
        rintro e w8 ⟨rfl, hw⟩
        rw [hw]
        refine hK.out _ _ hSd ?_
        clear hK K hw
        (try simp only [Act.put, List.getElem_toArray, List.getElem_cons_succ, List.getElem_cons_zero, List.setIfInBounds_toArray, List.set_cons_zero, List.set_cons_succ])
        refine wpAnyH_oneD (i := 9) rfl (by kernel_rfl) (fun K hK => ?_)
        simp only [List.getElem_toArray, List.getElem_cons_succ, List.getElem_cons_zero]
        go_simp
        have hBx : Below (wk1).heap.size (wk1) ((wk1).alloc (.cells #[.int .u64 (x : Int)] 30)) := below_alloc1 _ _
        have hTwk2 := hT.below hBx
        have hLx : Lt ((wk1).alloc (.cells #[.int .u64 (x : Int)] 30)) (wk1).heap.size x := lt_new _ _
        have hNx := hT.fresh (wk1).heap.size (Nat.le_refl _)
        obtain ⟨gx, hgx⟩ : ∃ g, g = (wk1).heap.size := ⟨_, rfl⟩
        rw [← hgx] at hLx hNx ⊢
        have hLy2 := hLy.below hBx
        clear hLy
        have hLy := hLy2
        clear hLy2
        clear hgx
        replace hSd := hSof.out _ hTwk2.bl
        refine hK.out _ _ hSd ?_
        clear hK K hT hBx
        generalize (wk1).alloc (.cells #[.int .u64 (x : Int)] 30) = wk2 at *
        replace hT := hTwk2
        clear hTwk2
        (try simp only [Act.put, List.getElem_toArray, List.getElem_cons_succ, List.getElem_cons_zero, List.setIfInBounds_toArray, List.set_cons_zero, List.set_cons_succ])
        refine wpAnyH_oneD (i := 10) rfl (by kernel_rfl) (fun K hK => ?_)
        refine step_appX rfl (.tmp 22) (.tmp 31) rfl hT hLx ?s1wk3x9 ?s2wk3x9 (by rw [xsS_length]; omega) ?s4wk3x9
        case s1wk3x9 => rfl
        case s2wk3x9 => rfl
        intro vx wk3 hT2 hgr
        have hLy2 := hLy.grown hgr hNy.1
        clear hLy
        have hLy := hLy2
        clear hLy2
        have hSd2 := hSof.out _ hT2.bl
        refine hK.out _ _ hSd2 ?_
        clear hK K hSd hT hLx hNx hgr
        have hSd := hSd2
        clear hSd2
        have hT := hT2
        clear hT2
        (try simp only [Act.put, List.getElem_toArray, List.getElem_cons_succ, List.getElem_cons_zero, List.setIfInBounds_toArray, List.set_cons_zero, List.set_cons_succ])
        refine wpAnyH_oneD (i := 18) rfl (by kernel_rfl) (fun K hK => ?_)
        refine step_appX rfl (.tmp 33) (.tmp 39) rfl hT.swap hLy ?s1wk4y10 ?s2wk4y10 (by rw [ysS_length]; omega) ?s4wk4y10
        case s1wk4y10 => rfl
        case s2wk4y10 => rfl
        intro vy wk4 hT2 hgr
        have hSd2 := hSof.out _ hT2.bl
        refine hK.out _ _ hSd2 ?_
        clear hK K hSd hT hLy hNy hgr
        have hSd := hSd2
        clear hSd2
        have hT := hT2.swap
        clear hT2
        (try simp only [Act.put, List.getElem_toArray, List.getElem_cons_succ, List.getElem_cons_zero, List.setIfInBounds_toArray, List.set_cons_zero, List.set_cons_succ])
        refine wpAnyH_oneD (i := 19) rfl (by kernel_rfl) (fun K hK => ?_)
        simp only [List.getElem_toArray, List.getElem_cons_succ, List.getElem_cons_zero]
        go_simp
        refine hK.out _ _ hSd ?_
        clear hK K
        (try simp only [Act.put, List.getElem_toArray, List.getElem_cons_succ, List.getElem_cons_zero, List.setIfInBounds_toArray, List.set_cons_zero, List.set_cons_succ])
        refine wpAnyH_oneD (i := 20) rfl (by kernel_rfl) (fun K hK => ?_)
        simp only [List.getElem_toArray, List.getElem_cons_succ, List.getElem_cons_zero]
        go_simp
        refine hK.out _ _ hSd ?_
        clear hK K
        (try simp only [Act.put, List.getElem_toArray, List.getElem_cons_succ, List.getElem_cons_zero, List.setIfInBounds_toArray, List.set_cons_zero, List.set_cons_succ])
        refine wpAnyH_done (by kernel_rfl) ?_ _
        go_wp2
        go_roundw
        case rel => exact ⟨i + 1, by omega, by go_num, by rw [xsS_succ, ysS_succ, ← hxe.out, ← hye.out]; exact hT⟩
        case measure => simp only [intOf]; omega
    · have e : kn = i := by omega
      subst e
      have hnl : ¬ kn < kn := Nat.lt_irrefl _
      by_cases hq : kn < n
      · have hU1 := hT.ox.isU (xsS_rng L kn)
        have hU2 := hT.oy.isU (ysS_rng L kn hsr2.out)
        have cT := ref_ThroughF wr _ _ (xsS L kn) (ysS L kn) hU1 hU2 hPt.out
        rw [xsS_length] at cT
        have hBw := hT.bl
        clear hT hU1 hU2
        go_wp2_with (go_at_call 20; refine Calls.mono cT ?_; rintro e w2 ⟨u, l, rfl, hU, hG, hO, hb2⟩; clear cT; have hB2 := hBw.trans (hb2.mono hBw.size); have hO2 := hO.mono hBw.size; clear hO hb2 hBw; replace hG : Hid _ := hG)
        go_loopw [10] (fun vi wr => ∃ j : Nat, j ≤ n ∧ vi = .int .i64 (j : Int) ∧ Hid (Has l L j) ∧ IsU wr u l ∧ Ow w.heap.size wr u l ∧ Below w.heap.size w wr)
          (fun vi _ => n - (intOf vi).toNat)
        case atStart => exact ⟨0, Nat.zero_le _, rfl, fun i hi => absurd hi (by omega), hU, hO2, hB2⟩
        case round =>
          clear hU hO2 hB2
          obtain ⟨j, hj, rfl, hH, hU, hO2, hB2⟩ := hrel
          by_cases hlt : j < n
          · obtain ⟨b, off, rfl, c0, c1⟩ := hc.out j hlt
            obtain ⟨t, ht, ht63⟩ := hat.out j hlt
            have hsy := hsr.out j hlt
            have hpl : Hid (plS L j = toF (fW (rt 6) t)) := by show _ = _; unfold plS; rw [ht, toF_fW]; rfl
            rw [ht] at c0
            obtain ⟨y, hye0⟩ : ∃ y, y = syS L j := ⟨_, rfl⟩
            have hye : Hid (y = syS L j) := hye0
            rw [← hye0] at c1 hsy
            clear hye0 ht
            have d0 := (hB2.cell (block_lt c0)).trans c0
            have d1 := (hB2.cell (block_lt c1)).trans c1
            clear c0 c1
            have hpe : Hid (pE l (fW (rt 6) t) = (evF (l.map toF) (plS L j)).val) := by show _ = _; rw [hpl.out]; rfl
            have hno : Hid (fN y = (toF (syS L j)).val) := by show _ = _; rw [hye.out, fN_val]
            obtain ⟨x, hx0⟩ : ∃ x, x = fW (rt 6) t := ⟨_, rfl⟩
            have cR := ref_Root6
            have cP := fun (W : World) => ref_Pow (rt 6) t (by omega) W
            rw [← hx0] at cP hpe
            have hxl : (x : Int) < 18446744069414584321 := by rw [hx0]; exact fW_lt _ _
            clear hx0 hpl hye
            generalize rt 6 = r6 at cR cP
            have hwr : IntKind.u64.wrap (t : Int) = (t : Int) := by rw [IntKind.wrap_u64]; omega
            have cE := fun (n : Nat) => ref_Eval (wr.drewN n) u l x (hU.below (below_drewN (Below.refl _ _) n))
            have cN := ref_Norm y
            by_cases hf : evF (l.map toF) (plS L j) = toF (syS L j)
            · have hH2 : Hid (Has l L (j + 1)) := fun i hi => by
                rcases Nat.lt_or_ge i j with q | q
                · exact hH.out i q
                · obtain rfl : i = j := by omega
                  exact hf
              have he : pE l x = fN y := by rw [hpe.out, hno.out, hf]
              rw [he] at cE
              clear hf hpe hno he hH
              generalize fN y = z at *
              have hzz : ((z : Int) != (z : Int)) = false := by simp
              have hUg := hU
              obtain ⟨au, cu, rfl, -⟩ := hUg
              go_wp2
              go_quiet (first | (go_at_call 17; exact Calls.quiet_of_same (cR _)) | (go_at_call 16; exact Calls.quiet_of_same (cP _)) | (go_at_call 15; exact Calls.quiet_of_same (cE _)) | (go_at_call 21; exact Calls.quiet_of_same (cN _)))
              have hbq := below_drewN (Below.refl wr.heap.size wr) nq
              have hU3 := hU.below hbq
              have hO3 := hO2.below hbq
              have hB3 := hB2.trans (hbq.mono hB2.size)
              clear hU hO2 hB2 hbq cR cP cE cN d0 d1
              generalize wr.drewN nq = w7 at *
              go_wp2
              go_roundw
              case rel => exact ⟨j + 1, by omega, by go_num, hH2, hU3, hO3, hB3⟩
              case measure => simp only [intOf]; omega
            · obtain ⟨f1, f2⟩ := hbad.out l j hG.out hlt hf
              have he : ¬ pE l x = fN y := fun q => hf (by rw [hpe.out, hno.out] at q; exact Fin.ext q)
              have he2 : (((pE l x : Nat) : Int) != ((fN y : Nat) : Int)) = true := by simp; omega
              clear hok hbad
              subst f1
              subst f2
              clear hf hpe hno he hH hG
              generalize fN y = z at *
              generalize pE l x = z2 at *
              have hUg := hU
              obtain ⟨au, cu, rfl, -⟩ := hUg
              go_wp2
              go_quiet (first | (go_at_call 17; exact Calls.quiet_of_same (cR _)) | (go_at_call 16; exact Calls.quiet_of_same (cP _)) | (go_at_call 15; exact Calls.quiet_of_same (cE _)) | (go_at_call 21; exact Calls.quiet_of_same (cN _)))
              have hbq := below_drewN (Below.refl wr.heap.size wr) nq
              have hB3 := hB2.trans (hbq.mono hB2.size)
              clear hU hO2 hB2 hbq cR cP cE cN d0 d1
              generalize wr.drewN nq = w7 at *
              go_wp2
              go_ret2
              exact ⟨_, rfl, IsU.nil _, hB3⟩
          · have e : n = j := by omega
            subst e
            have hnl : ¬ n < n := Nat.lt_irrefl _
            have hnk : ¬ n < kn := by omega
            obtain ⟨f1, f2⟩ := hok.out l hG.out hH.out
            clear hok hbad
            subst f1
            subst f2
            have hlk : l.length ≤ kn := hG.out.2.1
            have hlP : Hid (∀ x ∈ l, x < P) := fun x hx => by rw [← hG.out.1] at hx; exact pN_lt l x hx
            clear hG hH hU hc hat hsr hS'
            have hUg : ∃ au cu, u = .slice au l.length cu := by
              rcases hO2.2 with ⟨rfl, h2⟩ | ⟨g, cap, cur, rfl, r⟩
              · exact ⟨none, 0, by rw [h2]⟩
              · exact ⟨_, _, rfl⟩
            obtain ⟨au, cu, rfl⟩ := hUg
            go_wp2
            go_loopw [9] (fun vp wr => ∃ (j : Nat) (ap : Option Addr) (cp : Nat), j ≤ kn ∧ l.length ≤ j ∧ vp = .slice ap j cp ∧ wr.ownsRow w.heap.size 30 1 vp j (cellsU (l ++ List.replicate (j - l.length) 0)) ∧ Below w.heap.size w wr)
              (fun vp _ => kn - (lenOf vp))
            case atStart => exact ⟨l.length, au, cu, hlk, Nat.le_refl _, rfl, by rw [Nat.sub_self, List.replicate_zero, List.append_nil]; exact hO2, hB2⟩
            case round =>
              clear hO2 hB2
              obtain ⟨j, ap, cp, hj, hlj, rfl, hown, hnx⟩ := hrel
              by_cases hlt3 : j < kn
              · have hrow : Hid (cellsU (l ++ List.replicate (j - l.length) 0) ++ [.int .u64 ((0 : Nat) : Int)] = cellsU (l ++ List.replicate (j + 1 - l.length) 0)) := by
                  show _ = _
                  rw [show j + 1 - l.length = (j - l.length) + 1 by omega, List.replicate_succ', ← List.append_assoc, cellsU_append (l ++ _)]
                  rfl
                have hj9 : j ≤ 1000000000 := by omega
                go_wp2_with (at_builtin; refine wp_append1 rfl _ _ rfl _ _ _ 0 rfl hown rfl ?c3 hnx ?_; rotate_right; intro v' w3 hown3 hnx3)
                case c3 => exact hj9
                rw [hrow.out] at hown3
                obtain ⟨a3, c3, rfl⟩ : ∃ a3 c3, v' = .slice a3 (j + 1) c3 := by
                  rcases hown3.2 with ⟨_, h2⟩ | ⟨g, cap, cur, hv, _⟩
                  · omega
                  · exact ⟨_, _, hv⟩
                go_roundw
                case rel => exact ⟨j + 1, a3, c3, by omega, by omega, rfl, hown3, hnx3⟩
                case measure => simp only [lenOf]; omega
              · have e : kn = j := by omega
                subst e
                have hge : ¬ kn < kn := Nat.lt_irrefl _
                have hres : Hid (IsU wr (.slice ap kn cp) (l ++ List.replicate (kn - l.length) 0)) := by
                  refine IsU.of_owns hown (fun x hx => ?_)
                  rcases List.mem_append.mp hx with q | q
                  · have := hlP.out x q; unfold P at this; omega
                  · have := List.eq_of_mem_replicate q; subst this; decide
                clear hown hlP
                go_wp2
                go_ret2
                exact ⟨_, rfl, hres.out, hnx⟩
      · have hU1 := hT.ox.isU (xsS_rng L kn)
        have hU2 := hT.oy.isU (ysS_rng L kn hsr2.out)
        have cT := ref_ThroughF wr _ _ (xsS L kn) (ysS L kn) hU1 hU2 hPt.out
        rw [xsS_length] at cT
        have hBw := hT.bl
        clear hT hU1 hU2
        go_wp2_with (go_at_call 20; refine Calls.mono cT ?_; rintro e w2 ⟨u, l, rfl, hU, hG, hO, hb2⟩; clear cT; have hB2 := hBw.trans (hb2.mono hBw.size); have hO2 := hO.mono hBw.size; clear hO hb2 hBw; replace hG : Hid _ := hG)
        go_loopw [10] (fun vi wr => ∃ j : Nat, j ≤ n ∧ vi = .int .i64 (j : Int) ∧ Hid (Has l L j) ∧ IsU wr u l ∧ Ow w.heap.size wr u l ∧ Below w.heap.size w wr)
          (fun vi _ => n - (intOf vi).toNat)
        case atStart => exact ⟨0, Nat.zero_le _, rfl, fun i hi => absurd hi (by omega), hU, hO2, hB2⟩
        case round =>
          clear hU hO2 hB2
          obtain ⟨j, hj, rfl, hH, hU, hO2, hB2⟩ := hrel
          by_cases hlt : j < n
          · obtain ⟨b, off, rfl, c0, c1⟩ := hc.out j hlt
            obtain ⟨t, ht, ht63⟩ := hat.out j hlt
            have hsy := hsr.out j hlt
            have hpl : Hid (plS L j = toF (fW (rt 6) t)) := by show _ = _; unfold plS; rw [ht, toF_fW]; rfl
            rw [ht] at c0
            obtain ⟨y, hye0⟩ : ∃ y, y = syS L j := ⟨_, rfl⟩
            have hye : Hid (y = syS L j) := hye0
            rw [← hye0] at c1 hsy
            clear hye0 ht
            have d0 := (hB2.cell (block_lt c0)).trans c0
            have d1 := (hB2.cell (block_lt c1)).trans c1
            clear c0 c1
            have hpe : Hid (pE l (fW (rt 6) t) = (evF (l.map toF) (plS L j)).val) := by show _ = _; rw [hpl.out]; rfl
            have hno : Hid (fN y = (toF (syS L j)).val) := by show _ = _; rw [hye.out, fN_val]
            obtain ⟨x, hx0⟩ : ∃ x, x = fW (rt 6) t := ⟨_, rfl⟩
            have cR := ref_Root6
            have cP := fun (W : World) => ref_Pow (rt 6) t (by omega) W
            rw [← hx0] at cP hpe
            have hxl : (x : Int) < 18446744069414584321 := by rw [hx0]; exact fW_lt _ _
            clear hx0 hpl hye
            generalize rt 6 = r6 at cR cP
            have hwr : IntKind.u64.wrap (t : Int) = (t : Int) := by rw [IntKind.wrap_u64]; omega
            have cE := fun (n : Nat) => ref_Eval (wr.drewN n) u l x (hU.below (below_drewN (Below.refl _ _) n))
            have cN := ref_Norm y
            by_cases hf : evF (l.map toF) (plS L j) = toF (syS L j)
            · have hH2 : Hid (Has l L (j + 1)) := fun i hi => by
                rcases Nat.lt_or_ge i j with q | q
                · exact hH.out i q
                · obtain rfl : i = j := by omega
                  exact hf
              have he : pE l x = fN y := by rw [hpe.out, hno.out, hf]
              rw [he] at cE
              clear hf hpe hno he hH
              generalize fN y = z at *
              have hzz : ((z : Int) != (z : Int)) = false := by simp
              have hUg := hU
              obtain ⟨au, cu, rfl, -⟩ := hUg
              go_wp2
              go_quiet (first | (go_at_call 17; exact Calls.quiet_of_same (cR _)) | (go_at_call 16; exact Calls.quiet_of_same (cP _)) | (go_at_call 15; exact Calls.quiet_of_same (cE _)) | (go_at_call 21; exact Calls.quiet_of_same (cN _)))
              have hbq := below_drewN (Below.refl wr.heap.size wr) nq
              have hU3 := hU.below hbq
              have hO3 := hO2.below hbq
              have hB3 := hB2.trans (hbq.mono hB2.size)
              clear hU hO2 hB2 hbq cR cP cE cN d0 d1
              generalize wr.drewN nq = w7 at *
              go_wp2
              go_roundw
              case rel => exact ⟨j + 1, by omega, by go_num, hH2, hU3, hO3, hB3⟩
              case measure => simp only [intOf]; omega
            · obtain ⟨f1, f2⟩ := hbad.out l j hG.out hlt hf
              have he : ¬ pE l x = fN y := fun q => hf (by rw [hpe.out, hno.out] at q; exact Fin.ext q)
              have he2 : (((pE l x : Nat) : Int) != ((fN y : Nat) : Int)) = true := by simp; omega
              clear hok hbad
              subst f1
              subst f2
              clear hf hpe hno he hH hG
              generalize fN y = z at *
              generalize pE l x = z2 at *
              have hUg := hU
              obtain ⟨au, cu, rfl, -⟩ := hUg
              go_wp2
              go_quiet (first | (go_at_call 17; exact Calls.quiet_of_same (cR _)) | (go_at_call 16; exact Calls.quiet_of_same (cP _)) | (go_at_call 15; exact Calls.quiet_of_same (cE _)) | (go_at_call 21; exact Calls.quiet_of_same (cN _)))
              have hbq := below_drewN (Below.refl wr.heap.size wr) nq
              have hB3 := hB2.trans (hbq.mono hB2.size)
              clear hU hO2 hB2 hbq cR cP cE cN d0 d1
              generalize wr.drewN nq = w7 at *
              go_wp2
              go_ret2
              exact ⟨_, rfl, IsU.nil _, hB3⟩
          · have e : n = j := by omega
            subst e
            have hnl : ¬ n < n := Nat.lt_irrefl _
            have hnk : ¬ n < kn := by omega
            obtain ⟨f1, f2⟩ := hok.out l hG.out hH.out
            clear hok hbad
            subst f1
            subst f2
            have hlk : l.length ≤ kn := hG.out.2.1
            have hlP : Hid (∀ x ∈ l, x < P) := fun x hx => by rw [← hG.out.1] at hx; exact pN_lt l x hx
            clear hG hH hU hc hat hsr hS'
            have hUg : ∃ au cu, u = .slice au l.length cu := by
              rcases hO2.2 with ⟨rfl, h2⟩ | ⟨g, cap, cur, rfl, r⟩
              · exact ⟨none, 0, by rw [h2]⟩
              · exact ⟨_, _, rfl⟩
            obtain ⟨au, cu, rfl⟩ := hUg
            go_wp2
            go_loopw [9] (fun vp wr => ∃ (j : Nat) (ap : Option Addr) (cp : Nat), j ≤ kn ∧ l.length ≤ j ∧ vp = .slice ap j cp ∧ wr.ownsRow w.heap.size 30 1 vp j (cellsU (l ++ List.replicate (j - l.length) 0)) ∧ Below w.heap.size w wr)
              (fun vp _ => kn - (lenOf vp))
            case atStart => exact ⟨l.length, au, cu, hlk, Nat.le_refl _, rfl, by rw [Nat.sub_self, List.replicate_zero, List.append_nil]; exact hO2, hB2⟩
            case round =>
              clear hO2 hB2
              obtain ⟨j, ap, cp, hj, hlj, rfl, hown, hnx⟩ := hrel
              by_cases hlt3 : j < kn
              · have hrow : Hid (cellsU (l ++ List.replicate (j - l.length) 0) ++ [.int .u64 ((0 : Nat) : Int)] = cellsU (l ++ List.replicate (j + 1 - l.length) 0)) := by
                  show _ = _
                  rw [show j + 1 - l.length = (j - l.length) + 1 by omega, List.replicate_succ', ← List.append_assoc, cellsU_append (l ++ _)]
                  rfl
                have hj9 : j ≤ 1000000000 := by omega
                go_wp2_with (at_builtin; refine wp_append1 rfl _ _ rfl _ _ _ 0 rfl hown rfl ?c3 hnx ?_; rotate_right; intro v' w3 hown3 hnx3)
                case c3 => exact hj9
                rw [hrow.out] at hown3
                obtain ⟨a3, c3, rfl⟩ : ∃ a3 c3, v' = .slice a3 (j + 1) c3 := by
                  rcases hown3.2 with ⟨_, h2⟩ | ⟨g, cap, cur, hv, _⟩
                  · omega
                  · exact ⟨_, _, hv⟩
                go_roundw
                case rel => exact ⟨j + 1, a3, c3, by omega, by omega, rfl, hown3, hnx3⟩
                case measure => simp only [lenOf]; omega
              · have e : kn = j := by omega
                subst e
                have hge : ¬ kn < kn := Nat.lt_irrefl _
                have hres : Hid (IsU wr (.slice ap kn cp) (l ++ List.replicate (kn - l.length) 0)) := by
                  refine IsU.of_owns hown (fun x hx => ?_)
                  rcases List.mem_append.mp hx with q | q
                  · have := hlP.out x q; unfold P at this; omega
                  · have := List.eq_of_mem_replicate q; subst this; decide
                clear hown hlP
                go_wp2
                go_ret2
                exact ⟨_, rfl, hres.out, hnx⟩
set_option maxRecDepth 100000 in
set_option maxHeartbeats 8000000 in
theorem ref_Data_few (w : World) (k : Int) (v : Value) (L : List (Int × Nat)) (h : IsS w v L) (h0 : shE k L = 0) (hkn : (L.length : Int) < k) :
    Calls Try.prog 11 #[.int .i64 k, v] w fun e w' => ∃ u, e = .returned (.tuple #[u, .int .i64 (rcE k L)]) ∧ IsU w' u (rcL k L) ∧ Below w.heap.size w w' := by
  have hS := (shE_zero h0).2
  obtain ⟨kn, rfl⟩ : ∃ kn : Nat, k = (kn : Int) := ⟨k.toNat, by have := (shE_zero h0).1; omega⟩
  have hk64 : 1 ≤ kn ∧ kn ≤ 64 := by have := (shE_zero h0).1; omega
  obtain ⟨a, cap, rfl, hcap, hmax, hc0, hr0⟩ := h
  have hc : Hid (∀ i, i < L.length → ∃ b off, a = some ⟨b, off, none⟩ ∧ w.cell? ⟨b, off + i * 2, none⟩ = some (.int .i64 (atS L i)) ∧ w.cell? ⟨b, off + i * 2 + 1, none⟩ = some (.int .u64 ((syS L i : Nat) : Int))) := fun i hi => by
    obtain ⟨b, off, e, c, d⟩ := hc0 i hi
    exact ⟨b, off, e, c, by rw [Nat.add_assoc]; exact d⟩
  have hat : Hid (∀ i, i < L.length → ∃ t : Nat, atS L i = (t : Int) ∧ t ≤ 63) := fun i hi => by
    have := hS.1 i hi
    exact ⟨(atS L i).toNat, by omega, by omega⟩
  have hsr : Hid (∀ i, i < L.length → syS L i < 18446744073709551616) := fun i hi => (hr0 (L.getD i (0, 0)) (by rw [List.getD, List.getElem?_eq_getElem hi]; exact List.getElem_mem hi)).2
  have hS' : Hid (ShK L L.length) := hS
  have hln : L.length ≤ 9223372036854775807 := by unfold maxLen at hmax; omega
  have hkl : L.length < kn := by omega
  have hPt : Hid (Pts (xsS L L.length) (ysS L L.length)) := pts_S hS (by omega)
  have hsr2 : Hid (∀ i, i < L.length → syS L i < 18446744073709551616) := hsr.out
  have hfew : Hid (rcE (kn : Int) L = 4 ∧ rcL (kn : Int) L = []) := ⟨(rcE_few h0 hkn).1, (rcE_few h0 hkn).2.1⟩
  clear hcap hmax hc0 hr0 hS hkn h0
  generalize hn : L.length = n at *
  replace hn : Hid _ := hn
  generalize hEe : rcE (kn : Int) L = E at *
  generalize hRe : rcL (kn : Int) L = R at *
  clear hEe hRe
  go_enter Try.func11, Try.ntmps11
  go_wp2
  go_loopw [6, 7, 8] (fun vx vy vi wr => ∃ i : Nat, i ≤ n ∧ vi = .int .i64 (i : Int) ∧ Two w wr vx vy (xsS L i) (ysS L i))
    (fun _ _ vi _ => n - (intOf vi).toNat)
  case atStart => exact ⟨0, Nat.zero_le _, rfl, Ow.nil _ _, Ow.nil _ _, fun g e => by simp [Value.ownBlock] at e, Below.refl _ _⟩
  case round =>
    obtain ⟨i, hi, rfl, hT⟩ := hrel
    by_cases hlt : i < n
    · have hin : i < n := by omega
      have hik : i < kn := by omega
      obtain ⟨b, off, rfl, c0, c1⟩ := hc.out i hin
      obtain ⟨t, ht, ht63⟩ := hat.out i hin
      have hsy := hsr.out i hin
      rw [ht] at c0
      have hxe : Hid (fW (rt 6) t = fW (rt 6) (atS L i).toNat) := by show _ = _; rw [ht]; rfl
      obtain ⟨y, hye0⟩ : ∃ y, y = syS L i := ⟨_, rfl⟩
      have hye : Hid (y = syS L i) := hye0
      rw [← hye0] at c1 hsy
      clear hye0 ht
      obtain ⟨x, hx0⟩ : ∃ x, x = fW (rt 6) t := ⟨_, rfl⟩
      have cR := ref_Root6
      have cP := fun (W : World) => ref_Pow (rt 6) t (by omega) W
      rw [← hx0] at cP hxe
      have hxl : (x : Int) < 18446744069414584321 := by rw [hx0]; exact fW_lt _ _
      clear hx0
      generalize rt 6 = r6 at cR cP
      have hwr : IntKind.u64.wrap (t : Int) = (t : Int) := by rw [IntKind.wrap_u64]; omega
      have hSof : Hid (∀ W, Below w.heap.size w W → (fun w' : World => w'.cell? ⟨b, off + i * 2, none⟩ = some (.int .i64 (t : Int)) ∧ w'.cell? ⟨b, off + i * 2 + 1, none⟩ = some (.int .u64 (y : Int))) W) := fun W hW => ⟨(hW.cell (block_lt c0)).trans c0, (hW.cell (block_lt c1)).trans c1⟩
      clear c0 c1
      go_wp2
      have hTd : Below wr.heap.size wr wr.drew := below_drewN (Below.refl _ _) 1
      have hT2 := hT.below hTd
      have hSd : (fun w' : World => w'.cell? ⟨b, off + i * 2, none⟩ = some (.int .i64 (t : Int)) ∧ w'.cell? ⟨b, off + i * 2 + 1, none⟩ = some (.int .u64 (y : Int))) wr.drew := hSof.out _ hT2.bl
      clear hT hTd
      have hT := hT2
      clear hT2
      refine wp_region_HD (S := (fun w' : World => w'.cell? ⟨b, off + i * 2, none⟩ = some (.int .i64 (t : Int)) ∧ w'.cell? ⟨b, off + i * 2 + 1, none⟩ = some (.int .u64 (y : Int)))) (by kernel_rfl) ?_
      generalize wr.drew = wd at *
      refine wpAnyH_take (i := 0) (v := ?va0) rfl (by kernel_rfl) (by kernel_rfl) (by kernel_rfl) (fun _ _ _ h => h) (Or.inl ⟨by rfl, ?hya0⟩) hSd ?resta0
      case hya0 =>
        intro w hSw
        (try dsimp only at hSw)
        go_simp
        all_goals with_reducible rfl
      simp only [Act.put, List.getElem_toArray, List.getElem_cons_zero, List.setIfInBounds_toArray, List.set_cons_zero, List.set_cons_succ]
      refine wpAnyH_take (i := 2) (v := ?va2) rfl (by kernel_rfl) (by kernel_rfl) (by kernel_rfl) (fun _ _ _ h => h) (Or.inl ⟨by rfl, ?hya2⟩) hSd ?resta2
      case hya2 =>
        intro w hSw
        (try dsimp only at hSw)
        go_simp
        all_goals with_reducible rfl
      simp only [Act.put, List.getElem_toArray, List.getElem_cons_succ, List.getElem_cons_zero, List.setIfInBounds_toArray, List.set_cons_zero, List.set_cons_succ]
      refine wpAnyH_take (i := 3) (v := ?va3) rfl (by kernel_rfl) (by kernel_rfl) (by kernel_rfl) (fun _ _ _ h => h) (Or.inl ⟨by rfl, ?hya3⟩) hSd ?resta3
      case hya3 =>
        intro w hSw
        (try dsimp only at hSw)
        go_simp
        all_goals with_reducible rfl
      simp only [Act.put, List.getElem_toArray, List.getElem_cons_succ, List.getElem_cons_zero, List.setIfInBounds_toArray, List.set_cons_zero, List.set_cons_succ]
      refine wpAnyH_take (i := 4) (v := ?va4) rfl (by kernel_rfl) (by kernel_rfl) (by kernel_rfl) (fun _ _ _ h => h) (Or.inl ⟨by rfl, ?hya4⟩) hSd ?resta4
      case hya4 =>
        intro w hSw
        (try dsimp only at hSw)
        go_simp
        all_goals with_reducible rfl
      simp only [Act.put, List.getElem_toArray, List.getElem_cons_succ, List.getElem_cons_zero, List.setIfInBounds_toArray, List.set_cons_zero, List.set_cons_succ]
      refine wpAnyH_take (i := 5) (v := ?va5) rfl (by kernel_rfl) (by kernel_rfl) (by kernel_rfl) (fun _ _ _ h => h) (Or.inl ⟨by rfl, ?hya5⟩) hSd ?resta5
      case hya5 =>
        intro w hSw
        (try dsimp only at hSw)
        go_simp
        all_goals with_reducible rfl
      simp only [Act.put, List.getElem_toArray, List.getElem_cons_succ, List.getElem_cons_zero, List.setIfInBounds_toArray, List.set_cons_zero, List.set_cons_succ]
      refine wpAnyH_take (i := 6) (v := ?va6) rfl (by kernel_rfl) (by kernel_rfl) (by kernel_rfl) (fun _ _ _ h => h) (Or.inl ⟨by rfl, ?hya6⟩) hSd ?resta6
      case hya6 =>
        intro w hSw
        (try dsimp only at hSw)
        go_simp
        all_goals with_reducible rfl
      simp only [Act.put, List.getElem_toArray, List.getElem_cons_succ, List.getElem_cons_zero, List.setIfInBounds_toArray, List.set_cons_zero, List.set_cons_succ]
      refine wpAnyH_take (i := 7) (v := ?va7) rfl (by kernel_rfl) (by kernel_rfl) (by kernel_rfl) (fun _ _ _ h => h) (Or.inl ⟨by rfl, ?hya7⟩) hSd ?resta7
      case hya7 =>
        intro w hSw
        (try dsimp only at hSw)
        go_simp
        all_goals with_reducible rfl
      simp only [Act.put, List.getElem_toArray, List.getElem_cons_succ, List.getElem_cons_zero, List.setIfInBounds_toArray, List.set_cons_zero, List.set_cons_succ]
      refine wpAnyH_take (i := 11) (v := ?va11) rfl (by kernel_rfl) (by kernel_rfl) (by kernel_rfl) (fun _ _ _ h => h) (Or.inl ⟨by rfl, ?hya11⟩) hSd ?resta11
      case hya11 =>
        intro w hSw
        (try dsimp only at hSw)
        go_simp
        all_goals with_reducible rfl
      simp only [Act.put, List.getElem_toArray, List.getElem_cons_succ, List.getElem_cons_zero, List.setIfInBounds_toArray, List.set_cons_zero, List.set_cons_succ]
      refine wpAnyH_take (i := 12) (v := ?va12) rfl (by kernel_rfl) (by kernel_rfl) (by kernel_rfl) (fun _ _ _ h => h) (Or.inl ⟨by rfl, ?hya12⟩) hSd ?resta12
      case hya12 =>
        intro w hSw
        (try dsimp only at hSw)
        go_simp
        all_goals with_reducible rfl
      simp only [Act.put, List.getElem_toArray, List.getElem_cons_succ, List.getElem_cons_zero, List.setIfInBounds_toArray, List.set_cons_zero, List.set_cons_succ]
      refine wpAnyH_take (i := 13) (v := ?va13) rfl (by kernel_rfl) (by kernel_rfl) (by kernel_rfl) (fun _ _ _ h => h) (Or.inl ⟨by rfl, ?hya13⟩) hSd ?resta13
      case hya13 =>
        intro w hSw
        (try dsimp only at hSw)
        go_simp
        all_goals with_reducible rfl
      simp only [Act.put, List.getElem_toArray, List.getElem_cons_succ, List.getElem_cons_zero, List.setIfInBounds_toArray, List.set_cons_zero, List.set_cons_succ]
      refine wpAnyH_take (i := 14) (v := ?va14) rfl (by kernel_rfl) (by kernel_rfl) (by kernel_rfl) (fun _ _ _ h => h) (Or.inl ⟨by rfl, ?hya14⟩) hSd ?resta14
      case hya14 =>
        intro w hSw
        (try dsimp only at hSw)
        go_simp
        all_goals with_reducible rfl
      simp only [Act.put, List.getElem_toArray, List.getElem_cons_succ, List.getElem_cons_zero, List.setIfInBounds_toArray, List.set_cons_zero, List.set_cons_succ]
      refine wpAnyH_take (i := 15) (v := ?va15) rfl (by kernel_rfl) (by kernel_rfl) (by kernel_rfl) (fun _ _ _ h => h) (Or.inl ⟨by rfl, ?hya15⟩) hSd ?resta15
      case hya15 =>
        intro w hSw
        (try dsimp only at hSw)
        go_simp
        all_goals with_reducible rfl
      simp only [Act.put, List.getElem_toArray, List.getElem_cons_succ, List.getElem_cons_zero, List.setIfInBounds_toArray, List.set_cons_zero, List.set_cons_succ]
      refine wpAnyH_take (i := 16) (v := ?va16) rfl (by kernel_rfl) (by kernel_rfl) (by kernel_rfl) (fun _ _ _ h => h) (Or.inl ⟨by rfl, ?hya16⟩) hSd ?resta16
      case hya16 =>
        intro w hSw
        (try dsimp only at hSw)
        go_simp
        all_goals with_reducible rfl
      simp only [Act.put, List.getElem_toArray, List.getElem_cons_succ, List.getElem_cons_zero, List.setIfInBounds_toArray, List.set_cons_zero, List.set_cons_succ]
      refine wpAnyH_two (i := 1) (j := 17) rfl rfl (by kernel_rfl) (fun K hK => ?_) (fun K hK => ?_)
      · simp only [List.getElem_toArray, List.getElem_cons_succ, List.getElem_cons_zero]
        go_simp
        refine Calls.mono (cR _) ?_
        rintro e w8 ⟨rfl, hw⟩
        rw [hw]
        refine hK.out _ _ hSd ?_
        clear hK K hw
        (try simp only [Act.put, List.getElem_toArray, List.getElem_cons_succ, List.getElem_cons_zero, List.setIfInBounds_toArray, List.set_cons_zero, List.set_cons_succ])
        refine wpAnyH_two (i := 8) (j := 17) rfl rfl (by kernel_rfl) (fun K hK => ?_) (fun K hK => ?_)
        · simp only [List.getElem_toArray, List.getElem_cons_succ, List.getElem_cons_zero]
          go_simp
          refine Calls.mono (cP _) ?_
          rintro e w8 ⟨rfl, hw⟩
          rw [hw]
          refine hK.out _ _ hSd ?_
          clear hK K hw
          (try simp only [Act.put, List.getElem_toArray, List.getElem_cons_succ, List.getElem_cons_zero, List.setIfInBounds_toArray, List.set_cons_zero, List.set_cons_succ])
          refine wpAnyH_two (i := 9) (j := 17) rfl rfl (by kernel_rfl) (fun K hK => ?_) (fun K hK => ?_)
          · simp only [List.getElem_toArray, List.getElem_cons_succ, List.getElem_cons_zero]
            go_simp
            have hBx : Below (wd).heap.size (wd) ((wd).alloc (.cells #[.int .u64 (x : Int)] 30)) := below_alloc1 _ _
            have hTwk1 := hT.below hBx
            have hLx : Lt ((wd).alloc (.cells #[.int .u64 (x : Int)] 30)) (wd).heap.size x := lt_new _ _
            have hNx := hT.fresh (wd).heap.size (Nat.le_refl _)
            obtain ⟨gx, hgx⟩ : ∃ g, g = (wd).heap.size := ⟨_, rfl⟩
            rw [← hgx] at hLx hNx ⊢
            clear hgx
            replace hSd := hSof.out _ hTwk1.bl
            refine hK.out _ _ hSd ?_
            clear hK K hT hBx
            generalize (wd).alloc (.cells #[.int .u64 (x : Int)] 30) = wk1 at *
            replace hT := hTwk1
            clear hTwk1
            (try simp only [Act.put, List.getElem_toArray, List.getElem_cons_succ, List.getElem_cons_zero, List.setIfInBounds_toArray, List.set_cons_zero, List.set_cons_succ])
            refine wpAnyH_two (i := 10) (j := 17) rfl rfl (by kernel_rfl) (fun K hK => ?_) (fun K hK => ?_)
            · refine step_appX rfl (.tmp 22) (.tmp 31) rfl hT hLx ?s1wk2x11 ?s2wk2x11 (by rw [xsS_length]; omega) ?s4wk2x11
              case s1wk2x11 => rfl
              case s2wk2x11 => rfl
              intro vx wk2 hT2 hgr
              have hSd2 := hSof.out _ hT2.bl
              refine hK.out _ _ hSd2 ?_
              clear hK K hSd hT hLx hNx hgr
              have hSd := hSd2
              clear hSd2
              have hT := hT2
              clear hT2
              (try simp only [Act.put, List.getElem_toArray, List.getElem_cons_succ, List.getElem_cons_zero, List.setIfInBounds_toArray, List.set_cons_zero, List.set_cons_succ])
              refine wpAnyH_oneD (i := 17) rfl (by kernel_rfl) (fun K hK => ?_)
              simp only [List.getElem_toArray, List.getElem_cons_succ, List.getElem_cons_zero]
              go_simp
              have hBy : Below (wk2).heap.size (wk2) ((wk2).alloc (.cells #[.int .u64 (y : Int)] 30)) := below_alloc1 _ _
              have hTwk3 := hT.below hBy
              have hLy : Lt ((wk2).alloc (.cells #[.int .u64 (y : Int)] 30)) (wk2).heap.size y := lt_new _ _
              have hNy := hT.fresh (wk2).heap.size (Nat.le_refl _)
              obtain ⟨gy, hgy⟩ : ∃ g, g = (wk2).heap.size := ⟨_, rfl⟩
              rw [← hgy] at hLy hNy ⊢
              clear hgy
              replace hSd := hSof.out _ hTwk3.bl
              refine hK.out _ _ hSd ?_
              clear hK K hT hBy
              generalize (wk2).alloc (.cells #[.int .u64 (y : Int)] 30) = wk3 at *
              replace hT := hTwk3
              clear hTwk3
              (try simp only [Act.put, List.getElem_toArray, List.getElem_cons_succ, List.getElem_cons_zero, List.setIfInBounds_toArray, List.set_cons_zero, List.set_cons_succ])
              refine wpAnyH_oneD (i := 18) rfl (by kernel_rfl) (fun K hK => ?_)
              refine step_appX rfl (.tmp 33) (.tmp 39) rfl hT.swap hLy ?s1wk4y12 ?s2wk4y12 (by rw [ysS_length]; omega) ?s4wk4y12
              case s1wk4y12 => rfl
              case s2wk4y12 => rfl
              intro vy wk4 hT2 hgr
              have hSd2 := hSof.out _ hT2.bl
              refine hK.out _ _ hSd2 ?_
              clear hK K hSd hT hLy hNy hgr
              have hSd := hSd2
              clear hSd2
              have hT := hT2.swap
              clear hT2
              (try simp only [Act.put, List.getElem_toArray, List.getElem_cons_succ, List.getElem_cons_zero, List.setIfInBounds_toArray, List.set_cons_zero, List.set_cons_succ])
              refine wpAnyH_oneD (i := 19) rfl (by kernel_rfl) (fun K hK => ?_)
              simp only [List.getElem_toArray, List.getElem_cons_succ, List.getElem_cons_zero]
              go_simp
              refine hK.out _ _ hSd ?_
              clear hK K
              (try simp only [Act.put, List.getElem_toArray, List.getElem_cons_succ, List.getElem_cons_zero, List.setIfInBounds_toArray, List.set_cons_zero, List.set_cons_succ])
              refine wpAnyH_oneD (i := 20) rfl (by kernel_rfl) (fun K hK => ?_)
              simp only [List.getElem_toArray, List.getElem_cons_succ, List.getElem_cons_zero]
              go_simp
              refine hK.out _ _ hSd ?_
              clear hK K
              (try simp only [Act.put, List.getElem_toArray, List.getElem_cons_succ, List.getElem_cons_zero, List.setIfInBounds_toArray, List.set_cons_zero, List.set_cons_succ])
              refine wpAnyH_done (by kernel_rfl) ?_ _
              go_wp2
              go_roundw
              case rel => exact ⟨i + 1, by omega, by go_num, by rw [xsS_succ, ysS_succ, ← hxe.out, ← hye.out]; exact hT⟩
              case measure => simp only [intOf]; omega
            · simp only [List.getElem_toArray, List.getElem_cons_succ, List.getElem_cons_zero]
              go_simp
              have hBy : Below (wk1).heap.size (wk1) ((wk1).alloc (.cells #[.int .u64 (y : Int)] 30)) := below_alloc1 _ _
              have hTwk2 := hT.below hBy
              have hLy : Lt ((wk1).alloc (.cells #[.int .u64 (y : Int)] 30)) (wk1).heap.size y := lt_new _ _
              have hNy := hT.fresh (wk1).heap.size (Nat.le_refl _)
              obtain ⟨gy, hgy⟩ : ∃ g, g = (wk1).heap.size := ⟨_, rfl⟩
              rw [← hgy] at hLy hNy ⊢
              have hLx2 := hLx.below hBy
              clear hLx
              have hLx := hLx2
              clear hLx2
              clear hgy
              replace hSd := hSof.out _ hTwk2.bl
              refine hK.out _ _ hSd ?_
              clear hK K hT hBy
              generalize (wk1).alloc (.cells #[.int .u64 (y : Int)] 30) = wk2 at *
              replace hT := hTwk2
              clear hTwk2
              (try simp only [Act.put, List.getElem_toArray, List.getElem_cons_succ, List.getElem_cons_zero, List.setIfInBounds_toArray, List.set_cons_zero, List.set_cons_succ])
              refine wpAnyH_oneD (i := 10) rfl (by kernel_rfl) (fun K hK => ?_)
              refine step_appX rfl (.tmp 22) (.tmp 31) rfl hT hLx ?s1wk3x13 ?s2wk3x13 (by rw [xsS_length]; omega) ?s4wk3x13
              case s1wk3x13 => rfl
              case s2wk3x13 => rfl
              intro vx wk3 hT2 hgr
              have hLy2 := hLy.grown hgr hNy.1
              clear hLy
              have hLy := hLy2
              clear hLy2
              have hSd2 := hSof.out _ hT2.bl
              refine hK.out _ _ hSd2 ?_
              clear hK K hSd hT hLx hNx hgr
              have hSd := hSd2
              clear hSd2
              have hT := hT2
              clear hT2
              (try simp only [Act.put, List.getElem_toArray, List.getElem_cons_succ, List.getElem_cons_zero, List.setIfInBounds_toArray, List.set_cons_zero, List.set_cons_succ])
              refine wpAnyH_oneD (i := 18) rfl (by kernel_rfl) (fun K hK => ?_)
              refine step_appX rfl (.tmp 33) (.tmp 39) rfl hT.swap hLy ?s1wk4y14 ?s2wk4y14 (by rw [ysS_length]; omega) ?s4wk4y14
              case s1wk4y14 => rfl
              case s2wk4y14 => rfl
              intro vy wk4 hT2 hgr
              have hSd2 := hSof.out _ hT2.bl
              refine hK.out _ _ hSd2 ?_
              clear hK K hSd hT hLy hNy hgr
              have hSd := hSd2
              clear hSd2
              have hT := hT2.swap
              clear hT2
              (try simp only [Act.put, List.getElem_toArray, List.getElem_cons_succ, List.getElem_cons_zero, List.setIfInBounds_toArray, List.set_cons_zero, List.set_cons_succ])
              refine wpAnyH_oneD (i := 19) rfl (by kernel_rfl) (fun K hK => ?_)
              simp only [List.getElem_toArray, List.getElem_cons_succ, List.getElem_cons_zero]
              go_simp
              refine hK.out _ _ hSd ?_
              clear hK K
              (try simp only [Act.put, List.getElem_toArray, List.getElem_cons_succ, List.getElem_cons_zero, List.setIfInBounds_toArray, List.set_cons_zero, List.set_cons_succ])
              refine wpAnyH_oneD (i := 20) rfl (by kernel_rfl) (fun K hK => ?_)
              simp only [List.getElem_toArray, List.getElem_cons_succ, List.getElem_cons_zero]
              go_simp
              refine hK.out _ _ hSd ?_
              clear hK K
              (try simp only [Act.put, List.getElem_toArray, List.getElem_cons_succ, List.getElem_cons_zero, List.setIfInBounds_toArray, List.set_cons_zero, List.set_cons_succ])
              refine wpAnyH_done (by kernel_rfl) ?_ _
              go_wp2
              go_roundw
              case rel => exact ⟨i + 1, by omega, by go_num, by rw [xsS_succ, ysS_succ, ← hxe.out, ← hye.out]; exact hT⟩
              case measure => simp only [intOf]; omega
          · simp only [List.getElem_toArray, List.getElem_cons_succ, List.getElem_cons_zero]
            go_simp
            have hBy : Below (wd).heap.size (wd) ((wd).alloc (.cells #[.int .u64 (y : Int)] 30)) := below_alloc1 _ _
            have hTwk1 := hT.below hBy
            have hLy : Lt ((wd).alloc (.cells #[.int .u64 (y : Int)] 30)) (wd).heap.size y := lt_new _ _
            have hNy := hT.fresh (wd).heap.size (Nat.le_refl _)
            obtain ⟨gy, hgy⟩ : ∃ g, g = (wd).heap.size := ⟨_, rfl⟩
            rw [← hgy] at hLy hNy ⊢
            clear hgy
            replace hSd := hSof.out _ hTwk1.bl
            refine hK.out _ _ hSd ?_
            clear hK K hT hBy
            generalize (wd).alloc (.cells #[.int .u64 (y : Int)] 30) = wk1 at *
            replace hT := hTwk1
            clear hTwk1
            (try simp only [Act.put, List.getElem_toArray, List.getElem_cons_succ, List.getElem_cons_zero, List.setIfInBounds_toArray, List.set_cons_zero, List.set_cons_succ])
            refine wpAnyH_oneD (i := 9) rfl (by kernel_rfl) (fun K hK => ?_)
            simp only [List.getElem_toArray, List.getElem_cons_succ, List.getElem_cons_zero]
            go_simp
            have hBx : Below (wk1).heap.size (wk1) ((wk1).alloc (.cells #[.int .u64 (x : Int)] 30)) := below_alloc1 _ _
            have hTwk2 := hT.below hBx
            have hLx : Lt ((wk1).alloc (.cells #[.int .u64 (x : Int)] 30)) (wk1).heap.size x := lt_new _ _
            have hNx := hT.fresh (wk1).heap.size (Nat.le_refl _)
            obtain ⟨gx, hgx⟩ : ∃ g, g = (wk1).heap.size := ⟨_, rfl⟩
            rw [← hgx] at hLx hNx ⊢
            have hLy2 := hLy.below hBx
            clear hLy
            have hLy := hLy2
            clear hLy2
            clear hgx
            replace hSd := hSof.out _ hTwk2.bl
            refine hK.out _ _ hSd ?_
            clear hK K hT hBx
            generalize (wk1).alloc (.cells #[.int .u64 (x : Int)] 30) = wk2 at *
            replace hT := hTwk2
            clear hTwk2
            (try simp only [Act.put, List.getElem_toArray, List.getElem_cons_succ, List.getElem_cons_zero, List.setIfInBounds_toArray, List.set_cons_zero, List.set_cons_succ])
            refine wpAnyH_oneD (i := 10) rfl (by kernel_rfl) (fun K hK => ?_)
            refine step_appX rfl (.tmp 22) (.tmp 31) rfl hT hLx ?s1wk3x15 ?s2wk3x15 (by rw [xsS_length]; omega) ?s4wk3x15
            case s1wk3x15 => rfl
            case s2wk3x15 => rfl
            intro vx wk3 hT2 hgr
            have hLy2 := hLy.grown hgr hNy.1
            clear hLy
            have hLy := hLy2
            clear hLy2
            have hSd2 := hSof.out _ hT2.bl
            refine hK.out _ _ hSd2 ?_
            clear hK K hSd hT hLx hNx hgr
            have hSd := hSd2
            clear hSd2
            have hT := hT2
            clear hT2
            (try simp only [Act.put, List.getElem_toArray, List.getElem_cons_succ, List.getElem_cons_zero, List.setIfInBounds_toArray, List.set_cons_zero, List.set_cons_succ])
            refine wpAnyH_oneD (i := 18) rfl (by kernel_rfl) (fun K hK => ?_)
            refine step_appX rfl (.tmp 33) (.tmp 39) rfl hT.swap hLy ?s1wk4y16 ?s2wk4y16 (by rw [ysS_length]; omega) ?s4wk4y16
            case s1wk4y16 => rfl
            case s2wk4y16 => rfl
            intro vy wk4 hT2 hgr
            have hSd2 := hSof.out _ hT2.bl
            refine hK.out _ _ hSd2 ?_
            clear hK K hSd hT hLy hNy hgr
            have hSd := hSd2
            clear hSd2
            have hT := hT2.swap
            clear hT2
            (try simp only [Act.put, List.getElem_toArray, List.getElem_cons_succ, List.getElem_cons_zero, List.setIfInBounds_toArray, List.set_cons_zero, List.set_cons_succ])
            refine wpAnyH_oneD (i := 19) rfl (by kernel_rfl) (fun K hK => ?_)
            simp only [List.getElem_toArray, List.getElem_cons_succ, List.getElem_cons_zero]
            go_simp
            refine hK.out _ _ hSd ?_
            clear hK K
            (try simp only [Act.put, List.getElem_toArray, List.getElem_cons_succ, List.getElem_cons_zero, List.setIfInBounds_toArray, List.set_cons_zero, List.set_cons_succ])
            refine wpAnyH_oneD (i := 20) rfl (by kernel_rfl) (fun K hK => ?_)
            simp only [List.getElem_toArray, List.getElem_cons_succ, List.getElem_cons_zero]
            go_simp
            refine hK.out _ _ hSd ?_
            clear hK K
            (try simp only [Act.put, List.getElem_toArray, List.getElem_cons_succ, List.getElem_cons_zero, List.setIfInBounds_toArray, List.set_cons_zero, List.set_cons_succ])
            refine wpAnyH_done (by kernel_rfl) ?_ _
            go_wp2
            go_roundw
            case rel => exact ⟨i + 1, by omega, by go_num, by rw [xsS_succ, ysS_succ, ← hxe.out, ← hye.out]; exact hT⟩
            case measure => simp only [intOf]; omega
        · simp only [List.getElem_toArray, List.getElem_cons_succ, List.getElem_cons_zero]
          go_simp
          have hBy : Below (wd).heap.size (wd) ((wd).alloc (.cells #[.int .u64 (y : Int)] 30)) := below_alloc1 _ _
          have hTwk1 := hT.below hBy
          have hLy : Lt ((wd).alloc (.cells #[.int .u64 (y : Int)] 30)) (wd).heap.size y := lt_new _ _
          have hNy := hT.fresh (wd).heap.size (Nat.le_refl _)
          obtain ⟨gy, hgy⟩ : ∃ g, g = (wd).heap.size := ⟨_, rfl⟩
          rw [← hgy] at hLy hNy ⊢
          clear hgy
          replace hSd := hSof.out _ hTwk1.bl
          refine hK.out _ _ hSd ?_
          clear hK K hT hBy
          generalize (wd).alloc (.cells #[.int .u64 (y : Int)] 30) = wk1 at *
          replace hT := hTwk1
          clear hTwk1
          (try simp only [Act.put, List.getElem_toArray, List.getElem_cons_succ, List.getElem_cons_zero, List.setIfInBounds_toArray, List.set_cons_zero, List.set_cons_succ])
          refine wpAnyH_oneD (i := 8) rfl (by kernel_rfl) (fun K hK => ?_)
          simp only [List.getElem_toArray, List.getElem_cons_succ, List.getElem_cons_zero]
          go_simp
          refine Calls.mono (cP _) ?_
          rintro e w8 ⟨rfl, hw⟩
          rw [hw]
          refine hK.out _ _ hSd ?_
          clear hK K hw
          (try simp only [Act.put, List.getElem_toArray, List.getElem_cons_succ, List.getElem_cons_zero, List.setIfInBounds_toArray, List.set_cons_zero, List.set_cons_succ])
          refine wpAnyH_oneD (i := 9) rfl (by kernel_rfl) (fun K hK => ?_)
          simp only [List.getElem_toArray, List.getElem_cons_succ, List.getElem_cons_zero]
          go_simp
          have hBx : Below (wk1).heap.size (wk1) ((wk1).alloc (.cells #[.int .u64 (x : Int)] 30)) := below_alloc1 _ _
          have hTwk2 := hT.below hBx
          have hLx : Lt ((wk1).alloc (.cells #[.int .u64 (x : Int)] 30)) (wk1).heap.size x := lt_new _ _
          have hNx := hT.fresh (wk1).heap.size (Nat.le_refl _)
          obtain ⟨gx, hgx⟩ : ∃ g, g = (wk1).heap.size := ⟨_, rfl⟩
          rw [← hgx] at hLx hNx ⊢
          have hLy2 := hLy.below hBx
          clear hLy
          have hLy := hLy2
          clear hLy2
          clear hgx
          replace hSd := hSof.out _ hTwk2.bl
          refine hK.out _ _ hSd ?_
          clear hK K hT hBx
          generalize (wk1).alloc (.cells #[.int .u64 (x : Int)] 30) = wk2 at *
          replace hT := hTwk2
          clear hTwk2
          (try simp only [Act.put, List.getElem_toArray, List.getElem_cons_succ, List.getElem_cons_zero, List.setIfInBounds_toArray, List.set_cons_zero, List.set_cons_succ])
          refine wpAnyH_oneD (i := 10) rfl (by kernel_rfl) (fun K hK => ?_)
          refine step_appX rfl (.tmp 22) (.tmp 31) rfl hT hLx ?s1wk3x17 ?s2wk3x17 (by rw [xsS_length]; omega) ?s4wk3x17
          case s1wk3x17 => rfl
          case s2wk3x17 => rfl
          intro vx wk3 hT2 hgr
          have hLy2 := hLy.grown hgr hNy.1
          clear hLy
          have hLy := hLy2
          clear hLy2
          have hSd2 := hSof.out _ hT2.bl
          refine hK.out _ _ hSd2 ?_
          clear hK K hSd hT hLx hNx hgr
          have hSd := hSd2
          clear hSd2
          have hT := hT2
          clear hT2
          (try simp only [Act.put, List.getElem_toArray, List.getElem_cons_succ, List.getElem_cons_zero, List.setIfInBounds_toArray, List.set_cons_zero, List.set_cons_succ])
          refine wpAnyH_oneD (i := 18) rfl (by kernel_rfl) (fun K hK => ?_)
          refine step_appX rfl (.tmp 33) (.tmp 39) rfl hT.swap hLy ?s1wk4y18 ?s2wk4y18 (by rw [ysS_length]; omega) ?s4wk4y18
          case s1wk4y18 => rfl
          case s2wk4y18 => rfl
          intro vy wk4 hT2 hgr
          have hSd2 := hSof.out _ hT2.bl
          refine hK.out _ _ hSd2 ?_
          clear hK K hSd hT hLy hNy hgr
          have hSd := hSd2
          clear hSd2
          have hT := hT2.swap
          clear hT2
          (try simp only [Act.put, List.getElem_toArray, List.getElem_cons_succ, List.getElem_cons_zero, List.setIfInBounds_toArray, List.set_cons_zero, List.set_cons_succ])
          refine wpAnyH_oneD (i := 19) rfl (by kernel_rfl) (fun K hK => ?_)
          simp only [List.getElem_toArray, List.getElem_cons_succ, List.getElem_cons_zero]
          go_simp
          refine hK.out _ _ hSd ?_
          clear hK K
          (try simp only [Act.put, List.getElem_toArray, List.getElem_cons_succ, List.getElem_cons_zero, List.setIfInBounds_toArray, List.set_cons_zero, List.set_cons_succ])
          refine wpAnyH_oneD (i := 20) rfl (by kernel_rfl) (fun K hK => ?_)
          simp only [List.getElem_toArray, List.getElem_cons_succ, List.getElem_cons_zero]
          go_simp
          refine hK.out _ _ hSd ?_
          clear hK K
          (try simp only [Act.put, List.getElem_toArray, List.getElem_cons_succ, List.getElem_cons_zero, List.setIfInBounds_toArray, List.set_cons_zero, List.set_cons_succ])
          refine wpAnyH_done (by kernel_rfl) ?_ _
          go_wp2
          go_roundw
          case rel => exact ⟨i + 1, by omega, by go_num, by rw [xsS_succ, ysS_succ, ← hxe.out, ← hye.out]; exact hT⟩
          case measure => simp only [intOf]; omega
      · simp only [List.getElem_toArray, List.getElem_cons_succ, List.getElem_cons_zero]
        go_simp
        have hBy : Below (wd).heap.size (wd) ((wd).alloc (.cells #[.int .u64 (y : Int)] 30)) := below_alloc1 _ _
        have hTwk1 := hT.below hBy
        have hLy : Lt ((wd).alloc (.cells #[.int .u64 (y : Int)] 30)) (wd).heap.size y := lt_new _ _
        have hNy := hT.fresh (wd).heap.size (Nat.le_refl _)
        obtain ⟨gy, hgy⟩ : ∃ g, g = (wd).heap.size := ⟨_, rfl⟩
        rw [← hgy] at hLy hNy ⊢
        clear hgy
        replace hSd := hSof.out _ hTwk1.bl
        refine hK.out _ _ hSd ?_
        clear hK K hT hBy
        generalize (wd).alloc (.cells #[.int .u64 (y : Int)] 30) = wk1 at *
        replace hT := hTwk1
        clear hTwk1
        (try simp only [Act.put, List.getElem_toArray, List.getElem_cons_succ, List.getElem_cons_zero, List.setIfInBounds_toArray, List.set_cons_zero, List.set_cons_succ])
        refine wpAnyH_oneD (i := 1) rfl (by kernel_rfl) (fun K hK => ?_)
        simp only [List.getElem_toArray, List.getElem_cons_succ, List.getElem_cons_zero]
        go_simp
        refine Calls.mono (cR _) ?_
        rintro e w8 ⟨rfl, hw⟩
        rw [hw]
        refine hK.out _ _ hSd ?_
        clear hK K hw
        (try simp only [Act.put, List.getElem_toArray, List.getElem_cons_succ, List.getElem_cons_zero, List.setIfInBounds_toArray, List.set_cons_zero, List.set_cons_succ])
        refine wpAnyH_oneD (i := 8) rfl (by kernel_rfl) (fun K hK => ?_)
        simp only [List.getElem_toArray, List.getElem_cons_succ, List.getElem_cons_zero]
        go_simp
        refine Calls.mono (cP _) ?_
        rintro e w8 ⟨rfl, hw⟩
        rw [hw]
        refine hK.out _ _ hSd ?_
        clear hK K hw
        (try simp only [Act.put, List.getElem_toArray, List.getElem_cons_succ, List.getElem_cons_zero, List.setIfInBounds_toArray, List.set_cons_zero, List.set_cons_succ])
        refine wpAnyH_oneD (i := 9) rfl (by kernel_rfl) (fun K hK => ?_)
        simp only [List.getElem_toArray, List.getElem_cons_succ, List.getElem_cons_zero]
        go_simp
        have hBx : Below (wk1).heap.size (wk1) ((wk1).alloc (.cells #[.int .u64 (x : Int)] 30)) := below_alloc1 _ _
        have hTwk2 := hT.below hBx
        have hLx : Lt ((wk1).alloc (.cells #[.int .u64 (x : Int)] 30)) (wk1).heap.size x := lt_new _ _
        have hNx := hT.fresh (wk1).heap.size (Nat.le_refl _)
        obtain ⟨gx, hgx⟩ : ∃ g, g = (wk1).heap.size := ⟨_, rfl⟩
        rw [← hgx] at hLx hNx ⊢
        have hLy2 := hLy.below hBx
        clear hLy
        have hLy := hLy2
        clear hLy2
        clear hgx
        replace hSd := hSof.out _ hTwk2.bl
        refine hK.out _ _ hSd ?_
        clear hK K hT hBx
        generalize (wk1).alloc (.cells #[.int .u64 (x : Int)] 30) = wk2 at *
        replace hT := hTwk2
        clear hTwk2
        (try simp only [Act.put, List.getElem_toArray, List.getElem_cons_succ, List.getElem_cons_zero, List.setIfInBounds_toArray, List.set_cons_zero, List.set_cons_succ])
        refine wpAnyH_oneD (i := 10) rfl (by kernel_rfl) (fun K hK => ?_)
        refine step_appX rfl (.tmp 22) (.tmp 31) rfl hT hLx ?s1wk3x19 ?s2wk3x19 (by rw [xsS_length]; omega) ?s4wk3x19
        case s1wk3x19 => rfl
        case s2wk3x19 => rfl
        intro vx wk3 hT2 hgr
        have hLy2 := hLy.grown hgr hNy.1
        clear hLy
        have hLy := hLy2
        clear hLy2
        have hSd2 := hSof.out _ hT2.bl
        refine hK.out _ _ hSd2 ?_
        clear hK K hSd hT hLx hNx hgr
        have hSd := hSd2
        clear hSd2
        have hT := hT2
        clear hT2
        (try simp only [Act.put, List.getElem_toArray, List.getElem_cons_succ, List.getElem_cons_zero, List.setIfInBounds_toArray, List.set_cons_zero, List.set_cons_succ])
        refine wpAnyH_oneD (i := 18) rfl (by kernel_rfl) (fun K hK => ?_)
        refine step_appX rfl (.tmp 33) (.tmp 39) rfl hT.swap hLy ?s1wk4y20 ?s2wk4y20 (by rw [ysS_length]; omega) ?s4wk4y20
        case s1wk4y20 => rfl
        case s2wk4y20 => rfl
        intro vy wk4 hT2 hgr
        have hSd2 := hSof.out _ hT2.bl
        refine hK.out _ _ hSd2 ?_
        clear hK K hSd hT hLy hNy hgr
        have hSd := hSd2
        clear hSd2
        have hT := hT2.swap
        clear hT2
        (try simp only [Act.put, List.getElem_toArray, List.getElem_cons_succ, List.getElem_cons_zero, List.setIfInBounds_toArray, List.set_cons_zero, List.set_cons_succ])
        refine wpAnyH_oneD (i := 19) rfl (by kernel_rfl) (fun K hK => ?_)
        simp only [List.getElem_toArray, List.getElem_cons_succ, List.getElem_cons_zero]
        go_simp
        refine hK.out _ _ hSd ?_
        clear hK K
        (try simp only [Act.put, List.getElem_toArray, List.getElem_cons_succ, List.getElem_cons_zero, List.setIfInBounds_toArray, List.set_cons_zero, List.set_cons_succ])
        refine wpAnyH_oneD (i := 20) rfl (by kernel_rfl) (fun K hK => ?_)
        simp only [List.getElem_toArray, List.getElem_cons_succ, List.getElem_cons_zero]
        go_simp
        refine hK.out _ _ hSd ?_
        clear hK K
        (try simp only [Act.put, List.getElem_toArray, List.getElem_cons_succ, List.getElem_cons_zero, List.setIfInBounds_toArray, List.set_cons_zero, List.set_cons_succ])
        refine wpAnyH_done (by kernel_rfl) ?_ _
        go_wp2
        go_roundw
        case rel => exact ⟨i + 1, by omega, by go_num, by rw [xsS_succ, ysS_succ, ← hxe.out, ← hye.out]; exact hT⟩
        case measure => simp only [intOf]; omega
    · have e : n = i := by omega
      subst e
      have hnl : ¬ n < n := Nat.lt_irrefl _
      have hU1 := hT.ox.isU (xsS_rng L n)
      have hU2 := hT.oy.isU (ysS_rng L n hsr2.out)
      have cT := ref_ThroughF wr _ _ (xsS L n) (ysS L n) hU1 hU2 hPt.out
      rw [xsS_length] at cT
      have hBw := hT.bl
      clear hT hU1 hU2
      go_wp2_with (go_at_call 20; refine Calls.mono cT ?_; rintro e w2 ⟨u, l, rfl, hU, hG, hO, hb2⟩; clear cT; have hB2 := hBw.trans (hb2.mono hBw.size); have hO2 := hO.mono hBw.size; clear hO hb2 hBw; replace hG : Hid _ := hG)
      go_loopw [10] (fun vi wr => ∃ j : Nat, j ≤ n ∧ vi = .int .i64 (j : Int) ∧ Hid (Has l L j) ∧ IsU wr u l ∧ Ow w.heap.size wr u l ∧ Below w.heap.size w wr)
        (fun vi _ => n - (intOf vi).toNat)
      case atStart => exact ⟨0, Nat.zero_le _, rfl, fun i hi => absurd hi (by omega), hU, hO2, hB2⟩
      case round =>
        clear hU hO2 hB2
        obtain ⟨j, hj, rfl, hH, hU, hO2, hB2⟩ := hrel
        by_cases hlt : j < n
        · obtain ⟨b, off, rfl, c0, c1⟩ := hc.out j hlt
          obtain ⟨t, ht, ht63⟩ := hat.out j hlt
          have hsy := hsr.out j hlt
          have hpl : Hid (plS L j = toF (fW (rt 6) t)) := by show _ = _; unfold plS; rw [ht, toF_fW]; rfl
          rw [ht] at c0
          obtain ⟨y, hye0⟩ : ∃ y, y = syS L j := ⟨_, rfl⟩
          have hye : Hid (y = syS L j) := hye0
          rw [← hye0] at c1 hsy
          clear hye0 ht
          have d0 := (hB2.cell (block_lt c0)).trans c0
          have d1 := (hB2.cell (block_lt c1)).trans c1
          clear c0 c1
          have hpe : Hid (pE l (fW (rt 6) t) = (evF (l.map toF) (plS L j)).val) := by show _ = _; rw [hpl.out]; rfl
          have hno : Hid (fN y = (toF (syS L j)).val) := by show _ = _; rw [hye.out, fN_val]
          obtain ⟨x, hx0⟩ : ∃ x, x = fW (rt 6) t := ⟨_, rfl⟩
          have cR := ref_Root6
          have cP := fun (W : World) => ref_Pow (rt 6) t (by omega) W
          rw [← hx0] at cP hpe
          have hxl : (x : Int) < 18446744069414584321 := by rw [hx0]; exact fW_lt _ _
          clear hx0 hpl hye
          generalize rt 6 = r6 at cR cP
          have hwr : IntKind.u64.wrap (t : Int) = (t : Int) := by rw [IntKind.wrap_u64]; omega
          have cE := fun (n : Nat) => ref_Eval (wr.drewN n) u l x (hU.below (below_drewN (Below.refl _ _) n))
          have cN := ref_Norm y
          by_cases hf : evF (l.map toF) (plS L j) = toF (syS L j)
          · have hH2 : Hid (Has l L (j + 1)) := fun i hi => by
              rcases Nat.lt_or_ge i j with q | q
              · exact hH.out i q
              · obtain rfl : i = j := by omega
                exact hf
            have he : pE l x = fN y := by rw [hpe.out, hno.out, hf]
            rw [he] at cE
            clear hf hpe hno he hH
            generalize fN y = z at *
            have hzz : ((z : Int) != (z : Int)) = false := by simp
            have hUg := hU
            obtain ⟨au, cu, rfl, -⟩ := hUg
            go_wp2
            go_quiet (first | (go_at_call 17; exact Calls.quiet_of_same (cR _)) | (go_at_call 16; exact Calls.quiet_of_same (cP _)) | (go_at_call 15; exact Calls.quiet_of_same (cE _)) | (go_at_call 21; exact Calls.quiet_of_same (cN _)))
            have hbq := below_drewN (Below.refl wr.heap.size wr) nq
            have hU3 := hU.below hbq
            have hO3 := hO2.below hbq
            have hB3 := hB2.trans (hbq.mono hB2.size)
            clear hU hO2 hB2 hbq cR cP cE cN d0 d1
            generalize wr.drewN nq = w7 at *
            go_wp2
            go_roundw
            case rel => exact ⟨j + 1, by omega, by go_num, hH2, hU3, hO3, hB3⟩
            case measure => simp only [intOf]; omega
          · exact absurd ((Goes.has hG.out) j hlt) hf
        · have e : n = j := by omega
          subst e
          have hnl : ¬ n < n := Nat.lt_irrefl _
          obtain ⟨f1, f2⟩ := hfew.out
          clear hfew
          subst f1
          subst f2
          clear hG hH hU hc hat hsr hS' hO2
          go_wp2
          go_ret2
          exact ⟨_, rfl, IsU.nil _, hB2⟩
theorem ref_Data (w : World) (k : Int) (v : Value) (L : List (Int × Nat)) (h : IsS w v L) (h0 : shE k L = 0) :
    Calls Try.prog 11 #[.int .i64 k, v] w fun e w' => ∃ u, e = .returned (.tuple #[u, .int .i64 (rcE k L)]) ∧ IsU w' u (rcL k L) ∧ Below w.heap.size w w' := by
  by_cases hl : (L.length : Int) < k
  · exact ref_Data_few w k v L h h0 hl
  · exact ref_Data_ok w k v L h h0 hl

end Go.Proofs.Ytjbdpjbcibhflac
