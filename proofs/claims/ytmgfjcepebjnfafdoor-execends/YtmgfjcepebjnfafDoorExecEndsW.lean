/-
  The walk of the law ExecEnds: whatever is handed in, a run ends when each worker goes on in turn, with the transform, and the law returns true.
-/
import Derived.Test.YtmgfjcepebjnfafDoorExL
import Derived.Test.YtmgfjcepebjnfafDoorManyT
import Derived.Test.YtmgfjcepebjnfafDoorSlEqAll
namespace Go.Proofs.YtmgfjcepebjnfafDoor
open Go.RowKit

set_option maxRecDepth 100000 in
set_option maxHeartbeats 16000000 in
theorem execEnds_main (w : World) (v vx vp : Value) (zs : List Int) (ds xs : List Nat) (c : Nat) (wk : Int) (back : Bool) (K : List (List Int)) (hZ : IsZ w v zs) (hX : IsU w vx xs) (hK : IsR 2 w vp K) (hTb : Tab w) (hG : Good zs ds) (hds : prd2 ds ≤ 64) (hc : 1 ≤ c) (hc9 : (c : Int) ≤ 9223372036854775807) (hK9 : K.length ≤ 300) :
    Calls Tryd.prog 4 #[v, vx, .int .i64 (c : Int), .int .i64 wk, .bool back, vp] w fun e w' => e = .returned (.bool true) ∧ Below w.heap.size w w' := by
  have hW : Below w.heap.size w w := Below.refl _ _
  have hS : Hid (Shp ds) := hG.2.2.2
  have hFew := few_small hS.out hds c
  have cR := keep_runs w hTb
  have cSh : Hid (∀ W, IsZ W v zs → IsU W vx xs → Calls Tryd.prog 6 #[v, vx] W fun e w' => ∃ g, e = .returned (.tuple #[.slice (some ⟨g, 0, none⟩) (prd2 ds) (prd2 ds), .bool true]) ∧ IsU w' (.slice (some ⟨g, 0, none⟩) (prd2 ds) (prd2 ds)) (szd xs (prd2 ds)) ∧ Below W.heap.size W w') := fun W hz hx => keep_shaped_ok W v vx zs ds xs hz hx hG hds
  have cMk : Hid (∀ W, IsZ W v zs → Calls Tryd.prog 7 #[v, .int .i64 (c : Int)] W fun e w' => ∃ u, e = .returned (.tuple #[u, .int .i64 0]) ∧ IsP 3 w' u (pls ds c ds.length) ∧ Below W.heap.size W w') := fun W hz => plan_Make_ok W v zs ds c hz hG (by omega) hc hc9 hFew
  have b1 := Int.emod_lt_of_pos wk (show (0 : Int) < 8 by omega)
  have b2 := Int.emod_nonneg wk (show (8 : Int) ≠ 0 by omega)
  have cRe := ref_Rest wk 8 (by omega) (by omega)
  obtain ⟨m, hm⟩ : ∃ m : Nat, wk % 8 = (m : Int) := ⟨(wk % 8).toNat, by omega⟩
  rw [hm] at cRe b1 b2
  have hm8 : m < 8 := by omega
  clear b1 b2 hm
  obtain ⟨Wn, hWn⟩ : ∃ Wn : Nat, Hid (Wn = m + 1) := ⟨_, rfl⟩
  have hN1 : Hid (1 + (m : Int) = (Wn : Int)) := by have := hWn.out; show _ = _; omega
  have hW1 : 1 ≤ Wn := by have := hWn.out; omega
  have hW8 : Wn ≤ 8 := by have := hWn.out; omega
  clear hWn
  have hlA : (szd xs (prd2 ds)).length = prd2 ds := szd_length _ _
  obtain ⟨A, hA⟩ : ∃ A, A = szd xs (prd2 ds) := ⟨_, rfl⟩
  rw [← hA] at cSh hlA
  have hst : Hid (Stc ds (pls ds c ds.length) (nmL A) Wn) := stc_of hG hds c hc A hlA Wn hW1 hW8
  have cN : Hid (∀ W u l, IsZ W v zs → IsU W u A → IsP 3 W l (pls ds c ds.length) → Calls Tryd.prog 8 #[v, u, l, .int .i64 (Wn : Int), .bool back] W fun e w' => ∃ p O, e = .returned (.tuple #[p, .int .i64 0]) ∧ Run w' p ds (pls ds c ds.length) (nmL A) Wn back (crew0 (pls ds c ds.length) (nmL A) Wn) O ∧ (∀ k, O k → W.heap.size ≤ k) ∧ Below W.heap.size W w') := fun W u l hz hu hp => exec_New W v u l zs ds A _ Wn back hz hu hp hG (by omega) hst.out.F hst.out.T9 (pls_notbig hFew) hlA hW1 hW8
  have cF : Hid (∀ W u, IsZ W v zs → IsU W u A → Below w.heap.size w W → Calls Tryd.prog 16 #[v, u] W fun e w' => ∃ u', e = .returned (.tuple #[u', .int .i64 0]) ∧ IsU w' u' (mk (prd2 ds) (who ds false (cf A) ds.length)) ∧ Below W.heap.size W w') := fun W u hz hu hb => many_Forward_ok W v u zs A ds hz hu (hTb.below hb) hG (by omega) hlA
  have cI : Hid (∀ W u, IsZ W v zs → IsU W u A → Below w.heap.size w W → Calls Tryd.prog 17 #[v, u] W fun e w' => ∃ u', e = .returned (.tuple #[u', .int .i64 0]) ∧ IsU w' u' (mk (prd2 ds) (who ds true (cf A) ds.length)) ∧ Below W.heap.size W w') := fun W u hz hu hb => many_Inverse_ok W v u zs A ds hz hu (hTb.below hb) hG (by omega) hlA
  have cS : Hid (∀ (W : World) (p : Value) (cc : Crw) (O : Nat → Prop) (a b : Int), Run W p ds (pls ds c ds.length) (nmL A) Wn back cc O → Below w.heap.size w W → (∀ k, O k → w.heap.size ≤ k) → Calls Tryd.prog 10 #[p, .agg #[.int .i64 a, .int .i64 b]] W fun e w' => e = .returned (.int .i64 (pickE cc a b)) ∧ ∃ O', Run w' p ds (pls ds c ds.length) (nmL A) Wn back (pickC ds back (pls ds c ds.length) cc a b) O' ∧ (∀ k, O' k → O k ∨ W.heap.size ≤ k) ∧ But O W w') := fun W p cc O a b h hb hn => run_Step w hTb hb h hn hst.out hS.out a b
  have cD : Hid (∀ (W : World) (p : Value) (cc : Crw) (O : Nat → Prop), Run W p ds (pls ds c ds.length) (nmL A) Wn back cc O → Calls Tryd.prog 13 #[p] W fun e w' => e = .returned (.bool cc.fin) ∧ Below W.heap.size W w') := fun W p cc O h => run_Done h
  have cA : Hid (∀ (W : World) (p : Value) (cc : Crw) (O : Nat → Prop), Run W p ds (pls ds c ds.length) (nmL A) Wn back cc O → Calls Tryd.prog 19 #[p] W fun e w' => ∃ g cap, e = .returned (.slice (some ⟨g, 0, none⟩) (prd2 ds) cap) ∧ w'.ownsRow W.heap.size 52 1 (.slice (some ⟨g, 0, none⟩) (prd2 ds) cap) (prd2 ds) (cellsU cc.A) ∧ Below W.heap.size W w') := fun W p cc O h => run_Array h hst.out hS.out
  have hend : Hid (∀ (W : World) (p : Value) (cc : Crw) (O : Nat → Prop) (n : Nat), Run W p ds (pls ds c ds.length) (nmL A) Wn back cc O → (pls ds c ds.length).flatten.length ≤ n → (rounds ds back (pls ds c ds.length) Wn cc n).fin = true ∧ (rounds ds back (pls ds c ds.length) Wn cc n).A = mk (prd2 ds) (who ds back (cf A) ds.length)) := fun W p cc O n h hn => by
    obtain ⟨P, dn, hI⟩ := h.inv
    have q := hI.ends hS.out hst.out.F hW1 (by rw [nmL_length]; exact hlA) hst.out.d1 n hn
    rw [cf_nmL] at q
    exact q
  have hmk : Hid (∀ x ∈ mk (prd2 ds) (who ds back (cf A) ds.length), ((x : Nat) : Int) < 18446744073709551616) := Rng_of_P (mk_lt _ _)
  have hT9 : Hid (∀ i, ((pls ds c ds.length).getD i []).length ≤ 64) := hst.out.T9
  have hL3 : (pls ds c ds.length).length ≤ 3 := hst.out.L9
  have hfl := flat_most _ hst.out.T9
  obtain ⟨ak, ck, rfl, -⟩ := id hK
  clear hG hA hlA hFew hst hc
  generalize pls ds c ds.length = L at *
  go_enter Tryd.func4, Tryd.ntmps4
  go_wp2_with (first
    | (go_at_call 5; refine Calls.mono cR ?_; rintro e w1 ⟨rfl, hb⟩; clear cR; replace hZ := hZ.below hb; replace hX := hX.below hb; replace hK := hK.below hb; replace hW := hb; clear hb)
    | (go_at_call 6; refine Calls.mono (cSh.out _ hZ hX) ?_; rintro e w3 ⟨ga, rfl, hU3, hb⟩; clear cSh hX; replace hZ := hZ.below hb; replace hK := hK.below hb; replace hW := hW.trans (hb.mono hW.size); clear hb)
    | (go_at_call 7; refine Calls.mono (cMk.out _ hZ) ?_; rintro e w4 ⟨u4, rfl, hP, hb⟩; clear cMk; replace hZ := hZ.below hb; replace hK := hK.below hb; replace hU3 := hU3.below hb; replace hW := hW.trans (hb.mono hW.size); clear hb; obtain ⟨al, cl, rfl, -⟩ := id hP)
    | (go_at_call 9; refine Calls.mono (cRe _) ?_; rintro e w' ⟨rfl, hw⟩; rw [hw]; clear hw cRe)
    | (go_at_call 8; rw [hN1.out]; refine Calls.mono (cN.out _ _ _ hZ hU3 hP) ?_; rintro e w5 ⟨p, O5, rfl, hR5, hO5, hb5⟩; clear cN; replace hR5 : Hid _ := hR5))
  have hs4 := hW.size
  have cS4 : Hid (∀ (W : World) (cc : Crw) (O : Nat → Prop) (a b : Int), Run W p ds L (nmL A) Wn back cc O → Below w4.heap.size w4 W → (∀ k, O k → w4.heap.size ≤ k) → Calls Tryd.prog 10 #[p, .agg #[.int .i64 a, .int .i64 b]] W fun e w' => e = .returned (.int .i64 (pickE cc a b)) ∧ ∃ O', Run w' p ds L (nmL A) Wn back (pickC ds back L cc a b) O' ∧ (∀ k, O' k → w4.heap.size ≤ k) ∧ Below w4.heap.size w4 w') := fun W cc O a b h hb hn => (cS.out W p cc O a b h (hW.trans (hb.mono hs4)) fun k q => Nat.le_trans hs4 (hn k q)).mono fun e w' hh => by
    obtain ⟨rfl, O', h1, h2, h3⟩ := hh
    obtain ⟨h4, h5⟩ := but_next hb hn h2 h3
    exact ⟨rfl, O', h1, h5, h4⟩
  clear cS
  go_loopw [66] (fun vi wr => ∃ (i : Nat) (O : Nat → Prop) (cc : Crw), i ≤ K.length ∧ vi = .int .i64 (i : Int) ∧ Hid (Run wr p ds L (nmL A) Wn back cc O) ∧ (∀ k, O k → w4.heap.size ≤ k) ∧ Below w4.heap.size w4 wr)
    (fun vi _ => K.length - (intOf vi).toNat)
  case atStart => exact ⟨0, O5, _, Nat.zero_le _, rfl, hR5, hO5, hb5⟩
  case round =>
    clear hR5 hO5 hb5
    obtain ⟨i, Oi, cc, hi, rfl, hR, hO, hb⟩ := hrel
    by_cases hlt : i < K.length
    · obtain ⟨b, off, cap, pa, pb, e0, x0, x1⟩ := pick_cells hK hb i hlt
      simp only [Value.slice.injEq] at e0
      obtain ⟨rfl, -, rfl⟩ := e0
      have cSi := fun (o : Obj) => cS4.out (wr.alloc o) cc Oi pa pb (hR.out.below (below_alloc1 wr o)) (hb.trans ((below_alloc1 wr o).mono hb.size)) hO
      clear hR cF cI cA cD hend
      go_wp2_with (go_at_call 10; refine Calls.mono (cSi _) ?_; rintro e w6 ⟨rfl, O6, hR6, hO6, hb6⟩; clear cSi; replace hR6 : Hid _ := hR6)
      go_roundw
      case rel => exact ⟨i + 1, O6, _, by omega, by go_num, hR6, hO6, hb6⟩
      case measure => simp only [intOf]; omega
    · have hge : K.length ≤ i := by omega
      have hcl : Hid (∀ x, x < L.length → ∃ b off u n q, al = some ⟨b, off, none⟩ ∧ u = .slice q (L.getD x []).length n ∧ wr.cell? ⟨b, off + x, none⟩ = some u) := fun x hx => by
        obtain ⟨a', cap', e, -, -, hc⟩ := hP.below hb
        simp only [Value.slice.injEq] at e
        obtain ⟨rfl, -, rfl⟩ := e
        obtain ⟨b, off, u, rfl, hcell, q, n, rfl, -⟩ := hc x hx
        exact ⟨b, off, _, n, q, rfl, rfl, hcell⟩
      have hWr := hW.trans (hb.mono hs4)
      clear hK
      obtain ⟨w7, hw7⟩ : ∃ w7 : World, w7 = wr := ⟨_, rfl⟩
      rw [← hw7] at hR hb hcl hWr ⊢
      clear hw7
      go_wp2
      go_loopw [21, 76] (fun vn vi wr => ∃ (x s : Nat), x ≤ L.length ∧ vi = .int .i64 (x : Int) ∧ vn = .int .i64 (s : Int) ∧ Hid (s = (L.take x).flatten.length) ∧ s ≤ 64 * x ∧ wr = w7)
        (fun _ vi _ => L.length - (intOf vi).toNat)
      case atStart => exact ⟨0, 0, Nat.zero_le _, rfl, rfl, rfl, Nat.zero_le _, rfl⟩
      case round =>
        obtain ⟨x, sn, hx, rfl, rfl, hsn, hsn9, hwr⟩ := hrel
        rw [hwr]
        by_cases hlx : x < L.length
        · obtain ⟨b, off, u, n, q, rfl, rfl, hcx⟩ := hcl.out x hlx
          have hl2 := hT9.out x
          have hs2 : Hid (sn + (L.getD x []).length = (L.take (x + 1)).flatten.length) := by
            show _ = _
            rw [flat_take_succ _ _ hlx, ← hsn.out]
          generalize (L.getD x []).length = y at *
          clear cF cI cA cD hend cS4 hR
          go_wp2
          go_roundw
          case rel => exact ⟨x + 1, sn + y, by omega, by go_num, by go_num, hs2, by omega, by trivial⟩
          case measure => simp only [intOf]; omega
        · have he : x = L.length := by omega
          have hgx : L.length ≤ x := by omega
          have hN : Hid (L.flatten.length ≤ sn) := by
            have h1 := hsn.out
            rw [he, List.take_length] at h1
            exact Nat.le_of_eq h1.symm
          have hsn2 : sn ≤ 192 := by omega
          have hfi : Hid (∀ n, L.flatten.length ≤ n → (rounds ds back L Wn cc n).fin = true ∧ (rounds ds back L Wn cc n).A = mk (prd2 ds) (who ds back (cf A) ds.length)) := fun n hn => hend.out w7 p cc Oi n hR.out hn
          clear hcl hsn he hwr hend
          go_wp2
          go_loopw [86] (fun vj wr => ∃ (j : Nat) (O : Nat → Prop), j ≤ sn ∧ vj = .int .i64 (j : Int) ∧ Hid (Run wr p ds L (nmL A) Wn back (rounds ds back L Wn cc j) O) ∧ (∀ k, O k → w4.heap.size ≤ k) ∧ Below w4.heap.size w4 wr)
            (fun vj _ => sn - (intOf vj).toNat)
          case atStart => exact ⟨0, Oi, Nat.zero_le _, rfl, hR, hO, hb⟩
          case round =>
            clear hR hO hb
            obtain ⟨j, Oj, hj, rfl, hRj, hOj, hbj⟩ := hrel
            by_cases hlj : j < sn
            · go_wp2
              go_loopw [89] (fun vk wr => ∃ (k : Nat) (O : Nat → Prop), k ≤ Wn ∧ vk = .int .i64 (k : Int) ∧ Hid (Run wr p ds L (nmL A) Wn back (roundK ds back L Wn (rounds ds back L Wn cc j) k) O) ∧ (∀ k, O k → w4.heap.size ≤ k) ∧ Below w4.heap.size w4 wr)
                (fun vk _ => Wn - (intOf vk).toNat)
              case atStart => exact ⟨0, Oj, Nat.zero_le _, rfl, hRj, hOj, hbj⟩
              case round =>
                clear hRj hOj hbj
                obtain ⟨k, Ok, hk, rfl, hRk, hOk, hbk⟩ := hrel
                by_cases hlk : k < Wn
                · have cSk := cS4.out wr _ Ok (k : Int) (((k + 1) % Wn : Nat) : Int) hRk.out hbk hOk
                  have hnext : Hid (pickC ds back L (roundK ds back L Wn (rounds ds back L Wn cc j) k) (k : Int) (((k + 1) % Wn : Nat) : Int) = roundK ds back L Wn (rounds ds back L Wn cc j) (k + 1)) := rfl
                  rw [hnext.out] at cSk
                  have hmod : Int.tmod ((k : Int) + 1) (Wn : Int) = (((k + 1) % Wn : Nat) : Int) := by rw [Int.tmod_eq_emod_of_nonneg (by omega), Int.natCast_emod]; rfl
                  have hml : (k + 1) % Wn < Wn := Nat.mod_lt _ (by omega)
                  have hWz : ¬ (Wn : Int) = 0 := by omega
                  generalize (k + 1) % Wn = km at *
                  clear hRk cF cI cA cD hfi hnext
                  go_wp2_with (go_at_call 10; refine Calls.mono cSk ?_; rintro e w8 ⟨rfl, O8, hR8, hO8, hb8⟩; clear cSk; replace hR8 : Hid _ := hR8)
                  go_roundw
                  case rel => exact ⟨k + 1, O8, by omega, by go_num, hR8, hO8, hb8⟩
                  case measure => simp only [intOf]; omega
                · have he : k = Wn := by omega
                  subst he
                  have hRn : Hid (Run wr p ds L (nmL A) k back (rounds ds back L k cc (j + 1)) Ok) := hRk
                  clear hRk hlk hk
                  go_wp2
                  go_roundw
                  case rel => exact ⟨j + 1, Ok, by omega, by go_num, hRn, hOk, hbk⟩
                  case measure => simp only [intOf]; omega
            · have he : j = sn := by omega
              have hgj : sn ≤ j := by omega
              subst he
              obtain ⟨hfin, hAe⟩ := hfi.out j hN.out
              have cD9 : Hid (∀ W, Below wr.heap.size wr W → Calls Tryd.prog 13 #[p] W fun e w' => e = .returned (.bool true) ∧ Below W.heap.size W w') := fun W hbW => by
                have q := cD.out W p _ Oj (hRj.out.below hbW)
                rw [hfin] at q
                exact q
              have cA9 : Hid (∀ W, Below wr.heap.size wr W → Calls Tryd.prog 19 #[p] W fun e w' => ∃ g cap, e = .returned (.slice (some ⟨g, 0, none⟩) (prd2 ds) cap) ∧ w'.ownsRow W.heap.size 52 1 (.slice (some ⟨g, 0, none⟩) (prd2 ds) cap) (prd2 ds) (cellsU (mk (prd2 ds) (who ds back (cf A) ds.length))) ∧ Below W.heap.size W w') := fun W hbW => by
                have q := cA.out W p _ Oj (hRj.out.below hbW)
                rw [hAe] at q
                exact q
              have cS9 : Hid (∀ W, Below wr.heap.size wr W → Calls Tryd.prog 10 #[p, .agg #[.int .i64 0, .int .i64 0]] W fun e w' => e = .returned (.int .i64 6) ∧ Below w4.heap.size w4 w') := fun W hbW => by
                have q := cS4.out W _ Oj 0 0 (hRj.out.below hbW) (hbj.trans (hbW.mono hbj.size)) hOj
                have hE : pickE (rounds ds back L Wn cc j) 0 0 = 6 := by unfold pickE; rw [hfin, if_pos rfl]
                rw [hE] at q
                exact q.mono fun e w' hh => by
                  obtain ⟨rfl, O', _, _, h4⟩ := hh
                  exact ⟨rfl, h4⟩
              have hUr := hU3.below hbj
              have hZr := hZ.below hbj
              have hWr9 := hW.trans (hbj.mono hs4)
              have cF9 := cF.out wr _ hZr hUr hWr9
              have cI9 : Hid (∀ W, Below wr.heap.size wr W → Calls Tryd.prog 17 #[v, .slice (some ⟨ga, 0, none⟩) (prd2 ds) (prd2 ds)] W fun e w' => ∃ u', e = .returned (.tuple #[u', .int .i64 0]) ∧ IsU w' u' (mk (prd2 ds) (who ds true (cf A) ds.length)) ∧ Below W.heap.size W w') := fun W hbW => cI.out W _ (hZr.below hbW) (hUr.below hbW) (hWr9.trans (hbW.mono hWr9.size))
              clear hRj cF cI cA cD hfi cS4 hfin hAe hUr hZr hU3 hZ hP hN
              cases back with
              | false =>
                obtain ⟨WL, hWL⟩ : ∃ WL, WL = mk (prd2 ds) (who ds false (cf A) ds.length) := ⟨_, rfl⟩
                rw [← hWL] at cF9 cA9 hmk
                go_wp2_with (first
                  | (go_at_call 16; refine Calls.mono cF9 ?_; rintro e wa ⟨ua, rfl, hUa, hba⟩; clear cF9)
                  | (go_at_call 13; refine Calls.mono (cD9.out _ hba) ?_; rintro e wb ⟨rfl, hbb⟩; clear cD9; have hUb := hUa.below hbb; have hbb' := hba.trans (hbb.mono hba.size))
                  | (go_at_call 19; refine Calls.mono (cA9.out _ hbb') ?_; rintro e wc ⟨gc, cpc, rfl, hown, hbc⟩; clear cA9; have hUc := hUb.below hbc; have hVc := IsU.of_owns hown hmk.out; have hbc' := hbb'.trans (hbc.mono hbb'.size))
                  | (go_at_call 18; refine Calls.mono (slices_Equal _ _ _ WL hVc hUc) ?_; rintro e wd ⟨rfl, hbd⟩; have hbd' := hbc'.trans (hbd.mono hbc'.size))
                  | (go_at_call 10; refine Calls.mono (cS9.out _ hbd') ?_; rintro e we ⟨rfl, hbe⟩; clear cS9))
                go_ret
                exact ⟨rfl, hW.trans (hbe.mono hs4)⟩
              | true =>
                obtain ⟨WL, hWL⟩ : ∃ WL, WL = mk (prd2 ds) (who ds true (cf A) ds.length) := ⟨_, rfl⟩
                rw [← hWL] at cI9 cA9 hmk
                go_wp2_with (first
                  | (go_at_call 16; refine Calls.mono cF9 ?_; rintro e w0 ⟨u0, rfl, hU0, hb0⟩; clear cF9)
                  | (go_at_call 17; refine Calls.mono (cI9.out _ hb0) ?_; rintro e wa ⟨ua, rfl, hUa, hba0⟩; clear cI9; have hba := hb0.trans (hba0.mono hb0.size))
                  | (go_at_call 13; refine Calls.mono (cD9.out _ hba) ?_; rintro e wb ⟨rfl, hbb⟩; clear cD9; have hUb := hUa.below hbb; have hbb' := hba.trans (hbb.mono hba.size))
                  | (go_at_call 19; refine Calls.mono (cA9.out _ hbb') ?_; rintro e wc ⟨gc, cpc, rfl, hown, hbc⟩; clear cA9; have hUc := hUb.below hbc; have hVc := IsU.of_owns hown hmk.out; have hbc' := hbb'.trans (hbc.mono hbb'.size))
                  | (go_at_call 18; refine Calls.mono (slices_Equal _ _ _ WL hVc hUc) ?_; rintro e wd ⟨rfl, hbd⟩; have hbd' := hbc'.trans (hbd.mono hbc'.size))
                  | (go_at_call 10; refine Calls.mono (cS9.out _ hbd') ?_; rintro e we ⟨rfl, hbe⟩; clear cS9))
                go_ret
                exact ⟨rfl, hW.trans (hbe.mono hs4)⟩

set_option maxHeartbeats 4000000 in
theorem execEnds_no (w : World) (v vx vp : Value) (zs : List Int) (c wk : Int) (back : Bool) (hZ : IsZ w v zs) (hTb : Tab w) (hno : ∀ ds, Good zs ds → 64 < prd2 ds) :
    Calls Tryd.prog 4 #[v, vx, .int .i64 c, .int .i64 wk, .bool back, vp] w fun e w' => e = .returned (.bool true) ∧ Below w.heap.size w w' := by
  have cR := keep_runs w hTb
  have cSh := fun W (hz : IsZ W v zs) => keep_shaped_no W v vx zs hz hno
  clear hno
  go_enter Tryd.func4, Tryd.ntmps4
  go_wp2_with (first
    | (go_at_call 5; refine Calls.mono cR ?_; rintro e w1 ⟨rfl, hb⟩; clear cR; replace hZ := hZ.below hb)
    | (go_at_call 6; refine Calls.mono (cSh _ hZ) ?_; rintro e w' ⟨rfl, hw⟩; rw [hw]; clear hw))
  go_ret
  exact ⟨rfl, hb⟩
set_option maxHeartbeats 4000000 in
theorem execEnds_many (w : World) (v vx vp : Value) (zs : List Int) (ds xs : List Nat) (c wk : Int) (back : Bool) (K : List (List Int)) (hZ : IsZ w v zs) (hX : IsU w vx xs) (hK : IsR 2 w vp K) (hTb : Tab w) (hG : Good zs ds) (hds : prd2 ds ≤ 64) (hK9 : 300 < K.length) :
    Calls Tryd.prog 4 #[v, vx, .int .i64 c, .int .i64 wk, .bool back, vp] w fun e w' => e = .returned (.bool true) ∧ Below w.heap.size w w' := by
  have cR := keep_runs w hTb
  have cSh : Hid (∀ W, IsZ W v zs → IsU W vx xs → Calls Tryd.prog 6 #[v, vx] W fun e w' => ∃ g, e = .returned (.tuple #[.slice (some ⟨g, 0, none⟩) (prd2 ds) (prd2 ds), .bool true]) ∧ IsU w' (.slice (some ⟨g, 0, none⟩) (prd2 ds) (prd2 ds)) (szd xs (prd2 ds)) ∧ Below W.heap.size W w') := fun W hz hx => keep_shaped_ok W v vx zs ds xs hz hx hG hds
  obtain ⟨ak, ck, rfl, -⟩ := hK
  clear hG
  go_enter Tryd.func4, Tryd.ntmps4
  go_wp2_with (first
    | (go_at_call 5; refine Calls.mono cR ?_; rintro e w1 ⟨rfl, hb⟩; clear cR; replace hZ := hZ.below hb; replace hX := hX.below hb)
    | (go_at_call 6; refine Calls.mono (cSh.out _ hZ hX) ?_; rintro e w3 ⟨ga, rfl, hU3, hb3⟩; clear cSh))
  go_ret
  exact ⟨rfl, hb.trans (hb3.mono hb.size)⟩
set_option maxHeartbeats 4000000 in
theorem execEnds_cut (w : World) (v vx vp : Value) (zs : List Int) (ds xs : List Nat) (c wk : Int) (back : Bool) (K : List (List Int)) (hZ : IsZ w v zs) (hX : IsU w vx xs) (hK : IsR 2 w vp K) (hTb : Tab w) (hG : Good zs ds) (hds : prd2 ds ≤ 64) (hK9 : K.length ≤ 300) (hc : c < 1) :
    Calls Tryd.prog 4 #[v, vx, .int .i64 c, .int .i64 wk, .bool back, vp] w fun e w' => e = .returned (.bool true) ∧ Below w.heap.size w w' := by
  have cR := keep_runs w hTb
  have cSh : Hid (∀ W, IsZ W v zs → IsU W vx xs → Calls Tryd.prog 6 #[v, vx] W fun e w' => ∃ g, e = .returned (.tuple #[.slice (some ⟨g, 0, none⟩) (prd2 ds) (prd2 ds), .bool true]) ∧ IsU w' (.slice (some ⟨g, 0, none⟩) (prd2 ds) (prd2 ds)) (szd xs (prd2 ds)) ∧ Below W.heap.size W w') := fun W hz hx => keep_shaped_ok W v vx zs ds xs hz hx hG hds
  have cMk : Hid (∀ W, IsZ W v zs → Calls Tryd.prog 7 #[v, .int .i64 c] W fun e w' => ∃ u, e = .returned (.tuple #[u, .int .i64 1]) ∧ IsP 3 w' u [] ∧ Below W.heap.size W w') := fun W hz => plan_Make_cut W v zs ds c hz hG (by omega) hc
  obtain ⟨ak, ck, rfl, -⟩ := hK
  clear hG
  go_enter Tryd.func4, Tryd.ntmps4
  go_wp2_with (first
    | (go_at_call 5; refine Calls.mono cR ?_; rintro e w1 ⟨rfl, hb⟩; clear cR; replace hZ := hZ.below hb; replace hX := hX.below hb)
    | (go_at_call 6; refine Calls.mono (cSh.out _ hZ hX) ?_; rintro e w3 ⟨ga, rfl, hU3, hb3⟩; clear cSh; replace hZ := hZ.below hb3; have hb3' := hb.trans (hb3.mono hb.size))
    | (go_at_call 7; refine Calls.mono (cMk.out _ hZ) ?_; rintro e w4 ⟨u4, rfl, hP, hb4⟩; clear cMk; have hb4' := hb3'.trans (hb4.mono hb3'.size)))
  go_ret
  exact ⟨rfl, hb4'⟩

theorem execEnds_walk (w : World) (v : Value) (zs : List Int) (hZ : IsZ w v zs) (vx : Value) (xs : List Nat) (hX : IsU w vx xs) (c : Int) (hc : (Lit.int .i64 c).wf = true) (wk : Int) (_hwk : (Lit.int .i64 wk).wf = true) (back : Bool) (vp : Value) (K : List (List Int)) (hK : IsR 2 w vp K) (hTb : Tab w) :
    Calls Tryd.prog 4 #[v, vx, .int .i64 c, .int .i64 wk, .bool back, vp] w fun e w' => e = .returned (.bool true) ∧ Below w.heap.size w w' := by
  by_cases hG : ∃ ds, Good zs ds ∧ prd2 ds ≤ 64
  · obtain ⟨ds, hG, hn⟩ := hG
    rcases Nat.lt_or_ge 300 K.length with hk | hk
    · exact execEnds_many w v vx vp zs ds xs c wk back K hZ hX hK hTb hG hn hk
    · by_cases h1 : c < 1
      · exact execEnds_cut w v vx vp zs ds xs c wk back K hZ hX hK hTb hG hn hk h1
      · have hb := bounds_i64 hc
        obtain ⟨m, rfl⟩ := Int.eq_ofNat_of_zero_le (show 0 ≤ c by omega)
        exact execEnds_main w v vx vp zs ds xs m wk back K hZ hX hK hTb hG hn (by omega) (by omega) hk
  · exact execEnds_no w v vx vp zs c wk back hZ hTb (fun ds h => by
      rcases Nat.lt_or_ge 64 (prd2 ds) with h1 | h1
      · exact h1
      · exact absurd ⟨ds, h, h1⟩ hG)

end Go.Proofs.YtmgfjcepebjnfafDoor
