/-
  The walk of the law PlanWhole: whatever is handed in, all tasks of a plan that is made, phase by phase, in any order, are the whole, what is made is right, and the law returns true.
-/
import Derived.Test.YtcaepjmgnoeefaeDoorPlanC
import Derived.Test.YtcaepjmgnoeefaeDoorPlanD
import Derived.Test.YtcaepjmgnoeefaeDoorPlanP
import Derived.Test.YtcaepjmgnoeefaeDoorRefPlanAll
import Derived.Test.YtcaepjmgnoeefaeDoorSlTaskAll
import Derived.Test.YtcaepjmgnoeefaeDoorSlTaskAll
import Derived.Test.YtcaepjmgnoeefaeDoorItoaAll
import Derived.Test.YtcaepjmgnoeefaeDoorManyT
import Derived.Test.YtcaepjmgnoeefaeDoorKeepShaped
import Derived.Test.YtcaepjmgnoeefaeDoorRefRest
import Derived.Test.YtcaepjmgnoeefaeDoorSlEq
namespace Go.Proofs.YtcaepjmgnoeefaeDoor
open Go.RowKit

theorem pls42 : pls [4, 2] 3 2 = [[[0, 0, 2]], [[1, 0, 3], [1, 3, 4]]] := by decide +kernel
theorem text42 : ptx [[[0, 0, 2]], [[1, 0, 3], [1, 3, 4]]] 2 = [48, 58, 48, 45, 50, 10, 49, 58, 48, 45, 51, 32, 49, 58, 51, 45, 52, 10] := by decide +kernel
theorem good42 : Good [(4 : Int), 2] [4, 2] := ⟨by decide, by decide, rfl, fun d hd => by
  simp at hd
  rcases hd with rfl | rfl
  · exact ⟨2, rfl⟩
  · exact ⟨1, rfl⟩⟩
/-- The first test: a plan of eight numbers, and its text. -/
theorem make42 (w : World) : Calls Tryd.prog 31 #[.slice (some ⟨w.heap.size, 0, none⟩) 2 2, .int .i64 3] (w.alloc (.cells #[.int .i64 4, .int .i64 2] 3)) fun e w' => ∃ u, e = .returned (.tuple #[u, .int .i64 0]) ∧ IsP 3 w' u [[[0, 0, 2]], [[1, 0, 3], [1, 3, 4]]] ∧ Below w.heap.size w w' := by
  have hb := below_alloc1 w (.cells #[.int .i64 4, .int .i64 2] 3)
  refine (plan_Make_ok _ _ [4, 2] [4, 2] 3 (IsZ.lit2 w 3 4 2 (by decide) (by decide)) good42 (by decide) (by decide) (by decide) (few_small good42.2.2.2 (by decide) 3)).mono ?_
  rintro e w' ⟨u, rfl, hU, hbb⟩
  rw [show ([4, 2] : List Nat).length = 2 from rfl, pls42] at hU
  exact ⟨u, rfl, hU, hb.trans (hbb.mono hb.size)⟩
theorem print42 (w : World) (u : Value) (h : IsP 3 w u [[[0, 0, 2]], [[1, 0, 3], [1, 3, 4]]]) (hT : Tab w) : Calls Tryd.prog 32 #[u] w fun e w' => e = .returned (.string { data := #[48, 58, 48, 45, 50, 10, 49, 58, 48, 45, 51, 32, 49, 58, 51, 45, 52, 10] }) ∧ Below w.heap.size w w' := by
  refine (plan_Print w u _ h hT (text_size h (by decide))).mono ?_
  rintro e w' ⟨rfl, hb⟩
  refine ⟨?_, hb⟩
  rw [show ([[[0, 0, 2]], [[1, 0, 3], [1, 3, 4]]] : List (List (List Int))).length = 2 from rfl, text42]; rfl

/-- The array as it is ahead of phase x. -/
def curA (A ds : List Nat) (back : Bool) : Nat → List Nat
  | 0 => A
  | x + 1 => mk (prd2 ds) (who ds back (cf A) (x + 1))
theorem curA_length {A ds : List Nat} (hl : A.length = prd2 ds) (back : Bool) (x : Nat) : (curA A ds back x).length = prd2 ds := by
  cases x with
  | zero => exact hl
  | succ x => exact mk_length _ _
theorem curA_cf (A ds : List Nat) (back : Bool) (x p : Nat) (hp : p < prd2 ds) : cf (curA A ds back x) p = who ds back (cf A) x p := by
  cases x with
  | zero => rfl
  | succ x => rw [curA, cf_mk, if_pos hp]
theorem curA_step {ds : List Nat} (h : Shp ds) (A : List Nat) (back : Bool) (x : Nat) (hx : x < ds.length) : mk (prd2 ds) (alo ds x back (cf (curA A ds back x))) = curA A ds back (x + 1) := by
  rw [curA]
  refine mk_congr fun p hp => ?_
  rw [who_succ]
  exact alo_congr h x hx back (fun i hi => curA_cf A ds back x i hi) p hp
theorem hits_split (T : List (List Int)) (i k : Nat) (hi : i < T.length) : hits T k = hits (T.take i ++ T.drop (i + 1)) k + hit (T.getD i []) k := by
  have e : T = T.take i ++ (T.getD i [] :: T.drop (i + 1)) := by
    have h1 : T.getD i [] = T[i] := by simp [List.getD, List.getElem?_eq_getElem hi]
    rw [h1, List.getElem_cons_drop, List.take_append_drop]
  have h2 : hits T k = hits (T.take i ++ (T.getD i [] :: T.drop (i + 1))) k := by rw [← e]
  rw [h2]
  simp only [hits, List.map_append, List.sum_append, List.map_cons, List.sum_cons]
  omega
theorem New.apart {B g : Nat} {u : Value} (h : New B u) (hg : g < B) : Apart u g := fun b off s l c e hl => by
  have := h b off s l c e hl
  omega
theorem bar_of_grown {g : Nat} {w w' : World} (h : w.grownBy w' (some g)) : Bar g w w' := ⟨h.os, h.tape, h.output, h.size, fun k hk hne => h.block k hk (by simp; omega)⟩
/-- How many elements a slice has. -/
def lenOf : Value → Nat
  | .slice _ n _ => n
  | _ => 0

set_option maxRecDepth 100000 in
set_option maxHeartbeats 16000000 in
theorem planWhole_forth (w : World) (v vx vo : Value) (zs os : List Int) (ds xs : List Nat) (c : Nat) (hZ : IsZ w v zs) (hX : IsU w vx xs) (hO : IsZ w vo os) (hTb : Tab w) (hG : Good zs ds) (hds : prd2 ds ≤ 64) (hc : 1 ≤ c) (hc9 : (c : Int) ≤ 9223372036854775807) :
    Calls Tryd.prog 8 #[v, vx, .int .i64 (c : Int), vo, .bool false] w fun e w' => e = .returned (.bool true) ∧ Below w.heap.size w w' := by
  have hW : Below w.heap.size w w := Below.refl _ _
  have hS : Hid (Shp ds) := hG.2.2.2
  have h1 : 1 ≤ ds.length := by have := hG.1; rw [hG.2.2.1, List.length_map] at this; exact this
  have h3 : ds.length ≤ 3 := by have := hG.2.1; rw [hG.2.2.1, List.length_map] at this; exact this
  have hFew := few_small hS.out hds c
  have c42 := make42 w
  have p42 : Hid (∀ W u, IsP 3 W u [[[0, 0, 2]], [[1, 0, 3], [1, 3, 4]]] → Below w.heap.size w W → Calls Tryd.prog 32 #[u] W fun e w' => e = .returned (.string { data := #[48, 58, 48, 45, 50, 10, 49, 58, 48, 45, 51, 32, 49, 58, 51, 45, 52, 10] }) ∧ Below W.heap.size W w') := fun W u h hb => print42 W u h (hTb.below hb)
  have cSh : Hid (∀ W, IsZ W v zs → IsU W vx xs → Calls Tryd.prog 26 #[v, vx] W fun e w' => ∃ g, e = .returned (.tuple #[.slice (some ⟨g, 0, none⟩) (prd2 ds) (prd2 ds), .bool true]) ∧ IsU w' (.slice (some ⟨g, 0, none⟩) (prd2 ds) (prd2 ds)) (szd xs (prd2 ds)) ∧ Below W.heap.size W w') := fun W hz hx => keep_shaped_ok W v vx zs ds xs hz hx hG hds
  have cMk : Hid (∀ W, IsZ W v zs → Below w.heap.size w W → Calls Tryd.prog 31 #[v, .int .i64 (c : Int)] W fun e w' => ∃ u, e = .returned (.tuple #[u, .int .i64 0]) ∧ IsP 3 w' u (pls ds c ds.length) ∧ Below W.heap.size W w') := fun W hz _ => plan_Make_ok W v zs ds c hz hG (by omega) hc hc9 hFew
  have hlA : (szd xs (prd2 ds)).length = prd2 ds := szd_length _ _
  obtain ⟨A, hA⟩ : ∃ A, A = szd xs (prd2 ds) := ⟨_, rfl⟩
  rw [← hA] at cSh hlA
  have cF : Hid (∀ W u, IsZ W v zs → IsU W u A → Below w.heap.size w W → Calls Tryd.prog 27 #[v, u] W fun e w' => ∃ u', e = .returned (.tuple #[u', .int .i64 0]) ∧ IsU w' u' (mk (prd2 ds) (who ds false (cf A) ds.length)) ∧ Below W.heap.size W w') := fun W u hz hu hb => many_Forward_ok W v u zs A ds hz hu (hTb.below hb) hG (by omega) hlA
  have cI : Hid (∀ W u, IsZ W v zs → IsU W u A → Below w.heap.size w W → Calls Tryd.prog 28 #[v, u] W fun e w' => ∃ u', e = .returned (.tuple #[u', .int .i64 0]) ∧ IsU w' u' (mk (prd2 ds) (who ds true (cf A) ds.length)) ∧ Below W.heap.size W w') := fun W u hz hu hb => many_Inverse_ok W v u zs A ds hz hu (hTb.below hb) hG (by omega) hlA
  have cDo : Hid (∀ W u x f l (C : List Nat), IsZ W v zs → IsU W u C → Below w.heap.size w W → C.length = prd2 ds → x < ds.length → f < l → l ≤ nln ds x → Calls Tryd.prog 35 #[v, u, .agg #[.int .i64 (x : Int), .int .i64 (f : Int), .int .i64 (l : Int)], .bool false] W fun e w' => ∃ u', e = .returned (.tuple #[u', .int .i64 0]) ∧ IsU w' u' (trn ds (nmL C) x f l false) ∧ New W.heap.size u' ∧ Below W.heap.size W w') := fun W u x f l C hz hu hb hl hx hf hln => plan_Do_fresh W v u zs C ds x f l false hz hu (hTb.below hb) hG (by omega) hl hx hf hln
  have cCk : Hid (∀ W u, IsZ W v zs → IsP 3 W u (pls ds c ds.length) → Below w.heap.size w W → Calls Tryd.prog 37 #[v, u] W fun e w' => e = .returned (.int .i64 0) ∧ Below W.heap.size W w') := fun W u hz hu _ => (plan_Check_all W v u zs ds _ hz hG (by omega) hu).mono fun e w' hh => by
    obtain ⟨⟨_, hno⟩ | ⟨_, _, hbg⟩ | ⟨rfl, _⟩, hb2⟩ := hh
    · exact absurd (pls_fine ds c hc) hno
    · exact absurd hbg (pls_notbig hFew)
    · exact ⟨rfl, hb2⟩
  have hlast : Hid (curA A ds false ds.length = mk (prd2 ds) (who ds false (cf A) ds.length)) := by
    show _ = _
    obtain ⟨y, hy⟩ : ∃ y, ds.length = y + 1 := ⟨ds.length - 1, by omega⟩
    rw [hy]; rfl
  have hpl : Hid (∀ x, x < ds.length → (pls ds c ds.length).getD x [] = chn x c (nln ds x)) := fun x hx => pls_get ds c _ x hx
  have hph : Hid (∀ x, x < ds.length → RgtP (nln ds x) x (chn x c (nln ds x)) ∧ (chn x c (nln ds x)).length ≤ 64 ∧ 0 < (chn x c (nln ds x)).length) := fun x hx => by
    refine ⟨chn_right x c _ hc, hFew x hx, ?_⟩
    have hn0 : nln ds x ≠ 0 := by
      have : 0 < nln ds x := by
        unfold nln
        exact Nat.mul_pos (beh_pos hS.out _) (prd2_pos fun d hd => hS.out.pos d (List.mem_of_mem_take hd))
      omega
    unfold chn
    rw [if_neg hn0, List.length_append]
    simp
  have hPl : Hid ((pls ds c ds.length).length = ds.length) := pls_length _ _ _
  have hlA' : Hid (A.length = prd2 ds) := hlA
  have hos : os.length ≤ 9223372036854775807 := by obtain ⟨_, _, _, q1, q2, _⟩ := hO; unfold maxLen at q2; omega
  generalize pls ds c ds.length = PL at *
  obtain ⟨WL, hWL⟩ : ∃ WL, WL = mk (prd2 ds) (who ds false (cf A) ds.length) := ⟨_, rfl⟩
  rw [← hWL] at hlast cF
  have tk1 : True := trivial
  obtain ⟨ao, co, rfl, -⟩ := id hO
  clear hG hA hlA hFew
  go_enter Tryd.func8, Tryd.ntmps8
  go_wp2_with (first
    | (go_at_call 31; have _t := tk1; refine Calls.mono c42 ?_; rintro e w1 ⟨u1, rfl, hU1, hb⟩; clear tk1 c42; replace hZ := hZ.below hb; replace hX := hX.below hb; replace hO := hO.below hb; replace hW := hW.trans (hb.mono hW.size); clear hb)
    | (go_at_call 32; refine Calls.mono (p42.out _ _ hU1 hW) ?_; rintro e w2 ⟨rfl, hb⟩; clear p42 hU1; replace hZ := hZ.below hb; replace hX := hX.below hb; replace hO := hO.below hb; replace hW := hW.trans (hb.mono hW.size); clear hb)
    | (go_at_call 26; refine Calls.mono (cSh.out _ hZ hX) ?_; rintro e w3 ⟨ga, rfl, hU3, hb⟩; clear cSh hX; replace hZ := hZ.below hb; replace hO := hO.below hb; replace hW := hW.trans (hb.mono hW.size); clear hb)
    | (go_at_call 31; refine Calls.mono (cMk.out _ hZ hW) ?_; rintro e w4 ⟨u4, rfl, hP, hb⟩; clear cMk; replace hZ := hZ.below hb; replace hO := hO.below hb; replace hU3 := hU3.below hb; replace hW := hW.trans (hb.mono hW.size); clear hb; obtain ⟨al, cl, rfl, -⟩ := id hP; rw [hPl.out] at hP ⊢)
    | (go_at_call 27; refine Calls.mono (cF.out _ _ hZ hU3 hW) ?_; rintro e w5 ⟨u5, rfl, hWa, hb⟩; clear cF; replace hZ := hZ.below hb; replace hO := hO.below hb; replace hU3 := hU3.below hb; replace hP := hP.below hb; replace hW := hW.trans (hb.mono hW.size); clear hb)
    | (go_at_call 28; refine Calls.mono (cI.out _ _ hZ hU3 hW) ?_; clear hWa; rintro e w6 ⟨u6, rfl, hWa, hb⟩; clear cI; replace hZ := hZ.below hb; replace hO := hO.below hb; replace hU3 := hU3.below hb; replace hP := hP.below hb; replace hW := hW.trans (hb.mono hW.size); clear hb))
  clear cI
  go_loopw [13, 19, 75] (fun va vk vi wr => ∃ (x kN : Nat), x ≤ ds.length ∧ vi = .int .i64 (x : Int) ∧ vk = .int .i64 (kN : Int) ∧ kN ≤ 64 * x ∧ IsU wr va (curA A ds false x) ∧ Below w5.heap.size w5 wr)
    (fun _ _ vi _ => ds.length - (intOf vi).toNat)
  case atStart => exact ⟨0, 0, Nat.zero_le _, rfl, rfl, by omega, hU3, Below.refl _ _⟩
  case round =>
    clear hU3
    obtain ⟨x, kN, hx, rfl, rfl, hk, hU, hnx⟩ := hrel
    by_cases hlt : x < ds.length
    · obtain ⟨a1, c1, e1, _, _, hphr⟩ := hP.below hnx
      simp only [Value.slice.injEq] at e1
      obtain ⟨rfl, -, rfl⟩ := e1
      obtain ⟨bl, ol, ul, rfl, hcu, hR⟩ := hphr x (by rw [hPl.out]; exact hlt)
      rw [hpl.out x hlt] at hR
      obtain ⟨hRg, hR64, hR0⟩ := hph.out x hlt
      have hRg' : Hid (RgtP (nln ds x) x (chn x c (nln ds x))) := hRg
      have hT30 : Hid (T3 (chn x c (nln ds x))) := by obtain ⟨_, _, _, _, _, _, hr⟩ := hR; exact hr
      obtain ⟨T, hT⟩ : ∃ T, T = chn x c (nln ds x) := ⟨_, rfl⟩
      rw [← hT] at hR hR64 hR0 hRg' hT30
      have cCl := slices_CloneT wr ul T hR hR0 (by omega)
      obtain ⟨au, cu, rfl, -⟩ := id hR
      clear hphr hRg hT hR
      go_wp2_with (go_at_call 33; refine Calls.mono cCl ?_; rintro e wc ⟨g, cp0, rfl, hown, hbc⟩; clear cCl hcu)
      have hAp : Hid (Apart u13 g) := hU.apart (by
        rcases hown.2 with ⟨hv, _⟩ | ⟨g', c', cur, hv, hg', _⟩
        · cases hv
        · simp only [Value.slice.injEq, Option.some.injEq, Addr.mk.injEq, and_true, true_and] at hv
          omega)
      have hgB : wr.heap.size ≤ g := by
        rcases hown.2 with ⟨hv, _⟩ | ⟨g', c', cur, hv, hg', _⟩
        · cases hv
        · simp only [Value.slice.injEq, Option.some.injEq, Addr.mk.injEq, and_true, true_and] at hv
          omega
      obtain ⟨wk, hwk⟩ : ∃ wk : World, wk = wr := ⟨_, rfl⟩
      rw [← hwk] at hU hnx hown hbc hgB
      have hUc := hU.below hbc
      clear hwk hU
      go_loopw [13, 19, 22] (fun va vk vl wi => ∃ (kN m cp : Nat) (Tl : List (List Int)) (D : Nat → Bool) (B : List Nat), vk = .int .i64 (kN : Int) ∧ vl = .slice (some ⟨g, 0, none⟩) m cp ∧ Hid (Tl.length = m) ∧ Hid (T3 Tl) ∧ Hid (∀ r ∈ Tl, Vld (nln ds x) x r) ∧ wi.ownsRow wk.heap.size 54 3 (.slice (some ⟨g, 0, none⟩) m cp) m (tc Tl) ∧ Hid (∀ q, q < nln ds x → hits Tl q = if D q = true then 0 else 1) ∧ Hid (cf B = cf (curA A ds false x)) ∧ IsU wi va (trS ds B x false D) ∧ kN + m ≤ 64 * (x + 1) ∧ Below wk.heap.size wk wi)
        (fun _ _ vl _ => lenOf vl)
      case atStart => exact ⟨kN, T.length, cp0, T, fun _ => false, curA A ds false x, rfl, rfl, rfl, hT30, hRg'.out.1, hown, fun q hq => by rw [hRg'.out.2 q hq]; rfl, rfl, by rw [trS_none (curA_length hlA'.out _ _)]; exact hUc, by omega, hbc⟩
      case round =>
        clear hown hUc hbc hAp
        have hnxO := hnx
        clear hnx
        obtain ⟨kN, m0, cp, Tl, D, B, rfl, rfl, hTl, hT3, hTv, hown, hhit, hcB, hU, hkm, hnx⟩ := hrel
        have hnxK := hnxO.trans (hnx.mono hnxO.size)
        rcases Nat.eq_zero_or_pos m0 with hm | hm
        · subst hm
          have hTn : Tl = [] := List.eq_nil_of_length_eq_zero hTl.out
          rw [trS_all hS.out _ x hlt false D (fun q hq => by
            have h1 := hhit.out q hq
            rw [hTn] at h1
            rcases hDq : D q with _ | _
            · rw [hDq] at h1; simp [hits] at h1
            · rfl), hcB.out, curA_step hS.out A false x hlt] at hU
          clear hown hTl hT3 hTv hhit hTn hnx cDo hcB
          go_wp2
          go_roundw
          case rel => exact ⟨x + 1, kN, by omega, by go_num, rfl, by omega, hU, hnxK⟩
          case measure => simp only [intOf]; omega
        · obtain ⟨m, rfl⟩ : ∃ m, m0 = m + 1 := ⟨m0 - 1, by omega⟩
          have hm9 : m ≤ 1000 := by omega
          have hTl' := hTl.out
          by_cases hko : kN < os.length
          · obtain ⟨a2, c2, e2, _, _, hcO, hrO⟩ := hO.below hnxK
            simp only [Value.slice.injEq] at e2
            obtain ⟨rfl, -, rfl⟩ := e2
            obtain ⟨bo, oo, rfl, hco⟩ := hcO kN hko
            have hzr := rangeZ_getD hrO kN
            obtain ⟨z, hz⟩ : ∃ z, z = os.getD kN 0 := ⟨_, rfl⟩
            rw [← hz] at hco hzr
            have hcR := ref_Rest z ((m : Int) + 1) (by omega) (by omega)
            have b1 := Int.emod_lt_of_pos z (show (0 : Int) < (m : Int) + 1 by omega)
            have b2 := Int.emod_nonneg z (show (m : Int) + 1 ≠ 0 by omega)
            obtain ⟨i, hi0⟩ := Int.eq_ofNat_of_zero_le b2
            have him : i < m + 1 := by omega
            have cRest : ∀ W, Calls Tryd.prog 34 #[.int .i64 z, .int .i64 ((m : Int) + 1)] W fun e w' => e = .returned (.int .i64 (i : Int)) ∧ w' = W := fun W => by have := hcR W; rw [hi0] at this; exact this
            clear hz hcR b1 b2 hi0 hcO hrO
            have hrow := hTv.out (Tl.getD i []) (getD_mem (by omega))
            obtain ⟨t0, t1, t2, hTi⟩ := len_3 ((hT3.out (Tl.getD i []) (getD_mem (by omega))).1)
            rw [hTi] at hrow
            obtain ⟨hv0, hv1, hv2, hv3⟩ := hrow
            replace hv0 : t0 = (x : Int) := hv0
            replace hv1 : 0 ≤ t1 := hv1
            replace hv2 : t2 ≤ (nln ds x : Int) := hv2
            replace hv3 : t1 < t2 := hv3
            subst hv0
            obtain ⟨f, rfl⟩ := Int.eq_ofNat_of_zero_le hv1
            obtain ⟨l, rfl⟩ := Int.eq_ofNat_of_zero_le (show 0 ≤ t2 by omega)
            have cc := fun (j : Nat) (hj : j < 3) => (hown.cellAt (i * 3 + j) (by omega)).trans (tc_get hT3.out i j (by omega) hj)
            rw [hTi] at cc
            have q0 : wr.cell? ⟨g, i * 3, none⟩ = some (.int .i64 (x : Int)) := cc 0 (by decide)
            have q1 : wr.cell? ⟨g, i * 3 + 1, none⟩ = some (.int .i64 (f : Int)) := cc 1 (by decide)
            have q2 : wr.cell? ⟨g, i * 3 + 2, none⟩ = some (.int .i64 (l : Int)) := cc 2 (by decide)
            have cD := cDo.out wr _ x f l (trS ds B x false D) (hZ.below hnxK) hU (hW.trans (hnxK.mono hW.size)) (trS_length _ _ _ _ _) hlt (by omega) (by omega)
            rw [trS_stepN hS.out B x hlt false D f l (fun q hq1 hq2 => by
              have h1 := hhit.out q (by omega)
              have h2 := hits_split Tl i q (by omega)
              rw [hTi] at h2
              have h3 : hit [(x : Int), (f : Int), (l : Int)] q = 1 := if_pos ⟨by show (f : Int) ≤ (q : Int); omega, by show (q : Int) < (l : Int); omega⟩
              rcases hDq : D q with _ | _
              · rfl
              · rw [hDq] at h1; simp at h1; omega)] at cD
            have hhit2 : Hid (∀ q, q < nln ds x → hits (Tl.take i ++ Tl.drop (i + 1)) q = if (D q || (decide (f ≤ q) && decide (q < l))) = true then 0 else 1) := fun q hq => by
              have h1 := hhit.out q hq
              have h2 := hits_split Tl i q (by omega)
              rw [hTi] at h2
              by_cases hin : f ≤ q ∧ q < l
              · have h3 : hit [(x : Int), (f : Int), (l : Int)] q = 1 := if_pos ⟨by show (f : Int) ≤ (q : Int); omega, by show (q : Int) < (l : Int); omega⟩
                rw [if_pos (by simp [hin.1, hin.2])]
                split at h1 <;> omega
              · have h3 : hit [(x : Int), (f : Int), (l : Int)] q = 0 := if_neg (fun ⟨a1, a2⟩ => hin ⟨by have : (f : Int) ≤ (q : Int) := a1; omega, by have : (q : Int) < (l : Int) := a2; omega⟩)
                have e : (D q || (decide (f ≤ q) && decide (q < l))) = D q := by
                  by_cases a1 : f ≤ q
                  · have a2 : ¬ q < l := fun a2 => hin ⟨a1, a2⟩
                    simp [a2]
                  · simp [a1]
                rw [e, ← h1]
                omega
            have hT3b : Hid (T3 (Tl.take i ++ Tl.drop (i + 1))) := T3.append (fun r hr => hT3.out r (List.mem_of_mem_take hr)) (fun r hr => hT3.out r (List.mem_of_mem_drop hr))
            have hTvb : Hid (∀ r ∈ Tl.take i ++ Tl.drop (i + 1), Vld (nln ds x) x r) := fun r hr => by
              rcases List.mem_append.mp hr with h1 | h1
              · exact hTv.out r (List.mem_of_mem_take h1)
              · exact hTv.out r (List.mem_of_mem_drop h1)
            have hlb : Hid ((Tl.take i ++ Tl.drop (i + 1)).length = m) := by
              show _ = _
              rw [List.length_append, List.length_take, List.length_drop]; omega
            have cDel : Hid (∀ W, W.ownsRow wk.heap.size 54 3 (.slice (some ⟨g, 0, none⟩) (m + 1) cp) (m + 1) (tc Tl) → Calls Tryd.prog 36 #[.slice (some ⟨g, 0, none⟩) (m + 1) cp, .int .i64 (i : Int), .int .i64 ((i : Int) + 1)] W fun e w' => e = .returned (.slice (some ⟨g, 0, none⟩) m cp) ∧ w'.ownsRow wk.heap.size 54 3 (.slice (some ⟨g, 0, none⟩) m cp) m (tc (Tl.take i ++ Tl.drop (i + 1))) ∧ W.grownBy w' (some g)) := fun W hW => slices_DeleteT W wk.heap.size g m cp i Tl hT3.out hW hTl.out (by omega) (by omega)
            have hgl := own_lt hown rfl
            have hcB2 : Hid (cf (nmL B) = cf (curA A ds false x)) := (cf_nmL B).trans hcB.out
            have hl9 : i ≤ 1000 := by omega
            clear cc hTv hhit hTl hTl' hTi hv1 hv2 hv3
            obtain ⟨C2, hC2⟩ : ∃ C2, C2 = trS ds (nmL B) x false (fun q => D q || (decide (f ≤ q) && decide (q < l))) := ⟨_, rfl⟩
            rw [← hC2] at cD
            have hC2' : Hid (C2 = trS ds (nmL B) x false (fun q => D q || (decide (f ≤ q) && decide (q < l)))) := hC2
            clear hC2
            go_wp2_with (first
              | (go_at_call 34; refine Calls.mono (cRest _) ?_; rintro e w' ⟨rfl, hw⟩; rw [hw]; clear hw)
              | (go_at_call 35; refine Calls.mono cD ?_; rintro e w5 ⟨u, rfl, hU5, hNew, hb5⟩; have hown5 := owns_below hown hb5; clear cD hown q0 q1 q2)
              | (go_at_call 36; refine Calls.mono (cDel.out _ hown5) ?_; rintro e w6 ⟨rfl, hown6, hgr⟩))
            have hU6 := hU5.bar (hNew.apart hgl) (bar_of_grown hgr)
            have hA6 : Hid (Apart u g) := hNew.apart hgl
            have hn5 := hnx.trans (hb5.mono hnx.size)
            have hnx6 := hn5.grown hgr hn5.size (fun q hq => by simp at hq; omega)
            rw [hC2'.out] at hU6
            clear hU5 hNew hb5 hown5 hgr hn5 hU cDel hC2'
            go_roundw
            case rel => exact ⟨kN + 1, m, cp, _, _, nmL B, by go_num, rfl, hlb, hT3b, hTvb, hown6, hhit2, hcB2, hU6, by omega, hnx6⟩
            case measure => simp [lenOf]
          · have hko' : os.length ≤ kN := by omega
            obtain ⟨i, hi0⟩ : ∃ i : Nat, i = 0 := ⟨0, rfl⟩
            have him : i < m + 1 := by omega
            clear hko
            have hrow := hTv.out (Tl.getD i []) (getD_mem (by omega))
            obtain ⟨t0, t1, t2, hTi⟩ := len_3 ((hT3.out (Tl.getD i []) (getD_mem (by omega))).1)
            rw [hTi] at hrow
            obtain ⟨hv0, hv1, hv2, hv3⟩ := hrow
            replace hv0 : t0 = (x : Int) := hv0
            replace hv1 : 0 ≤ t1 := hv1
            replace hv2 : t2 ≤ (nln ds x : Int) := hv2
            replace hv3 : t1 < t2 := hv3
            subst hv0
            obtain ⟨f, rfl⟩ := Int.eq_ofNat_of_zero_le hv1
            obtain ⟨l, rfl⟩ := Int.eq_ofNat_of_zero_le (show 0 ≤ t2 by omega)
            have cc := fun (j : Nat) (hj : j < 3) => (hown.cellAt (i * 3 + j) (by omega)).trans (tc_get hT3.out i j (by omega) hj)
            rw [hTi] at cc
            have q0 : wr.cell? ⟨g, i * 3, none⟩ = some (.int .i64 (x : Int)) := cc 0 (by decide)
            have q1 : wr.cell? ⟨g, i * 3 + 1, none⟩ = some (.int .i64 (f : Int)) := cc 1 (by decide)
            have q2 : wr.cell? ⟨g, i * 3 + 2, none⟩ = some (.int .i64 (l : Int)) := cc 2 (by decide)
            have cD := cDo.out wr _ x f l (trS ds B x false D) (hZ.below hnxK) hU (hW.trans (hnxK.mono hW.size)) (trS_length _ _ _ _ _) hlt (by omega) (by omega)
            rw [trS_stepN hS.out B x hlt false D f l (fun q hq1 hq2 => by
              have h1 := hhit.out q (by omega)
              have h2 := hits_split Tl i q (by omega)
              rw [hTi] at h2
              have h3 : hit [(x : Int), (f : Int), (l : Int)] q = 1 := if_pos ⟨by show (f : Int) ≤ (q : Int); omega, by show (q : Int) < (l : Int); omega⟩
              rcases hDq : D q with _ | _
              · rfl
              · rw [hDq] at h1; simp at h1; omega)] at cD
            have hhit2 : Hid (∀ q, q < nln ds x → hits (Tl.take i ++ Tl.drop (i + 1)) q = if (D q || (decide (f ≤ q) && decide (q < l))) = true then 0 else 1) := fun q hq => by
              have h1 := hhit.out q hq
              have h2 := hits_split Tl i q (by omega)
              rw [hTi] at h2
              by_cases hin : f ≤ q ∧ q < l
              · have h3 : hit [(x : Int), (f : Int), (l : Int)] q = 1 := if_pos ⟨by show (f : Int) ≤ (q : Int); omega, by show (q : Int) < (l : Int); omega⟩
                rw [if_pos (by simp [hin.1, hin.2])]
                split at h1 <;> omega
              · have h3 : hit [(x : Int), (f : Int), (l : Int)] q = 0 := if_neg (fun ⟨a1, a2⟩ => hin ⟨by have : (f : Int) ≤ (q : Int) := a1; omega, by have : (q : Int) < (l : Int) := a2; omega⟩)
                have e : (D q || (decide (f ≤ q) && decide (q < l))) = D q := by
                  by_cases a1 : f ≤ q
                  · have a2 : ¬ q < l := fun a2 => hin ⟨a1, a2⟩
                    simp [a2]
                  · simp [a1]
                rw [e, ← h1]
                omega
            have hT3b : Hid (T3 (Tl.take i ++ Tl.drop (i + 1))) := T3.append (fun r hr => hT3.out r (List.mem_of_mem_take hr)) (fun r hr => hT3.out r (List.mem_of_mem_drop hr))
            have hTvb : Hid (∀ r ∈ Tl.take i ++ Tl.drop (i + 1), Vld (nln ds x) x r) := fun r hr => by
              rcases List.mem_append.mp hr with h1 | h1
              · exact hTv.out r (List.mem_of_mem_take h1)
              · exact hTv.out r (List.mem_of_mem_drop h1)
            have hlb : Hid ((Tl.take i ++ Tl.drop (i + 1)).length = m) := by
              show _ = _
              rw [List.length_append, List.length_take, List.length_drop]; omega
            have cDel : Hid (∀ W, W.ownsRow wk.heap.size 54 3 (.slice (some ⟨g, 0, none⟩) (m + 1) cp) (m + 1) (tc Tl) → Calls Tryd.prog 36 #[.slice (some ⟨g, 0, none⟩) (m + 1) cp, .int .i64 (i : Int), .int .i64 ((i : Int) + 1)] W fun e w' => e = .returned (.slice (some ⟨g, 0, none⟩) m cp) ∧ w'.ownsRow wk.heap.size 54 3 (.slice (some ⟨g, 0, none⟩) m cp) m (tc (Tl.take i ++ Tl.drop (i + 1))) ∧ W.grownBy w' (some g)) := fun W hW => slices_DeleteT W wk.heap.size g m cp i Tl hT3.out hW hTl.out (by omega) (by omega)
            have hgl := own_lt hown rfl
            have hcB2 : Hid (cf (nmL B) = cf (curA A ds false x)) := (cf_nmL B).trans hcB.out
            have hl9 : i ≤ 1000 := by omega
            subst hi0
            clear cc hTv hhit hTl hTl' hTi hv1 hv2 hv3
            obtain ⟨C2, hC2⟩ : ∃ C2, C2 = trS ds (nmL B) x false (fun q => D q || (decide (f ≤ q) && decide (q < l))) := ⟨_, rfl⟩
            rw [← hC2] at cD
            have hC2' : Hid (C2 = trS ds (nmL B) x false (fun q => D q || (decide (f ≤ q) && decide (q < l)))) := hC2
            clear hC2
            go_wp2_with (first
              | (go_at_call 35; refine Calls.mono cD ?_; rintro e w5 ⟨u, rfl, hU5, hNew, hb5⟩; have hown5 := owns_below hown hb5; clear cD hown q0 q1 q2)
              | (go_at_call 36; refine Calls.mono (cDel.out _ hown5) ?_; rintro e w6 ⟨rfl, hown6, hgr⟩))
            have hU6 := hU5.bar (hNew.apart hgl) (bar_of_grown hgr)
            have hA6 : Hid (Apart u g) := hNew.apart hgl
            have hn5 := hnx.trans (hb5.mono hnx.size)
            have hnx6 := hn5.grown hgr hn5.size (fun q hq => by simp at hq; omega)
            rw [hC2'.out] at hU6
            clear hU5 hNew hb5 hown5 hgr hn5 hU cDel hC2'
            go_roundw
            case rel => exact ⟨kN + 1, m, cp, _, _, nmL B, by go_num, rfl, hlb, hT3b, hTvb, hown6, hhit2, hcB2, hU6, by omega, hnx6⟩
            case measure => simp [lenOf]
    · have e : ds.length = x := by omega
      have hge : ds.length ≤ x := by omega
      rw [← e, hlast.out] at hU
      have hW8 := hW.trans (hnx.mono hW.size)
      have cK := cCk.out _ _ (hZ.below hnx) (hP.below hnx) hW8
      replace hWa := hWa.below hnx
      clear e cDo cCk hlast hpl hph hZ hP hO
      go_wp2_with (first
        | (go_at_call 37; refine Calls.mono cK ?_; rintro e w8 ⟨rfl, hb⟩; replace hU := hU.below hb; replace hWa := hWa.below hb; replace hW8 := hW8.trans (hb.mono hW8.size); clear hb cK)
        | (go_at_call 13; refine Calls.mono (slices_Equal _ _ _ WL hU hWa) ?_; rintro e w9 ⟨rfl, hb⟩; replace hW8 := hW8.trans (hb.mono hW8.size); clear hb))
      go_ret
      exact ⟨rfl, hW8⟩

set_option maxRecDepth 100000 in
set_option maxHeartbeats 16000000 in
theorem planWhole_back (w : World) (v vx vo : Value) (zs os : List Int) (ds xs : List Nat) (c : Nat) (hZ : IsZ w v zs) (hX : IsU w vx xs) (hO : IsZ w vo os) (hTb : Tab w) (hG : Good zs ds) (hds : prd2 ds ≤ 64) (hc : 1 ≤ c) (hc9 : (c : Int) ≤ 9223372036854775807) :
    Calls Tryd.prog 8 #[v, vx, .int .i64 (c : Int), vo, .bool true] w fun e w' => e = .returned (.bool true) ∧ Below w.heap.size w w' := by
  have hW : Below w.heap.size w w := Below.refl _ _
  have hS : Hid (Shp ds) := hG.2.2.2
  have h1 : 1 ≤ ds.length := by have := hG.1; rw [hG.2.2.1, List.length_map] at this; exact this
  have h3 : ds.length ≤ 3 := by have := hG.2.1; rw [hG.2.2.1, List.length_map] at this; exact this
  have hFew := few_small hS.out hds c
  have c42 := make42 w
  have p42 : Hid (∀ W u, IsP 3 W u [[[0, 0, 2]], [[1, 0, 3], [1, 3, 4]]] → Below w.heap.size w W → Calls Tryd.prog 32 #[u] W fun e w' => e = .returned (.string { data := #[48, 58, 48, 45, 50, 10, 49, 58, 48, 45, 51, 32, 49, 58, 51, 45, 52, 10] }) ∧ Below W.heap.size W w') := fun W u h hb => print42 W u h (hTb.below hb)
  have cSh : Hid (∀ W, IsZ W v zs → IsU W vx xs → Calls Tryd.prog 26 #[v, vx] W fun e w' => ∃ g, e = .returned (.tuple #[.slice (some ⟨g, 0, none⟩) (prd2 ds) (prd2 ds), .bool true]) ∧ IsU w' (.slice (some ⟨g, 0, none⟩) (prd2 ds) (prd2 ds)) (szd xs (prd2 ds)) ∧ Below W.heap.size W w') := fun W hz hx => keep_shaped_ok W v vx zs ds xs hz hx hG hds
  have cMk : Hid (∀ W, IsZ W v zs → Below w.heap.size w W → Calls Tryd.prog 31 #[v, .int .i64 (c : Int)] W fun e w' => ∃ u, e = .returned (.tuple #[u, .int .i64 0]) ∧ IsP 3 w' u (pls ds c ds.length) ∧ Below W.heap.size W w') := fun W hz _ => plan_Make_ok W v zs ds c hz hG (by omega) hc hc9 hFew
  have hlA : (szd xs (prd2 ds)).length = prd2 ds := szd_length _ _
  obtain ⟨A, hA⟩ : ∃ A, A = szd xs (prd2 ds) := ⟨_, rfl⟩
  rw [← hA] at cSh hlA
  have cF : Hid (∀ W u, IsZ W v zs → IsU W u A → Below w.heap.size w W → Calls Tryd.prog 27 #[v, u] W fun e w' => ∃ u', e = .returned (.tuple #[u', .int .i64 0]) ∧ IsU w' u' (mk (prd2 ds) (who ds false (cf A) ds.length)) ∧ Below W.heap.size W w') := fun W u hz hu hb => many_Forward_ok W v u zs A ds hz hu (hTb.below hb) hG (by omega) hlA
  have cI : Hid (∀ W u, IsZ W v zs → IsU W u A → Below w.heap.size w W → Calls Tryd.prog 28 #[v, u] W fun e w' => ∃ u', e = .returned (.tuple #[u', .int .i64 0]) ∧ IsU w' u' (mk (prd2 ds) (who ds true (cf A) ds.length)) ∧ Below W.heap.size W w') := fun W u hz hu hb => many_Inverse_ok W v u zs A ds hz hu (hTb.below hb) hG (by omega) hlA
  have cDo : Hid (∀ W u x f l (C : List Nat), IsZ W v zs → IsU W u C → Below w.heap.size w W → C.length = prd2 ds → x < ds.length → f < l → l ≤ nln ds x → Calls Tryd.prog 35 #[v, u, .agg #[.int .i64 (x : Int), .int .i64 (f : Int), .int .i64 (l : Int)], .bool true] W fun e w' => ∃ u', e = .returned (.tuple #[u', .int .i64 0]) ∧ IsU w' u' (trn ds (nmL C) x f l true) ∧ New W.heap.size u' ∧ Below W.heap.size W w') := fun W u x f l C hz hu hb hl hx hf hln => plan_Do_fresh W v u zs C ds x f l true hz hu (hTb.below hb) hG (by omega) hl hx hf hln
  have cCk : Hid (∀ W u, IsZ W v zs → IsP 3 W u (pls ds c ds.length) → Below w.heap.size w W → Calls Tryd.prog 37 #[v, u] W fun e w' => e = .returned (.int .i64 0) ∧ Below W.heap.size W w') := fun W u hz hu _ => (plan_Check_all W v u zs ds _ hz hG (by omega) hu).mono fun e w' hh => by
    obtain ⟨⟨_, hno⟩ | ⟨_, _, hbg⟩ | ⟨rfl, _⟩, hb2⟩ := hh
    · exact absurd (pls_fine ds c hc) hno
    · exact absurd hbg (pls_notbig hFew)
    · exact ⟨rfl, hb2⟩
  have hlast : Hid (curA A ds true ds.length = mk (prd2 ds) (who ds true (cf A) ds.length)) := by
    show _ = _
    obtain ⟨y, hy⟩ : ∃ y, ds.length = y + 1 := ⟨ds.length - 1, by omega⟩
    rw [hy]; rfl
  have hpl : Hid (∀ x, x < ds.length → (pls ds c ds.length).getD x [] = chn x c (nln ds x)) := fun x hx => pls_get ds c _ x hx
  have hph : Hid (∀ x, x < ds.length → RgtP (nln ds x) x (chn x c (nln ds x)) ∧ (chn x c (nln ds x)).length ≤ 64 ∧ 0 < (chn x c (nln ds x)).length) := fun x hx => by
    refine ⟨chn_right x c _ hc, hFew x hx, ?_⟩
    have hn0 : nln ds x ≠ 0 := by
      have : 0 < nln ds x := by
        unfold nln
        exact Nat.mul_pos (beh_pos hS.out _) (prd2_pos fun d hd => hS.out.pos d (List.mem_of_mem_take hd))
      omega
    unfold chn
    rw [if_neg hn0, List.length_append]
    simp
  have hPl : Hid ((pls ds c ds.length).length = ds.length) := pls_length _ _ _
  have hlA' : Hid (A.length = prd2 ds) := hlA
  have hos : os.length ≤ 9223372036854775807 := by obtain ⟨_, _, _, q1, q2, _⟩ := hO; unfold maxLen at q2; omega
  generalize pls ds c ds.length = PL at *
  obtain ⟨WL, hWL⟩ : ∃ WL, WL = mk (prd2 ds) (who ds true (cf A) ds.length) := ⟨_, rfl⟩
  rw [← hWL] at hlast cI
  have tk1 : True := trivial
  obtain ⟨ao, co, rfl, -⟩ := id hO
  clear hG hA hlA hFew
  go_enter Tryd.func8, Tryd.ntmps8
  go_wp2_with (first
    | (go_at_call 31; have _t := tk1; refine Calls.mono c42 ?_; rintro e w1 ⟨u1, rfl, hU1, hb⟩; clear tk1 c42; replace hZ := hZ.below hb; replace hX := hX.below hb; replace hO := hO.below hb; replace hW := hW.trans (hb.mono hW.size); clear hb)
    | (go_at_call 32; refine Calls.mono (p42.out _ _ hU1 hW) ?_; rintro e w2 ⟨rfl, hb⟩; clear p42 hU1; replace hZ := hZ.below hb; replace hX := hX.below hb; replace hO := hO.below hb; replace hW := hW.trans (hb.mono hW.size); clear hb)
    | (go_at_call 26; refine Calls.mono (cSh.out _ hZ hX) ?_; rintro e w3 ⟨ga, rfl, hU3, hb⟩; clear cSh hX; replace hZ := hZ.below hb; replace hO := hO.below hb; replace hW := hW.trans (hb.mono hW.size); clear hb)
    | (go_at_call 31; refine Calls.mono (cMk.out _ hZ hW) ?_; rintro e w4 ⟨u4, rfl, hP, hb⟩; clear cMk; replace hZ := hZ.below hb; replace hO := hO.below hb; replace hU3 := hU3.below hb; replace hW := hW.trans (hb.mono hW.size); clear hb; obtain ⟨al, cl, rfl, -⟩ := id hP; rw [hPl.out] at hP ⊢)
    | (go_at_call 27; refine Calls.mono (cF.out _ _ hZ hU3 hW) ?_; rintro e w5 ⟨u5, rfl, hWa, hb⟩; clear cF; replace hZ := hZ.below hb; replace hO := hO.below hb; replace hU3 := hU3.below hb; replace hP := hP.below hb; replace hW := hW.trans (hb.mono hW.size); clear hb)
    | (go_at_call 28; refine Calls.mono (cI.out _ _ hZ hU3 hW) ?_; clear hWa; rintro e w6 ⟨u6, rfl, hWa, hb⟩; clear cI; replace hZ := hZ.below hb; replace hO := hO.below hb; replace hU3 := hU3.below hb; replace hP := hP.below hb; replace hW := hW.trans (hb.mono hW.size); clear hb))
  skip
  go_loopw [13, 19, 75] (fun va vk vi wr => ∃ (x kN : Nat), x ≤ ds.length ∧ vi = .int .i64 (x : Int) ∧ vk = .int .i64 (kN : Int) ∧ kN ≤ 64 * x ∧ IsU wr va (curA A ds true x) ∧ Below w6.heap.size w6 wr)
    (fun _ _ vi _ => ds.length - (intOf vi).toNat)
  case atStart => exact ⟨0, 0, Nat.zero_le _, rfl, rfl, by omega, hU3, Below.refl _ _⟩
  case round =>
    clear hU3
    obtain ⟨x, kN, hx, rfl, rfl, hk, hU, hnx⟩ := hrel
    by_cases hlt : x < ds.length
    · obtain ⟨a1, c1, e1, _, _, hphr⟩ := hP.below hnx
      simp only [Value.slice.injEq] at e1
      obtain ⟨rfl, -, rfl⟩ := e1
      obtain ⟨bl, ol, ul, rfl, hcu, hR⟩ := hphr x (by rw [hPl.out]; exact hlt)
      rw [hpl.out x hlt] at hR
      obtain ⟨hRg, hR64, hR0⟩ := hph.out x hlt
      have hRg' : Hid (RgtP (nln ds x) x (chn x c (nln ds x))) := hRg
      have hT30 : Hid (T3 (chn x c (nln ds x))) := by obtain ⟨_, _, _, _, _, _, hr⟩ := hR; exact hr
      obtain ⟨T, hT⟩ : ∃ T, T = chn x c (nln ds x) := ⟨_, rfl⟩
      rw [← hT] at hR hR64 hR0 hRg' hT30
      have cCl := slices_CloneT wr ul T hR hR0 (by omega)
      obtain ⟨au, cu, rfl, -⟩ := id hR
      clear hphr hRg hT hR
      go_wp2_with (go_at_call 33; refine Calls.mono cCl ?_; rintro e wc ⟨g, cp0, rfl, hown, hbc⟩; clear cCl hcu)
      have hAp : Hid (Apart u13 g) := hU.apart (by
        rcases hown.2 with ⟨hv, _⟩ | ⟨g', c', cur, hv, hg', _⟩
        · cases hv
        · simp only [Value.slice.injEq, Option.some.injEq, Addr.mk.injEq, and_true, true_and] at hv
          omega)
      have hgB : wr.heap.size ≤ g := by
        rcases hown.2 with ⟨hv, _⟩ | ⟨g', c', cur, hv, hg', _⟩
        · cases hv
        · simp only [Value.slice.injEq, Option.some.injEq, Addr.mk.injEq, and_true, true_and] at hv
          omega
      obtain ⟨wk, hwk⟩ : ∃ wk : World, wk = wr := ⟨_, rfl⟩
      rw [← hwk] at hU hnx hown hbc hgB
      have hUc := hU.below hbc
      clear hwk hU
      go_loopw [13, 19, 22] (fun va vk vl wi => ∃ (kN m cp : Nat) (Tl : List (List Int)) (D : Nat → Bool) (B : List Nat), vk = .int .i64 (kN : Int) ∧ vl = .slice (some ⟨g, 0, none⟩) m cp ∧ Hid (Tl.length = m) ∧ Hid (T3 Tl) ∧ Hid (∀ r ∈ Tl, Vld (nln ds x) x r) ∧ wi.ownsRow wk.heap.size 54 3 (.slice (some ⟨g, 0, none⟩) m cp) m (tc Tl) ∧ Hid (∀ q, q < nln ds x → hits Tl q = if D q = true then 0 else 1) ∧ Hid (cf B = cf (curA A ds true x)) ∧ IsU wi va (trS ds B x true D) ∧ kN + m ≤ 64 * (x + 1) ∧ Below wk.heap.size wk wi)
        (fun _ _ vl _ => lenOf vl)
      case atStart => exact ⟨kN, T.length, cp0, T, fun _ => false, curA A ds true x, rfl, rfl, rfl, hT30, hRg'.out.1, hown, fun q hq => by rw [hRg'.out.2 q hq]; rfl, rfl, by rw [trS_none (curA_length hlA'.out _ _)]; exact hUc, by omega, hbc⟩
      case round =>
        clear hown hUc hbc hAp
        have hnxO := hnx
        clear hnx
        obtain ⟨kN, m0, cp, Tl, D, B, rfl, rfl, hTl, hT3, hTv, hown, hhit, hcB, hU, hkm, hnx⟩ := hrel
        have hnxK := hnxO.trans (hnx.mono hnxO.size)
        rcases Nat.eq_zero_or_pos m0 with hm | hm
        · subst hm
          have hTn : Tl = [] := List.eq_nil_of_length_eq_zero hTl.out
          rw [trS_all hS.out _ x hlt true D (fun q hq => by
            have h1 := hhit.out q hq
            rw [hTn] at h1
            rcases hDq : D q with _ | _
            · rw [hDq] at h1; simp [hits] at h1
            · rfl), hcB.out, curA_step hS.out A true x hlt] at hU
          clear hown hTl hT3 hTv hhit hTn hnx cDo hcB
          go_wp2
          go_roundw
          case rel => exact ⟨x + 1, kN, by omega, by go_num, rfl, by omega, hU, hnxK⟩
          case measure => simp only [intOf]; omega
        · obtain ⟨m, rfl⟩ : ∃ m, m0 = m + 1 := ⟨m0 - 1, by omega⟩
          have hm9 : m ≤ 1000 := by omega
          have hTl' := hTl.out
          by_cases hko : kN < os.length
          · obtain ⟨a2, c2, e2, _, _, hcO, hrO⟩ := hO.below hnxK
            simp only [Value.slice.injEq] at e2
            obtain ⟨rfl, -, rfl⟩ := e2
            obtain ⟨bo, oo, rfl, hco⟩ := hcO kN hko
            have hzr := rangeZ_getD hrO kN
            obtain ⟨z, hz⟩ : ∃ z, z = os.getD kN 0 := ⟨_, rfl⟩
            rw [← hz] at hco hzr
            have hcR := ref_Rest z ((m : Int) + 1) (by omega) (by omega)
            have b1 := Int.emod_lt_of_pos z (show (0 : Int) < (m : Int) + 1 by omega)
            have b2 := Int.emod_nonneg z (show (m : Int) + 1 ≠ 0 by omega)
            obtain ⟨i, hi0⟩ := Int.eq_ofNat_of_zero_le b2
            have him : i < m + 1 := by omega
            have cRest : ∀ W, Calls Tryd.prog 34 #[.int .i64 z, .int .i64 ((m : Int) + 1)] W fun e w' => e = .returned (.int .i64 (i : Int)) ∧ w' = W := fun W => by have := hcR W; rw [hi0] at this; exact this
            clear hz hcR b1 b2 hi0 hcO hrO
            have hrow := hTv.out (Tl.getD i []) (getD_mem (by omega))
            obtain ⟨t0, t1, t2, hTi⟩ := len_3 ((hT3.out (Tl.getD i []) (getD_mem (by omega))).1)
            rw [hTi] at hrow
            obtain ⟨hv0, hv1, hv2, hv3⟩ := hrow
            replace hv0 : t0 = (x : Int) := hv0
            replace hv1 : 0 ≤ t1 := hv1
            replace hv2 : t2 ≤ (nln ds x : Int) := hv2
            replace hv3 : t1 < t2 := hv3
            subst hv0
            obtain ⟨f, rfl⟩ := Int.eq_ofNat_of_zero_le hv1
            obtain ⟨l, rfl⟩ := Int.eq_ofNat_of_zero_le (show 0 ≤ t2 by omega)
            have cc := fun (j : Nat) (hj : j < 3) => (hown.cellAt (i * 3 + j) (by omega)).trans (tc_get hT3.out i j (by omega) hj)
            rw [hTi] at cc
            have q0 : wr.cell? ⟨g, i * 3, none⟩ = some (.int .i64 (x : Int)) := cc 0 (by decide)
            have q1 : wr.cell? ⟨g, i * 3 + 1, none⟩ = some (.int .i64 (f : Int)) := cc 1 (by decide)
            have q2 : wr.cell? ⟨g, i * 3 + 2, none⟩ = some (.int .i64 (l : Int)) := cc 2 (by decide)
            have cD := cDo.out wr _ x f l (trS ds B x true D) (hZ.below hnxK) hU (hW.trans (hnxK.mono hW.size)) (trS_length _ _ _ _ _) hlt (by omega) (by omega)
            rw [trS_stepN hS.out B x hlt true D f l (fun q hq1 hq2 => by
              have h1 := hhit.out q (by omega)
              have h2 := hits_split Tl i q (by omega)
              rw [hTi] at h2
              have h3 : hit [(x : Int), (f : Int), (l : Int)] q = 1 := if_pos ⟨by show (f : Int) ≤ (q : Int); omega, by show (q : Int) < (l : Int); omega⟩
              rcases hDq : D q with _ | _
              · rfl
              · rw [hDq] at h1; simp at h1; omega)] at cD
            have hhit2 : Hid (∀ q, q < nln ds x → hits (Tl.take i ++ Tl.drop (i + 1)) q = if (D q || (decide (f ≤ q) && decide (q < l))) = true then 0 else 1) := fun q hq => by
              have h1 := hhit.out q hq
              have h2 := hits_split Tl i q (by omega)
              rw [hTi] at h2
              by_cases hin : f ≤ q ∧ q < l
              · have h3 : hit [(x : Int), (f : Int), (l : Int)] q = 1 := if_pos ⟨by show (f : Int) ≤ (q : Int); omega, by show (q : Int) < (l : Int); omega⟩
                rw [if_pos (by simp [hin.1, hin.2])]
                split at h1 <;> omega
              · have h3 : hit [(x : Int), (f : Int), (l : Int)] q = 0 := if_neg (fun ⟨a1, a2⟩ => hin ⟨by have : (f : Int) ≤ (q : Int) := a1; omega, by have : (q : Int) < (l : Int) := a2; omega⟩)
                have e : (D q || (decide (f ≤ q) && decide (q < l))) = D q := by
                  by_cases a1 : f ≤ q
                  · have a2 : ¬ q < l := fun a2 => hin ⟨a1, a2⟩
                    simp [a2]
                  · simp [a1]
                rw [e, ← h1]
                omega
            have hT3b : Hid (T3 (Tl.take i ++ Tl.drop (i + 1))) := T3.append (fun r hr => hT3.out r (List.mem_of_mem_take hr)) (fun r hr => hT3.out r (List.mem_of_mem_drop hr))
            have hTvb : Hid (∀ r ∈ Tl.take i ++ Tl.drop (i + 1), Vld (nln ds x) x r) := fun r hr => by
              rcases List.mem_append.mp hr with h1 | h1
              · exact hTv.out r (List.mem_of_mem_take h1)
              · exact hTv.out r (List.mem_of_mem_drop h1)
            have hlb : Hid ((Tl.take i ++ Tl.drop (i + 1)).length = m) := by
              show _ = _
              rw [List.length_append, List.length_take, List.length_drop]; omega
            have cDel : Hid (∀ W, W.ownsRow wk.heap.size 54 3 (.slice (some ⟨g, 0, none⟩) (m + 1) cp) (m + 1) (tc Tl) → Calls Tryd.prog 36 #[.slice (some ⟨g, 0, none⟩) (m + 1) cp, .int .i64 (i : Int), .int .i64 ((i : Int) + 1)] W fun e w' => e = .returned (.slice (some ⟨g, 0, none⟩) m cp) ∧ w'.ownsRow wk.heap.size 54 3 (.slice (some ⟨g, 0, none⟩) m cp) m (tc (Tl.take i ++ Tl.drop (i + 1))) ∧ W.grownBy w' (some g)) := fun W hW => slices_DeleteT W wk.heap.size g m cp i Tl hT3.out hW hTl.out (by omega) (by omega)
            have hgl := own_lt hown rfl
            have hcB2 : Hid (cf (nmL B) = cf (curA A ds true x)) := (cf_nmL B).trans hcB.out
            have hl9 : i ≤ 1000 := by omega
            clear cc hTv hhit hTl hTl' hTi hv1 hv2 hv3
            obtain ⟨C2, hC2⟩ : ∃ C2, C2 = trS ds (nmL B) x true (fun q => D q || (decide (f ≤ q) && decide (q < l))) := ⟨_, rfl⟩
            rw [← hC2] at cD
            have hC2' : Hid (C2 = trS ds (nmL B) x true (fun q => D q || (decide (f ≤ q) && decide (q < l)))) := hC2
            clear hC2
            go_wp2_with (first
              | (go_at_call 34; refine Calls.mono (cRest _) ?_; rintro e w' ⟨rfl, hw⟩; rw [hw]; clear hw)
              | (go_at_call 35; refine Calls.mono cD ?_; rintro e w5 ⟨u, rfl, hU5, hNew, hb5⟩; have hown5 := owns_below hown hb5; clear cD hown q0 q1 q2)
              | (go_at_call 36; refine Calls.mono (cDel.out _ hown5) ?_; rintro e w6 ⟨rfl, hown6, hgr⟩))
            have hU6 := hU5.bar (hNew.apart hgl) (bar_of_grown hgr)
            have hA6 : Hid (Apart u g) := hNew.apart hgl
            have hn5 := hnx.trans (hb5.mono hnx.size)
            have hnx6 := hn5.grown hgr hn5.size (fun q hq => by simp at hq; omega)
            rw [hC2'.out] at hU6
            clear hU5 hNew hb5 hown5 hgr hn5 hU cDel hC2'
            go_roundw
            case rel => exact ⟨kN + 1, m, cp, _, _, nmL B, by go_num, rfl, hlb, hT3b, hTvb, hown6, hhit2, hcB2, hU6, by omega, hnx6⟩
            case measure => simp [lenOf]
          · have hko' : os.length ≤ kN := by omega
            obtain ⟨i, hi0⟩ : ∃ i : Nat, i = 0 := ⟨0, rfl⟩
            have him : i < m + 1 := by omega
            clear hko
            have hrow := hTv.out (Tl.getD i []) (getD_mem (by omega))
            obtain ⟨t0, t1, t2, hTi⟩ := len_3 ((hT3.out (Tl.getD i []) (getD_mem (by omega))).1)
            rw [hTi] at hrow
            obtain ⟨hv0, hv1, hv2, hv3⟩ := hrow
            replace hv0 : t0 = (x : Int) := hv0
            replace hv1 : 0 ≤ t1 := hv1
            replace hv2 : t2 ≤ (nln ds x : Int) := hv2
            replace hv3 : t1 < t2 := hv3
            subst hv0
            obtain ⟨f, rfl⟩ := Int.eq_ofNat_of_zero_le hv1
            obtain ⟨l, rfl⟩ := Int.eq_ofNat_of_zero_le (show 0 ≤ t2 by omega)
            have cc := fun (j : Nat) (hj : j < 3) => (hown.cellAt (i * 3 + j) (by omega)).trans (tc_get hT3.out i j (by omega) hj)
            rw [hTi] at cc
            have q0 : wr.cell? ⟨g, i * 3, none⟩ = some (.int .i64 (x : Int)) := cc 0 (by decide)
            have q1 : wr.cell? ⟨g, i * 3 + 1, none⟩ = some (.int .i64 (f : Int)) := cc 1 (by decide)
            have q2 : wr.cell? ⟨g, i * 3 + 2, none⟩ = some (.int .i64 (l : Int)) := cc 2 (by decide)
            have cD := cDo.out wr _ x f l (trS ds B x true D) (hZ.below hnxK) hU (hW.trans (hnxK.mono hW.size)) (trS_length _ _ _ _ _) hlt (by omega) (by omega)
            rw [trS_stepN hS.out B x hlt true D f l (fun q hq1 hq2 => by
              have h1 := hhit.out q (by omega)
              have h2 := hits_split Tl i q (by omega)
              rw [hTi] at h2
              have h3 : hit [(x : Int), (f : Int), (l : Int)] q = 1 := if_pos ⟨by show (f : Int) ≤ (q : Int); omega, by show (q : Int) < (l : Int); omega⟩
              rcases hDq : D q with _ | _
              · rfl
              · rw [hDq] at h1; simp at h1; omega)] at cD
            have hhit2 : Hid (∀ q, q < nln ds x → hits (Tl.take i ++ Tl.drop (i + 1)) q = if (D q || (decide (f ≤ q) && decide (q < l))) = true then 0 else 1) := fun q hq => by
              have h1 := hhit.out q hq
              have h2 := hits_split Tl i q (by omega)
              rw [hTi] at h2
              by_cases hin : f ≤ q ∧ q < l
              · have h3 : hit [(x : Int), (f : Int), (l : Int)] q = 1 := if_pos ⟨by show (f : Int) ≤ (q : Int); omega, by show (q : Int) < (l : Int); omega⟩
                rw [if_pos (by simp [hin.1, hin.2])]
                split at h1 <;> omega
              · have h3 : hit [(x : Int), (f : Int), (l : Int)] q = 0 := if_neg (fun ⟨a1, a2⟩ => hin ⟨by have : (f : Int) ≤ (q : Int) := a1; omega, by have : (q : Int) < (l : Int) := a2; omega⟩)
                have e : (D q || (decide (f ≤ q) && decide (q < l))) = D q := by
                  by_cases a1 : f ≤ q
                  · have a2 : ¬ q < l := fun a2 => hin ⟨a1, a2⟩
                    simp [a2]
                  · simp [a1]
                rw [e, ← h1]
                omega
            have hT3b : Hid (T3 (Tl.take i ++ Tl.drop (i + 1))) := T3.append (fun r hr => hT3.out r (List.mem_of_mem_take hr)) (fun r hr => hT3.out r (List.mem_of_mem_drop hr))
            have hTvb : Hid (∀ r ∈ Tl.take i ++ Tl.drop (i + 1), Vld (nln ds x) x r) := fun r hr => by
              rcases List.mem_append.mp hr with h1 | h1
              · exact hTv.out r (List.mem_of_mem_take h1)
              · exact hTv.out r (List.mem_of_mem_drop h1)
            have hlb : Hid ((Tl.take i ++ Tl.drop (i + 1)).length = m) := by
              show _ = _
              rw [List.length_append, List.length_take, List.length_drop]; omega
            have cDel : Hid (∀ W, W.ownsRow wk.heap.size 54 3 (.slice (some ⟨g, 0, none⟩) (m + 1) cp) (m + 1) (tc Tl) → Calls Tryd.prog 36 #[.slice (some ⟨g, 0, none⟩) (m + 1) cp, .int .i64 (i : Int), .int .i64 ((i : Int) + 1)] W fun e w' => e = .returned (.slice (some ⟨g, 0, none⟩) m cp) ∧ w'.ownsRow wk.heap.size 54 3 (.slice (some ⟨g, 0, none⟩) m cp) m (tc (Tl.take i ++ Tl.drop (i + 1))) ∧ W.grownBy w' (some g)) := fun W hW => slices_DeleteT W wk.heap.size g m cp i Tl hT3.out hW hTl.out (by omega) (by omega)
            have hgl := own_lt hown rfl
            have hcB2 : Hid (cf (nmL B) = cf (curA A ds true x)) := (cf_nmL B).trans hcB.out
            have hl9 : i ≤ 1000 := by omega
            subst hi0
            clear cc hTv hhit hTl hTl' hTi hv1 hv2 hv3
            obtain ⟨C2, hC2⟩ : ∃ C2, C2 = trS ds (nmL B) x true (fun q => D q || (decide (f ≤ q) && decide (q < l))) := ⟨_, rfl⟩
            rw [← hC2] at cD
            have hC2' : Hid (C2 = trS ds (nmL B) x true (fun q => D q || (decide (f ≤ q) && decide (q < l)))) := hC2
            clear hC2
            go_wp2_with (first
              | (go_at_call 35; refine Calls.mono cD ?_; rintro e w5 ⟨u, rfl, hU5, hNew, hb5⟩; have hown5 := owns_below hown hb5; clear cD hown q0 q1 q2)
              | (go_at_call 36; refine Calls.mono (cDel.out _ hown5) ?_; rintro e w6 ⟨rfl, hown6, hgr⟩))
            have hU6 := hU5.bar (hNew.apart hgl) (bar_of_grown hgr)
            have hA6 : Hid (Apart u g) := hNew.apart hgl
            have hn5 := hnx.trans (hb5.mono hnx.size)
            have hnx6 := hn5.grown hgr hn5.size (fun q hq => by simp at hq; omega)
            rw [hC2'.out] at hU6
            clear hU5 hNew hb5 hown5 hgr hn5 hU cDel hC2'
            go_roundw
            case rel => exact ⟨kN + 1, m, cp, _, _, nmL B, by go_num, rfl, hlb, hT3b, hTvb, hown6, hhit2, hcB2, hU6, by omega, hnx6⟩
            case measure => simp [lenOf]
    · have e : ds.length = x := by omega
      have hge : ds.length ≤ x := by omega
      rw [← e, hlast.out] at hU
      have hW8 := hW.trans (hnx.mono hW.size)
      have cK := cCk.out _ _ (hZ.below hnx) (hP.below hnx) hW8
      replace hWa := hWa.below hnx
      clear e cDo cCk hlast hpl hph hZ hP hO
      go_wp2_with (first
        | (go_at_call 37; refine Calls.mono cK ?_; rintro e w8 ⟨rfl, hb⟩; replace hU := hU.below hb; replace hWa := hWa.below hb; replace hW8 := hW8.trans (hb.mono hW8.size); clear hb cK)
        | (go_at_call 13; refine Calls.mono (slices_Equal _ _ _ WL hU hWa) ?_; rintro e w9 ⟨rfl, hb⟩; replace hW8 := hW8.trans (hb.mono hW8.size); clear hb))
      go_ret
      exact ⟨rfl, hW8⟩

set_option maxRecDepth 100000 in
set_option maxHeartbeats 4000000 in
theorem planWhole_no (w : World) (v vx vo : Value) (zs : List Int) (xs : List Nat) (c : Int) (back : Bool) (hZ : IsZ w v zs) (hX : IsU w vx xs) (hTb : Tab w) (hno : ∀ ds, Good zs ds → 64 < prd2 ds) :
    Calls Tryd.prog 8 #[v, vx, .int .i64 c, vo, .bool back] w fun e w' => e = .returned (.bool true) ∧ Below w.heap.size w w' := by
  have hW : Below w.heap.size w w := Below.refl _ _
  have c42 := make42 w
  have p42 : Hid (∀ W u, IsP 3 W u [[[0, 0, 2]], [[1, 0, 3], [1, 3, 4]]] → Below w.heap.size w W → Calls Tryd.prog 32 #[u] W fun e w' => e = .returned (.string { data := #[48, 58, 48, 45, 50, 10, 49, 58, 48, 45, 51, 32, 49, 58, 51, 45, 52, 10] }) ∧ Below W.heap.size W w') := fun W u h hb => print42 W u h (hTb.below hb)
  have cSh := fun W (hz : IsZ W v zs) => keep_shaped_no W v vx zs hz hno
  have tk1 : True := trivial
  clear hno
  go_enter Tryd.func8, Tryd.ntmps8
  go_wp2_with (first
    | (go_at_call 31; have _t := tk1; refine Calls.mono c42 ?_; rintro e w1 ⟨u1, rfl, hU1, hb⟩; clear tk1 c42; replace hZ := hZ.below hb; replace hX := hX.below hb; replace hW := hW.trans (hb.mono hW.size); clear hb)
    | (go_at_call 32; refine Calls.mono (p42.out _ _ hU1 hW) ?_; rintro e w2 ⟨rfl, hb⟩; clear p42 hU1; replace hZ := hZ.below hb; replace hX := hX.below hb; replace hW := hW.trans (hb.mono hW.size); clear hb)
    | (go_at_call 26; refine Calls.mono (cSh _ hZ) ?_; rintro e w' ⟨rfl, hw⟩; rw [hw]; clear hw))
  go_ret
  exact ⟨rfl, hW⟩

set_option maxRecDepth 100000 in
set_option maxHeartbeats 4000000 in
theorem planWhole_cut (w : World) (v vx vo : Value) (zs : List Int) (ds xs : List Nat) (c : Int) (back : Bool) (hZ : IsZ w v zs) (hX : IsU w vx xs) (hTb : Tab w) (hG : Good zs ds) (hds : prd2 ds ≤ 64) (hc : c < 1) :
    Calls Tryd.prog 8 #[v, vx, .int .i64 c, vo, .bool back] w fun e w' => e = .returned (.bool true) ∧ Below w.heap.size w w' := by
  have hW : Below w.heap.size w w := Below.refl _ _
  have c42 := make42 w
  have p42 : Hid (∀ W u, IsP 3 W u [[[0, 0, 2]], [[1, 0, 3], [1, 3, 4]]] → Below w.heap.size w W → Calls Tryd.prog 32 #[u] W fun e w' => e = .returned (.string { data := #[48, 58, 48, 45, 50, 10, 49, 58, 48, 45, 51, 32, 49, 58, 51, 45, 52, 10] }) ∧ Below W.heap.size W w') := fun W u h hb => print42 W u h (hTb.below hb)
  have cSh : Hid (∀ W, IsZ W v zs → IsU W vx xs → Calls Tryd.prog 26 #[v, vx] W fun e w' => ∃ g, e = .returned (.tuple #[.slice (some ⟨g, 0, none⟩) (prd2 ds) (prd2 ds), .bool true]) ∧ IsU w' (.slice (some ⟨g, 0, none⟩) (prd2 ds) (prd2 ds)) (szd xs (prd2 ds)) ∧ Below W.heap.size W w') := fun W hz hx => keep_shaped_ok W v vx zs ds xs hz hx hG hds
  have cMk : Hid (∀ W, IsZ W v zs → Below w.heap.size w W → Calls Tryd.prog 31 #[v, .int .i64 c] W fun e w' => ∃ u, e = .returned (.tuple #[u, .int .i64 1]) ∧ IsP 3 w' u [] ∧ Below W.heap.size W w') := fun W hz _ => plan_Make_cut W v zs ds c hz hG (by omega) hc
  have tk1 : True := trivial
  have hd : decide (c < 1) = true := decide_eq_true hc
  clear hG
  go_enter Tryd.func8, Tryd.ntmps8
  go_wp2_with (first
    | (go_at_call 31; have _t := tk1; refine Calls.mono c42 ?_; rintro e w1 ⟨u1, rfl, hU1, hb⟩; clear tk1 c42; replace hZ := hZ.below hb; replace hX := hX.below hb; replace hW := hW.trans (hb.mono hW.size); clear hb)
    | (go_at_call 32; refine Calls.mono (p42.out _ _ hU1 hW) ?_; rintro e w2 ⟨rfl, hb⟩; clear p42 hU1; replace hZ := hZ.below hb; replace hX := hX.below hb; replace hW := hW.trans (hb.mono hW.size); clear hb)
    | (go_at_call 26; refine Calls.mono (cSh.out _ hZ hX) ?_; rintro e w3 ⟨ga, rfl, hU3, hb⟩; clear cSh hX; replace hZ := hZ.below hb; replace hW := hW.trans (hb.mono hW.size); clear hb)
    | (go_at_call 31; refine Calls.mono (cMk.out _ hZ hW) ?_; rintro e w4 ⟨u4, rfl, hP, hb⟩; clear cMk; replace hW := hW.trans (hb.mono hW.size); clear hb))
  go_ret
  exact ⟨rfl, hW⟩

theorem planWhole_walk (w : World) (v : Value) (zs : List Int) (hZ : IsZ w v zs) (vx : Value) (xs : List Nat) (hX : IsU w vx xs) (c : Int) (hc : (Lit.int .i64 c).wf = true) (vo : Value) (os : List Int) (hO : IsZ w vo os) (back : Bool) (hTb : Tab w) :
    Calls Tryd.prog 8 #[v, vx, .int .i64 c, vo, .bool back] w fun e w' => e = .returned (.bool true) ∧ Below w.heap.size w w' := by
  by_cases hG : ∃ ds, Good zs ds ∧ prd2 ds ≤ 64
  · obtain ⟨ds, hG, hn⟩ := hG
    by_cases h1 : c < 1
    · exact planWhole_cut w v vx vo zs ds xs c back hZ hX hTb hG hn h1
    · have hb := bounds_i64 hc
      obtain ⟨m, rfl⟩ := Int.eq_ofNat_of_zero_le (show 0 ≤ c by omega)
      cases back
      · exact planWhole_forth w v vx vo zs os ds xs m hZ hX hO hTb hG hn (by omega) (by omega)
      · exact planWhole_back w v vx vo zs os ds xs m hZ hX hO hTb hG hn (by omega) (by omega)
  · exact planWhole_no w v vx vo zs xs c back hZ hX hTb (fun ds h => by
      rcases Nat.lt_or_ge 64 (prd2 ds) with h1 | h1
      · exact h1
      · exact absurd ⟨ds, h, h1⟩ hG)

end Go.Proofs.YtcaepjmgnoeefaeDoor
