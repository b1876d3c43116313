/-
  The walk of the law RunsOwn: whatever is handed in, a run keeps nothing of what it was handed, and what it tells is its own; the law returns true.
-/
import Derived.Test.YtmgfjcepebjnfagDoorRunsOwnM
import Derived.Test.YtmgfjcepebjnfagDoorSlEqAll
namespace Go.Proofs.YtmgfjcepebjnfagDoor
open Go.RowKit

set_option maxRecDepth 100000 in
set_option maxHeartbeats 16000000 in
theorem runsOwn_main (w : World) (v vx vp : Value) (zs : List Int) (ds xs : List Nat) (c : Nat) (K : List (List Int)) (hZ : IsZ w v zs) (hX : IsU w vx xs) (hK : IsR 2 w vp K) (hTb : Tab w) (hG : Good zs ds) (hds : prd2 ds ≤ 64) (hc : 1 ≤ c) (hc9 : (c : Int) ≤ 9223372036854775807) (hK9 : K.length ≤ 200) :
    Calls Tryd.prog 4 #[v, vx, .int .i64 (c : Int), vp] w fun e w' => e = .returned (.bool true) ∧ Below w.heap.size w w' := by
  have hW : Below w.heap.size w w := Below.refl _ _
  have hS : Hid (Shp ds) := hG.2.2.2
  have hFew := few_small hS.out hds c
  have hzl : zs.length = ds.length := by rw [hG.2.2.1, List.length_map]
  have hz3 : zs.length ≤ 3 := hG.2.1
  have hz1 : 1 ≤ zs.length := hG.1
  have hrz : Hid (∀ z ∈ zs, -9223372036854775808 ≤ z ∧ z ≤ 9223372036854775807) := by obtain ⟨_, _, _, _, _, _, q⟩ := hZ; exact q
  have hpp : 0 < prd2 ds := prd2_pos fun d hd => hS.out.pos d hd
  have cR := keep_runs w hTb
  have cSh : Hid (∀ W, IsZ W v zs → IsU W vx xs → Calls Tryd.prog 31 #[v, vx] W fun e w' => ∃ g, e = .returned (.tuple #[.slice (some ⟨g, 0, none⟩) (prd2 ds) (prd2 ds), .bool true]) ∧ IsU w' (.slice (some ⟨g, 0, none⟩) (prd2 ds) (prd2 ds)) (szd xs (prd2 ds)) ∧ Below W.heap.size W w') := fun W hz hx => keep_shaped_ok W v vx zs ds xs hz hx hG hds
  have cMk : Hid (∀ W, IsZ W v zs → Calls Tryd.prog 32 #[v, .int .i64 (c : Int)] W fun e w' => ∃ u, e = .returned (.tuple #[u, .int .i64 0]) ∧ IsP 3 w' u (pls ds c ds.length) ∧ Below W.heap.size W w') := fun W hz => plan_Make_ok W v zs ds c hz hG (by omega) hc hc9 hFew
  have hlA : (szd xs (prd2 ds)).length = prd2 ds := szd_length _ _
  obtain ⟨A, hA⟩ : ∃ A, A = szd xs (prd2 ds) := ⟨_, rfl⟩
  rw [← hA] at cSh hlA
  have hst : Hid (Stc ds (pls ds c ds.length) (nmL A) 3) := stc_of hG hds c hc A hlA 3 (by decide) (by decide)
  have cN : Hid (∀ W s u l, IsZ W s zs → IsU W u A → IsP 3 W l (pls ds c ds.length) → Calls Tryd.prog 35 #[s, u, l, .int .i64 3, .bool false] W fun e w' => ∃ p O, e = .returned (.tuple #[p, .int .i64 0]) ∧ Run w' p ds (pls ds c ds.length) (nmL A) 3 false (crew0 (pls ds c ds.length) (nmL A) 3) O ∧ (∀ k, O k → W.heap.size ≤ k) ∧ Below W.heap.size W w') := fun W s u l hz hu hp => exec_New W s u l zs ds A _ 3 false hz hu hp hG (by omega) hst.out.F hst.out.T9 (pls_notbig hFew) hlA (by decide) (by decide)
  have cCa : Hid (∀ W u, IsU W u A → Calls Tryd.prog 9 #[u] W fun e w' => ∃ g cap, e = .returned (.slice (some ⟨g, 0, none⟩) (prd2 ds) cap) ∧ w'.ownsRow W.heap.size 25 1 (.slice (some ⟨g, 0, none⟩) (prd2 ds) cap) (prd2 ds) (cellsU A) ∧ Below W.heap.size W w') := fun W u hu => by
    have q := slices_CloneU W u A hu (by rw [hlA]; exact hpp) (by rw [hlA]; omega)
    rw [hlA] at q
    exact q
  have cCz : Hid (∀ W, IsZ W v zs → Calls Tryd.prog 33 #[v] W fun e w' => ∃ g cap, e = .returned (.slice (some ⟨g, 0, none⟩) zs.length cap) ∧ w'.ownsRow W.heap.size 3 1 (.slice (some ⟨g, 0, none⟩) zs.length cap) zs.length (cellsZ zs) ∧ Below W.heap.size W w') := fun W hz => slices_CloneZ W v zs hz (by omega) (by omega)
  have hLs : Hid (∀ i, i < (pls ds c ds.length).length → 0 < ((pls ds c ds.length).getD i []).length ∧ ((pls ds c ds.length).getD i []).length ≤ 64) := fun i hi => ⟨rgt_some (hst.out.F.2 i (by rw [← hst.out.F.1]; exact hi)) (nln_pos hS.out _), hst.out.T9 i⟩
  have cS : Hid (∀ (W : World) (p : Value) (cc : Crw) (O : Nat → Prop) (a b : Int), Run W p ds (pls ds c ds.length) (nmL A) 3 false cc O → Below w.heap.size w W → (∀ k, O k → w.heap.size ≤ k) → Calls Tryd.prog 40 #[p, .agg #[.int .i64 a, .int .i64 b]] W fun e w' => e = .returned (.int .i64 (pickE cc a b)) ∧ ∃ O', Run w' p ds (pls ds c ds.length) (nmL A) 3 false (pickC ds false (pls ds c ds.length) cc a b) O' ∧ (∀ k, O' k → O k ∨ W.heap.size ≤ k) ∧ But O W w') := fun W p cc O a b h hb hn => run_Step w hTb hb h hn hst.out hS.out a b
  have cAr : Hid (∀ (W : World) (p : Value) (cc : Crw) (O : Nat → Prop), Run W p ds (pls ds c ds.length) (nmL A) 3 false cc O → Calls Tryd.prog 41 #[p] W fun e w' => ∃ g cap, e = .returned (.slice (some ⟨g, 0, none⟩) (prd2 ds) cap) ∧ w'.ownsRow W.heap.size 25 1 (.slice (some ⟨g, 0, none⟩) (prd2 ds) cap) (prd2 ds) (cellsU cc.A) ∧ Below W.heap.size W w') := fun W p cc O h => run_Array h hst.out hS.out
  have cLg : Hid (∀ (W : World) (p : Value) (cc : Crw) (O : Nat → Prop), Run W p ds (pls ds c ds.length) (nmL A) 3 false cc O → Calls Tryd.prog 42 #[p] W fun e w' => ∃ u, e = .returned u ∧ w'.ownsRow W.heap.size 41 3 u cc.did.length (tc cc.did) ∧ Below W.heap.size W w') := fun W p cc O h => run_Log h (by have := (h.few hst.out).1; omega)
  have hd3 : Hid (∀ (W : World) (p : Value) (cc : Crw) (O : Nat → Prop), Run W p ds (pls ds c ds.length) (nmL A) 3 false cc O → T3 cc.did) := fun W p cc O h => (h.few hst.out).2.2.2
  have hL3 : (pls ds c ds.length).length ≤ 3 := hst.out.L9
  have hL1 : 1 ≤ (pls ds c ds.length).length := by rw [hst.out.F.1]; exact hst.out.d1
  obtain ⟨ak, ck, rfl, -⟩ := id hK
  have tk1 : True := trivial
  clear hG hA hFew hst hc hzl
  generalize pls ds c ds.length = L at *
  replace hlA : Hid _ := hlA
  have hKw : Hid _ := hK
  go_enter Tryd.func4, Tryd.ntmps4
  go_wp2_with (first
    | (go_at_call 30; refine Calls.mono cR ?_; rintro e w1 ⟨rfl, hb⟩; clear cR; replace hZ := hZ.below hb; replace hX := hX.below hb; replace hW := hb; clear hb)
    | (go_at_call 31; refine Calls.mono (cSh.out _ hZ hX) ?_; rintro e w3 ⟨ga, rfl, hU3, hb⟩; clear cSh hX; replace hZ := hZ.below hb; replace hW := hW.trans (hb.mono hW.size); clear hb)
    | (go_at_call 32; refine Calls.mono (cMk.out _ hZ) ?_; rintro e w4 ⟨u4, rfl, hP, hb⟩; clear cMk; replace hZ := hZ.below hb; replace hU3 := hU3.below hb; replace hW := hW.trans (hb.mono hW.size); clear hb; obtain ⟨al, cl, rfl, -⟩ := id hP)
    | (go_at_call 9; refine Calls.mono (cCa.out _ _ hU3) ?_; rintro e w5 ⟨gi, ci, rfl, hin, hb⟩; clear cCa; have hgi := owns_in hin rfl; have hs4 := hW.size; replace hZ := hZ.below hb; replace hU3 := hU3.below hb; replace hP := hP.below hb; have hs45 := hb.size; replace hW := hW.trans (hb.mono hW.size); clear hb)
    | (go_at_call 33; refine Calls.mono (cCz.out _ hZ) ?_; rintro e w6 ⟨gs, cs, rfl, hsn, hb⟩; clear cCz; replace hZ := hZ.below hb; replace hU3 := hU3.below hb; replace hP := hP.below hb; replace hin := owns_below hin hb; replace hW := hW.trans (hb.mono hW.size); clear hb))
  have hgs := owns_in hsn rfl
  have hs6 := hW.size
  go_loopw [15, 54] (fun vP vi wr => ∃ (i : Nat) (u : Value) (vs : List Value), i ≤ L.length ∧ vi = .int .i64 (i : Int) ∧ vP = u ∧ Hid (wr.ownsRow w6.heap.size 56 1 u i vs) ∧ Hid (PhS w6.heap.size wr u vs L i) ∧ Below w6.heap.size w6 wr)
    (fun _ vi _ => L.length - (intOf vi).toNat)
  case atStart => exact ⟨0, .slice none 0 0, [], Nat.zero_le _, rfl, rfl, ⟨rfl, .inl ⟨rfl, rfl⟩⟩, ⟨rfl, fun i hi => absurd hi (by omega), fun i hi => absurd hi (by omega)⟩, Below.refl _ _⟩
  case round =>
    obtain ⟨i, u, vs, hi, rfl, hvP, hownP, hPh, hb⟩ := hrel
    rw [hvP]
    by_cases hlt : i < L.length
    · obtain ⟨b, off, u1, n1, q1, hal, hu1, hcx, hRx⟩ := phase_cells hP hb i hlt
      subst hal hu1
      obtain ⟨l0, l64⟩ := hLs.out i hlt
      have cCl := slices_CloneT wr _ (L.getD i []) hRx l0 (by omega)
      have hT3 : Hid (T3 (L.getD i [])) := by obtain ⟨_, _, _, _, _, _, q⟩ := hRx; exact q
      obtain ⟨m, hm⟩ : ∃ m, Hid (m = (L.getD i []).length) := ⟨_, rfl⟩
      rw [← hm.out] at hcx cCl l0 l64
      have hfin : Hid (∀ g cap w2, w2.ownsRow wr.heap.size 41 3 (.slice (some ⟨g, 0, none⟩) m cap) m (tc (L.getD i [])) → Below wr.heap.size wr w2 → w2.ownsRow w6.heap.size 56 1 u i vs ∧ Below w6.heap.size w6 w2 ∧ ∀ g6 c6 w', w'.ownsRow w6.heap.size 56 1 (.slice (some ⟨g6, 0, none⟩) (i + 1) c6) (i + 1) (vs ++ [.slice (some ⟨g, 0, none⟩) m cap]) → (∀ b, b < w2.heap.size → u.ownBlock ≠ some b → w'.heap[b]? = w2.heap[b]?) → (u.ownBlock = some g6 ∨ w2.heap.size < g6) → PhS w6.heap.size w' (.slice (some ⟨g6, 0, none⟩) (i + 1) c6) (vs ++ [.slice (some ⟨g, 0, none⟩) m cap]) L (i + 1)) := fun g cap w2 hown hb2 => by
        refine ⟨owns_below hownP.out hb2, hb.trans (hb2.mono hb.size), fun g6 c6 w' _ hk hat => ?_⟩
        rw [hm.out] at hown ⊢
        exact hPh.out.grow hb2 hb.size (fun b e => (owns_in hownP.out e).1) hown hT3.out hk hat
      have hi9 : i ≤ 1000000 := by omega
      clear hownP hPh cN cS cAr cLg hd3 hRx
      go_wp2_with (first
        | (go_at_call 34; refine Calls.mono cCl ?_; rintro e w2 ⟨g2, c2, rfl, hown2, hb2⟩; clear cCl; obtain ⟨hownU, hbU, hgrow⟩ := hfin.out g2 c2 w2 hown2 hb2; clear hfin hown2 hb2; replace hgrow : Hid _ := hgrow)
        | (at_builtin; refine wp_appendP rfl _ _ rfl _ _ _ _ _ _ rfl hownU rfl hi9 hbU ?_; intro g6 cap6 w7 hown6 hnx6 hkeep hat hlt6 hsz6; have hPh6 : Hid _ := hgrow.out g6 cap6 w7 hown6 hkeep hat.out; replace hown6 : Hid _ := hown6; clear hgrow hkeep hat))
      go_roundw
      case rel => exact ⟨i + 1, _, _, by omega, by go_num, rfl, hown6, hPh6, hnx6⟩
      case measure => simp only [intOf]; omega
    · have he : i = L.length := by omega
      have hge : L.length ≤ i := by omega
      subst he
      obtain ⟨w7, hw7⟩ : ∃ w7 : World, w7 = wr := ⟨_, rfl⟩
      rw [← hw7] at hownP hPh hb ⊢
      clear hw7 hvP
      have hPp : IsP 3 w7 u L := hPh.out.isP hownP.out
      replace hZ := hZ.below hb
      replace hU3 := hU3.below hb
      replace hP := hP.below hb
      have hin7 := owns_below hin hb
      have hsn7 := owns_below hsn hb
      have hUi : IsU w7 (.slice (some ⟨gi, 0, none⟩) (prd2 ds) ci) A := IsU.of_owns hin7 hU3.range
      have hZs : IsZ w7 (.slice (some ⟨gs, 0, none⟩) zs.length cs) zs := IsZ.of_owns hsn7 hrz.out
      have hW7 := hW.trans (hb.mono hs6)
      have hs7 := hW7.size
      obtain ⟨gp, cp, rfl⟩ : ∃ gp cp, u = .slice (some ⟨gp, 0, none⟩) L.length cp := by
        rcases hownP.out.2 with ⟨_, h0⟩ | ⟨g, cap, cur, e, _⟩
        · omega
        · exact ⟨g, cap, e⟩
      have hgp := owns_in hownP.out rfl
      clear hLs hW hs6
      have hs67 := hb.size
      go_wp2_with (first
        | (go_at_call 35; have _t := tk1; refine Calls.mono (cN.out _ _ _ _ hZs hUi hPp) ?_; rintro e w8 ⟨pr, Or, rfl, hRr, hOr, hb8⟩; clear tk1 hPp; replace hZ := hZ.below hb8; replace hU3 := hU3.below hb8; replace hP := hP.below hb8; replace hUi := hUi.below hb8; replace hZs := hZs.below hb8; replace hRr : Hid _ := hRr)
        | (go_at_call 35; refine Calls.mono (cN.out _ _ _ _ hZ hU3 hP) ?_; rintro e w9 ⟨pt, Ot, rfl, hRt, hOt, hb9⟩; clear cN hP; replace hZ := hZ.below hb9; replace hU3 := hU3.below hb9; replace hUi := hUi.below hb9; replace hZs := hZs.below hb9; have hb79 := hb8.trans (hb9.mono hb8.size); have hTw : Hid (Two w w7.heap.size w9 pr pt ds L (nmL A) (crew0 L (nmL A) 3) (crew0 L (nmL A) 3) Or Ot) := ⟨Run.below hRr.out hb9, hRt, hOr, fun k e => Nat.le_trans hb8.size (hOt k e), fun k e1 e2 => (by have h1 := Run.old hRr.out k e1; have h2 := hOt k e2; omega), hW7.trans (hb79.mono hs7)⟩; clear hRr hOr hRt hOt)
        | (go_at_call 28; refine Calls.mono (slices_Equal _ _ _ A hUi hU3) ?_; rintro e w10 ⟨rfl, hb10⟩; clear hUi hU3; replace hZ := hZ.below hb10; replace hZs := hZs.below hb10; have hTw10 : Hid _ := Two.below hTw.out hb10; have hb710 := hb79.trans (hb10.mono hb79.size); clear hTw)
        | (go_at_call 36; refine Calls.mono (slices_EqualZ _ _ _ zs hZs hZ) ?_; rintro e w11 ⟨rfl, hb11⟩; clear hZ hZs; have hTw11 : Hid _ := Two.below hTw10.out hb11; have hb711 := hb710.trans (hb11.mono hb710.size); clear hTw10; have cSi := spoil_A w11 _ _ gi ci 5 _ (owns_below hin7 hb711))
        | (go_at_call 27; refine Calls.mono cSi ?_; rintro e w12 ⟨rfl, hb12⟩; clear cSi; have hTw12 : Hid _ := Two.spoilt hTw11.out hb12 (fun k e => (by have e2 : gi = k := Option.some.inj e; subst e2; exact ⟨by omega, .inl (by omega)⟩)); clear hTw11; have hsn12 := owns_at (owns_below hsn7 hb711) (fun b e => hb12.block b (owns_in (owns_below hsn7 hb711) e).1 (fun e2 => by have e3 : gi = b := Option.some.inj e2; have e4 : gs = b := Option.some.inj e; omega)); have cSs := spoil_Zs w12 _ _ gs cs 1 _ hsn12)
        | (go_at_call 37; refine Calls.mono cSs ?_; rintro e w13 ⟨rfl, hb13⟩; clear cSs hsn12; have hTw13 : Hid _ := Two.spoilt hTw12.out hb13 (fun k e => (by have e2 : gs = k := Option.some.inj e; subst e2; exact ⟨by omega, .inl (by omega)⟩)); clear hTw12))
      obtain ⟨rp, rp1, rp2, rp3, rp4, -⟩ := owns_row hownP.out
      have hkeep : ∀ b, w6.heap.size ≤ b → b < w7.heap.size → w13.heap[b]? = w7.heap[b]? := fun b h1 h2 => by
        have q1 := hb711.size
        have q2 := hb12.size
        refine (hb13.block b (by omega) fun e => ?_).trans ((hb12.block b (by omega) fun e => ?_).trans (hb711.block b h2))
        · have e3 : gs = b := Option.some.inj e; omega
        · have e3 : gi = b := Option.some.inj e; omega
      have hrp : Hid (RowV 56 w13 gp rp) := rp1.block (hkeep gp hgp.2 hgp.1)
      have hPz : Hid (Pz w6.heap.size w7.heap.size gp vs L L.length w13) := hPh.out.pz.kept fun b h1 h2 _ => hkeep b h1 h2
      have hrpv : Hid (∀ j, j < L.length → rp[j]? = vs[j]?) := fun j hj => by
        rcases hownP.out.2 with ⟨hv, _⟩ | ⟨g', cap', cur, hv, hg, hh, h1, h2, h3, h4⟩
        · cases hv
        · simp only [Value.slice.injEq, Option.some.injEq, Addr.mk.injEq, and_true, true_and] at hv
          obtain ⟨rfl, rfl⟩ := hv
          have a1 : w7.heap[gp]? = _ := rp1
          rw [hh] at a1
          simp only [Option.some.injEq, Obj.cells.injEq, and_true] at a1
          rw [← h4, List.getElem?_take, if_pos (by omega), a1]
      have hlp : rp.length = cp := by omega
      clear hkeep hb12 hb13 hb711 hb710 hb79 hb8 hb9 hb10 hb11 hin7 hsn7 hin hsn rp1 rp2 hownP hPh hb
      go_loopw [102] (fun vi wr => ∃ (i : Nat), i ≤ L.length ∧ vi = .int .i64 (i : Int) ∧ Hid (Two w w7.heap.size wr pr pt ds L (nmL A) (crew0 L (nmL A) 3) (crew0 L (nmL A) 3) Or Ot) ∧ Hid (RowV 56 wr gp rp) ∧ Hid (Pz w6.heap.size w7.heap.size gp vs L L.length wr))
        (fun vi _ => L.length - (intOf vi).toNat)
      case atStart => exact ⟨0, Nat.zero_le _, rfl, hTw13, hrp, hPz⟩
      case round =>
        clear hTw13 hrp hPz
        obtain ⟨i, hi, rfl, hTw, hrp, hPz⟩ := hrel
        by_cases hlt : i < L.length
        · obtain ⟨g1, c1, r1, q1, q2, q3, q4, q5, q6, q7, q8⟩ := hPz.out i hlt
          have hcl := (RowV.cell hrp.out i).trans ((hrpv.out i hlt).trans q1)
          obtain ⟨m1, hm1⟩ : ∃ m1, Hid (m1 = (L.getD i []).length) := ⟨_, rfl⟩
          rw [← hm1.out] at hcl q7
          have cSp := spoil_T wr g1 m1 c1 0 0 0 r1 q5 q6 q7 q8
          have hin : (i : Int) < (L.length : Int) := by omega
          have hfin : Hid (∀ w2 r2, RowV 41 w2 g1 r2 → r2.length = c1 * 3 → Bar g1 wr w2 → Two w w7.heap.size w2 pr pt ds L (nmL A) (crew0 L (nmL A) 3) (crew0 L (nmL A) 3) Or Ot ∧ RowV 56 w2 gp rp ∧ Pz w6.heap.size w7.heap.size gp vs L L.length w2) := fun w2 r2 a1 a2 a3 =>
            ⟨Two.spoilt (R := fun k => k = g1) hTw.out (But.of_bar a3 rfl) (fun k e => by subst e; exact ⟨by omega, .inl q4⟩), RowV.bar hrp.out (Ne.symm q2) a3, hPz.out.spoilt q5 a3 a1 (by omega)⟩
          clear hTw hrp hPz q5 q1 cS cAr cLg hd3
          go_wp2_with (go_at_call 38; refine Calls.mono cSp ?_; rintro e w2 ⟨rfl, ⟨r2, a1, a2⟩, a3⟩; clear cSp; obtain ⟨b1, b2, b3⟩ := hfin.out w2 r2 a1 a2 a3; clear hfin a1 a2 a3; replace b1 : Hid _ := b1; replace b2 : Hid _ := b2; replace b3 : Hid _ := b3)
          go_roundw
          case rel => exact ⟨i + 1, by omega, by go_num, b1, b2, b3⟩
          case measure => simp only [intOf]; omega
        · have hge : L.length ≤ i := by omega
          have cSq := spoil_P wr gp L.length cp rp hrp.out hlp rp3 rp4
          have hfin : Hid (∀ w2, Bar gp wr w2 → Two w w7.heap.size w2 pr pt ds L (nmL A) (crew0 L (nmL A) 3) (crew0 L (nmL A) 3) Or Ot) := fun w2 a3 => Two.spoilt (R := fun k => k = gp) hTw.out (But.of_bar a3 rfl) (fun k e => by subst e; exact ⟨by omega, .inl hgp.1⟩)
          clear hTw hrp hPz hrpv
          go_wp2_with (go_at_call 39; refine Calls.mono cSq ?_; rintro e w14 ⟨rfl, -, a3⟩; clear cSq; have hTw14 : Hid _ := hfin.out w14 a3; clear hfin a3)
          have cS2 : Hid (∀ (W : World) (p : Value) (cc : Crw) (O : Nat → Prop) (a b : Int), Run W p ds L (nmL A) 3 false cc O → Below w.heap.size w W → (∀ k, O k → w7.heap.size ≤ k) → Calls Tryd.prog 40 #[p, .agg #[.int .i64 a, .int .i64 b]] W fun e w' => e = .returned (.int .i64 (pickE cc a b)) ∧ ∃ O', Run w' p ds L (nmL A) 3 false (pickC ds false L cc a b) O' ∧ (∀ k, O' k → O k ∨ W.heap.size ≤ k) ∧ But O W w') := fun W p cc O a b h hb hn => cS.out W p cc O a b h hb fun k e => Nat.le_trans hs7 (hn k e)
          clear cS
          go_loopw [114] (fun vi wr => ∃ (i : Nat) (cc : Crw) (O Q : Nat → Prop), i ≤ K.length ∧ vi = .int .i64 (i : Int) ∧ Hid (Two w w7.heap.size wr pr pt ds L (nmL A) cc cc O Q))
            (fun vi _ => K.length - (intOf vi).toNat)
          case atStart => exact ⟨0, _, Or, Ot, Nat.zero_le _, rfl, hTw14⟩
          case round =>
            clear hTw14
            obtain ⟨i2, cc, O, Q, hi2, rfl, hTw⟩ := hrel
            by_cases hlt2 : i2 < K.length
            · obtain ⟨b, off, cap, pa, pb, e0, x0, x1⟩ := pick_cells hKw.out hTw.out.bel i2 hlt2
              simp only [Value.slice.injEq] at e0
              obtain ⟨rfl, -, rfl⟩ := e0
              have hoO := hTw.out.r.old
              have hoQ := hTw.out.t.old
              have hT1 := Two.below hTw.out (below_alloc1 wr (.cells #[.int .i64 pa, .int .i64 pb] 66))
              have c1 := cS2.out _ pr cc O pa pb hT1.r hT1.bel hT1.rn
              have hsz := hTw.out.size
              have hsz1 : wr.heap.size ≤ (wr.alloc (.cells #[.int .i64 pa, .int .i64 pb] 66)).heap.size := (below_alloc1 wr _).size
              replace hT1 : Hid _ := hT1
              replace hoO : Hid _ := hoO
              clear hTw
              obtain ⟨c2, hc2⟩ : ∃ c2, Hid (c2 = pickC ds false L cc pa pb) := ⟨_, rfl⟩
              rw [← hc2.out] at c1
              have hstep2 : Hid (∀ w2 O2, Run w2 pr ds L (nmL A) 3 false c2 O2 → (∀ k, O2 k → O k ∨ (wr.alloc (.cells #[.int .i64 pa, .int .i64 pb] 66)).heap.size ≤ k) → But O (wr.alloc (.cells #[.int .i64 pa, .int .i64 pb] 66)) w2 → Two w w7.heap.size w2 pr pt ds L (nmL A) c2 cc O2 Q) := fun w2 O2 a1 a2 a3 => Two.step1 hT1.out hs7 (by omega) a1 a2 a3
              clear hT1
              go_wp2_with (first
                | (go_at_call 40; refine Calls.mono c1 ?_; rintro e w2 ⟨rfl, O2, a1, a2, a3⟩; clear c1; have hT2 := hstep2.out w2 O2 a1 a2 a3; obtain ⟨y0, y1⟩ := box_kept pa pb a3 hoO.out; clear hstep2 a1 a2 a3; have hsz2 := hT2.size; have d1 := cS2.out w2 pt cc Q pa pb hT2.t hT2.bel hT2.tn; rw [← hc2.out] at d1; replace hT2 : Hid _ := hT2; clear hc2)
                | (go_at_call 40; refine Calls.mono d1 ?_; rintro e w3 ⟨rfl, Q3, a1, a2, a3⟩; clear d1; have hT3 := Two.step2 hT2.out hs7 hsz2 a1 a2 a3; clear hT2 a1 a2 a3; have hsz3 := hT3.size; have cA3 := cAr.out w3 pr c2 O2 hT3.r; have oO3 := hT3.r.old; have oQ3 := hT3.t.old; replace hT3 : Hid _ := hT3)
                | (go_at_call 41; refine Calls.mono cA3 ?_; rintro e w4' ⟨g4, c4, rfl, hown4, hb4⟩; clear cA3; have hT4 : Hid _ := Two.below hT3.out hb4; clear hT3; have hg4 := owns_in hown4 rfl; have hsb := spoil_A w4' _ _ g4 c4 6 _ hown4; clear hown4 hb4)
                | (go_at_call 27; refine Calls.mono hsb ?_; rintro e w5' ⟨rfl, hb5⟩; clear hsb; have hT5 := Two.spoilt hT4.out hb5 (fun k e => (by have e2 : g4 = k := Option.some.inj e; subst e2; exact ⟨by omega, .inr (.inr ⟨fun q => (by have := oO3 _ q; omega), fun q => (by have := oQ3 _ q; omega)⟩)⟩)); clear hT4 hb5 oO3 oQ3; have hsz5 := hT5.size; have cL5 := cLg.out w5' pr c2 O2 hT5.r; have oO5 := hT5.r.old; have oQ5 := hT5.t.old; replace hT5 : Hid _ := hT5)
                | (go_at_call 42; refine Calls.mono cL5 ?_; rintro e w6' ⟨u6, rfl, hown6, hb6⟩; clear cL5; have hT6 : Hid _ := Two.below hT5.out hb6; clear hT5; have hg6 : Hid (∀ k, u6.ownBlock = some k → w5'.heap.size ≤ k) := (fun k e => (owns_in hown6 e).2); have hsl := spoil_L w6' u6 _ _ _ 2 0 0 hown6; clear hown6 hb6)
                | (go_at_call 38; refine Calls.mono hsl ?_; rintro e w7' ⟨rfl, hb7⟩; clear hsl; have hT7 : Hid _ := Two.spoilt hT6.out hb7 (fun k e => (by have q1 := hg6.out k e; exact ⟨by omega, .inr (.inr ⟨fun q => (by have := oO5 _ q; omega), fun q => (by have := oQ5 _ q; omega)⟩)⟩)); clear hT6 hb7))
              go_roundw
              case rel => exact ⟨i2 + 1, c2, O2, Q3, by omega, by go_num, hT7⟩
              case measure => simp only [intOf]; omega
            · have hge2 : K.length ≤ i2 := by omega
              have cA1 := cAr.out wr pr cc O hTw.out.r
              have hlt3 : Hid (∀ x ∈ cc.A, ((x : Nat) : Int) < 18446744073709551616) := Run.lt hTw.out.r
              have hd : Hid (T3 cc.did) := hd3.out wr pr cc O hTw.out.r
              go_wp2_with (first
                | (go_at_call 41; have _t := hge; refine Calls.mono cA1 ?_; rintro e w2 ⟨g2, cp2, rfl, ho2, hb2⟩; clear cA1 hge; have hT2 : Hid _ := Two.below hTw.out hb2; clear hTw; have hV2 := IsU.of_owns ho2 hlt3.out; have cA2 := cAr.out w2 pt cc Q hT2.out.t; clear ho2)
                | (go_at_call 41; refine Calls.mono cA2 ?_; rintro e w3 ⟨g3, cp3, rfl, ho3, hb3⟩; clear cA2; have hT3 : Hid _ := Two.below hT2.out hb3; clear hT2; have hV3 := IsU.of_owns ho3 hlt3.out; replace hV2 := hV2.below hb3; clear ho3)
                | (go_at_call 28; refine Calls.mono (slices_Equal _ _ _ cc.A hV2 hV3) ?_; rintro e w4' ⟨rfl, hb4⟩; clear hV2 hV3; have hT4 : Hid _ := Two.below hT3.out hb4; clear hT3; have cL1 := cLg.out w4' pr cc O hT4.out.r)
                | (go_at_call 42; have _t := hge2; refine Calls.mono cL1 ?_; rintro e w5' ⟨u5, rfl, ho5, hb5⟩; clear cL1 hge2; have hT5 : Hid _ := Two.below hT4.out hb5; clear hT4; have hR5 := IsR.of_owns ho5 hd.out; have cL2 := cLg.out w5' pt cc Q hT5.out.t; clear ho5)
                | (go_at_call 42; refine Calls.mono cL2 ?_; rintro e w6' ⟨u6, rfl, ho6, hb6⟩; clear cL2; have hT6 : Hid _ := Two.below hT5.out hb6; clear hT5; have hR6 := IsR.of_owns ho6 hd.out; replace hR5 := hR5.below hb6; clear ho6)
                | (go_at_call 43; refine Calls.mono (slices_EqualQ _ _ _ cc.did hR5 hR6) ?_; rintro e w7' ⟨rfl, hb7⟩))
              go_ret
              exact ⟨rfl, (Two.below hT6.out hb7).bel⟩

set_option maxHeartbeats 4000000 in
theorem runsOwn_no (w : World) (v vx vp : Value) (zs : List Int) (c : Int) (hZ : IsZ w v zs) (hTb : Tab w) (hno : ∀ ds, Good zs ds → 64 < prd2 ds) :
    Calls Tryd.prog 4 #[v, vx, .int .i64 c, vp] w fun e w' => e = .returned (.bool true) ∧ Below w.heap.size w w' := by
  have cR := keep_runs w hTb
  have cSh := fun W (hz : IsZ W v zs) => keep_shaped_no W v vx zs hz hno
  clear hno
  go_enter Tryd.func4, Tryd.ntmps4
  go_wp2_with (first
    | (go_at_call 30; refine Calls.mono cR ?_; rintro e w1 ⟨rfl, hb⟩; clear cR; replace hZ := hZ.below hb)
    | (go_at_call 31; refine Calls.mono (cSh _ hZ) ?_; rintro e w' ⟨rfl, hw⟩; rw [hw]; clear hw))
  go_ret
  exact ⟨rfl, hb⟩
set_option maxHeartbeats 4000000 in
theorem runsOwn_many (w : World) (v vx vp : Value) (zs : List Int) (ds xs : List Nat) (c : Int) (K : List (List Int)) (hZ : IsZ w v zs) (hX : IsU w vx xs) (hK : IsR 2 w vp K) (hTb : Tab w) (hG : Good zs ds) (hds : prd2 ds ≤ 64) (hK9 : 200 < K.length) :
    Calls Tryd.prog 4 #[v, vx, .int .i64 c, vp] w fun e w' => e = .returned (.bool true) ∧ Below w.heap.size w w' := by
  have cR := keep_runs w hTb
  have cSh : Hid (∀ W, IsZ W v zs → IsU W vx xs → Calls Tryd.prog 31 #[v, vx] W fun e w' => ∃ g, e = .returned (.tuple #[.slice (some ⟨g, 0, none⟩) (prd2 ds) (prd2 ds), .bool true]) ∧ IsU w' (.slice (some ⟨g, 0, none⟩) (prd2 ds) (prd2 ds)) (szd xs (prd2 ds)) ∧ Below W.heap.size W w') := fun W hz hx => keep_shaped_ok W v vx zs ds xs hz hx hG hds
  obtain ⟨ak, ck, rfl, -⟩ := hK
  clear hG
  go_enter Tryd.func4, Tryd.ntmps4
  go_wp2_with (first
    | (go_at_call 30; refine Calls.mono cR ?_; rintro e w1 ⟨rfl, hb⟩; clear cR; replace hZ := hZ.below hb; replace hX := hX.below hb)
    | (go_at_call 31; refine Calls.mono (cSh.out _ hZ hX) ?_; rintro e w3 ⟨ga, rfl, hU3, hb3⟩; clear cSh))
  go_ret
  exact ⟨rfl, hb.trans (hb3.mono hb.size)⟩
set_option maxHeartbeats 4000000 in
theorem runsOwn_cut (w : World) (v vx vp : Value) (zs : List Int) (ds xs : List Nat) (c : Int) (K : List (List Int)) (hZ : IsZ w v zs) (hX : IsU w vx xs) (hK : IsR 2 w vp K) (hTb : Tab w) (hG : Good zs ds) (hds : prd2 ds ≤ 64) (hK9 : K.length ≤ 200) (hc : c < 1) :
    Calls Tryd.prog 4 #[v, vx, .int .i64 c, vp] w fun e w' => e = .returned (.bool true) ∧ Below w.heap.size w w' := by
  have cR := keep_runs w hTb
  have cSh : Hid (∀ W, IsZ W v zs → IsU W vx xs → Calls Tryd.prog 31 #[v, vx] W fun e w' => ∃ g, e = .returned (.tuple #[.slice (some ⟨g, 0, none⟩) (prd2 ds) (prd2 ds), .bool true]) ∧ IsU w' (.slice (some ⟨g, 0, none⟩) (prd2 ds) (prd2 ds)) (szd xs (prd2 ds)) ∧ Below W.heap.size W w') := fun W hz hx => keep_shaped_ok W v vx zs ds xs hz hx hG hds
  have cMk : Hid (∀ W, IsZ W v zs → Calls Tryd.prog 32 #[v, .int .i64 c] W fun e w' => ∃ u, e = .returned (.tuple #[u, .int .i64 1]) ∧ IsP 3 w' u [] ∧ Below W.heap.size W w') := fun W hz => plan_Make_cut W v zs ds c hz hG (by omega) hc
  obtain ⟨ak, ck, rfl, -⟩ := hK
  clear hG
  go_enter Tryd.func4, Tryd.ntmps4
  go_wp2_with (first
    | (go_at_call 30; refine Calls.mono cR ?_; rintro e w1 ⟨rfl, hb⟩; clear cR; replace hZ := hZ.below hb; replace hX := hX.below hb)
    | (go_at_call 31; refine Calls.mono (cSh.out _ hZ hX) ?_; rintro e w3 ⟨ga, rfl, hU3, hb3⟩; clear cSh; replace hZ := hZ.below hb3; have hb3' := hb.trans (hb3.mono hb.size))
    | (go_at_call 32; refine Calls.mono (cMk.out _ hZ) ?_; rintro e w4 ⟨u4, rfl, hP, hb4⟩; clear cMk; have hb4' := hb3'.trans (hb4.mono hb3'.size)))
  go_ret
  exact ⟨rfl, hb4'⟩

theorem runsOwn_walk (w : World) (v : Value) (zs : List Int) (hZ : IsZ w v zs) (vx : Value) (xs : List Nat) (hX : IsU w vx xs) (c : Int) (hc : (Lit.int .i64 c).wf = true) (vp : Value) (K : List (List Int)) (hK : IsR 2 w vp K) (hTb : Tab w) :
    Calls Tryd.prog 4 #[v, vx, .int .i64 c, vp] w fun e w' => e = .returned (.bool true) ∧ Below w.heap.size w w' := by
  by_cases hG : ∃ ds, Good zs ds ∧ prd2 ds ≤ 64
  · obtain ⟨ds, hG, hn⟩ := hG
    rcases Nat.lt_or_ge 200 K.length with hk | hk
    · exact runsOwn_many w v vx vp zs ds xs c K hZ hX hK hTb hG hn hk
    · by_cases h1 : c < 1
      · exact runsOwn_cut w v vx vp zs ds xs c K hZ hX hK hTb hG hn hk h1
      · have hb := bounds_i64 hc
        obtain ⟨m, rfl⟩ := Int.eq_ofNat_of_zero_le (show 0 ≤ c by omega)
        exact runsOwn_main w v vx vp zs ds xs m K hZ hX hK hTb hG hn (by omega) (by omega) hk
  · exact runsOwn_no w v vx vp zs c hZ hTb (fun ds h => by
      rcases Nat.lt_or_ge 64 (prd2 ds) with h1 | h1
      · exact h1
      · exact absurd ⟨ds, h, h1⟩ hG)

end Go.Proofs.YtmgfjcepebjnfagDoor
