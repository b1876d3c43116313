/-
  Texts that stood one behind the other, as one.
-/
import Derived.Test.YtckoipoejaafhaaDoorManyTAll
import Derived.Test.YtckoipoejaafhaaDoorTopDrAll
import Derived.Test.YtckoipoejaafhaaDoorTopDrAll
import Derived.Test.YtckoipoejaafhaaDoorTopDrAll
import Derived.Test.YtckoipoejaafhaaDoorTopDrAll
import Derived.Test.YtckoipoejaafhaaDoorRows
import Derived.WalkKit
import Derived.ProofKit
import Derived.OpenShut
import Derived.Test.YtckoipoejaafhaaDoorSlAll
import Derived.Test.YtckoipoejaafhaaDoorTie
import Derived.Test.YtckoipoejaafhaaDoorCards
import Derived.Stop.Joined
import Derived.SizedLaws
import Derived.Test.YtckoipoejaafhaaDoorManyGAll
import Derived.ShutString
import Derived.ChangeOld
import Derived.Below
namespace Go.Proofs.YtckoipoejaafhaaDoor
open Go.RowKit
set_option maxRecDepth 100000
def tsS (v vx vp vm : Value) (c1 c2 wk ot : Int) : Array Value := #[v, vx, .int .i64 c1, .int .i64 c2, .int .i64 wk, .int .i64 ot, vp, vm, undef, undef, undef, undef, undef, undef, undef, undef, .bool false, undef, undef, undef, undef, undef, undef, undef, undef, undef, undef, undef, undef, .bool true, .bool false, undef, undef, undef, undef, undef, undef, undef, undef, undef, undef, undef, undef, undef, undef, undef, undef, undef, undef, undef, undef, undef, undef, undef, undef, undef, undef, undef, undef, undef, undef, undef, undef, undef, undef, undef, undef, undef, undef, undef, undef, undef, undef, undef, undef, undef, undef, undef, undef, undef, undef, undef, undef, undef, undef, undef, undef, undef, undef, undef, undef, undef, undef, undef, undef, undef, undef, undef, undef, undef, undef, undef, undef, undef, undef, undef, undef, undef, undef, undef, undef, undef, undef, undef, undef, undef, undef]
set_option maxRecDepth 100000 in
set_option maxHeartbeats 4000000 in
theorem topSame_no (w : World) (v vx vp vm : Value) (zs : List Int) (xs : List Nat) (c1 c2 wk ot : Int) (K M : List (List Int)) (hZ : IsZ w v zs) (_hX : IsU w vx xs) (hK : IsR 2 w vp K) (hM : IsR 2 w vm M) (hc1 : -9223372036854775808 <= c1 /\ c1 <= 9223372036854775807) (hc2 : -9223372036854775808 <= c2 /\ c2 <= 9223372036854775807) (hno : ∀ ds, Good zs ds -> 64 < prd2 ds) :
    (Cc.sq2 (Cc.sq2 (Tryd.f4.body.getD .skip))).wp Tryd.prog (bodyPost Tryd.prog Tryd.f4 fun e w' => e = .returned (.bool true) /\ Below w.heap.size w w')
      ⟨tsS v vx vp vm c1 c2 wk ot, []⟩ w := by
  have cSh := top_shaped_no w v vx zs hZ hno
  have cM : Hid (∀ (W : World) (c : Int), IsZ W v zs -> (-9223372036854775808 <= c /\ c <= 9223372036854775807) -> Calls Tryd.prog 17 #[v, .int .i64 c] W fun e w' => ∃ u er, e = .returned (.tuple #[u, .int .i64 er]) /\ Below W.heap.size W w') := fun W c hz hc => plan_Make_any W v zs c hz hc
  have tk1 : True := trivial
  obtain ⟨ak, ck, rfl, -⟩ := hK
  obtain ⟨am, cm, rfl, -⟩ := hM
  clear hno
  unfold tsS
  refine Cc.rest2 (fn := Tryd.f4) rfl ?_
  go_wp2_with (first
    | (go_at_call 16; refine Calls.mono cSh ?_; rintro e w' ⟨rfl, hw⟩; rw [hw]; clear hw cSh)
    | (go_at_call 17; have _t := tk1; refine Calls.mono (cM.out _ _ hZ hc1) ?_; rintro e w1 ⟨u1, er1, rfl, hb1⟩; clear tk1 _t; replace hZ := hZ.below hb1)
    | (go_at_call 17; refine Calls.mono (cM.out _ _ hZ hc2) ?_; rintro e w2 ⟨u2, er2, rfl, hb2⟩; have hb3 := hb1.trans (hb2.mono hb1.size)))
  go_ret
  exact ⟨rfl, hb3⟩
set_option maxRecDepth 100000 in
set_option maxHeartbeats 4000000 in
theorem topSame_out (w : World) (v vx vp vm : Value) (zs : List Int) (xs : List Nat) (c1 c2 wk ot : Int) (K M : List (List Int)) (hZ : IsZ w v zs) (hX : IsU w vx xs) (hK : IsR 2 w vp K) (hM : IsR 2 w vm M) (ds : List Nat) (hG : Good zs ds) (hds : prd2 ds <= 64) (e1 e2 : Int)
    (k1 : ∀ W, IsZ W v zs -> Calls Tryd.prog 17 #[v, .int .i64 c1] W fun e w' => ∃ u, e = .returned (.tuple #[u, .int .i64 e1]) /\ Below W.heap.size W w') (k2 : ∀ W, IsZ W v zs -> Calls Tryd.prog 17 #[v, .int .i64 c2] W fun e w' => ∃ u, e = .returned (.tuple #[u, .int .i64 e2]) /\ Below W.heap.size W w')
    (hbad : (e1 != 0) = true \/ (e1 = 0 /\ (e2 != 0) = true) \/ (e1 = 0 /\ e2 = 0 /\ 200 < K.length) \/ (e1 = 0 /\ e2 = 0 /\ K.length <= 200 /\ 200 < M.length)) :
    (Cc.sq2 (Cc.sq2 (Tryd.f4.body.getD .skip))).wp Tryd.prog (bodyPost Tryd.prog Tryd.f4 fun e w' => e = .returned (.bool true) /\ Below w.heap.size w w')
      ⟨tsS v vx vp vm c1 c2 wk ot, []⟩ w := by
  have cSh : Hid (∀ W, IsZ W v zs -> IsU W vx xs -> Calls Tryd.prog 16 #[v, vx] W fun e w' => ∃ g, e = .returned (.tuple #[.slice (some ⟨g, 0, none⟩) (prd2 ds) (prd2 ds), .bool true]) /\ IsU w' (.slice (some ⟨g, 0, none⟩) (prd2 ds) (prd2 ds)) (szd xs (prd2 ds)) /\ Below W.heap.size W w') := fun W hz hx => top_shaped_ok W v vx zs ds xs hz hx hG hds
  have q1 : Hid (∀ W, IsZ W v zs -> Calls Tryd.prog 17 #[v, .int .i64 c1] W fun e w' => ∃ u, e = .returned (.tuple #[u, .int .i64 e1]) /\ Below W.heap.size W w') := k1
  have q2 : Hid (∀ W, IsZ W v zs -> Calls Tryd.prog 17 #[v, .int .i64 c2] W fun e w' => ∃ u, e = .returned (.tuple #[u, .int .i64 e2]) /\ Below W.heap.size W w') := k2
  have tk1 : True := trivial
  obtain ⟨ak, ck, rfl, -⟩ := hK
  obtain ⟨am, cm, rfl, -⟩ := hM
  clear hG hds k1 k2
  unfold tsS
  refine Cc.rest2 (fn := Tryd.f4) rfl ?_
  rcases hbad with h | ⟨rfl, h⟩ | ⟨rfl, rfl, h⟩ | ⟨rfl, rfl, h0, h⟩
  all_goals go_wp2_with (first
    | (go_at_call 16; refine Calls.mono (cSh.out _ hZ hX) ?_; rintro e w0 ⟨g, rfl, hU, hb0⟩; clear cSh hX; replace hZ := hZ.below hb0)
    | (go_at_call 17; have _t := tk1; refine Calls.mono (q1.out _ hZ) ?_; rintro e w1 ⟨u1, rfl, hb1⟩; clear tk1 _t q1; replace hZ := hZ.below hb1; have hb2 := hb0.trans (hb1.mono hb0.size))
    | (go_at_call 17; refine Calls.mono (q2.out _ hZ) ?_; rintro e w2 ⟨u2, rfl, hb3⟩; have hb4 := hb2.trans (hb3.mono hb2.size)))
  all_goals go_ret
  all_goals exact ⟨rfl, hb4⟩
set_option maxRecDepth 100000 in
set_option maxHeartbeats 8000000 in
theorem topSame_main (w : World) (v vx vp vm : Value) (zs : List Int) (xs : List Nat) (m1 m2 : Nat) (wk ot : Int) (K M : List (List Int)) (hZ : IsZ w v zs) (hX : IsU w vx xs) (hK : IsR 2 w vp K) (hM : IsR 2 w vm M) (ds : List Nat) (hTb : Tab w) (hG : Good zs ds) (hds : prd2 ds <= 64) (hm1 : 1 <= m1) (hm2 : 1 <= m2) (h91 : (m1 : Int) <= 9223372036854775807) (h92 : (m2 : Int) <= 9223372036854775807) (hK9 : K.length <= 200) (hM9 : M.length <= 200) :
    (Cc.sq2 (Cc.sq2 (Tryd.f4.body.getD .skip))).wp Tryd.prog (bodyPost Tryd.prog Tryd.f4 fun e w' => e = .returned (.bool true) /\ Below w.heap.size w w')
      ⟨tsS v vx vp vm (m1 : Int) (m2 : Int) wk ot, []⟩ w := by
  have hW : Below w.heap.size w w := Below.refl _ _
  have cSh : Hid (∀ W, IsZ W v zs -> IsU W vx xs -> Calls Tryd.prog 16 #[v, vx] W fun e w' => ∃ g, e = .returned (.tuple #[.slice (some ⟨g, 0, none⟩) (prd2 ds) (prd2 ds), .bool true]) /\ IsU w' (.slice (some ⟨g, 0, none⟩) (prd2 ds) (prd2 ds)) (szd xs (prd2 ds)) /\ Below W.heap.size W w') := fun W hz hx => top_shaped_ok W v vx zs ds xs hz hx hG hds
  have hF1 := few_small hG.2.2.2 hds m1
  have hF2 := few_small hG.2.2.2 hds m2
  have q1 : Hid (∀ W, IsZ W v zs -> Calls Tryd.prog 17 #[v, .int .i64 (m1 : Int)] W fun e w' => ∃ u, e = .returned (.tuple #[u, .int .i64 0]) /\ IsP 3 w' u (pls ds m1 ds.length) /\ Below W.heap.size W w') := fun W hz => plan_Make_ok W v zs ds m1 hz hG (by omega) hm1 h91 hF1
  have q2 : Hid (∀ W, IsZ W v zs -> Calls Tryd.prog 17 #[v, .int .i64 (m2 : Int)] W fun e w' => ∃ u, e = .returned (.tuple #[u, .int .i64 0]) /\ IsP 3 w' u (pls ds m2 ds.length) /\ Below W.heap.size W w') := fun W hz => plan_Make_ok W v zs ds m2 hz hG (by omega) hm2 h92 hF2
  obtain ⟨k1, hk1, cR1⟩ := rest8 wk
  obtain ⟨k2, hk2, cR2⟩ := rest8 ot
  obtain ⟨A, hA⟩ : ∃ A, A = szd xs (prd2 ds) := ⟨_, rfl⟩
  have hlA : A.length = prd2 ds := by rw [hA]; exact szd_length _ _
  rw [<- hA] at cSh
  have n1 : Hid (1 + (k1 : Int) = ((k1 + 1 : Nat) : Int)) := by show _ = _; omega
  have n2 : Hid (1 + (k2 : Int) = ((k2 + 1 : Nat) : Int)) := by show _ = _; omega
  have d1 : Hid (∀ W u l, IsZ W v zs -> IsU W u A -> IsP 3 W l (pls ds m1 ds.length) -> IsR 2 W vp K -> Below w.heap.size w W -> Calls Tryd.prog 19 #[v, u, l, .int .i64 ((k1 + 1 : Nat) : Int), .bool false, vp] W fun e w' => ∃ g cap, e = .returned (.tuple #[.slice (some ⟨g, 0, none⟩) (prd2 ds) cap, .bool true]) /\ IsU w' (.slice (some ⟨g, 0, none⟩) (prd2 ds) cap) (mk (prd2 ds) (who ds false (cf A) ds.length)) /\ Below W.heap.size W w') := fun W u l hz hu hp hk hb => top_driven W v u l vp zs ds A _ (k1 + 1) false K hz hu hp hk (hTb.below hb) hG hds (stc_of hG hds m1 hm1 A hlA (k1 + 1) (by omega) (by omega)) (pls_notbig hF1) hlA (by omega) (by omega) hK9
  have d2 : Hid (∀ W u l, IsZ W v zs -> IsU W u A -> IsP 3 W l (pls ds m2 ds.length) -> IsR 2 W vm M -> Below w.heap.size w W -> Calls Tryd.prog 19 #[v, u, l, .int .i64 ((k2 + 1 : Nat) : Int), .bool false, vm] W fun e w' => ∃ g cap, e = .returned (.tuple #[.slice (some ⟨g, 0, none⟩) (prd2 ds) cap, .bool true]) /\ IsU w' (.slice (some ⟨g, 0, none⟩) (prd2 ds) cap) (mk (prd2 ds) (who ds false (cf A) ds.length)) /\ Below W.heap.size W w') := fun W u l hz hu hp hk hb => top_driven W v u l vm zs ds A _ (k2 + 1) false M hz hu hp hk (hTb.below hb) hG hds (stc_of hG hds m2 hm2 A hlA (k2 + 1) (by omega) (by omega)) (pls_notbig hF2) hlA (by omega) (by omega) hM9
  have cF : Hid (∀ W u, IsZ W v zs -> IsU W u A -> Below w.heap.size w W -> Calls Tryd.prog 20 #[v, u] W fun e w' => ∃ u', e = .returned (.tuple #[u', .int .i64 0]) /\ IsU w' u' (mk (prd2 ds) (who ds false (cf A) ds.length)) /\ Below W.heap.size W w') := fun W u hz hu hb => many_Forward_ok W v u zs A ds hz hu (hTb.below hb) hG (by omega) hlA
  obtain ⟨ak, ck, rfl, -⟩ := id hK
  obtain ⟨am, cm, rfl, -⟩ := id hM
  clear hG hlA hF1 hF2 hA hm1 hm2 h91 h92 hTb
  generalize mk (prd2 ds) (who ds false (cf A) ds.length) = WL at *
  generalize pls ds m1 ds.length = L1 at *
  generalize pls ds m2 ds.length = L2 at *
  have tk1 : True := trivial
  have tk2 : True := trivial
  have tk3 : True := trivial
  have tk4 : True := trivial
  unfold tsS
  refine Cc.rest2 (fn := Tryd.f4) rfl ?_
  go_wp2_with (first
    | (go_at_call 16; refine Calls.mono (cSh.out _ hZ hX) ?_; rintro e w0 ⟨g, rfl, hU, hb⟩; clear cSh hX; replace hZ := hZ.below hb; replace hK := hK.below hb; replace hM := hM.below hb; replace hW := hb; clear hb)
    | (go_at_call 17; have _t := tk1; refine Calls.mono (q1.out _ hZ) ?_; rintro e w1 ⟨u1, rfl, hP1, hb⟩; clear tk1 _t q1; replace hZ := hZ.below hb; replace hK := hK.below hb; replace hM := hM.below hb; replace hU := hU.below hb; replace hW := hW.trans (hb.mono hW.size); clear hb)
    | (go_at_call 17; refine Calls.mono (q2.out _ hZ) ?_; rintro e w2 ⟨u2, rfl, hP2, hb⟩; clear q2; replace hZ := hZ.below hb; replace hK := hK.below hb; replace hM := hM.below hb; replace hU := hU.below hb; replace hP1 := hP1.below hb; replace hW := hW.trans (hb.mono hW.size); clear hb)
    | (go_at_call 18; have _t := tk2; refine Calls.mono (cR1 _) ?_; rintro e w' ⟨rfl, hw⟩; rw [hw]; clear hw tk2 _t cR1)
    | (go_at_call 18; refine Calls.mono (cR2 _) ?_; rintro e w' ⟨rfl, hw⟩; rw [hw]; clear hw cR2)
    | (go_at_call 19; have _t := tk3; rw [n1.out]; refine Calls.mono (d1.out _ _ _ hZ hU hP1 hK hW) ?_; rintro e w3 ⟨g3, c3, rfl, hU3, hb⟩; clear tk3 _t d1 hP1 hK; replace hZ := hZ.below hb; replace hM := hM.below hb; replace hU := hU.below hb; replace hP2 := hP2.below hb; replace hW := hW.trans (hb.mono hW.size); clear hb)
    | (go_at_call 19; rw [n2.out]; refine Calls.mono (d2.out _ _ _ hZ hU hP2 hM hW) ?_; rintro e w4 ⟨g4, c4, rfl, hU4, hb⟩; clear d2 hP2 hM; replace hZ := hZ.below hb; replace hU := hU.below hb; replace hU3 := hU3.below hb; replace hW := hW.trans (hb.mono hW.size); clear hb)
    | (go_at_call 20; refine Calls.mono (cF.out _ _ hZ hU hW) ?_; rintro e w5 ⟨u5, rfl, hU5, hb⟩; clear cF; replace hU3 := hU3.below hb; replace hU4 := hU4.below hb; replace hW := hW.trans (hb.mono hW.size); clear hb)
    | (go_at_call 14; have _t := tk4; refine Calls.mono (slices_Equal _ _ _ WL hU3 hU5) ?_; rintro e w6 ⟨rfl, hb⟩; clear tk4 _t hU3; replace hU4 := hU4.below hb; replace hU5 := hU5.below hb; replace hW := hW.trans (hb.mono hW.size); clear hb)
    | (go_at_call 14; refine Calls.mono (slices_Equal _ _ _ WL hU4 hU5) ?_; rintro e w7 ⟨rfl, hb⟩; replace hW := hW.trans (hb.mono hW.size); clear hb))
  go_ret
  exact ⟨rfl, hW⟩
theorem topSame_rest (w : World) (v vx vp vm : Value) (zs : List Int) (xs : List Nat) (c1 c2 wk ot : Int) (K M : List (List Int)) (hZ : IsZ w v zs) (hX : IsU w vx xs) (hK : IsR 2 w vp K) (hM : IsR 2 w vm M) (hTb : Tab w) (hc1 : -9223372036854775808 <= c1 /\ c1 <= 9223372036854775807) (hc2 : -9223372036854775808 <= c2 /\ c2 <= 9223372036854775807) :
    (Cc.sq2 (Cc.sq2 (Tryd.f4.body.getD .skip))).wp Tryd.prog (bodyPost Tryd.prog Tryd.f4 fun e w' => e = .returned (.bool true) /\ Below w.heap.size w w')
      ⟨tsS v vx vp vm c1 c2 wk ot, []⟩ w := by
  by_cases hG : ∃ ds, Good zs ds /\ prd2 ds <= 64
  · obtain ⟨ds, hG, hn⟩ := hG
    have no : ∀ c : Int, c < 1 -> ∀ W, IsZ W v zs -> Calls Tryd.prog 17 #[v, .int .i64 c] W fun e w' => ∃ u, e = .returned (.tuple #[u, .int .i64 1]) /\ Below W.heap.size W w' := fun c hc W hz => (plan_Make_cut W v zs ds c hz hG (by omega) hc).mono fun e w' ⟨u, h1, _, h2⟩ => ⟨u, h1, h2⟩
    have ok : ∀ m : Nat, 1 <= m -> (m : Int) <= 9223372036854775807 -> ∀ W, IsZ W v zs -> Calls Tryd.prog 17 #[v, .int .i64 (m : Int)] W fun e w' => ∃ u, e = .returned (.tuple #[u, .int .i64 0]) /\ Below W.heap.size W w' := fun m h1 h9 W hz => (plan_Make_ok W v zs ds m hz hG (by omega) h1 h9 (few_small hG.2.2.2 hn m)).mono fun e w' ⟨u, h1, _, h2⟩ => ⟨u, h1, h2⟩
    have any : ∀ c : Int, -9223372036854775808 <= c /\ c <= 9223372036854775807 -> ∃ er, (er = 0 \/ (er != 0) = true) /\ (er = 0 -> 1 <= c) /\ ∀ W, IsZ W v zs -> Calls Tryd.prog 17 #[v, .int .i64 c] W fun e w' => ∃ u, e = .returned (.tuple #[u, .int .i64 er]) /\ Below W.heap.size W w' := fun c hc => by
      by_cases h1 : c < 1
      · exact ⟨1, .inr (by decide), fun q => by omega, no c h1⟩
      · obtain ⟨m, rfl⟩ := Int.eq_ofNat_of_zero_le (show 0 <= c by omega)
        exact ⟨0, .inl rfl, fun _ => by omega, ok m (by omega) hc.2⟩
    obtain ⟨e1, f1, g1, k1⟩ := any c1 hc1
    obtain ⟨e2, f2, g2, k2⟩ := any c2 hc2
    have out := fun h => topSame_out w v vx vp vm zs xs c1 c2 wk ot K M hZ hX hK hM ds hG hn e1 e2 k1 k2 h
    rcases f1 with rfl | f1
    · rcases f2 with rfl | f2
      · rcases Nat.lt_or_ge 200 K.length with hk | hk
        · exact out (.inr (.inr (.inl ⟨rfl, rfl, hk⟩)))
        · rcases Nat.lt_or_ge 200 M.length with hm | hm
          · exact out (.inr (.inr (.inr ⟨rfl, rfl, hk, hm⟩)))
          · have h1 := g1 rfl
            have h2 := g2 rfl
            obtain ⟨m1, rfl⟩ := Int.eq_ofNat_of_zero_le (show 0 <= c1 by omega)
            obtain ⟨m2, rfl⟩ := Int.eq_ofNat_of_zero_le (show 0 <= c2 by omega)
            exact topSame_main w v vx vp vm zs xs m1 m2 wk ot K M hZ hX hK hM ds hTb hG hn (by omega) (by omega) hc1.2 hc2.2 hk hm
      · exact out (.inr (.inl ⟨rfl, f2⟩))
    · exact out (.inl f1)
  · exact topSame_no w v vx vp vm zs xs c1 c2 wk ot K M hZ hX hK hM hc1 hc2 fun ds h => by
      rcases Nat.lt_or_ge 64 (prd2 ds) with h1 | h1
      · exact h1
      · exact absurd ⟨ds, h, h1⟩ hG
end Go.Proofs.YtckoipoejaafhaaDoor
namespace Go.Proofs.YtckoipoejaafhaaDoor.Cc
open Go Go.Conc Go.RowKit
set_option maxRecDepth 100000 in
set_option maxHeartbeats 4000000 in
theorem topSame_leads {w : World} {v vx vp vm : Value} {zs : List Int} {xs : List Nat} {c1 c2 wk ot : Int} {K M : List (List Int)} (hZ : IsZ w v zs) (hX : IsU w vx xs) (hK : IsR 2 w vp K) (hM : IsR 2 w vm M) (hc1 : -9223372036854775808 <= c1 /\ c1 <= 9223372036854775807) (hc2 : -9223372036854775808 <= c2 /\ c2 <= 9223372036854775807) (hT : Tbs w.heap.size w) :
    Leads Tryd.prog w.heap.size (G (Frame.enter Tryd.prog 4 #[v, vx, .int .i64 c1, .int .i64 c2, .int .i64 wk, .int .i64 ot, vp, vm] .normal) []) w (EndT Tryd.prog w w.heap.size) := by
  rw [enter_fd #[v, vx, .int .i64 c1, .int .i64 c2, .int .i64 wk, .int .i64 ot, vp, vm] Tryd.func4 rfl (show 8 <= 117 by omega), Tryd.ntmps4]
  refine leads_seq ?_
  refine leads_region [0] rfl ?_
  refine leads_mv (some 16) rfl rfl rfl (.inr rfl) ?_
  refine leads_regionEnd ?_
  refine leads_seq ?_
  refine leads_seq ?_
  refine leads_region [0, 1] rfl ?_
  refine leads_enterD 15 #[] rfl rfl (fun w => run_ev (by simp [execOp, go_sem, evT_func]) (by simp [execOp, go_sem, evT_func, call_events Tryd.func15 (by kernel_rfl) rfl])) ?_
  refine Leads.then (said_leads hT) ?_
  rintro a' p1 ⟨rfl, b1⟩
  rw [finish_arr _ _ _ _ _ _ _ _ _ _ rfl]
  refine leads_pure (some 30) (.bool false) rfl rfl rfl (fun _ => run_ev (by simp [execOp, go_sem, evT_tmp, put_some]) (by simp [execOp, go_sem, evT_tmp, put_some])) ?_
  refine leads_regionEnd ?_
  refine leads_cond false (by simp [evT_tmp, put_some]) ?_
  refine leads_skip ?_
  exact leads_rest (j := 16) (f := Tryd.f4) tAll _ (by kernel_rfl) Tryd.func4 (by kernel_rfl) rfl (by kernel_rfl) (by kernel_rfl) b1 fun τ d => topSame_rest (tp p1 τ d) v vx vp vm zs xs c1 c2 wk ot K M (IsZ.tp (IsZ.blw hZ b1) τ d) (IsU.tp (IsU.blw hX b1) τ d) (IsR.tp (IsR.blw hK b1) τ d) (IsR.tp (IsR.blw hM b1) τ d) (hT.blw b1).tab hc1 hc2
end Go.Proofs.YtckoipoejaafhaaDoor.Cc
namespace Go.Proofs.YtckoipoejaafhaaDoor
open Go Go.Conc Go.RowKit
theorem topSame_walk (w : World) (v : Value) (zs : List Int) (hZ : IsZ w v zs) (vx : Value) (xs : List Nat) (hX : IsU w vx xs) (c1 : Int) (hc1 : (Lit.int .i64 c1).wf = true) (c2 : Int) (hc2 : (Lit.int .i64 c2).wf = true) (wk : Int) (_hwk : (Lit.int .i64 wk).wf = true) (ot : Int) (_hot : (Lit.int .i64 ot).wf = true) (vp : Value) (K : List (List Int)) (hK : IsR 2 w vp K) (vm : Value) (M : List (List Int)) (hM : IsR 2 w vm M) (hsh : w.ShapedOpen Tryd.prog) (hTb : Tab w) :
    Cc.GoodRun Tryd.prog 4 #[v, vx, .int .i64 c1, .int .i64 c2, .int .i64 wk, .int .i64 ot, vp, vm] w :=
  Cc.good_run hsh (Cc.topSame_leads hZ hX hK hM (bounds_i64 hc1) (bounds_i64 hc2) (Cc.tbs_of hsh hTb))
end Go.Proofs.YtckoipoejaafhaaDoor

namespace Go.Proofs.YtckoipoejaafhaaDoor.topSame
open Go.ChangeShapes Go.WideShapes Go.ChangeAt Go.RowKit
open Go.ChangeMaps (open_string shut_string)
set_option linter.unusedVariables false

theorem own : ownKnob Tryd.prog.godebug = none := by kernel_rfl
theorem laidOut : laidOutB Tryd.prog = true := by kernel_rfl

theorem tf82 : IntFields Tryd.prog 82 2 := ⟨_, Tryd.underlying82, by kernel_rfl, rfl, fun i f hf => by
  rcases i with _ | _ | i
  · obtain rfl := Option.some.inj hf
    exact ⟨rfl, by kernel_rfl, Tryd.underlying3⟩
  · obtain rfl := Option.some.inj hf
    exact ⟨rfl, by kernel_rfl, Tryd.underlying3⟩
  · cases hf⟩

/-- WHAT THE WALK IS TOLD OF A SLICE OF INTEGERS THAT CAME IN: it is nil; or it leads to a row of 'cap' cells, the numbers 'zs' (the first 'len' are its elements, the rest its spare room), each fitting its kind. -/
def IsRow (k : IntKind) (w : World) (a : Option Addr) (len cap : Nat) (zs : List Int) : Prop :=
  (a = none /\ len = 0 /\ cap = 0 /\ zs = []) \/
  ∃ x, a = some x /\ len <= cap /\ cap <= maxLen /\ zs.length = cap /\ (∀ i, i < zs.length -> w.cell? (x.add i) = some (.int k (zs.getD i 0))) /\ ∀ n ∈ zs, (Lit.int k n).wf = true

/-! ### STEP 1: THE WALK: the Go text returns true, AND WRITES NOTHING THAT WAS THERE: 'Below w.heap.size w w'' (Derived/Below.lean: '.refl', '.alloc', '.drew', '.setCell' at a new block, '.trans'). Open each 'IsRow' by 'rcases' AHEAD of 'go_enter'; part every test ahead of the walk. -/
theorem walk (a0 : Option Addr) (len0 cap0 : Nat) (z0 : List Int) (a1 : Option Addr) (len1 cap1 : Nat) (z1 : List Int) (a2 : Int) (a3 : Int) (a4 : Int) (a5 : Int) (a6 : Option Addr) (len6 cap6 : Nat) (z6 : List (List Int)) (a7 : Option Addr) (len7 cap7 : Nat) (z7 : List (List Int)) (w : World) (w0 : IsRow .i64 w a0 len0 cap0 z0) (w1 : IsRow .u64 w a1 len1 cap1 z1) (w2 : (Lit.int .i64 a2).wf = true) (w3 : (Lit.int .i64 a3).wf = true) (w4 : (Lit.int .i64 a4).wf = true) (w5 : (Lit.int .i64 a5).wf = true) (w6 : IsR 2 w (.slice a6 len6 cap6) z6) (w7 : IsR 2 w (.slice a7 len7 cap7) z7) (hsh : w.ShapedOpen Tryd.prog) (hTb : Tab w) :
    Cc.GoodRun Tryd.prog 4 #[.slice a0 len0 cap0, .slice a1 len1 cap1, .int .i64 a2, .int .i64 a3, .int .i64 a4, .int .i64 a5, .slice a6 len6 cap6, .slice a7 len7 cap7] w := by
  obtain ⟨x0, u0⟩ := isZ_of_row w0
  obtain ⟨x1, u1⟩ := isU_of_row w1
  exact topSame_walk w (.slice a0 len0 cap0) x0 u0 (.slice a1 len1 cap1) x1 u1 a2 w2 a3 w3 a4 w4 a5 w5 (.slice a6 len6 cap6) z6 w6 (.slice a7 len7 cap7) z7 w7 hsh hTb

/-! ### THE ROW's STEP: WRITTEN OUT: LEAVE IT -/
set_option maxRecDepth 100000 in
theorem lifted (os : Os) (started : os.Started) (H : Type) (enc : TypeId × Value -> H) :
    ReturnsInLeavingWide {} Tryd.checked os 4 .any (fun w args => (Rows.topSameSpec.pre enc Tryd.prog Tryd.f4 [] false w args /\ laidMetH Tryd.prog laids w) /\ sizedMet enc Tryd.prog Tryd.f4 (OpenSpec.ofChange Rows.topSameSpec) false w args)
      (Rows.topSameSpec.post enc Tryd.prog Tryd.f4 false true false false) := by
  refine Cc.leaving_of_runs (C := Tryd.checked) (X := fun w _ => laidMetH Tryd.prog laids w) (fun _ _ _ hh h => h.of_heap hh) own started Tryd.func4
    (ChangeSpec.witness_shaped (enc := enc) (C := Tryd.checked) (os := os) (X := fun w _ => laidMetH Tryd.prog laids w) false (World.doorLaid Tryd.prog 400 os) #[.slice none 0 0, .slice none 0 0, .int .i64 0, .int .i64 0, .int .i64 0, .int .i64 0, .slice none 0 0, .slice none 0 0] 8 rfl (World.shaped_of_RefB (by kernel_rfl) (by kernel_rfl)) (by kernel_rfl) (by kernel_rfl) (by kernel_rfl) (door_met os _)) ?_
  intro W base args ds gs before hval0 hW _ _ hL hsh
  have hval : ∀ (j : Nat) t v, Tryd.f4.params[j]? = some t -> args[j]? = some v -> Value.okWide Tryd.prog W .any base t v := hval0
  have hW' := hW
  obtain ⟨p, q, hA0, hV, rfl, hfz, hnd⟩ := hW
  have hA : DataW.TrodAll enc Tryd.prog W 0 (fun _ => true) true Tryd.f4.params.toList args.toList ds p := hA0
  rw [Tryd.params4] at hA hval
  obtain ⟨v0, vs0, d0, ds0, p0, q0, hargs, rfl, rfl, h0, r0⟩ := trodAll_cons hA
  obtain ⟨v1, vs1, d1, ds1, p1, q1, rfl, rfl, rfl, h1, r1⟩ := trodAll_cons r0
  obtain ⟨v2, vs2, d2, ds2, p2, q2, rfl, rfl, rfl, h2, r2⟩ := trodAll_cons r1
  obtain ⟨v3, vs3, d3, ds3, p3, q3, rfl, rfl, rfl, h3, r3⟩ := trodAll_cons r2
  obtain ⟨v4, vs4, d4, ds4, p4, q4, rfl, rfl, rfl, h4, r4⟩ := trodAll_cons r3
  obtain ⟨v5, vs5, d5, ds5, p5, q5, rfl, rfl, rfl, h5, r5⟩ := trodAll_cons r4
  obtain ⟨v6, vs6, d6, ds6, p6, q6, rfl, rfl, rfl, h6, r6⟩ := trodAll_cons r5
  obtain ⟨v7, vs7, d7, ds7, p7, q7, rfl, rfl, rfl, h7, r7⟩ := trodAll_cons r6
  obtain ⟨rfl, rfl, rfl⟩ := trodAll_nil r7
  obtain rfl : args = #[v0, v1, v2, v3, v4, v5, v6, v7] := by cases args; simp_all
  obtain ⟨rfl, rfl⟩ := trodVars_none hV
  obtain ⟨a0, len0, cap0, rfl⟩ := okWide_slice Tryd.underlying22 (hval 0 22 v0 rfl rfl)
  have k0 := h0
  have lt0 : ∀ x ∈ p0, x.block < W.heap.size := by obtain ⟨m, hm⟩ := k0; exact DataW.trod_lt m _ _ _ hm
  obtain ⟨z0, w0⟩ : ∃ zs, IsRow .i64 W a0 len0 cap0 zs := by
    obtain ⟨fuel, hf⟩ := h0
    rcases open_ints Tryd.underlying22 Tryd.underlying3 (by kernel_rfl) hf with ⟨hcs, _⟩ | ⟨x, l, c, zs, hcs, _, hl, hm, hz, _, hcell, hwz⟩
    · simp [Value.cells] at hcs
      obtain ⟨rfl, rfl, rfl⟩ := hcs
      exact ⟨[], .inl ⟨rfl, rfl, rfl, rfl⟩⟩
    · simp [Value.cells] at hcs
      obtain ⟨rfl, rfl, rfl⟩ := hcs
      exact ⟨zs, .inr ⟨_, rfl, hl, hm, by simpa using hz, hcell, hwz⟩⟩
  obtain ⟨a1, len1, cap1, rfl⟩ := okWide_slice Tryd.underlying23 (hval 1 23 v1 rfl rfl)
  have k1 := h1
  have lt1 : ∀ x ∈ p1, x.block < W.heap.size := by obtain ⟨m, hm⟩ := k1; exact DataW.trod_lt m _ _ _ hm
  obtain ⟨z1, w1⟩ : ∃ zs, IsRow .u64 W a1 len1 cap1 zs := by
    obtain ⟨fuel, hf⟩ := h1
    rcases open_ints Tryd.underlying23 Tryd.underlying34 (by kernel_rfl) hf with ⟨hcs, _⟩ | ⟨x, l, c, zs, hcs, _, hl, hm, hz, _, hcell, hwz⟩
    · simp [Value.cells] at hcs
      obtain ⟨rfl, rfl, rfl⟩ := hcs
      exact ⟨[], .inl ⟨rfl, rfl, rfl, rfl⟩⟩
    · simp [Value.cells] at hcs
      obtain ⟨rfl, rfl, rfl⟩ := hcs
      exact ⟨zs, .inr ⟨_, rfl, hl, hm, by simpa using hz, hcell, hwz⟩⟩
  obtain ⟨a2, rfl, rfl, rfl, w2⟩ := open_int Tryd.underlying3 (hval 2 3 v2 rfl rfl) h2
  obtain ⟨a3, rfl, rfl, rfl, w3⟩ := open_int Tryd.underlying3 (hval 3 3 v3 rfl rfl) h3
  obtain ⟨a4, rfl, rfl, rfl, w4⟩ := open_int Tryd.underlying3 (hval 4 3 v4 rfl rfl) h4
  obtain ⟨a5, rfl, rfl, rfl, w5⟩ := open_int Tryd.underlying3 (hval 5 3 v5 rfl rfl) h5
  obtain ⟨a6, len6, cap6, rfl⟩ := okWide_slice Tryd.underlying36 (hval 6 36 v6 rfl rfl)
  have k6 := h6
  have lt6 : ∀ x ∈ p6, x.block < W.heap.size := by obtain ⟨m, hm⟩ := k6; exact DataW.trod_lt m _ _ _ hm
  obtain ⟨z6, w6⟩ := isR_of_arg (by decide) Tryd.underlying36 tf82 (hval 6 36 _ rfl rfl) h6
  obtain ⟨a7, len7, cap7, rfl⟩ := okWide_slice Tryd.underlying36 (hval 7 36 v7 rfl rfl)
  have k7 := h7
  have lt7 : ∀ x ∈ p7, x.block < W.heap.size := by obtain ⟨m, hm⟩ := k7; exact DataW.trod_lt m _ _ _ hm
  obtain ⟨z7, w7⟩ := isR_of_arg (by decide) Tryd.underlying36 tf82 (hval 7 36 _ rfl rfl) h7
  clear hA0 hval0
  refine ⟨walk a0 len0 cap0 z0 a1 len1 cap1 z1 a2 a3 a4 a5 a6 len6 cap6 z6 a7 len7 cap7 z7 W w0 w1 w2 w3 w4 w5 w6 w7 hsh (tab_of_laid hL), fun W' bel => ?_⟩
  exact ⟨_, _, _, [], _, [], hW', trodAll_mk1 (shut_bool Tryd.underlying4 _), (trodAll_cons_mk (Below.trod laidOut (by kernel_rfl) (of_decide_eq_true (by kernel_rfl)) k0 bel lt0) (trodAll_cons_mk (Below.trod laidOut (by kernel_rfl) (of_decide_eq_true (by kernel_rfl)) k1 bel lt1) (trodAll_cons_mk (shut_int Tryd.underlying3 w2) (trodAll_cons_mk (shut_int Tryd.underlying3 w3) (trodAll_cons_mk (shut_int Tryd.underlying3 w4) (trodAll_cons_mk (shut_int Tryd.underlying3 w5) (trodAll_cons_mk (Below.trod laidOut (by kernel_rfl) (of_decide_eq_true (by kernel_rfl)) k6 bel lt6) (trodAll_cons_mk (Below.trod laidOut (by kernel_rfl) (of_decide_eq_true (by kernel_rfl)) k7 bel lt7) trodAll_mk0)))))))), rfl, bel.frame _, fun h => by cases h⟩

theorem over : Rows.topSameRow.holds Tryd.pinned (OpenSpec.ofChange Rows.topSameSpec) :=
  OpenClaim.holds_of_wide_leaving 4 Tryd.f4 rfl rfl rfl rfl rfl rfl rfl ⟨rfl, rfl, rfl, rfl, rfl⟩ rfl rfl rfl rfl rfl (by kernel_rfl) Tryd.func4 (by kernel_rfl)
    (of_decide_eq_true (by kernel_rfl)) (by unfold Func.isWrapper; first | (rw [if_pos (by decide +kernel)]; kernel_rfl) | (rw [if_neg (by decide +kernel)]; exact ⟨rfl, rfl⟩))
    (fun os started H enc _ => lifted os started H enc)

end Go.Proofs.YtckoipoejaafhaaDoor.topSame
namespace Go.Proofs.YtckoipoejaafhaaDoor
open Go
/-- The statement. -/
theorem topSame_holds : Rows.TopSameCardSaid :=
  card_goes .later _ _ _ _
    topSame.over (by kernel_rfl) topSame_row_tie rfl ⟨rfl, rfl⟩ (by kernel_rfl) rfl
    (fun f fn hf hfn => by
      obtain rfl : f = 4 := Option.some.inj ((show Tryd.prog.funcNamed "goldmill/goldtop.TopSame" = some 4 by kernel_rfl).symm.trans hf) |>.symm
      obtain rfl : fn = Tryd.f4 := (Option.some.inj (Tryd.func4.symm.trans hfn)).symm
      exact ⟨by kernel_rfl, fun j t ht => by
        rw [Tryd.params4] at ht
        have hm : t ∈ [22, 23, 3, 3, 3, 3, 36, 36] := by simpa using Array.mem_of_getElem? ht
        have hall : ([22, 23, 3, 3, 3, 3, 36, 36].all fun u => !Tryd.prog.wantsStandIn u) = true := by kernel_rfl
        exact (show Tryd.prog.wantsStandIn t = false by simpa using List.all_eq_true.1 hall t hm)⟩)
    (by kernel_rfl)
#print axioms topSame_holds
end Go.Proofs.YtckoipoejaafhaaDoor
