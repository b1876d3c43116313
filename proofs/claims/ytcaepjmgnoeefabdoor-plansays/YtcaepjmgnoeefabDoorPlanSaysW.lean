/-
  The walk of the law PlanSays: whatever is handed in, Make, Check and Print of package plan answer what package goldref answers, or the errors, and the law returns true.
-/
import Derived.Test.YtcaepjmgnoeefabDoorPlanD
import Derived.Test.YtcaepjmgnoeefabDoorPlanP
import Derived.Test.YtcaepjmgnoeefabDoorSlEqP
import Derived.Test.YtcaepjmgnoeefabDoorRefShapes
namespace Go.Proofs.YtcaepjmgnoeefabDoor
open Go.RowKit

set_option maxHeartbeats 2000000 in
theorem planSays_core (w : World) (v vl : Value) (zs : List Int) (L Lm : List (List (List Int))) (c er kc : Int) (S : ByteArray) (hZ : IsZ w v zs) (hP : IsP 3 w vl L)
    (cM : ∀ W, IsZ W v zs → Below w.heap.size w W → Calls Tryd.prog 23 #[v, .int .i64 c] W fun e w' => ∃ u, e = .returned (.tuple #[u, .int .i64 er]) ∧ IsP 3 w' u Lm ∧ Below W.heap.size W w')
    (cR : ∀ W, IsZ W v zs → Calls Tryd.prog 24 #[v, .int .i64 c] W fun e w' => ∃ u, e = .returned (.tuple #[u, .int .i64 er]) ∧ IsP 3 w' u Lm ∧ Below W.heap.size W w')
    (cC : ∀ W, IsZ W v zs → IsP 3 W vl L → Below w.heap.size w W → Calls Tryd.prog 26 #[v, vl] W fun e w' => e = .returned (.int .i64 kc) ∧ Below W.heap.size W w')
    (cP : ∀ W, IsZ W v zs → IsP 3 W vl L → Calls Tryd.prog 27 #[v, vl] W fun e w' => e = .returned (.int .i64 kc) ∧ Below W.heap.size W w')
    (cT : ∀ W, IsP 3 W vl L → Below w.heap.size w W → Calls Tryd.prog 28 #[vl] W fun e w' => e = .returned (.string S) ∧ Below W.heap.size W w')
    (cX : ∀ W, IsP 3 W vl L → Below w.heap.size w W → Calls Tryd.prog 29 #[vl] W fun e w' => e = .returned (.string S) ∧ Below W.heap.size W w') :
    Calls Tryd.prog 5 #[v, .int .i64 c, vl] w fun e w' => e = .returned (.bool true) ∧ Below w.heap.size w w' := by
  have hW : Below w.heap.size w w := Below.refl _ _
  have e1 : (er == er) = true := beq_self_eq_true er
  have e2 : (kc == kc) = true := beq_self_eq_true kc
  have hZ0 := hZ
  obtain ⟨az, cz, rfl, -⟩ := hZ0
  have hP0 := hP
  obtain ⟨al, cl, rfl, -⟩ := hP0
  go_enter Tryd.func5, Tryd.ntmps5
  go_wp2_with (first
    | (go_at_call 23; refine Calls.mono (cM _ hZ hW) ?_; rintro e w1 ⟨u, rfl, hU, hb⟩; replace hZ := hZ.below hb; replace hP := hP.below hb; replace hW := hW.trans (hb.mono hW.size); clear hb)
    | (go_at_call 24; refine Calls.mono (cR _ hZ) ?_; rintro e w2 ⟨u2, rfl, hU2, hb⟩; replace hZ := hZ.below hb; replace hP := hP.below hb; replace hU := hU.below hb; replace hW := hW.trans (hb.mono hW.size); clear hb)
    | (go_at_call 25; refine Calls.mono (same_phases _ _ _ Lm hU hU2) ?_; rintro e w3 ⟨rfl, hb⟩; replace hZ := hZ.below hb; replace hP := hP.below hb; replace hW := hW.trans (hb.mono hW.size); clear hb)
    | (go_at_call 26; refine Calls.mono (cC _ hZ hP hW) ?_; rintro e w4 ⟨rfl, hb⟩; replace hZ := hZ.below hb; replace hP := hP.below hb; replace hW := hW.trans (hb.mono hW.size); clear hb)
    | (go_at_call 27; refine Calls.mono (cP _ hZ hP) ?_; rintro e w5 ⟨rfl, hb⟩; replace hZ := hZ.below hb; replace hP := hP.below hb; replace hW := hW.trans (hb.mono hW.size); clear hb)
    | (go_at_call 28; refine Calls.mono (cT _ hP hW) ?_; rintro e w6 ⟨rfl, hb⟩; replace hP := hP.below hb; replace hW := hW.trans (hb.mono hW.size); clear hb)
    | (go_at_call 29; refine Calls.mono (cX _ hP hW) ?_; rintro e w7 ⟨rfl, hb⟩; replace hW := hW.trans (hb.mono hW.size); clear hb))
  go_ret
  exact ⟨rfl, hW⟩

theorem planSays_walk (w : World) (v : Value) (zs : List Int) (hZ : IsZ w v zs) (c : Int) (hc : (Lit.int .i64 c).wf = true) (vl : Value) (L : List (List (List Int))) (hP : IsP 3 w vl L) (hTb : Tab w) (hsz : ∀ i k, i < L.length → k ≤ (L.getD i []).length → (ptx L i ++ lnx (L.getD i []) k).length ≤ 1099511627776) :
    Calls Tryd.prog 5 #[v, .int .i64 c, vl] w fun e w' => e = .returned (.bool true) ∧ Below w.heap.size w w' := by
  have cT := fun W (h : IsP 3 W vl L) (hb : Below w.heap.size w W) => plan_Print W vl L h (hTb.below hb) hsz
  have cX := fun W (h : IsP 3 W vl L) (hb : Below w.heap.size w W) => ref_PlanText W vl L h (hTb.below hb) hsz
  have hcb := bounds_i64 hc
  by_cases hG : ∃ ds, Good zs ds
  · obtain ⟨ds, hG⟩ := hG
    by_cases hn : prd2 ds ≤ 1024
    · obtain ⟨kc, cC, cP⟩ : ∃ kc : Int, (∀ W, IsZ W v zs → IsP 3 W vl L → Below w.heap.size w W → Calls Tryd.prog 26 #[v, vl] W fun e w' => e = .returned (.int .i64 kc) ∧ Below W.heap.size W w') ∧ (∀ W, IsZ W v zs → IsP 3 W vl L → Calls Tryd.prog 27 #[v, vl] W fun e w' => e = .returned (.int .i64 kc) ∧ Below W.heap.size W w') := by
        by_cases hF : Fine ds L
        · by_cases hB : BigP L L.length
          · refine ⟨2, fun W h1 h2 _ => (plan_Check_all W v vl zs ds L h1 hG hn h2).mono ?_, fun W h1 h2 => (ref_Phases_all W v vl zs ds L h1 hG hn h2).mono ?_⟩
            · rintro e w' ⟨⟨_, hno⟩ | ⟨rfl, _⟩ | ⟨_, _, hno⟩, hb⟩
              · exact absurd hF hno
              · exact ⟨rfl, hb⟩
              · exact absurd hB hno
            · rintro e w' ⟨⟨_, hno⟩ | ⟨rfl, _⟩ | ⟨_, _, hno⟩, hb⟩
              · exact absurd hF hno
              · exact ⟨rfl, hb⟩
              · exact absurd hB hno
          · refine ⟨0, fun W h1 h2 _ => (plan_Check_all W v vl zs ds L h1 hG hn h2).mono ?_, fun W h1 h2 => (ref_Phases_all W v vl zs ds L h1 hG hn h2).mono ?_⟩
            · rintro e w' ⟨⟨_, hno⟩ | ⟨_, _, hno⟩ | ⟨rfl, _⟩, hb⟩
              · exact absurd hF hno
              · exact absurd hno hB
              · exact ⟨rfl, hb⟩
            · rintro e w' ⟨⟨_, hno⟩ | ⟨_, _, hno⟩ | ⟨rfl, _⟩, hb⟩
              · exact absurd hF hno
              · exact absurd hno hB
              · exact ⟨rfl, hb⟩
        · refine ⟨5, fun W h1 h2 _ => (plan_Check_all W v vl zs ds L h1 hG hn h2).mono ?_, fun W h1 h2 => (ref_Phases_all W v vl zs ds L h1 hG hn h2).mono ?_⟩
          · rintro e w' ⟨⟨rfl, _⟩ | ⟨_, hno, _⟩ | ⟨_, hno, _⟩, hb⟩
            · exact ⟨rfl, hb⟩
            · exact absurd hno hF
            · exact absurd hno hF
          · rintro e w' ⟨⟨rfl, _⟩ | ⟨_, hno, _⟩ | ⟨_, hno, _⟩, hb⟩
            · exact ⟨rfl, hb⟩
            · exact absurd hno hF
            · exact absurd hno hF
      by_cases h1 : c < 1
      · exact planSays_core w v vl zs L [] c 1 kc _ hZ hP (fun W h2 _ => plan_Make_cut W v zs ds c h2 hG hn h1) (fun W h2 => ref_Plan_cut W v zs ds c h2 hG hn h1) cC cP cT cX
      · obtain ⟨m, rfl⟩ := Int.eq_ofNat_of_zero_le (show 0 ≤ c by omega)
        by_cases hF : Few ds m ds.length
        · exact planSays_core w v vl zs L (pls ds m ds.length) m 0 kc _ hZ hP (fun W h2 _ => plan_Make_ok W v zs ds m h2 hG hn (by omega) (by omega) hF) (fun W h2 => ref_Plan_ok W v zs ds m h2 hG hn (by omega) (by omega) hF) cC cP cT cX
        · exact planSays_core w v vl zs L [] m 2 kc _ hZ hP (fun W h2 _ => plan_Make_many W v zs ds m h2 hG hn (by omega) (by omega) hF) (fun W h2 => ref_Plan_many W v zs ds m h2 hG hn (by omega) (by omega) hF) cC cP cT cX
    · have cS := fun W (h : IsZ W v zs) => shape_large W v zs ds h hG (by omega)
      exact planSays_core w v vl zs L [] c 2 2 _ hZ hP (fun W h2 _ => plan_Make_large W v zs ds c h2 hG (by omega)) (fun W h2 => ref_Plan_shape W v zs c 2 (by decide) (cS W h2) h2)
        (fun W h2 _ _ => plan_Check_large W v vl zs ds h2 hG (by omega)) (fun W h2 _ => ref_Phases_shape W v vl zs 2 (by decide) (cS W h2) h2) cT cX
  · have hno : ∀ ds, ¬ Good zs ds := fun ds h => hG ⟨ds, h⟩
    have cS := fun W (h : IsZ W v zs) => shape_bad W v zs h hno
    exact planSays_core w v vl zs L [] c 1 1 _ hZ hP (fun W h2 _ => plan_Make_bad W v zs c h2 hno) (fun W h2 => ref_Plan_shape W v zs c 1 (by decide) (cS W h2) h2)
      (fun W h2 _ _ => plan_Check_bad W v vl zs h2 hno) (fun W h2 _ => ref_Phases_shape W v vl zs 1 (by decide) (cS W h2) h2) cT cX

end Go.Proofs.YtcaepjmgnoeefabDoor
