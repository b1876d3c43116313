/-
 Texts that stood one behind the other,as one.
-/
import Derived.Test.YtckoipoejaafhaaDoorExT
import Derived.OrdersHeld
import Derived.Test.YtckoipoejaafhaaDoorSlTcAll
import Derived.Lib.SliceRun
import Derived.Test.YtckoipoejaafhaaDoorExWAll
import Derived.Test.YtckoipoejaafhaaDoorSlAll
import Derived.Deep.AppendLies
import Derived.Deep.Upon
import Derived.Deep.RegionLaw
namespace Go.Proofs.YtckoipoejaafhaaDoor
open Go.RowKit
set_option maxRecDepth 100000
section
variable {P : Program} {ops : Array Oper} {Q : Exit -> Act -> World -> Prop} {md : Region.Mode} {S : World -> Prop}
theorem wpAnyH_one {i : Nat} {o : Oper} {fuel : Nat} {listed : Array Bool} {a : Act} {w : World} (ho : ops[i]? = some o) (hr : Region.ready md ops listed = [i])
   (h : ∀ K' : Act -> World -> Prop,Hid (∀ a' w',S w' -> wpAnyH P md ops Q S fuel (listed.setIfInBounds i true) a' w' -> K' a' w') -> if Region.wanted o (yielded ops a.tmps) = true then Oper.wp P o a w K' Q else K' (a.put o.dst undef) w) : wpAnyH P md ops Q S (fuel + 1) listed a w := by
 refine wpAnyH_all hr (by simp) fun j hj => ?_
 simp only [List.mem_singleton] at hj
 subst hj
 exact wpOp_step ho (fun K' hK => h K' (fun a' w' hS hW => hK a' w' ⟨hS,hW⟩))
theorem wp_region_H {id : Nat} {a : Act} {w : World} (hm : P.follows .mixedOrders = true)
   (h : wpAnyH P .any ops Q S ops.size (Array.replicate ops.size false) a w.drew) : (Code.region id ops true).wp P Q a w := wp_region_held hm h
end
theorem wf_of {n : Int} (h : -9223372036854775808 <= n /\ n <= 9223372036854775807) : (Lit.int .i64 n).wf = true := by
 simp [Lit.wf,IntKind.min,IntKind.max,IntKind.signed,IntKind.bits]
 omega
theorem dealK_most (H : List (List (List Int))) (T : List (List Int)) (k m : Nat) : ((dealK H T k).getD m []).length <= (H.getD m []).length + k := by
 induction k with
 | zero => exact Nat.le_refl _
 | succ k ih =>
   rw [dealK]
   by_cases e : k % H.length = m
   · rcases Nat.lt_or_ge m H.length with q | q
     · rw [e,getD_set_self _ _ (by rw [dealK_length]; exact q),List.length_append,List.length_singleton]; omega
     · have : ((dealK H T k).set (k % H.length) ((dealK H T k).getD (k % H.length) [] ++ [T.getD k []])).getD m [] = [] := by
         rw [List.getD,List.getElem?_eq_none (by rw [List.length_set,dealK_length]; exact q)]; rfl
       rw [this]; exact Nat.zero_le _
   · rw [getD_set_ne _ _ _ e]; omega
section
variable {r : Fx} {w : World} {ga : Nat} {vd : Value} {c : Crw}
theorem exec_deal_done (h : Rn r w ga vd c) (he : c.phase = r.L.length) :
   Calls Tryd.prog 88 #[.pointer (some ⟨r.g,0,none⟩)] w fun e w' => e = .returned (.tuple #[]) /\ Rn r w' ga vd c /\ But (RnO r ga vd) w w' := by
 have cD := exec_Done h
 rw [decide_eq_true he] at cD
 have h0 : Hid _ := h
 clear h
 go_enter Tryd.func88,Tryd.ntmps88
 go_wp2_with (go_at_call 44; refine Calls.mono cD ?_; rintro e w1 ⟨rfl,hb⟩)
 (try simp only [Exit.inBlock,Exit.then])
 refine bodyPost_ret (results_none rfl _ _ _) rfl ?_
 exact ⟨rfl,h0.out.below hb,But.of_below hb⟩
set_option maxRecDepth 100000 in
set_option maxHeartbeats 8000000 in
theorem exec_deal_ok (h : Rn r w ga vd c) (hlt : c.phase < r.L.length) (hL9 : r.L.length <= 1000) (hW : 1 <= r.W) (hW8 : r.W <= 8) (hT9 : (r.L.getD c.phase []).length <= 64) (hem : ∀ i,c.hands.getD i [] = []) :
   Calls Tryd.prog 88 #[.pointer (some ⟨r.g,0,none⟩)] w fun e w' => e = .returned (.tuple #[]) /\ Rn r w' ga vd { c with hands := dealK c.hands (r.L.getD c.phase []) (r.L.getD c.phase []).length } /\ But (RnO r ga vd) w w' := by
 have cD := exec_Done h
 rw [decide_eq_false (by omega)] at cD
 obtain ⟨T,hTe⟩ : ∃ T,Hid (T = r.L.getD c.phase []) := ⟨_,rfl⟩
 obtain ⟨ap,cp,hpv,-⟩ := h.isR c.phase hlt
 rw [<- hTe.out] at hpv hT9 ⊢
 have hph9 : c.phase <= 1000 := by omega
 have hc : Hid (c.hands.length = r.W) := h.hc
 have h0 : Hid _ := h
 have k2' : Hid (∀ w' : World,Rn r w' ga vd c -> w'.cell? ⟨r.g,2,none⟩ = some (.slice (some ⟨r.gl,0,none⟩) r.L.length r.L.length) /\ w'.cell? ⟨r.g,3,none⟩ = some (.int .i64 (c.phase : Int)) /\ w'.cell? ⟨r.gl,c.phase,none⟩ = some (.slice ap T.length cp)) := fun w' h' => ⟨h'.f2,h'.f3,by rw [h'.pcell c.phase hlt,hpv]⟩
 clear h
 go_enter Tryd.func88,Tryd.ntmps88
 go_wp2_with (go_at_call 44; refine Calls.mono cD ?_; rintro e w1 ⟨rfl,hb1⟩; clear cD; have h1 := h0.out.below hb1; obtain ⟨k2,k3,k5⟩ := k2'.out w1 h1)
 go_quiet (fail)
 have hb6 : Below w.heap.size w (w1.drewN nq) := below_drewN hb1 nq
 clear h1 hb1 k2 k3 k5 k2'
 generalize w1.drewN nq = w6 at *
 have h6 : Hid (Rn r w6 ga vd c) := h0.out.below hb6
 replace hb6 : Hid _ := hb6
 go_wp2
 go_loopw [17] (fun vi wr => ∃ (k : Nat),k <= T.length /\ vi = .int .i64 (k : Int) /\ Hid (Rn r wr ga vd { c with hands := dealK c.hands T k }) /\ Hid (But (RnO r ga vd) w wr))
   (fun vi _ => T.length - (intOf vi).toNat)
 case atStart => exact ⟨0,Nat.zero_le _,rfl,h6.out,But.of_below hb6.out⟩
 case round =>
   clear h6 hb6
   obtain ⟨k,hkn,rfl,hC,hBu⟩ := hrel
   by_cases hlt2 : k < T.length
   · obtain ⟨a3,c3,e3,-,-,hrows,hT3⟩ := hC.out.isR c.phase hlt
     rw [<- hTe.out] at e3 hrows hT3
     rw [hpv] at e3
     simp only [Value.slice.injEq] at e3
     obtain ⟨rfl,-,rfl⟩ := e3
     obtain ⟨b2,o2,rfl,hcell0⟩ := hrows k hlt2
     obtain ⟨ta,tb,tcc,ht4⟩ := len_3 (hT3 _ (getD_mem hlt2)).1
     rw [ht4] at hcell0
     have hr3 := (hT3 _ (getD_mem hlt2)).2
     rw [ht4] at hr3
     have wa : (Lit.int .i64 ta).wf = true := wf_of (hr3 ta (by simp))
     have wb : (Lit.int .i64 tb).wf = true := wf_of (hr3 tb (by simp))
     have wc : (Lit.int .i64 tcc).wf = true := wf_of (hr3 tcc (by simp))
     have c0 : wr.cell? ⟨b2,o2 + k * 3,none⟩ = some (.int .i64 ta) := hcell0 0 (by omega)
     have c1 : wr.cell? ⟨b2,o2 + k * 3 + 1,none⟩ = some (.int .i64 tb) := by rw [Nat.add_assoc]; exact hcell0 1 (by omega)
     have c2 : wr.cell? ⟨b2,o2 + k * 3 + 2,none⟩ = some (.int .i64 tcc) := by rw [Nat.add_assoc]; exact hcell0 2 (by omega)
     have cT := fun (W' : World) => exec_dealtTo W' k r.W (by omega) hW hW8
     have hml : k % r.W < r.W := Nat.mod_lt _ (by omega)
     have hk8 : Hid ((dealK c.hands T (k + 1)) = (dealK c.hands T k).set (k % r.W) ((dealK c.hands T k).getD (k % r.W) [] ++ [[ta,tb,tcc]])) := by show _ = _; rw [dealK,hc.out,ht4]
     have hlen : ((dealK c.hands T k).getD (k % r.W) []).length < 64 := by have := dealK_most c.hands T k (k % r.W); rw [hem] at this; simp only [List.length_nil] at this; omega
     generalize k % r.W = m at *
     have hT3' : Hid (T3 [[ta,tb,tcc]]) := fun x hx => by simp only [List.mem_singleton] at hx; rw [hx,<- ht4]; exact hT3 _ (getD_mem hlt2)
     clear hcell0 hrows hr3 hT3 ht4
     have hm9 : (m : Int) < (r.W : Int) := by omega
     have hgo : ¬ RnO r ga vd wr.heap.size := fun q => by have := hC.out.old _ q; omega
     have hgw : w.heap.size <= wr.heap.size := hBu.out.size
     have h6 : Hid _ := hC.out.below (below_alloc1 wr (.cells #[.int .i64 ta,.int .i64 tb,.int .i64 tcc] 71))
     have hX6 : Hid (RowV 71 (wr.alloc (.cells #[.int .i64 ta,.int .i64 tb,.int .i64 tcc] 71)) wr.heap.size [.int .i64 ta,.int .i64 tb,.int .i64 tcc]) := new_row wr 71 [.int .i64 ta,.int .i64 tb,.int .i64 tcc]
     have hBu6 : Hid _ := hBu.out.andBelow (below_alloc1 wr (.cells #[.int .i64 ta,.int .i64 tb,.int .i64 tcc] 71))
     clear hC hBu
     go_wp2
     generalize wr.alloc (.cells #[.int .i64 ta,.int .i64 tb,.int .i64 tcc] 71) = w7 at *
     generalize wr.heap.size = G at *
     have hSd : (fun w' : World => w'.cell? ⟨r.g,4,none⟩ = some (.slice (some ⟨r.gd,0,none⟩) r.W r.W) /\ w'.cell? ⟨r.gd,m,none⟩ = some (.pointer (some ⟨r.q m,0,none⟩)) /\ w'.cell? ⟨G,0,none⟩ = some (.int .i64 ta) /\ w'.cell? ⟨G,1,none⟩ = some (.int .i64 tb) /\ w'.cell? ⟨G,2,none⟩ = some (.int .i64 tcc)) w7.drew := ⟨h6.out.f4,h6.out.qcell m hml,hX6.out.cell 0,hX6.out.cell 1,hX6.out.cell 2⟩
     refine wp_region_H (S := (fun w' : World => w'.cell? ⟨r.g,4,none⟩ = some (.slice (some ⟨r.gd,0,none⟩) r.W r.W) /\ w'.cell? ⟨r.gd,m,none⟩ = some (.pointer (some ⟨r.q m,0,none⟩)) /\ w'.cell? ⟨G,0,none⟩ = some (.int .i64 ta) /\ w'.cell? ⟨G,1,none⟩ = some (.int .i64 tb) /\ w'.cell? ⟨G,2,none⟩ = some (.int .i64 tcc))) (by kernel_rfl) ?_
     refine wpAnyH_take (i := 0) (v := ?va0) rfl (by kernel_rfl) (by kernel_rfl) (by kernel_rfl) (fun _ _ _ h => h) (Or.inl ⟨by rfl,?hya0⟩) hSd ?resta0
     case hya0 =>
       intro w hSw
       (try dsimp only at hSw)
       go_simp
       all_goals with_reducible rfl
     simp only [Act.put,List.getElem_toArray,List.getElem_cons_zero,List.setIfInBounds_toArray,List.set_cons_zero,List.set_cons_succ]
     refine wpAnyH_take (i := 1) (v := ?va1) rfl (by kernel_rfl) (by kernel_rfl) (by kernel_rfl) (fun _ _ _ h => h) (Or.inl ⟨by rfl,?hya1⟩) hSd ?resta1
     case hya1 =>
       intro w hSw
       (try dsimp only at hSw)
       go_simp
       all_goals with_reducible rfl
     simp only [Act.put,List.getElem_toArray,List.getElem_cons_succ,List.getElem_cons_zero,List.setIfInBounds_toArray,List.set_cons_zero,List.set_cons_succ]
     refine wpAnyH_take (i := 2) (v := ?va2) rfl (by kernel_rfl) (by kernel_rfl) (by kernel_rfl) (fun _ _ _ h => h) (Or.inl ⟨by rfl,?hya2⟩) hSd ?resta2
     case hya2 =>
       intro w hSw
       (try dsimp only at hSw)
       go_simp
       all_goals with_reducible rfl
     simp only [Act.put,List.getElem_toArray,List.getElem_cons_succ,List.getElem_cons_zero,List.setIfInBounds_toArray,List.set_cons_zero,List.set_cons_succ]
     refine wpAnyH_take (i := 3) (v := ?va3) rfl (by kernel_rfl) (by kernel_rfl) (by kernel_rfl) (fun _ _ _ h => h) (Or.inl ⟨by rfl,?hya3⟩) hSd ?resta3
     case hya3 =>
       intro w hSw
       (try dsimp only at hSw)
       go_simp
       all_goals with_reducible rfl
     simp only [Act.put,List.getElem_toArray,List.getElem_cons_succ,List.getElem_cons_zero,List.setIfInBounds_toArray,List.set_cons_zero,List.set_cons_succ]
     refine wpAnyH_take (i := 4) (v := ?va4) rfl (by kernel_rfl) (by kernel_rfl) (by kernel_rfl) (fun _ _ _ h => h) (Or.inl ⟨by rfl,?hya4⟩) hSd ?resta4
     case hya4 =>
       intro w hSw
       (try dsimp only at hSw)
       go_simp
       all_goals with_reducible rfl
     simp only [Act.put,List.getElem_toArray,List.getElem_cons_succ,List.getElem_cons_zero,List.setIfInBounds_toArray,List.set_cons_zero,List.set_cons_succ]
     refine wpAnyH_take (i := 5) (v := ?va5) rfl (by kernel_rfl) (by kernel_rfl) (by kernel_rfl) (fun _ _ _ h => h) (Or.inl ⟨by rfl,?hya5⟩) hSd ?resta5
     case hya5 =>
       intro w hSw
       (try dsimp only at hSw)
       go_simp
       all_goals with_reducible rfl
     simp only [Act.put,List.getElem_toArray,List.getElem_cons_succ,List.getElem_cons_zero,List.setIfInBounds_toArray,List.set_cons_zero,List.set_cons_succ]
     refine wpAnyH_take (i := 6) (v := ?va6) rfl (by kernel_rfl) (by kernel_rfl) (by kernel_rfl) (fun _ _ _ h => h) (Or.inl ⟨by rfl,?hya6⟩) hSd ?resta6
     case hya6 =>
       intro w hSw
       (try dsimp only at hSw)
       go_simp
       all_goals with_reducible rfl
     simp only [Act.put,List.getElem_toArray,List.getElem_cons_succ,List.getElem_cons_zero,List.setIfInBounds_toArray,List.set_cons_zero,List.set_cons_succ]
     refine wpAnyH_take (i := 7) (v := ?va7) rfl (by kernel_rfl) (by kernel_rfl) (by kernel_rfl) (fun _ _ _ h => h) (Or.inl ⟨by rfl,?hya7⟩) hSd ?resta7
     case hya7 =>
       intro w hSw
       (try dsimp only at hSw)
       go_simp
       all_goals with_reducible rfl
     simp only [Act.put,List.getElem_toArray,List.getElem_cons_succ,List.getElem_cons_zero,List.setIfInBounds_toArray,List.set_cons_zero,List.set_cons_succ]
     refine wpAnyH_take (i := 8) (v := ?va8) rfl (by kernel_rfl) (by kernel_rfl) (by kernel_rfl) (fun _ _ _ h => h) (Or.inl ⟨by rfl,?hya8⟩) hSd ?resta8
     case hya8 =>
       intro w hSw
       (try dsimp only at hSw)
       go_simp
       all_goals with_reducible rfl
     simp only [Act.put,List.getElem_toArray,List.getElem_cons_succ,List.getElem_cons_zero,List.setIfInBounds_toArray,List.set_cons_zero,List.set_cons_succ]
     refine wpAnyH_take (i := 9) (v := ?va9) rfl (by kernel_rfl) (by kernel_rfl) (by kernel_rfl) (fun _ _ _ h => h) (Or.inl ⟨by rfl,?hya9⟩) hSd ?resta9
     case hya9 =>
       intro w hSw
       (try dsimp only at hSw)
       go_simp
       all_goals with_reducible rfl
     simp only [Act.put,List.getElem_toArray,List.getElem_cons_succ,List.getElem_cons_zero,List.setIfInBounds_toArray,List.set_cons_zero,List.set_cons_succ]
     refine wpAnyH_take (i := 13) (v := ?va13) rfl (by kernel_rfl) (by kernel_rfl) (by kernel_rfl) (fun _ _ _ h => h) (Or.inl ⟨by rfl,?hya13⟩) hSd ?resta13
     case hya13 =>
       intro w hSw
       (try dsimp only at hSw)
       go_simp
       all_goals with_reducible rfl
     simp only [Act.put,List.getElem_toArray,List.getElem_cons_succ,List.getElem_cons_zero,List.setIfInBounds_toArray,List.set_cons_zero,List.set_cons_succ]
     refine wpAnyH_one (i := 10) rfl (by kernel_rfl) (fun K hK => ?_)
     simp only [List.getElem_toArray,List.getElem_cons_succ,List.getElem_cons_zero]
     go_simp
     refine Calls.mono (cT _) ?_
     rintro e w8 ⟨rfl,hw⟩
     rw [hw]
     refine hK.out _ _ hSd ?_
     clear hK K cT hw
     refine wpAnyH_take (i := 11) (v := ?vb11) rfl (by kernel_rfl) (by kernel_rfl) (by kernel_rfl) (fun _ _ _ h => h) (Or.inl ⟨by rfl,?hyb11⟩) hSd ?restb11
     case hyb11 =>
       intro w hSw
       (try dsimp only at hSw)
       go_simp
       all_goals with_reducible rfl
     simp only [Act.put,List.getElem_toArray,List.getElem_cons_succ,List.getElem_cons_zero,List.setIfInBounds_toArray,List.set_cons_zero,List.set_cons_succ]
     refine wpAnyH_take (i := 12) (v := ?vb12) rfl (by kernel_rfl) (by kernel_rfl) (by kernel_rfl) (fun _ _ _ h => h) (Or.inl ⟨by rfl,?hyb12⟩) hSd ?restb12
     case hyb12 =>
       intro w hSw
       (try dsimp only at hSw)
       go_simp
       all_goals with_reducible rfl
     simp only [Act.put,List.getElem_toArray,List.getElem_cons_succ,List.getElem_cons_zero,List.setIfInBounds_toArray,List.set_cons_zero,List.set_cons_succ]
     have hd7 : Below w7.heap.size w7 w7.drew := below_drewN (Below.refl _ _) 1
     have h7 := h6.out.below hd7
     have hBu7 := hBu6.out.andBelow hd7
     have hX7 := RowV.below hX6.out hd7
     have hqm := h7.dq m hml
     refine wpAnyH_one (i := 14) rfl (by kernel_rfl) (fun K hK => ?_)
     simp only [List.getElem_toArray,List.getElem_cons_succ,List.getElem_cons_zero]
     go_simp
     refine Calls.mono (deque_Push_ok w7.drew _ 64 _ _ ta tb tcc hqm hlen wa wb wc) ?_
     rintro e w8 ⟨rfl,O8,hD8,-,hb8⟩
     have h8 := h7.hand m hml _ (T3.append (h7.t3 m) hT3'.out) hD8.own hb8
     have hGq : G ≠ r.q m := fun e => hgo (by rw [e]; exact .inr (.inr (.inr (.inr ⟨m,hml,rfl⟩))))
     have hX8 := hX7.block (hb8.block _ hX7.lt hGq)
     have hBu8 : Hid (But (RnO r ga vd) w w8) := hBu7.trans (O' := fun k => k = r.q m) hb8 fun i e => .inl (.inr (.inr (.inr (.inr ⟨m,hml,e⟩))))
     refine hK.out _ _ ⟨h8.f4,h8.qcell m hml,hX8.cell 0,hX8.cell 1,hX8.cell 2⟩ (wpAnyH_done (by kernel_rfl) ?_ _)
     have h9 : Hid (Rn r w8 ga vd { c with hands := dealK c.hands T (k + 1) }) := by show Rn _ _ _ _ _; rw [hk8.out]; exact h8
     clear hK K h6 hX6 hBu6 h7 hX7 hBu7 hqm hb8 hD8 hX8 h8 hSd hd7
     go_wp2
     go_roundw
     case rel => exact ⟨k + 1,by omega,by go_num,h9,hBu8⟩
     case measure => simp only [intOf]; omega
   · have he : k = T.length := by omega
     subst he
     clear hlt2 hkn
     go_wp2
     go_end0
     exact ⟨rfl,hC.out,hBu.out⟩
end
theorem tc_cells {w : World} {a : Addr} {T : List (List Int)} (hT : T3 T) (h : ∀ i,i < T.length -> ∀ j,j < 3 -> w.cell? (a.add (i * 3 + j)) = some (.int .i64 ((T.getD i []).getD j 0))) : ∀ j u,(tc T)[j]? = some u -> w.cell? (a.add j) = some u := by
 intro j u hj
 have hlt : j < T.length * 3 := by
   rw [<- tc_length hT]
   rcases Nat.lt_or_ge j (tc T).length with q | q
   · exact q
   · rw [List.getElem?_eq_none q] at hj; cases hj
 have e : j = j / 3 * 3 + j % 3 := by omega
 have h1 := tc_get hT (j / 3) (j % 3) (by omega) (by omega)
 rw [<- e,hj] at h1
 rw [e,h (j / 3) (by omega) (j % 3) (by omega),<- h1]
theorem tc_one' {T : List (List Int)} : ∀ u ∈ tc T,u.oneCell' = true := by
 intro u hu
 unfold tc at hu
 obtain ⟨r,_,hr⟩ := List.mem_flatMap.mp hu
 obtain ⟨z,_,rfl⟩ := List.mem_map.mp hr
 rfl
theorem wp_cloneT {ops : Array Oper} {rest : List Oper} {o : Oper} {a : Act} {Q : Exit -> Act -> World -> Prop} {w : World} (hgd : o.guard = none) (s x : Operand)
   (ho : o.op = .call { callee := .builtin .append,args := #[s,x],argTypes := #[69,69] }) (ad : Addr) (c : Nat) (T : List (List Int)) (hT : T3 T)
   (hs : a.eval s = .slice (some ⟨w.heap.size,0,none⟩) 0 0) (hx : a.eval x = .slice (some ad) T.length c) (hn : 0 < T.length) (hb : T.length <= 1000000)
   (hnews : ∀ j u,(tc T)[j]? = some u -> (w.alloc (.cells #[] 71)).cell? (ad.add j) = some u)
   (h : ∀ g cap w',w'.ownsRow w.heap.size 71 3 (.slice (some ⟨g,0,none⟩) T.length cap) T.length (tc T) -> Below w.heap.size w w' -> wpList Tryd.prog ops Q rest (a.put o.dst (.slice (some ⟨g,0,none⟩) T.length cap)) w') :
   wpList Tryd.prog ops Q (o :: rest) a (w.alloc (.cells #[] 71)) := by
 obtain ⟨i0,hi,hz0,hz1,hz2⟩ := info_3 info_task
 have hown := World.ownsRow_lit (base := w.heap.size) (e := 71) (size := 3) w #[] 0 (Nat.le_refl _) (by simp [maxLen]) rfl
 have hbl := below_alloc1 w (.cells #[] 71)
 refine wpList_append_lies _ hgd s x 69 ho w.heap.size 71 i0 (.agg #[.int .i64 0,.int .i64 0,.int .i64 0]) 3 24 Tryd.underlying69 hi hz0 hz1 hz2 rfl (by decide) _ 0 [] hs hown ad T.length c (tc T) hx (tc_length hT) hnews tc_one' hn ?_ ?_ ?_ _ rfl ?_
 · unfold maxLen; omega
 · omega
 · exact hbl.size
 · intro g cap w' hown' hgrow _ _
   rw [Nat.zero_add,List.nil_append] at hown'
   rw [Nat.zero_add]
   exact h g cap w' hown' (hbl.grown hgrow hbl.size (fun k hk => by simp [Value.ownBlock] at hk; omega))
set_option maxHeartbeats 1000000 in
theorem slices_CloneT (w : World) (v : Value) (T : List (List Int)) (h : IsR 3 w v T) (hn : 0 < T.length) (hb : T.length <= 1000000) :
   Calls Tryd.prog 130 #[v] w fun e w' => ∃ g cap,e = .returned (.slice (some ⟨g,0,none⟩) T.length cap) /\ w'.ownsRow w.heap.size 71 3 (.slice (some ⟨g,0,none⟩) T.length cap) T.length (tc T) /\ Below w.heap.size w w' := by
 have hT3 : T3 T := by obtain ⟨_,_,_,_,_,_,hr⟩ := h; exact hr
 obtain ⟨a,cap,rfl,hcap,hmax,hc,-⟩ := h
 obtain ⟨b,off,rfl,-⟩ := hc 0 hn
 have hcell : ∀ i,i < T.length -> ∀ j,j < 3 -> w.cell? ((⟨b,off,none⟩ : Addr).add (i * 3 + j)) = some (.int .i64 ((T.getD i []).getD j 0)) := fun i hi j hj => by
   obtain ⟨b',off',e,hce⟩ := hc i hi
   simp only [Option.some.injEq,Addr.mk.injEq,and_true] at e
   obtain ⟨rfl,rfl⟩ := e
   rw [Go.WideShapes.add_plain]
   exact hce j hj
 clear hc
 have hnil := fun (W : World) => Go.Lib.run_eql_slice_nil (P := Tryd.prog) W 69 71 (some ⟨b,off,none⟩) T.length cap 0 0 Tryd.underlying69
 go_enter Tryd.func130,Tryd.ntmps130
 have hnews := tc_cells (w := w.alloc (.cells #[] 71)) (a := ⟨b,off,none⟩) hT3 (fun i hi j hj => by
   have h1 := hcell i hi j hj
   rw [Go.WideShapes.add_plain] at h1 ⊢
   exact ((below_alloc1 w (.cells #[] 71)).cell (block_lt h1)).trans h1)
 clear hcell
 go_wp2_with (first
   | simp only [hnil]
   | (at_builtin; refine wp_cloneT rfl _ _ rfl ⟨b,off,none⟩ cap T hT3 rfl rfl hn hb hnews ?_; intro g c2 w2 hown hbl))
 go_ret
 exact ⟨g,c2,rfl,hown,hbl⟩
theorem step_appendQ {ops : Array Oper} {o : Oper} {a : Act} {K : Act -> World -> Prop} {Q : Exit -> Act -> World -> Prop} {E : Prop} {w : World} {B : Nat} (hgd : o.guard = none) (s x : Operand)
   (ho : o.op = .call { callee := .builtin .append,args := #[s,x],argTypes := #[68,68] }) (v : Value) (n : Nat) (xs : List Value) (p q r : Int)
   (hs : a.eval s = v) (hx : a.eval x = .slice (some ⟨w.heap.size,0,none⟩) 1 1) (hown : w.ownsRow B 71 3 v n xs)
   (hn : n <= 1000000) (hB : B <= w.heap.size)
   (h : ∀ g cap w',w'.ownsRow B 71 3 (.slice (some ⟨g,0,none⟩) (n + 1) cap) (n + 1) (xs ++ [.int .i64 p,.int .i64 q,.int .i64 r]) -> Hid ((w.alloc (.cells #[.int .i64 p,.int .i64 q,.int .i64 r] 71)).grownBy w' v.ownBlock) -> Hid (v.ownBlock = some g \/ w.heap.size <= g) -> K (a.put o.dst (.slice (some ⟨g,0,none⟩) (n + 1) cap)) w') :
   if Region.wanted o (yielded ops a.tmps) = true then Oper.wp Tryd.prog o a (w.alloc (.cells #[.int .i64 p,.int .i64 q,.int .i64 r] 71)) K Q else E := by
 obtain ⟨i0,hi,hz0,hz1,hz2⟩ := info_3 info_task
 refine step_append_lies _ hgd s x 68 ho B 71 i0 (.agg #[.int .i64 0,.int .i64 0,.int .i64 0]) 3 24 Tryd.underlying68 hi hz0 hz1 hz2 rfl (by decide) v n xs hs (hown.alloc _) ⟨w.heap.size,0,none⟩ 1 1 [.int .i64 p,.int .i64 q,.int .i64 r] hx rfl ?_ ?_ (by decide) ?_ ?_ ?_ _ rfl ?_
 · exact World.news_of_block (heap_alloc_new w _)
 · intro u hu
   simp only [List.mem_cons,List.not_mem_nil,or_false] at hu
   rcases hu with rfl | rfl | rfl <;> rfl
 · unfold maxLen; omega
 · omega
 · simp; omega
 · intro g cap w' hown' hgrow hat _
   have hal : (w.alloc (.cells #[.int .i64 p,.int .i64 q,.int .i64 r] 71)).heap.size = w.heap.size + 1 := by simp
   refine h g cap w' hown' hgrow ?_
   rcases hat with h1 | h1
   · exact .inl h1
   · exact .inr (by rw [h1,hal]; omega)
theorem But.of_grown {w w' : World} {o : Obj} {v : Value} {O : Nat -> Prop} (h : (w.alloc o).grownBy w' v.ownBlock) (hO : ∀ b,v.ownBlock = some b -> O b) : But O w w' :=
 ⟨h.os,h.tape,h.output,by have := h.size; simp at this; omega,fun k hk hn => (h.block k (by simp; omega) (fun e => hn (hO k e.symm))).trans (Below.heap_alloc _ _ _ hk)⟩
theorem info_U : (Tryd.prog.info? 34).map (fun i => (i.zero,i.size,i.bytes)) = some (some (.int .u64 0),1,8) := by kernel_rfl
theorem info_Z : (Tryd.prog.info? 3).map (fun i => (i.zero,i.size,i.bytes)) = some (some (.int .i64 0),1,8) := by kernel_rfl
def cellsZ (zs : List Int) : List Value := zs.map fun z => Value.int .i64 z
theorem cellsZ_get (zs : List Int) (i : Nat) (h : i < zs.length) : (cellsZ zs)[i]? = some (.int .i64 (zs.getD i 0)) := by simp [cellsZ,List.getD,h]
theorem wp_cloneU {ops : Array Oper} {rest : List Oper} {o : Oper} {a : Act} {Q : Exit -> Act -> World -> Prop} {w : World} (hgd : o.guard = none) (s x : Operand)
   (ho : o.op = .call { callee := .builtin .append,args := #[s,x],argTypes := #[23,23] }) (ad : Addr) (c : Nat) (xs : List Nat)
   (hs : a.eval s = .slice (some ⟨w.heap.size,0,none⟩) 0 0) (hx : a.eval x = .slice (some ad) xs.length c) (hn : 0 < xs.length) (hb : xs.length <= 1000000)
   (hnews : ∀ j u,(cellsU xs)[j]? = some u -> (w.alloc (.cells #[] 34)).cell? (ad.add j) = some u)
   (h : ∀ g cap w',w'.ownsRow w.heap.size 34 1 (.slice (some ⟨g,0,none⟩) xs.length cap) xs.length (cellsU xs) -> Below w.heap.size w w' -> wpList Tryd.prog ops Q rest (a.put o.dst (.slice (some ⟨g,0,none⟩) xs.length cap)) w') :
   wpList Tryd.prog ops Q (o :: rest) a (w.alloc (.cells #[] 34)) := by
 obtain ⟨i0,hi,hz0,hz1,hz2⟩ := info_3 info_U
 have hown := World.ownsRow_lit (base := w.heap.size) (e := 34) (size := 1) w #[] 0 (Nat.le_refl _) (by simp [maxLen]) rfl
 have hbl := below_alloc1 w (.cells #[] 34)
 refine wpList_append_lies _ hgd s x 23 ho w.heap.size 34 i0 (.int .u64 0) 1 8 Tryd.underlying23 hi hz0 hz1 hz2 rfl (by decide) _ 0 [] hs hown ad xs.length c (cellsU xs) hx (by simp [cellsU]) hnews (fun u hu => by unfold cellsU at hu; obtain ⟨z,_,rfl⟩ := List.mem_map.mp hu; rfl) hn ?_ ?_ ?_ _ rfl ?_
 · unfold maxLen; omega
 · omega
 · exact hbl.size
 · intro g cap w' hown' hgrow _ _
   rw [Nat.zero_add,List.nil_append] at hown'
   rw [Nat.zero_add]
   exact h g cap w' hown' (hbl.grown hgrow hbl.size (fun k hk => by simp [Value.ownBlock] at hk; omega))
set_option maxHeartbeats 1000000 in
theorem slices_CloneU (w : World) (v : Value) (xs : List Nat) (h : IsU w v xs) (hn : 0 < xs.length) (hb : xs.length <= 1000000) :
   Calls Tryd.prog 92 #[v] w fun e w' => ∃ g cap,e = .returned (.slice (some ⟨g,0,none⟩) xs.length cap) /\ w'.ownsRow w.heap.size 34 1 (.slice (some ⟨g,0,none⟩) xs.length cap) xs.length (cellsU xs) /\ Below w.heap.size w w' := by
 obtain ⟨a,cap,rfl,hcap,hmax,hc,-⟩ := h
 obtain ⟨b,off,rfl,-⟩ := hc 0 hn
 have hnews : ∀ j u,(cellsU xs)[j]? = some u -> (w.alloc (.cells #[] 34)).cell? ((⟨b,off,none⟩ : Addr).add j) = some u := fun j u hj => by
   rcases Nat.lt_or_ge j xs.length with q | q
   · obtain ⟨b',off',e,hce⟩ := hc j q
     simp only [Option.some.injEq,Addr.mk.injEq,and_true] at e
     obtain ⟨rfl,rfl⟩ := e
     rw [cellsU_get xs j q] at hj
     rw [Go.WideShapes.add_plain,<- hj,<- hce]
     exact (below_alloc1 w (.cells #[] 34)).cell (block_lt hce)
   · rw [List.getElem?_eq_none (by simp [cellsU]; omega)] at hj; cases hj
 clear hc
 have hnil := fun (W : World) => Go.Lib.run_eql_slice_nil (P := Tryd.prog) W 23 34 (some ⟨b,off,none⟩) xs.length cap 0 0 Tryd.underlying23
 go_enter Tryd.func92,Tryd.ntmps92
 go_wp2_with (first
   | simp only [hnil]
   | (at_builtin; refine wp_cloneU rfl _ _ rfl ⟨b,off,none⟩ cap xs rfl rfl hn hb hnews ?_; intro g c2 w2 hown hbl))
 go_ret
 exact ⟨g,c2,rfl,hown,hbl⟩
theorem wp_cloneZ {ops : Array Oper} {rest : List Oper} {o : Oper} {a : Act} {Q : Exit -> Act -> World -> Prop} {w : World} (hgd : o.guard = none) (s x : Operand)
   (ho : o.op = .call { callee := .builtin .append,args := #[s,x],argTypes := #[22,22] }) (ad : Addr) (c : Nat) (xs : List Int)
   (hs : a.eval s = .slice (some ⟨w.heap.size,0,none⟩) 0 0) (hx : a.eval x = .slice (some ad) xs.length c) (hn : 0 < xs.length) (hb : xs.length <= 1000000)
   (hnews : ∀ j u,(cellsZ xs)[j]? = some u -> (w.alloc (.cells #[] 3)).cell? (ad.add j) = some u)
   (h : ∀ g cap w',w'.ownsRow w.heap.size 3 1 (.slice (some ⟨g,0,none⟩) xs.length cap) xs.length (cellsZ xs) -> Below w.heap.size w w' -> wpList Tryd.prog ops Q rest (a.put o.dst (.slice (some ⟨g,0,none⟩) xs.length cap)) w') :
   wpList Tryd.prog ops Q (o :: rest) a (w.alloc (.cells #[] 3)) := by
 obtain ⟨i0,hi,hz0,hz1,hz2⟩ := info_3 info_Z
 have hown := World.ownsRow_lit (base := w.heap.size) (e := 3) (size := 1) w #[] 0 (Nat.le_refl _) (by simp [maxLen]) rfl
 have hbl := below_alloc1 w (.cells #[] 3)
 refine wpList_append_lies _ hgd s x 22 ho w.heap.size 3 i0 (.int .i64 0) 1 8 Tryd.underlying22 hi hz0 hz1 hz2 rfl (by decide) _ 0 [] hs hown ad xs.length c (cellsZ xs) hx (by simp [cellsZ]) hnews (fun u hu => by unfold cellsZ at hu; obtain ⟨z,_,rfl⟩ := List.mem_map.mp hu; rfl) hn ?_ ?_ ?_ _ rfl ?_
 · unfold maxLen; omega
 · omega
 · exact hbl.size
 · intro g cap w' hown' hgrow _ _
   rw [Nat.zero_add,List.nil_append] at hown'
   rw [Nat.zero_add]
   exact h g cap w' hown' (hbl.grown hgrow hbl.size (fun k hk => by simp [Value.ownBlock] at hk; omega))
set_option maxHeartbeats 1000000 in
theorem slices_CloneZ (w : World) (v : Value) (xs : List Int) (h : IsZ w v xs) (hn : 0 < xs.length) (hb : xs.length <= 1000000) :
   Calls Tryd.prog 84 #[v] w fun e w' => ∃ g cap,e = .returned (.slice (some ⟨g,0,none⟩) xs.length cap) /\ w'.ownsRow w.heap.size 3 1 (.slice (some ⟨g,0,none⟩) xs.length cap) xs.length (cellsZ xs) /\ Below w.heap.size w w' := by
 obtain ⟨a,cap,rfl,hcap,hmax,hc,-⟩ := h
 obtain ⟨b,off,rfl,-⟩ := hc 0 hn
 have hnews : ∀ j u,(cellsZ xs)[j]? = some u -> (w.alloc (.cells #[] 3)).cell? ((⟨b,off,none⟩ : Addr).add j) = some u := fun j u hj => by
   rcases Nat.lt_or_ge j xs.length with q | q
   · obtain ⟨b',off',e,hce⟩ := hc j q
     simp only [Option.some.injEq,Addr.mk.injEq,and_true] at e
     obtain ⟨rfl,rfl⟩ := e
     rw [cellsZ_get xs j q] at hj
     rw [Go.WideShapes.add_plain,<- hj,<- hce]
     exact (below_alloc1 w (.cells #[] 3)).cell (block_lt hce)
   · rw [List.getElem?_eq_none (by simp [cellsZ]; omega)] at hj; cases hj
 clear hc
 have hnil := fun (W : World) => Go.Lib.run_eql_slice_nil (P := Tryd.prog) W 22 3 (some ⟨b,off,none⟩) xs.length cap 0 0 Tryd.underlying22
 go_enter Tryd.func84,Tryd.ntmps84
 go_wp2_with (first
   | simp only [hnil]
   | (at_builtin; refine wp_cloneZ rfl _ _ rfl ⟨b,off,none⟩ cap xs rfl rfl hn hb hnews ?_; intro g c2 w2 hown hbl))
 go_ret
 exact ⟨g,c2,rfl,hown,hbl⟩
theorem IsZ.of_owns {w : World} {base e n : Nat} {v : Value} {zs : List Int} (h : w.ownsRow base e 1 v n (cellsZ zs)) (hr : ∀ z ∈ zs,-9223372036854775808 <= z /\ z <= 9223372036854775807) : IsZ w v zs := by
 have hlen := h.1
 rw [Nat.mul_one] at hlen
 have hl : zs.length = n := by simpa [cellsZ] using hlen
 subst hl
 rcases h.2 with ⟨rfl,hn⟩ | ⟨g,cap,cur,rfl,hg,hh,h1,h2,h3,h4⟩
 · exact ⟨none,0,by rw [hn],by omega,by simp [maxLen],fun i hi => by omega,hr⟩
 · refine ⟨some ⟨g,0,none⟩,cap,rfl,h1,h2,fun i hi => ⟨g,0,rfl,?_⟩,hr⟩
   have q := cellsZ_get zs i hi
   rw [<- h4,List.getElem?_take,if_pos (by omega)] at q
   rw [Nat.zero_add]
   simp only [World.cell?,hh]
   rw [<- Array.getElem?_toList,q]; rfl
theorem IsZ.at {w w' : World} {v : Value} {zs : List Int} (h : IsZ w v zs) (hk : ∀ b,v.ownBlock = some b -> w'.heap[b]? = w.heap[b]?) : IsZ w' v zs := by
 obtain ⟨a,cap,rfl,h1,h2,hc,hr⟩ := h
 refine ⟨a,cap,rfl,h1,h2,fun i hi => ?_,hr⟩
 obtain ⟨b,off,rfl,hcell⟩ := hc i hi
 exact ⟨b,off,rfl,(World.cell?_of_block (w := w) (hk b rfl)).trans hcell⟩
theorem IsR.at {k : Nat} {w w' : World} {v : Value} {T : List (List Int)} (h : IsR k w v T) (hk : ∀ b,v.ownBlock = some b -> w'.heap[b]? = w.heap[b]?) : IsR k w' v T := by
 obtain ⟨a,cap,rfl,h1,h2,hc,hr⟩ := h
 refine ⟨a,cap,rfl,h1,h2,fun i hi => ?_,hr⟩
 obtain ⟨b,off,rfl,hcell⟩ := hc i hi
 exact ⟨b,off,rfl,fun j hj => (World.cell?_of_block (w := w) (hk b rfl)).trans (hcell j hj)⟩
end Go.Proofs.YtckoipoejaafhaaDoor
