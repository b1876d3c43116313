/-
 Texts that stood one behind the other,as one.
-/
import Derived.Test.YtckoipoejaafhaaDoorExDAll
import Derived.Test.YtckoipoejaafhaaDoorExDAll
import Derived.Test.YtckoipoejaafhaaDoorPlanCAll
namespace Go.Proofs.YtckoipoejaafhaaDoor
open Go.RowKit
set_option maxRecDepth 100000
theorem nmL_same {xs : List Nat} (h : ∀ x ∈ xs,x < P) : nmL xs = xs := by
 unfold nmL
 conv => rhs; rw [<- List.map_id xs]
 exact List.map_congr_left fun x hx => by rw [fN_eq,Nat.mod_eq_of_lt (h x hx)]; rfl
theorem trn_below {ds xs : List Nat} {x f l : Nat} {back : Bool} (h : ∀ y ∈ xs,y < P) : ∀ y ∈ trn ds xs x f l back,y < P := by
 intro z hz
 unfold trn trK at hz
 obtain ⟨p,_,rfl⟩ := List.mem_map.mp hz
 split
 · exact mk_lt 1 (fun _ => alo ds x back (cf xs) p) _ (by simp [mk])
 · rcases Nat.lt_or_ge p xs.length with q | q
   · rw [show xs.getD p 0 = xs[p] by simp [List.getD,q]]; exact h _ (List.getElem_mem q)
   · rw [show xs.getD p 0 = 0 by simp [List.getD,List.getElem?_eq_none q]]; decide
section
variable {r : Fx} {w : World} {ga : Nat} {vd : Value} {c : Crw}
theorem exec_deal (h : Rn r w ga vd c) (hle : c.phase <= r.L.length) (hL9 : r.L.length <= 1000) (hW : 1 <= r.W) (hW8 : r.W <= 8) (hT9 : ∀ i,(r.L.getD i []).length <= 64) (hem : ∀ i,c.hands.getD i [] = []) :
   Calls Tryd.prog 88 #[.pointer (some ⟨r.g,0,none⟩)] w fun e w' => e = .returned (.tuple #[]) /\ Rn r w' ga vd (dealt r.L c) /\ But (RnO r ga vd) w w' := by
 unfold dealt
 by_cases he : r.L.length <= c.phase
 · rw [if_pos he]
   refine (exec_deal_done h (by omega)).mono ?_
   rintro e w' ⟨rfl,h',hb⟩
   exact ⟨rfl,h'.told c.left true,hb⟩
 · rw [if_neg he]
   refine (exec_deal_ok h (by omega) hL9 hW hW8 (hT9 _) hem).mono ?_
   rintro e w' ⟨rfl,h',hb⟩
   exact ⟨rfl,h'.told _ c.fin,hb⟩
def didC (r : Fx) (c : Crw) (x f l : Nat) : Crw := { c with A := trn r.ds c.A x f l r.back,did := c.did ++ [[(x : Int),(f : Int),(l : Int)]] }
def doneC (r : Fx) (c : Crw) (x f l : Nat) : Crw := if c.hands.flatten.length = 0 then dealt r.L { didC r c x f l with phase := c.phase + 1 } else didC r c x f l
set_option maxRecDepth 100000 in
set_option maxHeartbeats 8000000 in
theorem exec_do (h : Rn r w ga vd c) (x f l : Nat) (hTb : Tab w) (hG : Good r.zs r.ds) (hn : prd2 r.ds <= 1024) (hx : x < r.ds.length) (hfl : f < l) (hln : l <= nln r.ds x) (hx3 : r.ds.length <= 3) (hd9 : c.did.length <= 100000)
   (hlt : c.phase < r.L.length) (hL9 : r.L.length <= 1000) (hW : 1 <= r.W) (hW8 : r.W <= 8) (hT9 : ∀ i,(r.L.getD i []).length <= 64) :
   Calls Tryd.prog 91 #[.pointer (some ⟨r.g,0,none⟩),.agg #[.int .i64 (x : Int),.int .i64 (f : Int),.int .i64 (l : Int)]] w fun e w' => e = .returned (.tuple #[]) /\ ∃ ga' vd',Rn r w' ga' vd' (doneC r c x f l) /\ (∀ b,RnO r ga' vd' b -> RnO r ga vd b \/ w.heap.size <= b) /\ But (RnO r ga vd) w w' := by
 have hnl : nln r.ds x <= 1024 := by rw [<- nln_div hG.2.2.2 x hx]; exact Nat.le_trans (Nat.div_le_self _ _) hn
 have cDo : Hid (∀ W,Rn r W ga vd c -> Below w.heap.size w W -> Calls Tryd.prog 122 #[r.vs,.slice (some ⟨ga,0,none⟩) (prd2 r.ds) (prd2 r.ds),.agg #[.int .i64 (x : Int),.int .i64 (f : Int),.int .i64 (l : Int)],.bool r.back] W fun e w' => ∃ g,e = .returned (.tuple #[.slice (some ⟨g,0,none⟩) (prd2 r.ds) (prd2 r.ds),.int .i64 0]) /\ W.heap.size <= g /\ RowU w' g (trn r.ds c.A x f l r.back) /\ Below W.heap.size W w') := fun W hR hb => by
   have q := plan_Do_row W r.vs _ r.zs c.A r.ds x f l r.back hR.isZ (hR.isU hn) (hTb.below hb) hG hn hR.al hx hfl hln
   rw [nmL_same hR.lt] at q
   exact q
 have hAlt : Hid (∀ y ∈ trn r.ds c.A x f l r.back,y < P) := trn_below h.lt
 have hAl : Hid ((trn r.ds c.A x f l r.back).length = prd2 r.ds) := trK_length _ _ _ _ _ _ _
 have hT1 : Hid (T3 [[(x : Int),(f : Int),(l : Int)]]) := T3.one (by omega) (by omega) (by omega)
 obtain ⟨avs,nvs,cvs,hvs⟩ : ∃ a n c,r.vs = .slice a n c := by obtain ⟨a,c,e,-⟩ := h.isZ; exact ⟨_,_,_,e⟩
 have hb1 := below_alloc1 w (.cells #[.int .i64 (x : Int),.int .i64 (f : Int),.int .i64 (l : Int)] 71)
 have h1 := h.below hb1
 have hX1 := new_row w 71 [.int .i64 (x : Int),.int .i64 (f : Int),.int .i64 (l : Int)]
 change RowV 71 (w.alloc (.cells #[.int .i64 (x : Int),.int .i64 (f : Int),.int .i64 (l : Int)] 71)) w.heap.size [.int .i64 (x : Int),.int .i64 (f : Int),.int .i64 (l : Int)] at hX1
 have hold : ∀ b,RnO r ga vd b -> b < w.heap.size := fun b q => h.old b q
 have hBu1 : But (RnO r ga vd) w (w.alloc (.cells #[.int .i64 (x : Int),.int .i64 (f : Int),.int .i64 (l : Int)] 71)) := But.of_below hb1
 replace hb1 : Hid _ := hb1
 replace hG : Hid _ := hG
 replace hTb : Hid _ := hTb
 replace hT9 : Hid _ := hT9
 clear h hln hx hfl hn hnl
 go_enter Tryd.func91,Tryd.ntmps91
 go_wp2
 generalize w.alloc (.cells #[.int .i64 (x : Int),.int .i64 (f : Int),.int .i64 (l : Int)] 71) = w1 at *
 obtain ⟨B,hB⟩ : ∃ B,B = w.heap.size := ⟨_,rfl⟩
 rw [<- hB] at hX1 hold ⊢
 replace hB : Hid _ := hB
 have hd1 : Below w1.heap.size w1 w1.drew := below_drewN (Below.refl _ _) 1
 have f0 : Hid (∀ (w' : World) (ga' : Nat) (vd' : Value) (c' : Crw),Rn r w' ga' vd' c' -> w'.cell? ⟨r.g,0,none⟩ = some (.slice avs nvs cvs)) := fun w' ga' vd' c' h' => by rw [h'.f0,hvs]
 have hSd : (fun w' : World => w'.cell? ⟨r.g,0,none⟩ = some (.slice avs nvs cvs) /\ w'.cell? ⟨r.g,6,none⟩ = some (.bool r.back) /\ w'.cell? ⟨B,0,none⟩ = some (.int .i64 (x : Int)) /\ w'.cell? ⟨B,1,none⟩ = some (.int .i64 (f : Int)) /\ w'.cell? ⟨B,2,none⟩ = some (.int .i64 (l : Int))) w1.drew := ⟨f0.out _ _ _ _ (h1.below hd1),h1.f6,hX1.cell 0,hX1.cell 1,hX1.cell 2⟩
 have k1 : w1.drew.cell? ⟨r.g,1,none⟩ = some (.slice (some ⟨ga,0,none⟩) (prd2 r.ds) (prd2 r.ds)) := h1.f1
 refine wp_region_H (S := (fun w' : World => w'.cell? ⟨r.g,0,none⟩ = some (.slice avs nvs cvs) /\ w'.cell? ⟨r.g,6,none⟩ = some (.bool r.back) /\ w'.cell? ⟨B,0,none⟩ = some (.int .i64 (x : Int)) /\ w'.cell? ⟨B,1,none⟩ = some (.int .i64 (f : Int)) /\ w'.cell? ⟨B,2,none⟩ = some (.int .i64 (l : Int)))) (by kernel_rfl) ?_
 refine wpAnyH_take (i := 0) (v := ?va0) rfl (by kernel_rfl) (by kernel_rfl) (by kernel_rfl) (fun _ _ _ h => h) (Or.inl ⟨by rfl,?hya0⟩) hSd ?resta0
 case hya0 =>
   intro w hSw
   (try dsimp only at hSw)
   go_simp
   all_goals with_reducible rfl
 simp only [Act.put,List.getElem_toArray,List.getElem_cons_zero,List.setIfInBounds_toArray,List.set_cons_zero,List.set_cons_succ]
 refine wpAnyH_take (i := 1) (v := ?va1) rfl (by kernel_rfl) (by kernel_rfl) (by kernel_rfl) (fun _ _ _ h => h) (Or.inl ⟨by rfl,?hya1⟩) hSd ?resta1
 case hya1 =>
   intro w hSw
   (try dsimp only at hSw)
   go_simp
   all_goals with_reducible rfl
 simp only [Act.put,List.getElem_toArray,List.getElem_cons_succ,List.getElem_cons_zero,List.setIfInBounds_toArray,List.set_cons_zero,List.set_cons_succ]
 refine wpAnyH_take (i := 2) (v := ?va2) rfl (by kernel_rfl) (by kernel_rfl) (by kernel_rfl) (fun _ _ _ h => h) (Or.inl ⟨by rfl,?hya2⟩) hSd ?resta2
 case hya2 =>
   intro w hSw
   (try dsimp only at hSw)
   go_simp
   all_goals with_reducible rfl
 simp only [Act.put,List.getElem_toArray,List.getElem_cons_succ,List.getElem_cons_zero,List.setIfInBounds_toArray,List.set_cons_zero,List.set_cons_succ]
 refine wpAnyH_take (i := 3) (v := ?va3) rfl (by kernel_rfl) (by kernel_rfl) (by kernel_rfl) (fun _ _ _ h => h) (Or.inl ⟨by rfl,?hya3⟩) hSd ?resta3
 case hya3 =>
   intro w hSw
   (try dsimp only at hSw)
   go_simp
   all_goals with_reducible rfl
 simp only [Act.put,List.getElem_toArray,List.getElem_cons_succ,List.getElem_cons_zero,List.setIfInBounds_toArray,List.set_cons_zero,List.set_cons_succ]
 refine wpAnyH_take (i := 4) (v := ?va4) rfl (by kernel_rfl) (by kernel_rfl) (by kernel_rfl) (fun _ _ _ h => h) (Or.inl ⟨by rfl,?hya4⟩) hSd ?resta4
 case hya4 =>
   intro w hSw
   (try dsimp only at hSw)
   go_simp
   all_goals with_reducible rfl
 simp only [Act.put,List.getElem_toArray,List.getElem_cons_succ,List.getElem_cons_zero,List.setIfInBounds_toArray,List.set_cons_zero,List.set_cons_succ]
 refine wpAnyH_take (i := 5) (v := ?va5) rfl (by kernel_rfl) (by kernel_rfl) (by kernel_rfl) (fun _ _ _ h => h) (Or.inl ⟨by rfl,?hya5⟩) hSd ?resta5
 case hya5 =>
   intro w hSw
   (try dsimp only at hSw)
   go_simp
   all_goals with_reducible rfl
 simp only [Act.put,List.getElem_toArray,List.getElem_cons_succ,List.getElem_cons_zero,List.setIfInBounds_toArray,List.set_cons_zero,List.set_cons_succ]
 refine wpAnyH_take (i := 6) (v := ?va6) rfl (by kernel_rfl) (by kernel_rfl) (by kernel_rfl) (fun _ _ _ h => h) (Or.inl ⟨by rfl,?hya6⟩) hSd ?resta6
 case hya6 =>
   intro w hSw
   (try dsimp only at hSw)
   go_simp
   all_goals with_reducible rfl
 simp only [Act.put,List.getElem_toArray,List.getElem_cons_succ,List.getElem_cons_zero,List.setIfInBounds_toArray,List.set_cons_zero,List.set_cons_succ]
 refine wpAnyH_take (i := 7) (v := ?va7) rfl (by kernel_rfl) (by kernel_rfl) (by kernel_rfl) (fun _ _ _ h => h) (Or.inl ⟨by rfl,?hya7⟩) hSd ?resta7
 case hya7 =>
   intro w hSw
   (try dsimp only at hSw)
   go_simp
   all_goals with_reducible rfl
 simp only [Act.put,List.getElem_toArray,List.getElem_cons_succ,List.getElem_cons_zero,List.setIfInBounds_toArray,List.set_cons_zero,List.set_cons_succ]
 refine wpAnyH_take (i := 9) (v := ?va9) rfl (by kernel_rfl) (by kernel_rfl) (by kernel_rfl) (fun _ _ _ h => h) (Or.inl ⟨by rfl,?hya9⟩) hSd ?resta9
 case hya9 =>
   intro w hSw
   (try dsimp only at hSw)
   go_simp
   all_goals with_reducible rfl
 simp only [Act.put,List.getElem_toArray,List.getElem_cons_succ,List.getElem_cons_zero,List.setIfInBounds_toArray,List.set_cons_zero,List.set_cons_succ]
 refine wpAnyH_take (i := 10) (v := ?va10) rfl (by kernel_rfl) (by kernel_rfl) (by kernel_rfl) (fun _ _ _ h => h) (Or.inl ⟨by rfl,?hya10⟩) hSd ?resta10
 case hya10 =>
   intro w hSw
   (try dsimp only at hSw)
   go_simp
   all_goals with_reducible rfl
 simp only [Act.put,List.getElem_toArray,List.getElem_cons_succ,List.getElem_cons_zero,List.setIfInBounds_toArray,List.set_cons_zero,List.set_cons_succ]
 refine wpAnyH_take (i := 11) (v := ?va11) rfl (by kernel_rfl) (by kernel_rfl) (by kernel_rfl) (fun _ _ _ h => h) (Or.inl ⟨by rfl,?hya11⟩) hSd ?resta11
 case hya11 =>
   intro w hSw
   (try dsimp only at hSw)
   go_simp
   all_goals with_reducible rfl
 simp only [Act.put,List.getElem_toArray,List.getElem_cons_succ,List.getElem_cons_zero,List.setIfInBounds_toArray,List.set_cons_zero,List.set_cons_succ]
 refine wpAnyH_take (i := 12) (v := ?va12) rfl (by kernel_rfl) (by kernel_rfl) (by kernel_rfl) (fun _ _ _ h => h) (Or.inl ⟨by rfl,?hya12⟩) hSd ?resta12
 case hya12 =>
   intro w hSw
   (try dsimp only at hSw)
   go_simp
   all_goals with_reducible rfl
 simp only [Act.put,List.getElem_toArray,List.getElem_cons_succ,List.getElem_cons_zero,List.setIfInBounds_toArray,List.set_cons_zero,List.set_cons_succ]
 refine wpAnyH_take (i := 13) (v := ?va13) rfl (by kernel_rfl) (by kernel_rfl) (by kernel_rfl) (fun _ _ _ h => h) (Or.inl ⟨by rfl,?hya13⟩) hSd ?resta13
 case hya13 =>
   intro w hSw
   (try dsimp only at hSw)
   go_simp
   all_goals with_reducible rfl
 simp only [Act.put,List.getElem_toArray,List.getElem_cons_succ,List.getElem_cons_zero,List.setIfInBounds_toArray,List.set_cons_zero,List.set_cons_succ]
 refine wpAnyH_one (i := 8) rfl (by kernel_rfl) (fun K hK => ?_)
 simp only [List.getElem_toArray,List.getElem_cons_succ,List.getElem_cons_zero]
 go_simp
 refine hK.out _ _ hSd ?_
 clear hK K k1
 refine wpAnyH_one (i := 14) rfl (by kernel_rfl) (fun K hK => ?_)
 simp only [List.getElem_toArray,List.getElem_cons_succ,List.getElem_cons_zero]
 go_simp
 rw [<- hvs]
 refine Calls.mono (cDo.out w1.drew (h1.below hd1) (by have := hb1.out; exact ⟨this.os,this.tape,this.output,this.size,this.block⟩)) ?_
 rintro e w2 ⟨g2,rfl,hg2,hrow2,hb2⟩
 rw [hvs]
 have hs1 := hBu1.size
 have h2 := (h1.below hd1).below hb2
 have hX2 := (hX1.below hd1).below hb2
 have hBu2 := (hBu1.andBelow hd1).andBelow hb2
 obtain ⟨h3,hO3⟩ := (h1.below hd1).array hb2 g2 _ hg2 hAlt.out hAl.out hrow2
 have hgB : r.g ≠ B := fun e => by have := hold r.g (.inl rfl); omega
 have hX3 := hX2.aside (b := r.g) (i := 1) (.slice (some ⟨g2,0,none⟩) (prd2 r.ds) (prd2 r.ds)) (Ne.symm hgB)
 have hBu3 := hBu2.set r.g 1 (.slice (some ⟨g2,0,none⟩) (prd2 r.ds) (prd2 r.ds)) (.inl rfl)
 have hSd : (fun w' : World => w'.cell? ⟨r.g,0,none⟩ = some (.slice avs nvs cvs) /\ w'.cell? ⟨r.g,6,none⟩ = some (.bool r.back) /\ w'.cell? ⟨B,0,none⟩ = some (.int .i64 (x : Int)) /\ w'.cell? ⟨B,1,none⟩ = some (.int .i64 (f : Int)) /\ w'.cell? ⟨B,2,none⟩ = some (.int .i64 (l : Int))) w2 := ⟨f0.out _ _ _ _ h2,h2.f6,hX2.cell 0,hX2.cell 1,hX2.cell 2⟩
 have hSd3 : (fun w' : World => w'.cell? ⟨r.g,0,none⟩ = some (.slice avs nvs cvs) /\ w'.cell? ⟨r.g,6,none⟩ = some (.bool r.back) /\ w'.cell? ⟨B,0,none⟩ = some (.int .i64 (x : Int)) /\ w'.cell? ⟨B,1,none⟩ = some (.int .i64 (f : Int)) /\ w'.cell? ⟨B,2,none⟩ = some (.int .i64 (l : Int))) (w2.setCell ⟨r.g,1,none⟩ (.slice (some ⟨g2,0,none⟩) (prd2 r.ds) (prd2 r.ds))) := ⟨f0.out _ _ _ _ h3,h3.f6,hX3.cell 0,hX3.cell 1,hX3.cell 2⟩
 have k1 := h2.f1
 have z1 := h2.frozen 1
 replace hO3 : Hid (∀ b,RnO r g2 vd b -> RnO r ga vd b \/ w.heap.size <= b) := fun b q => (hO3 b q).imp id fun q => Nat.le_trans hs1 q
 refine hK.out _ _ hSd ?_
 clear hK K cDo h1 hX1 hBu1 hd1 hg2 hrow2 hb2 h2 hX2 hBu2 hs1
 refine wpAnyH_take (i := 15) (v := ?vb15) rfl (by kernel_rfl) (by kernel_rfl) (by kernel_rfl) (fun _ _ _ h => h) (Or.inl ⟨by rfl,?hyb15⟩) hSd ?restb15
 case hyb15 =>
   intro w hSw
   (try dsimp only at hSw)
   go_simp
   all_goals with_reducible rfl
 simp only [Act.put,List.getElem_toArray,List.getElem_cons_succ,List.getElem_cons_zero,List.setIfInBounds_toArray,List.set_cons_zero,List.set_cons_succ]
 refine wpAnyH_take (i := 16) (v := ?vb16) rfl (by kernel_rfl) (by kernel_rfl) (by kernel_rfl) (fun _ _ _ h => h) (Or.inl ⟨by rfl,?hyb16⟩) hSd ?restb16
 case hyb16 =>
   intro w hSw
   (try dsimp only at hSw)
   go_simp
   all_goals with_reducible rfl
 simp only [Act.put,List.getElem_toArray,List.getElem_cons_succ,List.getElem_cons_zero,List.setIfInBounds_toArray,List.set_cons_zero,List.set_cons_succ]
 refine wpAnyH_take (i := 17) (v := ?vb17) rfl (by kernel_rfl) (by kernel_rfl) (by kernel_rfl) (fun _ _ _ h => h) (Or.inl ⟨by rfl,?hyb17⟩) hSd ?restb17
 case hyb17 =>
   intro w hSw
   (try dsimp only at hSw)
   go_simp
   all_goals with_reducible rfl
 simp only [Act.put,List.getElem_toArray,List.getElem_cons_succ,List.getElem_cons_zero,List.setIfInBounds_toArray,List.set_cons_zero,List.set_cons_succ]
 refine wpAnyH_take (i := 18) (v := ?vb18) rfl (by kernel_rfl) (by kernel_rfl) (by kernel_rfl) (fun _ _ _ h => h) (Or.inl ⟨by rfl,?hyb18⟩) hSd ?restb18
 case hyb18 =>
   intro w hSw
   (try dsimp only at hSw)
   go_simp
   all_goals with_reducible rfl
 simp only [Act.put,List.getElem_toArray,List.getElem_cons_succ,List.getElem_cons_zero,List.setIfInBounds_toArray,List.set_cons_zero,List.set_cons_succ]
 refine wpAnyH_take (i := 19) (v := ?vb19) rfl (by kernel_rfl) (by kernel_rfl) (by kernel_rfl) (fun _ _ _ h => h) (Or.inl ⟨by rfl,?hyb19⟩) hSd ?restb19
 case hyb19 =>
   intro w hSw
   (try dsimp only at hSw)
   go_simp
   all_goals with_reducible rfl
 simp only [Act.put,List.getElem_toArray,List.getElem_cons_succ,List.getElem_cons_zero,List.setIfInBounds_toArray,List.set_cons_zero,List.set_cons_succ]
 refine wpAnyH_one (i := 20) rfl (by kernel_rfl) (fun K hK => ?_)
 simp only [List.getElem_toArray,List.getElem_cons_succ,List.getElem_cons_zero]
 go_simp
 refine hK.out _ _ hSd3 (wpAnyH_done (by kernel_rfl) ?_ _)
 clear hK K hSd hSd3 k1 z1
 generalize w2.setCell ⟨r.g,1,none⟩ (.slice (some ⟨g2,0,none⟩) (prd2 r.ds) (prd2 r.ds)) = w3 at *
 go_wp2
 have hown3 := h3.did
 obtain ⟨nd,hnd⟩ : ∃ nd,nd = c.did.length := ⟨_,rfl⟩
 have hnd9 : nd <= 1000000 := by omega
 have hvd : ∃ ad n cd,vd = .slice ad n cd := by
   rcases hown3.2 with ⟨e,-⟩ | ⟨_,_,_,e,-⟩
   · exact ⟨_,_,_,e⟩
   · exact ⟨_,_,_,e⟩
 obtain ⟨avd,nvd,cvd,hvde⟩ := hvd
 have hSe : (fun w' : World => w'.cell? ⟨r.g,5,none⟩ = some (.slice avd nvd cvd) /\ w'.cell? ⟨B,0,none⟩ = some (.int .i64 (x : Int)) /\ w'.cell? ⟨B,1,none⟩ = some (.int .i64 (f : Int)) /\ w'.cell? ⟨B,2,none⟩ = some (.int .i64 (l : Int))) w3.drew := ⟨by rw [<- hvde]; exact h3.f5,hX3.cell 0,hX3.cell 1,hX3.cell 2⟩
 refine wp_region_L (S := (fun w' : World => w'.cell? ⟨r.g,5,none⟩ = some (.slice avd nvd cvd) /\ w'.cell? ⟨B,0,none⟩ = some (.int .i64 (x : Int)) /\ w'.cell? ⟨B,1,none⟩ = some (.int .i64 (f : Int)) /\ w'.cell? ⟨B,2,none⟩ = some (.int .i64 (l : Int)))) (s := 10) (by kernel_rfl) ?_
 refine tkL (i := 0) (v := ?vc0) rfl rfl (Or.inl ⟨by rfl,?hyc0⟩) hSe ?restc0
 case hyc0 =>
   intro w hSw
   (try dsimp only at hSw)
   go_simp
   all_goals with_reducible rfl
 simp only [Act.put,List.getElem_toArray,List.getElem_cons_zero,List.setIfInBounds_toArray,List.set_cons_zero,List.set_cons_succ]
 refine tkL (i := 1) (v := ?vc1) rfl rfl (Or.inl ⟨by rfl,?hyc1⟩) hSe ?restc1
 case hyc1 =>
   intro w hSw
   (try dsimp only at hSw)
   go_simp
   all_goals with_reducible rfl
 simp only [Act.put,List.getElem_toArray,List.getElem_cons_succ,List.getElem_cons_zero,List.setIfInBounds_toArray,List.set_cons_zero,List.set_cons_succ]
 refine tkL (i := 2) (v := ?vc2) rfl rfl (Or.inl ⟨by rfl,?hyc2⟩) hSe ?restc2
 case hyc2 =>
   intro w hSw
   (try dsimp only at hSw)
   go_simp
   all_goals with_reducible rfl
 simp only [Act.put,List.getElem_toArray,List.getElem_cons_succ,List.getElem_cons_zero,List.setIfInBounds_toArray,List.set_cons_zero,List.set_cons_succ]
 refine tkL (i := 3) (v := ?vc3) rfl rfl (Or.inl ⟨by rfl,?hyc3⟩) hSe ?restc3
 case hyc3 =>
   intro w hSw
   (try dsimp only at hSw)
   go_simp
   all_goals with_reducible rfl
 simp only [Act.put,List.getElem_toArray,List.getElem_cons_succ,List.getElem_cons_zero,List.setIfInBounds_toArray,List.set_cons_zero,List.set_cons_succ]
 refine tkL (i := 4) (v := ?vc4) rfl rfl (Or.inl ⟨by rfl,?hyc4⟩) hSe ?restc4
 case hyc4 =>
   intro w hSw
   (try dsimp only at hSw)
   go_simp
   all_goals with_reducible rfl
 simp only [Act.put,List.getElem_toArray,List.getElem_cons_succ,List.getElem_cons_zero,List.setIfInBounds_toArray,List.set_cons_zero,List.set_cons_succ]
 refine tkL (i := 5) (v := ?vc5) rfl rfl (Or.inl ⟨by rfl,?hyc5⟩) hSe ?restc5
 case hyc5 =>
   intro w hSw
   (try dsimp only at hSw)
   go_simp
   all_goals with_reducible rfl
 simp only [Act.put,List.getElem_toArray,List.getElem_cons_succ,List.getElem_cons_zero,List.setIfInBounds_toArray,List.set_cons_zero,List.set_cons_succ]
 have hd3 : Below w3.heap.size w3 w3.drew := below_drewN (Below.refl _ _) 1
 have h4 := h3.below hd3
 have hX4 := hX3.below hd3
 have hBu4 := hBu3.andBelow hd3
 have hs4 : w.heap.size <= w3.drew.heap.size := hBu4.size
 clear h3 hX3 hBu3 hd3 hown3
 generalize w3.drew = w4 at *
 have hX5 := hX4.below (below_alloc1 w4 (.cells #[.int .i64 (x : Int),.int .i64 (f : Int),.int .i64 (l : Int)] 71))
 have h5 := h4.below (below_alloc1 w4 (.cells #[.int .i64 (x : Int),.int .i64 (f : Int),.int .i64 (l : Int)] 71))
 refine wpAnyL_one (i := 6) rfl (by kernel_rfl) (fun K hK => ?_)
 simp only [List.getElem_toArray,List.getElem_cons_succ,List.getElem_cons_zero]
 go_simp
 refine hK.out _ _ (fun _ => ⟨by rw [<- hvde]; exact h5.f5,hX5.cell 0,hX5.cell 1,hX5.cell 2⟩) ?_
 clear hK K hX5 h5
 refine wpAnyL_one (i := 7) rfl (by kernel_rfl) (fun K hK => ?_)
 refine step_appendQ (B := 0) (w := w4) rfl (.tmp 28) (.tmp 30) rfl vd c.did.length (tc c.did) (x : Int) (f : Int) (l : Int) hvde.symm rfl h4.did (by omega) (Nat.zero_le _) ?_
 intro g5 c5 w5 hown5 hgr5 hat5
 have hk5 : ∀ b,b < w4.heap.size -> vd.ownBlock ≠ some b -> w5.heap[b]? = w4.heap[b]? := fun b hb hne => (hgr5.out.block b (by simp; omega) (fun e => hne e.symm)).trans (Below.heap_alloc _ _ _ hb)
 have hs5 : w4.heap.size <= w5.heap.size := by have := hgr5.out.size; simp at this; omega
 have hlen5 : (c.did ++ [[(x : Int),(f : Int),(l : Int)]]).length = c.did.length + 1 := by simp
 obtain ⟨h6,hO6⟩ := h4.log (.slice (some ⟨g5,0,none⟩) (c.did.length + 1) c5) (c.did ++ [[(x : Int),(f : Int),(l : Int)]]) (T3.append h4.d3 hT1.out) (by rw [hlen5,tc_append]; exact hown5) hk5 hs5 (fun b e => by simp only [Value.ownBlock,Option.some.injEq] at e; subst e; exact hat5.out)
 have hBu5 : But (RnO r ga vd) w w5 := hBu4.trans (O' := fun b => vd.ownBlock = some b) (But.of_grown hgr5.out fun b e => e) fun b e => .inl (.inr (.inr (.inr (.inl e))))
 have hBu6 := hBu5.set r.g 5 (.slice (some ⟨g5,0,none⟩) (c.did.length + 1) c5) (.inl rfl)
 have hvdB : vd.ownBlock ≠ some B := fun e => by have := hold B (.inr (.inr (.inr (.inl e)))); omega
 have hX5 := hX4.block (hk5 B hX4.lt hvdB)
 have hg5 := h4.blk.block (hk5 r.g h4.blk.lt fun e => (h4.vdo _ e).1 rfl)
 have k5 : w5.cell? ⟨r.g,5,none⟩ = some vd := hg5.cell 5
 have z5 := hg5.frozen 5
 replace hO6 : Hid (∀ b,RnO r g2 (.slice (some ⟨g5,0,none⟩) (c.did.length + 1) c5) b -> RnO r ga vd b \/ w.heap.size <= b) := fun b q => by
   rcases hO6 b q with q | q
   · exact hO3.out b q
   · exact .inr (by omega)
 rw [hvde] at k5
 have hSf : (fun w' : World => w'.cell? ⟨r.g,5,none⟩ = some (.slice avd nvd cvd) /\ w'.cell? ⟨B,0,none⟩ = some (.int .i64 (x : Int)) /\ w'.cell? ⟨B,1,none⟩ = some (.int .i64 (f : Int)) /\ w'.cell? ⟨B,2,none⟩ = some (.int .i64 (l : Int))) w5 := ⟨k5,hX5.cell 0,hX5.cell 1,hX5.cell 2⟩
 refine hK.out _ _ (fun _ => hSf) ?_
 clear hK K h4 hX4 hBu4 hBu5 hgr5 hat5 hown5 hk5 hs5 hX5 hg5 hO3 hSe
 refine wpAnyL_one (i := 8) rfl (by kernel_rfl) (fun K hK => ?_)
 simp only [List.getElem_toArray,List.getElem_cons_succ,List.getElem_cons_zero]
 go_simp
 refine hK.out _ _ (fun _ => hSf) ?_
 clear hK K
 refine wpAnyL_one (i := 9) rfl (by kernel_rfl) (fun K hK => ?_)
 simp only [List.getElem_toArray,List.getElem_cons_succ,List.getElem_cons_zero]
 go_simp
 refine hK.out _ _ (fun _ => hSf) ?_
 clear hK K
 refine wpAnyL_one (i := 10) rfl (by kernel_rfl) (fun K hK => ?_)
 simp only [List.getElem_toArray,List.getElem_cons_succ,List.getElem_cons_zero]
 go_simp
 refine hK.out _ _ (fun h => absurd rfl h) (wpAnyL_done (by kernel_rfl) ?_ _)
 clear hK K k5 z5 hSf
 generalize w5.setCell ⟨r.g,5,none⟩ (.slice (some ⟨g5,0,none⟩) (c.did.length + 1) c5) = w6 at *
 generalize (Value.slice (some ⟨g5,0,none⟩) (c.did.length + 1) c5) = vd2 at *
 have cW := exec_waiting h6 hW8
 have hb9 : Hid (∀ b,RnO r g2 vd2 b -> RnO r ga vd b \/ w.heap.size <= b) := hO6
 have hTr : Hid _ := h6
 by_cases he : c.hands.flatten.length = 0
 · have hdn : doneC r c x f l = dealt r.L { didC r c x f l with phase := c.phase + 1 } := by unfold doneC; rw [if_pos he]
   replace hdn : Hid _ := hdn
   have hflat : c.hands.flatten = [] := List.eq_nil_of_length_eq_zero he
   have hem : ∀ i,c.hands.getD i [] = [] := fun i => by
     rcases hc : c.hands.getD i [] with _ | ⟨t,m⟩
     · rfl
     · have := flat_mem c.hands i t (by rw [hc]; simp)
       rw [hflat] at this; cases this
   have k3 := h6.f3
   have z3 := h6.frozen 3
   have h7 := h6.phased (c.phase + 1)
   have cE := exec_deal h7 hlt hL9 hW hW8 hT9.out hem
   have hBu7 := hBu6.set r.g 3 (.int .i64 ((c.phase + 1 : Nat) : Int)) (.inl rfl)
   rw [he] at cW
   have hph9 : c.phase <= 1000 := by omega
   have hpw : wrap64 ((c.phase : Int) + 1) = ((c.phase + 1 : Nat) : Int) := by unfold wrap64; omega
   clear hflat hem h7 h6 hT9
   go_wp2_with (first
     | (go_at_call 135; refine Calls.mono cW ?_; rintro e w' ⟨rfl,hw⟩; rw [hw]; clear hw cW)
     | (go_at_call 88; refine Calls.mono cE ?_; rintro e w8 ⟨rfl,h8,hb8⟩; clear cE))
   go_end0
   exact ⟨rfl,g2,vd2,by rw [hdn.out]; exact h8,hb9.out,hBu7.trans hb8 hb9.out⟩
 · have hdn : doneC r c x f l = didC r c x f l := by unfold doneC; rw [if_neg he]
   replace hdn : Hid _ := hdn
   have hq : (((c.hands.flatten.length : Nat) : Int) == 0) = false := by rw [beq_eq_false_iff_ne]; omega
   generalize c.hands.flatten.length = n at *
   clear h6 hT9
   go_wp2_with (go_at_call 135; refine Calls.mono cW ?_; rintro e w' ⟨rfl,hw⟩; rw [hw]; clear hw cW)
   go_end0
   exact ⟨rfl,g2,vd2,by rw [hdn.out]; exact hTr.out,hb9.out,hBu6⟩
end
section
variable {r : Fx} {w : World} {ga : Nat} {vd : Value} {c : Crw}
theorem exec_Step_done (h : Rn r w ga vd c) (pv pu : Int) (he : c.phase = r.L.length) :
   Calls Tryd.prog 42 #[.pointer (some ⟨r.g,0,none⟩),.agg #[.int .i64 pv,.int .i64 pu]] w fun e w' => e = .returned (.int .i64 6) /\ Below w.heap.size w w' := by
 have cD := fun (W : World) (hb : Below w.heap.size w W) => exec_Done (h.below hb)
 rw [decide_eq_true he] at cD
 clear h
 go_enter Tryd.func42,Tryd.ntmps42
 go_wp2_with (go_at_call 44; refine Calls.mono (cD _ (below_alloc1 _ _)) ?_; rintro e w1 ⟨rfl,hb⟩)
 go_ret
 exact ⟨rfl,below_alloc hb⟩
theorem box_pick {w w' : World} {a b : Int} (hb : Below (w.alloc (.cells #[.int .i64 a,.int .i64 b] 82)).heap.size (w.alloc (.cells #[.int .i64 a,.int .i64 b] 82)) w') :
   w'.cell? ⟨w.heap.size,0,none⟩ = some (.int .i64 a) /\ w'.cell? ⟨w.heap.size,1,none⟩ = some (.int .i64 b) := by
 have q := RowV.below (new_row w 82 [.int .i64 a,.int .i64 b]) hb
 exact ⟨q.cell 0,q.cell 1⟩
theorem exec_Step_arg (h : Rn r w ga vd c) (pv pu : Int) (hlt : c.phase < r.L.length) (hn : ¬ (0 <= pv /\ pv < (r.W : Int) /\ 0 <= pu /\ pu < (r.W : Int))) :
   Calls Tryd.prog 42 #[.pointer (some ⟨r.g,0,none⟩),.agg #[.int .i64 pv,.int .i64 pu]] w fun e w' => e = .returned (.int .i64 1) /\ Below w.heap.size w w' := by
 have cD := fun (W : World) (hb : Below w.heap.size w W) => exec_Done (h.below hb)
 rw [decide_eq_false (by omega)] at cD
 have c1 := fun (W : World) (hb : Below w.heap.size w W) => exec_hasWorker (h.below hb) pv
 have c2 := fun (W : World) (hb : Below w.heap.size w W) => exec_hasWorker (h.below hb) pu
 clear h
 by_cases h1 : 0 <= pv /\ pv < (r.W : Int)
 · rw [decide_eq_true h1] at c1
   rw [decide_eq_false (fun q => hn ⟨h1.1,h1.2,q.1,q.2⟩)] at c2
   have tk : True := trivial
   clear h1 hn
   go_enter Tryd.func42,Tryd.ntmps42
   go_wp2_with (first
     | (go_at_call 44; refine Calls.mono (cD _ (below_alloc1 _ _)) ?_; rintro e w1 ⟨rfl,hb⟩; clear cD; obtain ⟨x0,x1⟩ := box_pick hb; have hb1 := below_alloc hb; clear hb)
     | (go_at_call 89; have _t := tk; refine Calls.mono (c1 _ hb1) ?_; rintro e w2 ⟨rfl,hw⟩; rw [hw]; clear hw c1 tk)
     | (go_at_call 89; refine Calls.mono (c2 _ hb1) ?_; rintro e w3 ⟨rfl,hw⟩; rw [hw]; clear hw c2))
   go_ret
   exact ⟨rfl,hb1⟩
 · rw [decide_eq_false h1] at c1
   clear h1 hn c2
   go_enter Tryd.func42,Tryd.ntmps42
   go_wp2_with (first
     | (go_at_call 44; refine Calls.mono (cD _ (below_alloc1 _ _)) ?_; rintro e w1 ⟨rfl,hb⟩; clear cD; obtain ⟨x0,x1⟩ := box_pick hb; have hb1 := below_alloc hb; clear hb)
     | (go_at_call 89; refine Calls.mono (c1 _ hb1) ?_; rintro e w2 ⟨rfl,hw⟩; rw [hw]; clear hw c1))
   go_ret
   exact ⟨rfl,hb1⟩
set_option maxHeartbeats 2000000 in
theorem exec_Step_go (h : Rn r w ga vd c) (v u : Nat) (hv : v < r.W) (hu : u < r.W) (hlt : c.phase < r.L.length) (ta tb tcc : Int) (f : Bool) (c2 c3 : Crw)
   (cT : ∀ W,Rn r W ga vd c -> Calls Tryd.prog 90 #[.pointer (some ⟨r.g,0,none⟩),.agg #[.int .i64 (v : Int),.int .i64 (u : Int)]] W fun e w' => e = .returned (.tuple #[.agg #[.int .i64 ta,.int .i64 tb,.int .i64 tcc],.bool f]) /\ Rn r w' ga vd c2 /\ But (RnO r ga vd) W w')
   (cO : f = true -> ∀ W,Rn r W ga vd c2 -> But (RnO r ga vd) w W -> Calls Tryd.prog 91 #[.pointer (some ⟨r.g,0,none⟩),.agg #[.int .i64 ta,.int .i64 tb,.int .i64 tcc]] W fun e w' => e = .returned (.tuple #[]) /\ ∃ ga' vd',Rn r w' ga' vd' c3 /\ (∀ b,RnO r ga' vd' b -> RnO r ga vd b \/ W.heap.size <= b) /\ But (RnO r ga vd) W w')
   (hf : f = false -> c3 = c2) :
   Calls Tryd.prog 42 #[.pointer (some ⟨r.g,0,none⟩),.agg #[.int .i64 (v : Int),.int .i64 (u : Int)]] w fun e w' => e = .returned (.int .i64 0) /\ ∃ ga' vd',Rn r w' ga' vd' c3 /\ (∀ b,RnO r ga' vd' b -> RnO r ga vd b \/ w.heap.size <= b) /\ But (RnO r ga vd) w w' := by
 have cD := fun (W : World) (hb : Below w.heap.size w W) => exec_Done (h.below hb)
 rw [decide_eq_false (by omega)] at cD
 have c1 := fun (W : World) (hb : Below w.heap.size w W) => exec_hasWorker (h.below hb) (v : Int)
 have c4 := fun (W : World) (hb : Below w.heap.size w W) => exec_hasWorker (h.below hb) (u : Int)
 rw [decide_eq_true (by omega)] at c1 c4
 have cT2 : Hid (∀ W,Below w.heap.size w W -> Calls Tryd.prog 90 #[.pointer (some ⟨r.g,0,none⟩),.agg #[.int .i64 (v : Int),.int .i64 (u : Int)]] W fun e w' => e = .returned (.tuple #[.agg #[.int .i64 ta,.int .i64 tb,.int .i64 tcc],.bool f]) /\ Rn r w' ga vd c2 /\ But (RnO r ga vd) w w') := fun W hb => (cT W (h.below hb)).mono fun e w' q => ⟨q.1,q.2.1,(But.of_below hb).trans q.2.2 fun _ q => .inl q⟩
 have hold : Hid (∀ b,RnO r ga vd b -> b < w.heap.size) := h.old
 clear h cT
 have tk : True := trivial
 cases f with
 | true =>
   have cO2 : Hid _ := cO rfl
   clear cO hf
   go_enter Tryd.func42,Tryd.ntmps42
   go_wp2_with (first
     | (go_at_call 44; refine Calls.mono (cD _ (below_alloc1 _ _)) ?_; rintro e w1 ⟨rfl,hb⟩; clear cD; obtain ⟨x0,x1⟩ := box_pick hb; have hb1 := below_alloc hb; clear hb)
     | (go_at_call 89; have _t := tk; refine Calls.mono (c1 _ hb1) ?_; rintro e w2 ⟨rfl,hw⟩; rw [hw]; clear hw c1 tk)
     | (go_at_call 89; refine Calls.mono (c4 _ hb1) ?_; rintro e w3 ⟨rfl,hw⟩; rw [hw]; clear hw c4)
     | (go_at_call 90; refine Calls.mono (cT2.out _ hb1) ?_; rintro e w4 ⟨rfl,h4,hb4⟩; clear cT2; have h5 := h4.below (below_alloc1 w4 (.cells #[.int .i64 ta,.int .i64 tb,.int .i64 tcc] 71)); have hb5 := hb4.andBelow (below_alloc1 w4 (.cells #[.int .i64 ta,.int .i64 tb,.int .i64 tcc] 71)))
     | (go_at_call 91; refine Calls.mono (cO2.out _ h5 hb5) ?_; rintro e w6 ⟨rfl,ga6,vd6,h6,hO6,hb6⟩; clear cO2; have hs5 := hb5.size))
   go_ret
   exact ⟨rfl,ga6,vd6,h6,fun b q => (hO6 b q).imp id fun q => Nat.le_trans hs5 q,hb5.trans hb6 fun _ q => .inl q⟩
 | false =>
   have hf2 : Hid _ := hf rfl
   clear cO hf
   go_enter Tryd.func42,Tryd.ntmps42
   go_wp2_with (first
     | (go_at_call 44; refine Calls.mono (cD _ (below_alloc1 _ _)) ?_; rintro e w1 ⟨rfl,hb⟩; clear cD; obtain ⟨x0,x1⟩ := box_pick hb; have hb1 := below_alloc hb; clear hb)
     | (go_at_call 89; have _t := tk; refine Calls.mono (c1 _ hb1) ?_; rintro e w2 ⟨rfl,hw⟩; rw [hw]; clear hw c1 tk)
     | (go_at_call 89; refine Calls.mono (c4 _ hb1) ?_; rintro e w3 ⟨rfl,hw⟩; rw [hw]; clear hw c4)
     | (go_at_call 90; refine Calls.mono (cT2.out _ hb1) ?_; rintro e w4 ⟨rfl,h4,hb4⟩; clear cT2; have h5 := h4.below (below_alloc1 w4 (.cells #[.int .i64 ta,.int .i64 tb,.int .i64 tcc] 71)); have hb5 := hb4.andBelow (below_alloc1 w4 (.cells #[.int .i64 ta,.int .i64 tb,.int .i64 tcc] 71))))
   go_ret
   exact ⟨rfl,ga,vd,by rw [hf2.out]; exact h5,fun b q => .inl q,hb5⟩
end
end Go.Proofs.YtckoipoejaafhaaDoor
