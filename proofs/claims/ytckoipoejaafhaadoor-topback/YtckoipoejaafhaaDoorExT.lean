/-
 What take of package exec answers: the task that a worker does next: its own last one,or the first of the victim's,or none.
-/
import Derived.Test.YtckoipoejaafhaaDoorExWAll
import Derived.Test.YtckoipoejaafhaaDoorCcWtAll
namespace Go.Proofs.YtckoipoejaafhaaDoor
open Go.RowKit
set_option maxRecDepth 100000
open List (getElem_toArray getElem_cons_succ getElem_cons_zero setIfInBounds_toArray set_cons_zero set_cons_succ)
theorem Dq.own {w : World} {b : Nat} {r : Nat} {m : List (List Int)} {O : Nat -> Prop} (h : Dq w (.pointer (some ⟨b,0,none⟩)) r m O) : Dq w (.pointer (some ⟨b,0,none⟩)) r m (fun k => k = b) := by
 obtain ⟨g,f,cs,hp,hO,hrow,hR⟩ := h
 simp only [Value.pointer.injEq,Option.some.injEq,Addr.mk.injEq,and_true] at hp
 subst hp
 exact ⟨b,f,cs,rfl,fun k => Iff.rfl,hrow,hR⟩
theorem set_same {α : Type} (H : List (List α)) (v : Nat) {m : List α} (h : H.getD v [] = m) : H.set v m = H := by
 apply List.ext_getElem?
 intro i
 by_cases e : v = i
 · subst e
   rcases Nat.lt_or_ge v H.length with q | q
   · rw [List.getElem?_set_self q,<- h]; simp [List.getD,List.getElem?_eq_getElem q]
   · rw [List.getElem?_eq_none (by rw [List.length_set]; exact q),List.getElem?_eq_none q]
 · rw [List.getElem?_set_ne e]
section
variable {r : Fx} {w : World} {ga : Nat} {vd : Value} {c : Crw}
theorem Rn.aside (h : Rn r w ga vd c) (b i : Nat) (u : Value) (hb : ¬ RnO r ga vd b) : Rn r (w.setCell ⟨b,i,none⟩ u) ga vd c :=
 h.kept (fun k q => Below.heap_setCell _ _ _ _ (fun e => hb (by cases e; exact q))) (by simp [World.setCell])
theorem But.aside {O : Nat -> Prop} {w w' : World} (h : But O w w') (b i : Nat) (u : Value) (hb : w.heap.size <= b) : But O w (w'.setCell ⟨b,i,none⟩ u) :=
 ⟨h.os,h.tape,h.output,by simpa [World.setCell] using h.size,fun k hk hn => (Below.heap_setCell _ _ _ _ (fun e => by have e2 : k = b := e; omega)).trans (h.block k hk hn)⟩
theorem RowV.aside {t g b i : Nat} {w : World} {vs : List Value} (h : RowV t w g vs) (u : Value) (hb : g ≠ b) : RowV t (w.setCell ⟨b,i,none⟩ u) g vs := h.block (Below.heap_setCell _ _ _ _ hb)
set_option maxRecDepth 100000 in
set_option maxHeartbeats 4000000 in
theorem exec_take_own (h : Rn r w ga vd c) (v : Nat) (pu : Int) (hv : v < r.W) (m : List (List Int)) (ta tb tcc : Int) (hT : T3 m)
   (cP : ∀ W,Rn r W ga vd c -> Calls Tryd.prog 133 #[.pointer (some ⟨r.q v,0,none⟩)] W fun e w' => e = .returned (.tuple #[.agg #[.int .i64 ta,.int .i64 tb,.int .i64 tcc],.bool true]) /\ ∃ O',Dq w' (.pointer (some ⟨r.q v,0,none⟩)) 64 m O' /\ (∀ k,O' k -> (fun k => k = r.q v) k \/ W.heap.size <= k) /\ But (fun k => k = r.q v) W w') :
   Calls Tryd.prog 90 #[.pointer (some ⟨r.g,0,none⟩),.agg #[.int .i64 (v : Int),.int .i64 pu]] w fun e w' => e = .returned (.tuple #[.agg #[.int .i64 ta,.int .i64 tb,.int .i64 tcc],.bool true]) /\ Rn r w' ga vd { c with hands := c.hands.set v m } /\ But (RnO r ga vd) w w' := by
 have h0 : Hid _ := h
 clear h
 go_enter Tryd.func90,Tryd.ntmps90
 go_wp2
 have hb2 : Below w.heap.size w ((w.alloc (.cells #[.int .i64 (v : Int),.int .i64 pu] 82)).alloc (.cells #[.int .i64 0,.int .i64 0,.int .i64 0] 71)) := (below_alloc1 w _).trans ((below_alloc1 _ _).mono (below_alloc1 w _).size)
 have hN2 : RowV 71 ((w.alloc (.cells #[.int .i64 (v : Int),.int .i64 pu] 82)).alloc (.cells #[.int .i64 0,.int .i64 0,.int .i64 0] 71)) (w.heap.size + 1) [.int .i64 0,.int .i64 0,.int .i64 0] := by
   have q := new_row (w.alloc (.cells #[.int .i64 (v : Int),.int .i64 pu] 82)) 71 [.int .i64 0,.int .i64 0,.int .i64 0]
   simpa using q
 have hP2 : RowV 82 ((w.alloc (.cells #[.int .i64 (v : Int),.int .i64 pu] 82)).alloc (.cells #[.int .i64 0,.int .i64 0,.int .i64 0] 71)) w.heap.size [.int .i64 (v : Int),.int .i64 pu] := RowV.below (new_row w 82 [.int .i64 (v : Int),.int .i64 pu]) (below_alloc1 _ _)
 have h2 := h0.out.below hb2
 have hs2 : ((w.alloc (.cells #[.int .i64 (v : Int),.int .i64 pu] 82)).alloc (.cells #[.int .i64 0,.int .i64 0,.int .i64 0] 71)).heap.size = w.heap.size + 2 := by simp
 generalize ((w.alloc (.cells #[.int .i64 (v : Int),.int .i64 pu] 82)).alloc (.cells #[.int .i64 0,.int .i64 0,.int .i64 0] 71)) = W2 at *
 have hBu2 : But (RnO r ga vd) w W2 := But.of_below hb2
 obtain ⟨B,hB⟩ : ∃ B,B = w.heap.size := ⟨_,rfl⟩
 have hold : ∀ b,RnO r ga vd b -> b < B := fun b q => by rw [hB]; exact h0.out.old b q
 rw [<- hB] at hP2 hN2 hs2 ⊢
 replace hB : Hid _ := hB
 clear h0 hb2
 have hSd : (fun w' : World => w'.cell? ⟨r.g,4,none⟩ = some (.slice (some ⟨r.gd,0,none⟩) r.W r.W) /\ w'.cell? ⟨r.gd,v,none⟩ = some (.pointer (some ⟨r.q v,0,none⟩)) /\ w'.cell? ⟨B,0,none⟩ = some (.int .i64 (v : Int))) W2.drew := ⟨h2.f4,h2.qcell v hv,hP2.cell 0⟩
 refine wp_region_L (S := (fun w' : World => w'.cell? ⟨r.g,4,none⟩ = some (.slice (some ⟨r.gd,0,none⟩) r.W r.W) /\ w'.cell? ⟨r.gd,v,none⟩ = some (.pointer (some ⟨r.q v,0,none⟩)) /\ w'.cell? ⟨B,0,none⟩ = some (.int .i64 (v : Int)))) (s := 14) (by kernel_rfl) ?_
 refine tkL (i := 0) (v := ?va0) rfl rfl (Or.inl ⟨by rfl,?hya0⟩) hSd ?resta0
 case hya0 =>
   intro w hSw
   (try dsimp only at hSw)
   go_simp
   all_goals with_reducible rfl
 simp only [Act.put,getElem_toArray,getElem_cons_zero,setIfInBounds_toArray,set_cons_zero,set_cons_succ]
 refine tkL (i := 1) (v := ?va1) rfl rfl (Or.inl ⟨by rfl,?hya1⟩) hSd ?resta1
 case hya1 =>
   intro w hSw
   (try dsimp only at hSw)
   go_simp
   all_goals with_reducible rfl
 simp only [Act.put,getElem_toArray,getElem_cons_succ,getElem_cons_zero,setIfInBounds_toArray,set_cons_zero,set_cons_succ]
 refine tkL (i := 2) (v := ?va2) rfl rfl (Or.inl ⟨by rfl,?hya2⟩) hSd ?resta2
 case hya2 =>
   intro w hSw
   (try dsimp only at hSw)
   go_simp
   all_goals with_reducible rfl
 simp only [Act.put,getElem_toArray,getElem_cons_succ,getElem_cons_zero,setIfInBounds_toArray,set_cons_zero,set_cons_succ]
 refine tkL (i := 3) (v := ?va3) rfl rfl (Or.inl ⟨by rfl,?hya3⟩) hSd ?resta3
 case hya3 =>
   intro w hSw
   (try dsimp only at hSw)
   go_simp
   all_goals with_reducible rfl
 simp only [Act.put,getElem_toArray,getElem_cons_succ,getElem_cons_zero,setIfInBounds_toArray,set_cons_zero,set_cons_succ]
 refine tkL (i := 4) (v := ?va4) rfl rfl (Or.inl ⟨by rfl,?hya4⟩) hSd ?resta4
 case hya4 =>
   intro w hSw
   (try dsimp only at hSw)
   go_simp
   all_goals with_reducible rfl
 simp only [Act.put,getElem_toArray,getElem_cons_succ,getElem_cons_zero,setIfInBounds_toArray,set_cons_zero,set_cons_succ]
 refine tkL (i := 5) (v := ?va5) rfl rfl (Or.inl ⟨by rfl,?hya5⟩) hSd ?resta5
 case hya5 =>
   intro w hSw
   (try dsimp only at hSw)
   go_simp
   all_goals with_reducible rfl
 simp only [Act.put,getElem_toArray,getElem_cons_succ,getElem_cons_zero,setIfInBounds_toArray,set_cons_zero,set_cons_succ]
 refine tkL (i := 6) (v := ?va6) rfl rfl (Or.inl ⟨by rfl,?hya6⟩) hSd ?resta6
 case hya6 =>
   intro w hSw
   (try dsimp only at hSw)
   go_simp
   all_goals with_reducible rfl
 simp only [Act.put,getElem_toArray,getElem_cons_succ,getElem_cons_zero,setIfInBounds_toArray,set_cons_zero,set_cons_succ]
 refine tkL (i := 7) (v := ?va7) rfl rfl (Or.inl ⟨by rfl,?hya7⟩) hSd ?resta7
 case hya7 =>
   intro w hSw
   (try dsimp only at hSw)
   go_simp
   all_goals with_reducible rfl
 simp only [Act.put,getElem_toArray,getElem_cons_succ,getElem_cons_zero,setIfInBounds_toArray,set_cons_zero,set_cons_succ]
 have hd2 : Below W2.heap.size W2 W2.drew := below_drewN (Below.refl _ _) 1
 refine wpAnyL_two (i := 8) (j := 12) rfl rfl (by kernel_rfl) (fun K hK => ?_) (fun K hK => ?_)
 · simp only [getElem_toArray,getElem_cons_succ,getElem_cons_zero]
   go_simp
   refine Calls.mono (cP W2.drew (h2.below hd2)) ?_
   rintro e w7 ⟨rfl,O7,hD7,-,hb7⟩
   have h7 := (h2.below hd2).hand v hv m hT hD7.own hb7
   have hlq := (h2.dq v hv).old _ rfl
   have hql : r.q v < B := hold _ (.inr (.inr (.inr (.inr ⟨v,hv,rfl⟩))))
   have hP7 : RowV 82 w7 B [.int .i64 (v : Int),.int .i64 pu] := (hP2.below hd2).block (hb7.block _ (hP2.below hd2).lt (fun e => by omega))
   have hN7 : RowV 71 w7 (B + 1) [.int .i64 0,.int .i64 0,.int .i64 0] := (hN2.below hd2).block (hb7.block _ (hN2.below hd2).lt (fun e => by omega))
   have hBu7 : But (RnO r ga vd) w w7 := (hBu2.andBelow hd2).trans (O' := fun k => k = r.q v) hb7 fun i e => .inl (.inr (.inr (.inr (.inr ⟨v,hv,e⟩))))
   have hSd : (fun w' : World => w'.cell? ⟨r.g,4,none⟩ = some (.slice (some ⟨r.gd,0,none⟩) r.W r.W) /\ w'.cell? ⟨r.gd,v,none⟩ = some (.pointer (some ⟨r.q v,0,none⟩)) /\ w'.cell? ⟨B,0,none⟩ = some (.int .i64 (v : Int))) w7 := ⟨h7.f4,h7.qcell v hv,hP7.cell 0⟩
   refine hK.out _ _ (fun _ => hSd) ?_
   clear hK K cP h2 hP2 hN2 hBu2 hb7 hD7 hd2
   refine tkL (i := 9) (v := ?vb9) rfl rfl (Or.inl ⟨by rfl,?hyb9⟩) hSd ?restb9
   case hyb9 =>
     intro w hSw
     (try dsimp only at hSw)
     go_simp
     all_goals with_reducible rfl
   simp only [Act.put,getElem_toArray,getElem_cons_succ,getElem_cons_zero,setIfInBounds_toArray,set_cons_zero,set_cons_succ]
   refine tkL (i := 10) (v := ?vb10) rfl rfl (Or.inl ⟨by rfl,?hyb10⟩) hSd ?restb10
   case hyb10 =>
     intro w hSw
     (try dsimp only at hSw)
     go_simp
     all_goals with_reducible rfl
   simp only [Act.put,getElem_toArray,getElem_cons_succ,getElem_cons_zero,setIfInBounds_toArray,set_cons_zero,set_cons_succ]
   refine tkL (i := 11) (v := ?vb11) rfl rfl (Or.inl ⟨by rfl,?hyb11⟩) hSd ?restb11
   case hyb11 =>
     intro w hSw
     (try dsimp only at hSw)
     go_simp
     all_goals with_reducible rfl
   simp only [Act.put,getElem_toArray,getElem_cons_succ,getElem_cons_zero,setIfInBounds_toArray,set_cons_zero,set_cons_succ]
   refine wpAnyL_one (i := 12) rfl (by kernel_rfl) (fun K hK => ?_)
   simp only [getElem_toArray,getElem_cons_succ,getElem_cons_zero]
   go_simp
   have h8 := h7.below (below_alloc1 w7 (.cells #[.int .i64 0,.int .i64 0,.int .i64 0] 71))
   have hP8 := hP7.below (below_alloc1 w7 (.cells #[.int .i64 0,.int .i64 0,.int .i64 0] 71))
   have hN8 := hN7.below (below_alloc1 w7 (.cells #[.int .i64 0,.int .i64 0,.int .i64 0] 71))
   have hX8 := new_row w7 71 [.int .i64 0,.int .i64 0,.int .i64 0]
   have hBu8 := hBu7.andBelow (below_alloc1 w7 (.cells #[.int .i64 0,.int .i64 0,.int .i64 0] 71))
   have hg1 : w7.heap.size ≠ B + 1 := fun e => by have := hN7.lt; omega
   have hgB : w7.heap.size ≠ B := fun e => by have := hP7.lt; omega
   have hgo : ¬ RnO r ga vd w7.heap.size := fun q => by have := h7.old _ q; omega
   have hgw : w.heap.size <= w7.heap.size := hBu7.size
   refine hK.out _ _ (fun _ => ⟨h8.f4,h8.qcell v hv,hP8.cell 0⟩) ?_
   clear hK K h7 hP7 hN7 hBu7 hSd
   change RowV 71 (w7.alloc (.cells #[.int .i64 0,.int .i64 0,.int .i64 0] 71)) w7.heap.size [.int .i64 0,.int .i64 0,.int .i64 0] at hX8
   generalize w7.alloc (.cells #[.int .i64 0,.int .i64 0,.int .i64 0] 71) = w8 at *
   generalize w7.heap.size = G at *
   have x0 : w8.cell? ⟨G,0,none⟩ = some (.int .i64 0) := hX8.cell 0
   have x1 : w8.cell? ⟨G,1,none⟩ = some (.int .i64 0) := hX8.cell 1
   have x2 : w8.cell? ⟨G,2,none⟩ = some (.int .i64 0) := hX8.cell 2
   have y0 := hX8.frozen 0
   have y1 := hX8.frozen 1
   have y2 := hX8.frozen 2
   refine wpAnyL_one (i := 13) rfl (by kernel_rfl) (fun K hK => ?_)
   simp only [getElem_toArray,getElem_cons_succ,getElem_cons_zero]
   go_simp
   have h9 := ((h8.aside G 0 (.int .i64 ta) hgo).aside G 1 (.int .i64 tb) hgo).aside G 2 (.int .i64 tcc) hgo
   have hP9 := ((hP8.aside (i := 0) (.int .i64 ta) (Ne.symm hgB)).aside (i := 1) (.int .i64 tb) (Ne.symm hgB)).aside (i := 2) (.int .i64 tcc) (Ne.symm hgB)
   have hN9 := ((hN8.aside (i := 0) (.int .i64 ta) (Ne.symm hg1)).aside (i := 1) (.int .i64 tb) (Ne.symm hg1)).aside (i := 2) (.int .i64 tcc) (Ne.symm hg1)
   have hX9 : RowV 71 _ G [.int .i64 ta,.int .i64 tb,.int .i64 tcc] := ((hX8.set 0 (.int .i64 ta)).set 1 (.int .i64 tb)).set 2 (.int .i64 tcc)
   have hBu9 := ((hBu8.aside G 0 (.int .i64 ta) hgw).aside G 1 (.int .i64 tb) hgw).aside G 2 (.int .i64 tcc) hgw
   refine hK.out _ _ (fun _ => ⟨h9.f4,h9.qcell v hv,hP9.cell 0⟩) ?_
   clear hK K h8 hP8 hN8 hX8 hBu8 x0 x1 x2 y0 y1 y2 hP9
   generalize ((w8.setCell ⟨G,0,none⟩ (.int .i64 ta)).setCell ⟨G,1,none⟩ (.int .i64 tb)).setCell ⟨G,2,none⟩ (.int .i64 tcc) = w9 at *
   refine wpAnyL_one (i := 14) rfl (by kernel_rfl) (fun K hK => ?_)
   simp only [getElem_toArray,getElem_cons_succ,getElem_cons_zero]
   go_simp
   refine hK.out _ _ (fun h => absurd rfl h) (wpAnyL_done (by kernel_rfl) ?_ _)
   clear hK K
   have x0 : w9.cell? ⟨G,0,none⟩ = some (.int .i64 ta) := hX9.cell 0
   have x1 : w9.cell? ⟨G,1,none⟩ = some (.int .i64 tb) := hX9.cell 1
   have x2 : w9.cell? ⟨G,2,none⟩ = some (.int .i64 tcc) := hX9.cell 2
   have z0 : w9.cell? ⟨B + 1,0,none⟩ = some (.int .i64 0) := hN9.cell 0
   have z1 : w9.cell? ⟨B + 1,1,none⟩ = some (.int .i64 0) := hN9.cell 1
   have z2 : w9.cell? ⟨B + 1,2,none⟩ = some (.int .i64 0) := hN9.cell 2
   have y0 := hN9.frozen 0
   have y1 := hN9.frozen 1
   have y2 := hN9.frozen 2
   go_wp2
   refine bodyPost_ret (v := .tuple #[.agg #[.int .i64 ta,.int .i64 tb,.int .i64 tcc],.bool true]) (by simp [results,Tryd.results90,go_sem,z0,z1,z2]) rfl ?_
   have hgo1 : ¬ RnO r ga vd (B + 1) := fun q => by have := hold _ q; omega
   have hgw1 : w.heap.size <= B + 1 := by have := hB.out; omega
   exact ⟨rfl,((h9.aside (B + 1) 0 _ hgo1).aside (B + 1) 1 _ hgo1).aside (B + 1) 2 _ hgo1,((hBu9.aside (B + 1) 0 _ hgw1).aside (B + 1) 1 _ hgw1).aside (B + 1) 2 _ hgw1⟩
 · simp only [getElem_toArray,getElem_cons_succ,getElem_cons_zero]
   go_simp
   have hd8 : Below W2.heap.size W2 (W2.alloc (.cells #[.int .i64 0,.int .i64 0,.int .i64 0] 71)).drew := below_drewN (below_alloc1 W2 (.cells #[.int .i64 0,.int .i64 0,.int .i64 0] 71)) 1
   have h8 := h2.below hd8
   have hP8 := hP2.below hd8
   have hN8 := hN2.below hd8
   have hX8 : RowV 71 (W2.alloc (.cells #[.int .i64 0,.int .i64 0,.int .i64 0] 71)).drew W2.heap.size [.int .i64 0,.int .i64 0,.int .i64 0] := new_row W2 71 [.int .i64 0,.int .i64 0,.int .i64 0]
   rw [hs2] at hX8
   have hBu8 := hBu2.andBelow hd8
   have hSd : (fun w' : World => w'.cell? ⟨r.g,4,none⟩ = some (.slice (some ⟨r.gd,0,none⟩) r.W r.W) /\ w'.cell? ⟨r.gd,v,none⟩ = some (.pointer (some ⟨r.q v,0,none⟩)) /\ w'.cell? ⟨B,0,none⟩ = some (.int .i64 (v : Int))) (W2.alloc (.cells #[.int .i64 0,.int .i64 0,.int .i64 0] 71)).drew := ⟨h8.f4,h8.qcell v hv,hP8.cell 0⟩
   refine hK.out _ _ (fun _ => hSd) ?_
   clear hK K h2 hP2 hN2 hBu2 hd2 hd8
   generalize (W2.alloc (.cells #[.int .i64 0,.int .i64 0,.int .i64 0] 71)).drew = w6 at *
   refine wpAnyL_one (i := 8) rfl (by kernel_rfl) (fun K hK => ?_)
   simp only [getElem_toArray,getElem_cons_succ,getElem_cons_zero]
   go_simp
   refine Calls.mono (cP w6 h8) ?_
   rintro e w7 ⟨rfl,O7,hD7,-,hb7⟩
   have h7 := h8.hand v hv m hT hD7.own hb7
   have hlq := (h8.dq v hv).old _ rfl
   have hql : r.q v < B := hold _ (.inr (.inr (.inr (.inr ⟨v,hv,rfl⟩))))
   have hP7 : RowV 82 w7 B [.int .i64 (v : Int),.int .i64 pu] := hP8.block (hb7.block _ hP8.lt (fun e => by omega))
   have hN7 : RowV 71 w7 (B + 1) [.int .i64 0,.int .i64 0,.int .i64 0] := hN8.block (hb7.block _ hN8.lt (fun e => by omega))
   have hBu7 : But (RnO r ga vd) w w7 := hBu8.trans (O' := fun k => k = r.q v) hb7 fun i e => .inl (.inr (.inr (.inr (.inr ⟨v,hv,e⟩))))
   have hX7 : RowV 71 w7 (B + 2) [.int .i64 0,.int .i64 0,.int .i64 0] := hX8.block (hb7.block _ hX8.lt (fun e => by omega))
   have hSd : (fun w' : World => w'.cell? ⟨r.g,4,none⟩ = some (.slice (some ⟨r.gd,0,none⟩) r.W r.W) /\ w'.cell? ⟨r.gd,v,none⟩ = some (.pointer (some ⟨r.q v,0,none⟩)) /\ w'.cell? ⟨B,0,none⟩ = some (.int .i64 (v : Int))) w7 := ⟨h7.f4,h7.qcell v hv,hP7.cell 0⟩
   refine hK.out _ _ (fun _ => hSd) ?_
   clear hK K cP h8 hP8 hN8 hX8 hBu8 hb7 hD7
   refine tkL (i := 9) (v := ?vc9) rfl rfl (Or.inl ⟨by rfl,?hyc9⟩) hSd ?restc9
   case hyc9 =>
     intro w hSw
     (try dsimp only at hSw)
     go_simp
     all_goals with_reducible rfl
   simp only [Act.put,getElem_toArray,getElem_cons_succ,getElem_cons_zero,setIfInBounds_toArray,set_cons_zero,set_cons_succ]
   refine tkL (i := 10) (v := ?vc10) rfl rfl (Or.inl ⟨by rfl,?hyc10⟩) hSd ?restc10
   case hyc10 =>
     intro w hSw
     (try dsimp only at hSw)
     go_simp
     all_goals with_reducible rfl
   simp only [Act.put,getElem_toArray,getElem_cons_succ,getElem_cons_zero,setIfInBounds_toArray,set_cons_zero,set_cons_succ]
   refine tkL (i := 11) (v := ?vc11) rfl rfl (Or.inl ⟨by rfl,?hyc11⟩) hSd ?restc11
   case hyc11 =>
     intro w hSw
     (try dsimp only at hSw)
     go_simp
     all_goals with_reducible rfl
   simp only [Act.put,getElem_toArray,getElem_cons_succ,getElem_cons_zero,setIfInBounds_toArray,set_cons_zero,set_cons_succ]
   have hg1 : B + 2 ≠ B + 1 := by omega
   have hgB : B + 2 ≠ B := by omega
   have hgo : ¬ RnO r ga vd (B + 2) := fun q => by have := hold _ q; omega
   have hgw : w.heap.size <= B + 2 := by have := hB.out; omega
   have h8 := h7
   have hP8 := hP7
   have hN8 := hN7
   have hX8 := hX7
   have hBu8 := hBu7
   clear h7 hP7 hN7 hX7 hBu7
   generalize w7 = w8 at *
   generalize B + 2 = G at *
   have x0 : w8.cell? ⟨G,0,none⟩ = some (.int .i64 0) := hX8.cell 0
   have x1 : w8.cell? ⟨G,1,none⟩ = some (.int .i64 0) := hX8.cell 1
   have x2 : w8.cell? ⟨G,2,none⟩ = some (.int .i64 0) := hX8.cell 2
   have y0 := hX8.frozen 0
   have y1 := hX8.frozen 1
   have y2 := hX8.frozen 2
   refine wpAnyL_one (i := 13) rfl (by kernel_rfl) (fun K hK => ?_)
   simp only [getElem_toArray,getElem_cons_succ,getElem_cons_zero]
   go_simp
   have h9 := ((h8.aside G 0 (.int .i64 ta) hgo).aside G 1 (.int .i64 tb) hgo).aside G 2 (.int .i64 tcc) hgo
   have hP9 := ((hP8.aside (i := 0) (.int .i64 ta) (Ne.symm hgB)).aside (i := 1) (.int .i64 tb) (Ne.symm hgB)).aside (i := 2) (.int .i64 tcc) (Ne.symm hgB)
   have hN9 := ((hN8.aside (i := 0) (.int .i64 ta) (Ne.symm hg1)).aside (i := 1) (.int .i64 tb) (Ne.symm hg1)).aside (i := 2) (.int .i64 tcc) (Ne.symm hg1)
   have hX9 : RowV 71 _ G [.int .i64 ta,.int .i64 tb,.int .i64 tcc] := ((hX8.set 0 (.int .i64 ta)).set 1 (.int .i64 tb)).set 2 (.int .i64 tcc)
   have hBu9 := ((hBu8.aside G 0 (.int .i64 ta) hgw).aside G 1 (.int .i64 tb) hgw).aside G 2 (.int .i64 tcc) hgw
   refine hK.out _ _ (fun _ => ⟨h9.f4,h9.qcell v hv,hP9.cell 0⟩) ?_
   clear hK K h8 hP8 hN8 hX8 hBu8 x0 x1 x2 y0 y1 y2 hP9
   generalize ((w8.setCell ⟨G,0,none⟩ (.int .i64 ta)).setCell ⟨G,1,none⟩ (.int .i64 tb)).setCell ⟨G,2,none⟩ (.int .i64 tcc) = w9 at *
   refine wpAnyL_one (i := 14) rfl (by kernel_rfl) (fun K hK => ?_)
   simp only [getElem_toArray,getElem_cons_succ,getElem_cons_zero]
   go_simp
   refine hK.out _ _ (fun h => absurd rfl h) (wpAnyL_done (by kernel_rfl) ?_ _)
   clear hK K
   have x0 : w9.cell? ⟨G,0,none⟩ = some (.int .i64 ta) := hX9.cell 0
   have x1 : w9.cell? ⟨G,1,none⟩ = some (.int .i64 tb) := hX9.cell 1
   have x2 : w9.cell? ⟨G,2,none⟩ = some (.int .i64 tcc) := hX9.cell 2
   have z0 : w9.cell? ⟨B + 1,0,none⟩ = some (.int .i64 0) := hN9.cell 0
   have z1 : w9.cell? ⟨B + 1,1,none⟩ = some (.int .i64 0) := hN9.cell 1
   have z2 : w9.cell? ⟨B + 1,2,none⟩ = some (.int .i64 0) := hN9.cell 2
   have y0 := hN9.frozen 0
   have y1 := hN9.frozen 1
   have y2 := hN9.frozen 2
   go_wp2
   refine bodyPost_ret (v := .tuple #[.agg #[.int .i64 ta,.int .i64 tb,.int .i64 tcc],.bool true]) (by simp [results,Tryd.results90,go_sem,z0,z1,z2]) rfl ?_
   have hgo1 : ¬ RnO r ga vd (B + 1) := fun q => by have := hold _ q; omega
   have hgw1 : w.heap.size <= B + 1 := by have := hB.out; omega
   exact ⟨rfl,((h9.aside (B + 1) 0 _ hgo1).aside (B + 1) 1 _ hgo1).aside (B + 1) 2 _ hgo1,((hBu9.aside (B + 1) 0 _ hgw1).aside (B + 1) 1 _ hgw1).aside (B + 1) 2 _ hgw1⟩
set_option maxRecDepth 100000 in
set_option maxHeartbeats 4000000 in
theorem exec_take_other (h : Rn r w ga vd c) (v u : Nat) (hv : v < r.W) (hu : u < r.W) (hv0 : c.hands.getD v [] = []) (m2 : List (List Int)) (ta tb tcc : Int) (f : Bool) (hT2 : T3 m2)
   (cP : ∀ W,Rn r W ga vd c -> Calls Tryd.prog 133 #[.pointer (some ⟨r.q v,0,none⟩)] W fun e w' => e = .returned (.tuple #[.agg #[.int .i64 0,.int .i64 0,.int .i64 0],.bool false]) /\ ∃ O',Dq w' (.pointer (some ⟨r.q v,0,none⟩)) 64 [] O' /\ (∀ k,O' k -> (fun k => k = r.q v) k \/ W.heap.size <= k) /\ But (fun k => k = r.q v) W w')
   (cS : ∀ W,Rn r W ga vd c -> Calls Tryd.prog 134 #[.pointer (some ⟨r.q u,0,none⟩)] W fun e w' => e = .returned (.tuple #[.agg #[.int .i64 ta,.int .i64 tb,.int .i64 tcc],.bool f]) /\ ∃ O',Dq w' (.pointer (some ⟨r.q u,0,none⟩)) 64 m2 O' /\ (∀ k,O' k -> (fun k => k = r.q u) k \/ W.heap.size <= k) /\ But (fun k => k = r.q u) W w') :
   Calls Tryd.prog 90 #[.pointer (some ⟨r.g,0,none⟩),.agg #[.int .i64 (v : Int),.int .i64 (u : Int)]] w fun e w' => e = .returned (.tuple #[.agg #[.int .i64 ta,.int .i64 tb,.int .i64 tcc],.bool f]) /\ Rn r w' ga vd { c with hands := c.hands.set u m2 } /\ But (RnO r ga vd) w w' := by
 obtain ⟨pu,hpu⟩ : ∃ pu : Int,Hid (pu = (u : Int)) := ⟨_,rfl⟩
 rw [<- hpu.out]
 have hsame : Hid ({ c with hands := c.hands.set v [] } = c) := by show _ = _; rw [set_same c.hands v hv0]
 have hT : T3 [] := T3.nil
 have h0 : Hid _ := h
 clear h
 go_enter Tryd.func90,Tryd.ntmps90
 go_wp2
 have hb2 : Below w.heap.size w ((w.alloc (.cells #[.int .i64 (v : Int),.int .i64 pu] 82)).alloc (.cells #[.int .i64 0,.int .i64 0,.int .i64 0] 71)) := (below_alloc1 w _).trans ((below_alloc1 _ _).mono (below_alloc1 w _).size)
 have hN2 : RowV 71 ((w.alloc (.cells #[.int .i64 (v : Int),.int .i64 pu] 82)).alloc (.cells #[.int .i64 0,.int .i64 0,.int .i64 0] 71)) (w.heap.size + 1) [.int .i64 0,.int .i64 0,.int .i64 0] := by
   have q := new_row (w.alloc (.cells #[.int .i64 (v : Int),.int .i64 pu] 82)) 71 [.int .i64 0,.int .i64 0,.int .i64 0]
   simpa using q
 have hP2 : RowV 82 ((w.alloc (.cells #[.int .i64 (v : Int),.int .i64 pu] 82)).alloc (.cells #[.int .i64 0,.int .i64 0,.int .i64 0] 71)) w.heap.size [.int .i64 (v : Int),.int .i64 pu] := RowV.below (new_row w 82 [.int .i64 (v : Int),.int .i64 pu]) (below_alloc1 _ _)
 have h2 := h0.out.below hb2
 have hs2 : ((w.alloc (.cells #[.int .i64 (v : Int),.int .i64 pu] 82)).alloc (.cells #[.int .i64 0,.int .i64 0,.int .i64 0] 71)).heap.size = w.heap.size + 2 := by simp
 generalize ((w.alloc (.cells #[.int .i64 (v : Int),.int .i64 pu] 82)).alloc (.cells #[.int .i64 0,.int .i64 0,.int .i64 0] 71)) = W2 at *
 have hBu2 : But (RnO r ga vd) w W2 := But.of_below hb2
 obtain ⟨B,hB⟩ : ∃ B,B = w.heap.size := ⟨_,rfl⟩
 have hold : ∀ b,RnO r ga vd b -> b < B := fun b q => by rw [hB]; exact h0.out.old b q
 rw [<- hB] at hP2 hN2 hs2 ⊢
 replace hB : Hid _ := hB
 clear h0 hb2
 have hSd : (fun w' : World => w'.cell? ⟨r.g,4,none⟩ = some (.slice (some ⟨r.gd,0,none⟩) r.W r.W) /\ w'.cell? ⟨r.gd,v,none⟩ = some (.pointer (some ⟨r.q v,0,none⟩)) /\ w'.cell? ⟨B,0,none⟩ = some (.int .i64 (v : Int))) W2.drew := ⟨h2.f4,h2.qcell v hv,hP2.cell 0⟩
 refine wp_region_L (S := (fun w' : World => w'.cell? ⟨r.g,4,none⟩ = some (.slice (some ⟨r.gd,0,none⟩) r.W r.W) /\ w'.cell? ⟨r.gd,v,none⟩ = some (.pointer (some ⟨r.q v,0,none⟩)) /\ w'.cell? ⟨B,0,none⟩ = some (.int .i64 (v : Int)))) (s := 14) (by kernel_rfl) ?_
 refine tkL (i := 0) (v := ?va0) rfl rfl (Or.inl ⟨by rfl,?hya0⟩) hSd ?resta0
 case hya0 =>
   intro w hSw
   (try dsimp only at hSw)
   go_simp
   all_goals with_reducible rfl
 simp only [Act.put,getElem_toArray,getElem_cons_zero,setIfInBounds_toArray,set_cons_zero,set_cons_succ]
 refine tkL (i := 1) (v := ?va1) rfl rfl (Or.inl ⟨by rfl,?hya1⟩) hSd ?resta1
 case hya1 =>
   intro w hSw
   (try dsimp only at hSw)
   go_simp
   all_goals with_reducible rfl
 simp only [Act.put,getElem_toArray,getElem_cons_succ,getElem_cons_zero,setIfInBounds_toArray,set_cons_zero,set_cons_succ]
 refine tkL (i := 2) (v := ?va2) rfl rfl (Or.inl ⟨by rfl,?hya2⟩) hSd ?resta2
 case hya2 =>
   intro w hSw
   (try dsimp only at hSw)
   go_simp
   all_goals with_reducible rfl
 simp only [Act.put,getElem_toArray,getElem_cons_succ,getElem_cons_zero,setIfInBounds_toArray,set_cons_zero,set_cons_succ]
 refine tkL (i := 3) (v := ?va3) rfl rfl (Or.inl ⟨by rfl,?hya3⟩) hSd ?resta3
 case hya3 =>
   intro w hSw
   (try dsimp only at hSw)
   go_simp
   all_goals with_reducible rfl
 simp only [Act.put,getElem_toArray,getElem_cons_succ,getElem_cons_zero,setIfInBounds_toArray,set_cons_zero,set_cons_succ]
 refine tkL (i := 4) (v := ?va4) rfl rfl (Or.inl ⟨by rfl,?hya4⟩) hSd ?resta4
 case hya4 =>
   intro w hSw
   (try dsimp only at hSw)
   go_simp
   all_goals with_reducible rfl
 simp only [Act.put,getElem_toArray,getElem_cons_succ,getElem_cons_zero,setIfInBounds_toArray,set_cons_zero,set_cons_succ]
 refine tkL (i := 5) (v := ?va5) rfl rfl (Or.inl ⟨by rfl,?hya5⟩) hSd ?resta5
 case hya5 =>
   intro w hSw
   (try dsimp only at hSw)
   go_simp
   all_goals with_reducible rfl
 simp only [Act.put,getElem_toArray,getElem_cons_succ,getElem_cons_zero,setIfInBounds_toArray,set_cons_zero,set_cons_succ]
 refine tkL (i := 6) (v := ?va6) rfl rfl (Or.inl ⟨by rfl,?hya6⟩) hSd ?resta6
 case hya6 =>
   intro w hSw
   (try dsimp only at hSw)
   go_simp
   all_goals with_reducible rfl
 simp only [Act.put,getElem_toArray,getElem_cons_succ,getElem_cons_zero,setIfInBounds_toArray,set_cons_zero,set_cons_succ]
 refine tkL (i := 7) (v := ?va7) rfl rfl (Or.inl ⟨by rfl,?hya7⟩) hSd ?resta7
 case hya7 =>
   intro w hSw
   (try dsimp only at hSw)
   go_simp
   all_goals with_reducible rfl
 simp only [Act.put,getElem_toArray,getElem_cons_succ,getElem_cons_zero,setIfInBounds_toArray,set_cons_zero,set_cons_succ]
 have hd2 : Below W2.heap.size W2 W2.drew := below_drewN (Below.refl _ _) 1
 refine wpAnyL_two (i := 8) (j := 12) rfl rfl (by kernel_rfl) (fun K hK => ?_) (fun K hK => ?_)
 · simp only [getElem_toArray,getElem_cons_succ,getElem_cons_zero]
   go_simp
   refine Calls.mono (cP W2.drew (h2.below hd2)) ?_
   rintro e w7 ⟨rfl,O7,hD7,-,hb7⟩
   have h7 := (h2.below hd2).hand v hv [] hT hD7.own hb7
   have hlq := (h2.dq v hv).old _ rfl
   have hql : r.q v < B := hold _ (.inr (.inr (.inr (.inr ⟨v,hv,rfl⟩))))
   have hP7 : RowV 82 w7 B [.int .i64 (v : Int),.int .i64 pu] := (hP2.below hd2).block (hb7.block _ (hP2.below hd2).lt (fun e => by omega))
   have hN7 : RowV 71 w7 (B + 1) [.int .i64 0,.int .i64 0,.int .i64 0] := (hN2.below hd2).block (hb7.block _ (hN2.below hd2).lt (fun e => by omega))
   have hBu7 : But (RnO r ga vd) w w7 := (hBu2.andBelow hd2).trans (O' := fun k => k = r.q v) hb7 fun i e => .inl (.inr (.inr (.inr (.inr ⟨v,hv,e⟩))))
   rw [hsame.out] at h7
   have hSd : (fun w' : World => w'.cell? ⟨r.g,4,none⟩ = some (.slice (some ⟨r.gd,0,none⟩) r.W r.W) /\ w'.cell? ⟨r.gd,v,none⟩ = some (.pointer (some ⟨r.q v,0,none⟩)) /\ w'.cell? ⟨B,0,none⟩ = some (.int .i64 (v : Int))) w7 := ⟨h7.f4,h7.qcell v hv,hP7.cell 0⟩
   refine hK.out _ _ (fun _ => hSd) ?_
   clear hK K cP h2 hP2 hN2 hBu2 hb7 hD7 hd2
   refine tkL (i := 9) (v := ?vb9) rfl rfl (Or.inl ⟨by rfl,?hyb9⟩) hSd ?restb9
   case hyb9 =>
     intro w hSw
     (try dsimp only at hSw)
     go_simp
     all_goals with_reducible rfl
   simp only [Act.put,getElem_toArray,getElem_cons_succ,getElem_cons_zero,setIfInBounds_toArray,set_cons_zero,set_cons_succ]
   refine tkL (i := 10) (v := ?vb10) rfl rfl (Or.inl ⟨by rfl,?hyb10⟩) hSd ?restb10
   case hyb10 =>
     intro w hSw
     (try dsimp only at hSw)
     go_simp
     all_goals with_reducible rfl
   simp only [Act.put,getElem_toArray,getElem_cons_succ,getElem_cons_zero,setIfInBounds_toArray,set_cons_zero,set_cons_succ]
   refine tkL (i := 11) (v := ?vb11) rfl rfl (Or.inl ⟨by rfl,?hyb11⟩) hSd ?restb11
   case hyb11 =>
     intro w hSw
     (try dsimp only at hSw)
     go_simp
     all_goals with_reducible rfl
   simp only [Act.put,getElem_toArray,getElem_cons_succ,getElem_cons_zero,setIfInBounds_toArray,set_cons_zero,set_cons_succ]
   refine wpAnyL_one (i := 12) rfl (by kernel_rfl) (fun K hK => ?_)
   simp only [getElem_toArray,getElem_cons_succ,getElem_cons_zero]
   go_simp
   have h8 := h7.below (below_alloc1 w7 (.cells #[.int .i64 0,.int .i64 0,.int .i64 0] 71))
   have hP8 := hP7.below (below_alloc1 w7 (.cells #[.int .i64 0,.int .i64 0,.int .i64 0] 71))
   have hN8 := hN7.below (below_alloc1 w7 (.cells #[.int .i64 0,.int .i64 0,.int .i64 0] 71))
   have hX8 := new_row w7 71 [.int .i64 0,.int .i64 0,.int .i64 0]
   have hBu8 := hBu7.andBelow (below_alloc1 w7 (.cells #[.int .i64 0,.int .i64 0,.int .i64 0] 71))
   have hg1 : w7.heap.size ≠ B + 1 := fun e => by have := hN7.lt; omega
   have hgB : w7.heap.size ≠ B := fun e => by have := hP7.lt; omega
   have hgo : ¬ RnO r ga vd w7.heap.size := fun q => by have := h7.old _ q; omega
   have hgw : w.heap.size <= w7.heap.size := hBu7.size
   refine hK.out _ _ (fun _ => ⟨h8.f4,h8.qcell v hv,hP8.cell 0⟩) ?_
   clear hK K h7 hP7 hN7 hBu7 hSd
   change RowV 71 (w7.alloc (.cells #[.int .i64 0,.int .i64 0,.int .i64 0] 71)) w7.heap.size [.int .i64 0,.int .i64 0,.int .i64 0] at hX8
   generalize w7.alloc (.cells #[.int .i64 0,.int .i64 0,.int .i64 0] 71) = w8 at *
   generalize w7.heap.size = G at *
   have x0 : w8.cell? ⟨G,0,none⟩ = some (.int .i64 0) := hX8.cell 0
   have x1 : w8.cell? ⟨G,1,none⟩ = some (.int .i64 0) := hX8.cell 1
   have x2 : w8.cell? ⟨G,2,none⟩ = some (.int .i64 0) := hX8.cell 2
   have y0 := hX8.frozen 0
   have y1 := hX8.frozen 1
   have y2 := hX8.frozen 2
   refine wpAnyL_one (i := 13) rfl (by kernel_rfl) (fun K hK => ?_)
   simp only [getElem_toArray,getElem_cons_succ,getElem_cons_zero]
   go_simp
   have h9 := ((h8.aside G 0 (.int .i64 0) hgo).aside G 1 (.int .i64 0) hgo).aside G 2 (.int .i64 0) hgo
   have hP9 := ((hP8.aside (i := 0) (.int .i64 0) (Ne.symm hgB)).aside (i := 1) (.int .i64 0) (Ne.symm hgB)).aside (i := 2) (.int .i64 0) (Ne.symm hgB)
   have hN9 := ((hN8.aside (i := 0) (.int .i64 0) (Ne.symm hg1)).aside (i := 1) (.int .i64 0) (Ne.symm hg1)).aside (i := 2) (.int .i64 0) (Ne.symm hg1)
   have hX9 : RowV 71 _ G [.int .i64 0,.int .i64 0,.int .i64 0] := ((hX8.set 0 (.int .i64 0)).set 1 (.int .i64 0)).set 2 (.int .i64 0)
   have hBu9 := ((hBu8.aside G 0 (.int .i64 0) hgw).aside G 1 (.int .i64 0) hgw).aside G 2 (.int .i64 0) hgw
   refine hK.out _ _ (fun _ => ⟨h9.f4,h9.qcell v hv,hP9.cell 0⟩) ?_
   clear hK K h8 hP8 hN8 hX8 hBu8 x0 x1 x2 y0 y1 y2
   generalize ((w8.setCell ⟨G,0,none⟩ (.int .i64 0)).setCell ⟨G,1,none⟩ (.int .i64 0)).setCell ⟨G,2,none⟩ (.int .i64 0) = w9 at *
   refine wpAnyL_one (i := 14) rfl (by kernel_rfl) (fun K hK => ?_)
   simp only [getElem_toArray,getElem_cons_succ,getElem_cons_zero]
   go_simp
   refine hK.out _ _ (fun h => absurd rfl h) (wpAnyL_done (by kernel_rfl) ?_ _)
   clear hK K
   have hpu2 := hpu.out
   subst hpu2
   clear hpu
   go_wp2
   have hSe : (fun w' : World => w'.cell? ⟨r.g,4,none⟩ = some (.slice (some ⟨r.gd,0,none⟩) r.W r.W) /\ w'.cell? ⟨r.gd,u,none⟩ = some (.pointer (some ⟨r.q u,0,none⟩)) /\ w'.cell? ⟨B,1,none⟩ = some (.int .i64 (u : Int))) w9.drew := ⟨h9.f4,h9.qcell u hu,hP9.cell 1⟩
   refine wp_region_L (S := (fun w' : World => w'.cell? ⟨r.g,4,none⟩ = some (.slice (some ⟨r.gd,0,none⟩) r.W r.W) /\ w'.cell? ⟨r.gd,u,none⟩ = some (.pointer (some ⟨r.q u,0,none⟩)) /\ w'.cell? ⟨B,1,none⟩ = some (.int .i64 (u : Int)))) (s := 12) (by kernel_rfl) ?_
   refine tkL (i := 0) (v := ?vpd0) rfl rfl (Or.inl ⟨by rfl,?hypd0⟩) hSe ?restpd0
   case hypd0 =>
     intro w hSw
     (try dsimp only at hSw)
     go_simp
     all_goals with_reducible rfl
   simp only [Act.put,getElem_toArray,getElem_cons_zero,setIfInBounds_toArray,set_cons_zero,set_cons_succ]
   refine tkL (i := 1) (v := ?vpd1) rfl rfl (Or.inl ⟨by rfl,?hypd1⟩) hSe ?restpd1
   case hypd1 =>
     intro w hSw
     (try dsimp only at hSw)
     go_simp
     all_goals with_reducible rfl
   simp only [Act.put,getElem_toArray,getElem_cons_succ,getElem_cons_zero,setIfInBounds_toArray,set_cons_zero,set_cons_succ]
   refine tkL (i := 2) (v := ?vpd2) rfl rfl (Or.inl ⟨by rfl,?hypd2⟩) hSe ?restpd2
   case hypd2 =>
     intro w hSw
     (try dsimp only at hSw)
     go_simp
     all_goals with_reducible rfl
   simp only [Act.put,getElem_toArray,getElem_cons_succ,getElem_cons_zero,setIfInBounds_toArray,set_cons_zero,set_cons_succ]
   refine tkL (i := 3) (v := ?vpd3) rfl rfl (Or.inl ⟨by rfl,?hypd3⟩) hSe ?restpd3
   case hypd3 =>
     intro w hSw
     (try dsimp only at hSw)
     go_simp
     all_goals with_reducible rfl
   simp only [Act.put,getElem_toArray,getElem_cons_succ,getElem_cons_zero,setIfInBounds_toArray,set_cons_zero,set_cons_succ]
   refine tkL (i := 4) (v := ?vpd4) rfl rfl (Or.inl ⟨by rfl,?hypd4⟩) hSe ?restpd4
   case hypd4 =>
     intro w hSw
     (try dsimp only at hSw)
     go_simp
     all_goals with_reducible rfl
   simp only [Act.put,getElem_toArray,getElem_cons_succ,getElem_cons_zero,setIfInBounds_toArray,set_cons_zero,set_cons_succ]
   refine tkL (i := 5) (v := ?vpd5) rfl rfl (Or.inl ⟨by rfl,?hypd5⟩) hSe ?restpd5
   case hypd5 =>
     intro w hSw
     (try dsimp only at hSw)
     go_simp
     all_goals with_reducible rfl
   simp only [Act.put,getElem_toArray,getElem_cons_succ,getElem_cons_zero,setIfInBounds_toArray,set_cons_zero,set_cons_succ]
   refine tkL (i := 6) (v := ?vpd6) rfl rfl (Or.inl ⟨by rfl,?hypd6⟩) hSe ?restpd6
   case hypd6 =>
     intro w hSw
     (try dsimp only at hSw)
     go_simp
     all_goals with_reducible rfl
   simp only [Act.put,getElem_toArray,getElem_cons_succ,getElem_cons_zero,setIfInBounds_toArray,set_cons_zero,set_cons_succ]
   refine tkL (i := 7) (v := ?vpd7) rfl rfl (Or.inl ⟨by rfl,?hypd7⟩) hSe ?restpd7
   case hypd7 =>
     intro w hSw
     (try dsimp only at hSw)
     go_simp
     all_goals with_reducible rfl
   simp only [Act.put,getElem_toArray,getElem_cons_succ,getElem_cons_zero,setIfInBounds_toArray,set_cons_zero,set_cons_succ]
   refine wpAnyL_one (i := 8) rfl (by kernel_rfl) (fun K hK => ?_)
   simp only [getElem_toArray,getElem_cons_succ,getElem_cons_zero]
   go_simp
   have hd9 : Below w9.heap.size w9 w9.drew := below_drewN (Below.refl _ _) 1
   refine Calls.mono (cS w9.drew (h9.below hd9)) ?_
   rintro e wA ⟨rfl,OA,hDA,-,hbA⟩
   have hA := (h9.below hd9).hand u hu m2 hT2 hDA.own hbA
   have huB : r.q u < B := hold _ (.inr (.inr (.inr (.inr ⟨u,hu,rfl⟩))))
   have hNA : RowV 71 wA (B + 1) [.int .i64 0,.int .i64 0,.int .i64 0] := (hN9.below hd9).block (hbA.block _ (hN9.below hd9).lt (fun e => by omega))
   have hPA : RowV 82 wA B [.int .i64 (v : Int),.int .i64 (u : Int)] := (hP9.below hd9).block (hbA.block _ (hP9.below hd9).lt (fun e => by omega))
   have hBuA : But (RnO r ga vd) w wA := (hBu9.andBelow hd9).trans (O' := fun k => k = r.q u) hbA fun i e => .inl (.inr (.inr (.inr (.inr ⟨u,hu,e⟩))))
   have hSe : (fun w' : World => w'.cell? ⟨r.g,4,none⟩ = some (.slice (some ⟨r.gd,0,none⟩) r.W r.W) /\ w'.cell? ⟨r.gd,u,none⟩ = some (.pointer (some ⟨r.q u,0,none⟩)) /\ w'.cell? ⟨B,1,none⟩ = some (.int .i64 (u : Int))) wA := ⟨hA.f4,hA.qcell u hu,hPA.cell 1⟩
   refine hK.out _ _ (fun _ => hSe) ?_
   clear hK K cS h9 hP9 hN9 hX9 hBu9 hbA hDA hd9
   refine tkL (i := 9) (v := ?vpe9) rfl rfl (Or.inl ⟨by rfl,?hype9⟩) hSe ?restpe9
   case hype9 =>
     intro w hSw
     (try dsimp only at hSw)
     go_simp
     all_goals with_reducible rfl
   simp only [Act.put,getElem_toArray,getElem_cons_succ,getElem_cons_zero,setIfInBounds_toArray,set_cons_zero,set_cons_succ]
   refine tkL (i := 10) (v := ?vpe10) rfl rfl (Or.inl ⟨by rfl,?hype10⟩) hSe ?restpe10
   case hype10 =>
     intro w hSw
     (try dsimp only at hSw)
     go_simp
     all_goals with_reducible rfl
   simp only [Act.put,getElem_toArray,getElem_cons_succ,getElem_cons_zero,setIfInBounds_toArray,set_cons_zero,set_cons_succ]
   have z0 : wA.cell? ⟨B + 1,0,none⟩ = some (.int .i64 0) := hNA.cell 0
   have z1 : wA.cell? ⟨B + 1,1,none⟩ = some (.int .i64 0) := hNA.cell 1
   have z2 : wA.cell? ⟨B + 1,2,none⟩ = some (.int .i64 0) := hNA.cell 2
   have y0 := hNA.frozen 0
   have y1 := hNA.frozen 1
   have y2 := hNA.frozen 2
   have hgo1 : ¬ RnO r ga vd (B + 1) := fun q => by have := hold _ q; omega
   have hgw1 : w.heap.size <= B + 1 := by have := hB.out; omega
   refine wpAnyL_one (i := 11) rfl (by kernel_rfl) (fun K hK => ?_)
   simp only [getElem_toArray,getElem_cons_succ,getElem_cons_zero]
   go_simp
   have hE := ((hA.aside (B + 1) 0 (.int .i64 ta) hgo1).aside (B + 1) 1 (.int .i64 tb) hgo1).aside (B + 1) 2 (.int .i64 tcc) hgo1
   have hNE : RowV 71 _ (B + 1) [.int .i64 ta,.int .i64 tb,.int .i64 tcc] := ((hNA.set 0 (.int .i64 ta)).set 1 (.int .i64 tb)).set 2 (.int .i64 tcc)
   have hPE := ((hPA.aside (i := 0) (.int .i64 ta) (show B ≠ B + 1 by omega)).aside (i := 1) (.int .i64 tb) (show B ≠ B + 1 by omega)).aside (i := 2) (.int .i64 tcc) (show B ≠ B + 1 by omega)
   have hBuE := ((hBuA.aside (B + 1) 0 (.int .i64 ta) hgw1).aside (B + 1) 1 (.int .i64 tb) hgw1).aside (B + 1) 2 (.int .i64 tcc) hgw1
   refine hK.out _ _ (fun _ => ⟨hE.f4,hE.qcell u hu,hPE.cell 1⟩) ?_
   clear hK K hA hPA hNA hBuA z0 z1 z2 y0 y1 y2 hPE
   generalize ((wA.setCell ⟨B + 1,0,none⟩ (.int .i64 ta)).setCell ⟨B + 1,1,none⟩ (.int .i64 tb)).setCell ⟨B + 1,2,none⟩ (.int .i64 tcc) = wE at *
   refine wpAnyL_one (i := 12) rfl (by kernel_rfl) (fun K hK => ?_)
   simp only [getElem_toArray,getElem_cons_succ,getElem_cons_zero]
   go_simp
   refine hK.out _ _ (fun h => absurd rfl h) (wpAnyL_done (by kernel_rfl) ?_ _)
   clear hK K
   have z0 : wE.cell? ⟨B + 1,0,none⟩ = some (.int .i64 ta) := hNE.cell 0
   have z1 : wE.cell? ⟨B + 1,1,none⟩ = some (.int .i64 tb) := hNE.cell 1
   have z2 : wE.cell? ⟨B + 1,2,none⟩ = some (.int .i64 tcc) := hNE.cell 2
   go_wp2
   refine bodyPost_ret (v := .tuple #[.agg #[.int .i64 ta,.int .i64 tb,.int .i64 tcc],.bool f]) (by simp [results,Tryd.results90,go_sem,z0,z1,z2]) rfl ?_
   exact ⟨rfl,hE,hBuE⟩
 · simp only [getElem_toArray,getElem_cons_succ,getElem_cons_zero]
   go_simp
   have hd8 : Below W2.heap.size W2 (W2.alloc (.cells #[.int .i64 0,.int .i64 0,.int .i64 0] 71)).drew := below_drewN (below_alloc1 W2 (.cells #[.int .i64 0,.int .i64 0,.int .i64 0] 71)) 1
   have h8 := h2.below hd8
   have hP8 := hP2.below hd8
   have hN8 := hN2.below hd8
   have hX8 : RowV 71 (W2.alloc (.cells #[.int .i64 0,.int .i64 0,.int .i64 0] 71)).drew W2.heap.size [.int .i64 0,.int .i64 0,.int .i64 0] := new_row W2 71 [.int .i64 0,.int .i64 0,.int .i64 0]
   rw [hs2] at hX8
   have hBu8 := hBu2.andBelow hd8
   have hSd : (fun w' : World => w'.cell? ⟨r.g,4,none⟩ = some (.slice (some ⟨r.gd,0,none⟩) r.W r.W) /\ w'.cell? ⟨r.gd,v,none⟩ = some (.pointer (some ⟨r.q v,0,none⟩)) /\ w'.cell? ⟨B,0,none⟩ = some (.int .i64 (v : Int))) (W2.alloc (.cells #[.int .i64 0,.int .i64 0,.int .i64 0] 71)).drew := ⟨h8.f4,h8.qcell v hv,hP8.cell 0⟩
   refine hK.out _ _ (fun _ => hSd) ?_
   clear hK K h2 hP2 hN2 hBu2 hd2 hd8
   generalize (W2.alloc (.cells #[.int .i64 0,.int .i64 0,.int .i64 0] 71)).drew = w6 at *
   refine wpAnyL_one (i := 8) rfl (by kernel_rfl) (fun K hK => ?_)
   simp only [getElem_toArray,getElem_cons_succ,getElem_cons_zero]
   go_simp
   refine Calls.mono (cP w6 h8) ?_
   rintro e w7 ⟨rfl,O7,hD7,-,hb7⟩
   have h7 := h8.hand v hv [] hT hD7.own hb7
   have hlq := (h8.dq v hv).old _ rfl
   have hql : r.q v < B := hold _ (.inr (.inr (.inr (.inr ⟨v,hv,rfl⟩))))
   have hP7 : RowV 82 w7 B [.int .i64 (v : Int),.int .i64 pu] := hP8.block (hb7.block _ hP8.lt (fun e => by omega))
   have hN7 : RowV 71 w7 (B + 1) [.int .i64 0,.int .i64 0,.int .i64 0] := hN8.block (hb7.block _ hN8.lt (fun e => by omega))
   have hBu7 : But (RnO r ga vd) w w7 := hBu8.trans (O' := fun k => k = r.q v) hb7 fun i e => .inl (.inr (.inr (.inr (.inr ⟨v,hv,e⟩))))
   rw [hsame.out] at h7
   have hX7 : RowV 71 w7 (B + 2) [.int .i64 0,.int .i64 0,.int .i64 0] := hX8.block (hb7.block _ hX8.lt (fun e => by omega))
   have hSd : (fun w' : World => w'.cell? ⟨r.g,4,none⟩ = some (.slice (some ⟨r.gd,0,none⟩) r.W r.W) /\ w'.cell? ⟨r.gd,v,none⟩ = some (.pointer (some ⟨r.q v,0,none⟩)) /\ w'.cell? ⟨B,0,none⟩ = some (.int .i64 (v : Int))) w7 := ⟨h7.f4,h7.qcell v hv,hP7.cell 0⟩
   refine hK.out _ _ (fun _ => hSd) ?_
   clear hK K cP h8 hP8 hN8 hX8 hBu8 hb7 hD7
   refine tkL (i := 9) (v := ?vc9) rfl rfl (Or.inl ⟨by rfl,?hyc9⟩) hSd ?restc9
   case hyc9 =>
     intro w hSw
     (try dsimp only at hSw)
     go_simp
     all_goals with_reducible rfl
   simp only [Act.put,getElem_toArray,getElem_cons_succ,getElem_cons_zero,setIfInBounds_toArray,set_cons_zero,set_cons_succ]
   refine tkL (i := 10) (v := ?vc10) rfl rfl (Or.inl ⟨by rfl,?hyc10⟩) hSd ?restc10
   case hyc10 =>
     intro w hSw
     (try dsimp only at hSw)
     go_simp
     all_goals with_reducible rfl
   simp only [Act.put,getElem_toArray,getElem_cons_succ,getElem_cons_zero,setIfInBounds_toArray,set_cons_zero,set_cons_succ]
   refine tkL (i := 11) (v := ?vc11) rfl rfl (Or.inl ⟨by rfl,?hyc11⟩) hSd ?restc11
   case hyc11 =>
     intro w hSw
     (try dsimp only at hSw)
     go_simp
     all_goals with_reducible rfl
   simp only [Act.put,getElem_toArray,getElem_cons_succ,getElem_cons_zero,setIfInBounds_toArray,set_cons_zero,set_cons_succ]
   have hg1 : B + 2 ≠ B + 1 := by omega
   have hgB : B + 2 ≠ B := by omega
   have hgo : ¬ RnO r ga vd (B + 2) := fun q => by have := hold _ q; omega
   have hgw : w.heap.size <= B + 2 := by have := hB.out; omega
   have h8 := h7
   have hP8 := hP7
   have hN8 := hN7
   have hX8 := hX7
   have hBu8 := hBu7
   clear h7 hP7 hN7 hX7 hBu7
   generalize w7 = w8 at *
   generalize B + 2 = G at *
   have x0 : w8.cell? ⟨G,0,none⟩ = some (.int .i64 0) := hX8.cell 0
   have x1 : w8.cell? ⟨G,1,none⟩ = some (.int .i64 0) := hX8.cell 1
   have x2 : w8.cell? ⟨G,2,none⟩ = some (.int .i64 0) := hX8.cell 2
   have y0 := hX8.frozen 0
   have y1 := hX8.frozen 1
   have y2 := hX8.frozen 2
   refine wpAnyL_one (i := 13) rfl (by kernel_rfl) (fun K hK => ?_)
   simp only [getElem_toArray,getElem_cons_succ,getElem_cons_zero]
   go_simp
   have h9 := ((h8.aside G 0 (.int .i64 0) hgo).aside G 1 (.int .i64 0) hgo).aside G 2 (.int .i64 0) hgo
   have hP9 := ((hP8.aside (i := 0) (.int .i64 0) (Ne.symm hgB)).aside (i := 1) (.int .i64 0) (Ne.symm hgB)).aside (i := 2) (.int .i64 0) (Ne.symm hgB)
   have hN9 := ((hN8.aside (i := 0) (.int .i64 0) (Ne.symm hg1)).aside (i := 1) (.int .i64 0) (Ne.symm hg1)).aside (i := 2) (.int .i64 0) (Ne.symm hg1)
   have hX9 : RowV 71 _ G [.int .i64 0,.int .i64 0,.int .i64 0] := ((hX8.set 0 (.int .i64 0)).set 1 (.int .i64 0)).set 2 (.int .i64 0)
   have hBu9 := ((hBu8.aside G 0 (.int .i64 0) hgw).aside G 1 (.int .i64 0) hgw).aside G 2 (.int .i64 0) hgw
   refine hK.out _ _ (fun _ => ⟨h9.f4,h9.qcell v hv,hP9.cell 0⟩) ?_
   clear hK K h8 hP8 hN8 hX8 hBu8 x0 x1 x2 y0 y1 y2
   generalize ((w8.setCell ⟨G,0,none⟩ (.int .i64 0)).setCell ⟨G,1,none⟩ (.int .i64 0)).setCell ⟨G,2,none⟩ (.int .i64 0) = w9 at *
   refine wpAnyL_one (i := 14) rfl (by kernel_rfl) (fun K hK => ?_)
   simp only [getElem_toArray,getElem_cons_succ,getElem_cons_zero]
   go_simp
   refine hK.out _ _ (fun h => absurd rfl h) (wpAnyL_done (by kernel_rfl) ?_ _)
   clear hK K
   have hpu2 := hpu.out
   subst hpu2
   clear hpu
   go_wp2
   have hSe : (fun w' : World => w'.cell? ⟨r.g,4,none⟩ = some (.slice (some ⟨r.gd,0,none⟩) r.W r.W) /\ w'.cell? ⟨r.gd,u,none⟩ = some (.pointer (some ⟨r.q u,0,none⟩)) /\ w'.cell? ⟨B,1,none⟩ = some (.int .i64 (u : Int))) w9.drew := ⟨h9.f4,h9.qcell u hu,hP9.cell 1⟩
   refine wp_region_L (S := (fun w' : World => w'.cell? ⟨r.g,4,none⟩ = some (.slice (some ⟨r.gd,0,none⟩) r.W r.W) /\ w'.cell? ⟨r.gd,u,none⟩ = some (.pointer (some ⟨r.q u,0,none⟩)) /\ w'.cell? ⟨B,1,none⟩ = some (.int .i64 (u : Int)))) (s := 12) (by kernel_rfl) ?_
   refine tkL (i := 0) (v := ?vqd0) rfl rfl (Or.inl ⟨by rfl,?hyqd0⟩) hSe ?restqd0
   case hyqd0 =>
     intro w hSw
     (try dsimp only at hSw)
     go_simp
     all_goals with_reducible rfl
   simp only [Act.put,getElem_toArray,getElem_cons_zero,setIfInBounds_toArray,set_cons_zero,set_cons_succ]
   refine tkL (i := 1) (v := ?vqd1) rfl rfl (Or.inl ⟨by rfl,?hyqd1⟩) hSe ?restqd1
   case hyqd1 =>
     intro w hSw
     (try dsimp only at hSw)
     go_simp
     all_goals with_reducible rfl
   simp only [Act.put,getElem_toArray,getElem_cons_succ,getElem_cons_zero,setIfInBounds_toArray,set_cons_zero,set_cons_succ]
   refine tkL (i := 2) (v := ?vqd2) rfl rfl (Or.inl ⟨by rfl,?hyqd2⟩) hSe ?restqd2
   case hyqd2 =>
     intro w hSw
     (try dsimp only at hSw)
     go_simp
     all_goals with_reducible rfl
   simp only [Act.put,getElem_toArray,getElem_cons_succ,getElem_cons_zero,setIfInBounds_toArray,set_cons_zero,set_cons_succ]
   refine tkL (i := 3) (v := ?vqd3) rfl rfl (Or.inl ⟨by rfl,?hyqd3⟩) hSe ?restqd3
   case hyqd3 =>
     intro w hSw
     (try dsimp only at hSw)
     go_simp
     all_goals with_reducible rfl
   simp only [Act.put,getElem_toArray,getElem_cons_succ,getElem_cons_zero,setIfInBounds_toArray,set_cons_zero,set_cons_succ]
   refine tkL (i := 4) (v := ?vqd4) rfl rfl (Or.inl ⟨by rfl,?hyqd4⟩) hSe ?restqd4
   case hyqd4 =>
     intro w hSw
     (try dsimp only at hSw)
     go_simp
     all_goals with_reducible rfl
   simp only [Act.put,getElem_toArray,getElem_cons_succ,getElem_cons_zero,setIfInBounds_toArray,set_cons_zero,set_cons_succ]
   refine tkL (i := 5) (v := ?vqd5) rfl rfl (Or.inl ⟨by rfl,?hyqd5⟩) hSe ?restqd5
   case hyqd5 =>
     intro w hSw
     (try dsimp only at hSw)
     go_simp
     all_goals with_reducible rfl
   simp only [Act.put,getElem_toArray,getElem_cons_succ,getElem_cons_zero,setIfInBounds_toArray,set_cons_zero,set_cons_succ]
   refine tkL (i := 6) (v := ?vqd6) rfl rfl (Or.inl ⟨by rfl,?hyqd6⟩) hSe ?restqd6
   case hyqd6 =>
     intro w hSw
     (try dsimp only at hSw)
     go_simp
     all_goals with_reducible rfl
   simp only [Act.put,getElem_toArray,getElem_cons_succ,getElem_cons_zero,setIfInBounds_toArray,set_cons_zero,set_cons_succ]
   refine tkL (i := 7) (v := ?vqd7) rfl rfl (Or.inl ⟨by rfl,?hyqd7⟩) hSe ?restqd7
   case hyqd7 =>
     intro w hSw
     (try dsimp only at hSw)
     go_simp
     all_goals with_reducible rfl
   simp only [Act.put,getElem_toArray,getElem_cons_succ,getElem_cons_zero,setIfInBounds_toArray,set_cons_zero,set_cons_succ]
   refine wpAnyL_one (i := 8) rfl (by kernel_rfl) (fun K hK => ?_)
   simp only [getElem_toArray,getElem_cons_succ,getElem_cons_zero]
   go_simp
   have hd9 : Below w9.heap.size w9 w9.drew := below_drewN (Below.refl _ _) 1
   refine Calls.mono (cS w9.drew (h9.below hd9)) ?_
   rintro e wA ⟨rfl,OA,hDA,-,hbA⟩
   have hA := (h9.below hd9).hand u hu m2 hT2 hDA.own hbA
   have huB : r.q u < B := hold _ (.inr (.inr (.inr (.inr ⟨u,hu,rfl⟩))))
   have hNA : RowV 71 wA (B + 1) [.int .i64 0,.int .i64 0,.int .i64 0] := (hN9.below hd9).block (hbA.block _ (hN9.below hd9).lt (fun e => by omega))
   have hPA : RowV 82 wA B [.int .i64 (v : Int),.int .i64 (u : Int)] := (hP9.below hd9).block (hbA.block _ (hP9.below hd9).lt (fun e => by omega))
   have hBuA : But (RnO r ga vd) w wA := (hBu9.andBelow hd9).trans (O' := fun k => k = r.q u) hbA fun i e => .inl (.inr (.inr (.inr (.inr ⟨u,hu,e⟩))))
   have hSe : (fun w' : World => w'.cell? ⟨r.g,4,none⟩ = some (.slice (some ⟨r.gd,0,none⟩) r.W r.W) /\ w'.cell? ⟨r.gd,u,none⟩ = some (.pointer (some ⟨r.q u,0,none⟩)) /\ w'.cell? ⟨B,1,none⟩ = some (.int .i64 (u : Int))) wA := ⟨hA.f4,hA.qcell u hu,hPA.cell 1⟩
   refine hK.out _ _ (fun _ => hSe) ?_
   clear hK K cS h9 hP9 hN9 hX9 hBu9 hbA hDA hd9
   refine tkL (i := 9) (v := ?vqe9) rfl rfl (Or.inl ⟨by rfl,?hyqe9⟩) hSe ?restqe9
   case hyqe9 =>
     intro w hSw
     (try dsimp only at hSw)
     go_simp
     all_goals with_reducible rfl
   simp only [Act.put,getElem_toArray,getElem_cons_succ,getElem_cons_zero,setIfInBounds_toArray,set_cons_zero,set_cons_succ]
   refine tkL (i := 10) (v := ?vqe10) rfl rfl (Or.inl ⟨by rfl,?hyqe10⟩) hSe ?restqe10
   case hyqe10 =>
     intro w hSw
     (try dsimp only at hSw)
     go_simp
     all_goals with_reducible rfl
   simp only [Act.put,getElem_toArray,getElem_cons_succ,getElem_cons_zero,setIfInBounds_toArray,set_cons_zero,set_cons_succ]
   have z0 : wA.cell? ⟨B + 1,0,none⟩ = some (.int .i64 0) := hNA.cell 0
   have z1 : wA.cell? ⟨B + 1,1,none⟩ = some (.int .i64 0) := hNA.cell 1
   have z2 : wA.cell? ⟨B + 1,2,none⟩ = some (.int .i64 0) := hNA.cell 2
   have y0 := hNA.frozen 0
   have y1 := hNA.frozen 1
   have y2 := hNA.frozen 2
   have hgo1 : ¬ RnO r ga vd (B + 1) := fun q => by have := hold _ q; omega
   have hgw1 : w.heap.size <= B + 1 := by have := hB.out; omega
   refine wpAnyL_one (i := 11) rfl (by kernel_rfl) (fun K hK => ?_)
   simp only [getElem_toArray,getElem_cons_succ,getElem_cons_zero]
   go_simp
   have hE := ((hA.aside (B + 1) 0 (.int .i64 ta) hgo1).aside (B + 1) 1 (.int .i64 tb) hgo1).aside (B + 1) 2 (.int .i64 tcc) hgo1
   have hNE : RowV 71 _ (B + 1) [.int .i64 ta,.int .i64 tb,.int .i64 tcc] := ((hNA.set 0 (.int .i64 ta)).set 1 (.int .i64 tb)).set 2 (.int .i64 tcc)
   have hPE := ((hPA.aside (i := 0) (.int .i64 ta) (show B ≠ B + 1 by omega)).aside (i := 1) (.int .i64 tb) (show B ≠ B + 1 by omega)).aside (i := 2) (.int .i64 tcc) (show B ≠ B + 1 by omega)
   have hBuE := ((hBuA.aside (B + 1) 0 (.int .i64 ta) hgw1).aside (B + 1) 1 (.int .i64 tb) hgw1).aside (B + 1) 2 (.int .i64 tcc) hgw1
   refine hK.out _ _ (fun _ => ⟨hE.f4,hE.qcell u hu,hPE.cell 1⟩) ?_
   clear hK K hA hPA hNA hBuA z0 z1 z2 y0 y1 y2 hPE
   generalize ((wA.setCell ⟨B + 1,0,none⟩ (.int .i64 ta)).setCell ⟨B + 1,1,none⟩ (.int .i64 tb)).setCell ⟨B + 1,2,none⟩ (.int .i64 tcc) = wE at *
   refine wpAnyL_one (i := 12) rfl (by kernel_rfl) (fun K hK => ?_)
   simp only [getElem_toArray,getElem_cons_succ,getElem_cons_zero]
   go_simp
   refine hK.out _ _ (fun h => absurd rfl h) (wpAnyL_done (by kernel_rfl) ?_ _)
   clear hK K
   have z0 : wE.cell? ⟨B + 1,0,none⟩ = some (.int .i64 ta) := hNE.cell 0
   have z1 : wE.cell? ⟨B + 1,1,none⟩ = some (.int .i64 tb) := hNE.cell 1
   have z2 : wE.cell? ⟨B + 1,2,none⟩ = some (.int .i64 tcc) := hNE.cell 2
   go_wp2
   refine bodyPost_ret (v := .tuple #[.agg #[.int .i64 ta,.int .i64 tb,.int .i64 tcc],.bool f]) (by simp [results,Tryd.results90,go_sem,z0,z1,z2]) rfl ?_
   exact ⟨rfl,hE,hBuE⟩
end
end Go.Proofs.YtckoipoejaafhaaDoor
