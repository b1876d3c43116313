/-
 Texts that stood one behind the other,as one.
-/
import Derived.Test.YtckoipoejaafhaaDoorExP
import Derived.Test.YtckoipoejaafhaaDoorPlanDAll
import Derived.Test.YtckoipoejaafhaaDoorCeUAll
import Derived.Test.YtckoipoejaafhaaDoorCeUAll
import Derived.Test.YtckoipoejaafhaaDoorCeUAll
import Derived.Test.YtckoipoejaafhaaDoorSlMakeAll
import Derived.Test.YtckoipoejaafhaaDoorSlAll
import Derived.Test.YtckoipoejaafhaaDoorManyCAll
import Derived.Test.YtckoipoejaafhaaDoorCcWtAll
namespace Go.Proofs.YtckoipoejaafhaaDoor
open Go.RowKit
set_option maxRecDepth 100000
set_option maxHeartbeats 1000000 in
theorem exec_normAll (w : World) (va : Value) (xs : List Nat) (n : Nat) (hU : IsU w va xs) (hl : xs.length = n) (hn : n <= 1024) :
   Calls Tryd.prog 85 #[va] w fun e w' => ∃ g,e = .returned (.slice (some ⟨g,0,none⟩) n n) /\ w.heap.size <= g /\ RowU w' g (nmL xs) /\ Below w.heap.size w w' := by
 obtain ⟨aa,ca,rfl,hca,hmx,hcell0,hrg⟩ := hU
 rw [hl] at hcell0 ⊢
 have hcell : Hid _ := hcell0
 have hrng : Hid (∀ i,((xs.getD i 0 : Nat) : Int) < 18446744073709551616) := range_getD hrg
 clear hcell0
 have hl' : Hid (xs.length = n) := hl
 clear hl hrg
 go_enter Tryd.func85,Tryd.ntmps85
 go_wp2_with (at_make; refine wp_makeG rfl _ _ rfl n rfl rfl (by omega) ?_; intro g w1 hg hrow hb1)
 go_loopw [11] (fun vi wr => ∃ (i : Nat),i <= n /\ vi = .int .i64 (i : Int) /\ RowU wr g (nmK xs i) /\ Below w.heap.size w wr)
   (fun vi _ => n - (intOf vi).toNat)
 case atStart => exact ⟨0,Nat.zero_le _,rfl,by rw [nmK_zero,hl'.out]; exact hrow,hb1⟩
 case round =>
   clear hrow hb1
   obtain ⟨i,hi,rfl,hrow,hb⟩ := hrel
   have hlg := hrow.lt
   by_cases hlt : i < n
   · obtain ⟨b,off,rfl,hc⟩ := hcell.out i hlt
     have hc2 := (hb.cell (block_lt hc)).trans hc
     have hx := hrng.out i
     have hz := hrow.frozen i
     have hgi := hrow.cell i (by rw [nmK_length,hl'.out]; exact hlt)
     have hset : Hid (RowU (wr.setCell ⟨g,i,none⟩ (.int .u64 ((fN (xs.getD i 0) : Nat) : Int))) g (nmK xs (i + 1))) := RowU.cast (hrow.set i _) (nmK_set xs i)
     have hbs : Hid (Below w.heap.size w (wr.setCell ⟨g,i,none⟩ (.int .u64 ((fN (xs.getD i 0) : Nat) : Int)))) := hb.trans (((Bar.refl g wr).setCell i _).below (by have := hg.out; omega) hb.size)
     have cN := field_Norm (xs.getD i 0) hx
     clear hrow hc
     generalize xs.getD i 0 = x at *
     go_wp2_with (go_at_call 21; refine Calls.mono (cN _) ?_; rintro e w2 ⟨rfl,hw⟩; rw [hw]; clear hw cN)
     go_roundw
     case rel => exact ⟨i + 1,by omega,by go_num,hset.out,hbs.out⟩
     case measure => simp only [intOf]; omega
   · have he : i = n := by omega
     subst he
     clear hlt hi
     go_wp2
     go_ret
     exact ⟨g,rfl,Nat.le_of_eq hg.out.symm,RowU.cast hrow (by rw [<- hl'.out,nmK_all]),hb⟩
structure Cl (B : Nat) (w : World) (G n : Nat) (pv : Nat -> Value) (L : List (List (List Int))) (k : Nat) : Prop where
 row : RowV 69 w G (pvs (fun i => if i < k then pv i else .slice none 0 0) n)
 own : ∀ i,i < k -> IsR 3 w (pv i) (L.getD i []) /\ ∃ b,(pv i).ownBlock = some b /\ B <= b /\ b ≠ G /\ b < w.heap.size
theorem pvs_set (p q : Nat -> Value) (n k : Nat) (v : Value) (h : ∀ i,i < n -> q i = if i = k then v else p i) : (pvs p n).set k v = pvs q n := by
 unfold pvs
 apply List.ext_getElem?
 intro i
 rcases Nat.lt_or_ge i n with hi | hi
 · by_cases e : k = i
   · subst e
     rw [List.getElem?_set_self (by simpa using hi)]
     simp [hi,h k hi]
   · rw [List.getElem?_set_ne e]
     simp [hi,h i hi,Ne.symm e]
 · rw [List.getElem?_eq_none (by simpa using hi),List.getElem?_eq_none (by simpa using hi)]
theorem pvs_none (n : Nat) : pvs (fun _ => Value.slice none 0 0) n = List.replicate n (Value.slice none 0 0) := by
 unfold pvs
 apply List.ext_getElem?
 intro i
 rcases Nat.lt_or_ge i n with hi | hi
 · simp [hi]
 · rw [List.getElem?_eq_none (by simpa using hi),List.getElem?_eq_none (by simpa using hi)]
theorem Cl.step {B : Nat} {w w' : World} {G n k : Nat} {pv : Nat -> Value} {L : List (List (List Int))} {v : Value} (h : Cl B w G n pv L k) (hb : Below w.heap.size w w') (hv : IsR 3 w' v (L.getD k [])) (hB : B <= w.heap.size) (ho : ∃ b,v.ownBlock = some b /\ w.heap.size <= b /\ b < w'.heap.size) (hG : G < w.heap.size) :
   Cl B (w'.setCell ⟨G,k,none⟩ v) G n (fun i => if i = k then v else pv i) L (k + 1) := by
 have hset : ∀ b,b ≠ G -> (w'.setCell ⟨G,k,none⟩ v).heap[b]? = w'.heap[b]? := fun b hb => Below.heap_setCell _ _ _ _ hb
 obtain ⟨bv,e1,e2,e3⟩ := ho
 refine ⟨?_,fun i hi => ?_⟩
 · refine RowV.cast ((h.row.below hb).set k v) (pvs_set _ _ _ _ _ fun i _ => ?_)
   by_cases e : i = k
   · rw [if_pos (by omega),if_pos e,if_pos e]
   · rw [if_neg e,if_neg e]
     by_cases e2 : i < k
     · rw [if_pos (by omega),if_pos e2]
     · rw [if_neg (by omega),if_neg e2]
 · by_cases e : i = k
   · subst e
     simp only [if_true]
     refine ⟨hv.at fun b hb => hset b ?_,bv,e1,by omega,by omega,by simpa [World.setCell] using e3⟩
     rw [e1] at hb
     obtain rfl := Option.some.inj hb
     omega
   · simp only [if_neg e]
     obtain ⟨h1,b,q1,q2,q3,q4⟩ := h.own i (by omega)
     refine ⟨(h1.below hb).at fun b' hb' => hset b' ?_,b,q1,q2,q3,?_⟩
     · rw [q1] at hb'
       obtain rfl := Option.some.inj hb'
       exact q3
     · have := hb.size
       simp [World.setCell]; omega
set_option maxHeartbeats 1000000 in
theorem exec_clonePhases (w : World) (vl : Value) (L : List (List (List Int))) (n : Nat) (hP : IsP 3 w vl L) (hl : L.length = n) (hn : n <= 1000) (h0 : ∀ i,i < n -> 0 < (L.getD i []).length /\ (L.getD i []).length <= 64) :
   Calls Tryd.prog 86 #[vl] w fun e w' => ∃ G pv,e = .returned (.slice (some ⟨G,0,none⟩) n n) /\ w.heap.size <= G /\ Cl w.heap.size w' G n pv L n /\ Below w.heap.size w w' := by
 obtain ⟨al,cl,rfl,hcl,hmx,hcell0⟩ := hP
 rw [hl] at hcell0 ⊢
 have hcell : Hid _ := hcell0
 have h0' : Hid _ := h0
 clear hcell0 hl h0
 go_enter Tryd.func86,Tryd.ntmps86
 go_wp2_with (at_make; refine wp_makeV rfl _ _ _ 69 rfl (.slice none 0 0) 1 24 Tryd.underlying24 info_phase n _ (made_phase n) rfl rfl (by omega) (by decide) ?_; intro G w1 hG hrow hb1)
 go_loopw [11] (fun vi wr => ∃ (i : Nat) (pv : Nat -> Value),i <= n /\ vi = .int .i64 (i : Int) /\ Hid (Cl w.heap.size wr G n pv L i) /\ Below w.heap.size w wr)
   (fun vi _ => n - (intOf vi).toNat)
 case atStart => exact ⟨0,fun _ => .slice none 0 0,Nat.zero_le _,rfl,⟨RowV.cast hrow (by rw [<- pvs_none]; congr 1),fun i hi => absurd hi (by omega)⟩,hb1⟩
 case round =>
   clear hrow hb1
   obtain ⟨i,pv,hi,rfl,hC,hb⟩ := hrel
   have hlg := hC.out.row.lt
   by_cases hlt : i < n
   · obtain ⟨b,off,u,rfl,hc,hR⟩ := hcell.out i hlt
     obtain ⟨q1,q2⟩ := h0'.out i hlt
     have hc2 := (hb.cell (block_lt hc)).trans hc
     have cC := slices_CloneT wr u (L.getD i []) (hR.below hb) q1 (by omega)
     have hT3 : Hid (T3 (L.getD i [])) := by obtain ⟨_,_,_,_,_,_,q⟩ := hR; exact q
     obtain ⟨au,cu,rfl,-⟩ := hR
     obtain ⟨m,hm⟩ : ∃ m,Hid (m = (L.getD i []).length) := ⟨_,rfl⟩
     rw [<- hm.out] at hc hc2 cC q1 q2
     have hz := hC.out.row.frozen i
     have hgi := hC.out.row.cell i
     rw [pvs_get _ _ _ hlt,if_neg (by omega)] at hgi
     have hin : (i : Int) < (n : Int) := by omega
     have hfin : Hid (∀ g2 c2 w2,w2.ownsRow wr.heap.size 71 3 (.slice (some ⟨g2,0,none⟩) m c2) m (tc (L.getD i [])) -> Below wr.heap.size wr w2 -> (w2.cell? ⟨G,i,none⟩ = some (.slice none 0 0) /\ w2.frozen? ⟨G,i,none⟩ = false) /\ Cl w.heap.size (w2.setCell ⟨G,i,none⟩ (.slice (some ⟨g2,0,none⟩) m c2)) G n (fun j => if j = i then .slice (some ⟨g2,0,none⟩) m c2 else pv j) L (i + 1) /\ Below w.heap.size w (w2.setCell ⟨G,i,none⟩ (.slice (some ⟨g2,0,none⟩) m c2))) := fun g2 c2 w2 hown hb2 => by
       have r2 := hC.out.row.below hb2
       refine ⟨⟨?_,r2.frozen i⟩,hC.out.step hb2 (IsR.of_owns hown hT3.out) hb.size ⟨g2,rfl,(owns_in hown rfl).2,(owns_in hown rfl).1⟩ hlg,?_⟩
       · rw [r2.cell,pvs_get _ _ _ hlt,if_neg (by omega)]
       · exact (hb.trans (hb2.mono hb.size)).trans (((Bar.refl G w2).setCell i _).below (by have := hG.out; omega) (by have := hb.size; have := hb2.size; omega))
     clear hC hc
     go_wp2_with (go_at_call 130; refine Calls.mono cC ?_; rintro e w2 ⟨g2,c2,rfl,hown,hb2⟩; clear cC; obtain ⟨⟨y0,y1⟩,hC2,hb3⟩ := hfin.out g2 c2 w2 hown hb2; clear hfin hown; replace hC2 : Hid _ := hC2)
     go_roundw
     case rel => exact ⟨i + 1,_,by omega,by go_num,hC2,hb3⟩
     case measure => simp only [intOf]; omega
   · have he : i = n := by omega
     subst he
     clear hlt hi
     go_wp2
     go_ret
     exact ⟨G,pv,rfl,Nat.le_of_eq hG.out.symm,hC.out,hb⟩
theorem info_ptr : (Tryd.prog.info? 171).map (fun i => (i.zero,i.size,i.bytes)) = some (some (.pointer none),1,8) := by kernel_rfl
theorem made_ptr (n : Nat) : (madeCells (Value.pointer none).cells (n * 1)).toList = List.replicate n (Value.pointer none) := by
 rw [show (Value.pointer none).cells = #[Value.pointer none] from rfl,Nat.mul_one,toList_madeCells_one]
def pt (q : Nat -> Nat) (i : Nat) : Value := .pointer (some ⟨q i,0,none⟩)
structure Mk (B : Nat) (w : World) (G n : Nat) (q : Nat -> Nat) (k : Nat) : Prop where
 row : RowV 171 w G (pvs (fun i => if i < k then pt q i else .pointer none) n)
 own : ∀ i,i < k -> Dq w (.pointer (some ⟨q i,0,none⟩)) 64 [] (fun b => b = q i) /\ B <= q i /\ q i ≠ G
 inj : ∀ i j,i < k -> j < k -> i ≠ j -> q i ≠ q j
theorem Mk.step {B : Nat} {w w' : World} {G n k g : Nat} {q : Nat -> Nat} {O : Nat -> Prop} (h : Mk B w G n q k) (hb : Below w.heap.size w w') (hD : Dq w' (.pointer (some ⟨g,0,none⟩)) 64 [] O) (hg : w.heap.size <= g) (hB : B <= w.heap.size) (hG : G < w.heap.size) :
   Mk B (w'.setCell ⟨G,k,none⟩ (.pointer (some ⟨g,0,none⟩))) G n (fun i => if i = k then g else q i) (k + 1) := by
 have hset : ∀ b,b ≠ G -> (w'.setCell ⟨G,k,none⟩ (.pointer (some ⟨g,0,none⟩))).heap[b]? = w'.heap[b]? := fun b hb => Below.heap_setCell _ _ _ _ hb
 have hlt : ∀ i,i < k -> q i < w.heap.size := fun i hi => (h.own i hi).1.old _ rfl
 refine ⟨?_,fun i hi => ?_,fun i j hi hj hne => ?_⟩
 · refine RowV.cast ((h.row.below hb).set k (.pointer (some ⟨g,0,none⟩))) (pvs_set _ _ _ _ _ fun i _ => ?_)
   by_cases e : i = k
   · rw [if_pos (by omega),if_pos e]; simp [pt,e]
   · rw [if_neg e]
     by_cases e2 : i < k
     · rw [if_pos (by omega),if_pos e2]; simp [pt,e]
     · rw [if_neg (by omega),if_neg e2]
 · by_cases e : i = k
   · subst e
     simp only [if_true]
     exact ⟨hD.own.kept fun b e => hset b (by rw [e]; omega),by omega,by omega⟩
   · simp only [if_neg e]
     obtain ⟨h1,h2,h3⟩ := h.own i (by omega)
     exact ⟨h1.kept fun b e => (hset b (by rw [e]; exact h3)).trans (hb.block b (by rw [e]; exact hlt i (by omega))),h2,h3⟩
 · by_cases e : i = k
   · subst e
     have := hlt j (by omega)
     simp only [if_true,if_neg (Ne.symm hne)]
     omega
   · by_cases e2 : j = k
     · subst e2
       have := hlt i (by omega)
       simp only [if_true,if_neg hne]
       omega
     · simp only [if_neg e,if_neg e2]
       exact h.inj i j (by omega) (by omega) hne
theorem pvs_nil (n : Nat) (v : Value) : pvs (fun _ => v) n = List.replicate n v := by
 unfold pvs
 apply List.ext_getElem?
 intro i
 rcases Nat.lt_or_ge i n with hi | hi
 · simp [hi]
 · rw [List.getElem?_eq_none (by simpa using hi),List.getElem?_eq_none (by simpa using hi)]
set_option maxHeartbeats 1000000 in
theorem exec_makeDeques (w : World) (n : Nat) (hn : n <= 8) :
   Calls Tryd.prog 87 #[.int .i64 (n : Int)] w fun e w' => ∃ G q,e = .returned (.slice (some ⟨G,0,none⟩) n n) /\ w.heap.size <= G /\ Mk w.heap.size w' G n q n /\ Below w.heap.size w w' := by
 have cN : Hid (∀ W,Calls Tryd.prog 131 #[.int .i64 64] W fun e w' => ∃ p O,e = .returned (.tuple #[p,.int .i64 0]) /\ Dq w' p 64 [] O /\ (∀ k,O k -> W.heap.size <= k) /\ Below W.heap.size W w') := fun W => deque_New_ok W 64 (by decide) (by decide)
 go_enter Tryd.func87,Tryd.ntmps87
 go_wp2_with (at_make; refine wp_makeV rfl _ _ _ 171 rfl (.pointer none) 1 8 Tryd.underlying130 info_ptr n _ (made_ptr n) rfl rfl (by omega) (by decide) ?_; intro G w1 hG hrow hb1)
 go_loopw [9] (fun vi wr => ∃ (i : Nat) (q : Nat -> Nat),i <= n /\ vi = .int .i64 (i : Int) /\ Hid (Mk w.heap.size wr G n q i) /\ Below w.heap.size w wr)
   (fun vi _ => n - (intOf vi).toNat)
 case atStart => exact ⟨0,fun _ => 0,Nat.zero_le _,rfl,⟨RowV.cast hrow (by rw [<- pvs_nil]; congr 1),fun i hi => absurd hi (by omega),fun i j hi => absurd hi (by omega)⟩,hb1⟩
 case round =>
   clear hrow hb1
   obtain ⟨i,q,hi,rfl,hC,hb⟩ := hrel
   have hlg := hC.out.row.lt
   by_cases hlt : i < n
   · have hin : (i : Int) < (n : Int) := by omega
     have hfin : Hid (∀ p O w2,Dq w2 p 64 [] O -> (∀ k,O k -> wr.heap.size <= k) -> Below wr.heap.size wr w2 -> ∃ g,p = .pointer (some ⟨g,0,none⟩) /\ (w2.cell? ⟨G,i,none⟩ = some (.pointer none) /\ w2.frozen? ⟨G,i,none⟩ = false) /\ Mk w.heap.size (w2.setCell ⟨G,i,none⟩ (.pointer (some ⟨g,0,none⟩))) G n (fun j => if j = i then g else q j) (i + 1) /\ Below w.heap.size w (w2.setCell ⟨G,i,none⟩ (.pointer (some ⟨g,0,none⟩)))) := fun p O w2 hD hO hb2 => by
       have r2 := hC.out.row.below hb2
       obtain ⟨g,f,cs,rfl,hOg,q1,q2⟩ := id hD
       refine ⟨g,rfl,⟨?_,r2.frozen i⟩,hC.out.step hb2 hD (hO g ((hOg g).mpr rfl)) hb.size hlg,?_⟩
       · rw [r2.cell,pvs_get _ _ _ hlt,if_neg (by omega)]
       · exact (hb.trans (hb2.mono hb.size)).trans (((Bar.refl G w2).setCell i _).below (by have := hG.out; omega) (by have := hb.size; have := hb2.size; omega))
     clear hC
     go_wp2_with (go_at_call 131; refine Calls.mono (cN.out _) ?_; rintro e w2 ⟨p2,O2,rfl,hD2,hO2,hb2⟩; obtain ⟨g2,rfl,⟨y0,y1⟩,hC2,hb3⟩ := hfin.out p2 O2 w2 hD2 hO2 hb2; clear hfin hD2 hO2; replace hC2 : Hid _ := hC2)
     go_roundw
     case rel => exact ⟨i + 1,_,by omega,by go_num,hC2,hb3⟩
     case measure => simp only [intOf]; omega
   · have he : i = n := by omega
     subst he
     clear hlt hi
     go_wp2
     go_ret
     exact ⟨G,q,rfl,Nat.le_of_eq hG.out.symm,hC.out,hb⟩
theorem Mk.ptrs {B : Nat} {w : World} {G n : Nat} {q : Nat -> Nat} (h : Mk B w G n q n) : RowV 171 w G (ptrs q n) := by
 refine RowV.cast h.row ?_
 unfold pvs Go.Proofs.YtckoipoejaafhaaDoor.ptrs pt
 exact List.map_congr_left fun i hi => by rw [if_pos (by simpa using hi)]
theorem Cl.whole {B : Nat} {w : World} {G n : Nat} {pv : Nat -> Value} {L : List (List (List Int))} (h : Cl B w G n pv L n) : RowV 69 w G (pvs pv n) := by
 refine RowV.cast h.row ?_
 unfold pvs
 exact List.map_congr_left fun i hi => by rw [if_pos (by simpa using hi)]
theorem nmL_below (xs : List Nat) : ∀ x ∈ nmL xs,x < P := fun x hx => by
 unfold nmL at hx
 obtain ⟨y,_,rfl⟩ := List.mem_map.mp hx
 rw [fN_eq]; exact Nat.mod_lt _ (by decide)
theorem Rn.made {w w1 w2 w3 w4 w5 : World} {zs : List Int} {ds xs : List Nat} {L : List (List (List Int))} {W : Nat} {back : Bool} {gs cs ga gl gd : Nat} {pv : Nat -> Value} {q : Nat -> Nat}
   (hb1 : Below w.heap.size w w1) (hr : ∀ z ∈ zs,-9223372036854775808 <= z /\ z <= 9223372036854775807) (hown : w2.ownsRow w1.heap.size 3 1 (.slice (some ⟨gs,0,none⟩) zs.length cs) zs.length (cellsZ zs)) (hb2 : Below w1.heap.size w1 w2)
   (hga : w2.heap.size <= ga) (hrow : RowU w3 ga (nmL xs)) (hb3 : Below w2.heap.size w2 w3) (hl : xs.length = prd2 ds)
   (hgl : w3.heap.size <= gl) (hC : Cl w3.heap.size w4 gl L.length pv L L.length) (hb4 : Below w3.heap.size w3 w4)
   (hgd : w4.heap.size <= gd) (hM : Mk w4.heap.size w5 gd W q W) (hb5 : Below w4.heap.size w4 w5) (o : Obj) (ho : o = .cells #[.slice (some ⟨gs,0,none⟩) zs.length cs,.slice (some ⟨ga,0,none⟩) (prd2 ds) (prd2 ds),.slice (some ⟨gl,0,none⟩) L.length L.length,.int .i64 0,.slice (some ⟨gd,0,none⟩) W W,.slice none 0 0,.bool back] 133) :
   ∃ r : Fx,r.g = w5.heap.size /\ r.ds = ds /\ r.L = L /\ r.W = W /\ r.back = back /\ r.zs = zs /\ Rn r (w5.alloc o) ga (.slice none 0 0) ⟨nmL xs,List.replicate W [],0,0,[],false⟩ /\ (∀ b,RnO r ga (.slice none 0 0) b -> w.heap.size <= b) /\ Below w.heap.size w (w5.alloc o) := by
 subst ho
 have s1 := hb1.size
 have s2 := hb2.size
 have s3 := hb3.size
 have s4 := hb4.size
 have s5 := hb5.size
 have lga := hrow.lt
 have lgl := hC.row.lt
 have lgd := hM.row.lt
 obtain ⟨lgs,hgs⟩ := owns_in hown (b := gs) rfl
 have hb6 := below_alloc1 w5 (.cells #[.slice (some ⟨gs,0,none⟩) zs.length cs,.slice (some ⟨ga,0,none⟩) (prd2 ds) (prd2 ds),.slice (some ⟨gl,0,none⟩) L.length L.length,.int .i64 0,.slice (some ⟨gd,0,none⟩) W W,.slice none 0 0,.bool back] 133)
 generalize hw6 : w5.alloc (.cells #[.slice (some ⟨gs,0,none⟩) zs.length cs,.slice (some ⟨ga,0,none⟩) (prd2 ds) (prd2 ds),.slice (some ⟨gl,0,none⟩) L.length L.length,.int .i64 0,.slice (some ⟨gd,0,none⟩) W W,.slice none 0 0,.bool back] 133) = w6 at *
 have s6 : w6.heap.size = w5.heap.size + 1 := by rw [<- hw6]; simp
 have hpv : ∀ i,i < L.length -> ∀ b,(pv i).ownBlock = some b -> w3.heap.size <= b /\ b < w4.heap.size := fun i hi b hb => by
   obtain ⟨_,b',e,h1,_,h2⟩ := hC.own i hi
   rw [e] at hb
   obtain rfl := Option.some.inj hb
   exact ⟨h1,h2⟩
 have hq : ∀ i,i < W -> w4.heap.size <= q i /\ q i ≠ gd /\ q i < w5.heap.size := fun i hi => ⟨(hM.own i hi).2.1,(hM.own i hi).2.2,(hM.own i hi).1.old _ rfl⟩
 have b34 : Below w4.heap.size w4 w6 := hb5.trans (hb6.mono (by omega))
 have b3 : Below w3.heap.size w3 w6 := hb4.trans (b34.mono (by omega))
 have b2 : Below w2.heap.size w2 w6 := hb3.trans (b3.mono (by omega))
 have hZ : IsZ w6 (.slice (some ⟨gs,0,none⟩) zs.length cs) zs := (IsZ.of_owns hown hr).below b2
 refine ⟨⟨w5.heap.size,gd,gl,fun k => k = gs \/ k = gl \/ (∃ i,i < L.length /\ (pv i).ownBlock = some k) \/ k = gd,q,.slice (some ⟨gs,0,none⟩) zs.length cs,pv,zs,ds,L,W,back⟩,rfl,rfl,rfl,rfl,rfl,rfl,⟨?_,?_,?_,?_,?_,?_,?_,?_,?_,?_,?_,?_,?_,?_,?_,?_⟩,?_,?_⟩
 · show w6.heap[w5.heap.size]? = _
   rw [<- hw6]
   show (w5.heap.push _)[w5.heap.size]? = _
   rw [Array.getElem?_push_size]
   rfl
 · intro w' hk
   refine ⟨hZ.at fun b e => hk b (.inl (Option.some.inj e).symm),(hC.whole.below b34).block (hk gl (.inr (.inl rfl))),fun i hi => ?_,(hM.ptrs.below hb6).block (hk gd (.inr (.inr (.inr rfl))))⟩
   exact (((hC.own i hi).1).below b34).at fun b e => hk b (.inr (.inr (.inl ⟨i,hi,e⟩)))
 · rintro k (rfl | rfl | ⟨i,hi,e⟩ | rfl)
   · omega
   · omega
   · have := hpv i hi k e; omega
   · omega
 · exact hrow.below b3
 · exact nmL_below xs
 · show (nmL xs).length = _; rw [nmL_length]; exact hl
 · simp
 · intro i hi
   have e : (List.replicate W ([] : List (List Int))).getD i [] = [] := by simp [List.getD,hi]
   show Dq w6 _ 64 ((List.replicate W ([] : List (List Int))).getD i []) _
   rw [e]
   exact (hM.own i hi).1.kept fun b e => hb6.block b (by rw [e]; exact (hq i hi).2.2)
 · intro i
   show T3 ((List.replicate W ([] : List (List Int))).getD i [])
   have e : (List.replicate W ([] : List (List Int))).getD i [] = [] := by
     rcases Nat.lt_or_ge i W with h | h
     · simp [List.getD,h]
     · simp [List.getD,h]
   rw [e]; exact T3.nil
 · exact ⟨rfl,.inl ⟨rfl,rfl⟩⟩
 · exact T3.nil
 · rintro (e | e | ⟨i,hi,e⟩ | e)
   · (try simp only at e); omega
   · (try simp only at e); omega
   · have := hpv i hi _ e; simp only at this; omega
   · (try simp only at e); omega
 · simp only; omega
 · intro i hi
   have h1 := hq i hi
   simp only
   refine ⟨?_,by omega,by omega,by simp [Value.ownBlock]⟩
   rintro (e | e | ⟨j,hj,e⟩ | e)
   · omega
   · omega
   · have := hpv j hj _ e; omega
   · exact h1.2.1 e
 · exact hM.inj
 · intro b e; cases e
 · rintro b (e | e | (e | e | ⟨i,hi,e⟩ | e) | e | ⟨i,hi,e⟩)
   · (try simp only at e); omega
   · omega
   · omega
   · (try simp only at e); omega
   · have := hpv i hi b e; omega
   · (try simp only at e); omega
   · cases e
   · have := hq i hi; (try simp only at e); omega
 · have := hb1.trans ((hb2.trans (b2.mono s2)).mono s1)
   exact this
set_option maxHeartbeats 2000000 in
theorem exec_New (w : World) (v va vl : Value) (zs : List Int) (ds xs : List Nat) (L : List (List (List Int))) (W : Nat) (back : Bool) (h : IsZ w v zs) (hU : IsU w va xs) (hP : IsP 3 w vl L) (hG : Good zs ds) (hn : prd2 ds <= 1024) (hF : Fine ds L) (hT9 : ∀ i,(L.getD i []).length <= 64) (hb : ¬ BigP L L.length) (hl : xs.length = prd2 ds) (hW : 1 <= W) (hW8 : W <= 8) :
   Calls Tryd.prog 41 #[v,va,vl,.int .i64 (W : Int),.bool back] w fun e w' => ∃ p O,e = .returned (.tuple #[p,.int .i64 0]) /\ Run w' p ds L (nmL xs) W back (crew0 L (nmL xs) W) O /\ (∀ k,O k -> w.heap.size <= k) /\ Below w.heap.size w w' := by
 have hS : Shp ds := hG.2.2.2
 have hzl : zs.length = ds.length := by rw [hG.2.2.1,List.length_map]
 have hz3 : zs.length <= 3 := hG.2.1
 have hz1 : 1 <= zs.length := hG.1
 have hLl : L.length = ds.length := hF.1
 have hrz : Hid (∀ z ∈ zs,-9223372036854775808 <= z /\ z <= 9223372036854775807) := by obtain ⟨_,_,_,_,_,_,q⟩ := h; exact q
 have hT1 : ∀ i,i < L.length -> 0 < (L.getD i []).length /\ (L.getD i []).length <= 64 := fun i hi => ⟨rgt_some (hF.2 i (by omega)) (nln_pos hS _),hT9 i⟩
 have c1 := exec_check w v va vl zs ds xs L W h hU hP hG hn hF hb hl hW hW8
 have c2 : Hid (∀ W',Below w.heap.size w W' -> Calls Tryd.prog 84 #[v] W' fun e w' => ∃ g cap,e = .returned (.slice (some ⟨g,0,none⟩) zs.length cap) /\ w'.ownsRow W'.heap.size 3 1 (.slice (some ⟨g,0,none⟩) zs.length cap) zs.length (cellsZ zs) /\ Below W'.heap.size W' w') := fun W' hb => slices_CloneZ W' v zs (h.below hb) (by omega) (by omega)
 have c3 : Hid (∀ W',Below w.heap.size w W' -> Calls Tryd.prog 85 #[va] W' fun e w' => ∃ g,e = .returned (.slice (some ⟨g,0,none⟩) (prd2 ds) (prd2 ds)) /\ W'.heap.size <= g /\ RowU w' g (nmL xs) /\ Below W'.heap.size W' w') := fun W' hb => exec_normAll W' va xs (prd2 ds) (hU.below hb) hl hn
 have c4 : Hid (∀ W',Below w.heap.size w W' -> Calls Tryd.prog 86 #[vl] W' fun e w' => ∃ G pv,e = .returned (.slice (some ⟨G,0,none⟩) L.length L.length) /\ W'.heap.size <= G /\ Cl W'.heap.size w' G L.length pv L L.length /\ Below W'.heap.size W' w') := fun W' hb => exec_clonePhases W' vl L L.length (hP.below hb) rfl (by omega) hT1
 have c5 : Hid (∀ W',Calls Tryd.prog 87 #[.int .i64 (W : Int)] W' fun e w' => ∃ G q,e = .returned (.slice (some ⟨G,0,none⟩) W W) /\ W'.heap.size <= G /\ Mk W'.heap.size w' G W q W /\ Below W'.heap.size W' w') := fun W' => exec_makeDeques W' W hW8
 have hI : Hid (CInv ds L (nmL xs) W back (crew0 L (nmL xs) W) [] []) := CInv.start hS hF hW (by rw [nmL_length]; exact hl)
 have hfin : Hid (∀ (w1 w2 w3 w4 w5 : World) (gs cs ga gl gd : Nat) (pv : Nat -> Value) (q : Nat -> Nat) (o : Obj),Below w.heap.size w w1 -> w2.ownsRow w1.heap.size 3 1 (.slice (some ⟨gs,0,none⟩) zs.length cs) zs.length (cellsZ zs) -> Below w1.heap.size w1 w2 -> w2.heap.size <= ga -> RowU w3 ga (nmL xs) -> Below w2.heap.size w2 w3 ->
     w3.heap.size <= gl -> Cl w3.heap.size w4 gl L.length pv L L.length -> Below w3.heap.size w3 w4 -> w4.heap.size <= gd -> Mk w4.heap.size w5 gd W q W -> Below w4.heap.size w4 w5 -> o = .cells #[.slice (some ⟨gs,0,none⟩) zs.length cs,.slice (some ⟨ga,0,none⟩) (prd2 ds) (prd2 ds),.slice (some ⟨gl,0,none⟩) L.length L.length,.int .i64 0,.slice (some ⟨gd,0,none⟩) W W,.slice none 0 0,.bool back] 133 ->
     Calls Tryd.prog 88 #[.pointer (some ⟨w5.heap.size,0,none⟩)] (w5.alloc o) fun e w' => e = .returned (.tuple #[]) /\ ∃ O,Run w' (.pointer (some ⟨w5.heap.size,0,none⟩)) ds L (nmL xs) W back (crew0 L (nmL xs) W) O /\ (∀ k,O k -> w.heap.size <= k) /\ Below w.heap.size w w') := by
   intro w1 w2 w3 w4 w5 gs cs ga gl gd pv q o hb1 hown hb2 hga hrow hb3 hgl hC hb4 hgd hM hb5 ho
   obtain ⟨r,e1,rfl,rfl,rfl,rfl,rfl,hR,hOn,hB⟩ := Rn.made (back := back) hb1 hrz.out hown hb2 hga hrow hb3 hl hgl hC hb4 hgd hM hb5 o ho
   rw [<- e1]
   refine (exec_deal hR (Nat.zero_le _) (by omega) hW hW8 hT9 (fun i => ?_)).mono ?_
   · rcases Nat.lt_or_ge i r.W with q | q
     · simp [List.getD,q]
     · simp [List.getD,q]
   · rintro e w' ⟨rfl,h1,h2⟩
     exact ⟨rfl,RnO r ga (.slice none 0 0),⟨r,ga,.slice none 0 0,rfl,rfl,rfl,rfl,rfl,hG,h1,fun k => Iff.rfl,[],[],hI.out⟩,hOn,hB.trans (h2.below hB.size hOn)⟩
 clear h hU hP hG hF hb hl hS hrz hT1 hI hT9
 have hW0 := Below.refl w.heap.size w
 obtain ⟨lz,hlz⟩ : ∃ lz,lz = zs.length := ⟨_,rfl⟩
 obtain ⟨np,hnp⟩ : ∃ np,np = prd2 ds := ⟨_,rfl⟩
 obtain ⟨nL,hnL⟩ : ∃ nL,nL = L.length := ⟨_,rfl⟩
 rw [<- hlz] at c2 hfin
 rw [<- hnp] at c3 hfin
 rw [<- hnL] at c4 hfin
 clear hlz hnp hnL hLl hzl
 go_enter Tryd.func41,Tryd.ntmps41
 go_wp2_with (first
   | (go_at_call 36; refine Calls.mono c1 ?_; rintro e w1 ⟨rfl,hb1⟩; clear c1)
   | (go_at_call 84; refine Calls.mono (c2.out _ hb1) ?_; rintro e w2 ⟨gs,cs,rfl,hown,hb2⟩; clear c2; have hB2 := hb1.trans (hb2.mono hb1.size))
   | (go_at_call 85; refine Calls.mono (c3.out _ hB2) ?_; rintro e w3 ⟨ga,rfl,hga,hrow,hb3⟩; clear c3; have hB3 := hB2.trans (hb3.mono hB2.size))
   | (go_at_call 86; refine Calls.mono (c4.out _ hB3) ?_; rintro e w4 ⟨gl,pv,rfl,hgl,hC,hb4⟩; clear c4)
   | (go_at_call 87; refine Calls.mono (c5.out _) ?_; rintro e w5 ⟨gd,q,rfl,hgd,hM,hb5⟩; clear c5; replace hfin := fun o => hfin.out w1 w2 w3 w4 w5 gs cs ga gl gd pv q o hb1 hown hb2 hga hrow hb3 hgl hC hb4 hgd hM hb5; clear hb1 hown hb2 hga hrow hb3 hgl hC hb4 hgd hM hb5 hB2 hB3)
   | (go_at_call 88; refine Calls.mono (hfin _ rfl) ?_; rintro e w7 ⟨rfl,O7,h7,hO7,hb7⟩; clear hfin))
 go_ret2
 exact ⟨_,O7,rfl,h7,hO7,hb7⟩
theorem but_next {w W W' : World} {O O' : Nat -> Prop} (hB : Below w.heap.size w W) (hn : ∀ k,O k -> w.heap.size <= k) (hO : ∀ k,O' k -> O k \/ W.heap.size <= k) (hb : But O W W') : Below w.heap.size w W' /\ ∀ k,O' k -> w.heap.size <= k := by
 have hs := hB.size
 refine ⟨hB.trans (hb.below hs hn),fun k q => ?_⟩
 rcases hO k q with q | q
 · exact hn k q
 · omega
theorem Good_one {zs : List Int} {ds ds' : List Nat} (h : Good zs ds) (h' : Good zs ds') : ds' = ds := by
 have e1 := h.2.2.1
 rw [h'.2.2.1] at e1
 have hinj : ∀ (a b : List Nat),a.map (fun (d : Nat) => (d : Int)) = b.map (fun (d : Nat) => (d : Int)) -> a = b := by
   intro a
   induction a with
   | nil => intro b hb; cases b with
     | nil => rfl
     | cons _ _ => simp at hb
   | cons x a ih => intro b hb; cases b with
     | nil => simp at hb
     | cons y b =>
       simp only [List.map_cons,List.cons.injEq] at hb
       have : x = y := by omega
       rw [this,ih b hb.2]
 exact hinj _ _ e1
theorem szd_rangeN {xs : List Nat} {n : Nat} (h : ∀ x ∈ xs,(x : Int) < 18446744073709551616) : ∀ x ∈ szd xs n,(x : Int) < 18446744073709551616 := by
 intro x hx
 rcases List.mem_append.mp hx with h1 | h1
 · exact h x (List.mem_of_mem_take h1)
 · have := List.eq_of_mem_replicate h1
   subst this; decide
theorem stc_of {zs : List Int} {ds : List Nat} (hG : Good zs ds) (hds : prd2 ds <= 64) (c : Nat) (hc : 1 <= c) (xs : List Nat) (hl : xs.length = prd2 ds) (W : Nat) (h1 : 1 <= W) (h8 : W <= 8) : Stc ds (pls ds c ds.length) (nmL xs) W := by
 have h1' : 1 <= ds.length := by have := hG.1; rw [hG.2.2.1,List.length_map] at this; exact this
 have h3 : ds.length <= 3 := by have := hG.2.1; rw [hG.2.2.1,List.length_map] at this; exact this
 have hF := few_small hG.2.2.2 hds c
 refine ⟨by omega,pls_fine ds c hc,fun i => ?_,h1,h8,by rw [nmL_length]; exact hl,h1',h3,nmL_below _⟩
 rcases Nat.lt_or_ge i ds.length with q | q
 · rw [pls_get ds c _ i q]; exact hF i q
 · rw [List.getD,List.getElem?_eq_none (by rw [pls_length]; exact q)]; simp
theorem pick_cells {w wr : World} {v : Value} {K : List (List Int)} (h : IsR 2 w v K) (hb : Below w.heap.size w wr) (i : Nat) (hi : i < K.length) : ∃ b off cap a d,v = .slice (some ⟨b,off,none⟩) K.length cap /\ wr.cell? ⟨b,off + i * 2,none⟩ = some (.int .i64 a) /\ wr.cell? ⟨b,off + i * 2 + 1,none⟩ = some (.int .i64 d) := by
 obtain ⟨a,cap,rfl,-,-,hc,hr⟩ := h
 obtain ⟨b,off,rfl,hce⟩ := hc i hi
 refine ⟨b,off,cap,(K.getD i []).getD 0 0,(K.getD i []).getD 1 0,rfl,?_,?_⟩
 · exact (hb.cell (block_lt (hce 0 (by omega)))).trans (hce 0 (by omega))
 · have := (hb.cell (block_lt (hce 1 (by omega)))).trans (hce 1 (by omega))
   rw [<- Nat.add_assoc] at this
   exact this
end Go.Proofs.YtckoipoejaafhaaDoor
