/-
 Texts that stood one behind the other,as one.
-/
import Derived.Test.YtckoipoejaafhaaDoorCrewMAll
import Derived.Test.YtckoipoejaafhaaDoorSlTcAll
import Derived.Test.YtckoipoejaafhaaDoorSlMakeAll
import Derived.Test.YtckoipoejaafhaaDoorDequeC
import Derived.BigQuiet
import Derived.Deep.RegionWith
import Derived.Deep.Cut
namespace Go.Proofs.YtckoipoejaafhaaDoor
open Go.RowKit
set_option maxRecDepth 100000
theorem heap_in {w : World} {g : Nat} {o : Obj} (h : w.heap[g]? = some o) : g < w.heap.size := by
 rcases Nat.lt_or_ge g w.heap.size with q | q
 · exact q
 · rw [Array.getElem?_eq_none q] at h; cases h
theorem owns_in {w : World} {B e k n b : Nat} {v : Value} {xs : List Value} (h : w.ownsRow B e k v n xs) (hb : v.ownBlock = some b) : b < w.heap.size /\ B <= b := by
 rcases h.2 with ⟨hv,_⟩ | ⟨g,cap,cur,hv,hg,hc,_⟩
 · rw [hv] at hb; cases hb
 · rw [hv] at hb
   have e : g = b := Option.some.inj hb
   subst e
   exact ⟨heap_in hc,hg⟩
theorem owns_at {w w' : World} {B e k n : Nat} {v : Value} {xs : List Value} (h : w.ownsRow B e k v n xs) (hb : ∀ b,v.ownBlock = some b -> w'.heap[b]? = w.heap[b]?) : w'.ownsRow B e k v n xs := by
 refine ⟨h.1,?_⟩
 rcases h.2 with q | ⟨g,cap,cur,hv,hg,hc,rest⟩
 · exact .inl q
 · exact .inr ⟨g,cap,cur,hv,hg,by rw [hb g (by rw [hv]; rfl)]; exact hc,rest⟩
def Held (R : Nat -> Prop) (w : World) (S : World -> Prop) : Prop := ∀ w' : World,(∀ k,R k -> w'.heap[k]? = w.heap[k]?) -> S w'
theorem Held.now {R : Nat -> Prop} {w : World} {S : World -> Prop} (h : Held R w S) : S w := h w fun _ _ => rfl
theorem Held.kept {R : Nat -> Prop} {w w' : World} {S : World -> Prop} (h : Held R w S) (hk : ∀ k,R k -> w'.heap[k]? = w.heap[k]?) : Held R w' S := fun w2 q => h w2 fun k r => (q k r).trans (hk k r)
def pvs (pv : Nat -> Value) (n : Nat) : List Value := (List.range n).map pv
theorem pvs_get (pv : Nat -> Value) (n i : Nat) (h : i < n) : (pvs pv n)[i]? = some (pv i) := by simp [pvs,h]
def ptrs (q : Nat -> Nat) (W : Nat) : List Value := (List.range W).map fun i => .pointer (some ⟨q i,0,none⟩)
theorem ptrs_get (q : Nat -> Nat) (W i : Nat) (h : i < W) : (ptrs q W)[i]? = some (.pointer (some ⟨q i,0,none⟩)) := by simp [ptrs,h]
structure Fx where
 g : Nat
 gd : Nat
 gl : Nat
 R : Nat -> Prop
 q : Nat -> Nat
 vs : Value
 pv : Nat -> Value
 zs : List Int
 ds : List Nat
 L : List (List (List Int))
 W : Nat
 back : Bool
def runF (r : Fx) (ga : Nat) (vd : Value) (ph : Nat) : List Value :=
 [r.vs,.slice (some ⟨ga,0,none⟩) (prd2 r.ds) (prd2 r.ds),.slice (some ⟨r.gl,0,none⟩) r.L.length r.L.length,.int .i64 (ph : Int),.slice (some ⟨r.gd,0,none⟩) r.W r.W,vd,.bool r.back]
def RnO (r : Fx) (ga : Nat) (vd : Value) (k : Nat) : Prop := k = r.g \/ k = ga \/ r.R k \/ vd.ownBlock = some k \/ ∃ i,i < r.W /\ k = r.q i
structure Rn (r : Fx) (w : World) (ga : Nat) (vd : Value) (c : Crw) : Prop where
 blk : RowV 133 w r.g (runF r ga vd c.phase)
 ro : Held r.R w (fun w => IsZ w r.vs r.zs /\ RowV 69 w r.gl (pvs r.pv r.L.length) /\ (∀ i,i < r.L.length -> IsR 3 w (r.pv i) (r.L.getD i [])) /\ RowV 171 w r.gd (ptrs r.q r.W))
 ron : ∀ k,r.R k -> k < w.heap.size
 arr : RowU w ga c.A
 lt : ∀ x ∈ c.A,x < P
 al : c.A.length = prd2 r.ds
 hc : c.hands.length = r.W
 dq : ∀ i,i < r.W -> Dq w (.pointer (some ⟨r.q i,0,none⟩)) 64 (c.hands.getD i []) (fun k => k = r.q i)
 t3 : ∀ i,T3 (c.hands.getD i [])
 did : w.ownsRow 0 71 3 vd c.did.length (tc c.did)
 d3 : T3 c.did
 gR : ¬ r.R r.g
 gga : r.g ≠ ga
 qo : ∀ i,i < r.W -> ¬ r.R (r.q i) /\ r.q i ≠ r.g /\ r.q i ≠ ga /\ vd.ownBlock ≠ some (r.q i)
 qq : ∀ i j,i < r.W -> j < r.W -> i ≠ j -> r.q i ≠ r.q j
 vdo : ∀ b,vd.ownBlock = some b -> b ≠ r.g /\ ¬ r.R b /\ b ≠ ga
section
variable {r : Fx} {w w' : World} {ga : Nat} {vd : Value} {c : Crw}
theorem Rn.old (h : Rn r w ga vd c) (b : Nat) (hb : RnO r ga vd b) : b < w.heap.size := by
 rcases hb with rfl | rfl | hb | hb | ⟨i,hi,rfl⟩
 · exact h.blk.lt
 · exact h.arr.lt
 · exact h.ron b hb
 · exact (owns_in h.did hb).1
 · exact (h.dq i hi).old _ rfl
theorem Rn.kept (h : Rn r w ga vd c) (hk : ∀ b,RnO r ga vd b -> w'.heap[b]? = w.heap[b]?) (hs : w.heap.size <= w'.heap.size) : Rn r w' ga vd c :=
 { h with
   blk := h.blk.block (hk _ (.inl rfl))
   ro := h.ro.kept fun k q => hk k (.inr (.inr (.inl q)))
   ron := fun k q => Nat.lt_of_lt_of_le (h.ron k q) hs
   arr := h.arr.block (hk _ (.inr (.inl rfl)))
   dq := fun i hi => (h.dq i hi).kept fun k e => hk k (.inr (.inr (.inr (.inr ⟨i,hi,e⟩))))
   did := owns_at h.did fun b hb => hk b (.inr (.inr (.inr (.inl hb)))) }
theorem Rn.below (h : Rn r w ga vd c) (hb : Below w.heap.size w w') : Rn r w' ga vd c := h.kept (fun b q => hb.block b (h.old b q)) hb.size
theorem Rn.f0 (h : Rn r w ga vd c) : w.cell? ⟨r.g,0,none⟩ = some r.vs := h.blk.cell 0
theorem Rn.f1 (h : Rn r w ga vd c) : w.cell? ⟨r.g,1,none⟩ = some (.slice (some ⟨ga,0,none⟩) (prd2 r.ds) (prd2 r.ds)) := h.blk.cell 1
theorem Rn.f2 (h : Rn r w ga vd c) : w.cell? ⟨r.g,2,none⟩ = some (.slice (some ⟨r.gl,0,none⟩) r.L.length r.L.length) := h.blk.cell 2
theorem Rn.f3 (h : Rn r w ga vd c) : w.cell? ⟨r.g,3,none⟩ = some (.int .i64 (c.phase : Int)) := h.blk.cell 3
theorem Rn.f4 (h : Rn r w ga vd c) : w.cell? ⟨r.g,4,none⟩ = some (.slice (some ⟨r.gd,0,none⟩) r.W r.W) := h.blk.cell 4
theorem Rn.f5 (h : Rn r w ga vd c) : w.cell? ⟨r.g,5,none⟩ = some vd := h.blk.cell 5
theorem Rn.f6 (h : Rn r w ga vd c) : w.cell? ⟨r.g,6,none⟩ = some (.bool r.back) := h.blk.cell 6
theorem Rn.qcell (h : Rn r w ga vd c) (i : Nat) (hi : i < r.W) : w.cell? ⟨r.gd,i,none⟩ = some (.pointer (some ⟨r.q i,0,none⟩)) := (h.ro.now.2.2.2.cell i).trans (ptrs_get _ _ _ hi)
theorem Rn.pcell (h : Rn r w ga vd c) (i : Nat) (hi : i < r.L.length) : w.cell? ⟨r.gl,i,none⟩ = some (r.pv i) := (h.ro.now.2.1.cell i).trans (pvs_get _ _ _ hi)
theorem Rn.isR (h : Rn r w ga vd c) (i : Nat) (hi : i < r.L.length) : IsR 3 w (r.pv i) (r.L.getD i []) := h.ro.now.2.2.1 i hi
theorem Rn.isZ (h : Rn r w ga vd c) : IsZ w r.vs r.zs := h.ro.now.1
theorem Rn.isU (h : Rn r w ga vd c) (h9 : prd2 r.ds <= 1024) : IsU w (.slice (some ⟨ga,0,none⟩) (prd2 r.ds) (prd2 r.ds)) c.A := h.arr.isUN (Rng_of_P h.lt) (by rw [h.al]; omega) h.al
theorem getD_set_eq {α : Type} (H : List (List α)) (v u : Nat) (hv : v < H.length) (m : List α) : (H.set v m).getD u [] = if u = v then m else H.getD u [] := by
 by_cases e : u = v
 · subst e; rw [if_pos rfl,getD_set_self _ _ hv]
 · rw [if_neg e,getD_set_ne _ _ _ (Ne.symm e)]
theorem Rn.hand (h : Rn r w ga vd c) (i : Nat) (hi : i < r.W) (m : List (List Int)) (hT : T3 m) (hD : Dq w' (.pointer (some ⟨r.q i,0,none⟩)) 64 m (fun k => k = r.q i)) (hb : But (fun k => k = r.q i) w w') :
   Rn r w' ga vd { c with hands := c.hands.set i m } := by
 have hi2 : i < c.hands.length := by rw [h.hc]; exact hi
 have hk : ∀ b,b < w.heap.size -> b ≠ r.q i -> w'.heap[b]? = w.heap[b]? := fun b h1 h2 => hb.block b h1 h2
 have q := h.qo i hi
 refine { h with blk := ?_,ro := ?_,ron := ?_,arr := ?_,hc := ?_,dq := ?_,t3 := ?_,did := ?_ }
 · exact h.blk.block (hk _ h.blk.lt (Ne.symm q.2.1))
 · exact h.ro.kept fun k hR => hk k (h.ron k hR) fun e => q.1 (e ▸ hR)
 · exact fun k hR => Nat.lt_of_lt_of_le (h.ron k hR) hb.size
 · exact h.arr.block (hk _ h.arr.lt (Ne.symm q.2.2.1))
 · simp only [List.length_set]; exact h.hc
 · intro j hj
   simp only [getD_set_eq _ _ _ hi2]
   by_cases e : j = i
   · subst e; rw [if_pos rfl]; exact hD
   · rw [if_neg e]
     exact (h.dq j hj).kept fun k e2 => hk k ((h.dq j hj).old k e2) (by rw [e2]; exact h.qq j i hj hi e)
 · intro j
   simp only [getD_set_eq _ _ _ hi2]
   by_cases e : j = i
   · rw [if_pos e]; exact hT
   · rw [if_neg e]; exact h.t3 j
 · exact owns_at h.did fun b hb2 => hk b (owns_in h.did hb2).1 fun e => q.2.2.2 (e ▸ hb2)
theorem Rn.array (h : Rn r w ga vd c) (hb : Below w.heap.size w w') (g2 : Nat) (A : List Nat) (hg : w.heap.size <= g2) (hlt : ∀ x ∈ A,x < P) (hl : A.length = prd2 r.ds) (hrow : RowU w' g2 A) :
   Rn r (w'.setCell ⟨r.g,1,none⟩ (.slice (some ⟨g2,0,none⟩) (prd2 r.ds) (prd2 r.ds))) g2 vd { c with A := A } /\ ∀ b,RnO r g2 vd b -> RnO r ga vd b \/ w.heap.size <= b := by
 have h' := h.below hb
 have hset : ∀ b,b ≠ r.g -> (w'.setCell ⟨r.g,1,none⟩ (.slice (some ⟨g2,0,none⟩) (prd2 r.ds) (prd2 r.ds))).heap[b]? = w'.heap[b]? := fun b hb => Below.heap_setCell _ _ _ _ hb
 have l0 := h.blk.lt
 refine ⟨{ h' with blk := ?_,ro := ?_,ron := ?_,arr := ?_,lt := hlt,al := hl,dq := ?_,did := ?_,gga := ?_,qo := ?_,vdo := ?_ },fun b q => ?_⟩
 · exact h'.blk.set 1 (.slice (some ⟨g2,0,none⟩) (prd2 r.ds) (prd2 r.ds))
 · exact h'.ro.kept fun k hR => hset k fun e => h.gR (e ▸ hR)
 · intro k hR; simpa [World.setCell] using h'.ron k hR
 · exact hrow.block (hset g2 (by omega))
 · exact fun i hi => (h'.dq i hi).kept fun k e => hset k (by rw [e]; exact (h.qo i hi).2.1)
 · exact owns_at h'.did fun b q => hset b (h.vdo b q).1
 · omega
 · intro i hi
   have q := h.qo i hi
   have := (h.dq i hi).old _ rfl
   exact ⟨q.1,q.2.1,by omega,q.2.2.2⟩
 · intro b q
   have := (owns_in h.did q).1
   exact ⟨(h.vdo b q).1,(h.vdo b q).2.1,by omega⟩
 · rcases q with q | q | q | q | q
   · exact .inl (.inl q)
   · exact .inr (by omega)
   · exact .inl (.inr (.inr (.inl q)))
   · exact .inl (.inr (.inr (.inr (.inl q))))
   · exact .inl (.inr (.inr (.inr (.inr q))))
theorem Rn.log (h : Rn r w ga vd c) (v : Value) (T : List (List Int)) (hT : T3 T) (hown : w'.ownsRow 0 71 3 v T.length (tc T)) (hk : ∀ b,b < w.heap.size -> vd.ownBlock ≠ some b -> w'.heap[b]? = w.heap[b]?) (hs : w.heap.size <= w'.heap.size)
   (hat' : ∀ b,v.ownBlock = some b -> vd.ownBlock = some b \/ w.heap.size <= b) :
   Rn r (w'.setCell ⟨r.g,5,none⟩ v) ga v { c with did := T } /\ ∀ b,RnO r ga v b -> RnO r ga vd b \/ w.heap.size <= b := by
 have hset : ∀ b,b ≠ r.g -> (w'.setCell ⟨r.g,5,none⟩ v).heap[b]? = w'.heap[b]? := fun b hb => Below.heap_setCell _ _ _ _ hb
 have hkeep : ∀ b,b < w.heap.size -> vd.ownBlock ≠ some b -> b ≠ r.g -> (w'.setCell ⟨r.g,5,none⟩ v).heap[b]? = w.heap[b]? := fun b h1 h2 h3 => (hset b h3).trans (hk b h1 h2)
 have l0 := h.blk.lt
 have l1 := h.arr.lt
 have key : ∀ b,v.ownBlock = some b -> b ≠ r.g /\ ¬ r.R b /\ b ≠ ga /\ ∀ j,j < r.W -> b ≠ r.q j := fun b hb => by
   rcases hat' b hb with q | q
   · exact ⟨(h.vdo b q).1,(h.vdo b q).2.1,(h.vdo b q).2.2,fun j hj e => (h.qo j hj).2.2.2 (e ▸ q)⟩
   · exact ⟨by omega,fun e => by have := h.ron b e; omega,by omega,fun j hj e => by have := (h.dq j hj).old _ rfl; omega⟩
 have hg' : RowV 133 w' r.g (runF r ga vd c.phase) := h.blk.block (hk _ l0 fun e => (h.vdo _ e).1 rfl)
 refine ⟨{ h with blk := ?_,ro := ?_,ron := ?_,arr := ?_,dq := ?_,did := ?_,d3 := hT,qo := ?_,vdo := ?_ },fun b q => ?_⟩
 · exact hg'.set 5 v
 · exact h.ro.kept fun k hR => hkeep k (h.ron k hR) (fun e => (h.vdo k e).2.1 hR) fun e => h.gR (e ▸ hR)
 · intro k hR
   have := h.ron k hR
   simp [World.setCell]; omega
 · exact h.arr.block (hkeep ga l1 (fun e => (h.vdo _ e).2.2 rfl) (Ne.symm h.gga))
 · exact fun i hi => (h.dq i hi).kept fun k e => hkeep k ((h.dq i hi).old k e) (by rw [e]; exact (h.qo i hi).2.2.2) (by rw [e]; exact (h.qo i hi).2.1)
 · exact owns_at hown fun b q => hset b (key b q).1
 · exact fun i hi => ⟨(h.qo i hi).1,(h.qo i hi).2.1,(h.qo i hi).2.2.1,fun e => (key _ e).2.2.2 i hi rfl⟩
 · exact fun b q => ⟨(key b q).1,(key b q).2.1,(key b q).2.2.1⟩
 · rcases q with q | q | q | q | q
   · exact .inl (.inl q)
   · exact .inl (.inr (.inl q))
   · exact .inl (.inr (.inr (.inl q)))
   · rcases hat' b q with q | q
     · exact .inl (.inr (.inr (.inr (.inl q))))
     · exact .inr q
   · exact .inl (.inr (.inr (.inr (.inr q))))
theorem Rn.phased (h : Rn r w ga vd c) (n : Nat) : Rn r (w.setCell ⟨r.g,3,none⟩ (.int .i64 (n : Int))) ga vd { c with phase := n } := by
 have hset : ∀ b,b ≠ r.g -> (w.setCell ⟨r.g,3,none⟩ (.int .i64 (n : Int))).heap[b]? = w.heap[b]? := fun b hb => Below.heap_setCell _ _ _ _ hb
 refine { h with blk := ?_,ro := ?_,ron := ?_,arr := ?_,dq := ?_,did := ?_ }
 · exact h.blk.set 3 (.int .i64 (n : Int))
 · exact h.ro.kept fun k hR => hset k fun e => h.gR (e ▸ hR)
 · intro k hR; simpa [World.setCell] using h.ron k hR
 · exact h.arr.block (hset ga (Ne.symm h.gga))
 · exact fun i hi => (h.dq i hi).kept fun k e => hset k (by rw [e]; exact (h.qo i hi).2.1)
 · exact owns_at h.did fun b q => hset b (h.vdo b q).1
theorem Rn.frozen (h : Rn r w ga vd c) (i : Nat) : w.frozen? ⟨r.g,i,none⟩ = false := h.blk.frozen i
theorem Rn.told (h : Rn r w ga vd c) (l : Nat) (f : Bool) : Rn r w ga vd { c with left := l,fin := f } := { h with }
theorem But.mono {O O' : Nat -> Prop} {w w' : World} (h : But O w w') (hO : ∀ k,O k -> O' k) : But O' w w' := ⟨h.os,h.tape,h.output,h.size,fun k hk hn => h.block k hk fun q => hn (hO k q)⟩
theorem But.set {O : Nat -> Prop} {w w' : World} (h : But O w w') (b i : Nat) (u : Value) (hb : O b) : But O w (w'.setCell ⟨b,i,none⟩ u) :=
 ⟨h.os,h.tape,h.output,by simpa [World.setCell] using h.size,fun k hk hn => (Below.heap_setCell _ _ _ _ (fun e => hn (by cases e; exact hb))).trans (h.block k hk hn)⟩
theorem But.andBelow {O : Nat -> Prop} {a b d : World} (h : But O a b) (k : Below b.heap.size b d) : But O a d := h.trans (O' := fun _ => False) (But.of_below k) fun _ q => absurd q id
end
section
variable {r : Fx} {w : World} {ga : Nat} {vd : Value} {c : Crw}
theorem exec_Done (h : Rn r w ga vd c) :
   Calls Tryd.prog 44 #[.pointer (some ⟨r.g,0,none⟩)] w fun e w' => e = .returned (.bool (decide (c.phase = r.L.length))) /\ Below w.heap.size w w' := by
 have k3 := h.f3
 have k2 := h.f2
 clear h
 by_cases he : c.phase = r.L.length
 · rw [decide_eq_true he]
   have hq : ((c.phase : Nat) : Int) = ((r.L.length : Nat) : Int) := by omega
   go_enter Tryd.func44,Tryd.ntmps44
   go_wp2
   go_quiet (fail)
   go_wp2
   go_ret
   exact ⟨rfl,below_drewN (Below.refl _ _) nq⟩
 · rw [decide_eq_false he]
   have hq : (((c.phase : Nat) : Int) == ((r.L.length : Nat) : Int)) = false := by simp; omega
   go_enter Tryd.func44,Tryd.ntmps44
   go_wp2
   go_quiet (fail)
   go_wp2
   go_ret
   exact ⟨rfl,below_drewN (Below.refl _ _) nq⟩
theorem exec_hasWorker (h : Rn r w ga vd c) (z : Int) :
   Calls Tryd.prog 89 #[.pointer (some ⟨r.g,0,none⟩),.int .i64 z] w fun e w' => e = .returned (.bool (decide (0 <= z /\ z < (r.W : Int)))) /\ w' = w := by
 have k4 := h.f4
 clear h
 by_cases h0 : 0 <= z
 · by_cases h1 : z < (r.W : Int)
   · rw [decide_eq_true ⟨h0,h1⟩]
     go_enter Tryd.func89,Tryd.ntmps89
     go_wp2
     go_ret
     exact ⟨rfl,rfl⟩
   · rw [decide_eq_false (fun q => h1 q.2)]
     go_enter Tryd.func89,Tryd.ntmps89
     go_wp2
     go_ret
     exact ⟨rfl,rfl⟩
 · rw [decide_eq_false (fun q => h0 q.1)]
   go_enter Tryd.func89,Tryd.ntmps89
   go_wp2
   go_ret
   exact ⟨rfl,rfl⟩
theorem exec_dealtTo (w : World) (k W : Nat) (hk : k <= 1000000) (hW : 1 <= W) (hW8 : W <= 8) :
   Calls Tryd.prog 81 #[.int .i64 (k : Int),.int .i64 (W : Int)] w fun e w' => e = .returned (.int .i64 ((k % W : Nat) : Int)) /\ w' = w := by
 have hmod : Int.tmod (k : Int) (W : Int) = ((k % W : Nat) : Int) := by rw [Int.tmod_eq_emod_of_nonneg (by omega),Int.natCast_emod]
 have hml : k % W < W := Nat.mod_lt _ (by omega)
 have hWz : ¬ (W : Int) = 0 := by omega
 have hwr : IntKind.i64.wrap ((k % W : Nat) : Int) = ((k % W : Nat) : Int) := wraps_i64 _ (Int.natCast_nonneg _) (by omega)
 go_enter Tryd.func81,Tryd.ntmps81
 go_wp2
 go_ret
 exact ⟨rfl,rfl⟩
theorem deque_LenW (w : World) (p : Value) (r : Nat) (m : List (List Int)) (O : Nat -> Prop) (h : Dq w p r m O) :
   Calls Tryd.prog 152 #[p] w fun e w' => e = .returned (.int .i64 (m.length : Int)) /\ w' = w := by
 obtain ⟨g,f,cs,rfl,hO,hrow,hR⟩ := h
 have c4 : w.cell? ⟨g,194,none⟩ = some (.int .i64 (m.length : Int)) := (hrow.cell _).trans hR.c194
 clear hR hO hrow
 go_enter Tryd.func152,Tryd.ntmps152
 go_wp2
 go_ret
 exact ⟨rfl,rfl⟩
theorem flat_take_succ {α : Type} (H : List (List α)) (i : Nat) (hi : i < H.length) : (H.take (i + 1)).flatten.length = (H.take i).flatten.length + (H.getD i []).length := by
 have e : H.getD i [] = H[i] := by simp [List.getD,List.getElem?_eq_getElem hi]
 rw [List.take_add_one,List.getElem?_eq_getElem hi,Option.toList_some,List.flatten_append,List.length_append,e,List.flatten_singleton]
set_option maxHeartbeats 1000000 in
theorem exec_waiting (h : Rn r w ga vd c) (hW : r.W <= 8) :
   Calls Tryd.prog 135 #[.pointer (some ⟨r.g,0,none⟩)] w fun e w' => e = .returned (.int .i64 (c.hands.flatten.length : Int)) /\ w' = w := by
 have k4 := h.f4
 have kq : Hid (∀ i,i < r.W -> w.cell? ⟨r.gd,i,none⟩ = some (.pointer (some ⟨r.q i,0,none⟩))) := h.qcell
 have cL : Hid (∀ i,i < r.W -> Calls Tryd.prog 152 #[.pointer (some ⟨r.q i,0,none⟩)] w fun e w' => e = .returned (.int .i64 ((c.hands.getD i []).length : Int)) /\ w' = w) := fun i hi => deque_LenW w _ 64 _ _ (h.dq i hi)
 have hlen : Hid (∀ i,i < r.W -> (c.hands.getD i []).length <= 64) := fun i hi => by
   obtain ⟨_,_,_,q,_⟩ := (h.dq i hi).ptr
   exact q
 have hc : Hid (c.hands.length = r.W) := h.hc
 clear h
 obtain ⟨n,hn⟩ : ∃ n,n = c.hands.flatten.length := ⟨_,rfl⟩
 rw [<- hn]
 have hn' : Hid (n = c.hands.flatten.length) := hn
 clear hn
 go_enter Tryd.func135,Tryd.ntmps135
 go_wp2
 go_loopw [3,11] (fun vc vi wr => ∃ (i s : Nat),i <= r.W /\ vi = .int .i64 (i : Int) /\ vc = .int .i64 (s : Int) /\ Hid (s = (c.hands.take i).flatten.length) /\ s <= 64 * i /\ wr = w)
   (fun _ vi _ => r.W - (intOf vi).toNat)
 case atStart => exact ⟨0,0,Nat.zero_le _,rfl,rfl,rfl,Nat.zero_le _,rfl⟩
 case round =>
   obtain ⟨i,s,hi,rfl,rfl,hs,hs9,hwr⟩ := hrel
   rw [hwr]
   by_cases hlt : i < r.W
   · have kq2 := kq.out i hlt
     have cL2 := cL.out i hlt
     have hl2 := hlen.out i hlt
     have hs2 : Hid (s + (c.hands.getD i []).length = (c.hands.take (i + 1)).flatten.length) := by
       show _ = _
       rw [flat_take_succ _ _ (by rw [hc.out]; exact hlt),<- hs.out]
     generalize (c.hands.getD i []).length = m at *
     go_wp2_with (go_at_call 152; refine Calls.mono cL2 ?_; rintro e w' ⟨rfl,hw⟩; rw [hw]; clear hw)
     go_roundw
     case rel => exact ⟨i + 1,s + m,by omega,by go_num,by go_num,hs2,by omega,by trivial⟩
     case measure => simp only [intOf]; omega
   · have he : i = r.W := by omega
     have hsn : s = n := by
       have h1 := hs.out
       rw [he,<- hc.out,List.take_length] at h1
       exact h1.trans hn'.out.symm
     subst hsn
     subst he
     clear hlt hi
     go_wp2
     go_ret
     exact ⟨rfl,rfl⟩
end
end Go.Proofs.YtckoipoejaafhaaDoor
