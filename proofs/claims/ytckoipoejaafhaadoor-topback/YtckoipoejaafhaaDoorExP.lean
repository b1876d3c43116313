/-
 A run of package exec as its callers see it: what Step,Done,Left,Array and Log answer and do.
-/
import Derived.Test.YtckoipoejaafhaaDoorExOAll
namespace Go.Proofs.YtckoipoejaafhaaDoor
open Go.RowKit
set_option maxRecDepth 100000
structure Stc (ds : List Nat) (L : List (List (List Int))) (xs : List Nat) (W : Nat) : Prop where
 n : prd2 ds <= 1024
 F : Fine ds L
 T9 : ∀ i,(L.getD i []).length <= 64
 W1 : 1 <= W
 W8 : W <= 8
 l : xs.length = prd2 ds
 d1 : 1 <= ds.length
 d3 : ds.length <= 3
 lt : ∀ x ∈ xs,x < P
theorem Stc.L9 {ds : List Nat} {L : List (List (List Int))} {xs : List Nat} {W : Nat} (h : Stc ds L xs W) : L.length <= 3 := by rw [h.F.1]; exact h.d3
theorem flat_most (L : List (List (List Int))) (h : ∀ i,(L.getD i []).length <= 64) : L.flatten.length <= 64 * L.length := by
 induction L with
 | nil => simp
 | cons T L ih =>
   rw [List.flatten_cons,List.length_append,List.length_cons]
   have h0 : T.length <= 64 := h 0
   have := ih fun i => h (i + 1)
   omega
def Run (w : World) (p : Value) (ds : List Nat) (L : List (List (List Int))) (xs : List Nat) (W : Nat) (back : Bool) (c : Crw) (O : Nat -> Prop) : Prop :=
 ∃ (r : Fx) (ga : Nat) (vd : Value),p = .pointer (some ⟨r.g,0,none⟩) /\ r.ds = ds /\ r.L = L /\ r.W = W /\ r.back = back /\ Good r.zs r.ds /\ Rn r w ga vd c /\ (∀ k,O k ↔ RnO r ga vd k) /\ ∃ P dn,CInv ds L xs W back c P dn
theorem Rn.same {r : Fx} {w : World} {ga : Nat} {vd : Value} {c c' : Crw} (h : Rn r w ga vd c) (h1 : c'.A = c.A) (h2 : c'.hands = c.hands) (h3 : c'.phase = c.phase) (h4 : c'.did = c.did) : Rn r w ga vd c' := by
 obtain ⟨A,H,p,l,d,f⟩ := c
 obtain ⟨A',H',p',l',d',f'⟩ := c'
 simp only at h1 h2 h3 h4
 subst h1 h2 h3 h4
 exact h.told l' f'
section
variable {w w' : World} {p : Value} {ds : List Nat} {L : List (List (List Int))} {xs : List Nat} {W : Nat} {back : Bool} {c : Crw} {O : Nat -> Prop}
theorem Run.old (h : Run w p ds L xs W back c O) : ∀ k,O k -> k < w.heap.size := by
 obtain ⟨r,ga,vd,_,_,_,_,_,_,hR,hO,_⟩ := h
 exact fun k q => hR.old k ((hO k).mp q)
theorem Run.kept (h : Run w p ds L xs W back c O) (hk : ∀ k,O k -> w'.heap[k]? = w.heap[k]?) (hs : w.heap.size <= w'.heap.size) : Run w' p ds L xs W back c O := by
 obtain ⟨r,ga,vd,h1,h2,h3,h4,h5,h6,hR,hO,h7⟩ := h
 exact ⟨r,ga,vd,h1,h2,h3,h4,h5,h6,hR.kept (fun b q => hk b ((hO b).mpr q)) hs,hO,h7⟩
theorem Run.below (h : Run w p ds L xs W back c O) (hb : Below w.heap.size w w') : Run w' p ds L xs W back c O := h.kept (fun k q => hb.block k (h.old k q)) hb.size
theorem Run.inv (h : Run w p ds L xs W back c O) : ∃ P dn,CInv ds L xs W back c P dn := by
 obtain ⟨r,ga,vd,_,_,_,_,_,_,_,_,h7⟩ := h
 exact h7
theorem run_Done (h : Run w p ds L xs W back c O) :
   Calls Tryd.prog 44 #[p] w fun e w' => e = .returned (.bool c.fin) /\ Below w.heap.size w w' := by
 obtain ⟨r,ga,vd,rfl,rfl,rfl,rfl,rfl,h6,hR,hO,P,dn,hI⟩ := h
 rw [hI.fin]
 exact exec_Done hR
theorem run_Array (h : Run w p ds L xs W back c O) (hs : Stc ds L xs W) (hS : Shp ds) :
   Calls Tryd.prog 43 #[p] w fun e w' => ∃ g cap,e = .returned (.slice (some ⟨g,0,none⟩) (prd2 ds) cap) /\ w'.ownsRow w.heap.size 34 1 (.slice (some ⟨g,0,none⟩) (prd2 ds) cap) (prd2 ds) (cellsU c.A) /\ Below w.heap.size w w' := by
 obtain ⟨r,ga,vd,rfl,rfl,rfl,rfl,rfl,h6,hR,hO,P,dn,hI⟩ := h
 have hp : 0 < prd2 r.ds := prd2_pos fun d hd => hS.pos d hd
 have cC := slices_CloneU w _ c.A (hR.isU hs.n) (by rw [hR.al]; exact hp) (by rw [hR.al]; have := hs.n; omega)
 rw [hR.al] at cC
 have k1 := hR.f1
 clear hR hI hO
 go_enter Tryd.func43,Tryd.ntmps43
 go_wp2_with (go_at_call 92; refine Calls.mono cC ?_; rintro e w1 ⟨g1,c1,rfl,hown,hb⟩; clear cC)
 go_ret
 exact ⟨g1,c1,rfl,hown,hb⟩
theorem task_nums {n x : Nat} {t : List Int} (h3 : t.length = 3) (hv : Vld n x t) : ∃ f l : Nat,t = [(x : Int),(f : Int),(l : Int)] /\ f < l /\ l <= n := by
 obtain ⟨a,b,d,rfl⟩ := len_3 h3
 obtain ⟨v1,v2,v3,v4⟩ := hv
 simp only [List.getD_cons_zero,List.getD_cons_succ] at v1 v2 v3 v4
 exact ⟨b.toNat,d.toNat,by rw [v1,Int.toNat_of_nonneg (by omega),Int.toNat_of_nonneg (by omega)],by omega,by omega⟩
theorem done1_same {r : Fx} (H : List (List (List Int))) (x f l : Nat) (hl : c.left = H.flatten.length + 1) :
   (done1 r.ds r.back r.L c H [(x : Int),(f : Int),(l : Int)]).A = (doneC r { c with hands := H } x f l).A /\ (done1 r.ds r.back r.L c H [(x : Int),(f : Int),(l : Int)]).hands = (doneC r { c with hands := H } x f l).hands /\
   (done1 r.ds r.back r.L c H [(x : Int),(f : Int),(l : Int)]).phase = (doneC r { c with hands := H } x f l).phase /\ (done1 r.ds r.back r.L c H [(x : Int),(f : Int),(l : Int)]).did = (doneC r { c with hands := H } x f l).did := by
 have ht : tr1 r.ds r.back c.A [(x : Int),(f : Int),(l : Int)] = trn r.ds c.A x f l r.back := by simp [tr1]
 unfold done1 doneC didC
 by_cases h0 : c.left - 1 = 0
 · rw [if_pos h0,if_pos (show H.flatten.length = 0 by omega)]
   unfold dealt
   by_cases h1 : r.L.length <= c.phase + 1
   · simp only [if_pos h1,ht,and_self]
   · simp only [if_neg h1,ht,and_self]
 · rw [if_neg h0,if_neg (show ¬ H.flatten.length = 0 by omega)]
   simp only [ht,and_self]
theorem exec_Step_task {r : Fx} {ga : Nat} {vd : Value} (h : Rn r w ga vd c) (hG : Good r.zs r.ds) (hs : Stc r.ds r.L xs r.W) {Pp : List (List (List Int))} {dn : List (List Int)} (hI : CInv r.ds r.L xs r.W r.back c Pp dn) (v u : Nat) (hv : v < r.W) (hu : u < r.W) (hlt : c.phase < r.L.length)
   (H : List (List (List Int))) (t : List Int) (ht3 : t.length = 3) (hp : (t :: H.flatten).Perm c.hands.flatten)
   (cT : ∀ W,Rn r W ga vd c -> Calls Tryd.prog 90 #[.pointer (some ⟨r.g,0,none⟩),.agg #[.int .i64 (v : Int),.int .i64 (u : Int)]] W fun e w' => e = .returned (.tuple #[.agg #[.int .i64 (t.getD 0 0),.int .i64 (t.getD 1 0),.int .i64 (t.getD 2 0)],.bool true]) /\ Rn r w' ga vd { c with hands := H } /\ But (RnO r ga vd) W w') (hTk : ∀ W,But (RnO r ga vd) w W -> Tab W) :
   Calls Tryd.prog 42 #[.pointer (some ⟨r.g,0,none⟩),.agg #[.int .i64 (v : Int),.int .i64 (u : Int)]] w fun e w' => e = .returned (.int .i64 0) /\ ∃ ga' vd',Rn r w' ga' vd' (done1 r.ds r.back r.L c H t) /\ (∀ b,RnO r ga' vd' b -> RnO r ga vd b \/ w.heap.size <= b) /\ But (RnO r ga vd) w w' := by
 have ht : t ∈ c.hands.flatten := hp.mem_iff.mp (by simp)
 obtain ⟨_,hpx,hvl⟩ := hI.task hs.F ht
 obtain ⟨f,l,rfl,hfl,hln⟩ := task_nums ht3 hvl
 have hl : c.left = H.flatten.length + 1 := by rw [hI.lft,<- hp.length_eq]; rfl
 have hfm := flat_most r.L hs.T9
 have hL9 := hs.L9
 have hd9 : c.did.length <= 100000 := by have := (hI.room.1 hlt).1; omega
 obtain ⟨e1,e2,e3,e4⟩ := done1_same (r := r) (c := c) H c.phase f l hl
 refine exec_Step_go h v u hv hu hlt _ _ _ true { c with hands := H } _ cT (fun _ W hW hbu => (exec_do hW c.phase f l (hTk W hbu) hG hs.n hpx hfl hln hs.d3 hd9 hlt (by omega) hs.W1 hs.W8 hs.T9).mono ?_) (fun e => by cases e)
 rintro e w' ⟨rfl,ga',vd',hR',hO',hb'⟩
 exact ⟨rfl,ga',vd',hR'.same e1 e2 e3 e4,hO',hb'⟩
theorem run_Step (w0 : World) (hTb : Tab w0) (hB : Below w0.heap.size w0 w) (h : Run w p ds L xs W back c O) (hOn : ∀ k,O k -> w0.heap.size <= k) (hs : Stc ds L xs W) (hS : Shp ds) (pv pu : Int) :
   Calls Tryd.prog 42 #[p,.agg #[.int .i64 pv,.int .i64 pu]] w fun e w' => e = .returned (.int .i64 (pickE c pv pu)) /\ ∃ O',Run w' p ds L xs W back (pickC ds back L c pv pu) O' /\ (∀ k,O' k -> O k \/ w.heap.size <= k) /\ But O w w' := by
 obtain ⟨r,ga,vd,rfl,rfl,rfl,rfl,rfl,hG,hR,hO,Pp,dn,hI⟩ := h
 obtain ⟨P',dn',hI',-⟩ := hI.pick hS hs.F hs.W1 hs.l pv pu
 have hBO : ∀ {w' : World},But (RnO r ga vd) w w' -> But O w w' := fun q => q.mono fun k q => (hO k).mpr q
 have hTk : ∀ W,But (RnO r ga vd) w W -> Tab W := fun W hb => hTb.below (hB.trans ((hBO hb).below hB.size hOn))
 by_cases hf : c.phase = r.L.length
 · have hE : pickE c pv pu = 6 := by unfold pickE; rw [hI.fin,decide_eq_true hf,if_pos rfl]
   have hC : pickC r.ds r.back r.L c pv pu = c := by unfold pickC; rw [hE,if_neg (by decide)]
   rw [hE,hC]
   refine (exec_Step_done hR pv pu hf).mono ?_
   rintro e w' ⟨rfl,hb⟩
   exact ⟨rfl,O,⟨r,ga,vd,rfl,rfl,rfl,rfl,rfl,hG,hR.below hb,hO,Pp,dn,hI⟩,fun k q => .inl q,But.of_below hb⟩
 · have hlt : c.phase < r.L.length := by have := hI.ph; omega
   have hfin : c.fin = false := by rw [hI.fin,decide_eq_false hf]
   by_cases hr : 0 <= pv /\ pv < (r.W : Int) /\ 0 <= pu /\ pu < (r.W : Int)
   · have hE : pickE c pv pu = 0 := by unfold pickE; rw [hfin,hI.w,if_neg (by simp),if_pos hr]
     have hC : pickC r.ds r.back r.L c pv pu = step1 r.ds r.back r.L c pv.toNat pu.toNat := by unfold pickC; rw [if_pos hE]
     rw [hC] at hI'
     rw [hE,hC]
     obtain ⟨v,hv⟩ : ∃ v : Nat,pv = (v : Int) := ⟨pv.toNat,by omega⟩
     obtain ⟨u,hu⟩ : ∃ u : Nat,pu = (u : Int) := ⟨pu.toNat,by omega⟩
     subst hv hu
     rw [Int.toNat_natCast,Int.toNat_natCast] at hI' ⊢
     have hv2 : v < r.W := by omega
     have hu2 : u < r.W := by omega
     have hvl : v < c.hands.length := by rw [hI.w]; exact hv2
     have hul : u < c.hands.length := by rw [hI.w]; exact hu2
     have fin : ∀ {e : Ending} {w' : World},(e = .returned (.int .i64 0) /\ ∃ ga' vd',Rn r w' ga' vd' (step1 r.ds r.back r.L c v u) /\ (∀ b,RnO r ga' vd' b -> RnO r ga vd b \/ w.heap.size <= b) /\ But (RnO r ga vd) w w') -> e = .returned (.int .i64 0) /\ ∃ O',Run w' (.pointer (some ⟨r.g,0,none⟩)) r.ds r.L xs r.W r.back (step1 r.ds r.back r.L c v u) O' /\ (∀ k,O' k -> O k \/ w.heap.size <= k) /\ But O w w' := by
       rintro e w' ⟨rfl,ga',vd',h1,h2,h3⟩
       exact ⟨rfl,RnO r ga' vd',⟨r,ga',vd',rfl,rfl,rfl,rfl,rfl,hG,h1,fun k => Iff.rfl,P',dn',hI'⟩,fun k q => (h2 k q).imp (hO k).mpr id,hBO h3⟩
     by_cases h1 : c.hands.getD v [] ≠ []
     · have es : step1 r.ds r.back r.L c v u = done1 r.ds r.back r.L c (c.hands.set v (c.hands.getD v []).dropLast) ((c.hands.getD v []).getLastD []) := by unfold step1; rw [if_pos h1]
       have e := last_of [] h1
       have hT := hR.t3 v
       have ht3 : ((c.hands.getD v []).getLastD []).length = 3 := (hT _ (by rw [e]; simp)).1
       have hTd : T3 (c.hands.getD v []).dropLast := fun x hx => hT x (List.dropLast_subset _ hx)
       rw [es] at fin hI' ⊢
       refine (exec_Step_task hR hG hs hI v u hv2 hu2 hlt _ _ ht3 (flat_last c.hands v hvl _ _ e) (fun W hW => ?_) hTk).mono fun _ _ => fin
       obtain ⟨ta,tb,tcc,ht4⟩ := len_3 ht3
       rw [ht4] at e ⊢
       refine exec_take_own hW v (u : Int) hv2 _ ta tb tcc hTd (fun W2 hW2 => deque_Pop_ok W2 _ 64 _ _ ta tb tcc ?_)
       have := hW2.dq v hv2
       rw [e] at this
       exact this
     · have h1' : c.hands.getD v [] = [] := by simpa using h1
       have hpop : ∀ W2,Rn r W2 ga vd c -> Calls Tryd.prog 133 #[.pointer (some ⟨r.q v,0,none⟩)] W2 fun e w' => e = .returned (.tuple #[.agg #[.int .i64 0,.int .i64 0,.int .i64 0],.bool false]) /\ ∃ O',Dq w' (.pointer (some ⟨r.q v,0,none⟩)) 64 [] O' /\ (∀ k,O' k -> (fun k => k = r.q v) k \/ W2.heap.size <= k) /\ But (fun k => k = r.q v) W2 w' := fun W2 hW2 => deque_Pop_none W2 _ 64 _ (by have := hW2.dq v hv2; rw [h1'] at this; exact this)
       by_cases h2 : c.hands.getD u [] ≠ []
       · have es : step1 r.ds r.back r.L c v u = done1 r.ds r.back r.L c (c.hands.set u (c.hands.getD u []).tail) ((c.hands.getD u []).headD []) := by unfold step1; rw [if_neg h1,if_pos h2]
         have e := first_of [] h2
         have hT := hR.t3 u
         have ht3 : ((c.hands.getD u []).headD []).length = 3 := (hT _ (by rw [e]; simp)).1
         have hTd : T3 (c.hands.getD u []).tail := fun x hx => hT x (List.mem_of_mem_tail hx)
         rw [es] at fin hI' ⊢
         refine (exec_Step_task hR hG hs hI v u hv2 hu2 hlt _ _ ht3 (flat_first c.hands u hul _ _ e) (fun W hW => ?_) hTk).mono fun _ _ => fin
         obtain ⟨ta,tb,tcc,ht4⟩ := len_3 ht3
         rw [ht4] at e ⊢
         refine exec_take_other hW v u hv2 hu2 h1' _ ta tb tcc true hTd hpop (fun W2 hW2 => deque_Steal_ok W2 _ 64 _ _ ta tb tcc ?_)
         have := hW2.dq u hu2
         rw [e] at this
         exact this
       · have h2' : c.hands.getD u [] = [] := by simpa using h2
         have es : step1 r.ds r.back r.L c v u = c := by unfold step1; rw [if_neg h1,if_neg h2]
         rw [es] at fin hI' ⊢
         refine (exec_Step_go hR v u hv2 hu2 hlt 0 0 0 false c c (fun W hW => ?_) (fun e => by cases e) (fun _ => rfl)).mono fun _ _ => fin
         have q := exec_take_other hW v u hv2 hu2 h1' [] 0 0 0 false T3.nil hpop (fun W2 hW2 => deque_Steal_none W2 _ 64 _ (by have := hW2.dq u hu2; rw [h2'] at this; exact this))
         rw [set_same c.hands u h2'] at q
         exact q
   · have hE : pickE c pv pu = 1 := by unfold pickE; rw [hfin,hI.w,if_neg (by simp),if_neg hr]
     have hC : pickC r.ds r.back r.L c pv pu = c := by unfold pickC; rw [hE,if_neg (by decide)]
     rw [hE,hC]
     refine (exec_Step_arg hR pv pu hlt hr).mono ?_
     rintro e w' ⟨rfl,hb⟩
     exact ⟨rfl,O,⟨r,ga,vd,rfl,rfl,rfl,rfl,rfl,hG,hR.below hb,hO,Pp,dn,hI⟩,fun k q => .inl q,But.of_below hb⟩
end
end Go.Proofs.YtckoipoejaafhaaDoor
