/-
 Texts that stood one behind the other,as one.
-/
import Derived.Test.YtckoipoejaafhaaDoorCcStAll
import Derived.Conc.DeferLaws
import Derived.Orders
import Derived.Test.YtckoipoejaafhaaDoorRows
import Derived.WalkKit
import Derived.WalkSpells
import Derived.WalkLawsBesides
namespace Go.Proofs.YtckoipoejaafhaaDoor.Cc
open Go Go.Conc
open Go.ConcR (Payload)
def arr (n : Nat) (σ : Nat -> Value) : Array Value := (List.map σ (List.range n)).toArray
def ups (σ : Nat -> Value) (d : Nat) (v : Value) : Nat -> Value := fun j => if j = d then v else σ j
def put (σ : Nat -> Value) (dst : Option Tmp) (v : Value) : Nat -> Value := match dst with | some d => ups σ d v | none => σ
theorem arr_size (n : Nat) (σ : Nat -> Value) : (arr n σ).size = n := by simp [arr]
theorem arr_get (n : Nat) (σ : Nat -> Value) (j : Nat) : (arr n σ)[j]? = if j < n then some (σ j) else none := by
 simp only [arr,List.getElem?_toArray,List.getElem?_map]
 by_cases h : j < n <;> simp [h]
theorem arr_set (n : Nat) (σ : Nat -> Value) (d : Nat) (v : Value) : (arr n σ).setIfInBounds d v = arr n (ups σ d v) := by
 apply Array.ext_getElem?
 intro j
 rw [Array.getElem?_setIfInBounds,arr_get,arr_get,arr_size]
 unfold ups
 by_cases e : d = j
 · subst e
   by_cases h : d < n <;> simp [h]
 · rw [if_neg e]
   have : ¬ j = d := fun q => e q.symm
   simp [this]
theorem arr_ev {n : Nat} {σ : Nat -> Value} {j : Nat} (h : j < n) : evT (arr n σ) (.tmp j) = σ j := by
 show (arr n σ).getD j undef = _
 rw [Array.getD_eq_getD_getElem?,arr_get,if_pos h]
 rfl
def fd (dk : Bool) (fn : FuncId) (n : Nat) (ds : List Deferred) (σ : Nat -> Value) (k : List Item) : Frame := { fn := fn,tmps := arr n σ,todo := k,defers := ds,mode := .run,kind := if dk then .deferred else .normal,roundOf := none }
def fdR (dk : Bool) (fn : FuncId) (n : Nat) (ds : List Deferred) (σ : Nat -> Value) (k : List Item) : Frame := { fn := fn,tmps := arr n σ,todo := k,defers := ds,mode := .returning,kind := if dk then .deferred else .normal,roundOf := none }
theorem fd_frm (fn : FuncId) (n : Nat) (σ : Nat -> Value) (k : List Item) : fd false fn n [] σ k = frm fn (arr n σ) k .run := rfl
theorem fdR_frm (fn : FuncId) (n : Nat) (σ : Nat -> Value) (k : List Item) : fdR false fn n [] σ k = frm fn (arr n σ) k .returning := rfl
theorem fd_at (fn : FuncId) (n : Nat) (ds : List Deferred) (σ : Nat -> Value) (k : List Item) : fd false fn n ds σ k = (base fn).at ⟨arr n σ,ds⟩ k := rfl
theorem finish_arr (dk : Bool) (fn : FuncId) (n : Nat) (ds : List Deferred) (σ : Nat -> Value) (ops : Array Oper) (i : Nat) (rest : List Nat) (k : List Item) (v : Value) {o : Oper} (ho : ops[i]? = some o) :
   (fd dk fn n ds σ (.inRegion ops (i :: rest) :: k)).finish v = fd dk fn n ds (put σ o.dst v) (.inRegion ops rest :: k) := by
 simp only [Frame.finish,fd,ho,Option.bind_some]
 cases hd : o.dst with
 | none => rfl
 | some d => simp only [put,arr_set]
theorem enter_fd {P : Program} {f : FuncId} {fn : Func} {c : Code} (args : Array Value) (hf : P.funcs[f]? = some fn) (hb : fn.body = some c) (hn : args.size <= fn.ntmps) :
   Frame.enter P f args .normal = fd false f fn.ntmps [] (fun j => args.getD j undef) [.code c] := by
 have h1 : args ++ Array.replicate (fn.ntmps - args.size) undef = arr fn.ntmps fun j => args.getD j undef := by
   apply Array.ext_getElem?
   intro j
   rw [arr_get,Array.getElem?_append]
   by_cases h : j < args.size
   · rw [if_pos h,if_pos (by omega)]
     simp [h]
   · rw [if_neg h]
     by_cases h2 : j < fn.ntmps
     · rw [if_pos h2,Array.getElem?_replicate,if_pos (by omega),Array.getD_eq_getD_getElem?,Array.getElem?_eq_none (by omega)]
       rfl
     · rw [if_neg h2,Array.getElem?_replicate,if_neg (by omega)]
 simp [Frame.enter,fd,hf,hb,h1]
section
variable {P : Program} {main : Bool} {dk : Bool} {fn : FuncId} {n : Nat} {ds : List Deferred} {σ : Nat -> Value} {k : List Item} {cs : List Frame} {w : World}
theorem sd_nil : stepG P main (G (fd dk fn n ds σ []) cs) w = .go (G (fdR dk fn n ds σ []) cs) w := by simp [G,stepG,stepG.exec,fd,fdR]
theorem sd_ret : stepG P main (G (fd dk fn n ds σ (.code .ret :: k)) cs) w = .go (G (fdR dk fn n ds σ (.code .ret :: k)) cs) w := by simp [G,stepG,stepG.exec,fd,fdR]
theorem sd_skip : stepG P main (G (fd dk fn n ds σ (.code .skip :: k)) cs) w = .go (G (fd dk fn n ds σ k) cs) w := by simp [G,stepG,stepG.exec,fd]
theorem sd_inBlock {id : Nat} : stepG P main (G (fd dk fn n ds σ (.inBlock id :: k)) cs) w = .go (G (fd dk fn n ds σ k) cs) w := by simp [G,stepG,stepG.exec,fd]
theorem sd_seq {x y : Code} : stepG P main (G (fd dk fn n ds σ (.code (.seq x y) :: k)) cs) w = .go (G (fd dk fn n ds σ (.code x :: .code y :: k)) cs) w := by simp [G,stepG,stepG.exec,fd]
theorem sd_block {id : Nat} {c : Code} : stepG P main (G (fd dk fn n ds σ (.code (.block id c) :: k)) cs) w = .go (G (fd dk fn n ds σ (.code c :: .inBlock id :: k)) cs) w := by simp [G,stepG,stepG.exec,fd]
theorem sd_loop {c : Code} : stepG P main (G (fd dk fn n ds σ (.code (.loop c) :: k)) cs) w = .go (G (fd dk fn n ds σ (.code c :: .inLoop c :: k)) cs) w := by simp [G,stepG,stepG.exec,fd]
theorem sd_inLoop {c : Code} : stepG P main (G (fd dk fn n ds σ (.inLoop c :: k)) cs) w = .go (G (fd dk fn n ds σ (.code c :: .inLoop c :: k)) cs) w := by simp [G,stepG,stepG.exec,fd]
theorem sd_exit {id : Nat} {k' : List Item} (h : exitTo id k = some k') : stepG P main (G (fd dk fn n ds σ (.code (.exit id) :: k)) cs) w = .go (G (fd dk fn n ds σ k') cs) w := by simp [G,stepG,stepG.exec,fd,h]
theorem sd_cond {c : Operand} {x y : Code} {t : Bool} (h : evT (arr n σ) c = .bool t) : stepG P main (G (fd dk fn n ds σ (.code (.cond c x y) :: k)) cs) w = .go (G (fd dk fn n ds σ (.code (if t then x else y) :: k)) cs) w := by
 have h' : (fd dk fn n ds σ (.code (.cond c x y) :: k)).eval c = .bool t := by rw [eval_evT]; exact h
 simp only [fd] at h'
 simp [G,stepG,stepG.exec,fd,h']
theorem sd_region {id : Nat} {ops : Array Oper} : stepG P main (G (fd dk fn n ds σ (.code (.region id ops false) :: k)) cs) w = .go (G (fd dk fn n ds σ (.inRegion ops (List.range ops.size) :: k)) cs) w := by simp [G,stepG,stepG.exec,fd]
theorem sd_draw {id : Nat} {ops : Array Oper} : stepG P main (G (fd dk fn n ds σ (.code (.region id ops true) :: k)) cs) w = .go (G (fd dk fn n ds σ (.inRegion ops (Region.schedule (P.follows .mixedOrders) ops (w.tape w.drawn (.order fn id))) :: k)) cs) { w with drawn := w.drawn + 1 } := by
 simp [G,stepG,stepG.exec,fd,choose,Sem.run,Question.forced,Question.cut]
theorem sd_regionEnd {ops : Array Oper} : stepG P main (G (fd dk fn n ds σ (.inRegion ops [] :: k)) cs) w = .go (G (fd dk fn n ds σ k) cs) w := by simp [G,stepG,stepG.exec,fd]
theorem sd_oper {ops : Array Oper} {i : Nat} {rest : List Nat} {o : Oper} (ho : ops[i]? = some o) (hg : o.guard = none) :
   stepG P main (G (fd dk fn n ds σ (.inRegion ops (i :: rest) :: k)) cs) w = stepG.apply P true (fd dk fn n ds σ (.inRegion ops (i :: rest) :: k)) cs none (execOp (evT (arr n σ)) o) w := by
 have hw : Region.wanted o (yielded ops (arr n σ)) = true := by unfold Region.wanted; rw [hg]
 have he := eval_evT (fd dk fn n ds σ (.inRegion ops (i :: rest) :: k))
 simp only [fd] at he
 cases dk <;> simp [G,stepG,stepG.exec,stepG.oper,Frame.oper?,fd,ho,hw] at he ⊢ <;> rw [he]
theorem ad_value {ops : Array Oper} {i : Nat} {rest : List Nat} {s : Sem Next} {v : Value} {w1 : World} {m : Array Event} {o : Oper} (ho : ops[i]? = some o) (h : s.runT P w #[] = (.ok (.value v) w1,m)) :
   stepG.apply P true (fd dk fn n ds σ (.inRegion ops (i :: rest) :: k)) cs none s w = .go (G (fd dk fn n ds (put σ o.dst v) (.inRegion ops rest :: k)) cs) w1 (seen P fn m) := by
 rw [<- finish_arr _ _ _ _ _ _ _ _ _ _ ho]
 unfold stepG.apply
 dsimp only
 rw [if_pos rfl,h]
 cases dk <;> simp [fd,G,GStep.after]
theorem ad_skip {ops : Array Oper} {i : Nat} {rest : List Nat} {s : Sem Next} {w1 : World} {m : Array Event} {o : Oper} (ho : ops[i]? = some o) (h : s.runT P w #[] = (.ok .skip w1,m)) :
   stepG.apply P true (fd dk fn n ds σ (.inRegion ops (i :: rest) :: k)) cs none s w = .go (G (fd dk fn n ds (put σ o.dst undef) (.inRegion ops rest :: k)) cs) w1 (seen P fn m) := by
 rw [<- finish_arr _ _ _ _ _ _ _ _ _ _ ho]
 unfold stepG.apply
 dsimp only
 rw [if_pos rfl,h]
 cases dk <;> simp [fd,G,GStep.after]
theorem ad_enter {ops : Array Oper} {i : Nat} {rest : List Nat} {s : Sem Next} {f : FuncId} {args : Array Value} {w1 : World} {m : Array Event} (h : s.runT P w #[] = (.ok (.enter f args) w1,m)) :
   stepG.apply P true (fd dk fn n ds σ (.inRegion ops (i :: rest) :: k)) cs none s w = .go (G (Frame.enter P f args .normal) (fd dk fn n ds σ (.inRegion ops (i :: rest) :: k) :: cs)) w1 (seen P fn m) := by
 unfold stepG.apply
 dsimp only
 rw [if_pos rfl,h]
 cases dk <;> simp [fd,G,GStep.after]
end
section
variable [Payload] (P : Program) (main : Bool) (Wg k : Nat) (I : World -> Prop) (Sh : Nat -> Prop) (Stop : Stp)
def Wy (Ow : Nat -> Prop) (g : Goroutine) (w : World) : Prop := ∃ o,Way P main Wg k none I Sh Stop o Ow g w
end
def RdE (Sh Ow : Nat -> Prop) (e : Event) : Prop := ∃ a,e.loc = .cell a /\ e.sync = false /\ e.write = false /\ (Sh a.block \/ Ow a.block)
section
variable [Payload] {P : Program} {main : Bool} {Wg k : Nat} {I : World -> Prop} {Sh : Nat -> Prop} {Stop : Stp} {Ow : Nat -> Prop} {g g' : Goroutine} {w : World}
theorem Wy.suf {w₁ : World} (h : Wy P main Wg k I Sh Stop Ow g w) (s : Suf Sh Ow I w w₁) : Wy P main Wg k I Sh Stop Ow g w₁ := let ⟨o,h⟩ := h; ⟨o,h.suf s⟩
theorem wy_ctl (hr : g.status = .running) (hs : ∀ w,stepG P main g w = .go g' w #[]) (h : Wy P main Wg k I Sh Stop Ow g' w) : Wy P main Wg k I Sh Stop Ow g w :=
 Way.of_step hr fun w₁ s => ⟨g',w₁,#[],Ow,hs w₁,Act1.still _ _ _ _ _ _ (by simp),h.suf s⟩
theorem wy_stop (h : ∀ w₁,Suf Sh Ow I w w₁ -> Stop Ow g w₁) : Wy P main Wg k I Sh Stop Ow g w := Way.stop h
variable {dk : Bool} {fn : FuncId} {n : Nat} {ds : List Deferred} {σ : Nat -> Value} {q : List Item} {cs : List Frame}
theorem wy_ret (h : Wy P main Wg k I Sh Stop Ow (G (fdR dk fn n ds σ (.code .ret :: q)) cs) w) : Wy P main Wg k I Sh Stop Ow (G (fd dk fn n ds σ (.code .ret :: q)) cs) w := wy_ctl rfl (fun _ => sd_ret) h
theorem wy_skip (h : Wy P main Wg k I Sh Stop Ow (G (fd dk fn n ds σ q) cs) w) : Wy P main Wg k I Sh Stop Ow (G (fd dk fn n ds σ (.code .skip :: q)) cs) w := wy_ctl rfl (fun _ => sd_skip) h
theorem wy_inBlock {id : Nat} (h : Wy P main Wg k I Sh Stop Ow (G (fd dk fn n ds σ q) cs) w) : Wy P main Wg k I Sh Stop Ow (G (fd dk fn n ds σ (.inBlock id :: q)) cs) w := wy_ctl rfl (fun _ => sd_inBlock) h
theorem wy_seq {x y : Code} (h : Wy P main Wg k I Sh Stop Ow (G (fd dk fn n ds σ (.code x :: .code y :: q)) cs) w) : Wy P main Wg k I Sh Stop Ow (G (fd dk fn n ds σ (.code (.seq x y) :: q)) cs) w := wy_ctl rfl (fun _ => sd_seq) h
theorem wy_block {x : Code} {id : Nat} (h : Wy P main Wg k I Sh Stop Ow (G (fd dk fn n ds σ (.code x :: .inBlock id :: q)) cs) w) : Wy P main Wg k I Sh Stop Ow (G (fd dk fn n ds σ (.code (.block id x) :: q)) cs) w := wy_ctl rfl (fun _ => sd_block) h
theorem wy_loop {x : Code} (h : Wy P main Wg k I Sh Stop Ow (G (fd dk fn n ds σ (.code x :: .inLoop x :: q)) cs) w) : Wy P main Wg k I Sh Stop Ow (G (fd dk fn n ds σ (.code (.loop x) :: q)) cs) w := wy_ctl rfl (fun _ => sd_loop) h
theorem wy_inLoop {x : Code} (h : Wy P main Wg k I Sh Stop Ow (G (fd dk fn n ds σ (.code x :: .inLoop x :: q)) cs) w) : Wy P main Wg k I Sh Stop Ow (G (fd dk fn n ds σ (.inLoop x :: q)) cs) w := wy_ctl rfl (fun _ => sd_inLoop) h
theorem wy_exit {id : Nat} {q' : List Item} (hx : exitTo id q = some q') (h : Wy P main Wg k I Sh Stop Ow (G (fd dk fn n ds σ q') cs) w) : Wy P main Wg k I Sh Stop Ow (G (fd dk fn n ds σ (.code (.exit id) :: q)) cs) w := wy_ctl rfl (fun _ => sd_exit hx) h
theorem wy_cond {x y : Code} {p : Operand} (t : Bool) (hp : evT (arr n σ) p = .bool t) (h : Wy P main Wg k I Sh Stop Ow (G (fd dk fn n ds σ (.code (if t then x else y) :: q)) cs) w) : Wy P main Wg k I Sh Stop Ow (G (fd dk fn n ds σ (.code (.cond p x y) :: q)) cs) w := wy_ctl rfl (fun _ => sd_cond hp) h
theorem wy_region {id : Nat} {ops : Array Oper} (l : List Nat) (hl : List.range ops.size = l) (h : Wy P main Wg k I Sh Stop Ow (G (fd dk fn n ds σ (.inRegion ops l :: q)) cs) w) : Wy P main Wg k I Sh Stop Ow (G (fd dk fn n ds σ (.code (.region id ops false) :: q)) cs) w := by subst hl; exact wy_ctl rfl (fun _ => sd_region) h
theorem wy_regionEnd {ops : Array Oper} (h : Wy P main Wg k I Sh Stop Ow (G (fd dk fn n ds σ q) cs) w) : Wy P main Wg k I Sh Stop Ow (G (fd dk fn n ds σ (.inRegion ops [] :: q)) cs) w := wy_ctl rfl (fun _ => sd_regionEnd) h
theorem wy_draw {id : Nat} {ops : Array Oper} (hI : ∀ w d,I w -> I { w with drawn := d }) (h : ∀ t,Wy P main Wg k I Sh Stop Ow (G (fd dk fn n ds σ (.inRegion ops (Region.schedule (P.follows .mixedOrders) ops t) :: q)) cs) w) : Wy P main Wg k I Sh Stop Ow (G (fd dk fn n ds σ (.code (.region id ops true) :: q)) cs) w := by
 refine Way.of_step rfl fun w₁ s => ⟨_,_,_,Ow,sd_draw,⟨rfl,rfl,rfl,Nat.le_refl _,fun _ _ _ _ => rfl,fun _ _ e => (nomatch e),fun _ h => .inl h,fun _ h => h,by simp⟩,?_⟩
 exact (h _).suf ⟨⟨s.kept.tape,s.kept.size,s.kept.block⟩,hI _ _ s.inv⟩
theorem wy_val {ops : Array Oper} {i : Nat} {rest : List Nat} {o : Oper} (d : Option Tmp) (v : Value) (ho : ops[i]? = some o) (hd : o.dst = d) (hg : o.guard = none)
   (hx : ∀ w₁,Suf Sh Ow I w w₁ -> ∃ m,(execOp (evT (arr n σ)) o).runT P w₁ #[] = (.ok (.value v) w₁,m) /\ ∀ e ∈ m,RdE Sh Ow e)
   (h : Wy P main Wg k I Sh Stop Ow (G (fd dk fn n ds (put σ d v) (.inRegion ops rest :: q)) cs) w) : Wy P main Wg k I Sh Stop Ow (G (fd dk fn n ds σ (.inRegion ops (i :: rest) :: q)) cs) w := by
 subst hd
 refine Way.of_step rfl fun w₁ s => ?_
 obtain ⟨m,e1,e2⟩ := hx w₁ s
 refine ⟨_,w₁,seen P fn m,Ow,(sd_oper ho hg).trans (ad_value ho e1),⟨rfl,rfl,rfl,Nat.le_refl _,fun _ _ _ _ => rfl,fun _ _ e => (nomatch e),fun _ h => .inl h,fun _ h => h,fun e he => ?_⟩,h.suf s⟩
 obtain ⟨a,h1,h2,h3,h4⟩ := e2 e (mem_seen he)
 exact .inl ⟨a,h1,h2,h4.elim (fun x => .inr ⟨x,h3⟩) .inl⟩
theorem wy_pure {ops : Array Oper} {i : Nat} {rest : List Nat} {o : Oper} (d : Option Tmp) (v : Value) (ho : ops[i]? = some o) (hd : o.dst = d) (hg : o.guard = none)
   (hx : ∀ w₁,(execOp (evT (arr n σ)) o).runT P w₁ #[] = (.ok (.value v) w₁,#[]))
   (h : Wy P main Wg k I Sh Stop Ow (G (fd dk fn n ds (put σ d v) (.inRegion ops rest :: q)) cs) w) : Wy P main Wg k I Sh Stop Ow (G (fd dk fn n ds σ (.inRegion ops (i :: rest) :: q)) cs) w :=
 wy_val d v ho hd hg (fun w₁ _ => ⟨#[],hx w₁,by simp⟩) h
theorem wy_new {ops : Array Oper} {i : Nat} {rest : List Nat} {o : Oper} (d : Option Tmp) (vf : Nat -> Value) (obj : Obj) (ho : ops[i]? = some o) (hd : o.dst = d) (hg : o.guard = none)
   (hx : ∀ w₁,(execOp (evT (arr n σ)) o).runT P w₁ #[] = (.ok (.value (vf w₁.heap.size)) (w₁.alloc obj),#[]))
   (h : ∀ w₁,Suf Sh Ow I w w₁ -> Wy P main Wg k I Sh Stop (fun b => Ow b \/ b = w₁.heap.size) (G (fd dk fn n ds (put σ d (vf w₁.heap.size)) (.inRegion ops rest :: q)) cs) (w₁.alloc obj)) : Wy P main Wg k I Sh Stop Ow (G (fd dk fn n ds σ (.inRegion ops (i :: rest) :: q)) cs) w := by
 subst hd
 refine Way.of_step rfl fun w₁ s => ?_
 refine ⟨_,w₁.alloc obj,seen P fn #[],fun b => Ow b \/ b = w₁.heap.size,(sd_oper ho hg).trans (ad_value ho (hx w₁)),⟨rfl,rfl,rfl,by simp,fun b hb _ _ => ?_,fun _ _ e => (nomatch e),fun b hb => ?_,fun _ h => .inl h,fun e he => absurd (mem_seen he) (by simp)⟩,h w₁ s⟩
 · show (w₁.heap.push obj)[b]? = _
   rw [Array.getElem?_push,if_neg (by omega)]
 · rcases hb with hb | rfl
   · exact .inl hb
   · exact .inr ⟨Nat.le_refl _,by simp⟩
theorem wy_set {ops : Array Oper} {i : Nat} {rest : List Nat} {o : Oper} (d : Option Tmp) (x : Nat) (f : World -> World) (ho : ops[i]? = some o) (hd : o.dst = d) (hg : o.guard = none) (hx0 : Ow x)
   (hx : ∀ w₁,Suf Sh Ow I w w₁ -> ∃ m,(execOp (evT (arr n σ)) o).runT P w₁ #[] = (.ok .skip (f w₁),m) /\ (∀ e ∈ m,∃ a,e.loc = .cell a /\ e.sync = false /\ a.block = x) /\ (f w₁).tape = w₁.tape /\ (f w₁).os = w₁.os /\ (f w₁).output = w₁.output /\ (f w₁).heap.size = w₁.heap.size /\ ∀ b,b ≠ x -> (f w₁).heap[b]? = w₁.heap[b]?)
   (h : ∀ w₁,Suf Sh Ow I w w₁ -> Wy P main Wg k I Sh Stop Ow (G (fd dk fn n ds (put σ d undef) (.inRegion ops rest :: q)) cs) (f w₁)) : Wy P main Wg k I Sh Stop Ow (G (fd dk fn n ds σ (.inRegion ops (i :: rest) :: q)) cs) w := by
 subst hd
 refine Way.of_step rfl fun w₁ s => ?_
 obtain ⟨m,e1,e2,e3,e4,e5,e6,e7⟩ := hx w₁ s
 refine ⟨_,f w₁,seen P fn m,Ow,(sd_oper ho hg).trans (ad_skip ho e1),⟨e3,e4,e5,Nat.le_of_eq e6.symm,fun b _ hb _ => e7 b fun q => hb (q ▸ hx0),fun _ _ e => (nomatch e),fun _ h => .inl h,fun _ h => h,fun e he => ?_⟩,h w₁ s⟩
 obtain ⟨a,h1,h2,h3⟩ := e2 e (mem_seen he)
 exact .inl ⟨a,h1,h2,.inl (h3 ▸ hx0)⟩
theorem wy_call {ops : Array Oper} {i : Nat} {rest : List Nat} {o : Oper} (f : FuncId) (args : Array Value) (ho : ops[i]? = some o) (hg : o.guard = none)
   (hx : ∀ w₁,(execOp (evT (arr n σ)) o).runT P w₁ #[] = (.ok (.enter f args) w₁,#[]))
   (h : Wy P main Wg k I Sh Stop Ow (G (Frame.enter P f args .normal) (fd dk fn n ds σ (.inRegion ops (i :: rest) :: q) :: cs)) w) : Wy P main Wg k I Sh Stop Ow (G (fd dk fn n ds σ (.inRegion ops (i :: rest) :: q)) cs) w := by
 refine Way.of_step rfl fun w₁ s => ?_
 refine ⟨_,w₁,seen P fn #[],Ow,(sd_oper ho hg).trans (ad_enter (hx w₁)),Act1.still _ _ _ _ _ _ (fun e he => absurd (mem_seen he) (by simp)),h.suf s⟩
theorem wy_back {fn' : FuncId} {ts : Array Value} {td : List Item} {ops : Array Oper} {i : Nat} {rest : List Nat} {o : Oper} {f : Func} (d : Option Tmp) (v : Value) (ho : ops[i]? = some o) (hd : o.dst = d) (hf : P.funcs[fn']? = some f) (hr : ∀ (w : World) es,(results f ts).runT P w es = (.ok v w,es))
   (h : Wy P main Wg k I Sh Stop Ow (G (fd dk fn n ds (put σ d v) (.inRegion ops rest :: q)) cs) w) : Wy P main Wg k I Sh Stop Ow (G (frm fn' ts td .returning) (fd dk fn n ds σ (.inRegion ops (i :: rest) :: q) :: cs)) w := by
 subst hd
 refine Way.of_step rfl fun w₁ s => ?_
 refine ⟨_,w₁,seen P fn' #[],Ow,(st_return hf (fun es => hr w₁ es)).trans (by rw [finish_arr _ _ _ _ _ _ _ _ _ _ ho]),Act1.still _ _ _ _ _ _ (fun e he => absurd (mem_seen he) (by simp)),h.suf s⟩
end
def ordL (ops : Array Oper) (fuel t : Nat) (listed : Array Bool) : List Nat := Region.linearise.go .any ops fuel t listed []
theorem ord_cases (ops : Array Oper) (fuel t : Nat) (listed : Array Bool) :
   (Region.ready .any ops listed = [] /\ ordL ops (fuel + 1) t listed = []) \/ ∃ i t',i ∈ Region.ready .any ops listed /\ ordL ops (fuel + 1) t listed = i :: ordL ops fuel t' (listed.setIfInBounds i true) := by
 have e : ordL ops (fuel + 1) t listed = (match (Region.ready .any ops listed)[t % (Region.ready .any ops listed).length]? with
     | some i => Region.linearise.go .any ops fuel (t / (Region.ready .any ops listed).length) (listed.setIfInBounds i true) [i]
     | none => [].reverse) := rfl
 cases hi : (Region.ready .any ops listed)[t % (Region.ready .any ops listed).length]? with
 | none =>
   have hnil : Region.ready .any ops listed = [] := by
     cases hr : Region.ready .any ops listed with
     | nil => rfl
     | cons x xs =>
       rw [hr] at hi
       have hlt : t % (x :: xs).length < (x :: xs).length := Nat.mod_lt _ (by simp)
       simp at hi
       simp at hlt
       omega
   refine .inl ⟨hnil,?_⟩
   rw [e,hi]
   rfl
 | some i =>
   refine .inr ⟨i,t / (Region.ready .any ops listed).length,List.mem_of_getElem? hi,?_⟩
   rw [e,hi]
   simp only []
   rw [linearise_go_acc,List.reverse_singleton,List.singleton_append]
   rfl
structure Ag (ops : Array Oper) (fin σ0 : Nat -> Value) (listed : Array Bool) (σ : Nat -> Value) : Prop where
 don : ∀ (i : Nat) (o : Oper) (d : Nat),ops[i]? = some o -> o.dst = some d -> listed[i]? = some true -> σ d = fin d
 non : ∀ d,(∀ (i : Nat) (o : Oper),ops[i]? = some o -> o.dst = some d -> listed[i]? ≠ some true) -> σ d = σ0 d
theorem Ag.start (ops : Array Oper) (fin σ0 : Nat -> Value) : Ag ops fin σ0 (Array.replicate ops.size false) σ0 := by
 refine ⟨fun i o d _ _ h => ?_,fun d _ => rfl⟩
 rw [Array.getElem?_replicate] at h
 split at h <;> simp at h
theorem set_true {listed : Array Bool} {i j : Nat} (h : listed[j]? = some true) : (listed.setIfInBounds i true)[j]? = some true := by
 rw [Array.getElem?_setIfInBounds]
 split
 · have := (Array.getElem?_eq_some_iff.1 h).1
   rename_i e
   rw [if_pos (by omega)]
 · exact h
theorem of_set_true {listed : Array Bool} {i j : Nat} (hne : j ≠ i) (h : (listed.setIfInBounds i true)[j]? = some true) : listed[j]? = some true := by
 rw [Array.getElem?_setIfInBounds,if_neg (by omega)] at h
 exact h
theorem Ag.put {ops : Array Oper} {fin σ0 σ : Nat -> Value} {listed : Array Bool} (h : Ag ops fin σ0 listed σ) {i : Nat} {o : Oper} (ho : ops[i]? = some o) (hl : listed[i]? = some false) {v : Value} (hv : ∀ d,o.dst = some d -> v = fin d) : Ag ops fin σ0 (listed.setIfInBounds i true) (put σ o.dst v) := by
 have hi : (listed.setIfInBounds i true)[i]? = some true := by
   have := (Array.getElem?_eq_some_iff.1 hl).1
   rw [Array.getElem?_setIfInBounds,if_pos rfl,if_pos this]
 refine ⟨fun j oj d hj hd hlj => ?_,fun d hd => ?_⟩
 · by_cases hji : j = i
   · subst hji
     rw [ho] at hj
     cases hj
     rw [hd]
     simp [Cc.put,ups,hv d hd]
   · have h2 := h.don j oj d hj hd (of_set_true hji hlj)
     cases hod : o.dst with
     | none => exact h2
     | some d' =>
       simp only [Cc.put,ups]
       split
       · rename_i e
         rw [hv d' hod,e]
       · exact h2
 · have h2 := h.non d fun j oj hj hdj hlj => hd j oj hj hdj (set_true hlj)
   cases hod : o.dst with
   | none => exact h2
   | some d' =>
     simp only [Cc.put,ups]
     rw [if_neg fun e => ?_]
     · exact h2
     · subst e
       exact hd i o ho hod hi
def depOk (ops : Array Oper) : Bool := ops.all fun o => o.op.operands.all fun x => match x with
 | .tmp t => (List.range ops.size).all fun j => !((ops[j]?).bind (·.dst) == some t) || o.after.any fun e => Region.binds .any e && e.on == j
 | _ => true
section
variable {ops : Array Oper} {fin σ0 σ : Nat -> Value} {listed : Array Bool} {n : Nat}
theorem Ag.evs (hdep : depOk ops = true) (hfin : ∀ d,(∀ (i : Nat) (o : Oper),ops[i]? = some o -> o.dst ≠ some d) -> fin d = σ0 d) (h : Ag ops fin σ0 listed σ) {i : Nat} {o : Oper} (ho : ops[i]? = some o) (hr : i ∈ Region.ready .any ops listed) : ∀ x ∈ o.op.operands,evT (arr n σ) x = evT (arr n fin) x := by
 intro x hx
 cases x with
 | tmp t =>
   have key : σ t = fin t := by
     by_cases hex : ∃ (j : Nat) (oj : Oper),ops[j]? = some oj /\ oj.dst = some t
     · obtain ⟨j,oj,hj,hd⟩ := hex
       unfold depOk at hdep
       rw [Array.all_eq_true_iff_forall_mem] at hdep
       have h1 := hdep o (Array.mem_of_getElem? ho)
       rw [Array.all_eq_true_iff_forall_mem] at h1
       have h2 := h1 _ hx
       simp only [List.all_eq_true,List.mem_range] at h2
       have h3 := h2 j (Array.getElem?_eq_some_iff.1 hj).1
       rw [hj,Option.bind_some,hd] at h3
       simp only [beq_self_eq_true,Bool.not_true,Bool.false_or] at h3
       obtain ⟨e,he,h4⟩ := Array.any_eq_true'.1 h3
       simp only [Bool.and_eq_true,beq_iff_eq] at h4
       obtain ⟨_,o2,ho2,hall⟩ := mem_ready.1 hr
       rw [ho] at ho2
       cases ho2
       have h5 := hall e he h4.1
       rw [h4.2] at h5
       refine h.don j oj t hj hd ?_
       rw [Array.getD_eq_getD_getElem?] at h5
       cases hl : listed[j]? with
       | none => rw [hl] at h5; simp at h5
       | some b => rw [hl] at h5; simp at h5; rw [h5]
     · have hno : ∀ (i : Nat) (o : Oper),ops[i]? = some o -> o.dst ≠ some t := fun i o h1 h2 => hex ⟨i,o,h1,h2⟩
       rw [h.non t fun i o h1 h2 => absurd h2 (hno i o h1),hfin t hno]
   show (arr n σ).getD t undef = (arr n fin).getD t undef
   rw [Array.getD_eq_getD_getElem?,Array.getD_eq_getD_getElem?,arr_get,arr_get,key]
 | const v => rfl
 | global g => rfl
 | func f => rfl
end
def unl (listed : Array Bool) : Nat := listed.toList.count false
theorem count_set_true : ∀ (l : List Bool) (i : Nat),l[i]? = some false -> (l.set i true).count false + 1 = l.count false
 | [],_,h => by simp at h
 | x :: l,0,h => by
   simp only [List.getElem?_cons_zero,Option.some.injEq] at h
   subst h
   simp
 | x :: l,i + 1,h => by
   rw [List.getElem?_cons_succ] at h
   have := count_set_true l i h
   simp only [List.set_cons_succ,List.count_cons]
   omega
theorem unl_set {listed : Array Bool} {i : Nat} (h : listed[i]? = some false) : unl (listed.setIfInBounds i true) + 1 = unl listed := by
 unfold unl
 rw [Array.toList_setIfInBounds]
 exact count_set_true _ i (by rw [Array.getElem?_toList]; exact h)
theorem ready_false {ops : Array Oper} {listed : Array Bool} {i : Nat} (_ : listed.size = ops.size) (h : i ∈ Region.ready .any ops listed) : listed[i]? = some false := by
 obtain ⟨h1,o,h2,_⟩ := mem_ready.1 h
 have := (Array.getElem?_eq_some_iff.1 h2).1
 rw [Array.getD_eq_getD_getElem?] at h1
 cases hl : listed[i]? with
 | none => rw [hl] at h1; simp at h1
 | some b => rw [hl] at h1; simp at h1; rw [h1]
theorem unl_zero {ops : Array Oper} {listed : Array Bool} (hs : listed.size = ops.size) (h : unl listed = 0) : ∀ i,i < ops.size -> listed[i]? = some true := by
 intro i hi
 unfold unl at h
 rw [List.count_eq_zero] at h
 rw [Array.getElem?_eq_getElem (by omega)]
 cases hb : listed[i] with
 | true => rfl
 | false => exact absurd (by rw [<- hb]; simp) h
def depLt (ops : Array Oper) : Bool := (List.range ops.size).all fun i => ((ops[i]?).map fun o => o.after.all fun e => !Region.binds .any e || decide (e.on < i)).getD true
theorem ready_nil {ops : Array Oper} {listed : Array Bool} (hd : depLt ops = true) (hs : listed.size = ops.size) (h : Region.ready .any ops listed = []) : ∀ i,i < ops.size -> listed[i]? = some true := by
 intro i
 induction i using Nat.strongRecOn with
 | _ i ih =>
   intro hi
   cases hb : listed[i]'(by omega) with
   | true => rw [Array.getElem?_eq_getElem (by omega),hb]
   | false =>
     exfalso
     have hr : i ∈ Region.ready .any ops listed := by
       rw [mem_ready]
       refine ⟨by rw [Array.getD_eq_getD_getElem?,Array.getElem?_eq_getElem (by omega),hb]; rfl,ops[i],Array.getElem?_eq_getElem hi,fun e he hbi => ?_⟩
       unfold depLt at hd
       simp only [List.all_eq_true,List.mem_range] at hd
       have h1 := hd i hi
       rw [Array.getElem?_eq_getElem hi,Option.map_some,Option.getD_some,Array.all_eq_true_iff_forall_mem] at h1
       have h2 := h1 e he
       rw [hbi] at h2
       simp only [Bool.not_true,Bool.false_or,decide_eq_true_eq] at h2
       rw [Array.getD_eq_getD_getElem?,ih e.on h2 (by omega)]
       rfl
     rw [h] at hr
     cases hr
def Clo (ops : Array Oper) (listed : Array Bool) : Prop := ∀ (i : Nat) (o : Oper),ops[i]? = some o -> listed[i]? = some true -> ∀ e ∈ o.after,Region.binds .any e = true -> listed[e.on]? = some true
def dp (ops : Array Oper) (a b : Nat) : Bool := ((ops[a]?).map fun o => o.after.any fun e => Region.binds .any e && e.on == b).getD false
theorem dp_at {ops : Array Oper} {a b : Nat} {o : Oper} (ho : ops[a]? = some o) (h : dp ops a b = true) : ∃ e ∈ o.after,Region.binds .any e = true /\ e.on = b := by
 unfold dp at h
 rw [ho,Option.map_some,Option.getD_some] at h
 obtain ⟨e,he,h2⟩ := Array.any_eq_true'.1 h
 simp only [Bool.and_eq_true,beq_iff_eq] at h2
 exact ⟨e,he,h2⟩
theorem Clo.at_ {ops : Array Oper} {listed : Array Bool} (h : Clo ops listed) {a b : Nat} (ha : listed[a]? = some true) (hd : dp ops a b = true) : listed[b]? = some true := by
 cases ho : ops[a]? with
 | none => unfold dp at hd; rw [ho] at hd; cases hd
 | some o =>
   obtain ⟨e,he,h1,rfl⟩ := dp_at ho hd
   exact h a o ho ha e he h1
theorem getD_true {listed : Array Bool} {i : Nat} (h : listed.getD i false = true) : listed[i]? = some true := by
 rw [Array.getD_eq_getD_getElem?] at h
 cases hl : listed[i]? with
 | none => rw [hl] at h; simp at h
 | some b => rw [hl] at h; simp at h; rw [h]
theorem ready_dp {ops : Array Oper} {listed : Array Bool} {a b : Nat} (h : a ∈ Region.ready .any ops listed) (hd : dp ops a b = true) : listed[b]? = some true := by
 obtain ⟨_,o,ho,hall⟩ := mem_ready.1 h
 obtain ⟨e,he,h1,rfl⟩ := dp_at ho hd
 exact getD_true (hall e he h1)
theorem Clo.start (ops : Array Oper) : Clo ops (Array.replicate ops.size false) := fun i o _ h => by
 rw [Array.getElem?_replicate] at h
 split at h <;> simp at h
theorem Clo.put {ops : Array Oper} {listed : Array Bool} (h : Clo ops listed) {i : Nat} (hr : i ∈ Region.ready .any ops listed) : Clo ops (listed.setIfInBounds i true) := by
 intro j o ho hl e he hb
 by_cases hji : j = i
 · subst hji
   obtain ⟨_,o2,ho2,hall⟩ := mem_ready.1 hr
   rw [ho] at ho2
   cases ho2
   exact set_true (getD_true (hall e he hb))
 · exact set_true (h j o ho (of_set_true hji hl) e he hb)
section
variable [Payload] {P : Program} {main : Bool} {Wg k : Nat} {I : World -> Prop} {Sh : Nat -> Prop} {Stop : Stp} {Ow : Nat -> Prop} {w : World} {dk : Bool} {fn : FuncId} {n : Nat} {ds : List Deferred} {q : List Item} {cs : List Frame}
theorem wy_ord {ops : Array Oper} {fin σ0 : Nat -> Value} (hdep : depOk ops = true) (hlt : depLt ops = true) (hns : Region.noSelect ops = true) (hfin : ∀ d,(∀ (i : Nat) (o : Oper),ops[i]? = some o -> o.dst ≠ some d) -> fin d = σ0 d) (sp : Nat -> Prop) (hsp0 : ∃ s,s < ops.size /\ sp s) (L0 : Array Bool)
   (hop : ∀ (i : Nat) (o : Oper),ops[i]? = some o -> ¬ sp i -> L0[i]? ≠ some true -> ∃ v,(∀ d,o.dst = some d -> v = fin d) /\ ∀ σ rest,execOp (evT (arr n σ)) o = execOp (evT (arr n fin)) o -> Wy P main Wg k I Sh Stop Ow (G (fd dk fn n ds (put σ o.dst v) (.inRegion ops rest :: q)) cs) w -> Wy P main Wg k I Sh Stop Ow (G (fd dk fn n ds σ (.inRegion ops (i :: rest) :: q)) cs) w)
   (K : ∀ (i : Nat) (o : Oper) (fuel t : Nat) (listed : Array Bool) (σ : Nat -> Value),sp i -> ops[i]? = some o -> i ∈ Region.ready .any ops listed -> listed.size = ops.size -> unl listed = fuel + 1 -> (∀ j : Nat,L0[j]? = some true -> listed[j]? = some true) -> (∀ j,sp j -> listed[j]? ≠ some true) -> Clo ops listed -> Ag ops fin σ0 listed σ -> execOp (evT (arr n σ)) o = execOp (evT (arr n fin)) o -> Wy P main Wg k I Sh Stop Ow (G (fd dk fn n ds σ (.inRegion ops (i :: ordL ops fuel t (listed.setIfInBounds i true)) :: q)) cs) w) :
   ∀ (fuel t : Nat) (listed : Array Bool) (σ : Nat -> Value),listed.size = ops.size -> unl listed = fuel -> (∀ j : Nat,L0[j]? = some true -> listed[j]? = some true) -> (∀ j,sp j -> listed[j]? ≠ some true) -> Clo ops listed -> Ag ops fin σ0 listed σ -> Wy P main Wg k I Sh Stop Ow (G (fd dk fn n ds σ (.inRegion ops (ordL ops fuel t listed) :: q)) cs) w := by
 intro fuel
 induction fuel with
 | zero =>
   intro t listed σ hs hu h0 hsu hcl hA
   obtain ⟨s,s1,s2⟩ := hsp0
   exact absurd (unl_zero hs hu s s1) (hsu s s2)
 | succ fuel ih =>
   intro t listed σ hs hu h0 hsu hcl hA
   rcases ord_cases ops fuel t listed with ⟨h1,h2⟩ | ⟨i,t',h1,h2⟩
   · obtain ⟨s,s1,s2⟩ := hsp0
     exact absurd (ready_nil hlt hs h1 s s1) (hsu s s2)
   · rw [h2]
     obtain ⟨_,o,ho,_⟩ := mem_ready.1 h1
     have hl := ready_false hs h1
     have hev : execOp (evT (arr n σ)) o = execOp (evT (arr n fin)) o := execOp_congr o (fun cs b => Region.noSelect_spec hns i o cs b ho) (hA.evs hdep hfin ho h1)
     by_cases hsp : sp i
     · exact K i o fuel t' listed σ hsp ho h1 hs hu h0 hsu hcl hA hev
     · obtain ⟨v,hv,hstep⟩ := hop i o ho hsp fun e => by rw [h0 i e] at hl; cases hl
       refine hstep σ _ hev (ih t' _ _ (by simp [hs]) ?_ (fun j hj => set_true (h0 j hj)) (fun j hj e => ?_) (hcl.put h1) (hA.put ho hl hv))
       · have := unl_set hl
         omega
       · by_cases hji : j = i
         · exact hsp (hji ▸ hj)
         · exact hsu j hj (of_set_true hji e)
omit [Payload] in
theorem sched_ord (hm : P.follows .mixedOrders = true) (ops : Array Oper) (t : Nat) : Region.schedule (P.follows .mixedOrders) ops t = ordL ops ops.size t (Array.replicate ops.size false) := by
 simp only [Region.schedule,hm,Bool.true_or,if_true]
 rfl
end
theorem unl_start (n : Nat) : unl (Array.replicate n false) = n := by simp [unl]
theorem rep_not (n : Nat) (j : Nat) : (Array.replicate n false)[j]? ≠ some true := by
 rw [Array.getElem?_replicate]
 split <;> simp
end Go.Proofs.YtckoipoejaafhaaDoor.Cc

namespace Go.Proofs.YtckoipoejaafhaaDoor
open Go.RowKit
set_option maxRecDepth 100000
theorem ref_In_true (n lo hi : Int) (h1 : lo <= n) (h2 : n <= hi) (w : World) :
   Calls Tryd.prog 11 #[.int .i64 n,.int .i64 lo,.int .i64 hi] w fun e w' => e = .returned (.bool true) /\ w' = w := by
 go_enter Tryd.func11,Tryd.ntmps11
 go_wp2
 go_ret
 exact ⟨rfl,rfl⟩
theorem ref_In_low (n lo hi : Int) (h1 : n < lo) (w : World) :
   Calls Tryd.prog 11 #[.int .i64 n,.int .i64 lo,.int .i64 hi] w fun e w' => e = .returned (.bool false) /\ w' = w := by
 go_enter Tryd.func11,Tryd.ntmps11
 go_wp2
 go_ret
 exact ⟨rfl,rfl⟩
theorem ref_In_high (n lo hi : Int) (h1 : lo <= n) (h2 : hi < n) (w : World) :
   Calls Tryd.prog 11 #[.int .i64 n,.int .i64 lo,.int .i64 hi] w fun e w' => e = .returned (.bool false) /\ w' = w := by
 have hd : decide (n <= hi) = false := decide_eq_false (by omega)
 go_enter Tryd.func11,Tryd.ntmps11
 go_wp2
 go_ret
 exact ⟨rfl,rfl⟩
theorem two_pow_bound (j : Nat) (hj : j <= 10) : ((2 : Int) ^ j) = ((2 ^ j : Nat) : Int) /\ 2 ^ j <= 1024 := by
 refine ⟨by rw [Int.natCast_pow]; rfl,?_⟩
 exact Nat.le_trans (Nat.pow_le_pow_right (by decide) hj) (by decide)
end Go.Proofs.YtckoipoejaafhaaDoor
