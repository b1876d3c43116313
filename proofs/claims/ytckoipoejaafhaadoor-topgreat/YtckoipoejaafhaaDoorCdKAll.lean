/-
  Texts that stood one behind the other, as one.
-/
import Derived.Test.YtckoipoejaafhaaDoorCdIAll
import Derived.Test.YtckoipoejaafhaaDoorCcStAll
import Derived.Conc.DeferLaws
namespace Go.Proofs.YtckoipoejaafhaaDoor.Cc
open Go Go.Conc
open Go.ConcN (sumTo)
def Sb (P : Program) (N0 : Nat) (a : Goroutine) (pw : World) (m : Machine) (t : Trace) : Prop :=
  ∃ q Su f gs w sl τ d, m = crowd gs w sl ∧ Bes P q Su nob nob f gs a w t ∧ SuC Su w ∧ (∃ G0, G0 ≤ N0 ∧ NoEarly P G0 ∧ Gl G0 (emp Su w)) ∧ (∀ b, Su b → N0 ≤ b) ∧ pw = tp (emp Su w) τ d
def Leads (P : Program) (N0 : Nat) (a : Goroutine) (pw : World) (Q : Goroutine → World → Prop) : Prop :=
  ∀ m t, Sb P N0 a pw m t → ∃ N m' t' a' pw', runNT P N m t = (.next m', t') ∧ Sb P N0 a' pw' m' t' ∧ Q a' pw'
structure Blw (w w' : World) : Prop where
  os : w'.os = w.os
  output : w'.output = w.output
  size : w.heap.size ≤ w'.heap.size
  block : ∀ k, k < w.heap.size → w'.heap[k]? = w.heap[k]?
theorem Blw.refl (w : World) : Blw w w := ⟨rfl, rfl, Nat.le_refl _, fun _ _ => rfl⟩
theorem Blw.trans {a b c : World} (h : Blw a b) (k : Blw b c) : Blw a c := ⟨k.os.trans h.os, k.output.trans h.output, Nat.le_trans h.size k.size, fun i hi => (k.block i (Nat.lt_of_lt_of_le hi h.size)).trans (h.block i hi)⟩
theorem Blw.below {w w' : World} (h : Blw w w') : Go.RowKit.Below w.heap.size w (tp w' w.tape w'.drawn) := ⟨h.os, rfl, h.output, h.size, h.block⟩
section
variable {P : Program} {N0 : Nat} {a : Goroutine} {pw : World} {Q Q' : Goroutine → World → Prop}
theorem leads_stop (h : Q a pw) : Leads P N0 a pw Q := fun m t hS => ⟨0, m, t, a, pw, rfl, hS, h⟩
theorem Leads.then {a : Goroutine} {pw : World} (h : Leads P N0 a pw Q) (k : ∀ a' pw', Q a' pw' → Leads P N0 a' pw' Q') : Leads P N0 a pw Q' := fun m t hS => by
  obtain ⟨N, m', t', a', pw', h1, h2, h3⟩ := h m t hS
  obtain ⟨M, m2, t2, a2, pw2, k1, k2, k3⟩ := k a' pw' h3 m' t' h2
  exact ⟨N + M, m2, t2, a2, pw2, runNT_seq h1 k1, k2, k3⟩
theorem Leads.mono (h : Leads P N0 a pw Q) (k : ∀ a' pw', Q a' pw' → Q' a' pw') : Leads P N0 a pw Q' := h.then fun _ _ q => leads_stop (k _ _ q)
theorem leads_ctl {a' : Goroutine} (hr : a.status = .running) (hs : ∀ w, stepG P true a w = .go a' w #[]) (h : Leads P N0 a' pw Q) : Leads P N0 a pw Q := fun m t hS => by
  obtain ⟨q, Su, f, gs, w, sl, τ, d, rfl, h2, h3, h4, hN, rfl⟩ := hS
  obtain ⟨N2, f2, gs2, d2, d3, sl2, sl3, t2, r1, r2, r3⟩ := Bes.turn (a := a) _ f gs w sl t (Nat.le_refl _) hr h2
  obtain ⟨g1, g2⟩ := r2.stepB (sl := sl3) (hs (w.at d3)) (Nat.le_refl _) (fun e he => by simp at he)
  obtain ⟨M, m2, t2', a2, pw2, k1, k2, k3⟩ := h _ _ ⟨q, Su, f2, _, w.at d3, sl3, τ, d, rfl, g2, h3, h4, hN, rfl⟩
  exact ⟨N2 + (1 + M), m2, t2', a2, pw2, runNT_seq r1 (runNT_seq (by rw [runNT_succ_next (r3.trans g1)]; rfl) k1), k2, k3⟩
theorem leads_read {a' : Goroutine} (hr : a.status = .running) (hs : ∀ (Su : Nat → Prop) w, SuC Su w → (∃ τ d, pw = tp (emp Su w) τ d) → ∃ es, stepG P true a w = .go a' w es ∧ ∀ e ∈ es, EvB Su w.heap.size e) (h : Leads P N0 a' pw Q) : Leads P N0 a pw Q := fun m t hS => by
  obtain ⟨q, Su, f, gs, w, sl, τ, d, rfl, h2, h3, h4, hN, rfl⟩ := hS
  obtain ⟨N2, f2, gs2, d2, d3, sl2, sl3, t2, r1, r2, r3⟩ := Bes.turn (a := a) _ f gs w sl t (Nat.le_refl _) hr h2
  obtain ⟨es, e1, e2⟩ := hs Su (w.at d3) h3 ⟨τ, d, rfl⟩
  obtain ⟨g1, g2⟩ := r2.stepB (sl := sl3) e1 (Nat.le_refl _) e2
  obtain ⟨M, m2, t2', a2, pw2, k1, k2, k3⟩ := h _ _ ⟨q, Su, f2, _, w.at d3, sl3, τ, d, rfl, g2, h3, h4, hN, rfl⟩
  exact ⟨N2 + (1 + M), m2, t2', a2, pw2, runNT_seq r1 (runNT_seq (by rw [runNT_succ_next (r3.trans g1)]; rfl) k1), k2, k3⟩
section
variable {fs : Fs}
theorem leads_call (hF : FnsAll P fs) {f : FuncId} {args : Array Value} {c : Frame} {cs : List Frame} {R : Value → World → Prop} (hf : fs.contains f = true)
    (hC : ∀ τ d, Calls P f args (tp pw τ d) fun e w1 => ∃ v, e = .returned v ∧ R v w1) (hR : ∀ v w τ d τ' d', R v (tp w τ d) → R v (tp w τ' d')) (ha : args.size ≤ 7 := by simp) :
    Leads P N0 (G (Frame.enter P f args .normal) (c :: cs)) pw fun a' pw' => ∃ v, a' = G (c.finish v) cs ∧ R v pw' := fun m t hS => by
  obtain ⟨q, Su, ff, gs, w, sl, τ, d, rfl, h2, h3, h4, hN, rfl⟩ := hS
  obtain ⟨G0, hG0, hE, h4⟩ := h4
  obtain ⟨N, ff', gs', w', sl', t', v, r1, r2, r3, r4, r5, r6, r7⟩ := call_beside hF hE hf ha sl h2 h3 h4 (fun τ' d' => hC τ' d') hR
  exact ⟨N, _, t', _, emp Su w', r1, ⟨q, Su, ff', gs', w', sl', _, _, rfl, r2, r3, ⟨G0, hG0, hE, r4⟩, hN, rfl⟩, v, rfl, r7⟩
theorem leads_piece (hF : FnsAll P fs) {fn : FuncId} {ts : Array Value} {c : Code} {k : List Item} {cs : List Frame} {R : Exit → Act → World → Prop} (hfn : ∃ f, P.funcs[fn]? = some f) (hsl : ∀ t, fs.has fn t = false) (hc : codeK P fs fn c = true)
    (hC : ∀ τ d, c.wp P R ⟨ts, []⟩ (tp pw τ d)) (hQ : ∀ e a w, R e a w → e = .normal ∨ e = .ret) (hR : ∀ e a w τ d τ' d', R e a (tp w τ d) → R e a (tp w τ' d')) :
    Leads P N0 (G (frm fn ts (.code c :: k) .run) cs) pw fun a' pw' => ∃ ts', (R .normal ⟨ts', []⟩ pw' ∧ a' = G (frm fn ts' k .run) cs) ∨ (R .ret ⟨ts', []⟩ pw' ∧ ∃ td, a' = G (frm fn ts' td .returning) cs) := fun m t hS => by
  obtain ⟨q, Su, ff, gs, w, sl, τ, d, rfl, h2, h3, h4, hN, rfl⟩ := hS
  obtain ⟨G0, hG0, hE, h4⟩ := h4
  obtain ⟨N, ff', gs', w', sl', t', ts', a', r1, r2, r3, r4, r5, r6, r7⟩ := piece_beside hF hE hfn hsl hc sl h2 h3 h4 (fun τ' d' => hC τ' d') hQ hR
  exact ⟨N, _, t', a', emp Su w', r1, ⟨q, Su, ff', gs', w', sl', _, _, rfl, r2, r3, ⟨G0, hG0, hE, r4⟩, hN, rfl⟩, ts', r7⟩
end
theorem leads_enter {fn : FuncId} {ts : Array Value} {ops : Array Oper} {i : Nat} {rest : List Nat} {k : List Item} {cs : List Frame} {o : Oper} {f : FuncId} {args : Array Value} (ho : ops[i]? = some o) (hw : Region.wanted o (yielded ops ts) = true)
    (hx : ∀ w, (execOp (evT ts) o).runT P w #[] = (.ok (.enter f args) w, #[])) (h : Leads P N0 (G (Frame.enter P f args .normal) (frm fn ts (.inRegion ops (i :: rest) :: k) .run :: cs)) pw Q) :
    Leads P N0 (G (frm fn ts (.inRegion ops (i :: rest) :: k) .run) cs) pw Q :=
  leads_ctl rfl (fun w => ((st_oper ho hw).trans (ap_enter (hx w))).trans (by simp [seen])) h
theorem leads_val {fn : FuncId} {ts : Array Value} {ops : Array Oper} {i : Nat} {rest : List Nat} {k : List Item} {cs : List Frame} {o : Oper} {v : Value} (ho : ops[i]? = some o) (hw : Region.wanted o (yielded ops ts) = true)
    (hx : ∀ w, (execOp (evT ts) o).runT P w #[] = (.ok (.value v) w, #[])) (h : Leads P N0 (G ((frm fn ts (.inRegion ops (i :: rest) :: k) .run).finish v) cs) pw Q) :
    Leads P N0 (G (frm fn ts (.inRegion ops (i :: rest) :: k) .run) cs) pw Q :=
  leads_ctl rfl (fun w => ((st_oper ho hw).trans (ap_value (hx w))).trans (by simp [seen])) h
theorem leads_back {fn : FuncId} {ts : Array Value} {td : List Item} {c : Frame} {cs : List Frame} {f : Func} {v : Value} (hf : P.funcs[fn]? = some f) (hr : ∀ (w : World) es, (results f ts).runT P w es = (.ok v w, es)) (h : Leads P N0 (G (c.finish v) cs) pw Q) :
    Leads P N0 (G (frm fn ts td .returning) (c :: cs)) pw Q :=
  leads_ctl rfl (fun w => (st_return hf (fun es => hr w es)).trans (by simp [seen])) h
end
end Go.Proofs.YtckoipoejaafhaaDoor.Cc

namespace Go.Proofs.YtckoipoejaafhaaDoor.Cc
open Go Go.Conc
open Go.ConcR (Payload)
def arr (n : Nat) (σ : Nat → Value) : Array Value := (List.map σ (List.range n)).toArray
def ups (σ : Nat → Value) (d : Nat) (v : Value) : Nat → Value := fun j => if j = d then v else σ j
def put (σ : Nat → Value) (dst : Option Tmp) (v : Value) : Nat → Value := match dst with | some d => ups σ d v | none => σ
theorem arr_size (n : Nat) (σ : Nat → Value) : (arr n σ).size = n := by simp [arr]
theorem arr_get (n : Nat) (σ : Nat → Value) (j : Nat) : (arr n σ)[j]? = if j < n then some (σ j) else none := by
  simp only [arr, List.getElem?_toArray, List.getElem?_map]
  by_cases h : j < n <;> simp [h]
theorem arr_set (n : Nat) (σ : Nat → Value) (d : Nat) (v : Value) : (arr n σ).setIfInBounds d v = arr n (ups σ d v) := by
  apply Array.ext_getElem?
  intro j
  rw [Array.getElem?_setIfInBounds, arr_get, arr_get, arr_size]
  unfold ups
  by_cases e : d = j
  · subst e
    by_cases h : d < n <;> simp [h]
  · rw [if_neg e]
    have : ¬ j = d := fun q => e q.symm
    simp [this]
theorem arr_ev {n : Nat} {σ : Nat → Value} {j : Nat} (h : j < n) : evT (arr n σ) (.tmp j) = σ j := by
  show (arr n σ).getD j undef = _
  rw [Array.getD_eq_getD_getElem?, arr_get, if_pos h]
  rfl
def fd (dk : Bool) (fn : FuncId) (n : Nat) (ds : List Deferred) (σ : Nat → Value) (k : List Item) : Frame := { fn := fn, tmps := arr n σ, todo := k, defers := ds, mode := .run, kind := if dk then .deferred else .normal, roundOf := none }
def fdR (dk : Bool) (fn : FuncId) (n : Nat) (ds : List Deferred) (σ : Nat → Value) (k : List Item) : Frame := { fn := fn, tmps := arr n σ, todo := k, defers := ds, mode := .returning, kind := if dk then .deferred else .normal, roundOf := none }
theorem fd_frm (fn : FuncId) (n : Nat) (σ : Nat → Value) (k : List Item) : fd false fn n [] σ k = frm fn (arr n σ) k .run := rfl
theorem fdR_frm (fn : FuncId) (n : Nat) (σ : Nat → Value) (k : List Item) : fdR false fn n [] σ k = frm fn (arr n σ) k .returning := rfl
theorem fd_at (fn : FuncId) (n : Nat) (ds : List Deferred) (σ : Nat → Value) (k : List Item) : fd false fn n ds σ k = (base fn).at ⟨arr n σ, ds⟩ k := rfl
theorem finish_arr (dk : Bool) (fn : FuncId) (n : Nat) (ds : List Deferred) (σ : Nat → Value) (ops : Array Oper) (i : Nat) (rest : List Nat) (k : List Item) (v : Value) {o : Oper} (ho : ops[i]? = some o) :
    (fd dk fn n ds σ (.inRegion ops (i :: rest) :: k)).finish v = fd dk fn n ds (put σ o.dst v) (.inRegion ops rest :: k) := by
  simp only [Frame.finish, fd, ho, Option.bind_some]
  cases hd : o.dst with
  | none => rfl
  | some d => simp only [put, arr_set]
theorem enter_fd {P : Program} {f : FuncId} {fn : Func} {c : Code} (args : Array Value) (hf : P.funcs[f]? = some fn) (hb : fn.body = some c) (hn : args.size ≤ fn.ntmps) :
    Frame.enter P f args .normal = fd false f fn.ntmps [] (fun j => args.getD j undef) [.code c] := by
  have h1 : args ++ Array.replicate (fn.ntmps - args.size) undef = arr fn.ntmps fun j => args.getD j undef := by
    apply Array.ext_getElem?
    intro j
    rw [arr_get, Array.getElem?_append]
    by_cases h : j < args.size
    · rw [if_pos h, if_pos (by omega)]
      simp [h]
    · rw [if_neg h]
      by_cases h2 : j < fn.ntmps
      · rw [if_pos h2, Array.getElem?_replicate, if_pos (by omega), Array.getD_eq_getD_getElem?, Array.getElem?_eq_none (by omega)]
        rfl
      · rw [if_neg h2, Array.getElem?_replicate, if_neg (by omega)]
  simp [Frame.enter, fd, hf, hb, h1]
section
variable {P : Program} {main : Bool} {dk : Bool} {fn : FuncId} {n : Nat} {ds : List Deferred} {σ : Nat → Value} {k : List Item} {cs : List Frame} {w : World}
theorem sd_nil : stepG P main (G (fd dk fn n ds σ []) cs) w = .go (G (fdR dk fn n ds σ []) cs) w := by simp [G, stepG, stepG.exec, fd, fdR]
theorem sd_ret : stepG P main (G (fd dk fn n ds σ (.code .ret :: k)) cs) w = .go (G (fdR dk fn n ds σ (.code .ret :: k)) cs) w := by simp [G, stepG, stepG.exec, fd, fdR]
theorem sd_skip : stepG P main (G (fd dk fn n ds σ (.code .skip :: k)) cs) w = .go (G (fd dk fn n ds σ k) cs) w := by simp [G, stepG, stepG.exec, fd]
theorem sd_inBlock {id : Nat} : stepG P main (G (fd dk fn n ds σ (.inBlock id :: k)) cs) w = .go (G (fd dk fn n ds σ k) cs) w := by simp [G, stepG, stepG.exec, fd]
theorem sd_seq {x y : Code} : stepG P main (G (fd dk fn n ds σ (.code (.seq x y) :: k)) cs) w = .go (G (fd dk fn n ds σ (.code x :: .code y :: k)) cs) w := by simp [G, stepG, stepG.exec, fd]
theorem sd_block {id : Nat} {c : Code} : stepG P main (G (fd dk fn n ds σ (.code (.block id c) :: k)) cs) w = .go (G (fd dk fn n ds σ (.code c :: .inBlock id :: k)) cs) w := by simp [G, stepG, stepG.exec, fd]
theorem sd_loop {c : Code} : stepG P main (G (fd dk fn n ds σ (.code (.loop c) :: k)) cs) w = .go (G (fd dk fn n ds σ (.code c :: .inLoop c :: k)) cs) w := by simp [G, stepG, stepG.exec, fd]
theorem sd_inLoop {c : Code} : stepG P main (G (fd dk fn n ds σ (.inLoop c :: k)) cs) w = .go (G (fd dk fn n ds σ (.code c :: .inLoop c :: k)) cs) w := by simp [G, stepG, stepG.exec, fd]
theorem sd_exit {id : Nat} {k' : List Item} (h : exitTo id k = some k') : stepG P main (G (fd dk fn n ds σ (.code (.exit id) :: k)) cs) w = .go (G (fd dk fn n ds σ k') cs) w := by simp [G, stepG, stepG.exec, fd, h]
theorem sd_cond {c : Operand} {x y : Code} {t : Bool} (h : evT (arr n σ) c = .bool t) : stepG P main (G (fd dk fn n ds σ (.code (.cond c x y) :: k)) cs) w = .go (G (fd dk fn n ds σ (.code (if t then x else y) :: k)) cs) w := by
  have h' : (fd dk fn n ds σ (.code (.cond c x y) :: k)).eval c = .bool t := by rw [eval_evT]; exact h
  simp only [fd] at h'
  simp [G, stepG, stepG.exec, fd, h']
theorem sd_region {id : Nat} {ops : Array Oper} : stepG P main (G (fd dk fn n ds σ (.code (.region id ops false) :: k)) cs) w = .go (G (fd dk fn n ds σ (.inRegion ops (List.range ops.size) :: k)) cs) w := by simp [G, stepG, stepG.exec, fd]
theorem sd_draw {id : Nat} {ops : Array Oper} : stepG P main (G (fd dk fn n ds σ (.code (.region id ops true) :: k)) cs) w = .go (G (fd dk fn n ds σ (.inRegion ops (Region.schedule (P.follows .mixedOrders) ops (w.tape w.drawn (.order fn id))) :: k)) cs) { w with drawn := w.drawn + 1 } := by
  simp [G, stepG, stepG.exec, fd, choose, Sem.run, Question.forced, Question.cut]
theorem sd_regionEnd {ops : Array Oper} : stepG P main (G (fd dk fn n ds σ (.inRegion ops [] :: k)) cs) w = .go (G (fd dk fn n ds σ k) cs) w := by simp [G, stepG, stepG.exec, fd]
theorem sd_oper {ops : Array Oper} {i : Nat} {rest : List Nat} {o : Oper} (ho : ops[i]? = some o) (hg : o.guard = none) :
    stepG P main (G (fd dk fn n ds σ (.inRegion ops (i :: rest) :: k)) cs) w = stepG.apply P true (fd dk fn n ds σ (.inRegion ops (i :: rest) :: k)) cs none (execOp (evT (arr n σ)) o) w := by
  have hw : Region.wanted o (yielded ops (arr n σ)) = true := by unfold Region.wanted; rw [hg]
  have he := eval_evT (fd dk fn n ds σ (.inRegion ops (i :: rest) :: k))
  simp only [fd] at he
  cases dk <;> simp [G, stepG, stepG.exec, stepG.oper, Frame.oper?, fd, ho, hw] at he ⊢ <;> rw [he]
theorem ad_value {ops : Array Oper} {i : Nat} {rest : List Nat} {s : Sem Next} {v : Value} {w1 : World} {m : Array Event} {o : Oper} (ho : ops[i]? = some o) (h : s.runT P w #[] = (.ok (.value v) w1, m)) :
    stepG.apply P true (fd dk fn n ds σ (.inRegion ops (i :: rest) :: k)) cs none s w = .go (G (fd dk fn n ds (put σ o.dst v) (.inRegion ops rest :: k)) cs) w1 (seen P fn m) := by
  rw [← finish_arr _ _ _ _ _ _ _ _ _ _ ho]
  unfold stepG.apply
  dsimp only
  rw [if_pos rfl, h]
  cases dk <;> simp [fd, G, GStep.after]
theorem ad_skip {ops : Array Oper} {i : Nat} {rest : List Nat} {s : Sem Next} {w1 : World} {m : Array Event} {o : Oper} (ho : ops[i]? = some o) (h : s.runT P w #[] = (.ok .skip w1, m)) :
    stepG.apply P true (fd dk fn n ds σ (.inRegion ops (i :: rest) :: k)) cs none s w = .go (G (fd dk fn n ds (put σ o.dst undef) (.inRegion ops rest :: k)) cs) w1 (seen P fn m) := by
  rw [← finish_arr _ _ _ _ _ _ _ _ _ _ ho]
  unfold stepG.apply
  dsimp only
  rw [if_pos rfl, h]
  cases dk <;> simp [fd, G, GStep.after]
theorem ad_enter {ops : Array Oper} {i : Nat} {rest : List Nat} {s : Sem Next} {f : FuncId} {args : Array Value} {w1 : World} {m : Array Event} (h : s.runT P w #[] = (.ok (.enter f args) w1, m)) :
    stepG.apply P true (fd dk fn n ds σ (.inRegion ops (i :: rest) :: k)) cs none s w = .go (G (Frame.enter P f args .normal) (fd dk fn n ds σ (.inRegion ops (i :: rest) :: k) :: cs)) w1 (seen P fn m) := by
  unfold stepG.apply
  dsimp only
  rw [if_pos rfl, h]
  cases dk <;> simp [fd, G, GStep.after]
end
section
variable [Payload] (P : Program) (main : Bool) (Wg k : Nat) (I : World → Prop) (Sh : Nat → Prop) (Stop : Stp)
def Wy (Ow : Nat → Prop) (g : Goroutine) (w : World) : Prop := ∃ o, Way P main Wg k none I Sh Stop o Ow g w
end
def RdE (Sh Ow : Nat → Prop) (e : Event) : Prop := ∃ a, e.loc = .cell a ∧ e.sync = false ∧ e.write = false ∧ (Sh a.block ∨ Ow a.block)
section
variable [Payload] {P : Program} {main : Bool} {Wg k : Nat} {I : World → Prop} {Sh : Nat → Prop} {Stop : Stp} {Ow : Nat → Prop} {g g' : Goroutine} {w : World}
theorem Wy.suf {w₁ : World} (h : Wy P main Wg k I Sh Stop Ow g w) (s : Suf Sh Ow I w w₁) : Wy P main Wg k I Sh Stop Ow g w₁ := let ⟨o, h⟩ := h; ⟨o, h.suf s⟩
theorem wy_ctl (hr : g.status = .running) (hs : ∀ w, stepG P main g w = .go g' w #[]) (h : Wy P main Wg k I Sh Stop Ow g' w) : Wy P main Wg k I Sh Stop Ow g w :=
  Way.of_step hr fun w₁ s => ⟨g', w₁, #[], Ow, hs w₁, Act1.still _ _ _ _ _ _ (by simp), h.suf s⟩
theorem wy_stop (h : ∀ w₁, Suf Sh Ow I w w₁ → Stop Ow g w₁) : Wy P main Wg k I Sh Stop Ow g w := Way.stop h
variable {dk : Bool} {fn : FuncId} {n : Nat} {ds : List Deferred} {σ : Nat → Value} {q : List Item} {cs : List Frame}
theorem wy_ret (h : Wy P main Wg k I Sh Stop Ow (G (fdR dk fn n ds σ (.code .ret :: q)) cs) w) : Wy P main Wg k I Sh Stop Ow (G (fd dk fn n ds σ (.code .ret :: q)) cs) w := wy_ctl rfl (fun _ => sd_ret) h
theorem wy_skip (h : Wy P main Wg k I Sh Stop Ow (G (fd dk fn n ds σ q) cs) w) : Wy P main Wg k I Sh Stop Ow (G (fd dk fn n ds σ (.code .skip :: q)) cs) w := wy_ctl rfl (fun _ => sd_skip) h
theorem wy_inBlock {id : Nat} (h : Wy P main Wg k I Sh Stop Ow (G (fd dk fn n ds σ q) cs) w) : Wy P main Wg k I Sh Stop Ow (G (fd dk fn n ds σ (.inBlock id :: q)) cs) w := wy_ctl rfl (fun _ => sd_inBlock) h
theorem wy_seq {x y : Code} (h : Wy P main Wg k I Sh Stop Ow (G (fd dk fn n ds σ (.code x :: .code y :: q)) cs) w) : Wy P main Wg k I Sh Stop Ow (G (fd dk fn n ds σ (.code (.seq x y) :: q)) cs) w := wy_ctl rfl (fun _ => sd_seq) h
theorem wy_block {x : Code} {id : Nat} (h : Wy P main Wg k I Sh Stop Ow (G (fd dk fn n ds σ (.code x :: .inBlock id :: q)) cs) w) : Wy P main Wg k I Sh Stop Ow (G (fd dk fn n ds σ (.code (.block id x) :: q)) cs) w := wy_ctl rfl (fun _ => sd_block) h
theorem wy_loop {x : Code} (h : Wy P main Wg k I Sh Stop Ow (G (fd dk fn n ds σ (.code x :: .inLoop x :: q)) cs) w) : Wy P main Wg k I Sh Stop Ow (G (fd dk fn n ds σ (.code (.loop x) :: q)) cs) w := wy_ctl rfl (fun _ => sd_loop) h
theorem wy_inLoop {x : Code} (h : Wy P main Wg k I Sh Stop Ow (G (fd dk fn n ds σ (.code x :: .inLoop x :: q)) cs) w) : Wy P main Wg k I Sh Stop Ow (G (fd dk fn n ds σ (.inLoop x :: q)) cs) w := wy_ctl rfl (fun _ => sd_inLoop) h
theorem wy_exit {id : Nat} {q' : List Item} (hx : exitTo id q = some q') (h : Wy P main Wg k I Sh Stop Ow (G (fd dk fn n ds σ q') cs) w) : Wy P main Wg k I Sh Stop Ow (G (fd dk fn n ds σ (.code (.exit id) :: q)) cs) w := wy_ctl rfl (fun _ => sd_exit hx) h
theorem wy_cond {x y : Code} {p : Operand} (t : Bool) (hp : evT (arr n σ) p = .bool t) (h : Wy P main Wg k I Sh Stop Ow (G (fd dk fn n ds σ (.code (if t then x else y) :: q)) cs) w) : Wy P main Wg k I Sh Stop Ow (G (fd dk fn n ds σ (.code (.cond p x y) :: q)) cs) w := wy_ctl rfl (fun _ => sd_cond hp) h
theorem wy_region {id : Nat} {ops : Array Oper} (l : List Nat) (hl : List.range ops.size = l) (h : Wy P main Wg k I Sh Stop Ow (G (fd dk fn n ds σ (.inRegion ops l :: q)) cs) w) : Wy P main Wg k I Sh Stop Ow (G (fd dk fn n ds σ (.code (.region id ops false) :: q)) cs) w := by subst hl; exact wy_ctl rfl (fun _ => sd_region) h
theorem wy_regionEnd {ops : Array Oper} (h : Wy P main Wg k I Sh Stop Ow (G (fd dk fn n ds σ q) cs) w) : Wy P main Wg k I Sh Stop Ow (G (fd dk fn n ds σ (.inRegion ops [] :: q)) cs) w := wy_ctl rfl (fun _ => sd_regionEnd) h
theorem wy_draw {id : Nat} {ops : Array Oper} (hI : ∀ w d, I w → I { w with drawn := d }) (h : ∀ t, Wy P main Wg k I Sh Stop Ow (G (fd dk fn n ds σ (.inRegion ops (Region.schedule (P.follows .mixedOrders) ops t) :: q)) cs) w) : Wy P main Wg k I Sh Stop Ow (G (fd dk fn n ds σ (.code (.region id ops true) :: q)) cs) w := by
  refine Way.of_step rfl fun w₁ s => ⟨_, _, _, Ow, sd_draw, ⟨rfl, rfl, rfl, Nat.le_refl _, fun _ _ _ _ => rfl, fun _ _ e => (nomatch e), fun _ h => .inl h, fun _ h => h, by simp⟩, ?_⟩
  exact (h _).suf ⟨⟨s.kept.tape, s.kept.size, s.kept.block⟩, hI _ _ s.inv⟩
theorem wy_val {ops : Array Oper} {i : Nat} {rest : List Nat} {o : Oper} (d : Option Tmp) (v : Value) (ho : ops[i]? = some o) (hd : o.dst = d) (hg : o.guard = none)
    (hx : ∀ w₁, Suf Sh Ow I w w₁ → ∃ m, (execOp (evT (arr n σ)) o).runT P w₁ #[] = (.ok (.value v) w₁, m) ∧ ∀ e ∈ m, RdE Sh Ow e)
    (h : Wy P main Wg k I Sh Stop Ow (G (fd dk fn n ds (put σ d v) (.inRegion ops rest :: q)) cs) w) : Wy P main Wg k I Sh Stop Ow (G (fd dk fn n ds σ (.inRegion ops (i :: rest) :: q)) cs) w := by
  subst hd
  refine Way.of_step rfl fun w₁ s => ?_
  obtain ⟨m, e1, e2⟩ := hx w₁ s
  refine ⟨_, w₁, seen P fn m, Ow, (sd_oper ho hg).trans (ad_value ho e1), ⟨rfl, rfl, rfl, Nat.le_refl _, fun _ _ _ _ => rfl, fun _ _ e => (nomatch e), fun _ h => .inl h, fun _ h => h, fun e he => ?_⟩, h.suf s⟩
  obtain ⟨a, h1, h2, h3, h4⟩ := e2 e (mem_seen he)
  exact .inl ⟨a, h1, h2, h4.elim (fun x => .inr ⟨x, h3⟩) .inl⟩
theorem wy_pure {ops : Array Oper} {i : Nat} {rest : List Nat} {o : Oper} (d : Option Tmp) (v : Value) (ho : ops[i]? = some o) (hd : o.dst = d) (hg : o.guard = none)
    (hx : ∀ w₁, (execOp (evT (arr n σ)) o).runT P w₁ #[] = (.ok (.value v) w₁, #[]))
    (h : Wy P main Wg k I Sh Stop Ow (G (fd dk fn n ds (put σ d v) (.inRegion ops rest :: q)) cs) w) : Wy P main Wg k I Sh Stop Ow (G (fd dk fn n ds σ (.inRegion ops (i :: rest) :: q)) cs) w :=
  wy_val d v ho hd hg (fun w₁ _ => ⟨#[], hx w₁, by simp⟩) h
theorem wy_new {ops : Array Oper} {i : Nat} {rest : List Nat} {o : Oper} (d : Option Tmp) (vf : Nat → Value) (obj : Obj) (ho : ops[i]? = some o) (hd : o.dst = d) (hg : o.guard = none)
    (hx : ∀ w₁, (execOp (evT (arr n σ)) o).runT P w₁ #[] = (.ok (.value (vf w₁.heap.size)) (w₁.alloc obj), #[]))
    (h : ∀ w₁, Suf Sh Ow I w w₁ → Wy P main Wg k I Sh Stop (fun b => Ow b ∨ b = w₁.heap.size) (G (fd dk fn n ds (put σ d (vf w₁.heap.size)) (.inRegion ops rest :: q)) cs) (w₁.alloc obj)) : Wy P main Wg k I Sh Stop Ow (G (fd dk fn n ds σ (.inRegion ops (i :: rest) :: q)) cs) w := by
  subst hd
  refine Way.of_step rfl fun w₁ s => ?_
  refine ⟨_, w₁.alloc obj, seen P fn #[], fun b => Ow b ∨ b = w₁.heap.size, (sd_oper ho hg).trans (ad_value ho (hx w₁)), ⟨rfl, rfl, rfl, by simp, fun b hb _ _ => ?_, fun _ _ e => (nomatch e), fun b hb => ?_, fun _ h => .inl h, fun e he => absurd (mem_seen he) (by simp)⟩, h w₁ s⟩
  · show (w₁.heap.push obj)[b]? = _
    rw [Array.getElem?_push, if_neg (by omega)]
  · rcases hb with hb | rfl
    · exact .inl hb
    · exact .inr ⟨Nat.le_refl _, by simp⟩
theorem wy_set {ops : Array Oper} {i : Nat} {rest : List Nat} {o : Oper} (d : Option Tmp) (x : Nat) (f : World → World) (ho : ops[i]? = some o) (hd : o.dst = d) (hg : o.guard = none) (hx0 : Ow x)
    (hx : ∀ w₁, Suf Sh Ow I w w₁ → ∃ m, (execOp (evT (arr n σ)) o).runT P w₁ #[] = (.ok .skip (f w₁), m) ∧ (∀ e ∈ m, ∃ a, e.loc = .cell a ∧ e.sync = false ∧ a.block = x) ∧ (f w₁).tape = w₁.tape ∧ (f w₁).os = w₁.os ∧ (f w₁).output = w₁.output ∧ (f w₁).heap.size = w₁.heap.size ∧ ∀ b, b ≠ x → (f w₁).heap[b]? = w₁.heap[b]?)
    (h : ∀ w₁, Suf Sh Ow I w w₁ → Wy P main Wg k I Sh Stop Ow (G (fd dk fn n ds (put σ d undef) (.inRegion ops rest :: q)) cs) (f w₁)) : Wy P main Wg k I Sh Stop Ow (G (fd dk fn n ds σ (.inRegion ops (i :: rest) :: q)) cs) w := by
  subst hd
  refine Way.of_step rfl fun w₁ s => ?_
  obtain ⟨m, e1, e2, e3, e4, e5, e6, e7⟩ := hx w₁ s
  refine ⟨_, f w₁, seen P fn m, Ow, (sd_oper ho hg).trans (ad_skip ho e1), ⟨e3, e4, e5, Nat.le_of_eq e6.symm, fun b _ hb _ => e7 b fun q => hb (q ▸ hx0), fun _ _ e => (nomatch e), fun _ h => .inl h, fun _ h => h, fun e he => ?_⟩, h w₁ s⟩
  obtain ⟨a, h1, h2, h3⟩ := e2 e (mem_seen he)
  exact .inl ⟨a, h1, h2, .inl (h3 ▸ hx0)⟩
theorem wy_call {ops : Array Oper} {i : Nat} {rest : List Nat} {o : Oper} (f : FuncId) (args : Array Value) (ho : ops[i]? = some o) (hg : o.guard = none)
    (hx : ∀ w₁, (execOp (evT (arr n σ)) o).runT P w₁ #[] = (.ok (.enter f args) w₁, #[]))
    (h : Wy P main Wg k I Sh Stop Ow (G (Frame.enter P f args .normal) (fd dk fn n ds σ (.inRegion ops (i :: rest) :: q) :: cs)) w) : Wy P main Wg k I Sh Stop Ow (G (fd dk fn n ds σ (.inRegion ops (i :: rest) :: q)) cs) w := by
  refine Way.of_step rfl fun w₁ s => ?_
  refine ⟨_, w₁, seen P fn #[], Ow, (sd_oper ho hg).trans (ad_enter (hx w₁)), Act1.still _ _ _ _ _ _ (fun e he => absurd (mem_seen he) (by simp)), h.suf s⟩
theorem wy_back {fn' : FuncId} {ts : Array Value} {td : List Item} {ops : Array Oper} {i : Nat} {rest : List Nat} {o : Oper} {f : Func} (d : Option Tmp) (v : Value) (ho : ops[i]? = some o) (hd : o.dst = d) (hf : P.funcs[fn']? = some f) (hr : ∀ (w : World) es, (results f ts).runT P w es = (.ok v w, es))
    (h : Wy P main Wg k I Sh Stop Ow (G (fd dk fn n ds (put σ d v) (.inRegion ops rest :: q)) cs) w) : Wy P main Wg k I Sh Stop Ow (G (frm fn' ts td .returning) (fd dk fn n ds σ (.inRegion ops (i :: rest) :: q) :: cs)) w := by
  subst hd
  refine Way.of_step rfl fun w₁ s => ?_
  refine ⟨_, w₁, seen P fn' #[], Ow, (st_return hf (fun es => hr w₁ es)).trans (by rw [finish_arr _ _ _ _ _ _ _ _ _ _ ho]), Act1.still _ _ _ _ _ _ (fun e he => absurd (mem_seen he) (by simp)), h.suf s⟩
end
end Go.Proofs.YtckoipoejaafhaaDoor.Cc
