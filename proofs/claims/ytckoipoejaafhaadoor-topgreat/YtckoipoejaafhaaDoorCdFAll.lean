/-
  Texts that stood one behind the other, as one.
-/
import Derived.Test.YtckoipoejaafhaaDoorCdYAll
namespace Go.Proofs.YtckoipoejaafhaaDoor.Cc
open Go Go.Conc
structure NoEarly (P : Program) (G : Nat) : Prop where
  fol : P.follows .staticDataAhead = true
  no : ∀ g, G ≤ g → P.stepOf g = none
section
variable {P : Program} {main : Bool} {fn : FuncId} {ts : Array Value} {k : List Item} {cs : List Frame} {w : World}
theorem ap_haltG {G : Nat} (hE : NoEarly P G) {ops : Array Oper} {i : Nat} {rest : List Nat} {s : Sem Next} {e : Halt} {w1 : World} {m : Array Event} (h : s.runT P w #[] = (.halt e w1, m)) (hp : endG G e) :
    ∃ es w2, (∃ o, stepG.apply P true (frm fn ts (.inRegion ops (i :: rest) :: k) .run) cs none s w = .ended o w2 es) ∨ (∃ v, stepG.apply P true (frm fn ts (.inRegion ops (i :: rest) :: k) .run) cs none s w = .go (Go.Conc.G ((frm fn ts (.inRegion ops (i :: rest) :: k) .run).raise [{ v, recovered := false }]) cs) w2 es) := by
  rcases hp with hp | ⟨g, rfl, hg⟩
  · exact ap_halt h hp
  · refine ⟨seen P fn #[], w1, .inl ⟨.unsupported (.initOrder g) ((frm fn ts (.inRegion ops (i :: rest) :: k) .run).pos P), ?_⟩⟩
    unfold stepG.apply
    dsimp only
    rw [if_pos rfl, h]
    dsimp only
    unfold early
    simp only [hE.fol, hE.no g hg, Bool.not_true, Bool.false_eq_true, if_false]
    simp [GStep.after, frm]
theorem st_return2 {f : Func} {c : Frame} {v : Value} {w1 : World} {m : Array Event} (hf : P.funcs[fn]? = some f) (hr : (results f ts).runT P w #[] = (.ok v w1, m)) {td : List Item} :
    stepG P main (Go.Conc.G (frm fn ts td .returning) (c :: cs)) w = .go (Go.Conc.G (c.finish v) cs) w1 (seen P fn m) := by
  simp only [stepG, frm, Go.Conc.G]
  unfold unwind
  dsimp only
  rw [hf]
  dsimp only
  rw [hr]
  simp [doReturn, GStep.after]
theorem st_returnNo {f : Func} {c : Frame} {h : Halt} {w1 : World} {m : Array Event} (hf : P.funcs[fn]? = some f) (hr : (results f ts).runT P w #[] = (.halt h w1, m)) {td : List Item} :
    ∃ o es, stepG P main (Go.Conc.G (frm fn ts td .returning) (c :: cs)) w = .ended o w1 es := by
  simp only [stepG, frm, Go.Conc.G]
  unfold unwind
  dsimp only
  rw [hf]
  dsimp only
  rw [hr]
  cases h with
  | stuck s => exact ⟨.stuck s _, seen P fn m, by simp [GStep.after]; rfl⟩
  | _ => exact ⟨.stuck "return: the result variables cannot be read" _, seen P fn m, by simp [GStep.after]; rfl⟩
end
theorem ex_move {ρ : Operand → Value} {o : Oper} {x : Operand} (h : o.op = .move x ∨ o.op = .assign x) (P : Program) (w : World) : (execOp ρ o).runT P w #[] = (.ok (.value (ρ x)) w, #[]) := by
  obtain ⟨dst, op, type, pos, after, guard⟩ := o
  rcases h with h | h <;> simp only at h <;> subst h <;> rfl
theorem opD_key {fs : Fs} {fn : FuncId} {ts : Array Value} {o : Oper} {d : Nat} (hD : opD fs fn o = true) (hd : o.dst = some d) (hh : fs.has fn d = true) (hfv : ∀ t, fs.has fn t = true → FV fs (ts.getD t undef)) : ∃ x, (o.op = .move x ∨ o.op = .assign x) ∧ FV fs (evT ts x) := by
  unfold opD at hD
  rw [hd] at hD
  simp only [hh, Bool.not_true, Bool.false_or] at hD
  split at hD
  · rename_i g he
    exact ⟨_, .inl he, .inr ⟨g, rfl, hD⟩⟩
  · rename_i g he
    exact ⟨_, .inr he, .inr ⟨g, rfl, hD⟩⟩
  · rename_i t he
    exact ⟨_, .inl he, hfv t hD⟩
  · rename_i t he
    exact ⟨_, .inr he, hfv t hD⟩
  · cases hD
structure SK (P : Program) (fs : Fs) (fr : Frame) (stk : List Frame) : Prop where
  top : FrK P fs fr
  mode : fr.mode = .run ∨ fr.mode = .returning
  below : ∀ f ∈ stk, Wt P fs f
def OutK (whole : Bool) (fr : Frame) (stk : List Frame) : Prop := stk = [] ∧ (fr.mode = .returning ∨ (whole = false ∧ fr.todo = []))
def kk (K : List Item) : List Frame → List Item
  | [] => K
  | _ :: _ => []
theorem topK_frm (K : List Item) (fn : FuncId) (ts : Array Value) (td : List Item) (md : FrameMode) (stk : List Frame) : topK K (frm fn ts td md) stk = frm fn ts (td ++ kk K stk) md := by
  cases stk with
  | nil => rfl
  | cons a l => simp [topK, kk]
section
variable (P : Program) (fs : Fs) (Su : Nat → Prop) (G : Nat) (whole : Bool) (KP : List Item) (fr : Frame) (stk : List Frame) (pw w : World)
def Takes (k : Nat) : Prop := ∃ fr1 stk1 pw1 w1 n, (∀ τ c bs, Agr k w τ c → ∃ es, stepG P true (rl KP bs fr stk) (tp pw τ c) = .go (rl KP bs fr1 stk1) (tp pw1 τ (c + k)) es) ∧ (∀ K base, (whole = true → K = []) → stepG P true (rl K base fr stk) w = .go (rl K base fr1 stk1) w1 n) ∧
  SK P fs fr1 stk1 ∧ PW Su pw1 w1 ∧ Gl G pw1 ∧ w1.tape = w.tape ∧ w1.drawn = w.drawn + k ∧ w.heap.size ≤ w1.heap.size ∧ ∀ e ∈ n, EvB Su w1.heap.size e
def Fails (k : Nat) : Prop := ∀ τ c bs, Agr k w τ c → ∃ es w2, (∃ o, stepG P true (rl KP bs fr stk) (tp pw τ c) = .ended o w2 es) ∨ ∃ v, stepG P true (rl KP bs fr stk) (tp pw τ c) = .go (Go.Conc.G ((topK KP fr stk).raise [{ v, recovered := false }]) (extK KP stk ++ bs)) w2 es
end
theorem step_both {P : Program} {fs : Fs} {Su : Nat → Prop} {G : Nat} {whole : Bool} {KP : List Item} {fr : Frame} {stk : List Frame} {pw w : World} (hF : FnsAll P fs) (hE : NoEarly P G) (h : SK P fs fr stk) (hp : PW Su pw w) (hg : Gl G pw) (hno : ¬ OutK whole fr stk) (hKP : ∀ id, exitTo id KP = none) (hw : whole = true → KP = []) :
    ∃ k, Takes P fs Su G whole KP fr stk pw w k ∨ Fails P KP fr stk pw w k := by
  obtain ⟨hfr, hm, hstk⟩ := h
  have hform := hfr.form
  have hok := hfr.ok
  have hfn := hfr.fn
  have hfv := hfr.fv
  generalize hf1 : fr.fn = fn at *
  generalize fr.tmps = ts at *
  generalize hf2 : fr.todo = td at *
  generalize hmd : fr.mode = md at *
  subst hform
  clear hf1 hf2 hmd hfr
  have rlf : ∀ K base td md, rl K base (frm fn ts td md) stk = Go.Conc.G (frm fn ts (td ++ kk K stk) md) (extK K stk ++ base) := fun K base td md => by
    unfold rl
    rw [topK_frm]
  have mk : ∀ td md, td.all (itemK P fs fn) = true → (md = .run ∨ md = .returning) → SK P fs (frm fn ts td md) stk := fun td md h1 h2 => ⟨⟨hfn, h1, rfl, hfv⟩, h2, hstk⟩
  have e0 : ∀ e ∈ (#[] : Array Event), EvB Su w.heap.size e := by simp
  rcases hm with rfl | rfl
  · -- it runs
    have hX : ∀ K, (whole = true → K = []) → td = [] → kk K stk = [] := fun K hK e => by
      cases stk with
      | cons a l => rfl
      | nil =>
        cases whole with
        | true => exact hK rfl
        | false => exact absurd ⟨rfl, .inr ⟨rfl, e⟩⟩ hno
    have ctl : ∀ (td1 : List Item) (md1 : FrameMode), td1.all (itemK P fs fn) = true → (md1 = .run ∨ md1 = .returning) →
        (∀ X cs W, (td = [] → X = []) → stepG P true (Go.Conc.G (frm fn ts (td ++ X) .run) cs) W = .go (Go.Conc.G (frm fn ts (td1 ++ X) md1) cs) W #[]) →
        ∃ k, Takes P fs Su G whole KP (frm fn ts td .run) stk pw w k ∨ Fails P KP (frm fn ts td .run) stk pw w k := fun td1 md1 h1 h2 h3 => by
      refine ⟨0, .inl ⟨frm fn ts td1 md1, stk, pw, w, #[], fun τ c bs _ => ⟨#[], ?_⟩, fun K base hK => ?_, mk _ _ h1 h2, hp, hg, rfl, rfl, Nat.le_refl _, e0⟩⟩
      · rw [rlf, rlf]
        exact h3 _ _ _ (hX KP hw)
      · rw [rlf, rlf]
        exact h3 _ _ _ (hX K hK)
    have fails : (∀ cs W, ∃ o es, stepG P true (Go.Conc.G (frm fn ts (td ++ kk KP stk) .run) cs) W = .ended o W es) → ∃ k, Takes P fs Su G whole KP (frm fn ts td .run) stk pw w k ∨ Fails P KP (frm fn ts td .run) stk pw w k := fun h => by
      refine ⟨0, .inr fun τ c bs _ => ?_⟩
      obtain ⟨o, es, e⟩ := h (extK KP stk ++ bs) (tp pw τ c)
      exact ⟨es, _, .inl ⟨o, by rw [rlf]; exact e⟩⟩
    cases td with
    | nil => exact ctl [] .returning rfl (.inr rfl) fun X cs W hX => by rw [hX rfl]; exact st_nil
    | cons it k =>
      rw [List.all_cons, Bool.and_eq_true] at hok
      obtain ⟨hit, hk⟩ := hok
      have ok2 : ∀ (c : Item), itemK P fs fn c = true → (c :: k).all (itemK P fs fn) = true := fun c hc => by rw [List.all_cons, hc, hk]; rfl
      have oper : ∀ ops i rest, it = .inRegion ops (i :: rest) → ∃ k', Takes P fs Su G whole KP (frm fn ts (it :: k) .run) stk pw w k' ∨ Fails P KP (frm fn ts (it :: k) .run) stk pw w k' := by
        rintro ops i rest rfl
        by_cases hwt : ((ops[i]?).map (Region.wanted · (yielded ops ts))).getD false = true
        · cases ho : ops[i]? with
          | none => rw [ho] at hwt; cases hwt
          | some o =>
            rw [ho] at hwt
            have hwt' : Region.wanted o (yielded ops ts) = true := hwt
            have hopk : opK P fs fn o = true := by
              have := hit
              simp only [itemK] at this
              rw [Array.all_eq_true'] at this
              exact this o (Array.mem_of_getElem? ho)
            have hDK : opD fs fn o = true := by
              unfold opK at hopk
              rw [Bool.and_eq_true] at hopk
              exact hopk.1
            have hs : ∀ X cs W, stepG P true (Go.Conc.G (frm fn ts ((.inRegion ops (i :: rest) :: k) ++ X) .run) cs) W = stepG.apply P true (frm fn ts (.inRegion ops (i :: rest) :: (k ++ X)) .run) cs none (execOp (evT ts) o) W := fun X cs W => st_oper ho hwt'
            by_cases hpn : isPanic o = true
            · refine ⟨0, .inr fun τ c bs hA => ?_⟩
              obtain ⟨x, w2, m, q1, q2⟩ := isPanic_ends (P := P) hpn (evT ts) (tp pw τ c)
              obtain ⟨es, w3, q⟩ := ap_haltG (fn := fn) (ts := ts) (k := k ++ kk KP stk) (cs := extK KP stk ++ bs) (ops := ops) (i := i) (rest := rest) hE q1 (.inl q2)
              refine ⟨es, w3, ?_⟩
              rw [rlf, hs, topK_frm]
              exact q
            have hoL : opL P fs fn o = true := by
              unfold opK at hopk
              rw [Bool.and_eq_true] at hopk
              have := hopk.2
              rw [Bool.or_eq_true] at this
              exact this.resolve_right hpn
            have hcl : Cl P Su (NxK fs) (execOp (evT ts) o) := cl_op hF.ok (evT ts) (fun _ => rfl) hfv o hoL
            obtain ⟨n, hn⟩ := Cl.run (G := G) _ hcl hp hg
            have hwt0 : Wa P fs (frm fn ts (.inRegion ops (i :: rest) :: k) .run) := ⟨⟨hfn, ok2 _ hit, rfl, hfv⟩, rfl, ops, i, rest, k, rfl⟩
            have fin : ∀ K base v, Go.Conc.G ((frm fn ts (.inRegion ops (i :: rest) :: (k ++ kk K stk)) .run).finish v) (extK K stk ++ base) = rl K base ((frm fn ts (.inRegion ops (i :: rest) :: k) .run).finish v) stk := fun K base v => by
              unfold rl
              rw [← topK_finish hwt0, topK_frm]
              rfl
            refine ⟨n, ?_⟩
            rcases hn with ⟨a, pw1, w1, m, r1, r2, r3, r4, r5, r6, r7, r8, r9⟩ | hn
            · have hsn : ∀ e ∈ seen P fn m, EvB Su w1.heap.size e := fun e he => r9 e (mem_seen he)
              have r1' : ∀ τ c, Agr n w τ c → (execOp (evT ts) o).runT P (tp pw τ c) #[] = (.ok a (tp pw1 τ (c + n)), m) := fun τ c hA => by rw [r1 τ c #[] hA, Array.empty_append]
              have r2' : (execOp (evT ts) o).runT P w #[] = (.ok a w1, m) := by rw [r2 #[], Array.empty_append]
              cases a with
              | value v =>
                obtain ⟨q1, q2⟩ := FrK.finishV hwt0 v fun ops' i' rest' k' e o' d ho' hd hh => by
                  simp only [frm, List.cons.injEq, Item.inRegion.injEq] at e
                  obtain ⟨⟨rfl, rfl, -⟩, -⟩ := e
                  rw [ho] at ho'
                  cases ho'
                  obtain ⟨x, k1, k2⟩ := opD_key (ts := ts) hDK hd hh hfv
                  rw [ex_move k1] at r2'
                  simp only [Prod.mk.injEq, Result.ok.injEq, Next.value.injEq] at r2'
                  rw [← r2'.1.1]
                  exact k2
                refine .inl ⟨_, stk, pw1, w1, seen P fn m, fun τ c bs hA => ⟨seen P fn m, ?_⟩, fun K base hK => ?_, ⟨q1, .inl q2, hstk⟩, r4, r5, r6, r7, r8, hsn⟩
                · rw [rlf, hs, ap_value (r1' τ c hA), fin]
                · rw [rlf, hs, ap_value r2', fin]
              | skip =>
                obtain ⟨q1, q2⟩ := FrK.finishV hwt0 undef fun _ _ _ _ _ _ _ _ _ _ => .inl rfl
                refine .inl ⟨_, stk, pw1, w1, seen P fn m, fun τ c bs hA => ⟨seen P fn m, ?_⟩, fun K base hK => ?_, ⟨q1, .inl q2, hstk⟩, r4, r5, r6, r7, r8, hsn⟩
                · rw [rlf, hs, ap_skip (r1' τ c hA), fin]
                · rw [rlf, hs, ap_skip r2', fin]
              | enter f args =>
                obtain ⟨q1, q2⟩ := frk_enter hF (f := f) r3.1 args r3.2
                have ent : ∀ K base, Go.Conc.G (Frame.enter P f args .normal) (frm fn ts (.inRegion ops (i :: rest) :: (k ++ kk K stk)) .run :: (extK K stk ++ base)) = rl K base (Frame.enter P f args .normal) (frm fn ts (.inRegion ops (i :: rest) :: k) .run :: stk) := fun K base => by
                  unfold rl
                  rw [extK_cons, topK_frm]
                  rfl
                refine .inl ⟨_, frm fn ts (.inRegion ops (i :: rest) :: k) .run :: stk, pw1, w1, seen P fn m, fun τ c bs hA => ⟨seen P fn m, ?_⟩, fun K base hK => ?_, ⟨q1, .inl q2, fun f hf => ?_⟩, r4, r5, r6, r7, r8, hsn⟩
                · rw [rlf, hs, ap_enter (r1' τ c hA), ent]
                · rw [rlf, hs, ap_enter r2', ent]
                · rcases List.mem_cons.1 hf with rfl | hf
                  · refine ⟨hwt0, fun ops' i' rest' k' e o' d ho' hd => ?_⟩
                    simp only [frm, List.cons.injEq, Item.inRegion.injEq] at e
                    obtain ⟨⟨rfl, rfl, -⟩, -⟩ := e
                    rw [ho] at ho'
                    cases ho'
                    show fs.has fn d = false
                    cases hh : fs.has fn d with
                    | false => rfl
                    | true =>
                      obtain ⟨x, k1, k2⟩ := opD_key (ts := ts) hDK hd hh hfv
                      rw [ex_move k1] at r2'
                      simp at r2'
                  · exact hstk f hf
              | _ => exact r3.elim
            · refine .inr fun τ c bs hA => ?_
              obtain ⟨x, w2, m, q1, q2⟩ := hn τ c #[] hA
              obtain ⟨es, w3, q⟩ := ap_haltG (fn := fn) (ts := ts) (k := k ++ kk KP stk) (cs := extK KP stk ++ bs) (ops := ops) (i := i) (rest := rest) hE q1 q2
              refine ⟨es, w3, ?_⟩
              rw [rlf, hs, topK_frm]
              exact q
        · have hwt2 : ((ops[i]?).map (Region.wanted · (yielded ops ts))).getD false = false := by simpa using hwt
          have hwt0 : Wa P fs (frm fn ts (.inRegion ops (i :: rest) :: k) .run) := ⟨⟨hfn, ok2 _ hit, rfl, hfv⟩, rfl, ops, i, rest, k, rfl⟩
          obtain ⟨q1, q2⟩ := FrK.finishV hwt0 undef fun _ _ _ _ _ _ _ _ _ _ => .inl rfl
          have fin : ∀ K base v, Go.Conc.G ((frm fn ts (.inRegion ops (i :: rest) :: (k ++ kk K stk)) .run).finish v) (extK K stk ++ base) = rl K base ((frm fn ts (.inRegion ops (i :: rest) :: k) .run).finish v) stk := fun K base v => by
            unfold rl
            rw [← topK_finish hwt0, topK_frm]
            rfl
          refine ⟨0, .inl ⟨_, stk, pw, w, #[], fun τ c bs _ => ⟨#[], ?_⟩, fun K base hK => ?_, ⟨q1, .inl q2, hstk⟩, hp, hg, rfl, rfl, Nat.le_refl _, e0⟩⟩
          · rw [rlf, ← fin]
            exact st_unwanted hwt2
          · rw [rlf, ← fin]
            exact st_unwanted hwt2
      cases it with
      | code c =>
        cases c with
        | skip => exact ctl k .run hk (.inl rfl) fun X cs W _ => st_skip
        | ret => exact ctl _ .returning (ok2 _ rfl) (.inr rfl) fun X cs W _ => st_ret
        | seq x y =>
          simp only [itemK, codeK, Bool.and_eq_true] at hit
          refine ctl (.code x :: .code y :: k) .run ?_ (.inl rfl) fun X cs W _ => st_seq
          rw [List.all_cons, List.all_cons, hk]
          simp [itemK, hit.1, hit.2]
        | cond c x y =>
          simp only [itemK, codeK, Bool.and_eq_true] at hit
          by_cases hb : ∃ b, evT ts c = .bool b
          · obtain ⟨b, hb⟩ := hb
            refine ctl (.code (if b then x else y) :: k) .run (ok2 _ ?_) (.inl rfl) fun X cs W _ => st_cond hb
            cases b
            · exact hit.2
            · exact hit.1
          · refine fails fun cs W => ?_
            obtain ⟨o, e⟩ := st_condNo (P := P) (main := true) (fn := fn) (k := k ++ kk KP stk) (cs := cs) (w := W) (x := x) (y := y) fun t q => hb ⟨t, q⟩
            exact ⟨o, _, e⟩
        | block id b => exact ctl (.code b :: .inBlock id :: k) .run (by simp only [itemK, codeK] at hit; rw [List.all_cons, List.all_cons, hk]; simp [itemK, hit]) (.inl rfl) fun X cs W _ => st_block
        | loop b => exact ctl (.code b :: .inLoop b :: k) .run (by simp only [itemK, codeK] at hit; rw [List.all_cons, List.all_cons, hk]; simp [itemK, hit]) (.inl rfl) fun X cs W _ => st_loop
        | exit id =>
          cases hx : exitTo id k with
          | some k' => exact ctl k' .run (exitTo_K hk hx) (.inl rfl) fun X cs W _ => st_exit (exitTo_app X hx)
          | none =>
            refine fails fun cs W => ?_
            have hx' : exitTo id (k ++ kk KP stk) = none := by
              refine exitTo_none ?_ hx
              cases stk with
              | nil => exact hKP id
              | cons a l => rfl
            obtain ⟨o, e⟩ := st_exitNo (P := P) (main := true) (fn := fn) (ts := ts) (cs := cs) (w := W) hx'
            exact ⟨o, _, e⟩
        | region id ops draw =>
          cases draw with
          | false => exact ctl (.inRegion ops (List.range ops.size) :: k) .run (ok2 _ hit) (.inl rfl) fun X cs W _ => st_region
          | true =>
            refine ⟨1, .inl ⟨frm fn ts (.inRegion ops (Region.schedule (P.follows .mixedOrders) ops (w.tape w.drawn (.order fn id))) :: k) .run, stk, pw, { w with drawn := w.drawn + 1 }, #[], fun τ c bs hA => ⟨#[], ?_⟩, fun K base hK => ?_, mk _ _ (ok2 _ hit) (.inl rfl), ⟨hp.os, hp.output, hp.size, hp.out, hp.in_⟩, hg, rfl, rfl, Nat.le_refl _, e0⟩⟩
            · have e1 : τ c (.order fn id) = w.tape w.drawn (.order fn id) := hA 0 (by omega) _
              rw [rlf, rlf, ← e1]
              exact st_draw
            · rw [rlf, rlf]
              exact st_draw
        | _ => simp [itemK, codeK] at hit
      | inBlock id => exact ctl k .run hk (.inl rfl) fun X cs W _ => st_inBlock
      | inLoop b => exact ctl (.code b :: .inLoop b :: k) .run (by rw [List.all_cons, ok2 _ hit]; simpa [itemK] using hit) (.inl rfl) fun X cs W _ => st_inLoop
      | inRegion ops l =>
        cases l with
        | nil => exact ctl k .run hk (.inl rfl) fun X cs W _ => st_regionEnd
        | cons i rest => exact oper ops i rest rfl
      | _ => simp [itemK] at hit
  · -- it returns
    cases stk with
    | nil => exact absurd ⟨rfl, .inl rfl⟩ hno
    | cons c s =>
      obtain ⟨f, hf⟩ := hfn
      obtain ⟨n, hn⟩ := Cl.run (G := G) _ (ct_results (P := P) (Su := Su) f ts) hp hg
      have hc := hstk c (by simp)
      have shape : ∀ K base, rl K base (frm fn ts td .returning) (c :: s) = Go.Conc.G (frm fn ts td .returning) (topK K c s :: (extK K s ++ base)) := fun K base => by
        unfold rl
        rw [extK_cons]
        rfl
      refine ⟨n, ?_⟩
      rcases hn with ⟨v, pw1, w1, m, r1, r2, r3, r4, r5, r6, r7, r8, r9⟩ | hn
      · obtain ⟨q1, q2⟩ := FrK.finish hc v
        refine .inl ⟨c.finish v, s, pw1, w1, seen P fn m, fun τ d bs hA => ⟨seen P fn m, ?_⟩, fun K base hK => ?_, ⟨q1, .inl q2, fun f hf => hstk f (by simp [hf])⟩, r4, r5, r6, r7, r8, fun e he => r9 e (mem_seen he)⟩
        · rw [shape, st_return2 hf (by rw [r1 τ d #[] hA, Array.empty_append]), topK_finish hc.toWa]
          rfl
        · rw [shape, st_return2 hf (by rw [r2 #[], Array.empty_append]), topK_finish hc.toWa]
          rfl
      · refine .inr fun τ d bs hA => ?_
        obtain ⟨x, w2, m, q1, q2⟩ := hn τ d #[] hA
        obtain ⟨o, es, e⟩ := st_returnNo (P := P) (main := true) (fn := fn) (ts := ts) (td := td) (c := topK KP c s) (cs := extK KP s ++ bs) hf q1
        exact ⟨es, w2, .inl ⟨o, by rw [shape]; exact e⟩⟩
end Go.Proofs.YtckoipoejaafhaaDoor.Cc

namespace Go.Proofs.YtckoipoejaafhaaDoor.Cc
open Go Go.Conc
open Go.ConcN (CT Apart upd upd_same upd_ne sumTo sumTo_upd get_map_set get_map_set_same)
def nob : Nat → Prop := fun _ => False
section
variable {P : Program} {q : Nat} {Su Sh Ow : Nat → Prop} {f : Nat → Nat} {gs : Array Goroutine} {a : Goroutine} {w w' : World} {t : Trace} {sl : Option (Nat × Nat)} {es : Array Event}
theorem obj_touch {e : Event} {r : Nat} (h : e.loc = .obj r) {x : Touch} (hx : (MemAct.ofEvent e).touch? = some x) : x.loc = .obj r := by
  obtain ⟨loc, wr, sy⟩ := e
  simp only at h
  subst h
  cases wr <;> cases sy <;> simp [MemAct.ofEvent, MemAct.touch?] at hx <;> rw [← hx]
theorem Anc.ownB {B B' : Nat} (h : Anc q Su B t) (hB : B ≤ B') (fn : FuncId) (pos : String) (hev : ∀ e ∈ es, EvB Su B' e) : Anc q Su B' (t ++ MemOp.ofEvents 0 fn pos es) := by
  have hops : ∀ op ∈ MemOp.ofEvents 0 fn pos es, op.g = 0 := fun op hop => by obtain ⟨e, _, rfl⟩ := Go.Conc.mem_ofEvents hop; rfl
  refine ⟨CT.app0 (apart_no Su) h.ct fun op hop => ?_, (h.low.mono hB).app fun op hop x hx => ?_, handedOver_app h.over fun op hop => .inl (hops op hop), ?_, fun i hi => ?_⟩
  · obtain ⟨e, he, rfl⟩ := Go.Conc.mem_ofEvents hop
    refine ⟨rfl, fun x hx => ?_⟩
    rcases hev e he with ⟨ad, e1, e2, _, e4⟩ | ⟨r, e1, _, e4⟩ | rfl
    · obtain rfl := cell_touch e1 e2 hx
      refine .inr ⟨fun ⟨b, q1, q2⟩ => ?_, fun _ _ _ => ownT_no, fun _ _ _ _ => rdT_no⟩
      cases q1
      exact e4 q2
    · refine .inr ⟨fun ⟨b, q1, q2⟩ => ?_, fun _ _ _ => ownT_no, fun _ _ _ _ => rdT_no⟩
      rw [obj_touch e1 hx] at q1
      cases q1
    · simp [MemAct.ofEvent, MemAct.touch?] at hx
  · obtain ⟨e, he, rfl⟩ := Go.Conc.mem_ofEvents hop
    rcases hev e he with ⟨ad, e1, e2, e3, _⟩ | ⟨r, e1, e3, _⟩ | rfl
    · obtain rfl := cell_touch e1 e2 hx
      exact e3
    · rw [obj_touch e1 hx]
      exact e3
    · simp [MemAct.ofEvent, MemAct.touch?] at hx
  · rw [Deaf_own, deafBehind_still fun e he => ?_]
    · exact h.hears
    · rcases hev e he with ⟨ad, e1, _⟩ | ⟨r, e1, _⟩ | rfl
      · rw [e1]; exact ⟨by simp, by simp⟩
      · rw [e1]; exact ⟨by simp, by simp⟩
      · simp
  · rw [Deaf_other t (g' := 0) (by omega) _ hops]
    exact h.above i hi
theorem Bes.stepB (h : Bes P q Su Sh Ow f gs a w t) {a' : Goroutine} (hgo : stepG P true a w = .go a' w' es) (hs : w.heap.size ≤ w'.heap.size) (hev : ∀ e ∈ es, EvB Su w'.heap.size e) :
    runT P (crowd gs w sl) 0 = (.next (crowd ((gs.map (woken P a a' w')).setIfInBounds 0 a') w' sl), MemOp.ofEvents 0 a.frame.fn a.frame.place es) ∧ Bes P q Su Sh Ow f ((gs.map (woken P a a' w')).setIfInBounds 0 a') a' w' (t ++ MemOp.ofEvents 0 a.frame.fn a.frame.place es) := by
  have hops : ∀ op ∈ MemOp.ofEvents 0 a.frame.fn a.frame.place es, op.g = 0 := fun op hop => by obtain ⟨e, _, rfl⟩ := Go.Conc.mem_ofEvents hop; rfl
  refine ⟨runT_crowd_go (P := P) (sl := sl) (i := 0) h.a0 (show stepG P (0 == 0) a w = _ from hgo), by simp [h.size], get_map_set_same _ _ _ (Array.getElem?_eq_some_iff.1 h.a0).1, fun i h1 h2 => ?_, h.anc.ownB hs _ _ hev, fun b hb => ⟨Nat.lt_of_lt_of_le (h.sh b hb).1 hs, (h.sh b hb).2⟩, fun b hb => ⟨Nat.lt_of_lt_of_le (h.ow b hb).1 hs, (h.ow b hb).2⟩, fun b hb => Nat.lt_of_lt_of_le (h.su b hb) hs⟩
  obtain ⟨x, e1, e2⟩ := h.old i h1 h2
  refine ⟨x, ?_, by rw [Deaf_other t (g' := 0) (by omega) _ hops]; exact e2⟩
  rw [get_map_set _ _ _ _ (by omega), e1]
  simp [woken_quitsD e2]
theorem Bes.turn : ∀ (M : Nat) (f : Nat → Nat) (gs : Array Goroutine) (w : World) (sl : Option (Nat × Nat)) (t : Trace), sumTo (q + 1) f ≤ M → a.status = .running → Bes P q Su Sh Ow f gs a w t →
    ∃ N f' gs' d d' sl' sl2 t', runNT P N (crowd gs w sl) t = (.next (crowd gs' (w.at d) sl'), t') ∧ Bes P q Su Sh Ow f' gs' a (w.at d') t' ∧ stepT P (crowd gs' (w.at d) sl') = runT P (crowd gs' (w.at d') sl2) 0 := by
  intro M
  induction M with
  | zero =>
    intro f gs w sl t hM hr hB
    obtain ⟨i, x, d, sl', hi, hx, hst⟩ := crowd_pick (P := P) (w := w) (sl := sl) (hB.awake hr) ⟨0, a, hB.a0, hr⟩
    rcases Nat.eq_zero_or_pos i with rfl | h1
    · exact ⟨0, f, gs, w.drawn, d, sl, sl', t, rfl, hB.at d, hst⟩
    · have h2 : i ≤ q := by have := (Array.getElem?_eq_some_iff.1 hi).1; rw [hB.size] at this; omega
      obtain ⟨gs', u, k, _, hk, _⟩ := (hB.at d).slip (sl := sl') hr h1 h2 hi hx
      have := Go.ConcN.le_sumTo (f := f) (show i < q + 1 by omega)
      omega
  | succ M ihM =>
    intro f gs w sl t hM hr hB
    obtain ⟨i, x, d, sl', hi, hx, hst⟩ := crowd_pick (P := P) (w := w) (sl := sl) (hB.awake hr) ⟨0, a, hB.a0, hr⟩
    rcases Nat.eq_zero_or_pos i with rfl | h1
    · exact ⟨0, f, gs, w.drawn, d, sl, sl', t, rfl, hB.at d, hst⟩
    · have h2 : i ≤ q := by have := (Array.getElem?_eq_some_iff.1 hi).1; rw [hB.size] at this; omega
      obtain ⟨gs', u, k, hrT, hk, hB'⟩ := (hB.at d).slip (sl := sl') hr h1 h2 hi hx
      have hs : sumTo (q + 1) (upd f i k) + f i = sumTo (q + 1) f + k := sumTo_upd f k id (show i < q + 1 by omega)
      obtain ⟨N, f2, gs2, d2, d3, sl2, sl3, t2, r1, r2, r3⟩ := ihM (upd f i k) gs' (w.at d) sl' (t ++ u) (by omega) hr hB'
      exact ⟨N + 1, f2, gs2, d2, d3, sl2, sl3, t2, by rw [runNT_succ_next (hst.trans hrT)]; exact r1, r2, r3⟩
end
end Go.Proofs.YtckoipoejaafhaaDoor.Cc

namespace Go.Proofs.YtckoipoejaafhaaDoor.Cc
open Go Go.Conc
open Go.ConcN (sumTo)
theorem runNT_seq {P : Program} {m1 : Machine} {t1 : Trace} {M : Nat} {r : Stepped × Trace} : ∀ {N : Nat} {m : Machine} {t : Trace}, runNT P N m t = (.next m1, t1) → runNT P M m1 t1 = r → runNT P (N + M) m t = r := by
  intro N
  induction N with
  | zero =>
    intro m t h hk
    simp only [runNT, Prod.mk.injEq, Stepped.next.injEq] at h
    obtain ⟨rfl, rfl⟩ := h
    rw [Nat.zero_add]; exact hk
  | succ N ih =>
    intro m t h hk
    rw [show N + 1 + M = (N + M) + 1 by omega]
    simp only [runNT] at h ⊢
    cases hs : stepT P m with
    | mk e ops =>
      rw [hs] at h
      cases e with
      | next m2 => exact ih h hk
      | ended o w => simp at h
theorem stuck_panic2 {P : Program} {m' : Machine} (hm' : ∃ fr w, m' = lone fr [wallP P] w ∧ ∀ ch, fr.mode ≠ .panicking ch) : ∀ (n : Nat) (stk : List Frame) (fr : Frame) (w : World) (chain : List PanicEntry), fr.mode = .panicking chain → fr.defers = [] → (∀ f ∈ stk, f.defers = [] ∧ ∃ fn, P.funcs[f.fn]? = some fn) → (∃ fn, P.funcs[fr.fn]? = some fn) →
    runN P n (lone fr (stk ++ [wallP P]) w) = .next m' → False := by
  obtain ⟨frE, wE, rfl, hE⟩ := hm'
  intro n
  induction n with
  | zero =>
    intro stk fr w chain hm hd hs hf h
    simp only [runN, Stepped.next.injEq, lone, Machine.mk.injEq] at h
    have := h.2.1
    simp at this
    rw [this.1] at hm
    exact hE _ hm
  | succ n ih =>
    intro stk fr w chain hm hd hs ⟨fn, hf⟩ h
    have hstep : ∀ (c : Frame) (cs : List Frame), stepG P true (G fr (c :: cs)) w = .go (G (c.raise chain) cs) w := fun c cs => by
      simp [G, stepG, unwind, hm, hd, Frame.catches, hf]
    cases stk with
    | cons c cs =>
      have e := step_of_go (hstep c (cs ++ [wallP P]))
      rw [List.cons_append] at h
      simp only [runN, e] at h
      obtain ⟨hc, hcf⟩ := hs c (by simp)
      have hcr : (∃ ch, (c.raise chain).mode = .panicking ch) ∧ (c.raise chain).defers = c.defers ∧ (c.raise chain).fn = c.fn := by
        unfold Frame.raise
        split <;> exact ⟨⟨_, rfl⟩, rfl, rfl⟩
      obtain ⟨⟨ch, h1⟩, h2, h3⟩ := hcr
      exact ih cs (c.raise chain) w ch h1 (by rw [h2, hc]) (fun f hf => hs f (by simp [hf])) (by rw [h3]; exact hcf) h
    | nil =>
      have e := step_of_go (hstep (wallP P) [])
      rw [List.nil_append] at h
      simp only [runN, e] at h
      have hw : ∃ o w2, step P (lone ((wallP P).raise chain) [] w) = .ended o w2 := by
        have hs2 : ∃ o, stepG P true (G ((wallP P).raise chain) []) w = .ended o w := by
          have hn : P.funcs[P.funcs.size]? = none := by simp
          simp [G, stepG, unwind, Frame.raise, wallP, Frame.catches]
        obtain ⟨o, ho⟩ := hs2
        refine ⟨o, w, step_lone_ended ?_⟩
        show (stepG P true (G _ []) w).bare = _
        rw [ho]; rfl
      obtain ⟨o, w2, hw⟩ := hw
      cases n with
      | zero =>
        simp only [runN, Stepped.next.injEq, lone, Machine.mk.injEq] at h
        have := h.2.1
        simp at this
      | succ n =>
        simp only [runN, hw] at h
        cases h
structure Cn where
  gs : Array Goroutine
  w : World
  sl : Option (Nat × Nat)
  t : Trace
  f : Nat → Nat
  fr : Frame
  stk : List Frame
  pw : World
section
variable (P : Program) (fs : Fs) (Su Sh Ow : Nat → Prop) (G q : Nat) (K : List Item) (base : List Frame)
structure CI (s : Cn) : Prop where
  bes : Bes P q Su Sh Ow s.f s.gs (rl K base s.fr s.stk) s.w s.t
  sk : SK P fs s.fr s.stk
  pw : PW Su s.pw s.w
  gl : Gl G s.pw
def kw (whole : Bool) : List Item := if whole then [] else [.code (.refuse "")]
structure Nx (whole : Bool) (s s' : Cn) (e k : Nat) : Prop where
  runs : ∃ N, runNT P N (crowd s.gs s.w s.sl) s.t = (.next (crowd s'.gs s'.w s'.sl), s'.t)
  ci : CI P fs Su Sh Ow G q K base s'
  tape : s'.w.tape = s.w.tape
  size : s.w.heap.size ≤ s'.w.heap.size
  lone : ∀ τ c bs, (∀ j, j < k → ∀ x, τ (c + j) x = s.w.tape (e + j) x) → ∃ es, stepG P true (rl (kw whole) bs s.fr s.stk) (tp s.pw τ c) = .go (rl (kw whole) bs s'.fr s'.stk) (tp s'.pw τ (c + k)) es
def FailsAt (whole : Bool) (s : Cn) (e k : Nat) : Prop := ∀ τ c bs, (∀ j, j < k → ∀ x, τ (c + j) x = s.w.tape (e + j) x) → ∃ es w2, (∃ o, stepG P true (rl (kw whole) bs s.fr s.stk) (tp s.pw τ c) = .ended o w2 es) ∨ ∃ v, stepG P true (rl (kw whole) bs s.fr s.stk) (tp s.pw τ c) = .go (Go.Conc.G ((topK (kw whole) s.fr s.stk).raise [{ v, recovered := false }]) (extK (kw whole) s.stk ++ bs)) w2 es
end
section
variable {P : Program} {fs : Fs} {Su Sh Ow : Nat → Prop} {G q : Nat} {K : List Item} {base : List Frame} {whole : Bool}
theorem kw_exit (whole : Bool) (id : Nat) : exitTo id (kw whole) = none := by cases whole <;> rfl
theorem CI.next (hF : FnsAll P fs) (hE : NoEarly P G) (hK : whole = true → K = []) {s : Cn} (h : CI P fs Su Sh Ow G q K base s) (hno : ¬ OutK whole s.fr s.stk) : ∃ e k, (∃ s', Nx P fs Su Sh Ow G q K base whole s s' e k) ∨ FailsAt P whole s e k := by
  obtain ⟨N, f', gs', d, d', sl', sl2, t', r1, r2, r3⟩ := Bes.turn (a := rl K base s.fr s.stk) (sumTo (q + 1) s.f) s.f s.gs s.w s.sl s.t (Nat.le_refl _) rfl h.bes
  have hp : PW Su s.pw (s.w.at d') := ⟨h.pw.os, h.pw.output, h.pw.size, h.pw.out, h.pw.in_⟩
  obtain ⟨k, hk⟩ := step_both (whole := whole) (KP := kw whole) hF hE h.sk hp h.gl hno (kw_exit whole) (fun e => by rw [e]; rfl)
  refine ⟨d', k, ?_⟩
  rcases hk with ⟨fr1, stk1, pw1, w1, n, q1, q2, q3, q4, q5, q6, q7, q8, q9⟩ | hk
  · obtain ⟨e1, e2⟩ := r2.stepB (sl := sl2) (q2 K base hK) q8 q9
    refine .inl ⟨⟨_, w1, sl2, _, f', fr1, stk1, pw1⟩, ⟨N + 1, runNT_seq r1 ?_⟩, ⟨e2, q3, q4, q5⟩, q6, q8, fun τ c bs hA => q1 τ c bs hA⟩
    rw [runNT_succ_next (r3.trans e1)]
    rfl
  · exact .inr fun τ c bs hA => hk τ c bs hA
theorem SK.plain {fr : Frame} {stk : List Frame} (h : SK P fs fr stk) (K : List Item) : (∀ f ∈ extK K stk, f.defers = [] ∧ ∃ fn, P.funcs[f.fn]? = some fn) ∧ (topK K fr stk).defers = [] ∧ ∃ fn, P.funcs[(topK K fr stk).fn]? = some fn := by
  have one : ∀ f, FrK P fs f → ∀ stk, (topK K f stk).defers = [] ∧ ∃ fn, P.funcs[(topK K f stk).fn]? = some fn := fun f hf stk => by
    have h1 : f.defers = [] := by rw [hf.form]; rfl
    cases stk with
    | nil => exact ⟨h1, hf.fn⟩
    | cons a l => exact ⟨h1, hf.fn⟩
  refine ⟨?_, one _ h.top _⟩
  have hb := h.below
  clear h
  induction stk with
  | nil => intro f hf; cases hf
  | cons a l ih =>
    intro f hf
    rw [extK_cons] at hf
    rcases List.mem_cons.1 hf with rfl | hf
    · exact one a (hb a (by simp)).frk l
    · exact ih (fun x hx => hb x (by simp [hx])) f hf
end
end Go.Proofs.YtckoipoejaafhaaDoor.Cc
