/-
  Texts that stood one behind the other, as one.
-/
import Derived.Test.YtckoipoejaafhaaDoorCcPAll
import Derived.Conc.Listed
namespace Go.Proofs.YtckoipoejaafhaaDoor.Cc
open Go Go.Conc
def frm (fn : FuncId) (ts : Array Value) (td : List Item) (md : FrameMode) : Frame := { fn := fn, tmps := ts, todo := td, defers := [], mode := md, kind := .normal, roundOf := none }
theorem Fr2.form {P : Program} {T : Tbl} {ρ : Ren} {fr fr' : Frame} (h : Fr2 P T ρ fr fr') : fr = frm fr.fn fr.tmps fr.todo fr.mode ∧ fr' = frm fr.fn fr'.tmps fr.todo fr.mode := by
  obtain ⟨h1, h2, h3, h4, h5, h5', h6, h7, h7', h8, h8', h9⟩ := h
  obtain ⟨fn, tmps, todo, defers, mode, kind, roundOf⟩ := fr
  obtain ⟨fn', tmps', todo', defers', mode', kind', roundOf'⟩ := fr'
  dsimp only at *
  subst h1 h3 h5 h5' h6 h7 h7' h8 h8'
  exact ⟨rfl, rfl⟩
theorem Fr2.mk' {P : Program} {T : Tbl} {ρ : Ren} {fn : FuncId} {ts ts' : Array Value} {td : List Item} {md : FrameMode} (hf : T.fs.contains fn = true) (ok : td.all (itemB P T (T.ps fn)) = true) (h : Sl2 T (T.ps fn) ρ ts ts') : Fr2 P T ρ (frm fn ts td md) (frm fn ts' td md) :=
  ⟨rfl, hf, rfl, ok, rfl, rfl, rfl, rfl, rfl, rfl, rfl, h⟩
section
variable {P : Program} {main : Bool} {fn : FuncId} {ts : Array Value} {k : List Item} {cs : List Frame} {w : World}
theorem st_nil : stepG P main (G (frm fn ts [] .run) cs) w = .go (G (frm fn ts [] .returning) cs) w := by simp [G, stepG, stepG.exec, frm]
theorem st_ret : stepG P main (G (frm fn ts (.code .ret :: k) .run) cs) w = .go (G (frm fn ts (.code .ret :: k) .returning) cs) w := by simp [G, stepG, stepG.exec, frm]
theorem st_skip : stepG P main (G (frm fn ts (.code .skip :: k) .run) cs) w = .go (G (frm fn ts k .run) cs) w := by simp [G, stepG, stepG.exec, frm]
theorem st_inBlock {id : Nat} : stepG P main (G (frm fn ts (.inBlock id :: k) .run) cs) w = .go (G (frm fn ts k .run) cs) w := by simp [G, stepG, stepG.exec, frm]
theorem st_seq {x y : Code} : stepG P main (G (frm fn ts (.code (.seq x y) :: k) .run) cs) w = .go (G (frm fn ts (.code x :: .code y :: k) .run) cs) w := by simp [G, stepG, stepG.exec, frm]
theorem st_block {id : Nat} {c : Code} : stepG P main (G (frm fn ts (.code (.block id c) :: k) .run) cs) w = .go (G (frm fn ts (.code c :: .inBlock id :: k) .run) cs) w := by simp [G, stepG, stepG.exec, frm]
theorem st_loop {c : Code} : stepG P main (G (frm fn ts (.code (.loop c) :: k) .run) cs) w = .go (G (frm fn ts (.code c :: .inLoop c :: k) .run) cs) w := by simp [G, stepG, stepG.exec, frm]
theorem st_inLoop {c : Code} : stepG P main (G (frm fn ts (.inLoop c :: k) .run) cs) w = .go (G (frm fn ts (.code c :: .inLoop c :: k) .run) cs) w := by simp [G, stepG, stepG.exec, frm]
theorem st_exit {id : Nat} {k' : List Item} (h : exitTo id k = some k') : stepG P main (G (frm fn ts (.code (.exit id) :: k) .run) cs) w = .go (G (frm fn ts k' .run) cs) w := by simp [G, stepG, stepG.exec, frm, h]
theorem st_exitNo {id : Nat} (h : exitTo id k = none) : ∃ o, stepG P main (G (frm fn ts (.code (.exit id) :: k) .run) cs) w = .ended o w := ⟨_, by simp [G, stepG, stepG.exec, frm, h]; rfl⟩
theorem st_cond {c : Operand} {x y : Code} {t : Bool} (h : evT ts c = .bool t) : stepG P main (G (frm fn ts (.code (.cond c x y) :: k) .run) cs) w = .go (G (frm fn ts (.code (if t then x else y) :: k) .run) cs) w := by
  have h' : ({ fn := fn, tmps := ts, todo := .code (.cond c x y) :: k, defers := [], mode := .run, kind := .normal, roundOf := none } : Frame).eval c = .bool t := by rw [eval_evT]; exact h
  simp [G, stepG, stepG.exec, frm, h']
theorem st_condNo {c : Operand} {x y : Code} (h : ∀ t, evT ts c ≠ .bool t) : ∃ o, stepG P main (G (frm fn ts (.code (.cond c x y) :: k) .run) cs) w = .ended o w := by
  have h' : ({ fn := fn, tmps := ts, todo := .code (.cond c x y) :: k, defers := [], mode := .run, kind := .normal, roundOf := none } : Frame).eval c = evT ts c := by rw [eval_evT]
  generalize evT ts c = v at h h'
  cases v with
  | bool b => exact absurd rfl (h b)
  | _ => exact ⟨_, by simp [G, stepG, stepG.exec, frm, h']; rfl⟩
theorem st_region {id : Nat} {ops : Array Oper} : stepG P main (G (frm fn ts (.code (.region id ops false) :: k) .run) cs) w = .go (G (frm fn ts (.inRegion ops (List.range ops.size) :: k) .run) cs) w := by simp [G, stepG, stepG.exec, frm]
theorem st_draw {id : Nat} {ops : Array Oper} : stepG P main (G (frm fn ts (.code (.region id ops true) :: k) .run) cs) w = .go (G (frm fn ts (.inRegion ops (Region.schedule (P.follows .mixedOrders) ops (w.tape w.drawn (.order fn id))) :: k) .run) cs) { w with drawn := w.drawn + 1 } := by
  simp [G, stepG, stepG.exec, frm, choose, Sem.run, Question.forced, Question.cut]
theorem st_regionEnd {ops : Array Oper} : stepG P main (G (frm fn ts (.inRegion ops [] :: k) .run) cs) w = .go (G (frm fn ts k .run) cs) w := by simp [G, stepG, stepG.exec, frm]
theorem st_unwanted {ops : Array Oper} {i : Nat} {rest : List Nat} (h : ((ops[i]?).map (Region.wanted · (yielded ops ts))).getD false = false) :
    stepG P main (G (frm fn ts (.inRegion ops (i :: rest) :: k) .run) cs) w = .go (G ((frm fn ts (.inRegion ops (i :: rest) :: k) .run).finish undef) cs) w := by
  simp [G, stepG, stepG.exec, frm, h]
theorem st_oper {ops : Array Oper} {i : Nat} {rest : List Nat} {o : Oper} (ho : ops[i]? = some o) (hw : Region.wanted o (yielded ops ts) = true) :
    stepG P main (G (frm fn ts (.inRegion ops (i :: rest) :: k) .run) cs) w = stepG.apply P true (frm fn ts (.inRegion ops (i :: rest) :: k) .run) cs none (execOp (evT ts) o) w := by
  have he := eval_evT (frm fn ts (.inRegion ops (i :: rest) :: k) .run)
  simp only [frm] at he
  simp [G, stepG, stepG.exec, stepG.oper, Frame.oper?, frm, ho, hw, he]
theorem ap_value {ops : Array Oper} {i : Nat} {rest : List Nat} {s : Sem Next} {v : Value} {w1 : World} {m : Array Event} (h : s.runT P w #[] = (.ok (.value v) w1, m)) :
    stepG.apply P true (frm fn ts (.inRegion ops (i :: rest) :: k) .run) cs none s w = .go (G ((frm fn ts (.inRegion ops (i :: rest) :: k) .run).finish v) cs) w1 (seen P fn m) := by
  unfold stepG.apply
  dsimp only
  rw [if_pos rfl, h]
  simp [frm, G, GStep.after]
theorem ap_skip {ops : Array Oper} {i : Nat} {rest : List Nat} {s : Sem Next} {w1 : World} {m : Array Event} (h : s.runT P w #[] = (.ok .skip w1, m)) :
    stepG.apply P true (frm fn ts (.inRegion ops (i :: rest) :: k) .run) cs none s w = .go (G ((frm fn ts (.inRegion ops (i :: rest) :: k) .run).finish undef) cs) w1 (seen P fn m) := by
  unfold stepG.apply
  dsimp only
  rw [if_pos rfl, h]
  simp [frm, G, GStep.after]
theorem ap_enter {ops : Array Oper} {i : Nat} {rest : List Nat} {s : Sem Next} {f : FuncId} {args : Array Value} {w1 : World} {m : Array Event} (h : s.runT P w #[] = (.ok (.enter f args) w1, m)) :
    stepG.apply P true (frm fn ts (.inRegion ops (i :: rest) :: k) .run) cs none s w = .go (G (Frame.enter P f args .normal) (frm fn ts (.inRegion ops (i :: rest) :: k) .run :: cs)) w1 (seen P fn m) := by
  unfold stepG.apply
  dsimp only
  rw [if_pos rfl, h]
  simp [frm, G, GStep.after]
theorem ap_halt {ops : Array Oper} {i : Nat} {rest : List Nat} {s : Sem Next} {e : Halt} {w1 : World} {m : Array Event} (h : s.runT P w #[] = (.halt e w1, m)) (hp : plainH e) :
    ∃ es w2, (∃ o, stepG.apply P true (frm fn ts (.inRegion ops (i :: rest) :: k) .run) cs none s w = .ended o w2 es) ∨ (∃ v, stepG.apply P true (frm fn ts (.inRegion ops (i :: rest) :: k) .run) cs none s w = .go (G ((frm fn ts (.inRegion ops (i :: rest) :: k) .run).raise [{ v, recovered := false }]) cs) w2 es) := by
  cases e with
  | panic v => exact ⟨seen P fn m, w1, .inr ⟨v, by unfold stepG.apply; dsimp only; rw [if_pos rfl, h]; simp [frm, G, GStep.after]⟩⟩
  | stuck q => exact ⟨seen P fn m, w1, .inl ⟨_, by unfold stepG.apply; dsimp only; rw [if_pos rfl, h]; simp [frm, GStep.after]; rfl⟩⟩
  | unsupported u =>
    cases u with
    | initOrder g => exact hp.elim
    | _ => exact ⟨seen P fn m, w1, .inl ⟨_, by unfold stepG.apply; dsimp only; rw [if_pos rfl, h]; simp [frm, GStep.after]; rfl⟩⟩
  | _ => exact hp.elim
theorem st_return {f : Func} {c : Frame} {v : Value} (hf : P.funcs[fn]? = some f) (hr : ∀ es, (results f ts).runT P w es = (.ok v w, es)) {td : List Item} :
    stepG P main (G (frm fn ts td .returning) (c :: cs)) w = .go (G (c.finish v) cs) w (seen P fn #[]) := by
  simp only [stepG, frm, G]
  unfold unwind
  dsimp only
  rw [hf]
  dsimp only
  rw [hr]
  simp [doReturn, GStep.after]
end
structure St (P : Program) (T : Tbl) (B : Nat) (ρ : Ren) (fr : Frame) (stk : List Frame) (w : World) (fr' : Frame) (stk' : List Frame) (w' : World) : Prop where
  top : Fr2 P T ρ fr fr'
  mode : fr.mode = .run ∨ fr.mode = .returning
  below : St2 P T ρ stk stk'
  wr : WR (TF T) B ρ w w'
  gl : ∀ g, T.gs.contains g = true → ρ g = some g
theorem exitTo_ok {P : Program} {T : Tbl} {ps : List Tmp} {id : Nat} : ∀ {k k' : List Item}, k.all (itemB P T ps) = true → exitTo id k = some k' → k'.all (itemB P T ps) = true
  | [], k', _, h => by cases h
  | it :: k, k', hk, h => by
    rw [List.all_cons, Bool.and_eq_true] at hk
    cases it with
    | inBlock id' =>
      simp only [exitTo] at h
      split at h
      · cases h; exact hk.2
      · exact exitTo_ok hk.2 h
    | _ => exact exitTo_ok hk.2 (by simpa only [exitTo] using h)
theorem step2 {P : Program} {T : Tbl} {B : Nat} {ρ : Ren} {fr : Frame} {stk : List Frame} {w : World} {fr' : Frame} {stk' : List Frame} {w' : World} (hF : FnAll P T) (h : St P T B ρ fr stk w fr' stk' w') :
    (fr.mode = .returning ∧ stk = []) ∨
    (∃ id ops k, fr.mode = .run ∧ fr.todo = .code (.region id ops true) :: k) ∨
    (∃ (fr1 : Frame) (stk1 : List Frame) (w1 : World) (fr1' : Frame) (stk1' : List Frame) (w1' : World) (σ : Ren) (n : Array Event), (∀ τ d cs, ∃ es, stepG P true (G fr (stk ++ cs)) (tp w τ d) = .go (G fr1 (stk1 ++ cs)) (tp w1 τ d) es) ∧
      (∀ main cs, stepG P main (G fr' (stk' ++ cs)) w' = .go (G fr1' (stk1' ++ cs)) w1' n) ∧ St P T B σ fr1 stk1 w1 fr1' stk1' w1' ∧ Kp B ρ σ w' w1' ∧ w1'.drawn = w'.drawn ∧ ∀ e ∈ n, EvK B σ e) ∨
    (∀ τ d cs, ∃ es w2, (∃ o, stepG P true (G fr (stk ++ cs)) (tp w τ d) = .ended o w2 es) ∨ ∃ v, stepG P true (G fr (stk ++ cs)) (tp w τ d) = .go (G (fr.raise [{ v, recovered := false }]) (stk ++ cs)) w2 es) := by
  obtain ⟨hfr, hm, hstk, hwr, hgl⟩ := h
  obtain ⟨f1, f2⟩ := hfr.form
  have hin := hfr.inT
  have hok := hfr.ok
  have hsl := hfr.slots
  generalize fr.fn = fn at *
  generalize fr.tmps = ts at *
  generalize fr'.tmps = ts' at *
  generalize fr.todo = td at *
  generalize hmd : fr.mode = md at *
  subst f1 f2
  clear hmd
  have e0 : ∀ e ∈ (#[] : Array Event), EvK B ρ e := by simp
  rcases hm with rfl | rfl
  · -- it runs
    have ctl : ∀ (td1 : List Item) (md1 : FrameMode), td1.all (itemB P T (T.ps fn)) = true → (md1 = .run ∨ md1 = .returning) →
        (∀ main cs W, stepG P main (G (frm fn ts td .run) cs) W = .go (G (frm fn ts td1 md1) cs) W) → (∀ main cs W, stepG P main (G (frm fn ts' td .run) cs) W = .go (G (frm fn ts' td1 md1) cs) W) →
        (∃ (fr1 : Frame) (stk1 : List Frame) (w1 : World) (fr1' : Frame) (stk1' : List Frame) (w1' : World) (σ : Ren) (n : Array Event), (∀ τ d cs, ∃ es, stepG P true (G (frm fn ts td .run) (stk ++ cs)) (tp w τ d) = .go (G fr1 (stk1 ++ cs)) (tp w1 τ d) es) ∧
          (∀ main cs, stepG P main (G (frm fn ts' td .run) (stk' ++ cs)) w' = .go (G fr1' (stk1' ++ cs)) w1' n) ∧ St P T B σ fr1 stk1 w1 fr1' stk1' w1' ∧ Kp B ρ σ w' w1' ∧ w1'.drawn = w'.drawn ∧ ∀ e ∈ n, EvK B σ e) :=
      fun td1 md1 h1 h2 h3 h4 => ⟨frm fn ts td1 md1, stk, w, frm fn ts' td1 md1, stk', w', ρ, #[], fun τ d cs => ⟨#[], h3 _ _ _⟩, fun main cs => h4 _ _ _, ⟨Fr2.mk' hin h1 hsl, h2, hstk, hwr, hgl⟩, Kp.refl _ _ _, rfl, e0⟩
    cases td with
    | nil => exact .inr (.inr (.inl (ctl [] .returning rfl (.inr rfl) (fun _ _ _ => st_nil) (fun _ _ _ => st_nil))))
    | cons it k =>
      rw [List.all_cons, Bool.and_eq_true] at hok
      obtain ⟨hit, hk⟩ := hok
      have ok2 : ∀ (c : Item), itemB P T (T.ps fn) c = true → (c :: k).all (itemB P T (T.ps fn)) = true := fun c hc => by rw [List.all_cons, hc, hk]; rfl
      cases it with
      | code c =>
        cases c with
        | skip => exact .inr (.inr (.inl (ctl k .run hk (.inl rfl) (fun _ _ _ => st_skip) (fun _ _ _ => st_skip))))
        | ret => exact .inr (.inr (.inl (ctl _ .returning (ok2 _ rfl) (.inr rfl) (fun _ _ _ => st_ret) (fun _ _ _ => st_ret))))
        | seq x y =>
          simp only [itemB, codeB, Bool.and_eq_true] at hit
          refine .inr (.inr (.inl (ctl (.code x :: .code y :: k) .run ?_ (.inl rfl) (fun _ _ _ => st_seq) (fun _ _ _ => st_seq))))
          rw [List.all_cons, List.all_cons, hk]
          simp [itemB, hit.1, hit.2]
        | cond c x y =>
          simp only [itemB, codeB, Bool.and_eq_true] at hit
          have hc := opdN_rel hsl hit.1
          by_cases hb : ∃ b, evT ts c = .bool b
          · obtain ⟨b, hb⟩ := hb
            have hb' : evT ts' c = .bool b := by
              rw [hb] at hc
              generalize evT ts' c = v' at hc
              cases hc
              rfl
            refine .inr (.inr (.inl (ctl (.code (if b then x else y) :: k) .run (ok2 _ ?_) (.inl rfl) (fun _ _ _ => st_cond hb) (fun _ _ _ => st_cond hb'))))
            cases b
            · exact hit.2.2
            · exact hit.2.1
          · refine .inr (.inr (.inr fun τ d cs => ?_))
            obtain ⟨o, ho⟩ := st_condNo (P := P) (main := true) (fn := fn) (ts := ts) (k := k) (cs := stk ++ cs) (w := tp w τ d) (c := c) (x := x) (y := y) fun t e => hb ⟨t, e⟩
            exact ⟨_, _, .inl ⟨o, ho⟩⟩
        | block id c => exact .inr (.inr (.inl (ctl (.code c :: .inBlock id :: k) .run (by rw [List.all_cons, List.all_cons, hk]; simpa [itemB, codeB] using hit) (.inl rfl) (fun _ _ _ => st_block) (fun _ _ _ => st_block))))
        | loop c => exact .inr (.inr (.inl (ctl (.code c :: .inLoop c :: k) .run (by rw [List.all_cons, List.all_cons, hk]; simpa [itemB, codeB] using hit) (.inl rfl) (fun _ _ _ => st_loop) (fun _ _ _ => st_loop))))
        | exit id =>
          cases he : exitTo id k with
          | none =>
            refine .inr (.inr (.inr fun τ d cs => ?_))
            obtain ⟨o, ho⟩ := st_exitNo (P := P) (main := true) (fn := fn) (ts := ts) (k := k) (cs := stk ++ cs) (w := tp w τ d) he
            exact ⟨_, _, .inl ⟨o, ho⟩⟩
          | some k' => exact .inr (.inr (.inl (ctl k' .run (exitTo_ok hk he) (.inl rfl) (fun _ _ _ => st_exit he) (fun _ _ _ => st_exit he))))
        | region id ops dr =>
          cases dr with
          | true => exact .inr (.inl ⟨id, ops, k, rfl, rfl⟩)
          | false => exact .inr (.inr (.inl (ctl (.inRegion ops (List.range ops.size) :: k) .run (ok2 _ hit) (.inl rfl) (fun _ _ _ => st_region) (fun _ _ _ => st_region))))
        | scope _ => simp [itemB, codeB] at hit
        | label _ => simp [itemB, codeB] at hit
        | goto _ => simp [itemB, codeB] at hit
        | rangeFunc _ _ _ _ => simp [itemB, codeB] at hit
        | refuse _ => simp [itemB, codeB] at hit
      | inBlock id => exact .inr (.inr (.inl (ctl k .run hk (.inl rfl) (fun _ _ _ => st_inBlock) (fun _ _ _ => st_inBlock))))
      | inLoop c => exact .inr (.inr (.inl (ctl (.code c :: .inLoop c :: k) .run (by rw [List.all_cons, List.all_cons, hk]; simpa [itemB, codeB] using hit) (.inl rfl) (fun _ _ _ => st_inLoop) (fun _ _ _ => st_inLoop))))
      | inRegion ops l =>
        cases l with
        | nil => exact .inr (.inr (.inl (ctl k .run hk (.inl rfl) (fun _ _ _ => st_regionEnd) (fun _ _ _ => st_regionEnd))))
        | cons i rest =>
          have hy := yielded_same hsl ops
          by_cases hw : ((ops[i]?).map (Region.wanted · (yielded ops ts))).getD false = false
          · have hw' : ((ops[i]?).map (Region.wanted · (yielded ops ts'))).getD false = false := by rw [hy]; exact hw
            have hf2 := hfr.finish (v := undef) (v' := undef) (.val VR.undef) (fun _ _ _ _ _ => VR.undef)
            refine .inr (.inr (.inl ⟨_, stk, w, _, stk', w', ρ, #[], fun τ d cs => ⟨#[], st_unwanted hw⟩, fun main cs => st_unwanted hw', ⟨hf2, .inl ?_, hstk, hwr, hgl⟩, Kp.refl _ _ _, rfl, e0⟩))
            simp [Frame.finish, frm]
          · obtain ⟨o, ho, hwo⟩ : ∃ o, ops[i]? = some o ∧ Region.wanted o (yielded ops ts) = true := by
              cases hoi : ops[i]? with
              | none => rw [hoi] at hw; simp at hw
              | some o => rw [hoi] at hw; exact ⟨o, rfl, by simpa using hw⟩
            have hwo' : Region.wanted o (yielded ops ts') = true := by rw [hy]; exact hwo
            have hoB : opB P T (T.ps fn) o = true := by
              have : ops.all (opB P T (T.ps fn)) = true := hit
              rw [Array.all_eq_true'] at this
              exact this o (Array.mem_of_getElem? ho)
            rcases SR.run2 (B := B) _ (sr_op hF.ok o hoB hsl hgl) hwr with ⟨a, w1, σ, a', w1', n, r1, r2, r3, r4, r5, r5', r6⟩ | hr
            · have hsn : ∀ e ∈ seen P fn n, EvK B σ e := fun e he => r6 e (mem_seen he)
              have hgl2 : ∀ g, T.gs.contains g = true → σ g = some g := fun g q => r5.le _ _ (hgl g q)
              obtain ⟨hnr, hnv⟩ := r3
              have r1' : ∀ τ d, ∃ m, (execOp (evT ts) o).runT P (tp w τ d) #[] = (.ok a (tp w1 τ d), m) := fun τ d => by
                obtain ⟨m, hm⟩ := r1 τ d #[]
                exact ⟨_, hm⟩
              have r2' := r2 #[]
              rw [Array.empty_append] at r2'
              have hfr2 := hfr.mono r5.le
              cases a with
              | value v =>
                cases a' with
                | value v' =>
                  have hf3 := hfr2.finish (v := v) (v' := v') hnr (fun o' d' q1 q2 q3 => by
                    have : o' = o := by
                      simp only [Frame.oper?, frm, ho] at q1
                      exact (Option.some.inj q1).symm
                    subst this
                    exact hnv d' q2 q3)
                  refine .inr (.inr (.inl ⟨_, stk, w1, _, stk', w1', σ, seen P fn n, fun τ d cs => ?_, fun main cs => ?_, ⟨hf3, .inl ?_, hstk.mono r5.le, r4, hgl2⟩, r5, r5', hsn⟩))
                  · obtain ⟨m, hm⟩ := r1' τ d
                    exact ⟨_, by rw [st_oper ho hwo]; exact ap_value hm⟩
                  · rw [st_oper ho hwo']; exact ap_value r2'
                  · simp [Frame.finish, frm]
                | _ => exact hnr.elim
              | skip =>
                cases a' with
                | skip =>
                  have hf3 := hfr2.finish (v := undef) (v' := undef) (.val VR.undef) (fun _ _ _ _ _ => VR.undef)
                  refine .inr (.inr (.inl ⟨_, stk, w1, _, stk', w1', σ, seen P fn n, fun τ d cs => ?_, fun main cs => ?_, ⟨hf3, .inl ?_, hstk.mono r5.le, r4, hgl2⟩, r5, r5', hsn⟩))
                  · obtain ⟨m, hm⟩ := r1' τ d
                    exact ⟨_, by rw [st_oper ho hwo]; exact ap_skip hm⟩
                  · rw [st_oper ho hwo']; exact ap_skip r2'
                  · simp [Frame.finish, frm]
                | _ => exact hnr.elim
              | enter f args =>
                cases a' with
                | enter f' args' =>
                  obtain ⟨rfl, hTf, hargs⟩ := hnr
                  refine .inr (.inr (.inl ⟨Frame.enter P f' args .normal, frm fn ts (.inRegion ops (i :: rest) :: k) .run :: stk, w1, Frame.enter P f' args' .normal, frm fn ts' (.inRegion ops (i :: rest) :: k) .run :: stk', w1', σ, seen P fn n, fun τ d cs => ?_, fun main cs => ?_, ⟨fr2_enter hF hTf hargs, .inl rfl, ⟨_, _, rfl, rfl, hfr2, hstk.mono r5.le⟩, r4, hgl2⟩, r5, r5', hsn⟩))
                  · obtain ⟨m, hm⟩ := r1' τ d
                    exact ⟨_, by rw [st_oper ho hwo]; exact ap_enter hm⟩
                  · rw [st_oper ho hwo']; exact ap_enter r2'
                | _ => exact hnr.elim
              | _ => cases a' <;> exact hnr.elim
            · refine .inr (.inr (.inr fun τ d cs => ?_))
              obtain ⟨e, w2, m, hp, hm⟩ := hr τ d #[]
              rw [st_oper ho hwo]
              exact ap_halt hm hp
      | inScope _ => simp [itemB] at hit
      | inRangeFunc _ => simp [itemB] at hit
      | endRangeFunc _ => simp [itemB] at hit
      | beginRound => simp [itemB] at hit
      | call _ _ _ _ => simp [itemB] at hit
      | extern _ _ => simp [itemB] at hit
  · -- it returns
    cases stk with
    | nil => exact .inl ⟨rfl, rfl⟩
    | cons c stk =>
      obtain ⟨c', t', rfl, hcm, hc, hst⟩ := hstk
      obtain ⟨f, cd, q1, q2, q3, q4, q5⟩ := hF fn hin
      obtain ⟨v, v', hv, e1, e2⟩ := results_of hsl q5
      have hf3 := hc.finish (.val hv) (fun _ _ _ _ _ => hv)
      refine .inr (.inr (.inl ⟨c.finish v, stk, w, c'.finish v', t', w', ρ, seen P fn #[], fun τ d cs => ⟨_, st_return q1 (fun es => e1 P _ es)⟩, fun main cs => st_return q1 (fun es => e2 P _ es), ⟨hf3, .inl ?_, hst, hwr, hgl⟩, Kp.refl _ _ _, rfl, ?_⟩))
      · obtain ⟨g1, _⟩ := hc.form
        rw [hcm] at g1
        rw [g1]
        simp only [Frame.finish, frm]
        split <;> rfl
      · intro e he
        exact absurd (mem_seen he) (by simp)
def GoTo (P : Program) (fr : Frame) (stk : List Frame) (w : World) (fr1 : Frame) (stk1 : List Frame) (w1 : World) : Prop :=
  ∀ τ d cs, ∃ es, stepG P true (G fr (stk ++ cs)) (tp w τ d) = .go (G fr1 (stk1 ++ cs)) (tp w1 τ d) es
def drawnTo (P : Program) (fr : Frame) (ops : Array Oper) (k : List Item) (n : Nat) : Frame := { fr with todo := .inRegion ops (Region.schedule (P.follows .mixedOrders) ops n) :: k }
inductive Tr (P : Program) (R : Frame → World → Prop) : Frame → List Frame → World → Prop
  | done {fr : Frame} {w : World} (hm : fr.mode = .returning) (h : R fr w) : Tr P R fr [] w
  | step {fr : Frame} {stk : List Frame} {w : World} {fr1 : Frame} {stk1 : List Frame} {w1 : World} (h : GoTo P fr stk w fr1 stk1 w1) (hp : ∀ ch, fr1.mode ≠ .panicking ch) (t : Tr P R fr1 stk1 w1) : Tr P R fr stk w
  | draw {fr : Frame} {stk : List Frame} {w : World} {id : Nat} {ops : Array Oper} {k : List Item} (hm : fr.mode = .run) (ht : fr.todo = .code (.region id ops true) :: k) (t : ∀ n, Tr P R (drawnTo P fr ops k n) stk w) : Tr P R fr stk w
structure Cf where
  fr : Frame
  stk : List Frame
  w : World
  cnt : Nat
def AtDraw (s : Cf) : Prop := ∃ id ops k, s.fr.mode = .run ∧ s.fr.todo = .code (.region id ops true) :: k
def CfGo (P : Program) (s : Cf) (x : Frame × List Frame × World) : Prop := GoTo P s.fr s.stk s.w x.1 x.2.1 x.2.2 ∧ ∀ ch, x.1.mode ≠ .panicking ch
section
variable (P : Program) (bad : Cf → Nat)
open Classical in
noncomputable def nx (s : Cf) : Cf :=
  if h : ∃ p : Nat × Array Oper × List Item, s.fr.mode = .run ∧ s.fr.todo = .code (.region p.1 p.2.1 true) :: p.2.2 then
    ⟨drawnTo P s.fr (Classical.choose h).2.1 (Classical.choose h).2.2 (bad s), s.stk, s.w, s.cnt + 1⟩
  else if h : ∃ x, CfGo P s x then ⟨(Classical.choose h).1, (Classical.choose h).2.1, (Classical.choose h).2.2, s.cnt⟩ else s
noncomputable def sq (s0 : Cf) : Nat → Cf
  | 0 => s0
  | n + 1 => nx P bad (sq s0 n)
theorem nx_draw {s : Cf} {id : Nat} {ops : Array Oper} {k : List Item} (h1 : s.fr.mode = .run) (h2 : s.fr.todo = .code (.region id ops true) :: k) : nx P bad s = ⟨drawnTo P s.fr ops k (bad s), s.stk, s.w, s.cnt + 1⟩ := by
  have h : ∃ p : Nat × Array Oper × List Item, s.fr.mode = .run ∧ s.fr.todo = .code (.region p.1 p.2.1 true) :: p.2.2 := ⟨(id, ops, k), h1, h2⟩
  unfold nx
  rw [dif_pos h]
  have hs := h2.symm.trans (Classical.choose_spec h).2
  simp only [List.cons.injEq, Item.code.injEq, Code.region.injEq, and_true] at hs
  rw [← hs.1.2, ← hs.2]
theorem nx_go {s : Cf} (h0 : ¬ AtDraw s) {x : Frame × List Frame × World} (hx : CfGo P s x) : ∃ y, CfGo P s y ∧ nx P bad s = ⟨y.1, y.2.1, y.2.2, s.cnt⟩ := by
  have h : ¬ ∃ p : Nat × Array Oper × List Item, s.fr.mode = .run ∧ s.fr.todo = .code (.region p.1 p.2.1 true) :: p.2.2 := fun ⟨p, q1, q2⟩ => h0 ⟨_, _, _, q1, q2⟩
  have h2 : ∃ x, CfGo P s x := ⟨x, hx⟩
  unfold nx
  rw [dif_neg h, dif_pos h2]
  exact ⟨_, Classical.choose_spec h2, rfl⟩
theorem nx_cnt (s : Cf) : s.cnt ≤ (nx P bad s).cnt := by
  unfold nx
  split
  · exact Nat.le_succ _
  · split
    · exact Nat.le_refl _
    · exact Nat.le_refl _
theorem sq_cnt (s0 : Cf) {m n : Nat} (h : m ≤ n) : (sq P bad s0 m).cnt ≤ (sq P bad s0 n).cnt := by
  induction h with
  | refl => exact Nat.le_refl _
  | step _ ih => exact Nat.le_trans ih (nx_cnt P bad _)
theorem sq_uniq (s0 : Cf) {m n : Nat} (hm : AtDraw (sq P bad s0 m)) (hn : AtDraw (sq P bad s0 n)) (h : (sq P bad s0 m).cnt = (sq P bad s0 n).cnt) : m = n := by
  have key : ∀ a b, AtDraw (sq P bad s0 a) → a < b → (sq P bad s0 a).cnt < (sq P bad s0 b).cnt := fun a b ha hab => by
    obtain ⟨id, ops, k, h1, h2⟩ := ha
    have h3 := sq_cnt P bad s0 (show a + 1 ≤ b by omega)
    have h4 : (sq P bad s0 (a + 1)).cnt = (sq P bad s0 a).cnt + 1 := by show (nx P bad _).cnt = _; rw [nx_draw P bad h1 h2]
    omega
  rcases Nat.lt_trichotomy m n with q | q | q
  · have := key m n hm q; omega
  · exact q
  · have := key n m hn q; omega
open Classical in
noncomputable def tpe (s0 : Cf) (i : Nat) (_ : Question) : Nat := if h : ∃ n, AtDraw (sq P bad s0 n) ∧ (sq P bad s0 n).cnt = i then bad (sq P bad s0 (Classical.choose h)) else 0
theorem tpe_at (s0 : Cf) {n : Nat} (h : AtDraw (sq P bad s0 n)) (q : Question) : tpe P bad s0 (sq P bad s0 n).cnt q = bad (sq P bad s0 n) := by
  have hx : ∃ m, AtDraw (sq P bad s0 m) ∧ (sq P bad s0 m).cnt = (sq P bad s0 n).cnt := ⟨n, h, rfl⟩
  unfold tpe
  rw [dif_pos hx]
  have hs := Classical.choose_spec hx
  rw [sq_uniq P bad s0 hs.1 h hs.2]
end
def lo (s : Cf) (cs : List Frame) (τ : Nat → Question → Nat) : Machine := lone s.fr (s.stk ++ cs) (tp s.w τ s.cnt)
theorem step_of_go {P : Program} {fr fr1 : Frame} {cs cs1 : List Frame} {w w1 : World} {es : Array Event} (h : stepG P true (G fr cs) w = .go (G fr1 cs1) w1 es) : step P (lone fr cs w) = .next (lone fr1 cs1 w1) := by
  refine step_lone_go ?_
  show (stepG P true (G fr cs) w).bare = _
  rw [h]
  rfl
def Fine (P : Program) (s : Cf) : Prop := AtDraw s ∨ ∃ x, CfGo P s x
theorem nx_step {P : Program} {T : Tbl} (bad : Cf → Nat) {s : Cf} {τ : Nat → Question → Nat} (cs : List Frame) (hτ : ∀ q, AtDraw s → τ s.cnt q = bad s) (hf : Fine P s) (hfm : ∃ B ρ fr' stk' w', St P T B ρ s.fr s.stk s.w fr' stk' w') :
    step P (lo s cs τ) = .next (lo (nx P bad s) cs τ) := by
  by_cases hd : AtDraw s
  · obtain ⟨id, ops, k, h1, h2⟩ := hd
    obtain ⟨B, ρ, fr', stk', w', hst⟩ := hfm
    rw [nx_draw P bad h1 h2]
    have hform := hst.top.form.1
    rw [h1, h2] at hform
    have hb := hτ (.order s.fr.fn id) ⟨id, ops, k, h1, h2⟩
    unfold lo
    refine step_of_go (es := #[]) ?_
    have hs := st_draw (P := P) (main := true) (fn := s.fr.fn) (ts := s.fr.tmps) (k := k) (cs := s.stk ++ cs) (w := tp s.w τ s.cnt) (id := id) (ops := ops)
    rw [← hform] at hs
    rw [hs]
    have e1 : (tp s.w τ s.cnt).tape (tp s.w τ s.cnt).drawn (.order s.fr.fn id) = bad s := hb
    rw [e1]
    have e2 : frm s.fr.fn s.fr.tmps (.inRegion ops (Region.schedule (P.follows .mixedOrders) ops (bad s)) :: k) .run = drawnTo P s.fr ops k (bad s) := by
      have : drawnTo P s.fr ops k (bad s) = drawnTo P (frm s.fr.fn s.fr.tmps (.code (.region id ops true) :: k) .run) ops k (bad s) := by rw [← hform]
      rw [this]
      rfl
    rw [e2]
    rfl
  · rcases hf with hf | ⟨x, hx⟩
    · exact absurd hf hd
    · obtain ⟨y, hy, e⟩ := nx_go P bad hd hx
      rw [e]
      obtain ⟨es, he⟩ := hy.1 τ s.cnt cs
      exact step_of_go he
theorem run_split {P : Program} {m m' : Machine} : ∀ {n : Nat}, runN P n m = .next m' → ∀ {j : Nat}, j ≤ n → ∃ m1, runN P j m = .next m1 ∧ runN P (n - j) m1 = .next m' := by
  intro n h j hj
  obtain ⟨d, rfl⟩ : ∃ d, n = j + d := ⟨n - j, by omega⟩
  rw [runN_add] at h
  cases hr : runN P j m with
  | next m1 => rw [hr] at h; exact ⟨m1, rfl, by rw [Nat.add_sub_cancel_left]; exact h⟩
  | ended o w => rw [hr] at h; cases h
def wallV : Frame := { (default : Frame) with fn := 0, todo := [.code (.refuse "")], mode := .run, kind := .normal, defers := [], roundOf := none }
def wallP (P : Program) : Frame := { (default : Frame) with fn := P.funcs.size, todo := [.call default false "fmt's door" #[]], mode := .run, kind := .normal, defers := [], roundOf := none }
theorem stuck_wallV {P : Program} {w : World} {m' : Machine} {n : Nat} (h : runN P (n + 1) (lone wallV [] w) = .next m') : False := by
  obtain ⟨o, hs⟩ : ∃ o, stepG P true (G wallV []) w = .ended o w := ⟨_, by simp [G, stepG, stepG.exec, wallV]; rfl⟩
  have : step P (lone wallV [] w) = .ended o w := by
    refine step_lone_ended ?_
    show (stepG P true (G wallV []) w).bare = _
    rw [hs]; rfl
  simp only [runN, this] at h
  cases h
theorem stuck_panic {P : Program} {m' : Machine} (hm' : ∃ fr w, m' = lone fr [wallP P] w ∧ fr.mode = .returning) : ∀ (n : Nat) (stk : List Frame) (fr : Frame) (w : World) (chain : List PanicEntry), fr.mode = .panicking chain → fr.defers = [] → (∀ f ∈ stk, f.defers = [] ∧ ∃ fn, P.funcs[f.fn]? = some fn) → (∃ fn, P.funcs[fr.fn]? = some fn) →
    runN P n (lone fr (stk ++ [wallP P]) w) = .next m' → False := by
  obtain ⟨frE, wE, rfl, hE⟩ := hm'
  intro n
  induction n with
  | zero =>
    intro stk fr w chain hm hd hs hf h
    simp only [runN, Stepped.next.injEq, lone, Machine.mk.injEq] at h
    have := h.2.1
    simp at this
    rw [this.1, hE] at hm
    cases hm
  | succ n ih =>
    intro stk fr w chain hm hd hs ⟨fn, hf⟩ h
    have hstep : ∀ (c : Frame) (cs : List Frame), stepG P true (G fr (c :: cs)) w = .go (G (c.raise chain) cs) w := fun c cs => by
      simp [G, stepG, unwind, hm, hd, Frame.catches, hf]
    cases stk with
    | cons c cs =>
      have e := step_of_go (hstep c (cs ++ [wallP P]))
      rw [List.cons_append] at h
      simp only [runN, e] at h
      obtain ⟨hc, hcf⟩ := hs c (by simp)
      have hcr : (∃ ch, (c.raise chain).mode = .panicking ch) ∧ (c.raise chain).defers = c.defers ∧ (c.raise chain).fn = c.fn := by
        unfold Frame.raise
        split <;> exact ⟨⟨_, rfl⟩, rfl, rfl⟩
      obtain ⟨⟨ch, h1⟩, h2, h3⟩ := hcr
      exact ih cs (c.raise chain) w ch h1 (by rw [h2, hc]) (fun f hf => hs f (by simp [hf])) (by rw [h3]; exact hcf) h
    | nil =>
      have e := step_of_go (hstep (wallP P) [])
      rw [List.nil_append] at h
      simp only [runN, e] at h
      have hw : ∃ o w2, step P (lone ((wallP P).raise chain) [] w) = .ended o w2 := by
        have hs2 : ∃ o, stepG P true (G ((wallP P).raise chain) []) w = .ended o w := by
          have hn : P.funcs[P.funcs.size]? = none := by simp
          simp [G, stepG, unwind, Frame.raise, wallP, Frame.catches]
        obtain ⟨o, ho⟩ := hs2
        refine ⟨o, w, step_lone_ended ?_⟩
        show (stepG P true (G _ []) w).bare = _
        rw [ho]; rfl
      obtain ⟨o, w2, hw⟩ := hw
      cases n with
      | zero =>
        simp only [runN, Stepped.next.injEq, lone, Machine.mk.injEq] at h
        have := h.2.1
        simp at this
      | succ n =>
        simp only [runN, hw] at h
        cases h
end Go.Proofs.YtckoipoejaafhaaDoor.Cc
