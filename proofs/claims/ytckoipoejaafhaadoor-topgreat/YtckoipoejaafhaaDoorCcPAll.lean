/-
  Texts that stood one behind the other, as one.
-/
import Derived.Test.YtckoipoejaafhaaDoorCcO
namespace Go.Proofs.YtckoipoejaafhaaDoor.Cc
open Go
def plC : Value → Bool
  | .bool _ | .int _ _ | .slice none _ _ => true
  | _ => false
def plV : Value → Bool
  | .agg cs | .tuple cs => cs.all plC
  | v => plC v
theorem plC_rel {v : Value} (h : plC v = true) (F : FuncId → Prop) (ρ : Ren) : VR F ρ v v := by
  match v, h with
  | .bool b, _ => exact .bool b
  | .int k n, _ => exact .int k n
  | .slice none l c, _ => exact .slc0 l c
theorem plV_rel {v : Value} (h : plV v = true) (F : FuncId → Prop) (ρ : Ren) : VR F ρ v v := by
  match v, h with
  | .agg cs, h => exact .agg rfl fun i h1 _ => plC_rel (by simp only [plV, Array.all_eq_true] at h; exact h i h1) F ρ
  | .tuple cs, h => exact .tuple rfl fun i h1 _ => plC_rel (by simp only [plV, Array.all_eq_true] at h; exact h i h1) F ρ
  | .bool b, _ => exact .bool b
  | .int k n, _ => exact .int k n
  | .slice none l c, _ => exact .slc0 l c
structure Tbl where
  fs : List FuncId
  gs : List Nat
  ps : FuncId → List Tmp
def opdN (T : Tbl) (ps : List Tmp) : Operand → Bool
  | .tmp t => !ps.contains t
  | .const v => plV v
  | .func f => T.fs.contains f
  | .global _ => false
def opdP (T : Tbl) : Operand → Bool
  | .tmp _ => true
  | .const v => plV v
  | .func f => T.fs.contains f
  | .global g => T.gs.contains g
def isIntB (P : Program) (t : TypeId) : Bool := match P.underlying t with | some (.int _) => true | _ => false
def isSlB (P : Program) (t : TypeId) : Bool := match P.underlying t with | some (.slice _) => true | _ => false
def zeroB (P : Program) (t : TypeId) : Bool := match P.underlying t with
  | some (.slice e) => (match P.info? e with | some i => (match i.zero with | some v => plV v | none => true) | none => true)
  | _ => true
def fieldB (P : Program) (s : TypeId) (f : Nat) : Bool := match P.underlying s with
  | some (.struct fs) => (match fs[f]? with | some fd => (match P.info? fd.type with | some i => i.size != 0 | none => true) | none => true)
  | _ => true
def dstP (ps : List Tmp) (o : Oper) : Bool := match o.dst with | some d => ps.contains d | none => true
def opB (P : Program) (T : Tbl) (ps : List Tmp) (o : Oper) : Bool :=
  match o.op with
  | .move x | .assign x => opdN T ps x || (opdP T x && dstP ps o)
  | .pick c a b => opdN T ps c && ((opdN T ps a && opdN T ps b) || (opdP T a && opdP T b && dstP ps o))
  | .box _ x => opdN T ps x && dstP ps o
  | .load _ a => opdP T a
  | .store _ a x => opdP T a && opdN T ps x
  | .binOp _ t x y _ => opdN T ps x && opdN T ps y && isIntB P t
  | .unOp _ _ x => opdN T ps x
  | .convert s d x => opdN T ps x && isIntB P s && isIntB P d
  | .makeSlice t l c => opdN T ps l && opdN T ps c && zeroB P t
  | .slice t x lo hi none => opdN T ps x && (match lo with | some y => opdN T ps y | none => true) && (match hi with | some y => opdN T ps y | none => true) && isSlB P t
  | .fieldAddr s x f => opdP T x && fieldB P s f && dstP ps o
  | .indexAddr _ x i => opdP T x && opdN T ps i && dstP ps o
  | .extract x _ => opdN T ps x
  | .call { callee := .builtin .len, args, argTypes } => args.all (opdN T ps) && (match argTypes[0]? with | some u => isSlB P u | none => true)
  | .call { callee := .value f, args, .. } => opdN T ps f && args.all (opdN T ps)
  | _ => false
theorem isIntB_of {P : Program} {t : TypeId} (h : isIntB P t = true) : ∃ k, P.underlying t = some (.int k) := by
  unfold isIntB at h
  split at h
  · rename_i k e; exact ⟨k, e⟩
  · cases h
theorem isSlB_of {P : Program} {t : TypeId} (h : isSlB P t = true) : ∃ k, P.underlying t = some (.slice k) := by
  unfold isSlB at h
  split at h
  · rename_i k e; exact ⟨k, e⟩
  · cases h
def evT (ts : Array Value) : Operand → Value
  | .tmp t => ts.getD t undef
  | .const v => v
  | .global g => .pointer (some ⟨g, 0, none⟩)
  | .func f => .func (.func f) #[] #[]
theorem eval_evT (fr : Frame) : fr.eval = evT fr.tmps := by
  funext x
  cases x <;> rfl
def TF (T : Tbl) (f : FuncId) : Prop := T.fs.contains f = true
structure Sl2 (T : Tbl) (ps : List Tmp) (ρ : Ren) (ts ts' : Array Value) : Prop where
  any : A2 (VP (TF T) ρ) ts ts'
  val : ∀ t, ps.contains t = false → VR (TF T) ρ (ts.getD t undef) (ts'.getD t undef)
theorem Sl2.mono {T : Tbl} {ps : List Tmp} {ρ σ : Ren} {ts ts' : Array Value} (h : Sl2 T ps ρ ts ts') (le : RLe ρ σ) : Sl2 T ps σ ts ts' :=
  ⟨h.any.mono fun _ _ q => q.mono le, fun t q => (h.val t q).mono le⟩
theorem Sl2.put {T : Tbl} {ps : List Tmp} {ρ : Ren} {ts ts' : Array Value} (h : Sl2 T ps ρ ts ts') (d : Tmp) {v v' : Value} (hv : VP (TF T) ρ v v') (hn : ps.contains d = false → VR (TF T) ρ v v') : Sl2 T ps ρ (ts.setIfInBounds d v) (ts'.setIfInBounds d v') := by
  refine ⟨h.any.set d hv, fun t ht => ?_⟩
  have h0 := h.val t ht
  rw [Array.getD_eq_getD_getElem?, Array.getD_eq_getD_getElem?] at h0 ⊢
  rw [Array.getElem?_setIfInBounds, Array.getElem?_setIfInBounds, h.any.size]
  by_cases e : d = t
  · subst e
    rw [if_pos rfl, if_pos rfl]
    split
    · exact hn ht
    · exact VR.undef
  · rw [if_neg e, if_neg e]
    exact h0
section
variable {P : Program} {T : Tbl} {ps : List Tmp} {ρ : Ren} {ts ts' : Array Value}
theorem opdN_rel (h : Sl2 T ps ρ ts ts') {x : Operand} (hx : opdN T ps x = true) : VR (TF T) ρ (evT ts x) (evT ts' x) := by
  cases x with
  | tmp t => exact h.val t (by simpa [opdN] using hx)
  | const v => exact plV_rel hx _ _
  | func f => exact .fn hx
  | global g => cases hx
theorem opdP_rel (h : Sl2 T ps ρ ts ts') (hg : ∀ g, T.gs.contains g = true → ρ g = some g) {x : Operand} (hx : opdP T x = true) : VP (TF T) ρ (evT ts x) (evT ts' x) := by
  cases x with
  | tmp t => exact h.any.getD t (.val VR.undef)
  | const v => exact .val (plV_rel hx _ _)
  | func f => exact .val (.fn hx)
  | global g => exact .ptr ⟨hg g hx, rfl, rfl⟩
theorem opds_rel (h : Sl2 T ps ρ ts ts') {xs : Array Operand} (hx : xs.all (opdN T ps) = true) : A2 (VR (TF T) ρ) (xs.map (evT ts)) (xs.map (evT ts')) :=
  A2.map xs fun x hm => opdN_rel h (by
    rw [Array.all_eq_true'] at hx
    exact hx x hm)
def ND (T : Tbl) (ps : List Tmp) (o : Oper) (σ : Ren) (n n' : Next) : Prop := NR (TF T) σ n n' ∧ (∀ d, o.dst = some d → ps.contains d = false → NV (TF T) σ n n')
theorem ND.of_nv {o : Oper} {σ : Ren} {n n' : Next} (h : NV (TF T) σ n n') : ND T ps o σ n n' := ⟨h.nr, fun _ _ _ => h⟩
theorem ND.of_nr {o : Oper} {σ : Ren} {n n' : Next} (h : NR (TF T) σ n n') (hd : dstP ps o = true) : ND T ps o σ n n' := ⟨h, fun d e q => by
  unfold dstP at hd
  rw [e] at hd
  dsimp only at hd
  rw [q] at hd
  cases hd⟩
def FnOk (P : Program) (T : Tbl) : Prop := ∀ f, T.fs.contains f = true → ∃ fn, P.funcs[f]? = some fn ∧ (fn.name == "runtime.NumGoroutine") = false ∧ fn.body.isNone = false
theorem sr_op (hF : FnOk P T) (o : Oper) (ho : opB P T ps o = true) (h : Sl2 T ps ρ ts ts') (hg : ∀ g, T.gs.contains g = true → ρ g = some g) :
    SR P (TF T) (ND T ps o) (execOp (evT ts) o) ρ (execOp (evT ts') o) := by
  have mN : ∀ {s s' : Sem Next}, SR P (TF T) (NV (TF T)) s ρ s' → SR P (TF T) (ND T ps o) s ρ s' := fun q => q.mono fun _ _ _ _ r => ND.of_nv r
  have mR : ∀ {s s' : Sem Next}, dstP ps o = true → SR P (TF T) (NR (TF T)) s ρ s' → SR P (TF T) (ND T ps o) s ρ s' := fun hd q => q.mono fun _ _ _ _ r => ND.of_nr r hd
  obtain ⟨dst, op, type, pos, after, guard⟩ := o
  unfold opB at ho
  unfold execOp
  dsimp only at ho ⊢
  split at ho
  · rename_i x
    rw [Bool.or_eq_true] at ho
    rcases ho with ho | ho
    · exact SR.pure (ND.of_nv (opdN_rel h ho))
    · rw [Bool.and_eq_true] at ho
      exact SR.pure (ND.of_nr (opdP_rel h hg ho.1) ho.2)
  · rename_i x
    rw [Bool.or_eq_true] at ho
    rcases ho with ho | ho
    · exact SR.pure (ND.of_nv (opdN_rel h ho))
    · rw [Bool.and_eq_true] at ho
      exact SR.pure (ND.of_nr (opdP_rel h hg ho.1) ho.2)
  · rename_i c a b
    rw [Bool.and_eq_true] at ho
    refine SR.then_ (sr_asBool (opdN_rel h ho.1)) ?_
    rintro σ _ q le rfl
    have h2 := h.mono le
    have hg2 : ∀ g, T.gs.contains g = true → σ g = some g := fun g e => le _ _ (hg g e)
    rcases Bool.or_eq_true _ _ |>.mp ho.2 with hh | hh
    · rw [Bool.and_eq_true] at hh
      cases q
      · exact SR.pure (ND.of_nv (opdN_rel h2 hh.2))
      · exact SR.pure (ND.of_nv (opdN_rel h2 hh.1))
    · rw [Bool.and_eq_true, Bool.and_eq_true] at hh
      cases q
      · exact SR.pure (ND.of_nr (opdP_rel h2 hg2 hh.1.2) hh.2)
      · exact SR.pure (ND.of_nr (opdP_rel h2 hg2 hh.1.1) hh.2)
  · rw [Bool.and_eq_true] at ho
    exact mR ho.2 (sr_valueP (sr_box _ (opdN_rel h ho.1)))
  · exact mN (sr_value (sr_loadAt _ (opdP_rel h hg ho)))
  · rw [Bool.and_eq_true] at ho
    exact mN (sr_unit (sr_storeAt _ (opdP_rel h hg ho.1) (opdN_rel h ho.2)))
  · rw [Bool.and_eq_true, Bool.and_eq_true] at ho
    exact mN (sr_value (sr_binWhole _ _ _ _ (opdN_rel h ho.1.1) (opdN_rel h ho.1.2) (isIntB_of ho.2)))
  · exact mN (sr_value (sr_unary _ (opdN_rel h ho)))
  · rw [Bool.and_eq_true, Bool.and_eq_true] at ho
    exact mN (sr_value (sr_convert _ _ (opdN_rel h ho.1.1) (isIntB_of ho.1.2) (isIntB_of ho.2)))
  · rename_i t l c
    rw [Bool.and_eq_true, Bool.and_eq_true] at ho
    refine mN (sr_value (sr_makeSlice _ (opdN_rel h ho.1.1) (opdN_rel h ho.1.2) ?_))
    intro e i v h1 h2 h3 σ
    have := ho.2
    unfold zeroB at this
    rw [h1] at this
    simp only [h2, h3] at this
    exact plV_rel this _ _
  · rename_i t x lo hi
    rw [Bool.and_eq_true, Bool.and_eq_true, Bool.and_eq_true] at ho
    refine mN (sr_value (sr_slice _ (opdN_rel h ho.1.1.1) ?_ ?_ (isSlB_of ho.2)))
    · cases lo with
      | none => exact .inl ⟨rfl, rfl⟩
      | some y => exact .inr ⟨_, _, rfl, rfl, opdN_rel h ho.1.1.2⟩
    · cases hi with
      | none => exact .inl ⟨rfl, rfl⟩
      | some y => exact .inr ⟨_, _, rfl, rfl, opdN_rel h ho.1.2⟩
  · rename_i s x f
    rw [Bool.and_eq_true, Bool.and_eq_true] at ho
    refine mR ho.2 (sr_valueP (sr_fieldAt _ _ (opdP_rel h hg ho.1.1) ?_))
    intro fs fd i h1 h2 h3 e
    have := ho.1.2
    unfold fieldB at this
    rw [h1] at this
    simp only [h2, h3, e] at this
    cases this
  · rw [Bool.and_eq_true, Bool.and_eq_true] at ho
    exact mR ho.2 (sr_valueP (sr_indexAt _ (opdP_rel h hg ho.1.1) (opdN_rel h ho.1.2)))
  · exact mN (sr_value (sr_extract _ (opdN_rel h ho)))
  · rename_i args ats
    rw [Bool.and_eq_true] at ho
    refine mN (sr_value (sr_len _ _ (opds_rel h ho.1) ?_))
    intro u hu
    have := ho.2
    rw [hu] at this
    exact isSlB_of this
  · rename_i f args ats
    rw [Bool.and_eq_true] at ho
    have hf := opdN_rel h ho.1
    have ha := opds_rel h ho.2
    refine mN ?_
    show SR P (TF T) (NV (TF T)) (Sem.bind (Deferred.ofValue (evT ts f) (args.map (evT ts))) fun d => invoke d.target d.args) ρ (Sem.bind (Deferred.ofValue (evT ts' f) (args.map (evT ts'))) fun d => invoke d.target d.args)
    generalize evT ts f = v at hf
    generalize evT ts' f = v' at hf
    cases hf with
    | fn hm =>
      obtain ⟨fn, e1, e2, e3⟩ := hF _ hm
      rename_i g
      show SR P (TF T) (NV (TF T)) (callFunc g ((#[] ++ args.map (evT ts)) ++ #[])) ρ (callFunc g ((#[] ++ args.map (evT ts')) ++ #[]))
      rw [Array.empty_append, Array.append_empty, Array.empty_append, Array.append_empty]
      unfold callFunc
      refine SR.then_ sr_program ?_
      rintro σ _ _ le ⟨rfl, rfl⟩
      rw [e1]
      dsimp only
      rw [e2, e3]
      exact SR.pure ⟨rfl, hm, ha.mono fun _ _ q => q.mono le⟩
    | _ => exact trivial
  · cases ho
end
def codeB (P : Program) (T : Tbl) (ps : List Tmp) : Code → Bool
  | .skip | .ret | .exit _ => true
  | .region _ ops _ => ops.all (opB P T ps)
  | .seq a b => codeB P T ps a && codeB P T ps b
  | .cond c a b => opdN T ps c && (codeB P T ps a && codeB P T ps b)
  | .block _ b => codeB P T ps b
  | .loop b => codeB P T ps b
  | .scope _ | .label _ | .goto _ | .rangeFunc _ _ _ _ | .refuse _ => false
def itemB (P : Program) (T : Tbl) (ps : List Tmp) : Item → Bool
  | .code c => codeB P T ps c
  | .inBlock _ => true
  | .inLoop b => codeB P T ps b
  | .inRegion ops _ => ops.all (opB P T ps)
  | _ => false
def FnAll (P : Program) (T : Tbl) : Prop := ∀ f, T.fs.contains f = true → ∃ fn c, P.funcs[f]? = some fn ∧ fn.body = some c ∧ codeB P T (T.ps f) c = true ∧ (fn.name == "runtime.NumGoroutine") = false ∧ ∀ r ∈ fn.results, ∃ t, r = .tmp t ∧ (T.ps f).contains t = false
def resB (ps : List Tmp) (rs : Array ResultVar) : Bool := rs.all fun | .tmp t => !ps.contains t | .cell _ _ => false
theorem resB_of {ps : List Tmp} {rs : Array ResultVar} (h : resB ps rs = true) : ∀ r ∈ rs, ∃ t, r = .tmp t ∧ ps.contains t = false := fun r hr => by
  unfold resB at h
  rw [Array.all_eq_true'] at h
  have := h r hr
  cases r with
  | tmp t => exact ⟨t, rfl, by simpa using this⟩
  | cell a t => cases this
theorem FnAll.ok {P : Program} {T : Tbl} (h : FnAll P T) : FnOk P T := fun f hf => by
  obtain ⟨fn, c, h1, h2, _, h4, _⟩ := h f hf
  exact ⟨fn, h1, h4, by rw [h2]; rfl⟩
structure Fr2 (P : Program) (T : Tbl) (ρ : Ren) (fr fr' : Frame) : Prop where
  fn : fr'.fn = fr.fn
  inT : T.fs.contains fr.fn = true
  todo : fr'.todo = fr.todo
  ok : fr.todo.all (itemB P T (T.ps fr.fn)) = true
  defers : fr.defers = []
  defers' : fr'.defers = []
  mode : fr'.mode = fr.mode
  kind : fr.kind = .normal
  kind' : fr'.kind = .normal
  round : fr.roundOf = none
  round' : fr'.roundOf = none
  slots : Sl2 T (T.ps fr.fn) ρ fr.tmps fr'.tmps
theorem Fr2.mono {P : Program} {T : Tbl} {ρ σ : Ren} {fr fr' : Frame} (h : Fr2 P T ρ fr fr') (le : RLe ρ σ) : Fr2 P T σ fr fr' := { h with slots := h.slots.mono le }
def St2 (P : Program) (T : Tbl) (ρ : Ren) : List Frame → List Frame → Prop
  | [], s' => s' = []
  | f :: s, s' => ∃ f' t', s' = f' :: t' ∧ f.mode = .run ∧ Fr2 P T ρ f f' ∧ St2 P T ρ s t'
theorem St2.mono {P : Program} {T : Tbl} {ρ σ : Ren} {s s' : List Frame} (h : St2 P T ρ s s') (le : RLe ρ σ) : St2 P T σ s s' := by
  induction s generalizing s' with
  | nil => exact h
  | cons f s ih =>
    obtain ⟨f', t', rfl, h1, h2, h3⟩ := h
    exact ⟨f', t', rfl, h1, h2.mono le, ih h3⟩
section
variable {P : Program} {T : Tbl} {ρ : Ren} {fr fr' : Frame}
theorem Fr2.finish (h : Fr2 P T ρ fr fr') {v v' : Value} (hv : VP (TF T) ρ v v') (hn : ∀ o d, fr.oper? = some o → o.dst = some d → (T.ps fr.fn).contains d = false → VR (TF T) ρ v v') : Fr2 P T ρ (fr.finish v) (fr'.finish v') := by
  obtain ⟨h1, h2, h3, h4, h5, h5', h6, h7, h7', h8, h8', h9⟩ := h
  obtain ⟨fn, tmps, todo, defers, mode, kind, roundOf⟩ := fr
  obtain ⟨fn', tmps', todo', defers', mode', kind', roundOf'⟩ := fr'
  dsimp only at *
  subst h1 h3 h5 h5' h6 h7 h7' h8 h8'
  cases todo' with
  | nil => exact ⟨rfl, h2, rfl, h4, rfl, rfl, rfl, rfl, rfl, rfl, rfl, h9⟩
  | cons it k =>
    cases it with
    | inRegion ops l =>
      cases l with
      | nil => exact ⟨rfl, h2, rfl, h4, rfl, rfl, rfl, rfl, rfl, rfl, rfl, h9⟩
      | cons i rest =>
        simp only [Frame.finish]
        cases ho : ops[i]? with
        | none =>
          exact ⟨rfl, h2, rfl, h4, rfl, rfl, rfl, rfl, rfl, rfl, rfl, h9⟩
        | some o =>
          cases hd : o.dst with
          | none =>
            refine ⟨rfl, h2, rfl, h4, rfl, rfl, rfl, rfl, rfl, rfl, rfl, ?_⟩
            simp only [Option.bind_some, hd]
            exact h9
          | some d =>
            refine ⟨rfl, h2, rfl, h4, rfl, rfl, rfl, rfl, rfl, rfl, rfl, ?_⟩
            simp only [Option.bind_some, hd]
            exact h9.put d hv fun q => hn o d (by simp only [Frame.oper?]; exact ho) hd q
    | inRangeFunc l => simp [itemB] at h4
    | endRangeFunc l => simp [itemB] at h4
    | beginRound => simp [itemB] at h4
    | call d w r s => simp [itemB] at h4
    | extern r a => simp [itemB] at h4
    | inScope b => simp [itemB] at h4
    | code c => exact ⟨rfl, h2, rfl, h4, rfl, rfl, rfl, rfl, rfl, rfl, rfl, h9⟩
    | inBlock c => exact ⟨rfl, h2, rfl, h4, rfl, rfl, rfl, rfl, rfl, rfl, rfl, h9⟩
    | inLoop c => exact ⟨rfl, h2, rfl, h4, rfl, rfl, rfl, rfl, rfl, rfl, rfl, h9⟩
theorem fr2_enter (hF : FnAll P T) {f : FuncId} (hf : T.fs.contains f = true) {args args' : Array Value} (ha : A2 (VR (TF T) ρ) args args') : Fr2 P T ρ (Frame.enter P f args .normal) (Frame.enter P f args' .normal) := by
  obtain ⟨fn, c, h1, h2, h3, h4, h5⟩ := hF f hf
  have hs := ha.append (A2.replicate (fn.ntmps - args.size) (VR.undef (F := TF T) (ρ := ρ)))
  refine ⟨rfl, hf, rfl, ?_, rfl, rfl, rfl, rfl, rfl, rfl, rfl, ?_⟩
  · simp [Frame.enter, h1, h2, itemB, h3]
  · simp only [Frame.enter, h1, Option.map_some, Option.getD_some]
    rw [ha.size]
    exact ⟨hs.mono fun _ _ q => .val q, fun t _ => hs.getD t VR.undef⟩
def vOf (us : Array Value) : ResultVar → Value
  | .tmp t => us.getD t undef
  | .cell _ _ => undef
theorem results_of {fn : Func} {ps : List Tmp} {ts ts' : Array Value} (h : Sl2 T ps ρ ts ts') (hr : ∀ r ∈ fn.results, ∃ t, r = .tmp t ∧ ps.contains t = false) :
    ∃ v v', VR (TF T) ρ v v' ∧ (∀ (Q : Program) (w : World) es, (results fn ts).runT Q w es = (.ok v w, es)) ∧ (∀ (Q : Program) (w : World) es, (results fn ts').runT Q w es = (.ok v' w, es)) := by
  have key : ∀ (us : Array Value) (g : ResultVar → Sem Value), (∀ t, g (.tmp t) = Pure.pure (us.getD t undef)) → ∀ (l : List ResultVar), (∀ r ∈ l, ∃ t, r = .tmp t ∧ ps.contains t = false) → l.mapM g = Pure.pure (l.map (vOf us)) := by
    intro us g hg l
    induction l with
    | nil => intro _; rfl
    | cons r l ih =>
      intro hl
      obtain ⟨t, rfl, ht⟩ := hl r (by simp)
      rw [List.mapM_cons, ih fun x hx => hl x (by simp [hx]), hg]
      rfl
  have hl : ∀ r ∈ fn.results.toList, ∃ t, r = .tmp t ∧ ps.contains t = false := fun r hm => hr r (Array.mem_toList_iff.1 hm)
  obtain ⟨vs, hvs⟩ : ∃ vs, vs = fn.results.toList.map (vOf ts) := ⟨_, rfl⟩
  obtain ⟨vs', hvs'⟩ : ∃ vs', vs' = fn.results.toList.map (vOf ts') := ⟨_, rfl⟩
  have e1 : vs'.length = vs.length := by rw [hvs, hvs', List.length_map, List.length_map]
  have e2 : ∀ (i : Nat) (h1 : i < vs.length) (h2 : i < vs'.length), VR (TF T) ρ vs[i] vs'[i] := by
    intro i h1 h2
    subst hvs hvs'
    simp only [List.getElem_map]
    have hi : i < fn.results.toList.length := by simpa using h1
    obtain ⟨t, e, ht⟩ := hl _ (List.getElem_mem hi)
    rw [e]
    exact h.val t ht
  have r1 : results fn ts = Pure.pure (if h : vs.toArray.size = 1 then vs.toArray[0] else .tuple vs.toArray) := by
    unfold results
    rw [Array.mapM_eq_mapM_toList, key ts _ (fun t => rfl) _ hl, ← hvs]
    rfl
  have r2 : results fn ts' = Pure.pure (if h : vs'.toArray.size = 1 then vs'.toArray[0] else .tuple vs'.toArray) := by
    unfold results
    rw [Array.mapM_eq_mapM_toList, key ts' _ (fun t => rfl) _ hl, ← hvs']
    rfl
  refine ⟨_, _, ?_, fun Q w es => by rw [r1]; rfl, fun Q w es => by rw [r2]; rfl⟩
  by_cases hs : vs.toArray.size = 1
  · have hs' : vs'.toArray.size = 1 := by simpa [e1] using hs
    rw [dif_pos hs, dif_pos hs']
    exact e2 0 (by simp at hs; omega) (by simp at hs'; omega)
  · have hs' : ¬ vs'.toArray.size = 1 := by simpa [e1] using hs
    rw [dif_neg hs, dif_neg hs']
    exact .tuple (by simp [e1]) fun i h1 h2 => by simpa using e2 i (by simpa using h1) (by simpa using h2)
theorem yielded_same {ps : List Tmp} {ts ts' : Array Value} (h : Sl2 T ps ρ ts ts') (ops : Array Oper) : yielded ops ts' = yielded ops ts := by
  funext j
  unfold yielded
  cases hd : (ops[j]?).bind (·.dst) with
  | none => rfl
  | some d =>
    simp only [Option.bind_some]
    cases e : ts[d]? with
    | none => rw [h.any.none e]
    | some a =>
      obtain ⟨a', e', r⟩ := h.any.at_ d a e
      rw [e']
      cases r with
      | ptr _ => rfl
      | val r =>
        cases r with
        | poi v hc hb =>
          cases a' with
          | bool b => exact absurd rfl (hb b)
          | _ => rfl
        | _ => rfl
end
end Go.Proofs.YtckoipoejaafhaaDoor.Cc
