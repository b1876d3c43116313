/-
  Texts that stood one behind the other, as one.
-/
import Derived.Test.YtckoipoejaafhaaDoorCdC
namespace Go.Proofs.YtckoipoejaafhaaDoor.Cc
open Go Go.Conc Go.RowKit
def bytesStr (P : Program) (s d : TypeId) : Bool := match P.underlying s, P.underlying d with
  | some (.slice e), some .string => (match P.underlying e with | some (.int .u8) => true | _ => false)
  | _, _ => false
theorem bytesStr_of {P : Program} {s d : TypeId} (h : bytesStr P s d = true) : ∃ e, P.underlying s = some (.slice e) ∧ P.underlying d = some .string ∧ P.underlying e = some (.int .u8) := by
  unfold bytesStr at h
  split at h
  · rename_i e h1 h2
    split at h
    · rename_i h3
      exact ⟨e, h1, h2, h3⟩
    · cases h
  · cases h
section
variable {P : Program} {Su : Nat → Prop}
theorem ct_forList {α β : Type} (f : α → β → Sem (ForInStep β)) (h : ∀ a b, Ct P Su (f a b)) : ∀ (l : List α) (b : β), Ct P Su (forIn l b f) := by
  intro l
  induction l with
  | nil => intro b; rw [List.forIn_nil]; exact Ct.pure _
  | cons a l ih =>
    intro b
    rw [List.forIn_cons]
    refine Ct.bind (h a b) (fun r => ?_)
    cases r with
    | done b => exact Ct.pure _
    | yield b => exact ih b
theorem ct_bytesToString (x : Value) : Ct P Su (Conv.bytesToString x) := by
  unfold Conv.bytesToString
  split
  · exact Ct.pure _
  · refine Ct.bind (ct_loadCells _ _) (fun cs => ?_)
    rw [← Array.forIn_toList]
    refine Ct.bind (ct_forList _ (fun a b => ?_) _ _) (fun _ => Ct.pure _)
    dsimp only
    split
    · exact Ct.pure _
    · exact Ct.stuck _
  · exact Ct.stuck _
theorem ct_convBytes (s d : TypeId) (h : bytesStr P s d = true) (x : Value) : Ct P Su (convert s d x) := by
  obtain ⟨e, h1, h2, h3⟩ := bytesStr_of h
  unfold convert
  refine Cl.then_ (cl_underlying s) fun a ha => ?_
  refine Cl.then_ (cl_underlying d) fun b hb => ?_
  rw [h1] at ha
  rw [h2] at hb
  cases ha
  cases hb
  have k : Ct P Su (do match ← underlying e with | .int .u8 => Conv.bytesToString x | .int .i32 => Conv.runesToString x | _ => Go.stuck "Convert: a slice of what to string?") := by
    refine Cl.then_ (cl_underlying e) fun c hc => ?_
    rw [h3] at hc
    cases hc
    exact ct_bytesToString x
  cases x with
  | int j n =>
    show Ct P Su (Conv.intToString n)
    unfold Conv.intToString
    repeat' (first | with_reducible (first | exact Ct.pure _ | exact Ct.stuck _) | split | dsimp only)
  | string q => exact Ct.pure _
  | _ => exact k
theorem ct_unsafeSliceData (ts : Array TypeId) (t : TypeId) (vs : Array Value) : Ct P Su (Builtin.unsafeSliceData_ ts t vs) := by
  obtain ⟨l⟩ := vs
  match l with
  | [] => exact Ct.stuck _
  | _ :: _ :: _ => exact Ct.stuck _
  | [v] =>
    cases v with
    | slice a n c =>
      cases a with
      | none => exact Ct.pure _
      | some a =>
        show Ct P Su (if c ≠ 0 then Pure.pure (Value.pointer (some a)) else do
          if (← viewAt a.block).isSome then Pure.pure (Value.pointer (some a)) else
            Pure.pure (Value.pointer (some ⟨← newObj (.view a (← elemOf t)), 0, none⟩)))
        repeat' (first | with_reducible (first | exact Ct.pure _ | exact Ct.stuck _ | exact ct_viewAt _ | exact ct_elemOf _ | exact ct_newObj _ | refine Ct.bind ?_ (fun _ => ?_)) | split | dsimp only)
    | _ => exact Ct.stuck _
theorem ct_makeInterface (t : TypeId) (x : Value) : Ct P Su (Instr.makeInterface t x) := by
  unfold Instr.makeInterface
  repeat' (first | with_reducible (first | exact Ct.pure _ | exact Ct.stuck _ | exact ct_underlying _ | refine Ct.bind ?_ (fun _ => ?_)) | split | dsimp only)
theorem ct_loadBytes (n : Nat) : ∀ (a : Addr) (acc : ByteArray), Ct P Su (loadBytes a acc n) := by
  induction n with
  | zero => intro a acc; exact Ct.pure _
  | succ n ih =>
    intro a acc
    unfold loadBytes
    refine Ct.bind (ct_load _) (fun v => ?_)
    split
    · exact ih _ _
    · exact Ct.stuck _
def bytePtr (P : Program) (t : TypeId) : Bool := match P.underlying t with
  | some (.pointer e) => (match P.underlying e with | some (.int .u8) => true | _ => false)
  | _ => false
theorem cl_elemPtr {t e : TypeId} (h : P.underlying t = some (.pointer e)) : Cl P Su (fun u => u = e) (elemOf t) := by
  unfold elemOf
  refine Cl.then_ (cl_underlying t) fun d hd => ?_
  rw [h] at hd
  cases hd
  exact rfl
theorem row_none (p : Program) (fits : TypeId → Bool) (d : Nat) (e : TypeId) (off n : Nat) : rowAt p fits d e 0 off (n + 1) = false := by
  cases d with
  | zero => rfl
  | succ d =>
    unfold rowAt
    dsimp only
    split
    · rfl
    · simp
theorem lies_none (p : Program) (u : TypeId) (hu : p.underlying u = some (.int .u8)) (d : Nat) (e : TypeId) (off n : Nat) : liesAt p d e 0 off u (n + 1) = false := by
  cases d with
  | zero => rfl
  | succ d =>
    unfold liesAt
    rw [row_none, hu]
    rfl
theorem cl_panicF {α : Type} (e : RuntimeError) : Cl P Su (fun _ => False) (runtimePanic e : Sem α) := by
  unfold runtimePanic
  refine Cl.then_ (A := fun _ => True) trivial fun _ _ => ?_
  cases e <;> first | exact trivial | exact Cl.then_ (ct_elemOf _) fun _ _ => Cl.then_ (ct_newVar _ _) fun _ _ => trivial
def Nv (P : Program) {α : Type} (A : α → Prop) : Sem α → Prop
  | .pure a => A a
  | .halt h => plainH h
  | .program k => Nv P A (k P)
  | .new _ k => ∀ r, Nv P A (k r)
  | .sys _ k => ∀ r, Nv P A (k r)
  | .choose _ k => ∀ n, Nv P A (k n)
  | .mark _ k => Nv P A k
  | .load _ _ _ | .store _ _ _ _ | .shape _ _ | .freeze _ _ _ | .frozen _ _ | .getObj _ _ | .setObj _ _ _ => False
theorem Nv.bind {α β : Type} {A : α → Prop} {B : β → Prop} {f : α → Sem β} (s : Sem α) (h : Nv P A s) (k : ∀ a, A a → Nv P B (f a)) : Nv P B (s.bind f) := by
  induction s with
  | pure a => exact k a h
  | halt _ => exact h
  | program c ih => exact ih P h
  | new o c ih => exact fun r => ih r (h r)
  | sys c k' ih => exact fun r => ih r (h r)
  | choose q c ih => exact fun n => ih n (h n)
  | mark m c ih => exact ih h
  | _ => exact h.elim
theorem Nv.then_ {α β : Type} {A : α → Prop} {B : β → Prop} {f : α → Sem β} {s : Sem α} (h : Nv P A s) (k : ∀ a, A a → Nv P B (f a)) : Nv P B (s >>= f) := Nv.bind s h k
theorem Nv.ends {α : Type} {s : Sem α} : Nv P (fun _ => False) s → ∀ (w : World) (es : Array Event), ∃ h w2 m, s.runT P w es = (.halt h w2, m) ∧ plainH h := by
  induction s with
  | pure a => intro h; exact h.elim
  | halt x => intro h w es; exact ⟨x, w, es, rfl, h⟩
  | program c ih => intro h w es; exact ih P h w es
  | new o c ih => intro h w es; simp only [Sem.runT]; exact ih _ (h _) _ _
  | sys c k ih => intro h w es; simp only [Sem.runT]; exact ih _ (h _) _ _
  | choose q c ih =>
    intro h w es
    simp only [Sem.runT]
    split
    · exact ih _ (h _) _ _
    · exact ih _ (h _) _ _
  | mark m c ih => intro h w es; simp only [Sem.runT]; exact ih h _ _
  | _ => intro h; exact h.elim
theorem nv_underlying (t : TypeId) : Nv P (fun _ => True) (underlying t) := by
  show Nv P _ (match P.underlying t with | some d => Pure.pure d | none => Go.stuck "no such type")
  cases P.underlying t <;> exact trivial
theorem nv_elemOf (t : TypeId) : Nv P (fun _ => True) (elemOf t) := by
  unfold elemOf
  refine Nv.then_ (nv_underlying t) fun d _ => ?_
  split <;> exact trivial
theorem nv_newVar (t : TypeId) (v : Value) : Nv P (fun _ => True) (newVar t v) := by
  unfold newVar
  repeat' (first | exact nv_typeInfo _ | exact nv_elemOf _ | exact nv_underlying _ | exact trivial | exact fun _ => trivial | (refine Nv.then_ ?_ (fun _ _ => ?_)) | split | dsimp only)
theorem nv_panicR {α : Type} (e : RuntimeError) : Nv P (fun _ => False) (runtimePanic e : Sem α) := by
  unfold runtimePanic
  refine Nv.then_ (A := fun _ => True) trivial fun _ _ => ?_
  cases e <;> first | exact trivial | exact Nv.then_ (nv_elemOf _) fun _ _ => Nv.then_ (nv_newVar _ _) fun _ _ => trivial
theorem nv_panic (x : Value) : Nv P (fun _ => False) (Instr.panic x) := by
  unfold Instr.panic
  split
  · exact trivial
  · refine Nv.then_ (A := fun _ => True) ?_ fun k _ => ?_
    · unfold Instr.panicnil
      refine Nv.then_ (A := fun _ => True) (fun r => trivial) fun r _ => ?_
      split
      · exact trivial
      · exact trivial
    · split
      · exact trivial
      · exact nv_panicR _
  · exact trivial
theorem panic_ends (x : Value) (w : World) : ∃ h w2 m, ((do Pure.pure (Next.value (← Instr.panic x))) : Sem Next).runT P w #[] = (.halt h w2, m) ∧ plainH h :=
  Nv.ends (Nv.then_ (nv_panic x) fun _ h => h.elim) w #[]
theorem ct_unsafeString (ts : Array TypeId) (t : TypeId) (vs : Array Value) (pt : TypeId) (hpt : ts[0]? = some pt) (h : bytePtr P pt = true) : Ct P Su (Builtin.unsafeString_ ts t vs) := by
  obtain ⟨e, h1, h2⟩ : ∃ e, P.underlying pt = some (.pointer e) ∧ P.underlying e = some (.int .u8) := by
    unfold bytePtr at h
    split at h
    · rename_i e h1
      split at h
      · rename_i h2
        exact ⟨e, h1, h2⟩
      · cases h
    · cases h
  have hmain : ∀ (e0 : RuntimeError) (u0 : Unsupported) (_ : plainH (.unsupported u0)) (n : Int) (p : Option Addr), ¬ n < 0 → Ct P Su (match p with
      | none => if n = 0 then Pure.pure (Value.string .empty) else runtimePanic e0
      | some a => if n = 0 then Pure.pure (Value.string .empty) else do
        let u ← elemOf pt
        if ← variablesAt a u n.toNat then do
          let s ← loadBytes a .empty n.toNat
          freeze a n.toNat
          Pure.pure (Value.string s)
        else unsupported u0) := fun e0 u0 hu0 n p hn0 => by
    cases p with
    | none =>
      dsimp only
      split
      · exact Ct.pure _
      · exact ct_panic _
    | some a =>
      dsimp only
      split
      · exact Ct.pure _
      · refine Cl.then_ (cl_elemPtr h1) ?_
        rintro u rfl
        have tail : ∀ b : Bool, Ct P Su (if b = true then (do
            let s ← loadBytes a .empty n.toNat
            freeze a n.toNat
            Pure.pure (Value.string s)) else unsupported u0 : Sem Value) := fun b => by
          split
          · exact Ct.bind (ct_loadBytes _ _ _) fun _ => Ct.bind (ct_freeze _ _) fun _ => Ct.pure _
          · exact ct_unsup _ hu0
        rename_i hz
        obtain ⟨m, hm⟩ : ∃ m, n.toNat = m + 1 := ⟨n.toNat - 1, by omega⟩
        show Ct P Su (Sem.shape a.block fun s => (match s with | some (e, cells) => Pure.pure (liesAt P P.depth e (cells / P.cellsOf e) a.off u n.toNat) | none => Pure.pure false : Sem Bool) >>= fun b => if b = true then (do
            let s ← loadBytes a .empty n.toNat
            freeze a n.toNat
            Pure.pure (Value.string s)) else unsupported u0)
        refine ⟨.inr fun e => .inl ?_, fun s => ?_⟩
        · show Dead P (if liesAt P P.depth e (0 / P.cellsOf e) a.off u n.toNat = true then _ else _)
          rw [Nat.zero_div, hm, lies_none P u h2, if_neg (by simp)]
          exact hu0
        · cases s with
          | none => exact tail false
          | some s => exact tail (liesAt P P.depth s.1 (s.2 / P.cellsOf s.1) a.off u n.toNat)
  obtain ⟨l⟩ := vs
  match l with
  | [] => exact Ct.stuck _
  | [v] => exact Ct.stuck _
  | _ :: _ :: _ :: _ => cases ‹Value› <;> exact Ct.stuck _
  | [v, len] =>
    cases v with
    | pointer p =>
      unfold Builtin.unsafeString_
      show Ct P Su (asInt len >>= _)
      refine Ct.bind (ct_asInt _) fun n => ?_
      rw [hpt]
      dsimp only
      by_cases hn : n < 0
      · rw [if_pos hn]
        exact Cl.then_ (cl_panicF _) fun _ h => h.elim
      · rw [if_neg hn]
        by_cases hM : n > IntKind.i64.max
        · rw [if_pos hM]
          exact trivial
        · rw [if_neg hM]
          exact hmain _ _ (by exact trivial) n p hn
    | _ => exact Ct.stuck _
end
end Go.Proofs.YtckoipoejaafhaaDoor.Cc

namespace Go.Proofs.YtckoipoejaafhaaDoor.Cc
open Go Go.Conc
section
variable {P : Program} {Su : Nat → Prop} {α β : Type}
theorem ct_followBlind (l : List FieldStep) : ∀ (t : TypeId) (x : Option Value), Ct P Su (followBlind l t x) := by
  induction l with
  | nil => intro t x; exact Ct.pure _
  | cons s l ih =>
    intro t x
    unfold followBlind
    repeat' (first | with_reducible (first | exact Ct.pure _ | exact Ct.stuck _ | exact ct_underlying _ | exact ct_part _ _ _ | exact ih _ _ | refine Ct.bind ?_ (fun _ => ?_)) | split | dsimp only)
theorem ct_nilAhead (n : Nat) : ∀ (t : TypeId) (v : Value) (m : String), Ct P Su (nilAhead n t v m) := by
  induction n with
  | zero => intro t v m; exact Ct.pure _
  | succ n ih =>
    intro t v m
    unfold nilAhead
    repeat' (first | with_reducible (first | exact Ct.pure _ | exact Ct.stuck _ | exact ct_typeInfo _ | exact ct_underlying _ | exact ih _ _ _ | exact ct_followBlind _ _ _ | refine Ct.bind ?_ (fun _ => ?_)) | split | dsimp only)
theorem ct_checkKey (b : Bool) (t : TypeId) (h : eqT P t = true) (v : Value) : Ct P Su (Instr.checkKey b 10000 t v) := by
  show Ct P Su (Instr.checkKey b (9999 + 1) t v)
  unfold Instr.checkKey
  refine Cl.then_ (cl_underlying t) fun d hd => ?_
  unfold eqT at h
  rw [hd] at h
  cases d <;> dsimp only at h <;> first | (exact absurd h (by decide)) | skip
  all_goals repeat' (first | with_reducible (first | exact Ct.pure _) | contradiction | split | dsimp only)
theorem ct_findAsking (t : TypeId) (h : eqT P t = true) (k : Value) (es : List MapEntry) : ∀ i, Ct P Su (Instr.findAsking t k es i) := by
  induction es with
  | nil => intro i; exact Ct.pure _
  | cons e es ih =>
    intro i
    unfold Instr.findAsking
    refine Ct.bind (ct_equal _ h _ _) fun b => ?_
    split
    · exact Ct.pure _
    · exact ih _
theorem ct_findKey (t : TypeId) (h : eqT P t = true) (k : Value) (es : List MapEntry) : Ct P Su (Instr.findKey t k es) := by
  unfold Instr.findKey
  refine Ct.bind (ct_underlying _) fun d => ?_
  split
  · exact Ct.pure _
  · exact ct_findAsking _ h _ _ _
def mapT (P : Program) (t : TypeId) : Bool := match P.underlying t with
  | some (.map k _) => eqT P k
  | _ => false
theorem mapT_of {t k e : TypeId} (h : mapT P t = true) (hd : P.underlying t = some (.map k e)) : eqT P k = true := by
  unfold mapT at h
  rw [hd] at h
  exact h
theorem ct_keyStays (a b : Value) : Ct P Su (Instr.keyThatStays a b) := by
  unfold Instr.keyThatStays
  repeat' (first | with_reducible (first | exact Ct.pure _ | exact ct_choose _ | refine Ct.bind ?_ (fun _ => ?_)) | split | dsimp only)
theorem ct_lookup (t : TypeId) (h : mapT P t = true) (x i : Value) (ok : Bool) : Ct P Su (Instr.lookup t x i ok) := by
  unfold Instr.lookup
  refine Cl.then_ (cl_underlying t) fun d hd => ?_
  split
  · have hk := mapT_of h hd
    repeat' (first | with_reducible (first | exact Ct.pure _ | exact Ct.stuck _ | exact ct_getObj _ | exact ct_zero _ | exact ct_checkKey _ _ hk _ | exact ct_findKey _ hk _ _ | refine Ct.bind ?_ (fun _ => ?_)) | split | dsimp only)
  · exact Ct.stuck _
theorem ct_mapUpdate (t : TypeId) (h : mapT P t = true) (m k v : Value) : Ct P Su (Instr.mapUpdate t m k v) := by
  unfold Instr.mapUpdate
  refine Cl.then_ (cl_underlying t) fun d hd => ?_
  split
  · have hk := mapT_of h hd
    repeat' (first | with_reducible (first | exact Ct.stuck _ | exact ct_getObj _ | exact ct_setObj _ _ | exact ct_panic _ | exact ct_checkKey _ _ hk _ | exact ct_findKey _ hk _ _ | exact ct_keyStays _ _ | refine Ct.bind ?_ (fun _ => ?_)) | split | dsimp only)
  · exact Ct.stuck _
theorem ct_mapEntry (t : TypeId) (h : mapT P t = true) (m k : Value) : Ct P Su (Instr.mapEntry t m k) := by
  unfold Instr.mapEntry
  refine Cl.then_ (cl_underlying t) fun d hd => ?_
  split
  · have hk := mapT_of h hd
    repeat' (first | with_reducible (first | exact Ct.pure _ | exact Ct.stuck _ | exact ct_getObj _ | exact ct_setObj _ _ | exact ct_zero _ | exact ct_panic _ | exact ct_checkKey _ _ hk _ | exact ct_findKey _ hk _ _ | exact ct_keyStays _ _ | refine Ct.bind ?_ (fun _ => ?_)) | split | dsimp only)
  · exact Ct.stuck _
theorem ct_entryStore (t : TypeId) (m s v : Value) : Ct P Su (Instr.entryStore t m s v) := by
  unfold Instr.entryStore
  repeat' (first | with_reducible (first | exact Ct.stuck _ | exact ct_getObj _ | exact ct_setObj _ _ | exact ct_asInt _ | refine Ct.bind ?_ (fun _ => ?_)) | ((with_reducible refine ct_unsup _ ?_); exact trivial) | split | dsimp only)
theorem ct_convInt (s d : TypeId) (hd : isIntB P d = true) (x : Value) (hs : isIntB P s = true) : Ct P Su (convert s d x) := by
  obtain ⟨k, e1⟩ := isIntB_of hd
  obtain ⟨j, e2⟩ := isIntB_of hs
  unfold convert
  refine Cl.then_ (cl_underlying s) fun a ha => ?_
  refine Cl.then_ (cl_underlying d) fun b hb => ?_
  rw [e2] at ha
  rw [e1] at hb
  cases ha
  cases hb
  cases x with
  | float f b =>
    show Ct P Su (Conv.floatToInt f b k)
    unfold Conv.floatToInt
    repeat' (first | with_reducible (first | exact Ct.pure _ | exact ct_choose _ | refine Ct.bind ?_ (fun _ => ?_)) | split | dsimp only)
  | pointer a => cases a <;> exact trivial
  | _ => exact trivial
end
structure Fs where
  l : List FuncId
  sl : List (Nat × Nat)
def Fs.contains (fs : Fs) (f : FuncId) : Bool := fs.l.contains f
def Fs.has (fs : Fs) (f : FuncId) (t : Nat) : Bool := fs.sl.contains (f, t)
def FV (fs : Fs) (v : Value) : Prop := v = undef ∨ ∃ g, v = .func (.func g) #[] #[] ∧ fs.contains g = true
def NxK (fs : Fs) : Next → Prop
  | .value _ | .skip => True
  | .enter f args => fs.contains f = true ∧ args.size ≤ 7
  | _ => False
def opL (P : Program) (fs : Fs) (fn : FuncId) (o : Oper) : Bool :=
  match o.op with
  | .move _ | .assign _ | .pick _ _ _ | .alloc _ | .box _ _ | .build _ _ | .buildSlice _ _ _ | .load _ _ | .store _ _ _ | .nilCheck _ | .unOp _ _ _ | .makeFunc _ _ _ | .makeMap _ _ | .makeSlice _ _ _ | .slice _ _ _ _ _ | .fieldAddr _ _ _ | .field _ _ _ | .indexAddr _ _ _ | .index _ _ _ | .extract _ _ | .entryStore _ _ _ _ | .makeInterface _ _ => true
  | .binOp _ t _ _ _ => eqT P t
  | .convert s d _ => (isIntB P s && isIntB P d) || bytesStr P s d
  | .lookup t _ _ _ | .mapUpdate t _ _ _ | .insert t _ _ _ | .mapEntry t _ _ => mapT P t
  | .call { callee := .builtin b, argTypes := ats, .. } => (match b with | .len | .cap | .append | .copy | .min | .max | .unsafeSliceData => true | .unsafeString => (match ats[0]? with | some pt => bytePtr P pt | none => false) | _ => false)
  | .call { callee := .value (.func f), args := as, .. } => fs.contains f && decide (as.size ≤ 7)
  | .call { callee := .value (.tmp t), args := as, .. } => fs.has fn t && decide (as.size ≤ 7)
  | _ => false
def opD (fs : Fs) (fn : FuncId) (o : Oper) : Bool :=
  match o.dst with
  | none => true
  | some d => !fs.has fn d || (match o.op with
    | .move (.func g) | .assign (.func g) => fs.contains g
    | .move (.tmp t) | .assign (.tmp t) => fs.has fn t
    | _ => false)
def isPanic (o : Oper) : Bool := match o.op with | .panic _ => true | _ => false
theorem isPanic_ends {P : Program} {o : Oper} (h : isPanic o = true) (ρ : Operand → Value) (w : World) : ∃ e w2 m, (execOp ρ o).runT P w #[] = (.halt e w2, m) ∧ plainH e := by
  obtain ⟨dst, op, type, pos, after, guard⟩ := o
  cases op <;> first | exact panic_ends _ w | exact absurd h (by simp [isPanic])
def opK (P : Program) (fs : Fs) (fn : FuncId) (o : Oper) : Bool := opD fs fn o && (opL P fs fn o || isPanic o)
section
variable {P : Program} {Su : Nat → Prop} {fs : Fs}
theorem nx_value {s : Sem Value} (h : Ct P Su s) : Cl P Su (NxK fs) (do Pure.pure (Next.value (← s))) := Cl.then_ h fun _ _ => trivial
theorem nx_unit {s : Sem Unit} (h : Ct P Su s) : Cl P Su (NxK fs) (do s; Pure.pure Next.skip) := Cl.then_ h fun _ _ => trivial
def FnsOk (P : Program) (fs : Fs) : Prop := ∀ f, fs.contains f = true → ∃ fn, P.funcs[f]? = some fn ∧ (fn.name == "runtime.NumGoroutine") = false ∧ fn.body.isNone = false
theorem cl_op {fi : FuncId} (hF : FnsOk P fs) (ρ : Operand → Value) (hρ : ∀ f, ρ (.func f) = .func (.func f) #[] #[]) (hv : ∀ t, fs.has fi t = true → FV fs (ρ (.tmp t))) (o : Oper) (ho : opL P fs fi o = true) : Cl P Su (NxK fs) (execOp ρ o) := by
  have call : ∀ (f : FuncId) (args : Array Operand), fs.contains f = true → args.size ≤ 7 → Cl P Su (NxK fs) (callFunc f ((#[] ++ args.map ρ) ++ #[])) := fun f args h1 h2 => by
    obtain ⟨fn, e1, e2, e3⟩ := hF f h1
    unfold callFunc
    refine Cl.then_ (A := fun p => p = P) rfl ?_
    rintro p rfl
    rw [e1]
    dsimp only
    rw [e2, e3]
    exact ⟨h1, by simpa using h2⟩
  obtain ⟨dst, op, type, pos, after, guard⟩ := o
  unfold opL at ho
  unfold execOp
  dsimp only at ho ⊢
  split at ho
  case h_1 => exact trivial
  case h_2 => exact trivial
  case h_3 => exact Cl.then_ (ct_asBool _) fun _ _ => trivial
  case h_4 => exact nx_value (ct_alloc _ _ _)
  case h_5 => exact nx_value (ct_box _ _)
  case h_6 => exact nx_value (ct_build _ _)
  case h_7 => exact nx_value (ct_buildSlice _ _ _)
  case h_8 => exact nx_value (ct_loadAt _ _)
  case h_9 => exact nx_unit (ct_storeAt _ _ _)
  case h_10 =>
    rename_i x
    dsimp only
    generalize ρ x = v
    cases v with
    | pointer a => cases a <;> exact trivial
    | nilIface => exact trivial
    | nilFunc => exact trivial
    | func fn first captured =>
      cases fn with
      | method name =>
        dsimp only
        cases (first[0]? : Option Value) with
        | none => exact trivial
        | some u =>
          cases u with
          | nilIface => exact trivial
          | iface t w =>
            refine Cl.then_ (A := fun p => p = P) rfl ?_
            rintro p rfl
            refine Cl.then_ (ct_nilAhead _ _ _ _) fun r _ => ?_
            split
            · exact trivial
            · exact trivial
          | _ => exact trivial
      | _ => exact trivial
    | _ => exact trivial
  case h_11 => exact nx_value (ct_unary _ _)
  case h_12 => exact trivial
  case h_13 => exact nx_value (ct_makeMap _ _)
  case h_14 => exact nx_value (ct_makeSlice _ _ _)
  case h_15 => exact nx_value (ct_sliceAt _ _ _ _ _)
  case h_16 => exact nx_value (ct_fieldAt _ _ _)
  case h_17 => exact nx_value (ct_field _ _ _)
  case h_18 => exact nx_value (ct_indexAt _ _ _)
  case h_19 => exact nx_value (ct_index _ _ _)
  case h_20 => exact nx_value (ct_extract _ _)
  case h_21 => exact nx_unit (ct_entryStore _ _ _ _)
  case h_22 => exact nx_value (ct_makeInterface _ _)
  case h_23 => exact nx_value (Ct.bind (ct_eqGuard _ _ ho _ _ _ _) fun _ => ct_binOp _ _ ho _ _)
  case h_24 =>
    rcases (Bool.or_eq_true _ _).mp ho with q | q
    · rw [Bool.and_eq_true] at q
      exact nx_value (ct_convInt _ _ q.2 _ q.1)
    · exact nx_value (ct_convBytes _ _ q _)
  case h_25 => exact nx_value (ct_lookup _ ho _ _ _)
  case h_26 => exact nx_unit (ct_mapUpdate _ ho _ _ _)
  case h_27 => exact nx_unit (ct_mapUpdate _ ho _ _ _)
  case h_28 => exact nx_value (ct_mapEntry _ ho _ _)
  case h_29 =>
    rename_i b args ats
    show Cl P Su (NxK fs) (builtin b ats type _ _)
    unfold builtin
    cases b <;> dsimp only at ho ⊢ <;> first | exact absurd ho (by decide) | exact nx_value (ct_append _ _ _) | exact nx_value (ct_cap _ _ _) | exact nx_value (ct_copy _ _ _) | exact nx_value (ct_len _ _ _) | exact nx_value (ct_max _ _ _) | exact nx_value (ct_min _ _ _) | exact nx_value (ct_unsafeSliceData _ _ _) | (split at ho <;> first | (rename_i h0; exact nx_value (ct_unsafeString _ _ _ _ h0 ho)) | cases ho)
  case h_30 =>
    rename_i f args ats
    rw [Bool.and_eq_true] at ho
    show Cl P Su (NxK fs) (Sem.bind (Deferred.ofValue (ρ (.func f)) (args.map ρ)) fun d => invoke d.target d.args)
    rw [hρ]
    exact call f args ho.1 (of_decide_eq_true ho.2)
  case h_31 =>
    rename_i t args ats
    rw [Bool.and_eq_true] at ho
    show Cl P Su (NxK fs) (Sem.bind (Deferred.ofValue (ρ (.tmp t)) (args.map ρ)) fun d => invoke d.target d.args)
    rcases hv t ho.1 with e | ⟨g, e, hg⟩
    · rw [e]
      exact trivial
    · rw [e]
      exact call g args hg (of_decide_eq_true ho.2)
  case h_32 => cases ho
end
def codeK (P : Program) (fs : Fs) (fn : FuncId) : Code → Bool
  | .skip | .ret | .exit _ => true
  | .region _ ops _ => ops.all (opK P fs fn)
  | .seq a b => codeK P fs fn a && codeK P fs fn b
  | .cond _ a b => codeK P fs fn a && codeK P fs fn b
  | .block _ b => codeK P fs fn b
  | .loop b => codeK P fs fn b
  | .scope _ | .label _ | .goto _ | .rangeFunc _ _ _ _ | .refuse _ => false
def itemK (P : Program) (fs : Fs) (fn : FuncId) : Item → Bool
  | .code c => codeK P fs fn c
  | .inBlock _ => true
  | .inLoop b => codeK P fs fn b
  | .inRegion ops _ => ops.all (opK P fs fn)
  | _ => false
def FnE (P : Program) (fs : Fs) (f : FuncId) : Prop := ∃ fn c, P.funcs[f]? = some fn ∧ fn.body = some c ∧ codeK P fs f c = true ∧ (fn.name == "runtime.NumGoroutine") = false
structure FnsAll (P : Program) (fs : Fs) : Prop where
  each : ∀ f, fs.contains f = true → FnE P fs f
  low : fs.sl.all (fun p => decide (7 ≤ p.2)) = true
theorem FnsAll.ok {P : Program} {fs : Fs} (h : FnsAll P fs) : FnsOk P fs := fun f hf => by
  obtain ⟨fn, c, h1, h2, _, h4⟩ := h.each f hf
  exact ⟨fn, h1, h4, by rw [h2]; rfl⟩
theorem FnsAll.slot {P : Program} {fs : Fs} (h : FnsAll P fs) {f : FuncId} {t : Nat} (ht : fs.has f t = true) : 7 ≤ t :=
  of_decide_eq_true (List.all_eq_true.1 h.low (f, t) (List.contains_iff_mem.1 ht))
structure FrK (P : Program) (fs : Fs) (fr : Frame) : Prop where
  fn : ∃ f, P.funcs[fr.fn]? = some f
  ok : fr.todo.all (itemK P fs fr.fn) = true
  form : fr = frm fr.fn fr.tmps fr.todo fr.mode
  fv : ∀ t, fs.has fr.fn t = true → FV fs (fr.tmps.getD t undef)
structure Wa (P : Program) (fs : Fs) (fr : Frame) : Prop where
  frk : FrK P fs fr
  run : fr.mode = .run
  at_ : ∃ ops i rest k, fr.todo = .inRegion ops (i :: rest) :: k
structure Wt (P : Program) (fs : Fs) (fr : Frame) : Prop extends Wa P fs fr where
  nd : ∀ ops i rest k, fr.todo = .inRegion ops (i :: rest) :: k → ∀ o d, ops[i]? = some o → o.dst = some d → fs.has fr.fn d = false
def _root_.Go.Frame.and (K : List Item) (fr : Frame) : Frame := { fr with todo := fr.todo ++ K }
def extK (K : List Item) : List Frame → List Frame
  | [] => []
  | [fr] => [fr.and K]
  | fr :: fr' :: l => fr :: extK K (fr' :: l)
def topK (K : List Item) (fr : Frame) : List Frame → Frame
  | [] => fr.and K
  | _ :: _ => fr
def rl (K : List Item) (base : List Frame) (fr : Frame) (stk : List Frame) : Goroutine := G (topK K fr stk) (extK K stk ++ base)
theorem extK_cons (K : List Item) (fr : Frame) (stk : List Frame) : extK K (fr :: stk) = topK K fr stk :: extK K stk := by
  cases stk <;> rfl
theorem frm_and (K : List Item) (fn : FuncId) (ts : Array Value) (td : List Item) (md : FrameMode) : (frm fn ts td md).and K = frm fn ts (td ++ K) md := rfl
theorem finish_and (K : List Item) (fn : FuncId) (ts : Array Value) (ops : Array Oper) (i : Nat) (rest : List Nat) (k : List Item) (v : Value) :
    ((frm fn ts (.inRegion ops (i :: rest) :: k) .run).finish v).and K = (frm fn ts (.inRegion ops (i :: rest) :: (k ++ K)) .run).finish v := by
  simp only [Frame.finish, frm]
  split <;> rfl
theorem finish_frm (fn : FuncId) (ts : Array Value) (ops : Array Oper) (i : Nat) (rest : List Nat) (k : List Item) (v : Value) :
    ∃ ts', (frm fn ts (.inRegion ops (i :: rest) :: k) .run).finish v = frm fn ts' (.inRegion ops rest :: k) .run := by
  simp only [Frame.finish, frm]
  split <;> exact ⟨_, rfl⟩
section
variable {P : Program} {fs : Fs}
theorem finish_tmps (fn : FuncId) (ts : Array Value) (ops : Array Oper) (i : Nat) (rest : List Nat) (k : List Item) (v : Value) (t : Nat) :
    ((frm fn ts (.inRegion ops (i :: rest) :: k) .run).finish v).tmps.getD t undef = ts.getD t undef ∨ ∃ o, ops[i]? = some o ∧ o.dst = some t ∧ (((frm fn ts (.inRegion ops (i :: rest) :: k) .run).finish v).tmps.getD t undef = v ∨ ((frm fn ts (.inRegion ops (i :: rest) :: k) .run).finish v).tmps.getD t undef = undef) := by
  cases ho : ops[i]? with
  | none =>
    left
    simp [Frame.finish, frm, ho]
  | some o =>
    cases hd : o.dst with
    | none =>
      left
      simp [Frame.finish, frm, ho, hd]
    | some d =>
      by_cases e : d = t
      · subst e
        right
        refine ⟨o, rfl, hd, ?_⟩
        simp only [Frame.finish, frm, ho, Option.bind_some, hd, Array.getD_eq_getD_getElem?, Array.getElem?_setIfInBounds, if_true]
        by_cases h : d < ts.size
        · left; simp [h]
        · right; simp [h]
      · left
        simp only [Frame.finish, frm, ho, Option.bind_some, hd, Array.getD_eq_getD_getElem?, Array.getElem?_setIfInBounds, if_neg e]
theorem FrK.finishV {fr : Frame} (h : Wa P fs fr) (v : Value) (hv : ∀ ops i rest k, fr.todo = .inRegion ops (i :: rest) :: k → ∀ o d, ops[i]? = some o → o.dst = some d → fs.has fr.fn d = true → FV fs v) : FrK P fs (fr.finish v) ∧ (fr.finish v).mode = .run := by
  obtain ⟨⟨h1, h2, h3, hf⟩, h4, ops, i, rest, k, h5⟩ := h
  have hv := hv ops i rest k h5
  obtain ⟨ts', e⟩ := finish_frm fr.fn fr.tmps ops i rest k v
  have ht := finish_tmps fr.fn fr.tmps ops i rest k v
  rw [h4, h5] at h3
  rw [h5] at h2
  rw [h3]
  have efn : ((frm fr.fn fr.tmps (.inRegion ops (i :: rest) :: k) .run).finish v).fn = fr.fn := by rw [e]; rfl
  refine ⟨⟨by rw [efn]; exact h1, ?_, ?_, ?_⟩, by rw [e]; rfl⟩
  · rw [e]
    simp only [frm, List.all_cons] at h2 ⊢
    exact h2
  · rw [e]; rfl
  · intro t hh
    rw [efn] at hh
    rcases ht t with q | ⟨o, q1, q2, q3⟩
    · rw [q]; exact hf t hh
    · rcases q3 with q | q
      · rw [q]; exact hv o t q1 q2 hh
      · rw [q]; exact .inl rfl
theorem FrK.finish {fr : Frame} (h : Wt P fs fr) (v : Value) : FrK P fs (fr.finish v) ∧ (fr.finish v).mode = .run :=
  FrK.finishV h.toWa v fun ops i rest k e o d ho hd hh => by rw [h.nd ops i rest k e o d ho hd] at hh; cases hh
theorem topK_finish {fr : Frame} (h : Wa P fs fr) (K : List Item) (v : Value) (stk : List Frame) : (topK K fr stk).finish v = topK K (fr.finish v) stk := by
  cases stk with
  | cons a l => rfl
  | nil =>
    obtain ⟨⟨h1, h2, h3, -⟩, h4, ops, i, rest, k, h5⟩ := h
    rw [h3, h4, h5]
    exact (finish_and K _ _ _ _ _ _ v).symm
theorem frk_enter (hF : FnsAll P fs) {f : FuncId} (hf : fs.contains f = true) (args : Array Value) (ha : args.size ≤ 7) : FrK P fs (Frame.enter P f args .normal) ∧ (Frame.enter P f args .normal).mode = .run := by
  obtain ⟨fn, c, h1, h2, h3, h4⟩ := hF.each f hf
  refine ⟨⟨⟨fn, h1⟩, ?_, rfl, fun t ht => ?_⟩, rfl⟩
  · simp [Frame.enter, h1, h2, itemK, h3]
  · have h7 : 7 ≤ t := hF.slot ht
    left
    simp only [Frame.enter, h1, Option.map_some, Option.getD_some, Array.getD_eq_getD_getElem?, Array.getElem?_append]
    rw [if_neg (by omega)]
    rw [Array.getElem?_replicate]
    split <;> rfl
theorem exitTo_K {fi : FuncId} {id : Nat} : ∀ {k k' : List Item}, k.all (itemK P fs fi) = true → exitTo id k = some k' → k'.all (itemK P fs fi) = true
  | [], k', _, h => by cases h
  | it :: k, k', hk, h => by
    rw [List.all_cons, Bool.and_eq_true] at hk
    cases it with
    | inBlock id' =>
      simp only [exitTo] at h
      split at h
      · cases h; exact hk.2
      · exact exitTo_K hk.2 h
    | _ => exact exitTo_K hk.2 (by simpa only [exitTo] using h)
theorem exitTo_app {id : Nat} (K : List Item) : ∀ {k k' : List Item}, exitTo id k = some k' → exitTo id (k ++ K) = some (k' ++ K)
  | [], k', h => by cases h
  | it :: k, k', h => by
    cases it with
    | inBlock id' =>
      simp only [exitTo, List.cons_append] at h ⊢
      split at h
      · rename_i e; rw [if_pos e]; cases h; rfl
      · rename_i e; rw [if_neg e]; exact exitTo_app K h
    | _ => simp only [exitTo, List.cons_append] at h ⊢; exact exitTo_app K h
theorem exitTo_none {id : Nat} {K : List Item} (hK : exitTo id K = none) : ∀ {k : List Item}, exitTo id k = none → exitTo id (k ++ K) = none
  | [], _ => hK
  | it :: k, h => by
    cases it with
    | inBlock id' =>
      simp only [exitTo, List.cons_append] at h ⊢
      split at h
      · cases h
      · rename_i e; rw [if_neg e]; exact exitTo_none hK h
    | _ => simp only [exitTo, List.cons_append] at h ⊢; exact exitTo_none hK h
theorem ct_results {Su : Nat → Prop} (fn : Func) (ts : Array Value) : Ct P Su (results fn ts) := by
  unfold results
  refine Ct.bind (ct_mapM _ (fun r => ?_) _) fun _ => Ct.pure _
  cases r with
  | tmp t => exact Ct.pure _
  | cell a t => exact Ct.bind (ct_asAddr _) fun _ => ct_loadVar _ _
end
end Go.Proofs.YtckoipoejaafhaaDoor.Cc
