/-
  Operations that do in two worlds the same, renamed: those that numbers, slices of them and slices of slices want: no text, no map, no channel, no interface, no address in memory.
-/
import Derived.Test.YtckoipoejaafhaaDoorCcR
namespace Go.Proofs.YtckoipoejaafhaaDoor.Cc
open Go
section
variable {P : Program} {F : FuncId → Prop} {ρ : Ren} {α β : Type} {A : Ren → α → α → Prop} {C : Ren → β → β → Prop}
theorem SR.then_ {s s' : Sem α} {f f' : α → Sem β} (h : SR P F A s ρ s') (k : ∀ σ a a', RLe ρ σ → A σ a a' → SR P F C (f a) σ (f' a')) : SR P F C (s >>= f) ρ (s' >>= f') := SR.bind s h k
theorem SR.pb {f f' : α → Sem β} {a a' : α} (h : SR P F C (f a) ρ (f' a')) : SR P F C (Pure.pure a >>= f) ρ (Pure.pure a' >>= f') := h
theorem SR.mono {s s' : Sem α} {D : Ren → α → α → Prop} (h : SR P F A s ρ s') (k : ∀ σ a a', RLe ρ σ → A σ a a' → D σ a a') : SR P F D s ρ s' := by
  have := SR.bind (C := D) (f := fun a => Pure.pure a) (f' := fun a => Pure.pure a) s h (fun σ a a' le ha => SR.pure (k σ a a' le ha))
  have e : ∀ t : Sem α, t.bind (fun a => Pure.pure a) = t := fun t => by
    induction t with
    | pure a => rfl
    | load m a k ih => show Sem.load m a _ = _; congr 1; funext v; exact ih v
    | store m a v k ih => show Sem.store m a v _ = _; congr 1
    | new o k ih => show Sem.new o _ = _; congr 1; funext v; exact ih v
    | shape r k ih => show Sem.shape r _ = _; congr 1; funext v; exact ih v
    | freeze a n k ih => show Sem.freeze a n _ = _; congr 1
    | frozen a k ih => show Sem.frozen a _ = _; congr 1; funext v; exact ih v
    | getObj r k ih => show Sem.getObj r _ = _; congr 1; funext v; exact ih v
    | setObj r o k ih => show Sem.setObj r o _ = _; congr 1
    | choose q k ih => show Sem.choose q _ = _; congr 1; funext v; exact ih v
    | sys c k ih => show Sem.sys c _ = _; congr 1; funext v; exact ih v
    | program k ih => show Sem.program _ = _; congr 1; funext v; exact ih v
    | mark m k ih => show Sem.mark m _ = _; congr 1
    | halt h => rfl
  rw [e, e] at this
  exact this
theorem sr_program : SR P F (fun _ a a' => a = P ∧ a' = P) Go.program ρ Go.program := .inr ⟨_, rfl, _, rfl, rfl, rfl⟩
theorem SR.unsupported (u : Unsupported) (s' : Sem α) (h : plainH (.unsupported u)) : SR P F A (Go.unsupported u) ρ s' := h
theorem never_panic (e : RuntimeError) (h : (∃ x y b c, e = .bounds x y b c) ∨ (∃ m, e = .error m) ∨ e = .nilDeref) : Never P (runtimePanic e : Sem α) := by
  rcases h with ⟨x, y, b, c, rfl⟩ | ⟨m, rfl⟩ | rfl <;> exact trivial
theorem sr_typeInfo (t : TypeId) : SR P F (fun _ a a' => a' = a ∧ P.info? t = some a) (typeInfo t) ρ (typeInfo t) := by
  unfold typeInfo
  refine SR.then_ sr_program ?_
  rintro σ a a' _ ⟨rfl, rfl⟩
  cases h : a'.info? t with
  | none => exact SR.stuck _ _
  | some i => exact SR.pure ⟨rfl, rfl⟩
theorem sr_underlying (t : TypeId) : SR P F (fun _ a a' => a' = a ∧ P.underlying t = some a) (underlying t) ρ (underlying t) := by
  unfold underlying
  refine SR.then_ sr_program ?_
  rintro σ a a' _ ⟨rfl, rfl⟩
  cases h : a'.underlying t with
  | none => exact SR.stuck _ _
  | some i => exact SR.pure ⟨rfl, rfl⟩
theorem sr_sizeOf (t : TypeId) : SR P F (fun _ a a' => a' = a ∧ ∃ i, P.info? t = some i ∧ a = i.size) (sizeOf t) ρ (sizeOf t) := by
  unfold sizeOf
  refine SR.then_ (sr_typeInfo t) ?_
  rintro σ a a' _ ⟨rfl, h⟩
  exact SR.pure ⟨rfl, a', h, rfl⟩
theorem sr_zero (t : TypeId) (hz : ∀ i v, P.info? t = some i → i.zero = some v → ∀ σ, VR F σ v v) : SR P F (fun σ a a' => VR F σ a a') (zeroValue t) ρ (zeroValue t) := by
  unfold zeroValue
  refine SR.then_ (sr_typeInfo t) ?_
  rintro σ a a' _ ⟨rfl, h⟩
  cases hv : a'.zero with
  | none => exact SR.unsupported _ _ trivial
  | some v => exact SR.pure (hz a' v h hv σ)
theorem sr_isAgg (t : TypeId) : SR P F (fun _ a a' => a' = a) (isAgg t) ρ (isAgg t) := by
  unfold isAgg
  refine SR.then_ (sr_underlying t) ?_
  rintro σ a a' _ ⟨rfl, h⟩
  split <;> exact SR.pure rfl
theorem sr_load {a a' : Addr} (h : AR ρ a a') : SR P F (fun σ v v' => VR F σ v v') (load a) ρ (load a') := ⟨rfl, a', _, rfl, h, fun _ v' hv => ⟨v', rfl, hv⟩⟩
theorem sr_store {a a' : Addr} {v v' : Value} (h : AR ρ a a') (hv : VR F ρ v v') : SR P F (fun _ _ _ => True) (store a v) ρ (store a' v') := ⟨rfl, a', v', _, rfl, h, hv, (), rfl, trivial⟩
theorem sr_loadCells {a a' : Addr} (h : AR ρ a a') (i n : Nat) {xs ys : Array Value} (hx : A2 (VR F ρ) xs ys) : SR P F (fun σ v v' => A2 (VR F σ) v v') (loadCellsFrom a i n xs) ρ (loadCellsFrom a' i n ys) := by
  induction n generalizing i xs ys ρ with
  | zero => exact SR.pure hx
  | succ n ih =>
    refine SR.then_ (sr_load (h.add i)) ?_
    intro σ v v' le hv
    exact ih (h.mono le) (i + 1) ((hx.mono fun _ _ q => q.mono le).push hv)
theorem sr_loadVar (t : TypeId) {a a' : Addr} (h : AR ρ a a') : SR P F (fun σ v v' => VR F σ v v') (loadVar t a) ρ (loadVar t a') := by
  unfold loadVar
  refine SR.then_ (sr_isAgg t) ?_
  rintro σ b b' le rfl
  cases b' with
  | true =>
    refine SR.then_ (sr_sizeOf t) ?_
    rintro τ n n' le2 ⟨rfl, _⟩
    refine SR.then_ (sr_loadCells ((h.mono le).mono le2) 0 n' (A2.nil _)) ?_
    intro υ x y _ hxy
    exact SR.pure (VR.agg' hxy)
  | false => exact sr_load (h.mono le)
theorem sr_storeCells {a a' : Addr} (h : AR ρ a a') (xs : List Value) : ∀ (ys : List Value) (i : Nat), ys.length = xs.length → (∀ (j : Nat) x, xs[j]? = some x → ∃ y, ys[j]? = some y ∧ VR F ρ x y) → SR P F (fun _ _ _ => True) (storeCells a xs i) ρ (storeCells a' ys i) := by
  induction xs generalizing ρ with
  | nil =>
    intro ys i hl _
    cases ys with
    | nil => exact SR.pure trivial
    | cons y ys => simp at hl
  | cons x xs ih =>
    intro ys i hl hr
    cases ys with
    | nil => simp at hl
    | cons y ys =>
      obtain ⟨y', hy, hxy⟩ := hr 0 x rfl
      cases hy
      refine SR.then_ (sr_store (h.add i) hxy) ?_
      intro σ _ _ le _
      refine ih (h.mono le) ys (i + 1) (by simpa using hl) (fun j z hz => ?_)
      obtain ⟨y', hy', q⟩ := hr (j + 1) z (by simpa using hz)
      exact ⟨y', by simpa using hy', q.mono le⟩
theorem sr_storeVar (t : TypeId) {a a' : Addr} {v v' : Value} (h : AR ρ a a') (hv : VR F ρ v v') : SR P F (fun _ _ _ => True) (storeVar t a v) ρ (storeVar t a' v') := by
  unfold storeVar
  have hc := hv.cells
  refine SR.then_ (sr_sizeOf t) ?_
  rintro σ n n' le ⟨rfl, _⟩
  rw [hc.size]
  dsimp only
  by_cases hn : v.cells.size ≠ n'
  · rw [if_pos hn, if_pos hn]; trivial
  · rw [if_neg hn, if_neg hn]
    obtain ⟨n, l1, l2, l3⟩ := hc.toList
    exact sr_storeCells (h.mono le) _ _ 0 (by rw [l1, l2]) fun j x hx => by
      obtain ⟨y, hy, q⟩ := l3 j x hx
      exact ⟨y, hy, q.mono le⟩
theorem sr_newRow (t : TypeId) {xs ys : Array Value} (h : A2 (VR F ρ) xs ys) : SR P F (fun σ a a' => AR σ a a') (newRow t xs) ρ (newRow t ys) :=
  ⟨xs, ys, t, _, rfl, rfl, h, fun _ _ _ _ hr => ⟨_, rfl, hr, rfl, rfl⟩⟩
def NR (F : FuncId → Prop) (σ : Ren) : Next → Next → Prop
  | .value v, .value v' => VP F σ v v'
  | .skip, .skip => True
  | .enter f args, .enter f' args' => f' = f ∧ F f ∧ A2 (VR F σ) args args'
  | _, _ => False
def NV (F : FuncId → Prop) (σ : Ren) : Next → Next → Prop
  | .value v, .value v' => VR F σ v v'
  | .skip, .skip => True
  | .enter f args, .enter f' args' => f' = f ∧ F f ∧ A2 (VR F σ) args args'
  | _, _ => False
theorem NV.nr {F : FuncId → Prop} {σ : Ren} {n n' : Next} (h : NV F σ n n') : NR F σ n n' := by
  cases n <;> cases n' <;> first | exact VP.val h | exact h
theorem sr_value {s s' : Sem Value} (h : SR P F (fun σ v v' => VR F σ v v') s ρ s') : SR P F (NV F) (do pure (.value (← s))) ρ (do pure (.value (← s'))) :=
  SR.then_ h fun _ _ _ _ hv => SR.pure hv
theorem sr_valueP {s s' : Sem Value} (h : SR P F (fun σ v v' => VP F σ v v') s ρ s') : SR P F (NR F) (do pure (.value (← s))) ρ (do pure (.value (← s'))) :=
  SR.then_ h fun _ _ _ _ hv => SR.pure hv
theorem sr_unit {s s' : Sem Unit} (h : SR P F (fun _ _ _ => True) s ρ s') : SR P F (NV F) (do s; pure .skip) ρ (do s'; pure .skip) :=
  SR.then_ h fun _ _ _ _ _ => SR.pure trivial
theorem sr_asIntOf {v v' : Value} (h : VR F ρ v v') : SR P F (fun _ a a' => a' = a ∧ v = .int a.1 a.2 ∧ v' = v) (asIntOf v) ρ (asIntOf v') := by
  cases h with
  | int k n => exact SR.pure ⟨rfl, rfl, rfl⟩
  | _ => exact SR.stuck _ _
theorem sr_asInt {v v' : Value} (h : VR F ρ v v') : SR P F (fun _ a a' => a' = a) (asInt v) ρ (asInt v') := by
  unfold asInt
  refine SR.then_ (sr_asIntOf h) ?_
  rintro σ a a' _ ⟨rfl, _⟩
  exact SR.pure rfl
theorem sr_asBool {v v' : Value} (h : VR F ρ v v') : SR P F (fun _ a a' => a' = a) (asBool v) ρ (asBool v') := by
  cases h with
  | bool b => exact SR.pure rfl
  | _ => exact SR.stuck _ _
theorem sr_sure {v v' : Value} (h : VP F ρ v v') : SR P F (fun σ a a' => AR σ a a') (Instr.sureAddr v) ρ (Instr.sureAddr v') := by
  cases h with
  | ptr h => exact SR.pure h
  | val h => cases h <;> exact SR.stuck _ _
theorem sr_boundsPanic (k : IntKind) (x y : Int) (code : BoundsCode) {s' : Sem α} : SR P F A (boundsPanic k x y code) ρ s' := by
  refine SR.never _ ?_
  unfold boundsPanic
  have hp : ∀ b, Never P (runtimePanic (.bounds (IntKind.i64.wrap x) y b code) : Sem α) := fun b => never_panic _ (.inl ⟨_, _, _, _, rfl⟩)
  dsimp only
  split
  · exact fun n => hp _
  · exact hp _
theorem sr_askRoom (n : Nat) : SR P F (fun _ _ _ => True) (askRoom n) ρ (askRoom n) := by
  unfold askRoom
  split
  · exact ⟨rfl, _, rfl, (), rfl, trivial⟩
  · exact SR.pure trivial
theorem sr_box (elem : TypeId) {v v' : Value} (h : VR F ρ v v') : SR P F (fun σ v v' => VP F σ v v') (Instr.box elem v) ρ (Instr.box elem v') := by
  unfold Instr.box newVar
  exact SR.then_ (sr_newRow elem h.cells) fun _ _ _ _ ha => SR.pure (.ptr ha)
theorem sr_loadAt (t : TypeId) {v v' : Value} (h : VP F ρ v v') : SR P F (fun σ v v' => VR F σ v v') (Instr.loadAt t v) ρ (Instr.loadAt t v') := by
  unfold Instr.loadAt
  exact SR.then_ (sr_sure h) fun _ _ _ _ ha => sr_loadVar t ha
theorem sr_storeAt (t : TypeId) {v v' x x' : Value} (h : VP F ρ v v') (hx : VR F ρ x x') : SR P F (fun _ _ _ => True) (Instr.storeAt t v x) ρ (Instr.storeAt t v' x') := by
  unfold Instr.storeAt
  exact SR.then_ (sr_sure h) fun _ _ _ le ha => sr_storeVar t ha (hx.mono le)
theorem sr_fieldAt (s : TypeId) (f : Nat) {v v' : Value} (h : VP F ρ v v') (hs : ∀ fs fd i, P.underlying s = some (.struct fs) → fs[f]? = some fd → P.info? fd.type = some i → i.size ≠ 0) : SR P F (fun σ v v' => VP F σ v v') (Instr.fieldAt s v f) ρ (Instr.fieldAt s v' f) := by
  unfold Instr.fieldAt
  refine SR.then_ (sr_underlying s) ?_
  rintro σ d d' le ⟨rfl, hd⟩
  cases d' with
  | struct fs =>
    dsimp only
    cases hf : fs[f]? with
    | none => exact SR.stuck _ _
    | some fd =>
      refine SR.then_ (sr_sure (h.mono le)) ?_
      intro τ a a' le2 ha
      refine SR.then_ (A := fun σ a a' => AR σ a a') ?_ fun _ _ _ _ hb => SR.pure (.ptr hb)
      unfold fieldPlace
      refine SR.then_ (sr_sizeOf fd.type) ?_
      rintro υ n n' le3 ⟨rfl, i, hi, rfl⟩
      rw [if_neg (hs fs fd i hd hf hi), if_neg (hs fs fd i hd hf hi)]
      exact SR.pure ((ha.mono le3).add _)
  | _ => exact SR.stuck _ _
theorem sr_indexAt (t : TypeId) {v v' x x' : Value} (h : VP F ρ v v') (hx : VR F ρ x x') : SR P F (fun σ v v' => VP F σ v v') (Instr.indexAt t v x) ρ (Instr.indexAt t v' x') := by
  unfold Instr.indexAt
  refine SR.then_ (sr_asIntOf hx) ?_
  rintro σ ⟨k, i⟩ _ le ⟨rfl, _, _⟩
  refine SR.then_ (sr_underlying t) ?_
  rintro τ d d' le2 ⟨rfl, hd⟩
  have hv := (h.mono le).mono le2
  cases d' with
  | array len elem =>
    refine SR.then_ (sr_sure hv) ?_
    intro υ a a' le3 ha
    refine SR.pb ?_
    refine SR.then_ (sr_underlying t) ?_
    rintro φ d2 d2' le4 ⟨rfl, _⟩
    dsimp only
    split
    · refine SR.then_ (sr_sizeOf elem) ?_
      rintro χ n n' le5 ⟨rfl, _⟩
      exact SR.pure (.ptr (((ha.mono le4).mono le5).add _))
    · split <;> (split <;> first | exact SR.unsupported _ _ trivial | exact sr_boundsPanic _ _ _ _)
  | slice elem =>
    cases hv with
    | ptr hv => exact SR.stuck (A := fun σ v v' => VP F σ v v') _ _
    | val hv =>
      cases hv with
      | slc0 l c =>
        refine SR.pb ?_
        refine SR.then_ (sr_underlying t) ?_
        rintro φ d2 d2' le4 ⟨rfl, _⟩
        exact sr_boundsPanic _ _ _ _
      | slc o s l c hb =>
        refine SR.pb ?_
        refine SR.then_ (sr_underlying t) ?_
        rintro φ d2 d2' le4 ⟨rfl, _⟩
        have ha : AR φ ⟨_, o, s⟩ ⟨_, o, s⟩ := ⟨le4 _ _ hb, rfl, rfl⟩
        dsimp only
        split
        · refine SR.then_ (sr_sizeOf elem) ?_
          rintro χ n n' le5 ⟨rfl, _⟩
          exact SR.pure (.ptr ((ha.mono le5).add _))
        · split <;> (split <;> first | exact SR.unsupported _ _ trivial | exact sr_boundsPanic _ _ _ _)
      | _ => trivial
  | _ => trivial
theorem sr_makeSlice (t : TypeId) {l l' c c' : Value} (hl : VR F ρ l l') (hc : VR F ρ c c') (hz : ∀ e i v, P.underlying t = some (.slice e) → P.info? e = some i → i.zero = some v → ∀ σ, VR F σ v v) : SR P F (fun σ v v' => VR F σ v v') (Instr.makeSlice t l c) ρ (Instr.makeSlice t l' c') := by
  unfold Instr.makeSlice
  refine SR.then_ (sr_underlying t) ?_
  rintro σ d d' le ⟨rfl, hd⟩
  cases d' with
  | slice elem =>
    dsimp only
    refine SR.then_ (sr_asInt (hl.mono le)) ?_
    rintro τ n n' le2 rfl
    refine SR.then_ (sr_asInt ((hc.mono le).mono le2)) ?_
    rintro υ m m' le3 rfl
    refine SR.then_ (sr_typeInfo elem) ?_
    rintro φ i i' le4 ⟨rfl, hi⟩
    have hp : ∀ (m : String) (χ : Ren) (β : Type) (f : β → Sem Value) (s' : Sem Value), SR P F (fun σ v v' => VR F σ v v') (runtimePanic (.error m) >>= f) χ s' := fun m χ β f s' => SR.never _ (Never.bind _ (never_panic _ (.inr (.inl ⟨m, rfl⟩))))
    split
    · split
      · exact hp _ _ _ _ _
      · split
        · exact hp _ _ _ _ _
        · intro n
          show Never P (Sem.bind (runtimePanic (.error _)) _)
          exact Never.bind _ (never_panic _ (.inr (.inl ⟨_, rfl⟩)))
    · refine SR.then_ (sr_askRoom _) ?_
      intro _ _ _ _ _
      refine SR.then_ (sr_sizeOf elem) ?_
      rintro ψ q q' le5 ⟨rfl, _⟩
      have hfin : ∀ (ω : Ren) (x y : Array Value), A2 (VR F ω) x y → SR P F (fun σ v v' => VR F σ v v')
          (do let a ← newRow elem (Array.map (fun t => x[t % x.size]!) (Array.range ((IntKind.i64.wrap m').toNat * q'))); pure (Value.slice (some a) (IntKind.i64.wrap n').toNat (IntKind.i64.wrap m').toNat)) ω
          (do let a ← newRow elem (Array.map (fun t => y[t % y.size]!) (Array.range ((IntKind.i64.wrap m').toNat * q'))); pure (Value.slice (some a) (IntKind.i64.wrap n').toNat (IntKind.i64.wrap m').toNat)) := fun ω x y hxy => by
        refine SR.then_ (sr_newRow elem (A2.map _ fun t _ => ?_)) fun _ _ _ _ ha => SR.pure (VR.slice ha _ _)
        rw [hxy.size, getElem!_def, getElem!_def]
        have := hxy.getD (t % x.size) (d := default) (VR.bool _)
        rw [Array.getD_eq_getD_getElem?, Array.getD_eq_getD_getElem?] at this
        cases h1 : x[t % x.size]? with
        | none => rw [hxy.none h1]; exact VR.bool _
        | some a =>
          obtain ⟨a', e', r⟩ := hxy.at_ _ _ h1
          rw [e']; exact r
      split
      · exact hfin _ _ _ (A2.nil _)
      · refine SR.then_ (sr_zero elem fun i v h1 h2 => hz elem i v hd h1 h2) ?_
        intro _ z z' _ hz'
        exact hfin _ _ _ hz'.cells
  | _ => exact SR.stuck _ _
theorem sr_len (ats : Array TypeId) (t : TypeId) {xs ys : Array Value} (h : A2 (VR F ρ) xs ys) (ht : ∀ u, ats[0]? = some u → ∃ e, P.underlying u = some (.slice e)) : SR P F (fun σ v v' => VR F σ v v') (Builtin.len_ ats t xs) ρ (Builtin.len_ ats t ys) := by
  unfold Builtin.len_
  cases h0 : ats[0]? with
  | none => exact SR.stuck _ _
  | some u =>
    cases h1 : xs[0]? with
    | none => exact SR.stuck _ _
    | some x =>
      obtain ⟨y, h2, hxy⟩ := h.at_ 0 x h1
      rw [h2]
      dsimp only
      refine SR.then_ (sr_underlying u) ?_
      rintro σ d d' le ⟨rfl, hd⟩
      obtain ⟨e, he⟩ := ht u h0
      rw [he] at hd
      cases hd
      cases hxy with
      | slc0 l c => exact SR.pure (.int _ _)
      | slc o s l c hb => exact SR.pure (.int _ _)
      | _ => exact SR.stuck _ _
theorem sr_sliceBound {x x' : Value} (h : VR F ρ x x') (y : Nat) (code : BoundsCode) : SR P F (fun _ a a' => a' = a) (Instr.sliceBound x y code) ρ (Instr.sliceBound x' y code) := by
  unfold Instr.sliceBound
  refine SR.then_ (sr_asIntOf h) ?_
  rintro σ ⟨k, i⟩ _ le ⟨rfl, _, _⟩
  dsimp only
  split
  · exact SR.pure rfl
  · exact sr_boundsPanic _ _ _ _
theorem sr_slice (t : TypeId) {x x' : Value} {lo lo' hi hi' : Option Value} (h : VR F ρ x x') (hlo : (lo = none ∧ lo' = none) ∨ ∃ a b, lo = some a ∧ lo' = some b ∧ VR F ρ a b) (hhi : (hi = none ∧ hi' = none) ∨ ∃ a b, hi = some a ∧ hi' = some b ∧ VR F ρ a b)
    (ht : ∃ e, P.underlying t = some (.slice e)) : SR P F (fun σ v v' => VR F σ v v') (Instr.sliceAt t x lo hi none) ρ (Instr.sliceAt t x' lo' hi' none) := by
  obtain ⟨e, ht⟩ := ht
  unfold Instr.sliceAt
  refine SR.then_ (sr_underlying t) ?_
  rintro σ d d' le ⟨rfl, hd⟩
  rw [ht] at hd
  cases hd
  dsimp only
  unfold Instr.slice
  refine SR.then_ (sr_underlying t) ?_
  rintro τ d d' le2 ⟨rfl, hd⟩
  rw [ht] at hd
  cases hd
  have hbnd : ∀ (χ : Ren) (l c : Nat), RLe ρ χ → SR P F (fun _ a a' => a' = a) (Instr.sliceBounds true l c lo hi none) χ (Instr.sliceBounds true l c lo' hi' none) := fun χ l c leχ => by
    unfold Instr.sliceBounds
    refine SR.pb ?_
    rcases hhi with ⟨rfl, rfl⟩ | ⟨a, b, rfl, rfl, hab⟩
    · refine SR.pb ?_
      rcases hlo with ⟨rfl, rfl⟩ | ⟨c', d, rfl, rfl, hcd⟩
      · exact SR.pure rfl
      · refine SR.then_ (sr_sliceBound (hcd.mono leχ) _ _) ?_
        rintro _ _ _ _ rfl
        exact SR.pure rfl
    · refine SR.then_ (sr_sliceBound (hab.mono leχ) _ _) ?_
      rintro υ _ _ le3 rfl
      rcases hlo with ⟨rfl, rfl⟩ | ⟨c', d, rfl, rfl, hcd⟩
      · exact SR.pure rfl
      · refine SR.then_ (sr_sliceBound ((hcd.mono leχ).mono le3) _ _) ?_
        rintro _ _ _ _ rfl
        exact SR.pure rfl
  have hx := (h.mono le).mono le2
  cases hx with
  | slc0 l c =>
    dsimp only
    refine SR.then_ (hbnd _ _ _ (le.trans le2)) ?_
    rintro υ ⟨l1, h1, m1⟩ _ le3 rfl
    refine SR.then_ (sr_sizeOf e) ?_
    rintro φ n n' le4 ⟨rfl, _⟩
    dsimp only
    split <;> exact SR.pure (VR.slc0 _ _)
  | slc o s l c hb =>
    dsimp only
    refine SR.then_ (hbnd _ _ _ (le.trans le2)) ?_
    rintro υ ⟨l1, h1, m1⟩ _ le3 rfl
    refine SR.then_ (sr_sizeOf e) ?_
    rintro φ n n' le4 ⟨rfl, _⟩
    have har : AR φ ⟨_, o, s⟩ ⟨_, o, s⟩ := ⟨le4 _ _ (le3 _ _ hb), rfl, rfl⟩
    dsimp only
    split
    · exact SR.pure (VR.slice har _ _)
    · exact SR.pure (VR.slice (har.add _) _ _)
  | _ => exact SR.stuck _ _
theorem sr_extract {v v' : Value} (i : Nat) (h : VR F ρ v v') : SR P F (fun σ v v' => VR F σ v v') (Instr.extract v i) ρ (Instr.extract v' i) := by
  cases h with
  | tuple hs h =>
    have h2 := A2.of hs h
    unfold Instr.extract
    rename_i xs ys
    dsimp only
    cases e : xs[i]? with
    | none => exact SR.stuck _ _
    | some a =>
      obtain ⟨a', e', r⟩ := h2.at_ i a e
      rw [e']
      exact SR.pure r
  | _ => exact SR.stuck _ _
theorem sr_unary (op : UnOp) {v v' : Value} (h : VR F ρ v v') : SR P F (fun σ v v' => VR F σ v v') (Op.unary op v) ρ (Op.unary op v') := by
  cases h with
  | int k n =>
    cases op <;> first | exact SR.pure (.int _ _) | exact SR.stuck _ _
  | bool b =>
    cases op <;> first | exact SR.pure (.bool _) | exact SR.stuck _ _
  | _ => cases op <;> exact SR.stuck _ _
theorem sr_convert (src dst : TypeId) {v v' : Value} (h : VR F ρ v v') (h1 : ∃ k, P.underlying src = some (.int k)) (h2 : ∃ k, P.underlying dst = some (.int k)) : SR P F (fun σ v v' => VR F σ v v') (convert src dst v) ρ (convert src dst v') := by
  obtain ⟨k1, h1⟩ := h1
  obtain ⟨k2, h2⟩ := h2
  unfold convert
  refine SR.then_ (sr_underlying src) ?_
  rintro σ d d' le ⟨rfl, hd⟩
  rw [h1] at hd
  cases hd
  refine SR.then_ (sr_underlying dst) ?_
  rintro τ d d' le2 ⟨rfl, hd⟩
  rw [h2] at hd
  cases hd
  have hx := (h.mono le).mono le2
  cases hx with
  | int k n => exact SR.pure (.int _ _)
  | _ => exact SR.unsupported _ _ trivial
theorem sr_binInt (op : BinOp) (t : TypeId) (k k' : IntKind) (a b : Int) : SR P F (fun σ v v' => VR F σ v v') (binOp op t (.int k a) (.int k' b)) ρ (binOp op t (.int k a) (.int k' b)) := by
  have hdiv : ∀ (o : BinOp), SR P F (fun σ v v' => VR F σ v v') (Op.intDiv o k a b) ρ (Op.intDiv o k a b) := fun o => by
    unfold Op.intDiv
    split
    · exact SR.never _ (never_panic _ (.inr (.inl ⟨_, rfl⟩)))
    · cases o <;> first | exact SR.pure (.int _ _) | exact SR.stuck _ _
  have hsh : ∀ (o : BinOp), SR P F (fun σ v v' => VR F σ v v') (Op.shift o k a k' b) ρ (Op.shift o k a k' b) := fun o => by
    unfold Op.shift
    split
    · exact SR.never _ (never_panic _ (.inr (.inl ⟨_, rfl⟩)))
    · cases o <;> first | exact SR.pure (.int _ _) | exact SR.stuck _ _
  by_cases hk : k = k'
  · subst hk
    cases op <;> first | (unfold binOp; exact hsh _) | (simp only [binOp, ne_eq, not_true_eq_false, if_false]; first | exact hdiv _ | exact SR.pure (.int _ _) | exact SR.pure (.bool _))
  · cases op <;> first | (unfold binOp; exact hsh _) | (simp only [binOp, ne_eq, hk, not_false_eq_true, if_true]; exact SR.stuck _ _)
theorem under_run (t : TypeId) {d : TypeDesc} (ht : P.underlying t = some d) (f : TypeDesc → Sem β) : ∃ k : Program → Sem β, underlying t >>= f = .program k ∧ k P = f d := by
  refine ⟨fun p => Sem.bind (match p.underlying t with | some d => Pure.pure d | none => Go.stuck "no such type") f, rfl, ?_⟩
  dsimp only
  rw [ht]
  rfl
theorem never_under (t : TypeId) {d : TypeDesc} (ht : P.underlying t = some d) (f : TypeDesc → Sem β) (h : Never P (f d)) : Never P (underlying t >>= f) := by
  obtain ⟨k, e, hk⟩ := under_run t ht f
  rw [e]
  show Never P (k P)
  rw [hk]
  exact h
theorem never_equal (t : TypeId) {x x' y y' : Value} (hx : VR F ρ x x') (hy : VR F ρ y y') (ht : ∃ k, P.underlying t = some (.int k)) (hn : ¬ ((∃ k n, x = .int k n) ∧ ∃ k n, y = .int k n)) : Never P (Op.equal t x y) := by
  obtain ⟨k, ht⟩ := ht
  show Never P (Op.equalIn (9999 + 1) t x y)
  unfold Op.equalIn
  refine never_under t ht _ ?_
  cases hx with
  | int k1 n1 =>
    cases hy with
    | int k2 n2 => exact absurd ⟨⟨_, _, rfl⟩, _, _, rfl⟩ hn
    | _ => exact trivial
  | _ => cases hy <;> exact trivial
theorem never_binOther (op : BinOp) (t : TypeId) {v v' u u' : Value} (hv : VR F ρ v v') (hu : VR F ρ u u') (ht : ∃ k, P.underlying t = some (.int k)) (hn : ¬ ((∃ k n, v = .int k n) ∧ ∃ k n, u = .int k n)) : Never P (binOp op t v u) := by
  have hE := never_equal t hv hu ht hn
  cases hv with
  | int k1 n1 =>
    cases hu with
    | int k2 n2 => exact absurd ⟨⟨_, _, rfl⟩, _, _, rfl⟩ hn
    | _ => cases op <;> first | exact trivial | exact Never.bind _ hE
  | _ => cases hu <;> (cases op <;> first | exact trivial | exact Never.bind _ hE)
def Quiet (P : Program) {γ : Type} : Sem γ → Prop
  | .pure _ => True
  | .program k => Quiet P (k P)
  | .halt h => plainH h
  | .choose _ _ | .load _ _ _ | .store _ _ _ _ | .new _ _ | .mark _ _ | .shape _ _ | .freeze _ _ _ | .frozen _ _ | .getObj _ _ | .setObj _ _ _ | .sys _ _ => False
theorem Quiet.never {f : α → Sem β} (s : Sem α) (h : Quiet P s) (k : ∀ a, Never P (f a)) : Never P (s.bind f) := by
  induction s with
  | pure a => exact k a
  | program c ih => exact ih P h
  | halt _ => exact h
  | _ => exact h.elim
theorem Quiet.bind {f : α → Sem β} (s : Sem α) (h : Quiet P s) (k : ∀ a, Quiet P (f a)) : Quiet P (s.bind f) := by
  induction s with
  | pure a => exact k a
  | program c ih => exact ih P h
  | halt _ => exact h
  | _ => exact h.elim
theorem quiet_guardIn (t : TypeId) (x y : Value) (ht : ∃ k, P.underlying t = some (.int k)) : Quiet P (Op.eqGuardIn Op.maxDepth t x y) := by
  obtain ⟨k, ht⟩ := ht
  show Quiet P (Op.eqGuardIn (9999 + 1) t x y)
  unfold Op.eqGuardIn
  show Quiet P (Sem.bind (match P.underlying t with | some d => Pure.pure d | none => Go.stuck "no such type") _)
  rw [ht]
  exact trivial
theorem quiet_eqGuard (op : BinOp) (t : TypeId) (x y : Operand) (v u : Value) (ht : ∃ k, P.underlying t = some (.int k)) : Quiet P (eqGuard op t x y v u) := by
  have hq := fun a b => quiet_guardIn (P := P) t a b ht
  unfold eqGuard
  split
  all_goals
    split
    · exact trivial
    · split
      · repeat' first
          | exact trivial
          | refine Quiet.bind _ (hq _ _) fun a => ?_
          | split
      · show Quiet P (Sem.bind _ _)
        refine Quiet.bind _ (show Quiet P Go.program from trivial) fun _ => ?_
        refine Quiet.bind _ (show Quiet P Go.program from trivial) fun _ => ?_
        split
        · exact trivial
        · refine Quiet.bind _ (hq _ _) fun a => ?_
          split <;> exact trivial
      · exact trivial
theorem sr_binWhole (op : BinOp) (t : TypeId) (x y : Operand) {v v' u u' : Value} (hv : VR F ρ v v') (hu : VR F ρ u u') (ht : ∃ k, P.underlying t = some (.int k)) : SR P F (fun σ v v' => VR F σ v v') (do eqGuard op t x y v u; binOp op t v u) ρ (do eqGuard op t x y v' u'; binOp op t v' u') := by
  by_cases hn : (∃ k n, v = .int k n) ∧ ∃ k n, u = .int k n
  · obtain ⟨⟨k, n, rfl⟩, k', n', rfl⟩ := hn
    cases hv
    cases hu
    refine SR.then_ (A := fun _ _ _ => True) ?_ fun _ _ _ _ _ => sr_binInt op t k k' n n'
    cases op <;> exact SR.pure trivial
  · exact SR.never _ (Quiet.never _ (quiet_eqGuard op t x y v u ht) fun _ => never_binOther op t hv hu ht hn)
end
end Go.Proofs.YtckoipoejaafhaaDoor.Cc
