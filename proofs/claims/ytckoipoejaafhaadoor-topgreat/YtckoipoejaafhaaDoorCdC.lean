/-
  Which operations are such pieces.
-/
import Derived.Test.YtckoipoejaafhaaDoorCdB
namespace Go.Proofs.YtckoipoejaafhaaDoor.Cc
open Go Go.Conc
section
variable {P : Program} {Su : Nat → Prop} {α β : Type}
abbrev Ct (P : Program) (Su : Nat → Prop) {α : Type} (s : Sem α) : Prop := Cl P Su (fun _ => True) s
theorem Ct.bind {s : Sem α} {f : α → Sem β} (h : Ct P Su s) (k : ∀ a, Ct P Su (f a)) : Ct P Su (s >>= f) := Cl.bind s h fun a _ => k a
theorem Ct.map {s : Sem α} (f : α → β) (h : Ct P Su s) : Ct P Su (f <$> s) := Cl.bind s h fun _ _ => trivial
theorem Ct.pure (a : α) : Ct P Su (Pure.pure a : Sem α) := trivial
theorem Ct.stuck (m : String) : Ct P Su (Go.stuck m : Sem α) := trivial
theorem Ct.prog {f : Program → Sem β} (k : Ct P Su (f P)) : Ct P Su (Go.program >>= f) := k
theorem ct_unsup (u : Unsupported) (h : plainH (.unsupported u)) : Ct P Su (Go.unsupported u : Sem α) := h
theorem ct_load (a : Addr) : Ct P Su (load a) := ⟨rfl, fun _ => trivial⟩
theorem ct_store (a : Addr) (v : Value) : Ct P Su (store a v) := ⟨rfl, trivial⟩
theorem ct_newObj (o : Obj) : Ct P Su (newObj o) := fun _ _ => trivial
theorem ct_getObj (r : Nat) : Ct P Su (getObj r) := fun _ => trivial
theorem ct_setObj (r : Nat) (o : Obj) : Ct P Su (setObj r o) := trivial
theorem ct_choose (q : Question) : Ct P Su (choose q) := fun _ => trivial
theorem ct_freeze (a : Addr) (n : Nat) : Ct P Su (freeze a n) := trivial
theorem ct_noRoom : Ct P Su (mark .noRoom) := ⟨rfl, trivial⟩
theorem ct_typeInfo (t : TypeId) : Ct P Su (typeInfo t) := by
  unfold typeInfo
  repeat' (first | with_reducible (first | exact Ct.pure _ | exact Ct.stuck _ | refine Ct.prog ?_) | split | dsimp only)
theorem ct_underlying (t : TypeId) : Ct P Su (underlying t) := by
  unfold underlying
  repeat' (first | with_reducible (first | exact Ct.pure _ | exact Ct.stuck _ | refine Ct.prog ?_) | split | dsimp only)
theorem ct_sizeOf (t : TypeId) : Ct P Su (sizeOf t) := by
  unfold sizeOf
  repeat' (first | with_reducible (first | exact Ct.pure _ | exact ct_typeInfo _ | refine Ct.bind ?_ (fun _ => ?_)) | split | dsimp only)
theorem ct_zero (t : TypeId) : Ct P Su (zeroValue t) := by
  unfold zeroValue
  repeat' (first | with_reducible (first | exact Ct.pure _ | exact ct_typeInfo _ | refine Ct.bind ?_ (fun _ => ?_)) | ((with_reducible refine ct_unsup _ ?_); exact trivial) | split | dsimp only)
theorem ct_isAgg (t : TypeId) : Ct P Su (isAgg t) := by
  unfold isAgg
  repeat' (first | with_reducible (first | exact Ct.pure _ | exact ct_underlying _ | refine Ct.bind ?_ (fun _ => ?_)) | split | dsimp only)
theorem ct_loadCellsFrom (a : Addr) (n : Nat) : ∀ (i : Nat) (acc : Array Value), Ct P Su (loadCellsFrom a i n acc) := by
  induction n with
  | zero => intro i acc; trivial
  | succ n ih => intro i acc; exact Ct.bind (ct_load _) fun v => ih _ _
theorem ct_loadCells (a : Addr) (n : Nat) : Ct P Su (loadCells a n) := ct_loadCellsFrom a n 0 #[]
theorem ct_storeCells (a : Addr) (vs : List Value) : ∀ i, Ct P Su (storeCells a vs i) := by
  induction vs with
  | nil => intro i; trivial
  | cons v vs ih => intro i; exact Ct.bind (ct_store _ _) fun _ => ih _
theorem ct_loadVar (t : TypeId) (a : Addr) : Ct P Su (loadVar t a) := by
  unfold loadVar
  repeat' (first | with_reducible (first | exact Ct.pure _ | exact ct_load _ | exact ct_sizeOf _ | exact ct_isAgg _ | exact ct_loadCells _ _ | refine Ct.bind ?_ (fun _ => ?_)) | split | dsimp only)
theorem ct_storeVar (t : TypeId) (a : Addr) (v : Value) : Ct P Su (storeVar t a v) := by
  unfold storeVar
  repeat' (first | with_reducible (first | exact Ct.stuck _ | exact ct_sizeOf _ | exact ct_storeCells _ _ _ | refine Ct.bind ?_ (fun _ => ?_)) | split | dsimp only)
theorem ct_newRow (t : TypeId) (xs : Array Value) : Ct P Su (newRow t xs) := by
  unfold newRow
  repeat' (first | with_reducible (first | exact Ct.pure _ | exact ct_newObj _ | refine Ct.bind ?_ (fun _ => ?_)) | split | dsimp only)
theorem ct_newVar (t : TypeId) (v : Value) : Ct P Su (newVar t v) := by
  unfold newVar
  repeat' (first | with_reducible (first | exact ct_newRow _ _) | split | dsimp only)
theorem ct_askRoom (n : Nat) : Ct P Su (askRoom n) := by
  unfold askRoom
  repeat' (first | with_reducible (first | exact Ct.pure _ | exact ct_noRoom) | split | dsimp only)
theorem ct_elemOf (t : TypeId) : Ct P Su (elemOf t) := by
  unfold elemOf
  repeat' (first | with_reducible (first | exact Ct.pure _ | exact Ct.stuck _ | exact ct_underlying _ | refine Ct.bind ?_ (fun _ => ?_)) | split | dsimp only)
theorem ct_part (t : TypeId) (cs : Array Value) (off : Nat) : Ct P Su (part t cs off) := by
  unfold part
  repeat' (first | with_reducible (first | exact Ct.pure _ | exact Ct.stuck _ | exact ct_sizeOf _ | exact ct_isAgg _ | refine Ct.bind ?_ (fun _ => ?_)) | split | dsimp only)
theorem ct_panic (e : RuntimeError) : Ct P Su (runtimePanic e : Sem α) := by
  unfold runtimePanic
  refine Ct.prog ?_
  cases e <;> first | exact trivial | exact Ct.bind (ct_elemOf _) fun _ => Ct.bind (ct_newVar _ _) fun _ => trivial
theorem ct_bounds (k : IntKind) (x y : Int) (c : BoundsCode) : Ct P Su (boundsPanic k x y c : Sem α) := by
  unfold boundsPanic
  repeat' (first | with_reducible (first | exact Ct.pure _ | exact ct_choose _ | exact ct_panic _ | refine Ct.map _ ?_ | refine Ct.bind ?_ (fun _ => ?_)) | split | dsimp only)
theorem ct_asIntOf (v : Value) : Ct P Su (asIntOf v) := by
  unfold asIntOf
  repeat' (first | with_reducible (first | exact Ct.pure _ | exact Ct.stuck _) | ((with_reducible refine ct_unsup _ ?_); exact trivial) | split | dsimp only)
theorem ct_asInt (v : Value) : Ct P Su (asInt v) := by
  unfold asInt
  repeat' (first | with_reducible (first | exact Ct.pure _ | exact ct_asIntOf _ | refine Ct.bind ?_ (fun _ => ?_)) | split | dsimp only)
theorem ct_asBool (v : Value) : Ct P Su (asBool v) := by
  unfold asBool
  repeat' (first | with_reducible (first | exact Ct.pure _ | exact Ct.stuck _) | split | dsimp only)
theorem ct_asAgg (v : Value) : Ct P Su (asAgg v) := by
  unfold asAgg
  repeat' (first | with_reducible (first | exact Ct.pure _ | exact Ct.stuck _) | split | dsimp only)
theorem ct_asAddr (v : Value) : Ct P Su (asAddr v) := by
  unfold asAddr
  repeat' (first | with_reducible (first | exact Ct.pure _ | exact Ct.stuck _ | exact ct_panic _) | split | dsimp only)
theorem ct_sureAddr (v : Value) : Ct P Su (Instr.sureAddr v) := by
  unfold Instr.sureAddr
  repeat' (first | with_reducible (first | exact Ct.pure _ | exact Ct.stuck _) | split | dsimp only)
theorem ct_alloc (e : TypeId) (b : Bool) (v : Value) : Ct P Su (Instr.alloc e b v) := by
  unfold Instr.alloc
  repeat' (first | with_reducible (first | exact Ct.pure _ | exact ct_zero _ | exact ct_storeVar _ _ _ | exact ct_newVar _ _ | refine Ct.bind ?_ (fun _ => ?_)) | split | dsimp only)
theorem ct_box (e : TypeId) (v : Value) : Ct P Su (Instr.box e v) := by
  unfold Instr.box
  repeat' (first | with_reducible (first | exact Ct.pure _ | exact ct_newVar _ _ | refine Ct.bind ?_ (fun _ => ?_)) | split | dsimp only)
theorem ct_loadAt (t : TypeId) (v : Value) : Ct P Su (Instr.loadAt t v) := by
  unfold Instr.loadAt
  repeat' (first | with_reducible (first | exact ct_loadVar _ _ | exact ct_sureAddr _ | refine Ct.bind ?_ (fun _ => ?_)) | split | dsimp only)
theorem ct_storeAt (t : TypeId) (v x : Value) : Ct P Su (Instr.storeAt t v x) := by
  unfold Instr.storeAt
  repeat' (first | with_reducible (first | exact ct_storeVar _ _ _ | exact ct_sureAddr _ | refine Ct.bind ?_ (fun _ => ?_)) | split | dsimp only)
theorem ct_mapM {ι : Type} (f : ι → Sem β) (h : ∀ x, Ct P Su (f x)) (l : Array ι) : Ct P Su (l.mapM f) := by
  rw [Array.mapM_eq_mapM_toList]
  refine Ct.map _ ?_
  induction l.toList with
  | nil => rw [List.mapM_nil]; trivial
  | cons x l ih => rw [List.mapM_cons]; exact Ct.bind (h x) fun _ => Ct.bind ih fun _ => trivial
theorem ct_build (t : TypeId) (ps : Array (Nat × Value)) : Ct P Su (Instr.build t ps) := by
  unfold Instr.build
  repeat' (first | with_reducible (first | exact Ct.pure _ | exact Ct.stuck _ | exact ct_underlying _ | exact ct_sizeOf _ | exact ct_zero _ | refine Ct.bind ?_ (fun _ => ?_)) | (with_reducible refine ct_mapM _ (fun _ => ?_) _) | split | dsimp only)
theorem ct_buildSlice (t : TypeId) (n : Nat) (ps : Array (Nat × Value)) : Ct P Su (Instr.buildSlice t n ps) := by
  unfold Instr.buildSlice
  repeat' (first | with_reducible (first | exact Ct.pure _ | exact Ct.stuck _ | exact ct_underlying _ | exact ct_sizeOf _ | exact ct_zero _ | exact ct_newRow _ _ | refine Ct.bind ?_ (fun _ => ?_)) | ((with_reducible refine ct_unsup _ ?_); exact trivial) | split | dsimp only)
theorem ct_makeMap (t : TypeId) (r : Option Value) : Ct P Su (Instr.makeMap t r) := by
  unfold Instr.makeMap
  repeat' (first | with_reducible (first | exact Ct.pure _ | exact Ct.stuck _ | exact ct_newObj _ | exact ct_underlying _ | exact ct_asInt _ | refine Ct.bind ?_ (fun _ => ?_)) | split | dsimp only)
theorem ct_makeSlice (t : TypeId) (l c : Value) : Ct P Su (Instr.makeSlice t l c) := by
  unfold Instr.makeSlice
  repeat' (first | with_reducible (first | exact Ct.pure _ | exact Ct.stuck _ | exact ct_choose _ | exact ct_typeInfo _ | exact ct_underlying _ | exact ct_sizeOf _ | exact ct_zero _ | exact ct_newRow _ _ | exact ct_askRoom _ | exact ct_panic _ | exact ct_asInt _ | refine Ct.bind ?_ (fun _ => ?_)) | split | dsimp only)
theorem ct_sliceBound (x : Value) (y : Nat) (c : BoundsCode) : Ct P Su (Instr.sliceBound x y c) := by
  unfold Instr.sliceBound
  repeat' (first | with_reducible (first | exact Ct.pure _ | exact ct_bounds _ _ _ _ | exact ct_asIntOf _ | refine Ct.bind ?_ (fun _ => ?_)) | split | dsimp only)
theorem ct_sliceBounds (b : Bool) (l c : Nat) (lo hi mx : Option Value) : Ct P Su (Instr.sliceBounds b l c lo hi mx) := by
  unfold Instr.sliceBounds
  repeat' (first | with_reducible (first | exact Ct.pure _ | exact Ct.stuck _ | exact ct_sliceBound _ _ _ | refine Ct.bind ?_ (fun _ => ?_)) | split | dsimp only)
theorem ct_slice (t : TypeId) (x : Value) (lo hi mx : Option Value) : Ct P Su (Instr.slice t x lo hi mx) := by
  unfold Instr.slice
  repeat' (first | with_reducible (first | exact Ct.pure _ | exact Ct.stuck _ | exact ct_underlying _ | exact ct_sizeOf _ | exact ct_asAddr _ | exact ct_sliceBounds _ _ _ _ _ _ | refine Ct.bind ?_ (fun _ => ?_)) | split | dsimp only)
theorem ct_sliceAt (t : TypeId) (x : Value) (lo hi mx : Option Value) : Ct P Su (Instr.sliceAt t x lo hi mx) := by
  unfold Instr.sliceAt
  repeat' (first | with_reducible (first | exact Ct.pure _ | exact ct_underlying _ | exact ct_sizeOf _ | exact ct_sureAddr _ | exact ct_sliceBounds _ _ _ _ _ _ | exact ct_slice _ _ _ _ _ | refine Ct.bind ?_ (fun _ => ?_)) | split | dsimp only)
theorem ct_field (t : TypeId) (x : Value) (f : Nat) : Ct P Su (Instr.field t x f) := by
  unfold Instr.field
  repeat' (first | with_reducible (first | exact Ct.stuck _ | exact ct_underlying _ | exact ct_part _ _ _ | exact ct_asAgg _ | refine Ct.bind ?_ (fun _ => ?_)) | split | dsimp only)
theorem ct_indexAt (t : TypeId) (x i : Value) : Ct P Su (Instr.indexAt t x i) := by
  unfold Instr.indexAt
  repeat' (first | with_reducible (first | exact Ct.pure _ | exact Ct.stuck _ | exact ct_underlying _ | exact ct_sizeOf _ | exact ct_bounds _ _ _ _ | exact ct_asIntOf _ | exact ct_sureAddr _ | refine Ct.bind ?_ (fun _ => ?_)) | ((with_reducible refine ct_unsup _ ?_); exact trivial) | split | dsimp only)
theorem ct_index (t : TypeId) (x i : Value) : Ct P Su (Instr.index t x i) := by
  unfold Instr.index
  repeat' (first | with_reducible (first | exact Ct.pure _ | exact Ct.stuck _ | exact ct_underlying _ | exact ct_sizeOf _ | exact ct_part _ _ _ | exact ct_bounds _ _ _ _ | exact ct_asIntOf _ | refine Ct.bind ?_ (fun _ => ?_)) | split | dsimp only)
theorem ct_extract (x : Value) (i : Nat) : Ct P Su (Instr.extract x i) := by
  unfold Instr.extract
  repeat' (first | with_reducible (first | exact Ct.pure _ | exact Ct.stuck _) | split | dsimp only)
theorem ct_lenOf (v : Value) : Ct P Su (Builtin.lenOf v) := by
  unfold Builtin.lenOf
  repeat' (first | with_reducible (first | exact Ct.pure _ | exact Ct.stuck _) | split | dsimp only)
theorem ct_firstCells (s n : Nat) (v : Value) : Ct P Su (Builtin.firstCells s n v) := by
  unfold Builtin.firstCells
  repeat' (first | with_reducible (first | exact Ct.pure _ | exact Ct.stuck _ | exact ct_loadCells _ _) | split | dsimp only)
theorem ct_len (ts : Array TypeId) (t : TypeId) (vs : Array Value) : Ct P Su (Builtin.len_ ts t vs) := by
  unfold Builtin.len_
  repeat' (first | with_reducible (first | exact Ct.pure _ | exact Ct.stuck _ | exact ct_getObj _ | exact ct_underlying _ | refine Ct.bind ?_ (fun _ => ?_)) | split | dsimp only)
theorem ct_cap (ts : Array TypeId) (t : TypeId) (vs : Array Value) : Ct P Su (Builtin.cap_ ts t vs) := by
  unfold Builtin.cap_
  repeat' (first | with_reducible (first | exact Ct.pure _ | exact Ct.stuck _ | exact ct_getObj _ | exact ct_underlying _ | refine Ct.bind ?_ (fun _ => ?_)) | split | dsimp only)
theorem ct_copy (ts : Array TypeId) (t : TypeId) (vs : Array Value) : Ct P Su (Builtin.copy_ ts t vs) := by
  unfold Builtin.copy_
  repeat' (first | with_reducible (first | exact Ct.pure _ | exact Ct.stuck _ | exact ct_underlying _ | exact ct_sizeOf _ | exact ct_storeCells _ _ _ | exact ct_lenOf _ | exact ct_firstCells _ _ _ | refine Ct.bind ?_ (fun _ => ?_)) | split | dsimp only)
theorem ask_holdsCells (a : Addr) (n : Nat) : Ask P (Builtin.holdsCells a n) := by
  unfold Builtin.holdsCells
  intro s
  cases s <;> trivial
theorem ask_mayShare (size sLen n : Nat) (base : Option Addr) (x : Value) : Ask P (Builtin.mayShare size sLen n base x) := by
  unfold Builtin.mayShare
  have h2 : ∀ there : Bool, Ask P (if (!there) = true then (Pure.pure true : Sem Bool) else match x with
      | .slice (some b) _ _ => (do let c ← Builtin.holdsCells b (n * size); Pure.pure (!c || base.any (·.block == b.block)))
      | _ => Pure.pure false) := fun there => by
    split
    · trivial
    · split
      · exact Ask.bind (ask_holdsCells _ _) fun _ => trivial
      · trivial
  cases base with
  | none => exact h2 true
  | some a =>
    refine Ask.bind (ask_holdsCells _ _) fun b => ?_
    intro c
    exact h2 _
theorem Ct.dead {s : Sem α} (h : Dead P s) : Ct P Su s := Dead.cl h
theorem ct_append (ts : Array TypeId) (t : TypeId) (vs : Array Value) : Ct P Su (Builtin.append_ ts t vs) := by
  unfold Builtin.append_
  split
  · with_reducible refine Ct.bind (ct_underlying _) (fun _ => ?_)
    split
    · split
      · with_reducible refine Ct.bind (ct_sizeOf _) (fun size => ?_)
        extract_lets j1 j2
        have hz : ∀ zeros, Ct P Su (j2 zeros) := by
          intro zeros
          dsimp -zeta only [j2]
          extract_lets j3
          have hn : ∀ n, Ct P Su (j3 n) := by
            intro n
            dsimp -zeta only [j3]
            extract_lets app need a1 a2 a3
            have ha : Ct P Su app := by
              dsimp only [app]
              split
              · exact ct_firstCells _ _ _
              · split
                · exact Ct.pure _
                · exact Ct.bind (ct_zero _) fun _ => Ct.pure _
            have h2 : ∀ r, Ct P Su (a2 r) := by
              intro r
              dsimp only [a2]
              exact Ct.bind (ct_choose _) fun _ => Ct.bind (ct_typeInfo _) fun _ => Ct.bind (ct_askRoom _) fun _ => Ct.bind (ct_firstCells _ _ _) fun _ => Ct.bind ha fun _ => Ct.bind (ct_zero _) fun _ => Ct.bind (ct_newRow _ _) fun _ => Ct.pure _
            have h3 : ∀ r, Ct P Su (a3 r) := by
              intro r
              dsimp -zeta only [a3]
              refine Ct.bind (ct_typeInfo _) fun i2 => ?_
              split
              · refine Ct.bind ?_ fun r => h2 r
                split
                · exact ct_panic _
                · refine Ct.dead (Ask.dead (ask_mayShare _ _ _ _ _) fun b => ?_)
                  cases b
                  · exact ⟨rfl, trivial⟩
                  · exact trivial
              · exact h2 ()
            split
            · refine Ct.bind ha fun new => ?_
              split
              · exact Ct.bind (ct_storeCells _ _ _) fun _ => Ct.pure _
              · exact Ct.pure _
            · refine Ct.bind (ct_typeInfo _) fun i => ?_
              split
              · exact Ct.bind (ct_panic _) fun r => h3 r
              · exact h3 ()
          clear_value j3
          split
          · refine Ct.bind (ct_asInt _) fun x => ?_
            dsimp only
            split
            · refine Ct.bind (ct_panic _) fun r => Ct.bind (ct_typeInfo _) fun i => ?_
              split
              · exact Ct.bind (ct_choose _) fun _ => Ct.bind (ct_panic _) fun _ => Ct.bind (Ct.pure _) fun _ => hn _
              · exact Ct.bind (Ct.pure _) fun _ => hn _
            · refine Ct.bind (ct_typeInfo _) fun i => ?_
              split
              · exact Ct.bind (ct_choose _) fun _ => Ct.bind (ct_panic _) fun _ => Ct.bind (Ct.pure _) fun _ => hn _
              · exact Ct.bind (Ct.pure _) fun _ => hn _
          · exact Ct.bind (ct_lenOf _) fun n => hn n
        clear_value j2
        split
        · exact Ct.bind (ct_underlying _) fun _ => Ct.bind (Ct.pure _) fun _ => hz _
        · exact Ct.bind (Ct.pure _) fun _ => hz _
      · exact Ct.stuck _
    · exact Ct.stuck _
  · exact Ct.stuck _
theorem ct_stringOp (o : BinOp) (x y : ByteArray) : Ct P Su (Op.stringOp o x y) := by
  unfold Op.stringOp
  repeat' (first | with_reducible (first | exact Ct.pure _ | exact Ct.stuck _) | ((with_reducible refine ct_unsup _ ?_); exact trivial) | split | dsimp only)
theorem ct_max2 (x y : Value) : Ct P Su (Builtin.max2 x y) := by
  unfold Builtin.max2
  repeat' (first | with_reducible (first | exact Ct.pure _ | exact Ct.stuck _ | exact ct_choose _ | exact ct_asBool _ | exact ct_stringOp _ _ _ | refine Ct.bind ?_ (fun _ => ?_)) | ((with_reducible refine ct_unsup _ ?_); exact trivial) | split | dsimp only)
theorem ct_min2 (x y : Value) : Ct P Su (Builtin.min2 x y) := by
  unfold Builtin.min2
  repeat' (first | with_reducible (first | exact Ct.pure _ | exact Ct.stuck _ | exact ct_choose _ | exact ct_asBool _ | exact ct_stringOp _ _ _ | refine Ct.bind ?_ (fun _ => ?_)) | ((with_reducible refine ct_unsup _ ?_); exact trivial) | split | dsimp only)
theorem ct_foldlM {ι : Type} (f : β → ι → Sem β) (h : ∀ b x, Ct P Su (f b x)) (l : List ι) : ∀ b, Ct P Su (l.foldlM f b) := by
  induction l with
  | nil => intro b; trivial
  | cons x l ih => intro b; exact Ct.bind (h b x) fun c => ih c
theorem ct_max (ts : Array TypeId) (t : TypeId) (vs : Array Value) : Ct P Su (Builtin.max_ ts t vs) := by
  unfold Builtin.max_
  repeat' (first | with_reducible (first | exact Ct.stuck _ | exact ct_max2 _ _) | (with_reducible refine ct_foldlM _ (fun _ _ => ?_) _ _) | split | dsimp only)
theorem ct_min (ts : Array TypeId) (t : TypeId) (vs : Array Value) : Ct P Su (Builtin.min_ ts t vs) := by
  unfold Builtin.min_
  repeat' (first | with_reducible (first | exact Ct.stuck _ | exact ct_min2 _ _) | (with_reducible refine ct_foldlM _ (fun _ _ => ?_) _ _) | split | dsimp only)
theorem ct_shift (o : BinOp) (k : IntKind) (x : Int) (j : IntKind) (y : Int) : Ct P Su (Op.shift o k x j y) := by
  unfold Op.shift
  repeat' (first | with_reducible (first | exact Ct.pure _ | exact Ct.stuck _ | exact ct_panic _) | split | dsimp only)
theorem ct_intDiv (o : BinOp) (k : IntKind) (x y : Int) : Ct P Su (Op.intDiv o k x y) := by
  unfold Op.intDiv
  repeat' (first | with_reducible (first | exact Ct.pure _ | exact Ct.stuck _ | exact ct_panic _) | split | dsimp only)
theorem ct_intArith (o : BinOp) (k : IntKind) (x y : Int) : Ct P Su (Op.intArith o k x y) := by
  unfold Op.intArith
  repeat' (first | with_reducible (first | exact Ct.pure _ | exact Ct.stuck _) | split | dsimp only)
theorem ct_intBits (o : BinOp) (k : IntKind) (x y : Int) : Ct P Su (Op.intBits o k x y) := by
  unfold Op.intBits
  repeat' (first | with_reducible (first | exact Ct.pure _ | exact Ct.stuck _) | split | dsimp only)
theorem ct_intCmp (o : BinOp) (x y : Int) : Ct P Su (Op.intCmp o x y) := by
  unfold Op.intCmp
  repeat' (first | with_reducible (first | exact Ct.pure _ | exact Ct.stuck _) | split | dsimp only)
theorem ct_floatArith (o : BinOp) (k : FloatKind) (x y : Nat) : Ct P Su (Op.floatArith o k x y) := by
  unfold Op.floatArith
  repeat' (first | with_reducible (first | exact Ct.pure _ | exact Ct.stuck _ | exact ct_choose _ | refine Ct.bind ?_ (fun _ => ?_)) | split | dsimp only)
theorem ct_floatCmp (o : BinOp) (k : FloatKind) (x y : Nat) : Ct P Su (Op.floatCmp o k x y) := by
  unfold Op.floatCmp
  repeat' (first | with_reducible (first | exact Ct.pure _ | exact Ct.stuck _) | split | dsimp only)
theorem ct_carith (o : BinOp) (k : FloatKind) (x y : Nat) : Ct P Su (Op.Complex.arith o k x y) := by
  unfold Op.Complex.arith
  repeat' (first | with_reducible (first | exact Ct.pure _ | exact Ct.stuck _ | exact ct_floatArith _ _ _ _ | refine Ct.bind ?_ (fun _ => ?_)) | split | dsimp only)
theorem ct_ccmp (o : BinOp) (k : FloatKind) (x y : Nat) : Ct P Su (Op.Complex.cmp o k x y) := by
  unfold Op.Complex.cmp
  repeat' (first | with_reducible (first | exact ct_asBool _ | exact ct_floatCmp _ _ _ _ | refine Ct.bind ?_ (fun _ => ?_)) | split | dsimp only)
theorem ct_f2f (k : FloatKind) (x : Nat) (j : FloatKind) : Ct P Su (Conv.floatToFloat k x j) := by
  unfold Conv.floatToFloat
  repeat' (first | with_reducible (first | exact Ct.pure _ | exact ct_choose _ | refine Ct.bind ?_ (fun _ => ?_)) | split | dsimp only)
theorem ct_cconv (k : FloatKind) (x : Nat) (j : FloatKind) : Ct P Su (Op.Complex.conv k x j) := by
  unfold Op.Complex.conv
  repeat' (first | with_reducible (first | exact Ct.pure _ | exact Ct.stuck _ | exact ct_f2f _ _ _ | refine Ct.bind ?_ (fun _ => ?_)) | split | dsimp only)
theorem ct_cadd (x y : Nat) : Ct P Su (Op.Complex.add x y) := ct_carith _ _ _ _
theorem ct_csub (x y : Nat) : Ct P Su (Op.Complex.sub x y) := ct_carith _ _ _ _
theorem ct_cmul (x y : Nat) : Ct P Su (Op.Complex.mul x y) := ct_carith _ _ _ _
theorem ct_cquo (x y : Nat) : Ct P Su (Op.Complex.quo x y) := ct_carith _ _ _ _
theorem ct_cproduct (a b c d : Nat) : Ct P Su (Op.Complex.product a b c d) := by
  unfold Op.Complex.product
  repeat' (first | with_reducible (first | exact Ct.pure _ | exact ct_cadd _ _ | exact ct_csub _ _ | exact ct_cmul _ _ | refine Ct.bind ?_ (fun _ => ?_)) | split | dsimp only)
theorem ct_ccorrected (e a b c d : Nat) : Ct P Su (Op.Complex.corrected e a b c d) := by
  unfold Op.Complex.corrected
  repeat' (first | with_reducible (first | exact Ct.pure _ | exact ct_cadd _ _ | exact ct_csub _ _ | exact ct_cmul _ _ | refine Ct.bind ?_ (fun _ => ?_)) | split | dsimp only)
theorem ct_cquotient (a b c d : Nat) : Ct P Su (Op.Complex.quotient a b c d) := by
  unfold Op.Complex.quotient
  repeat' (first | with_reducible (first | exact Ct.pure _ | exact ct_ccmp _ _ _ _ | exact ct_cadd _ _ | exact ct_csub _ _ | exact ct_cmul _ _ | exact ct_cquo _ _ | exact ct_ccorrected _ _ _ _ _ | refine Ct.bind ?_ (fun _ => ?_)) | split | dsimp only)
theorem ct_complexOp (o : BinOp) (k : FloatKind) (a b c d : Nat) : Ct P Su (Op.complexOp o k a b c d) := by
  unfold Op.complexOp
  repeat' (first | with_reducible (first | exact Ct.pure _ | exact Ct.stuck _ | exact ct_carith _ _ _ _ | exact ct_ccmp _ _ _ _ | exact ct_cconv _ _ _ | exact ct_cproduct _ _ _ _ | exact ct_cquotient _ _ _ _ | refine Ct.bind ?_ (fun _ => ?_)) | split | dsimp only)
theorem ct_unary (o : UnOp) (x : Value) : Ct P Su (Op.unary o x) := by
  unfold Op.unary
  repeat' (first | with_reducible (first | exact Ct.pure _ | exact Ct.stuck _ | exact ct_intArith _ _ _ _ | exact ct_intBits _ _ _ _) | ((with_reducible refine ct_unsup _ ?_); exact trivial) | split | dsimp only)
theorem ct_numberAt (r : Nat) : Ct P Su (numberAt r) := by
  unfold numberAt
  refine ⟨.inr fun e => .inr fun n => rfl, fun s => ?_⟩
  cases s with
  | none =>
    show Ct P Su (getObj r >>= _)
    refine Ct.bind (ct_getObj r) fun o => ?_
    split <;> exact Ct.pure _
  | some s => exact trivial
theorem ct_viewAt (r : Nat) : Ct P Su (viewAt r) := by
  unfold viewAt
  refine ⟨.inr fun e => .inr fun n => rfl, fun s => ?_⟩
  cases s with
  | none =>
    show Ct P Su (getObj r >>= _)
    refine Ct.bind (ct_getObj r) fun o => ?_
    split <;> exact Ct.pure _
  | some s => exact trivial
theorem ct_noView (a : Addr) : Ct P Su (noView a) := by
  unfold noView
  repeat' (first | with_reducible (first | exact Ct.pure _ | exact ct_viewAt _ | refine Ct.bind ?_ (fun _ => ?_)) | ((with_reducible refine ct_unsup _ ?_); exact trivial) | split | dsimp only)
theorem ct_behindNumber (a : Addr) : Ct P Su (behindNumber a) := by
  unfold behindNumber
  repeat' (first | with_reducible (first | exact Ct.pure _ | exact ct_numberAt _ | refine Ct.bind ?_ (fun _ => ?_)) | split | dsimp only)
theorem ct_asNumber (a : Addr) (b : Bool) : Ct P Su (asNumber a b) := by
  unfold asNumber
  repeat' (first | with_reducible (first | exact Ct.pure _ | exact ct_newObj _ | refine Ct.bind ?_ (fun _ => ?_)) | split | dsimp only)
theorem ct_byteOf (a : Addr) : Ct P Su (byteOf a) := by
  unfold byteOf
  split
  · exact Ct.pure _
  · refine Ct.prog (Ct.bind (ct_noView a) fun _ => ?_)
    refine ⟨.inr fun e => .inr fun n => rfl, fun s => ?_⟩
    cases s with
    | none => exact trivial
    | some s =>
      show Ct P Su (if P.cellsOf s.1 = 0 then _ else _)
      split
      · exact Ct.pure _
      · split
        · exact Ct.pure _
        · exact Ct.stuck _
theorem ct_unsafeAdd (t : TypeId) (x y : Value) : Ct P Su (Builtin.unsafeAdd_ #[] t #[x, y]) := by
  unfold Builtin.unsafeAdd_
  cases x with
  | pointer ptr =>
    show Ct P Su (asInt y >>= _)
    refine Ct.bind (ct_asInt _) fun n => ?_
    have none_ : ∀ (a : Addr) (e : TypeId), cellAtBytes P P.depth e (0 / P.cellsOf e) a.off n = none := fun a e => by
      unfold cellAtBytes
      simp only [Nat.zero_div, Nat.zero_mul]
      by_cases h0 : (decide (P.cellsOf e = 0) || decide (P.bytesOf e = 0)) = true
      · simp [h0]
      · rw [if_neg h0]
        cases byteOfCell P P.depth e (a.off % P.cellsOf e) with
        | none => rfl
        | some here =>
          simp only [bind, Option.bind]
          rw [if_pos (by simp; omega)]
    dsimp only
    split
    · split
      · refine Ct.bind (ct_viewAt _) fun v => ?_
        split
        · exact trivial
        · exact Ct.pure _
      · exact trivial
    · split
      · exact trivial
      · split
        · rename_i a
          refine ⟨.inr fun e => .inl ?_, fun s => ?_⟩
          · show Dead P (match cellAtBytes P P.depth e (0 / P.cellsOf e) a.off n with | some off => _ | none => _)
            rw [none_]
            exact trivial
          · cases s with
            | none => exact trivial
            | some s =>
              show Ct P Su (match cellAtBytes P P.depth s.1 (s.2 / P.cellsOf s.1) a.off n with | some off => _ | none => _)
              split
              · exact Ct.pure _
              · exact trivial
        · exact trivial
  | _ => exact Ct.stuck _
theorem ct_partAt (a : Addr) (c b : Nat) : Ct P Su (partAt a c b) := by
  unfold partAt
  repeat' (first | with_reducible (first | exact Ct.pure _ | exact ct_byteOf _ | refine Ct.bind ?_ (fun _ => ?_)) | split | dsimp only)
theorem ct_fieldPlace (a : Addr) (f : Field) : Ct P Su (fieldPlace a f) := by
  unfold fieldPlace
  repeat' (first | with_reducible (first | exact Ct.pure _ | exact ct_sizeOf _ | exact ct_partAt _ _ _ | refine Ct.bind ?_ (fun _ => ?_)) | split | dsimp only)
theorem ct_fieldAt (t : TypeId) (x : Value) (f : Nat) : Ct P Su (Instr.fieldAt t x f) := by
  unfold Instr.fieldAt
  repeat' (first | with_reducible (first | exact Ct.pure _ | exact Ct.stuck _ | exact ct_underlying _ | exact ct_sureAddr _ | exact ct_fieldPlace _ _ | refine Ct.bind ?_ (fun _ => ?_)) | split | dsimp only)
theorem ct_movedNumber (t : TypeId) (x y : Value) : Ct P Su (movedNumber t x y) := by
  unfold movedNumber
  repeat' (first | with_reducible (first | exact Ct.pure _ | exact ct_underlying _ | exact ct_behindNumber _ | exact ct_asNumber _ _ | exact ct_unsafeAdd _ _ _ | refine Ct.bind ?_ (fun _ => ?_)) | ((with_reducible refine ct_unsup _ ?_); exact trivial) | split | dsimp only)
theorem ct_movedPointer (t : TypeId) (x y : Value) : Ct P Su (movedPointer t x y) := by
  unfold movedPointer
  repeat' (first | with_reducible (first | exact ct_numberAt _ | exact ct_unsafeAdd _ _ _ | refine Ct.bind ?_ (fun _ => ?_)) | ((with_reducible refine ct_unsup _ ?_); exact trivial) | split | dsimp only)
theorem ct_twoPlaces (a b : Addr) : Ct P Su (Op.twoPlaces a b) := by
  unfold Op.twoPlaces
  repeat' (first | with_reducible (first | exact Ct.pure _ | exact ct_byteOf _ | refine Ct.prog ?_ | refine Ct.bind ?_ (fun _ => ?_)) | ((with_reducible refine ct_unsup _ ?_); exact trivial) | split | dsimp only)
theorem ct_addrSub (k : IntKind) (a b : Addr) : Ct P Su (Op.addrSub k a b) := by
  unfold Op.addrSub
  repeat' (first | with_reducible (first | exact Ct.pure _ | exact ct_twoPlaces _ _ | refine Ct.bind ?_ (fun _ => ?_)) | split | dsimp only)
theorem ct_addrCmp (o : BinOp) (a b : Addr) : Ct P Su (Op.addrCmp o a b) := by
  unfold Op.addrCmp
  repeat' (first | with_reducible (first | exact Ct.pure _ | exact ct_twoPlaces _ _ | refine Ct.bind ?_ (fun _ => ?_)) | ((with_reducible refine ct_unsup _ ?_); exact trivial) | split | dsimp only)
theorem ct_addrMod (k : IntKind) (a : Addr) (n : Int) : Ct P Su (Op.addrMod k a n) := by
  unfold Op.addrMod
  refine ⟨.inr fun e => .inr fun n => rfl, fun s => ?_⟩
  cases s with
  | none => exact trivial
  | some s =>
    show Ct P Su (typeInfo s.1 >>= _)
    refine Ct.bind (ct_typeInfo _) fun i => ?_
    dsimp only
    split
    · exact trivial
    · exact Ct.bind (ct_byteOf _) fun _ => Ct.pure _
def eqT (P : Program) (t : TypeId) : Bool := match P.underlying t with
  | some .bool | some (.int _) | some (.float _) | some (.complex _) | some .string | some (.chan _ _) | some (.slice _) | some (.map _ _) | some (.func _ _ _) => true
  | _ => false
theorem cl_underlying (t : TypeId) : Cl P Su (fun d => P.underlying t = some d) (underlying t) := by
  unfold underlying
  show Cl P Su _ (match P.underlying t with | some d => Pure.pure d | none => Go.stuck "no such type")
  cases h : P.underlying t with
  | none => exact trivial
  | some d => exact rfl
theorem ct_equal (t : TypeId) (h : eqT P t = true) (x y : Value) : Ct P Su (Op.equal t x y) := by
  unfold Op.equal Op.maxDepth
  show Ct P Su (Op.equalIn (9999 + 1) t x y)
  unfold Op.equalIn
  refine Cl.then_ (cl_underlying t) fun d hd => ?_
  unfold eqT at h
  rw [hd] at h
  cases d <;> dsimp only at h <;> first | (exact absurd h (by decide)) | skip
  all_goals repeat' (first | with_reducible (first | exact Ct.pure _ | exact Ct.stuck _ | exact ct_typeInfo _ | exact ct_behindNumber _ | exact ct_byteOf _ | refine Ct.prog ?_ | refine Ct.bind ?_ (fun _ => ?_)) | ((with_reducible refine ct_unsup _ ?_); exact trivial) | contradiction | split | dsimp only)
theorem ct_eqGuardIn (t : TypeId) (h : eqT P t = true) (x y : Value) : Ct P Su (Op.eqGuardIn Op.maxDepth t x y) := by
  unfold Op.maxDepth
  show Ct P Su (Op.eqGuardIn (9999 + 1) t x y)
  unfold Op.eqGuardIn
  refine Cl.then_ (cl_underlying t) fun d hd => ?_
  unfold eqT at h
  rw [hd] at h
  cases d <;> dsimp only at h <;> first | (exact absurd h (by decide)) | skip
  all_goals repeat' (first | with_reducible (first | exact Ct.pure _) | contradiction | split | dsimp only)
theorem ct_eqGuard (o : BinOp) (t : TypeId) (h : eqT P t = true) (x y : Operand) (a b : Value) : Ct P Su (eqGuard o t x y a b) := by
  unfold eqGuard
  repeat' (first | with_reducible (first | exact Ct.pure _ | exact ct_eqGuardIn _ h _ _ | refine Ct.prog ?_ | refine Ct.bind ?_ (fun _ => ?_)) | ((with_reducible refine ct_unsup _ ?_); exact trivial) | split | dsimp only)
theorem ct_binOp (o : BinOp) (t : TypeId) (h : eqT P t = true) (a b : Value) : Ct P Su (binOp o t a b) := by
  unfold binOp
  repeat' (first | with_reducible (first | exact Ct.pure _ | exact Ct.stuck _ | exact ct_underlying _ | exact ct_stringOp _ _ _ | exact ct_shift _ _ _ _ _ | exact ct_intDiv _ _ _ _ | exact ct_intArith _ _ _ _ | exact ct_intBits _ _ _ _ | exact ct_intCmp _ _ _ | exact ct_floatArith _ _ _ _ | exact ct_floatCmp _ _ _ _ | exact ct_complexOp _ _ _ _ _ _ | exact ct_behindNumber _ | exact ct_movedNumber _ _ _ | exact ct_movedPointer _ _ _ | exact ct_addrSub _ _ _ | exact ct_addrCmp _ _ _ | exact ct_addrMod _ _ _ | exact ct_equal _ h _ _ | refine Ct.bind ?_ (fun _ => ?_)) | ((with_reducible refine ct_unsup _ ?_); exact trivial) | split | dsimp only)
end
end Go.Proofs.YtckoipoejaafhaaDoor.Cc
