/-
  Texts that stood one behind the other, as one.
-/
import Derived.Test.YtckoipoejaafhaaDoorCeBAll
import Derived.Test.YtckoipoejaafhaaDoorPlanCAll
import Derived.Test.YtckoipoejaafhaaDoorPlanMAll
import Derived.Conc.EventLaws
import Derived.RowKit3
namespace Go.Proofs.YtckoipoejaafhaaDoor.Cc
open Go Go.Conc Go.RowKit
open Go.ConcR (Payload)
theorem run_ev {P : Program} {α : Type} {s : Sem α} {w : World} {r : Result α} {m : Array Event} (h1 : s.run P w = r) (h2 : s.events P w #[] = m) : s.runT P w #[] = (r, m) := by
  rw [← h1, ← h2, ← Sem.runT_fst P s w #[]]
  rfl
theorem evT_tmp (n : Nat) (σ : Nat → Value) (j : Nat) : evT (arr n σ) (.tmp j) = if j < n then σ j else undef := by
  by_cases h : j < n
  · rw [arr_ev h, if_pos h]
  · rw [if_neg h]
    show (arr n σ).getD j undef = _
    rw [Array.getD_eq_getD_getElem?, arr_get, if_neg h]
    rfl
theorem evT_const (n : Nat) (σ : Nat → Value) (v : Value) : evT (arr n σ) (.const v) = v := rfl
theorem evT_func (n : Nat) (σ : Nat → Value) (f : FuncId) : evT (arr n σ) (.func f) = .func (.func f) #[] #[] := rfl
theorem put_some (σ : Nat → Value) (d : Nat) (v : Value) (j : Nat) : put σ (some d) v j = if j = d then v else σ j := rfl
theorem put_none (σ : Nat → Value) (v : Value) : put σ none v = σ := rfl
theorem call_events {P : Program} {f : FuncId} {fn : Func} {c : Code} (hf : P.funcs[f]? = some fn) (hn : (fn.name == "runtime.NumGoroutine") = false) (hb : fn.body = some c) (args : Array Value) (w : World) : (callFunc f args).events P w #[] = #[] := by
  have h1 : ¬ fn.name = "runtime.NumGoroutine" := by simpa using hn
  simp [callFunc, hf, h1, hb]
theorem res1 {f : Func} {j : Nat} (h : f.results = #[.tmp j]) (P : Program) (ts : Array Value) (w : World) (es : Array Event) : (results f ts).runT P w es = (.ok (ts.getD j undef) w, es) := by
  simp only [results, h]
  rw [Array.mapM_eq_mapM_toList]
  simp only [List.mapM_cons, List.mapM_nil]
  rfl
theorem res2 {f : Func} {j j' : Nat} (h : f.results = #[.tmp j, .tmp j']) (P : Program) (ts : Array Value) (w : World) (es : Array Event) : (results f ts).runT P w es = (.ok (.tuple #[ts.getD j undef, ts.getD j' undef]) w, es) := by
  simp only [results, h]
  rw [Array.mapM_eq_mapM_toList]
  simp only [List.mapM_cons, List.mapM_nil]
  rfl
def sq1 : Code → Code | .seq a _ => a | c => c
def sq2 : Code → Code | .seq _ b => b | c => c
def blk : Code → Code | .block _ b => b | c => c
def lop : Code → Code | .loop b => b | c => c
def rgo : Code → Array Oper | .region _ ops _ => ops | _ => #[]
section
variable [Payload] {P : Program} {main : Bool} {Wg k : Nat} {I : World → Prop} {Sh : Nat → Prop} {Stop Stop' : Stp} {Ow : Nat → Prop} {g : Goroutine} {w : World} {dk : Bool} {fn : FuncId} {n : Nat} {ds : List Deferred} {σ : Nat → Value} {q : List Item} {cs : List Frame} {ops : Array Oper} {i : Nat} {rest : List Nat} {o : Oper} {x : Operand}
theorem wy_mv (d : Option Tmp) (ho : ops[i]? = some o) (hd : o.dst = d) (hg : o.guard = none) (hop : o.op = .move x) (h : Wy P main Wg k I Sh Stop Ow (G (fd dk fn n ds (put σ d (evT (arr n σ) x)) (.inRegion ops rest :: q)) cs) w) : Wy P main Wg k I Sh Stop Ow (G (fd dk fn n ds σ (.inRegion ops (i :: rest) :: q)) cs) w := by
  refine wy_pure d _ ho hd hg (fun w₁ => ?_) h
  obtain ⟨dst, op, type, pos, after, guard⟩ := o
  simp only at hop
  subst hop
  exact run_ev (by simp [execOp]) (by simp [execOp])
theorem wy_as (d : Option Tmp) (ho : ops[i]? = some o) (hd : o.dst = d) (hg : o.guard = none) (hop : o.op = .assign x) (h : Wy P main Wg k I Sh Stop Ow (G (fd dk fn n ds (put σ d (evT (arr n σ) x)) (.inRegion ops rest :: q)) cs) w) : Wy P main Wg k I Sh Stop Ow (G (fd dk fn n ds σ (.inRegion ops (i :: rest) :: q)) cs) w := by
  refine wy_pure d _ ho hd hg (fun w₁ => ?_) h
  obtain ⟨dst, op, type, pos, after, guard⟩ := o
  simp only at hop
  subst hop
  exact run_ev (by simp [execOp]) (by simp [execOp])
theorem wy_extr {xs : Array Value} {v : Value} {j : Nat} (d : Option Tmp) (ho : ops[i]? = some o) (hd : o.dst = d) (hg : o.guard = none) (hop : o.op = .extract x j) (hx : evT (arr n σ) x = .tuple xs) (hv : xs[j]? = some v) (h : Wy P main Wg k I Sh Stop Ow (G (fd dk fn n ds (put σ d v) (.inRegion ops rest :: q)) cs) w) : Wy P main Wg k I Sh Stop Ow (G (fd dk fn n ds σ (.inRegion ops (i :: rest) :: q)) cs) w := by
  refine wy_pure d v ho hd hg (fun w₁ => ?_) h
  obtain ⟨dst, op, type, pos, after, guard⟩ := o
  simp only at hop
  subst hop
  exact run_ev (by simp [execOp, Instr.extract, hx, hv]) (by simp [execOp, Instr.extract, hx, hv])
theorem wy_backc {fn' : FuncId} {ts : Array Value} {td : List Item} {c : Frame} {f : Func} (v : Value) (hf : P.funcs[fn']? = some f) (hr : ∀ (w : World) es, (results f ts).runT P w es = (.ok v w, es))
    (h : Wy P main Wg k I Sh Stop Ow (G (c.finish v) cs) w) : Wy P main Wg k I Sh Stop Ow (G (frm fn' ts td .returning) (c :: cs)) w := by
  refine Way.of_step rfl fun w₁ s => ?_
  exact ⟨_, w₁, seen P fn' #[], Ow, st_return hf (fun es => hr w₁ es), Act1.still _ _ _ _ _ _ (fun e he => absurd (mem_seen he) (by simp)), h.suf s⟩
theorem Wy.bindJ {J : (Nat → Prop) → World → Prop} (h : Wy P main Wg k I Sh Stop Ow g w) (hI : I w) (hJ : J Ow w) (js : ∀ Ow w w₁, J Ow w → Suf Sh Ow I w w₁ → J Ow w₁) (ja : ∀ Ow w w' es Ow', J Ow w → I w → Act1 Wg k none Sh Ow w w' es Ow' → J Ow' w' ∧ I w')
    (hk : ∀ Ow g w, Stop Ow g w → J Ow w → I w → Wy P main Wg k I Sh Stop' Ow g w) : Wy P main Wg k I Sh Stop' Ow g w := by
  obtain ⟨od, h⟩ := h
  induction od generalizing Ow g w with
  | leaf => exact hk _ _ _ (h _ ⟨Kept.refl _ _ _, hI⟩) hJ hI
  | mk f ih =>
    refine Way.of_step h.1 fun w₁ s => ?_
    obtain ⟨g', w', es, Ow', h1, h2, h3⟩ := h.2 w₁ s
    obtain ⟨j1, j2⟩ := ja _ _ _ _ _ (js _ _ _ hJ s) s.inv h2
    exact ⟨g', w', es, Ow', h1, h2, ih w₁ j2 j1 h3⟩
end
structure Jn (Sh : Nat → Prop) (w0 : World) (Ow : Nat → Prop) (w : World) : Prop where
  size : w0.heap.size ≤ w.heap.size
  sep : ∀ b, Sh b → ¬ Ow b ∧ b < w.heap.size
  at_ : ∀ b, Sh b → w.heap[b]? = w0.heap[b]?
section
variable {Sh Ow : Nat → Prop} {w0 w w' : World}
theorem Jn.refl (h : ∀ b, Sh b → ¬ Ow b ∧ b < w.heap.size) : Jn Sh w Ow w := ⟨Nat.le_refl _, h, fun _ _ => rfl⟩
theorem Jn.kept (h : Jn Sh w0 Ow w) (k : Kept Sh Ow w w') : Jn Sh w0 Ow w' := ⟨Nat.le_trans h.size k.size, fun b hb => ⟨(h.sep b hb).1, Nat.lt_of_lt_of_le (h.sep b hb).2 k.size⟩, fun b hb => (k.block b (.inl hb)).trans (h.at_ b hb)⟩
theorem Jn.new (h : Jn Sh w0 Ow w) (o : Obj) : Jn Sh w0 (fun b => Ow b ∨ b = w.heap.size) (w.alloc o) :=
  ⟨by have := h.size; simp; omega, fun b hb => by
    have := h.sep b hb
    refine ⟨fun q => q.elim this.1 fun e => ?_, ?_⟩
    · omega
    · simp; omega, fun b hb => by
    have := (h.sep b hb).2
    rw [Below.heap_alloc w o b this]
    exact h.at_ b hb⟩
theorem Jn.set (h : Jn Sh w0 Ow w) {a : Addr} (ha : Ow a.block) (v : Value) : Jn Sh w0 Ow (w.setCell a v) :=
  ⟨by have := h.size; simpa [World.setCell] using this, fun b hb => by
    have := h.sep b hb
    exact ⟨this.1, by simpa [World.setCell] using this.2⟩, fun b hb => by
    have := h.sep b hb
    rw [Below.heap_setCell w a v b fun e => this.1 (e ▸ ha)]
    exact h.at_ b hb⟩
theorem Jn.act [Payload] {Wg k : Nat} {es : Array Event} {Ow' : Nat → Prop} (h : Jn Sh w0 Ow w) (a : Act1 Wg k none Sh Ow w w' es Ow') : Jn Sh w0 Ow' w' :=
  ⟨Nat.le_trans h.size a.size, fun b hb => by
    have := h.sep b hb
    refine ⟨fun q => (a.new b q).elim this.1 fun x => ?_, Nat.lt_of_lt_of_le this.2 a.size⟩
    omega, fun b hb => by
    have := h.sep b hb
    rw [a.block b this.2 this.1 fun _ e => nomatch e]
    exact h.at_ b hb⟩
end
structure Kq (Sh Ow : Nat → Prop) (w0 w : World) : Prop where
  size : w0.heap.size ≤ w.heap.size
  same : ∀ b, b < w0.heap.size → Sh b ∨ Ow b → w.heap[b]? = w0.heap[b]?
section
variable {Sh Ow Ow' : Nat → Prop} {w0 w w' : World}
theorem Kq.refl (Sh Ow : Nat → Prop) (w : World) : Kq Sh Ow w w := ⟨Nat.le_refl _, fun _ _ _ => rfl⟩
theorem Kq.kept (h : Kq Sh Ow w0 w) (k : Kept Sh Ow' w w') (ho : ∀ b, Ow b → Ow' b) : Kq Sh Ow w0 w' := ⟨Nat.le_trans h.size k.size, fun b hb hs => (k.block b (hs.imp id (ho b))).trans (h.same b hb hs)⟩
theorem Kq.new (h : Kq Sh Ow w0 w) (o : Obj) : Kq Sh Ow w0 (w.alloc o) :=
  ⟨by have := h.size; simp; omega, fun b hb hs => by
    have := h.size
    rw [Below.heap_alloc w o b (by omega)]
    exact h.same b hb hs⟩
theorem Kq.set (h : Kq Sh Ow w0 w) {a : Addr} (ha : w0.heap.size ≤ a.block) (v : Value) : Kq Sh Ow w0 (w.setCell a v) :=
  ⟨by have := h.size; simpa [World.setCell] using this, fun b hb hs => by
    rw [Below.heap_setCell w a v b (by omega)]
    exact h.same b hb hs⟩
end
theorem IsU.of_block {w w' : World} {b o l c : Nat} {xs : List Nat} (h : IsU w (.slice (some ⟨b, o, none⟩) l c) xs) (hb : w'.heap[b]? = w.heap[b]?) : IsU w' (.slice (some ⟨b, o, none⟩) l c) xs := by
  obtain ⟨a, cap, e, h1, h2, hc, hr⟩ := h
  simp only [Value.slice.injEq] at e
  obtain ⟨rfl, rfl, rfl⟩ := e
  refine ⟨_, _, rfl, h1, h2, fun i hi => ?_, hr⟩
  obtain ⟨b', off, e, hcell⟩ := hc i hi
  simp only [Option.some.injEq, Addr.mk.injEq, and_true] at e
  obtain ⟨rfl, rfl⟩ := e
  refine ⟨b, o, rfl, ?_⟩
  simp only [World.cell?, hb]
  exact hcell
theorem IsZ.of_block {w w' : World} {b o l c : Nat} {xs : List Int} (h : IsZ w (.slice (some ⟨b, o, none⟩) l c) xs) (hb : w'.heap[b]? = w.heap[b]?) : IsZ w' (.slice (some ⟨b, o, none⟩) l c) xs := by
  obtain ⟨a, cap, e, h1, h2, hc, hr⟩ := h
  simp only [Value.slice.injEq] at e
  obtain ⟨rfl, rfl, rfl⟩ := e
  refine ⟨_, _, rfl, h1, h2, fun i hi => ?_, hr⟩
  obtain ⟨b', off, e, hcell⟩ := hc i hi
  simp only [Option.some.injEq, Addr.mk.injEq, and_true] at e
  obtain ⟨rfl, rfl⟩ := e
  refine ⟨b, o, rfl, ?_⟩
  simp only [World.cell?, hb]
  exact hcell
theorem Tab.of_blocks {w w' : World} (h : Tab w) (hb : ∀ g ∈ tabsL, w'.heap[g]? = w.heap[g]?) : Tab w' := by
  refine ⟨fun j hj => ?_, ?_, TabE.any _⟩
  · have := h.1 j hj
    have e := hb 2 (by simp [tabsL])
    simp only [World.cell?] at this ⊢
    rw [e]
    exact this
  · have h2 := h.2.1
    unfold TabP Lib.TabIs World.var? at h2 ⊢
    rw [gPow] at h2 ⊢
    simp only [Option.bind_some] at h2 ⊢
    rw [hb _ tabP_in]
    exact h2
def One (w : World) (b : Nat) : Prop := ∃ cs e fr, w.heap[b]? = some (.cells cs e fr) ∧ OneC cs
structure Fo (Sh : Nat → Prop) (dl : List Nat) (zs : List Int) (vz : Value) (w : World) : Prop where
  shp : ∃ bz oz cz, vz = .slice (some ⟨bz, oz, none⟩) dl.length cz ∧ IsZ w vz zs ∧ Sh bz ∧ One w bz
  tab : Tab w
  tabs : ∀ g ∈ tabsL, Sh g ∧ One w g
def Ar (Sh Ow : Nat → Prop) (N : Nat) (w : World) (v : Value) (ys : List Nat) : Prop := ∃ b o c, v = .slice (some ⟨b, o, none⟩) N c ∧ IsU w v ys ∧ ys.length = N ∧ (Sh b ∨ Ow b) ∧ One w b
section
variable {Sh Ow Ow' : Nat → Prop} {w w' : World} {dl : List Nat} {zs : List Int} {vz v : Value} {N : Nat} {ys : List Nat}
theorem One.of {b : Nat} (h : One w b) (e : w'.heap[b]? = w.heap[b]?) : One w' b := by unfold One; rw [e]; exact h
theorem One.lt {b : Nat} (h : One w b) : b < w.heap.size := by obtain ⟨_, _, _, h, _⟩ := h; exact (Array.getElem?_eq_some_iff.1 h).1
theorem Fo.keep (h : Fo Sh dl zs vz w) (k : ∀ b, Sh b → w'.heap[b]? = w.heap[b]?) : Fo Sh dl zs vz w' := by
  obtain ⟨⟨bz, oz, cz, rfl, h1, h2, h3⟩, ht, hg⟩ := h
  exact ⟨⟨bz, oz, cz, rfl, IsZ.of_block h1 (k _ h2), h2, h3.of (k _ h2)⟩, Tab.of_blocks ht fun g hg' => k _ (hg g hg').1, fun g hg' => ⟨(hg g hg').1, (hg g hg').2.of (k _ (hg g hg').1)⟩⟩
theorem Ar.keep (h : Ar Sh Ow N w v ys) (k : ∀ b, Sh b ∨ Ow b → w'.heap[b]? = w.heap[b]?) : Ar Sh Ow N w' v ys := by
  obtain ⟨b, o, c, rfl, h1, h2, h3, h4⟩ := h
  exact ⟨b, o, c, rfl, IsU.of_block h1 (k _ h3), h2, h3, h4.of (k _ h3)⟩
theorem Ar.kp (h : Ar Sh Ow N w v ys) (k : Kq Sh Ow w w') : Ar Sh Ow N w' v ys := by
  obtain ⟨b, o, c, rfl, h1, h2, h3, h4⟩ := h
  exact ⟨b, o, c, rfl, IsU.of_block h1 (k.same _ h4.lt h3), h2, h3, h4.of (k.same _ h4.lt h3)⟩
theorem Ar.grow (h : Ar Sh Ow N w v ys) (k : ∀ b, Ow b → Ow' b) : Ar Sh Ow' N w v ys := by
  obtain ⟨b, o, c, rfl, h1, h2, h3, h4⟩ := h
  exact ⟨b, o, c, rfl, h1, h2, h3.imp id (k b), h4⟩
theorem Ar.of_row {g : Nat} (h : RowU w g ys) (hr : Rng ys) (hl : ys.length = N) (hn : N ≤ 1024) (ho : Ow g) : Ar Sh Ow N w (.slice (some ⟨g, 0, none⟩) N N) ys := by
  subst hl
  refine ⟨g, 0, _, rfl, h.isU hr (by omega), rfl, .inr ho, _, _, _, h, trivial⟩
end
def tkV (t : List Int) : Value := .agg #[.int .i64 (t.getD 0 0), .int .i64 (t.getD 1 0), .int .i64 (t.getD 2 0)]
def wkL (dl : List Nat) (back : Bool) : List (List Int) → List Nat → List Nat
  | [], ys => ys
  | t :: T, ys => wkL dl back T (trn dl (nmL ys) (t.getD 0 0).toNat (t.getD 1 0).toNat (t.getD 2 0).toNat back)
theorem trn_rng (dl ys : List Nat) (x f l : Nat) (back : Bool) : Rng (trn dl (nmL ys) x f l back) := fun z hz => by
  unfold trn trK at hz
  obtain ⟨p, _, rfl⟩ := List.mem_map.mp hz
  split
  · exact Rng_of_P (mk_lt 1 (fun _ => alo dl x back (cf (nmL ys)) p)) _ (by simp [mk])
  · rw [nmL_get]
    have := fN_lt (ys.getD p 0)
    omega
noncomputable def daB : Code := lop (blk (sq2 (sq1 (sq2 (Tryd.f80.body.getD .skip)))))
noncomputable def daT : Code := sq2 (sq2 (Tryd.f80.body.getD .skip))
noncomputable def daK : List Item := [.code (sq2 daB), .inLoop daB, .inBlock 0, .code daT]
noncomputable def atR (σ : Nat → Value) : Frame := fd false 80 23 [] σ (.inRegion (rgo (sq1 daB)) [0, 1] :: daK)
def zTk : Value := .agg #[.int .i64 0, .int .i64 0, .int .i64 0]
def set3 (B : Nat) (v0 v1 v2 : Value) (w : World) : World := ((w.setCell ⟨B, 0, none⟩ v0).setCell ⟨B, 1, none⟩ v1).setCell ⟨B, 2, none⟩ v2
theorem set3_size (B : Nat) (v0 v1 v2 : Value) (w : World) : (set3 B v0 v1 v2 w).heap.size = w.heap.size := by simp [set3, World.setCell]
theorem set3_other (B : Nat) (v0 v1 v2 : Value) (w : World) {b : Nat} (h : b ≠ B) : (set3 B v0 v1 v2 w).heap[b]? = w.heap[b]? := by
  unfold set3
  rw [Below.heap_setCell _ _ _ _ h, Below.heap_setCell _ _ _ _ h, Below.heap_setCell _ _ _ _ h]
theorem set3_at {B : Nat} {u0 u1 u2 : Value} (v0 v1 v2 : Value) {w : World} {e : TypeId} (h : w.heap[B]? = some (.cells #[u0, u1, u2] e)) : (set3 B v0 v1 v2 w).heap[B]? = some (.cells #[v0, v1, v2] e) := by
  simp only [set3, World.setCell, Array.getElem?_modify, if_true, h, Option.map_some]
  rfl
theorem alloc_at (w : World) (o : Obj) : (w.alloc o).heap[w.heap.size]? = some o := by
  show (w.heap.push o)[w.heap.size]? = _
  simp
theorem set3_run {w : World} {ρ : Operand → Value} {x y : Operand} {d : Option Tmp} {ty : TypeId} {pos : String} {af : Array Edge} {gd : Option (Nat × Bool)} {B : Nat} {a b c : Int} {u0 u1 u2 : Value} (hx : ρ x = .pointer (some ⟨B, 0, none⟩)) (hy : ρ y = .agg #[.int .i64 a, .int .i64 b, .int .i64 c]) (h : w.heap[B]? = some (.cells #[u0, u1, u2] 71)) :
    (execOp ρ ⟨d, .store 71 x y, ty, pos, af, gd⟩).runT Tryd.prog w #[] = (.ok .skip (set3 B (.int .i64 a) (.int .i64 b) (.int .i64 c) w), #[⟨.cell ⟨B, 0, none⟩, true, false⟩, ⟨.cell ⟨B, 1, none⟩, true, false⟩, ⟨.cell ⟨B, 2, none⟩, true, false⟩]) := by
  have c0 : w.cell? ⟨B, 0, none⟩ = some u0 := by simp [World.cell?, h]
  have c1 : w.cell? ⟨B, 1, none⟩ = some u1 := by simp [World.cell?, h]
  have c2 : w.cell? ⟨B, 2, none⟩ = some u2 := by simp [World.cell?, h]
  have f0 : ∀ j, w.frozen? ⟨B, j, none⟩ = false := fun j => by simp [World.frozen?, h]
  apply run_ev
  · simp [execOp, go_sem, hx, hy, set3, stored, c0, c1, c2, f0]
  · simp [execOp, go_sem, hx, hy, storedEv, c0, c1, c2, f0]
theorem get3_run {w : World} {ρ : Operand → Value} {x : Operand} {d : Option Tmp} {ty : TypeId} {pos : String} {af : Array Edge} {gd : Option (Nat × Bool)} {B : Nat} {v0 v1 v2 : Value} (hx : ρ x = .pointer (some ⟨B, 0, none⟩)) (h : w.heap[B]? = some (.cells #[v0, v1, v2] 71)) :
    (execOp ρ ⟨d, .load 71 x, ty, pos, af, gd⟩).runT Tryd.prog w #[] = (.ok (.value (.agg #[v0, v1, v2])) w, #[⟨.cell ⟨B, 0, none⟩, false, false⟩, ⟨.cell ⟨B, 1, none⟩, false, false⟩, ⟨.cell ⟨B, 2, none⟩, false, false⟩]) := by
  have c0 : w.cell? ⟨B, 0, none⟩ = some v0 := by simp [World.cell?, h]
  have c1 : w.cell? ⟨B, 1, none⟩ = some v1 := by simp [World.cell?, h]
  have c2 : w.cell? ⟨B, 2, none⟩ = some v2 := by simp [World.cell?, h]
  apply run_ev
  · simp [execOp, go_sem, hx, c0, c1, c2]
  · simp [execOp, go_sem, hx, c0, c1, c2]
theorem Kq.set3 {Sh Ow : Nat → Prop} {w0 w : World} (h : Kq Sh Ow w0 w) {B : Nat} (ha : w0.heap.size ≤ B) (v0 v1 v2 : Value) : Kq Sh Ow w0 (set3 B v0 v1 v2 w) := ((h.set (a := ⟨B, 0, none⟩) ha v0).set (a := ⟨B, 1, none⟩) ha v1).set (a := ⟨B, 2, none⟩) ha v2
theorem Jn.set3 {Sh Ow : Nat → Prop} {w0 w : World} (h : Jn Sh w0 Ow w) {B : Nat} (ha : Ow B) (v0 v1 v2 : Value) : Jn Sh w0 Ow (set3 B v0 v1 v2 w) := ((h.set (a := ⟨B, 0, none⟩) ha v0).set (a := ⟨B, 1, none⟩) ha v1).set (a := ⟨B, 2, none⟩) ha v2
section
variable [Payload] {ty : TypeId} {Wg C n i k c : Nat} {Sh : Nat → Prop} {Tl : Value → (Nat → Prop) → World → Prop} {dl : List Nat} {zs : List Int} {x : Nat} {back : Bool} {vz : Value} {L : List Nat} {c0 : Frame} {cs0 : List Frame}
omit [Payload] in
theorem atR_comm {σ : Nat → Value} (h : σ 10 = .chan (some c)) (w : World) : stepG Tryd.prog false (G (atR σ) (c0 :: cs0)) w = .comm (G (atR σ) (c0 :: cs0)) #[rcase c zTk] true (.recv true) w #[] := by
  unfold atR
  have ho : (rgo (sq1 daB))[0]? = some ⟨some 11, .recv 164 (.tmp 10) true, 0, "exec.go:214", #[], none⟩ := rfl
  rw [sd_oper ho rfl]
  have hx : (execOp (evT (arr 23 σ)) ⟨some 11, .recv 164 (.tmp 10) true, 0, "exec.go:214", #[], none⟩).runT Tryd.prog w #[] = (.ok (.comm #[rcase c zTk] true (.recv true)) w, #[]) := by
    apply run_ev
    · simp [execOp, go_sem, evT_tmp, h, rcase, zTk]
    · simp [execOp, go_sem, evT_tmp, h]
  unfold stepG.apply
  dsimp only
  rw [if_pos rfl, hx]
  simp [fd, G, GStep.after, seen]
omit [Payload] in
theorem served_atR (σ : Nat → Value) (v : Value) : Go.Conc.served (G (atR σ) (c0 :: cs0)) v = G (fd false 80 23 [] (put σ (some 11) v) (.inRegion (rgo (sq1 daB)) [1] :: daK)) (c0 :: cs0) := by
  unfold Go.Conc.served atR
  simp only [G]
  rw [finish_arr _ _ _ _ _ _ _ _ _ _ (rfl : (rgo (sq1 daB))[0]? = some _)]
  rfl
set_option maxRecDepth 100000 in
set_option maxHeartbeats 4000000 in
theorem doAll_recv (hG : Good zs dl) (hn : prd2 dl ≤ 1024) (hx : x < dl.length) {E : World → Prop} (hE : ∀ w w' : World, E w → (∀ b, Sh b → w'.heap[b]? = w.heap[b]?) → E w')
    (hend : ∀ (Ow : Nat → Prop) (w : World) (v : Value), Jn Sh w Ow w → Fo Sh dl zs vz w → E w → Ar Sh Ow (prd2 dl) w v L → Wy Tryd.prog false Wg i yes Sh (WStore Tryd.prog ty Wg C n k Tl) Ow (G (c0.finish v) cs0) w) :
    ∀ (T : List (List Int)) (ys : List Nat) (v : Value) (σ : Nat → Value) (Ow : Nat → Prop) (w : World), (∀ t ∈ T, Vld (nln dl x) x t) → wkL dl back T ys = L → σ 0 = vz → σ 1 = v → σ 3 = .bool back → σ 10 = .chan (some c) → Jn Sh w Ow w → Fo Sh dl zs vz w → E w → Ar Sh Ow (prd2 dl) w v ys →
      WRecv Tryd.prog ty Wg C n i k c zTk Sh Tl (T.map tkV) Ow (G (atR σ) (c0 :: cs0)) w := by
  intro T
  induction T with
  | nil =>
    intro ys v σ Ow w _ hL s0 s1 s3 s10 hJ hF hEw hA
    refine ⟨rfl, _, rfl, fun w' => atR_comm s10 w', fun w' => atR_comm s10 w', ?_⟩
    show Wy _ _ _ _ _ _ _ _ _ _
    rw [served_atR]
    refine wy_extr (xs := #[zTk, .bool false]) (v := .bool false) (some 12) rfl rfl rfl rfl (by simp [evT_tmp, put_some, recvd]) rfl ?_
    refine wy_regionEnd ?_
    refine wy_seq ?_
    refine wy_cond false (by simp [evT_tmp, put_some]) ?_
    refine wy_exit rfl ?_
    refine wy_seq ?_
    refine wy_region [0, 1] rfl ?_
    refine wy_mv (some 22) rfl rfl rfl rfl ?_
    refine wy_as (some 8) rfl rfl rfl rfl ?_
    refine wy_regionEnd ?_
    refine wy_ret ?_
    rw [fdR_frm]
    refine wy_backc v Tryd.func80 (fun w es => ?_) ?_
    · rw [res1 (j := 8) rfl]
      show (Result.ok (evT (arr 23 _) (.tmp 8)) w, es) = _
      simp [evT_tmp, put_some, s1]
    · refine hend Ow w v hJ hF hEw ?_
      rw [← hL]
      exact hA
  | cons t T ih =>
    intro ys v σ Ow w hT hL s0 s1 s3 s10 hJ hF hEw hA
    obtain ⟨v1, v2, v3, v4⟩ := hT t (by simp)
    refine ⟨rfl, _, rfl, fun w' => atR_comm s10 w', fun w' => atR_comm s10 w', ?_⟩
    show Wy _ _ _ _ _ _ _ _ _ _
    rw [served_atR]
    refine wy_extr (xs := #[tkV t, .bool true]) (v := .bool true) (some 12) rfl rfl rfl rfl (by simp [evT_tmp, put_some, recvd]) rfl ?_
    refine wy_regionEnd ?_
    refine wy_seq ?_
    refine wy_cond true (by simp [evT_tmp, put_some]) ?_
    refine wy_skip ?_
    refine wy_block ?_
    refine wy_seq ?_
    refine wy_region [0, 1, 2] rfl ?_
    refine wy_extr (xs := #[tkV t, .bool true]) (v := tkV t) (some 13) rfl rfl rfl rfl (by simp [evT_tmp, put_some, recvd]) rfl ?_
    refine wy_new (some 9) (fun B => .pointer (some ⟨B, 0, none⟩)) (.cells #[.int .i64 0, .int .i64 0, .int .i64 0] 71) rfl rfl rfl (fun w₁ => run_ev (by simp [execOp, go_sem]) (by simp [execOp, go_sem])) (fun w₁ k₁ => ?_)
    have hJ1 := (hJ.kept k₁.kept).new (.cells #[.int .i64 0, .int .i64 0, .int .i64 0] 71)
    have hK1 := ((Kq.refl Sh Ow w).kept k₁.kept fun _ h => h).new (.cells #[.int .i64 0, .int .i64 0, .int .i64 0] 71)
    have hB1 : (w₁.alloc (.cells #[.int .i64 0, .int .i64 0, .int .i64 0] 71)).heap[w₁.heap.size]? = some (.cells #[.int .i64 0, .int .i64 0, .int .i64 0] 71) := alloc_at _ _
    have hsz : w.heap.size ≤ w₁.heap.size := k₁.kept.size
    generalize w₁.alloc (.cells #[.int .i64 0, .int .i64 0, .int .i64 0] 71) = wA at hJ1 hK1 hB1
    clear k₁
    generalize w₁.heap.size = B at hJ1 hK1 hB1 hsz
    refine wy_set none B (set3 B (.int .i64 (t.getD 0 0)) (.int .i64 (t.getD 1 0)) (.int .i64 (t.getD 2 0))) rfl rfl rfl (.inr rfl) (fun w₂ k₂ => ?_) (fun w₂ k₂ => ?_)
    · have hb2 : w₂.heap[B]? = some (.cells #[.int .i64 0, .int .i64 0, .int .i64 0] 71) := (k₂.kept.block B (.inr (.inr rfl))).trans hB1
      refine ⟨#[⟨.cell ⟨B, 0, none⟩, true, false⟩, ⟨.cell ⟨B, 1, none⟩, true, false⟩, ⟨.cell ⟨B, 2, none⟩, true, false⟩], set3_run (by simp [evT_tmp, put_some]) (by simp [evT_tmp, put_some, tkV]) hb2, ?_, rfl, rfl, rfl, set3_size _ _ _ _ _, fun b hb => set3_other _ _ _ _ _ hb⟩
      intro e he
      simp only [List.mem_toArray, List.mem_cons, List.not_mem_nil, or_false] at he
      rcases he with rfl | rfl | rfl <;> exact ⟨_, rfl, rfl, rfl⟩
    have hJ3 := (hJ1.kept k₂.kept).set3 (B := B) (.inr rfl) (.int .i64 (t.getD 0 0)) (.int .i64 (t.getD 1 0)) (.int .i64 (t.getD 2 0))
    have hK3 := (hK1.kept k₂.kept fun b h => .inl h).set3 hsz (.int .i64 (t.getD 0 0)) (.int .i64 (t.getD 1 0)) (.int .i64 (t.getD 2 0))
    have hB3 := set3_at (.int .i64 (t.getD 0 0)) (.int .i64 (t.getD 1 0)) (.int .i64 (t.getD 2 0)) ((k₂.kept.block B (.inr (.inr rfl))).trans hB1)
    generalize set3 B (.int .i64 (t.getD 0 0)) (.int .i64 (t.getD 1 0)) (.int .i64 (t.getD 2 0)) w₂ = w3 at hJ3 hK3 hB3
    clear k₂ hJ1 hK1 hB1
    refine wy_regionEnd ?_
    refine wy_region [0, 1, 2, 3, 4, 5, 6, 7, 8] rfl ?_
    refine wy_mv (some 15) rfl rfl rfl rfl ?_
    refine wy_mv (some 16) rfl rfl rfl rfl ?_
    refine wy_val (some 17) (tkV t) rfl rfl rfl (fun w₄ k₄ => ⟨_, get3_run (by simp [evT_tmp, put_some, put_none]) ((k₄.kept.block B (.inr (.inr rfl))).trans hB3), fun e he => ?_⟩) ?_
    · simp only [List.mem_toArray, List.mem_cons, List.not_mem_nil, or_false] at he
      rcases he with rfl | rfl | rfl <;> exact ⟨_, rfl, rfl, rfl, .inr (.inr rfl)⟩
    refine wy_mv (some 18) rfl rfl rfl rfl ?_
    refine wy_call 122 #[vz, v, tkV t, .bool back] rfl rfl (fun w₄ => run_ev (by simp [execOp, go_sem, evT_tmp, evT_func, put_some, put_none, s0, s1, s3]) (by simp [execOp, go_sem, evT_tmp, evT_func, put_some, put_none, s0, s1, s3, call_events Tryd.func122 (by kernel_rfl) rfl])) ?_
    have hF3 := hF.keep hJ3.at_
    have hA3 := (hA.kp hK3).grow (Ow' := fun b => Ow b ∨ b = B) fun b h => .inl h
    obtain ⟨ba, oa, ca, rfl, iu, hl, hsb, hone⟩ := hA3
    obtain ⟨⟨bz, oz, cz, rfl, iz, hsz', honez⟩, htab, htabs⟩ := hF3
    have etk : tkV t = .agg #[.int .i64 (x : Int), .int .i64 (((t.getD 1 0).toNat : Nat) : Int), .int .i64 (((t.getD 2 0).toNat : Nat) : Int)] := by
      unfold tkV
      rw [v1, Int.toNat_of_nonneg v2, Int.toNat_of_nonneg (by omega)]
    rw [etk]
    refine Wy.bindJ (J := Jn Sh w) ((planDo_company (Sh := Sh) (Ow := fun b => Ow b ∨ b = B) (w := w3) (fun b => decide (b = bz ∨ b = ba ∨ b ∈ tabsL)) _ false
      x (t.getD 1 0).toNat (t.getD 2 0).toNat back iz iu (Tab.priv htab fun g hg => by simp [hg]) hG hn hl hx (by omega) (by omega)
      (fun b hb _ => by
        simp only [decide_eq_true_eq] at hb
        rcases hb with rfl | rfl | hb
        · exact honez
        · exact hone
        · exact (htabs b hb).2) (fun b hb => by
        simp only [decide_eq_true_eq] at hb
        rcases hb with rfl | rfl | hb
        · exact .inl hsz'
        · exact hsb
        · exact .inl (htabs b hb).1) (fun g hg => by
        have : g ∈ tabsL := by simp only [List.contains_iff_mem] at hg; simp [tabsL, hg]
        exact ⟨by simp [this], (htabs g this).2.lt⟩) ⟨by simp, honez.lt⟩ ⟨by simp, hone.lt⟩).way) trivial hJ3 (fun _ _ _ j s => j.kept s.kept) (fun _ _ _ _ _ j _ a => ⟨j.act a, trivial⟩) (fun Ow' g w' hs hj _ => ?_)
    obtain ⟨ts, td, g', rfl, hres, ho', hrow, hmono⟩ := hs
    refine wy_back (some 19) (.tuple #[.slice (some ⟨g', 0, none⟩) (prd2 dl) (prd2 dl), .int .i64 0]) rfl rfl Tryd.func122 (fun w es => ?_) ?_
    · have e : Tryd.prog.funcs.getD 122 default = Tryd.f122 := by rw [Array.getD_eq_getD_getElem?, Tryd.func122]; rfl
      rw [← e]
      exact hres _ _ _
    refine wy_mv (some 14) rfl rfl rfl rfl ?_
    refine wy_extr (xs := #[.slice (some ⟨g', 0, none⟩) (prd2 dl) (prd2 dl), .int .i64 0]) (v := .slice (some ⟨g', 0, none⟩) (prd2 dl) (prd2 dl)) (some 20) rfl rfl rfl rfl (by simp [evT_tmp, put_some]) rfl ?_
    refine wy_extr (xs := #[.slice (some ⟨g', 0, none⟩) (prd2 dl) (prd2 dl), .int .i64 0]) (v := .int .i64 0) (some 21) rfl rfl rfl rfl (by simp [evT_tmp, put_some]) rfl ?_
    refine wy_as (some 1) rfl rfl rfl rfl ?_
    refine wy_regionEnd ?_
    refine wy_inBlock ?_
    refine wy_inLoop ?_
    refine wy_seq ?_
    refine wy_region [0, 1] rfl ?_
    refine wy_stop (fun w₅ k₅ => ?_)
    have hj5 := hj.kept k₅.kept
    have e0 : (t.getD 0 0).toNat = x := by rw [v1]; simp
    refine ih (trn dl (nmL ys) x (t.getD 1 0).toNat (t.getD 2 0).toNat back) (.slice (some ⟨g', 0, none⟩) (prd2 dl) (prd2 dl)) _ Ow' w₅ (fun t' h => hT t' (by simp [h])) (by rw [← hL, wkL, e0]) ?_ ?_ ?_ ?_ (Jn.refl hj5.sep) (hF.keep hj5.at_) (hE _ _ hEw hj5.at_) ?_
    · simp [put_some, put_none, s0]
    · simp [put_some, evT_tmp]
    · simp [put_some, put_none, s3]
    · simp [put_some, put_none, s10]
    · refine Ar.of_row (hrow.block ?_) (trn_rng _ _ _ _ _ _) (trK_length _ _ _ _ _ _ _) hn ho'
      exact k₅.kept.block g' (.inr ho')
end
end Go.Proofs.YtckoipoejaafhaaDoor.Cc
