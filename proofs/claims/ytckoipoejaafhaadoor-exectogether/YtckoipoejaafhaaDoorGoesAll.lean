/-
  Texts that stood one behind the other, as one.
-/
import Derived.Test.YtckoipoejaafhaaDoorCeSAll
import Derived.Test.YtckoipoejaafhaaDoorCcWtAll
import Derived.Conc.LeavingOf
import Derived.Test.YtckoipoejaafhaaDoorSlEqAll
import Derived.Test.YtckoipoejaafhaaDoorRows
import Derived.WalkKit
import Derived.ProofKit
import Derived.OpenShut
import Derived.Test.YtckoipoejaafhaaDoorSlAll
import Derived.Test.YtckoipoejaafhaaDoorTie
import Derived.Test.YtckoipoejaafhaaDoorCards
import Derived.Stop.Joined
import Derived.SizedLaws
import Derived.Test.YtckoipoejaafhaaDoorNttCAll
import Derived.ShutString
import Derived.ChangeOld
import Derived.Below
/-! From a good run from every start to the row's contract, for a call that starts goroutines; the variables lie as cells. -/
namespace Go.Proofs.YtckoipoejaafhaaDoor.Cc
open Go Go.Conc Go.RowKit

theorem leaving_of_runs {H : Type} {enc : TypeId × Value → H} {a : Assume} {C : Checked} {os : Os} {f : FuncId} {fn : Func} {s : ChangeSpec} {conds : List PathCond} {apart fresh handsOn again : Bool} {X : World → Array Value → Prop}
    (hX : ∀ (w w' : World) (args : Array Value), w.heap = w'.heap → X w args → X w' args)
    (own : ownKnob C.prog.godebug = none) (started : os.Started) (hfn : C.prog.funcs[f]? = some fn)
    (witness : ∃ (w : World) (tape : Tape) (i : Input), w.os = os ∧ (w.forCall tape i).Shaped C.prog ∧ i.vars = [] ∧ Input.okWide C.prog (w.forCall tape i) .any w.heap.size f i ∧
      ((s.pre enc C.prog fn conds apart (w.forCall tape i).memory i.args ∧ X (w.forCall tape i).memory i.args) ∧ sizedMet enc C.prog fn (OpenSpec.ofChange s) apart (w.forCall tape i).memory i.args) ∧ a.holds C.prog (lone (Frame.enter C.prog f i.args .normal) [] (w.forCall tape i)))
    (runs : ∀ (W : World) (base : Nat) (args : Array Value) (ds gs : List (DataW H)) (before : List MemPlace),
      (∀ (j : Nat) t v, fn.params[j]? = some t → args[j]? = some v → Value.okWide C.prog W .any base t v) →
      DataW.Whole enc C.prog fn.params.toList s.vars apart W args.toList ds gs before →
      conds.all (PathCond.test C.prog ⟨fn.params.toList, ds, s.plain.varTypes C.prog, gs⟩) = true →
      (DataW.weightsEach C.prog (fn.params.toList ++ s.plain.varTypes C.prog) (ds ++ gs)).all (· ≤ reachBytes) = true → X W args → W.ShapedOpen C.prog →
      (∃ M last o w' t', runNT C.prog (M + 1) (solo (G (Frame.enter C.prog f args .normal) []) W) #[] = (.ended o w', t') ∧ runN C.prog M (solo (G (Frame.enter C.prog f args .normal) []) W) = .next last ∧
        step C.prog last = .ended o w' ∧ Conc.Good C.prog (fun v W' => v = .bool true ∧ Blw W W') last o w' t') ∧
      ∀ W', Below W.heap.size W W' → s.post enc C.prog fn apart fresh handsOn again W args (.bool true) W') :
    ReturnsInLeavingWide a C os f .any (fun w args => (s.pre enc C.prog fn conds apart w args ∧ X w args) ∧ sizedMet enc C.prog fn (OpenSpec.ofChange s) apart w args) (s.post enc C.prog fn apart fresh handsOn again) := by
  refine returnsInLeavingWide_of_good own started witness ?_
  intro w tape i _ hsh _ hok hpre _
  obtain ⟨_, _, _, fn', hfn', _, _, _, _, hval⟩ := hok
  have e : fn' = fn := Option.some.inj (hfn'.symm.trans hfn)
  subst e
  obtain ⟨⟨⟨ds, gs, before, hw, hc⟩, hx⟩, hz⟩ := hpre
  have hw' := DataW.Whole.of_heap (w' := w.forCall tape i) (by rfl) hw
  obtain ⟨⟨M, last, o, w', t', h1, h2, h3, h4⟩, hp⟩ := runs (w.forCall tape i) w.heap.size i.args ds gs before hval hw' hc (hz.weights hw) (hX _ _ _ (by rfl) hx) hsh
  exact ⟨M, last, o, w', t', h1, h2, h3, h4.mono fun v q => by
    obtain ⟨rfl, hb⟩ := q
    have q := ChangeSpec.post_blind (hp _ hb.below)
    exact q⟩

theorem rows_all : (List.range Tryd.prog.globals.size).all (fun g => (((begin Tryd.prog (fun _ _ => 0) default).world.heap[g]?).bind Obj.row?).isSome) = true := by kernel_rfl
theorem gl_of_shaped {W : World} (h : W.ShapedOpen Tryd.prog) : Gl Tryd.prog.globals.size W := fun g hg => by
  have h1 := List.all_eq_true.1 rows_all g (List.mem_range.2 hg)
  obtain ⟨⟨zero, t⟩, h2⟩ := Option.isSome_iff_exists.1 h1
  obtain ⟨cs, h3, -⟩ := h.1 g zero t hg h2
  exact ⟨cs, t, _, h3⟩
theorem gl_le {G : Nat} {W : World} (h : Gl G W) : G ≤ W.heap.size := by
  cases G with
  | zero => exact Nat.zero_le _
  | succ n =>
    obtain ⟨c, e, fr, h1⟩ := h n (Nat.lt_succ_self n)
    exact (Array.getElem?_eq_some_iff.1 h1).1
theorem tabs_lt : tabsL.all (fun g => decide (g < Tryd.prog.globals.size)) = true := by kernel_rfl
theorem tbs_of {W : World} (h : W.ShapedOpen Tryd.prog) (hT : Tab W) : Tbs W.heap.size W := by
  refine ⟨hT, fun g hg => ?_, Nat.le_refl _⟩
  have h1 : g < Tryd.prog.globals.size := by simpa using List.all_eq_true.1 tabs_lt g hg
  have h2 := gl_of_shaped h
  obtain ⟨c, e, fr, h3⟩ := h2 g h1
  exact ⟨Nat.lt_of_lt_of_le h1 (gl_le h2), c, e, fr, h3, trivial⟩
theorem readies_all : Tryd.prog.funcs.all (fun f => match f.body with | none => true | some c => (readies c).all (fun g => decide (g < Tryd.prog.globals.size))) = true := by kernel_rfl
theorem no_early : NoEarly Tryd.prog Tryd.prog.globals.size := by
  refine ⟨by kernel_rfl, fun g hg => ?_⟩
  unfold Program.stepOf
  rw [Array.findIdx?_eq_none_iff]
  intro f hf
  have h1 := Array.all_eq_true_iff_forall_mem.1 readies_all f hf
  cases hb : f.body with
  | none => rfl
  | some c =>
    rw [hb] at h1
    simp only [Option.map_some, Option.any_some]
    cases hc : (readies c).contains g with
    | false => rfl
    | true =>
      exfalso
      have h2 := of_decide_eq_true (List.all_eq_true.1 h1 g (List.contains_iff_mem.1 hc))
      omega
theorem mixed : Tryd.prog.follows .mixedOrders = true := by kernel_rfl
/-- A good run: it returns true, and what was there is as it was. -/
def GoodRun (P : Program) (f : FuncId) (args : Array Value) (W : World) : Prop :=
  ∃ M last o w' t', runNT P (M + 1) (solo (G (Frame.enter P f args .normal) []) W) #[] = (.ended o w', t') ∧ runN P M (solo (G (Frame.enter P f args .normal) []) W) = .next last ∧ step P last = .ended o w' ∧ Conc.Good P (fun v W' => v = .bool true ∧ Blw W W') last o w' t'
theorem good_run {f : FuncId} {args : Array Value} {W : World} (hsh : W.ShapedOpen Tryd.prog) (h : Leads Tryd.prog W.heap.size (G (Frame.enter Tryd.prog f args .normal) []) W (EndT Tryd.prog W W.heap.size)) : GoodRun Tryd.prog f args W :=
  leads_good ⟨_, gl_le (gl_of_shaped hsh), no_early, gl_of_shaped hsh⟩ h
end Go.Proofs.YtckoipoejaafhaaDoor.Cc

/-! The law ExecTogether: a good run from every start. -/
namespace Go.Proofs.YtckoipoejaafhaaDoor
open Go Go.Conc Go.RowKit

theorem execTogether_walk (w : World) (v : Value) (zs : List Int) (hZ : IsZ w v zs) (va : Value) (xs : List Nat) (hA : IsU w va xs) (vl : Value) (L : List (List (List Int))) (hP : IsP 3 w vl L) (wk : Int) (_hwk : (Lit.int .i64 wk).wf = true) (back : Bool) (hsh : w.ShapedOpen Tryd.prog) (hTb : Tab w) :
    Cc.GoodRun Tryd.prog 3 #[v, va, vl, .int .i64 wk, .bool back] w :=
  Cc.good_run hsh (Cc.execTogether_leads hZ hA hP Cc.mixed (Cc.tbs_of hsh hTb))

end Go.Proofs.YtckoipoejaafhaaDoor

/-! For every input the law ExecTogether returns true: Together answers what the document says, on every schedule of its workers, without a data race; the arguments read afterwards as before. -/
namespace Go.Proofs.YtckoipoejaafhaaDoor.execTogether
open Go.ChangeShapes Go.WideShapes Go.ChangeAt Go.RowKit
open Go.ChangeMaps (open_string shut_string)
set_option linter.unusedVariables false

theorem own : ownKnob Tryd.prog.godebug = none := by kernel_rfl
theorem laidOut : laidOutB Tryd.prog = true := by kernel_rfl

theorem tf71 : IntFields Tryd.prog 71 3 := ⟨_, Tryd.underlying71, by kernel_rfl, rfl, fun i f hf => by
  rcases i with _ | _ | _ | i
  · obtain rfl := Option.some.inj hf
    exact ⟨rfl, by kernel_rfl, Tryd.underlying3⟩
  · obtain rfl := Option.some.inj hf
    exact ⟨rfl, by kernel_rfl, Tryd.underlying3⟩
  · obtain rfl := Option.some.inj hf
    exact ⟨rfl, by kernel_rfl, Tryd.underlying3⟩
  · cases hf⟩

/-- WHAT THE WALK IS TOLD OF A SLICE OF INTEGERS THAT CAME IN: it is nil; or it leads to a row of 'cap' cells, the numbers 'zs' (the first 'len' are its elements, the rest its spare room), each fitting its kind. -/
def IsRow (k : IntKind) (w : World) (a : Option Addr) (len cap : Nat) (zs : List Int) : Prop :=
  (a = none ∧ len = 0 ∧ cap = 0 ∧ zs = []) ∨
  ∃ x, a = some x ∧ len ≤ cap ∧ cap ≤ maxLen ∧ zs.length = cap ∧ (∀ i, i < zs.length → w.cell? (x.add i) = some (.int k (zs.getD i 0))) ∧ ∀ n ∈ zs, (Lit.int k n).wf = true

/-! ### STEP 1: THE WALK: the Go text returns true, AND WRITES NOTHING THAT WAS THERE: 'Below w.heap.size w w'' (Derived/Below.lean: '.refl', '.alloc', '.drew', '.setCell' at a new block, '.trans'). Open each 'IsRow' by 'rcases' AHEAD of 'go_enter'; part every test ahead of the walk. -/
theorem walk (a0 : Option Addr) (len0 cap0 : Nat) (z0 : List Int) (a1 : Option Addr) (len1 cap1 : Nat) (z1 : List Int) (a2 : Option Addr) (len2 cap2 : Nat) (z2 : List (List (List Int))) (a3 : Int) (a4 : Bool) (w : World) (w0 : IsRow .i64 w a0 len0 cap0 z0) (w1 : IsRow .u64 w a1 len1 cap1 z1) (w2 : IsP 3 w (.slice a2 len2 cap2) z2) (w3 : (Lit.int .i64 a3).wf = true) (hsh : w.ShapedOpen Tryd.prog) (hTb : Tab w) :
    Cc.GoodRun Tryd.prog 3 #[.slice a0 len0 cap0, .slice a1 len1 cap1, .slice a2 len2 cap2, .int .i64 a3, .bool a4] w := by
  obtain ⟨x0, u0⟩ := isZ_of_row w0
  obtain ⟨x1, u1⟩ := isU_of_row w1
  exact execTogether_walk w (.slice a0 len0 cap0) x0 u0 (.slice a1 len1 cap1) x1 u1 (.slice a2 len2 cap2) z2 w2 a3 w3 a4 hsh hTb

/-! ### THE ROW's STEP: WRITTEN OUT: LEAVE IT -/
set_option maxRecDepth 100000 in
theorem lifted (os : Os) (started : os.Started) (H : Type) (enc : TypeId × Value → H) :
    ReturnsInLeavingWide {} Tryd.checked os 3 .any (fun w args => (Rows.execTogetherSpec.pre enc Tryd.prog Tryd.f3 [] false w args ∧ laidMetH Tryd.prog laids w) ∧ sizedMet enc Tryd.prog Tryd.f3 (OpenSpec.ofChange Rows.execTogetherSpec) false w args)
      (Rows.execTogetherSpec.post enc Tryd.prog Tryd.f3 false true false false) := by
  refine Cc.leaving_of_runs (C := Tryd.checked) (X := fun w _ => laidMetH Tryd.prog laids w) (fun _ _ _ hh h => h.of_heap hh) own started Tryd.func3
    (ChangeSpec.witness_shaped (enc := enc) (C := Tryd.checked) (os := os) (X := fun w _ => laidMetH Tryd.prog laids w) false (World.doorLaid Tryd.prog 400 os) #[.slice none 0 0, .slice none 0 0, .slice none 0 0, .int .i64 0, .bool false] 8 rfl (World.shaped_of_RefB (by kernel_rfl) (by kernel_rfl)) (by kernel_rfl) (by kernel_rfl) (by kernel_rfl) (door_met os _)) ?_
  intro W base args ds gs before hval0 hW _ _ hL hsh
  have hval : ∀ (j : Nat) t v, Tryd.f3.params[j]? = some t → args[j]? = some v → Value.okWide Tryd.prog W .any base t v := hval0
  have hW' := hW
  obtain ⟨p, q, hA0, hV, rfl, hfz, hnd⟩ := hW
  have hA : DataW.TrodAll enc Tryd.prog W 0 (fun _ => true) true Tryd.f3.params.toList args.toList ds p := hA0
  rw [Tryd.params3] at hA hval
  obtain ⟨v0, vs0, d0, ds0, p0, q0, hargs, rfl, rfl, h0, r0⟩ := trodAll_cons hA
  obtain ⟨v1, vs1, d1, ds1, p1, q1, rfl, rfl, rfl, h1, r1⟩ := trodAll_cons r0
  obtain ⟨v2, vs2, d2, ds2, p2, q2, rfl, rfl, rfl, h2, r2⟩ := trodAll_cons r1
  obtain ⟨v3, vs3, d3, ds3, p3, q3, rfl, rfl, rfl, h3, r3⟩ := trodAll_cons r2
  obtain ⟨v4, vs4, d4, ds4, p4, q4, rfl, rfl, rfl, h4, r4⟩ := trodAll_cons r3
  obtain ⟨rfl, rfl, rfl⟩ := trodAll_nil r4
  obtain rfl : args = #[v0, v1, v2, v3, v4] := by cases args; simp_all
  obtain ⟨rfl, rfl⟩ := trodVars_none hV
  obtain ⟨a0, len0, cap0, rfl⟩ := okWide_slice Tryd.underlying22 (hval 0 22 v0 rfl rfl)
  have k0 := h0
  have lt0 : ∀ x ∈ p0, x.block < W.heap.size := by obtain ⟨m, hm⟩ := k0; exact DataW.trod_lt m _ _ _ hm
  obtain ⟨z0, w0⟩ : ∃ zs, IsRow .i64 W a0 len0 cap0 zs := by
    obtain ⟨fuel, hf⟩ := h0
    rcases open_ints Tryd.underlying22 Tryd.underlying3 (by kernel_rfl) hf with ⟨hcs, _⟩ | ⟨x, l, c, zs, hcs, _, hl, hm, hz, _, hcell, hwz⟩
    · simp [Value.cells] at hcs
      obtain ⟨rfl, rfl, rfl⟩ := hcs
      exact ⟨[], .inl ⟨rfl, rfl, rfl, rfl⟩⟩
    · simp [Value.cells] at hcs
      obtain ⟨rfl, rfl, rfl⟩ := hcs
      exact ⟨zs, .inr ⟨_, rfl, hl, hm, by simpa using hz, hcell, hwz⟩⟩
  obtain ⟨a1, len1, cap1, rfl⟩ := okWide_slice Tryd.underlying23 (hval 1 23 v1 rfl rfl)
  have k1 := h1
  have lt1 : ∀ x ∈ p1, x.block < W.heap.size := by obtain ⟨m, hm⟩ := k1; exact DataW.trod_lt m _ _ _ hm
  obtain ⟨z1, w1⟩ : ∃ zs, IsRow .u64 W a1 len1 cap1 zs := by
    obtain ⟨fuel, hf⟩ := h1
    rcases open_ints Tryd.underlying23 Tryd.underlying34 (by kernel_rfl) hf with ⟨hcs, _⟩ | ⟨x, l, c, zs, hcs, _, hl, hm, hz, _, hcell, hwz⟩
    · simp [Value.cells] at hcs
      obtain ⟨rfl, rfl, rfl⟩ := hcs
      exact ⟨[], .inl ⟨rfl, rfl, rfl, rfl⟩⟩
    · simp [Value.cells] at hcs
      obtain ⟨rfl, rfl, rfl⟩ := hcs
      exact ⟨zs, .inr ⟨_, rfl, hl, hm, by simpa using hz, hcell, hwz⟩⟩
  obtain ⟨a2, len2, cap2, rfl⟩ := okWide_slice Tryd.underlying24 (hval 2 24 v2 rfl rfl)
  have k2 := h2
  have lt2 : ∀ x ∈ p2, x.block < W.heap.size := by obtain ⟨m, hm⟩ := k2; exact DataW.trod_lt m _ _ _ hm
  obtain ⟨z2, w2, -⟩ := isP_of_arg (by decide) Tryd.underlying24 (by kernel_rfl) Tryd.underlying69 tf71 (hval 2 24 _ rfl rfl) h2
  obtain ⟨a3, rfl, rfl, rfl, w3⟩ := open_int Tryd.underlying3 (hval 3 3 v3 rfl rfl) h3
  obtain ⟨a4, rfl, rfl, rfl⟩ := open_bool Tryd.underlying4 (hval 4 4 v4 rfl rfl) h4
  clear hA0 hval0
  refine ⟨walk a0 len0 cap0 z0 a1 len1 cap1 z1 a2 len2 cap2 z2 a3 a4 W w0 w1 w2 w3 hsh (tab_of_laid hL), fun W' bel => ?_⟩
  exact ⟨_, _, _, [], _, [], hW', trodAll_mk1 (shut_bool Tryd.underlying4 _), (trodAll_cons_mk (Below.trod laidOut (by kernel_rfl) (of_decide_eq_true (by kernel_rfl)) k0 bel lt0) (trodAll_cons_mk (Below.trod laidOut (by kernel_rfl) (of_decide_eq_true (by kernel_rfl)) k1 bel lt1) (trodAll_cons_mk (Below.trod laidOut (by kernel_rfl) (of_decide_eq_true (by kernel_rfl)) k2 bel lt2) (trodAll_cons_mk (shut_int Tryd.underlying3 w3) (trodAll_cons_mk (shut_bool Tryd.underlying4 _) trodAll_mk0))))), rfl, bel.frame _, fun h => by cases h⟩

theorem over : Rows.execTogetherRow.holds Tryd.pinned (OpenSpec.ofChange Rows.execTogetherSpec) :=
  OpenClaim.holds_of_wide_leaving 3 Tryd.f3 rfl rfl rfl rfl rfl rfl rfl ⟨rfl, rfl, rfl, rfl, rfl⟩ rfl rfl rfl rfl rfl (by kernel_rfl) Tryd.func3 (by kernel_rfl)
    (of_decide_eq_true (by kernel_rfl)) (by unfold Func.isWrapper; first | (rw [if_pos (by decide +kernel)]; kernel_rfl) | (rw [if_neg (by decide +kernel)]; exact ⟨rfl, rfl⟩))
    (fun os started H enc _ => lifted os started H enc)

end Go.Proofs.YtckoipoejaafhaaDoor.execTogether
namespace Go.Proofs.YtckoipoejaafhaaDoor
open Go
/-- The statement. -/
theorem execTogether_holds : Rows.ExecTogetherCardSaid :=
  card_goes .later _ _ _ _
    execTogether.over (by kernel_rfl) execTogether_row_tie rfl ⟨rfl, rfl⟩ (by kernel_rfl) rfl
    (fun f fn hf hfn => by
      obtain rfl : f = 3 := Option.some.inj ((show Tryd.prog.funcNamed "goldmill/goldlaw.ExecTogether" = some 3 by kernel_rfl).symm.trans hf) |>.symm
      obtain rfl : fn = Tryd.f3 := (Option.some.inj (Tryd.func3.symm.trans hfn)).symm
      exact ⟨by kernel_rfl, fun j t ht => by
        rw [Tryd.params3] at ht
        have hm : t ∈ [22, 23, 24, 3, 4] := by simpa using Array.mem_of_getElem? ht
        have hall : ([22, 23, 24, 3, 4].all fun u => !Tryd.prog.wantsStandIn u) = true := by kernel_rfl
        exact (show Tryd.prog.wantsStandIn t = false by simpa using List.all_eq_true.1 hall t hm)⟩)
    (by kernel_rfl)
#print axioms execTogether_holds
end Go.Proofs.YtckoipoejaafhaaDoor
