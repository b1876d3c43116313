/-
  Texts that stood one behind the other, as one.
-/
import Derived.Test.YtckoipoejaafhaaDoorCcTAll
namespace Go.Proofs.YtckoipoejaafhaaDoor.Cc
open Go Go.Conc
section
variable {P : Program} {T : Tbl} {B : Nat} {ρ : Ren} {fr : Frame} {stk : List Frame} {w : World} {fr' : Frame} {stk' : List Frame} {w' : World}
theorem WR.heap {F : FuncId → Prop} (h : WR F B ρ w w') {v : World} (e : v.heap = w.heap) : WR F B ρ v w' := by
  obtain ⟨h1, h2, h3, h4⟩ := h
  exact ⟨h1, by rw [e]; exact h2, by rw [e]; exact h3, by rw [e]; exact h4⟩
theorem WR.heap' {F : FuncId → Prop} (h : WR F B ρ w w') {v : World} (e : v.heap = w'.heap) : WR F B ρ w v := by
  obtain ⟨h1, h2, h3, h4⟩ := h
  exact ⟨h1, by rw [e]; exact h2, by rw [e]; exact h3, h4⟩
theorem St.drawn (h : St P T B ρ fr stk w fr' stk' w') {id : Nat} {ops : Array Oper} {k : List Item} (ht : fr.todo = .code (.region id ops true) :: k) (n : Nat) :
    St P T B ρ (drawnTo P fr ops k n) stk w (drawnTo P fr' ops k n) stk' w' := by
  obtain ⟨h1, h2, h3, h4, h5⟩ := h
  refine ⟨⟨h1.fn, h1.inT, rfl, ?_, h1.defers, h1.defers', h1.mode, h1.kind, h1.kind', h1.round, h1.round', h1.slots⟩, h2, h3, h4, h5⟩
  have hok := h1.ok
  rw [ht, List.all_cons] at hok
  show (Item.inRegion ops _ :: k).all (itemB P T (T.ps fr.fn)) = true
  rw [List.all_cons]
  exact hok
theorem tp_heap {a b : World} {τ : Nat → Question → Nat} {d : Nat} (h : tp a τ d = tp b τ d) : a.heap = b.heap := by
  have := congrArg World.heap h
  exact this
theorem GoTo.uniq {fr1 fr2 : Frame} {stk1 stk2 : List Frame} {w1 w2 : World} (h1 : GoTo P fr stk w fr1 stk1 w1) (h2 : GoTo P fr stk w fr2 stk2 w2) : fr2 = fr1 ∧ stk2 = stk1 ∧ w2.heap = w1.heap := by
  obtain ⟨e1, q1⟩ := h1 (fun _ _ => 0) 0 []
  obtain ⟨e2, q2⟩ := h2 (fun _ _ => 0) 0 []
  rw [q1] at q2
  simp only [GStep.go.injEq, G, Goroutine.mk.injEq, List.append_nil, and_true] at q2
  exact ⟨q2.1.1.symm, q2.1.2.symm, (tp_heap q2.2.1).symm⟩
theorem tree_of_calls (hF : FnAll P T) {f : FuncId} {args args' : Array Value} (h0 : St P T B ρ (Frame.enter P f args .normal) [] w (Frame.enter P f args' .normal) [] w') {R : Value → World → Prop}
    (hC : ∀ τ d, Calls P f args (tp w τ d) fun e w1 => ∃ v, e = .returned v ∧ R v w1) (hR : ∀ v w1 τ d, R v (tp w1 τ d) → R v w1) :
    Tr P (fun fr w1 => fr.fn = f ∧ ∃ v, (∀ (Q : Program) (W : World) es, (results (P.funcs.getD f default) fr.tmps).runT Q W es = (.ok v W, es)) ∧ R v w1) (Frame.enter P f args .normal) [] w := by
  apply Classical.byContradiction
  intro hno
  obtain ⟨Q, hQ⟩ : ∃ Q : Frame → World → Prop, Q = fun fr w1 => fr.fn = f ∧ ∃ v, (∀ (Q : Program) (W : World) es, (results (P.funcs.getD f default) fr.tmps).runT Q W es = (.ok v W, es)) ∧ R v w1 := ⟨_, rfl⟩
  rw [← hQ] at hno
  obtain ⟨bad, hbad⟩ : ∃ bad : Cf → Nat, ∀ s : Cf, ∀ id ops k, s.fr.mode = .run → s.fr.todo = .code (.region id ops true) :: k → (∃ n, ¬ Tr P Q (drawnTo P s.fr ops k n) s.stk s.w) → ¬ Tr P Q (drawnTo P s.fr ops k (bad s)) s.stk s.w := by
    refine Classical.axiomOfChoice (r := fun (s : Cf) (b : Nat) => ∀ id ops k, s.fr.mode = .run → s.fr.todo = .code (.region id ops true) :: k → (∃ n, ¬ Tr P Q (drawnTo P s.fr ops k n) s.stk s.w) → ¬ Tr P Q (drawnTo P s.fr ops k b) s.stk s.w) fun s => ?_
    by_cases hx : ∃ (n : Nat) (id : Nat) (ops : Array Oper) (k : List Item), s.fr.todo = .code (.region id ops true) :: k ∧ ¬ Tr P Q (drawnTo P s.fr ops k n) s.stk s.w
    · obtain ⟨n, id, ops, k, h1, h2⟩ := hx
      refine ⟨n, fun id' ops' k' _ h1' _ => ?_⟩
      rw [h1] at h1'
      simp only [List.cons.injEq, Item.code.injEq, Code.region.injEq, and_true] at h1'
      obtain ⟨⟨rfl, rfl⟩, rfl⟩ := h1'
      exact h2
    · exact ⟨0, fun id ops k _ h1 ⟨n, h2⟩ => absurd ⟨n, id, ops, k, h1, h2⟩ hx⟩
  obtain ⟨s0, hs0⟩ : ∃ s0 : Cf, s0 = ⟨Frame.enter P f args .normal, [], w, 0⟩ := ⟨_, rfl⟩
  -- along the way nothing has a tree
  have claimA : ∀ n, (∀ j, j < n → Fine P (sq P bad s0 j)) → (∃ B ρ fr' stk' w', St P T B ρ (sq P bad s0 n).fr (sq P bad s0 n).stk (sq P bad s0 n).w fr' stk' w') ∧ ¬ Tr P Q (sq P bad s0 n).fr (sq P bad s0 n).stk (sq P bad s0 n).w := by
    intro n
    induction n with
    | zero =>
      intro _
      show (∃ B ρ fr' stk' w', St P T B ρ s0.fr s0.stk s0.w fr' stk' w') ∧ ¬ Tr P Q s0.fr s0.stk s0.w
      rw [hs0]
      exact ⟨⟨_, _, _, _, _, h0⟩, hno⟩
    | succ n ih =>
      intro hf
      obtain ⟨⟨B, ρ, fr', stk', w', hst⟩, hnt⟩ := ih fun j hj => hf j (by omega)
      have hfn := hf n (by omega)
      show (∃ B ρ fr' stk' w', St P T B ρ (nx P bad (sq P bad s0 n)).fr (nx P bad (sq P bad s0 n)).stk (nx P bad (sq P bad s0 n)).w fr' stk' w') ∧ ¬ Tr P Q (nx P bad (sq P bad s0 n)).fr (nx P bad (sq P bad s0 n)).stk (nx P bad (sq P bad s0 n)).w
      generalize sq P bad s0 n = s at *
      by_cases hd : AtDraw s
      · obtain ⟨id, ops, k, h1, h2⟩ := hd
        rw [nx_draw P bad h1 h2]
        refine ⟨⟨B, ρ, _, stk', w', hst.drawn h2 (bad s)⟩, hbad s id ops k h1 h2 ?_⟩
        apply Classical.byContradiction
        intro hall
        exact hnt (.draw h1 h2 fun n => Classical.byContradiction fun q => hall ⟨n, q⟩)
      · rcases hfn with q | ⟨x, hx⟩
        · exact absurd q hd
        · obtain ⟨y, hy, e⟩ := nx_go P bad hd hx
          rw [e]
          refine ⟨?_, fun ht => hnt (.step hy.1 hy.2 ht)⟩
          rcases step2 hF hst with ⟨c1, c2⟩ | ⟨id, ops, k, c1, c2⟩ | ⟨fr1, stk1, w1, fr1', stk1', w1', σ, m, c1, c2, c3, _⟩ | c
          · -- it can't go on and be at its end
            exfalso
            obtain ⟨g1, _⟩ := hst.top.form
            rw [c1] at g1
            obtain ⟨fn, cd, q1, q2, q3, q4, q5⟩ := hF _ hst.top.inT
            obtain ⟨v, v', hv, e1, e2⟩ := results_of hst.top.slots q5
            obtain ⟨es2, he2⟩ := hy.1 (fun _ _ => 0) 0 [wallV]
            have hr := st_return (P := P) (main := true) (cs := []) (c := wallV) (td := s.fr.todo) (w := tp s.w (fun _ _ => 0) 0) q1 (fun es => e1 P _ es)
            rw [← g1] at hr
            rw [c2, List.nil_append, hr] at he2
            simp only [GStep.go.injEq, G, Goroutine.mk.injEq, and_true] at he2
            have := he2.1.2
            cases hy2 : y.2.1 with
            | nil => rw [hy2] at this; cases this
            | cons a l => rw [hy2] at this; cases this
          · exact absurd ⟨id, ops, k, c1, c2⟩ hd
          · obtain ⟨u1, u2, u3⟩ := GoTo.uniq c1 hy.1
            refine ⟨B, σ, fr1', stk1', w1', ?_⟩
            dsimp only
            rw [u1, u2]
            exact ⟨c3.top, c3.mode, c3.below, c3.wr.heap u3, c3.gl⟩
          · exfalso
            obtain ⟨es, he⟩ := hy.1 (fun _ _ => 0) 0 []
            obtain ⟨es2, w2, c⟩ := c (fun _ _ => 0) 0 []
            rcases c with ⟨o, ho⟩ | ⟨v, hv⟩
            · rw [ho] at he; cases he
            · rw [hv] at he
              simp only [GStep.go.injEq, G, Goroutine.mk.injEq, and_true] at he
              have hp : ∃ ch, (s.fr.raise [{ v, recovered := false }]).mode = .panicking ch := by
                unfold Frame.raise
                split <;> exact ⟨_, rfl⟩
              obtain ⟨ch, hp⟩ := hp
              rw [he.1.1] at hp
              exact hy.2 ch hp
  have hc0 : (sq P bad s0 0).cnt = 0 := by show s0.cnt = 0; rw [hs0]
  obtain ⟨τ, hτ⟩ : ∃ τ, τ = tpe P bad s0 := ⟨_, rfl⟩
  -- the run on that tape
  have claimB : ∀ n, (∀ j, j < n → Fine P (sq P bad s0 j)) → ∀ cs, runN P n (lo s0 cs τ) = .next (lo (sq P bad s0 n) cs τ) := by
    intro n
    induction n with
    | zero => intro _ cs; rfl
    | succ n ih =>
      intro hf cs
      rw [runN_add, ih (fun j hj => hf j (by omega)) cs]
      have hstp := nx_step (T := T) bad (s := sq P bad s0 n) (τ := τ) cs (fun q hd => by rw [hτ]; exact tpe_at P bad s0 hd q) (hf n (by omega)) (claimA n fun j hj => hf j (by omega)).1
      show (match step P (lo (sq P bad s0 n) cs τ) with | .next m => runN P 0 m | e => e) = _
      rw [hstp]
      rfl
  -- the contract on that tape
  have hcon : ∀ cs, ∃ N v frE wE, runN P N (lo s0 cs τ) = .next (lone frE cs wE) ∧ R v wE ∧ frE.fn = f ∧ frE.leaving P wE (.returned v) := by
    intro cs
    obtain ⟨e, wE, frE, ⟨v, rfl, hRv⟩, hco, hfn, hlv⟩ := hC τ 0 cs
    obtain ⟨N, hN⟩ := hco
    refine ⟨N, v, frE, wE, ?_, hRv, hfn, hlv⟩
    rw [← hN]
    unfold lo
    rw [hs0]
    rfl
  -- where the contract's call returns there is a tree
  have hend : ∀ N v frE wE cs, (∀ j, j < N → Fine P (sq P bad s0 j)) → runN P N (lo s0 cs τ) = .next (lone frE cs wE) → R v wE → frE.fn = f → frE.leaving P wE (.returned v) → False := by
    intro N v frE wE cs hf hr hRv hfn hlv
    obtain ⟨⟨B, ρ, fr', stk', w', hst⟩, hnt⟩ := claimA N hf
    rw [claimB N hf cs] at hr
    simp only [Stepped.next.injEq, lo, lone, Machine.mk.injEq, and_true] at hr
    obtain ⟨hw, hg⟩ := hr
    simp only [Array.mk.injEq, List.cons.injEq, Goroutine.mk.injEq, and_true] at hg
    obtain ⟨hfr, hstk⟩ := hg
    have hnil : (sq P bad s0 N).stk = [] := by
      have := congrArg List.length hstk
      rw [List.length_append] at this
      exact List.eq_nil_of_length_eq_zero (by omega)
    obtain ⟨hm, hd, hk, fn, hf', hrs⟩ := hlv
    apply hnt
    rw [hnil]
    refine .done (by rw [hfr]; exact hm) ?_
    rw [hQ]
    have hin := hst.top.inT
    obtain ⟨fn2, cd, q1, q2, q3, q4, q5⟩ := hF _ hin
    obtain ⟨v2, v2', _, e1, _⟩ := results_of hst.top.slots q5
    have hff : fn2 = fn := by
      rw [hfr, hf'] at q1
      exact (Option.some.inj q1).symm
    subst hff
    have hgd : P.funcs.getD f default = fn2 := by
      rw [← hfn, Array.getD_eq_getD_getElem?, hf']
      rfl
    have hv2 : v2 = v := by
      have e3 := e1 P wE #[]
      have e4 := Sem.runT_fst P (results fn2 (sq P bad s0 N).fr.tmps) wE #[]
      rw [e3] at e4
      rw [hfr] at e4
      rw [hrs] at e4
      exact (Result.ok.inj e4).1
    subst hv2
    refine ⟨by rw [hfr]; exact hfn, v2, by rw [hgd]; exact e1, hR v2 _ τ (sq P bad s0 N).cnt ?_⟩
    rw [hw]
    exact hRv
  by_cases hall : ∀ j, Fine P (sq P bad s0 j)
  · obtain ⟨N, v, frE, wE, h1, h2, h3, h4⟩ := hcon []
    exact hend N v frE wE [] (fun j _ => hall j) h1 h2 h3 h4
  · -- the first place where it doesn't go on
    obtain ⟨j, hj, hmin⟩ : ∃ j, ¬ Fine P (sq P bad s0 j) ∧ ∀ i, i < j → Fine P (sq P bad s0 i) := by
      have hex : ∃ j, ¬ Fine P (sq P bad s0 j) := Classical.byContradiction fun q => hall fun j => Classical.byContradiction fun r => q ⟨j, r⟩
      obtain ⟨j, hj⟩ := hex
      induction j using Nat.strongRecOn with
      | _ j ih =>
        by_cases hx : ∃ i, i < j ∧ ¬ Fine P (sq P bad s0 i)
        · obtain ⟨i, hi, hni⟩ := hx
          exact ih i hi hni
        · exact ⟨j, hj, fun i hi => Classical.byContradiction fun q => hx ⟨i, hi, q⟩⟩
    obtain ⟨⟨B, ρ, fr', stk', w', hst⟩, hnt⟩ := claimA j hmin
    rcases step2 hF hst with ⟨c1, c2⟩ | ⟨id, ops, k, c1, c2⟩ | ⟨fr1, stk1, w1, fr1', stk1', w1', σ, m, c1, c2, c3, _⟩ | c
    · obtain ⟨N, v, frE, wE, h1, h2, h3, h4⟩ := hcon [wallV]
      rcases Nat.lt_or_ge j N with hlt | hge
      · obtain ⟨m1, r1, r2⟩ := run_split h1 (Nat.le_of_lt hlt)
        rw [claimB j hmin [wallV]] at r1
        cases r1
        obtain ⟨g1, _⟩ := hst.top.form
        rw [c1] at g1
        obtain ⟨fn, cd, q1, q2, q3, q4, q5⟩ := hF _ hst.top.inT
        obtain ⟨u, u', _, e1, _⟩ := results_of hst.top.slots q5
        have hr := st_return (P := P) (main := true) (cs := []) (c := wallV) (td := (sq P bad s0 j).fr.todo) (w := tp (sq P bad s0 j).w τ (sq P bad s0 j).cnt) q1 (fun es => e1 P _ es)
        rw [← g1] at hr
        have hs := step_of_go hr
        have hfin : wallV.finish u = wallV := rfl
        rw [hfin] at hs
        obtain ⟨r, hrr⟩ : ∃ r, N - j = r + 1 := ⟨N - j - 1, by omega⟩
        rw [hrr] at r2
        have hlo : lo (sq P bad s0 j) [wallV] τ = lone (sq P bad s0 j).fr [wallV] (tp (sq P bad s0 j).w τ (sq P bad s0 j).cnt) := by
          unfold lo
          rw [c2]
          rfl
        rw [hlo] at r2
        simp only [runN, hs] at r2
        cases r with
        | zero =>
          simp only [runN, Stepped.next.injEq, lone, Machine.mk.injEq] at r2
          have := r2.2.1
          simp at this
        | succ r => exact stuck_wallV r2
      · exact hend N v frE wE [wallV] (fun i hi => hmin i (by omega)) h1 h2 h3 h4
    · exact hj (.inl ⟨id, ops, k, c1, c2⟩)
    · refine hj (.inr ⟨(fr1, stk1, w1), c1, fun ch e => ?_⟩)
      rcases c3.mode with q | q
      · rw [q] at e; cases e
      · rw [q] at e; cases e
    · obtain ⟨N, v, frE, wE, h1, h2, h3, h4⟩ := hcon [wallP P]
      rcases Nat.lt_or_ge j N with hlt | hge
      · obtain ⟨m1, r1, r2⟩ := run_split h1 (Nat.le_of_lt hlt)
        rw [claimB j hmin [wallP P]] at r1
        cases r1
        obtain ⟨r, hrr⟩ : ∃ r, N - j = r + 1 := ⟨N - j - 1, by omega⟩
        rw [hrr] at r2
        obtain ⟨es, w2, c⟩ := c τ (sq P bad s0 j).cnt [wallP P]
        rcases c with ⟨o, ho⟩ | ⟨u, hu⟩
        · have hs : step P (lo (sq P bad s0 j) [wallP P] τ) = .ended o w2 := by
            refine step_lone_ended ?_
            show (stepG P true (G _ _) _).bare = _
            rw [ho]; rfl
          simp only [runN, hs] at r2
          cases r2
        · have hs := step_of_go hu
          have hs2 : step P (lo (sq P bad s0 j) [wallP P] τ) = _ := hs
          simp only [runN, hs2] at r2
          have hcr : (∃ ch, ((sq P bad s0 j).fr.raise [{ v := u, recovered := false }]).mode = .panicking ch) ∧ ((sq P bad s0 j).fr.raise [{ v := u, recovered := false }]).defers = (sq P bad s0 j).fr.defers ∧ ((sq P bad s0 j).fr.raise [{ v := u, recovered := false }]).fn = (sq P bad s0 j).fr.fn := by
            unfold Frame.raise
            split <;> exact ⟨⟨_, rfl⟩, rfl, rfl⟩
          obtain ⟨⟨ch, k1⟩, k2, k3⟩ := hcr
          have hbelow : ∀ (s s' : List Frame), St2 P T ρ s s' → ∀ g ∈ s, g.defers = [] ∧ ∃ fn, P.funcs[g.fn]? = some fn := by
            intro s
            induction s with
            | nil => intro s' _ g hg; cases hg
            | cons a s ih =>
              intro s' hs g hg
              obtain ⟨a', t', _, _, ha, ht⟩ := hs
              rcases List.mem_cons.1 hg with rfl | hg
              · obtain ⟨fn, cd, q1, _⟩ := hF _ ha.inT
                exact ⟨ha.defers, fn, q1⟩
              · exact ih t' ht g hg
          obtain ⟨fn, cd, q1, _⟩ := hF _ hst.top.inT
          exact stuck_panic ⟨frE, wE, rfl, h4.1⟩ r (sq P bad s0 j).stk _ w2 ch k1 (by rw [k2]; exact hst.top.defers) (hbelow _ _ hst.below) ⟨fn, by rw [k3]; exact q1⟩ r2
      · exact hend N v frE wE [wallP P] (fun i hi => hmin i (by omega)) h1 h2 h3 h4
end
structure Kept (Sh Ow : Nat → Prop) (w w₁ : World) : Prop where
  tape : w₁.tape = w.tape
  size : w.heap.size ≤ w₁.heap.size
  block : ∀ b, Sh b ∨ Ow b → w₁.heap[b]? = w.heap[b]?
theorem Kept.refl (Sh Ow : Nat → Prop) (w : World) : Kept Sh Ow w w := ⟨rfl, Nat.le_refl _, fun _ _ => rfl⟩
theorem Kept.trans {Sh Ow : Nat → Prop} {a b c : World} (h : Kept Sh Ow a b) (k : Kept Sh Ow b c) : Kept Sh Ow a c := ⟨k.tape.trans h.tape, Nat.le_trans h.size k.size, fun x hx => (k.block x hx).trans (h.block x hx)⟩
structure Doing (Sh Ow : Nat → Prop) (w w' : World) (es : Array Event) (Ow' : Nat → Prop) : Prop where
  tape : w'.tape = w.tape
  os : w'.os = w.os
  output : w'.output = w.output
  size : w.heap.size ≤ w'.heap.size
  block : ∀ b, b < w.heap.size → ¬ Ow b → w'.heap[b]? = w.heap[b]?
  new : ∀ b, Ow' b → Ow b ∨ (w.heap.size ≤ b ∧ b < w'.heap.size)
  old : ∀ b, Ow b → Ow' b
  ev : ∀ e ∈ es, (∃ a, e.loc = .cell a ∧ e.sync = false ∧ (Ow' a.block ∨ (Sh a.block ∧ e.write = false))) ∨ e = ⟨.mark .noRoom, false, true⟩
inductive Wi (P : Program) (main : Bool) (Sh : Nat → Prop) (Stop : (Nat → Prop) → Goroutine → World → Prop) : (Nat → Prop) → Goroutine → World → Prop
  | stop {Ow : Nat → Prop} {g : Goroutine} {w : World} (h : ∀ w₁, Kept Sh Ow w w₁ → Stop Ow g w₁) : Wi P main Sh Stop Ow g w
  | step {Ow : Nat → Prop} {g : Goroutine} {w : World} (gx : World → Goroutine) (wx : World → World) (ex : World → Array Event) (ox : World → Nat → Prop) (hr : g.status = .running)
      (h : ∀ w₁, Kept Sh Ow w w₁ → stepG P main g w₁ = .go (gx w₁) (wx w₁) (ex w₁) ∧ Doing Sh Ow w₁ (wx w₁) (ex w₁) (ox w₁)) (t : ∀ w₁, Kept Sh Ow w w₁ → Wi P main Sh Stop (ox w₁) (gx w₁) (wx w₁)) : Wi P main Sh Stop Ow g w
section
variable {P : Program} {main : Bool} {Sh : Nat → Prop} {Stop Stop' : (Nat → Prop) → Goroutine → World → Prop}
theorem Wi.of_step {Ow : Nat → Prop} {g : Goroutine} {w : World} (hr : g.status = .running) (h : ∀ w₁, Kept Sh Ow w w₁ → ∃ g' w' es Ow', stepG P main g w₁ = .go g' w' es ∧ Doing Sh Ow w₁ w' es Ow' ∧ Wi P main Sh Stop Ow' g' w') : Wi P main Sh Stop Ow g w := by
  have h2 : ∀ w₁ : World, ∃ x : Goroutine × World × Array Event × (Nat → Prop), Kept Sh Ow w w₁ → stepG P main g w₁ = .go x.1 x.2.1 x.2.2.1 ∧ Doing Sh Ow w₁ x.2.1 x.2.2.1 x.2.2.2 ∧ Wi P main Sh Stop x.2.2.2 x.1 x.2.1 := fun w₁ => by
    by_cases k : Kept Sh Ow w w₁
    · obtain ⟨g', w', es, Ow', q⟩ := h w₁ k
      exact ⟨(g', w', es, Ow'), fun _ => q⟩
    · exact ⟨(g, w, #[], Ow), fun q => absurd q k⟩
  obtain ⟨f, hf⟩ := Classical.axiomOfChoice h2
  exact .step (fun w₁ => (f w₁).1) (fun w₁ => (f w₁).2.1) (fun w₁ => (f w₁).2.2.1) (fun w₁ => (f w₁).2.2.2) hr (fun w₁ k => ⟨(hf w₁ k).1, (hf w₁ k).2.1⟩) fun w₁ k => (hf w₁ k).2.2
theorem Wi.bind {Ow : Nat → Prop} {g : Goroutine} {w : World} (h : Wi P main Sh Stop Ow g w) (k : ∀ Ow g w, Stop Ow g w → Wi P main Sh Stop' Ow g w) : Wi P main Sh Stop' Ow g w := by
  induction h with
  | stop h => exact k _ _ _ (h _ (Kept.refl _ _ _))
  | step gx wx ex ox hr h t ih => exact .step gx wx ex ox hr h ih
inductive Od where
  | leaf
  | mk (f : World → Od)
end
structure Mine (B : Nat) (ρ : Ren) (Sh Ow : Nat → Prop) : Prop where
  sh : ∀ b b', ρ b = some b' → b < B → Sh b' ∨ Ow b'
  ow : ∀ b b', ρ b = some b' → B ≤ b → Ow b'
theorem WR.kept {F : FuncId → Prop} {B : Nat} {ρ : Ren} {w w' v' : World} {Sh Ow : Nat → Prop} (h : WR F B ρ w w') (hm : Mine B ρ Sh Ow) (k : Kept Sh Ow w' v') : WR F B ρ w v' := by
  obtain ⟨h1, h2, h3, h4⟩ := h
  refine ⟨h1, fun b b' hb hlt => ?_, fun b b' hb hge => ?_, h4⟩
  · obtain ⟨cs, cs', e, fr, fr', q1, q2, q3⟩ := h2 b b' hb hlt
    exact ⟨cs, cs', e, fr, fr', q1, (k.block b' (hm.sh b b' hb hlt)).trans q2, q3⟩
  · obtain ⟨cs, cs', e, q1, q2, q3⟩ := h3 b b' hb hge
    exact ⟨cs, cs', e, q1, (k.block b' (.inr (hm.ow b b' hb hge))).trans q2, q3⟩
def AtRet (P : Program) (T : Tbl) (B : Nat) (Sh : Nat → Prop) (Q : Frame → World → Prop) (base : List Frame) (Ow0 : Nat → Prop) (Ow : Nat → Prop) (g : Goroutine) (w' : World) : Prop :=
  ∃ ρ fr w fr', St P T B ρ fr [] w fr' [] w' ∧ Mine B ρ Sh Ow ∧ g = G fr' base ∧ fr.mode = .returning ∧ Q fr w ∧ ∀ b, Ow0 b → Ow b
theorem tree_company {P : Program} {T : Tbl} {B : Nat} {Q : Frame → World → Prop} (hF : FnAll P T) {Sh : Nat → Prop} (base : List Frame) (main : Bool) (Ow0 : Nat → Prop) {fr : Frame} {stk : List Frame} {w : World} (t : Tr P Q fr stk w) :
    ∀ {ρ : Ren} {fr' : Frame} {stk' : List Frame} {w' : World} {Ow : Nat → Prop}, St P T B ρ fr stk w fr' stk' w' → Mine B ρ Sh Ow → (∀ b, Ow0 b → Ow b) → Wi P main Sh (AtRet P T B Sh Q base Ow0) Ow (G fr' (stk' ++ base)) w' := by
  induction t with
  | done hm hQ =>
    intro ρ fr' stk' w' Ow h hmi ho
    obtain rfl : stk' = [] := h.below
    exact .stop fun w₁ k => ⟨ρ, _, _, fr', ⟨h.top, h.mode, rfl, h.wr.kept hmi k, h.gl⟩, hmi, rfl, hm, hQ, ho⟩
  | step hgo hp t ih =>
    rename_i fr stk w fr1 stk1 w1
    intro ρ fr' stk' w' Ow h hmi ho
    refine Wi.of_step rfl fun w₁ k => ?_
    have h1 : St P T B ρ fr stk w fr' stk' w₁ := ⟨h.top, h.mode, h.below, h.wr.kept hmi k, h.gl⟩
    rcases step2 hF h1 with ⟨c1, c2⟩ | ⟨id, ops, k', c1, c2⟩ | ⟨fr2, stk2, w2, fr2', stk2', w2', σ, m, c1, c2, c3, c4, c5, c6⟩ | c
    · exfalso
      obtain ⟨g1, _⟩ := h.top.form
      rw [c1] at g1
      obtain ⟨fn, cd, q1, q2, q3, q4, q5⟩ := hF _ h.top.inT
      obtain ⟨v, v', hv, e1, e2⟩ := results_of h.top.slots q5
      obtain ⟨es2, he2⟩ := hgo (fun _ _ => 0) 0 [wallV]
      have hr := st_return (P := P) (main := true) (cs := []) (c := wallV) (td := fr.todo) (w := tp w (fun _ _ => 0) 0) q1 (fun es => e1 P _ es)
      rw [← g1] at hr
      rw [c2, List.nil_append, hr] at he2
      simp only [GStep.go.injEq, G, Goroutine.mk.injEq, and_true] at he2
      have := he2.1.2
      cases stk1 with
      | nil => cases this
      | cons a l => cases this
    · exfalso
      obtain ⟨g1, _⟩ := h.top.form
      rw [c1, c2] at g1
      obtain ⟨es2, he2⟩ := hgo (fun _ _ => 0) 0 []
      have hr := st_draw (P := P) (main := true) (fn := fr.fn) (ts := fr.tmps) (k := k') (cs := stk ++ []) (w := tp w (fun _ _ => 0) 0) (id := id) (ops := ops)
      rw [← g1] at hr
      rw [hr] at he2
      simp only [GStep.go.injEq] at he2
      have := congrArg World.drawn he2.2.1
      simp [tp] at this
    · obtain ⟨u1, u2, u3⟩ := GoTo.uniq c1 hgo
      subst u1 u2
      have c3' : St P T B σ fr1 stk1 w1 fr2' stk2' w2' := ⟨c3.top, c3.mode, c3.below, c3.wr.heap u3, c3.gl⟩
      refine ⟨_, _, m, fun b' => Ow b' ∨ ∃ b, B ≤ b ∧ σ b = some b', c2 main base, ⟨c4.tape, c4.os, c4.output, c4.size, fun b hb hn => c4.block b hb fun x hx e => hn (hmi.ow x b e hx), ?_, fun b q => .inl q, fun e he => ?_⟩, ih c3' ⟨fun b b' e hlt => ?_, fun b b' e hge => .inr ⟨b, hge, e⟩⟩ fun b q => .inl (ho b q)⟩
      · rintro b' (q | ⟨b, hb, e⟩)
        · exact .inl q
        · rcases c4.fresh b b' e with r | ⟨_, r2, r3⟩
          · exact .inl (hmi.ow b b' r hb)
          · exact .inr ⟨r2, r3⟩
      · rcases c6 e he with ⟨b, a, e1, e2, e3, e4⟩ | q
        · left
          refine ⟨a, e2, e3, ?_⟩
          rcases Nat.lt_or_ge b B with hlt | hge
          · rcases c4.fresh b a.block e1 with r | ⟨r, _, _⟩
            · rcases hmi.sh b _ r hlt with q | q
              · refine .inr ⟨q, ?_⟩
                cases hwr : e.write with
                | false => rfl
                | true => have := e4 hwr; omega
              · exact .inl (.inl q)
            · omega
          · exact .inl (.inr ⟨b, hge, e1⟩)
        · exact .inr q
      · rcases c4.fresh b b' e with r | ⟨r, _, _⟩
        · rcases hmi.sh b b' r hlt with q | q
          · exact .inl q
          · exact .inr (.inl q)
        · omega
    · exfalso
      obtain ⟨es, he⟩ := hgo (fun _ _ => 0) 0 []
      obtain ⟨es2, w2, c⟩ := c (fun _ _ => 0) 0 []
      rcases c with ⟨o, hoo⟩ | ⟨v, hv⟩
      · rw [hoo] at he; cases he
      · rw [hv] at he
        simp only [GStep.go.injEq, G, Goroutine.mk.injEq, and_true] at he
        have hpp : ∃ ch, (fr.raise [{ v, recovered := false }]).mode = .panicking ch := by
          unfold Frame.raise
          split <;> exact ⟨_, rfl⟩
        obtain ⟨ch, hpp⟩ := hpp
        rw [he.1.1] at hpp
        exact hp ch hpp
  | draw hm ht t ih =>
    rename_i fr stk w id ops k
    intro ρ fr' stk' w' Ow h hmi ho
    refine Wi.of_step rfl fun w₁ kk => ?_
    have h1 : St P T B ρ fr stk w fr' stk' w₁ := ⟨h.top, h.mode, h.below, h.wr.kept hmi kk, h.gl⟩
    obtain ⟨_, g1⟩ := h.top.form
    rw [hm, ht] at g1
    have hr := st_draw (P := P) (main := main) (fn := fr.fn) (ts := fr'.tmps) (k := k) (cs := stk' ++ base) (w := w₁) (id := id) (ops := ops)
    rw [← g1] at hr
    have e2 : frm fr.fn fr'.tmps (.inRegion ops (Region.schedule (P.follows .mixedOrders) ops (w₁.tape w₁.drawn (.order fr.fn id))) :: k) .run = drawnTo P fr' ops k (w₁.tape w₁.drawn (.order fr.fn id)) := by
      have : drawnTo P fr' ops k (w₁.tape w₁.drawn (.order fr.fn id)) = drawnTo P (frm fr.fn fr'.tmps (.code (.region id ops true) :: k) .run) ops k (w₁.tape w₁.drawn (.order fr.fn id)) := by rw [← g1]
      rw [this]
      rfl
    rw [e2] at hr
    have h2 := h1.drawn (P := P) ht (w₁.tape w₁.drawn (.order fr.fn id))
    refine ⟨_, _, #[], Ow, hr, ⟨rfl, rfl, rfl, Nat.le_refl _, fun _ _ _ => rfl, fun b q => .inl q, fun b q => q, by simp⟩, ih _ (ρ := ρ) ⟨h2.top, h2.mode, h2.below, h2.wr.heap' rfl, h2.gl⟩ hmi ho⟩
end Go.Proofs.YtckoipoejaafhaaDoor.Cc
