/-
  Texts that stood one behind the other, as one.
-/
import Derived.Test.YtckoipoejaafhaaDoorCdFAll
namespace Go.Proofs.YtckoipoejaafhaaDoor.Cc
open Go Go.Conc
section
variable (P : Program) (fs : Fs) (Su Sh Ow : Nat → Prop) (G q : Nat) (K : List Item) (base : List Frame) (whole : Bool)
def HasN (s : Cn) : Prop := ∃ x : Cn × Nat × Nat, Nx P fs Su Sh Ow G q K base whole s x.1 x.2.1 x.2.2
def HasF (s : Cn) : Prop := ∃ x : Nat × Nat, FailsAt P whole s x.1 x.2
open Classical in
noncomputable def nxt (s : Cn) : Cn × Nat × Nat := if h : HasN P fs Su Sh Ow G q K base whole s then Classical.choose h else if h : HasF P whole s then (s, Classical.choose h) else (s, 0, 0)
noncomputable def sqn (s0 : Cn) : Nat → Cn × Nat
  | 0 => (s0, 0)
  | n + 1 => ((nxt P fs Su Sh Ow G q K base whole (sqn s0 n).1).1, (sqn s0 n).2 + (nxt P fs Su Sh Ow G q K base whole (sqn s0 n).1).2.2)
open Classical in
noncomputable def tpn (s0 : Cn) (m : Nat) (x : Question) : Nat :=
  if h : ∃ n, (sqn P fs Su Sh Ow G q K base whole s0 n).2 ≤ m ∧ m < (sqn P fs Su Sh Ow G q K base whole s0 (n + 1)).2 then
    s0.w.tape ((nxt P fs Su Sh Ow G q K base whole (sqn P fs Su Sh Ow G q K base whole s0 (Classical.choose h)).1).2.1 + (m - (sqn P fs Su Sh Ow G q K base whole s0 (Classical.choose h)).2)) x
  else 0
end
section
variable {P : Program} {fs : Fs} {Su Sh Ow : Nat → Prop} {G q : Nat} {K : List Item} {base : List Frame} {whole : Bool}
theorem nxt_spec {s : Cn} (h : HasN P fs Su Sh Ow G q K base whole s) : Nx P fs Su Sh Ow G q K base whole s (nxt P fs Su Sh Ow G q K base whole s).1 (nxt P fs Su Sh Ow G q K base whole s).2.1 (nxt P fs Su Sh Ow G q K base whole s).2.2 := by
  unfold nxt
  rw [dif_pos h]
  exact Classical.choose_spec h
theorem nxt_fail {s : Cn} (h0 : ¬ HasN P fs Su Sh Ow G q K base whole s) (h : HasF P whole s) : FailsAt P whole s (nxt P fs Su Sh Ow G q K base whole s).2.1 (nxt P fs Su Sh Ow G q K base whole s).2.2 := by
  unfold nxt
  rw [dif_neg h0, dif_pos h]
  exact Classical.choose_spec h
theorem sqn_mono (s0 : Cn) {m n : Nat} (h : m ≤ n) : (sqn P fs Su Sh Ow G q K base whole s0 m).2 ≤ (sqn P fs Su Sh Ow G q K base whole s0 n).2 := by
  induction h with
  | refl => exact Nat.le_refl _
  | step h ih => exact Nat.le_trans ih (Nat.le_add_right _ _)
theorem tpn_at (s0 : Cn) (n j : Nat) (hj : j < (nxt P fs Su Sh Ow G q K base whole (sqn P fs Su Sh Ow G q K base whole s0 n).1).2.2) (x : Question) :
    tpn P fs Su Sh Ow G q K base whole s0 ((sqn P fs Su Sh Ow G q K base whole s0 n).2 + j) x = s0.w.tape ((nxt P fs Su Sh Ow G q K base whole (sqn P fs Su Sh Ow G q K base whole s0 n).1).2.1 + j) x := by
  have hx : ∃ n', (sqn P fs Su Sh Ow G q K base whole s0 n').2 ≤ (sqn P fs Su Sh Ow G q K base whole s0 n).2 + j ∧ (sqn P fs Su Sh Ow G q K base whole s0 n).2 + j < (sqn P fs Su Sh Ow G q K base whole s0 (n' + 1)).2 := ⟨n, Nat.le_add_right _ _, Nat.add_lt_add_left hj _⟩
  unfold tpn
  rw [dif_pos hx]
  obtain ⟨h1, h2⟩ := Classical.choose_spec hx
  generalize Classical.choose hx = m at h1 h2
  have hmn : m = n := by
    rcases Nat.lt_trichotomy m n with hlt | heq | hgt
    · have := sqn_mono (P := P) (fs := fs) (Su := Su) (Sh := Sh) (Ow := Ow) (G := G) (q := q) (K := K) (base := base) (whole := whole) s0 (show m + 1 ≤ n by omega)
      omega
    · exact heq
    · have := sqn_mono (P := P) (fs := fs) (Su := Su) (Sh := Sh) (Ow := Ow) (G := G) (q := q) (K := K) (base := base) (whole := whole) s0 (show n + 1 ≤ m by omega)
      have e : (sqn P fs Su Sh Ow G q K base whole s0 (n + 1)).2 = (sqn P fs Su Sh Ow G q K base whole s0 n).2 + (nxt P fs Su Sh Ow G q K base whole (sqn P fs Su Sh Ow G q K base whole s0 n).1).2.2 := rfl
      omega
  subst hmn
  rw [Nat.add_sub_cancel_left]
theorem run_beside (hF : FnsAll P fs) (hE : NoEarly P G) (hK : whole = true → K = []) {s0 : Cn} (h0 : CI P fs Su Sh Ow G q K base s0) {Qe : Frame → World → Prop}
    (hL : ∀ τ bs, ∃ N frE wE, runN P N (lone (topK (kw whole) s0.fr s0.stk) (extK (kw whole) s0.stk ++ bs) (tp s0.pw τ 0)) = .next (lone frE bs wE) ∧ Qe frE wE)
    (hQ : ∀ fr w, Qe fr w → ∀ ch, fr.mode ≠ .panicking ch) :
    ∃ s' τ c, (∃ N, runNT P N (crowd s0.gs s0.w s0.sl) s0.t = (.next (crowd s'.gs s'.w s'.sl), s'.t)) ∧ CI P fs Su Sh Ow G q K base s' ∧ s'.stk = [] ∧ (s'.w.tape = s0.w.tape ∧ s0.w.heap.size ≤ s'.w.heap.size) ∧ Qe (s'.fr.and (kw whole)) (tp s'.pw τ c) := by
  obtain ⟨sq, hsq⟩ : ∃ sq : Nat → Cn × Nat, sq = sqn P fs Su Sh Ow G q K base whole s0 := ⟨_, rfl⟩
  obtain ⟨τ, hτ⟩ : ∃ τ, τ = tpn P fs Su Sh Ow G q K base whole s0 := ⟨_, rfl⟩
  have sq0 : sq 0 = (s0, 0) := by rw [hsq]; rfl
  -- as long as there is a next one
  have clA : ∀ n, (∀ j, j < n → HasN P fs Su Sh Ow G q K base whole (sq j).1) → CI P fs Su Sh Ow G q K base (sq n).1 ∧ ((sq n).1.w.tape = s0.w.tape ∧ s0.w.heap.size ≤ (sq n).1.w.heap.size) ∧ (∃ N, runNT P N (crowd s0.gs s0.w s0.sl) s0.t = (.next (crowd (sq n).1.gs (sq n).1.w (sq n).1.sl), (sq n).1.t)) ∧
      ∀ bs, runN P n (lone (topK (kw whole) s0.fr s0.stk) (extK (kw whole) s0.stk ++ bs) (tp s0.pw τ 0)) = .next (lone (topK (kw whole) (sq n).1.fr (sq n).1.stk) (extK (kw whole) (sq n).1.stk ++ bs) (tp (sq n).1.pw τ (sq n).2)) := by
    intro n
    induction n with
    | zero =>
      intro _
      rw [sq0]
      exact ⟨h0, ⟨rfl, Nat.le_refl _⟩, ⟨0, rfl⟩, fun bs => rfl⟩
    | succ n ih =>
      intro hj
      obtain ⟨i1, ⟨i2, i2s⟩, ⟨N, i3⟩, i4⟩ := ih fun j hlt => hj j (by omega)
      have hn := nxt_spec (hj n (by omega))
      have e1 : (sq (n + 1)).1 = (nxt P fs Su Sh Ow G q K base whole (sq n).1).1 := by rw [hsq]; rfl
      have e2 : (sq (n + 1)).2 = (sq n).2 + (nxt P fs Su Sh Ow G q K base whole (sq n).1).2.2 := by rw [hsq]; rfl
      rw [e1, e2]
      obtain ⟨N', r1⟩ := hn.runs
      refine ⟨hn.ci, ⟨hn.tape.trans i2, Nat.le_trans i2s hn.size⟩, ⟨N + N', runNT_seq i3 r1⟩, fun bs => ?_⟩
      obtain ⟨es, he⟩ := hn.lone τ (sq n).2 bs fun j hjk x => by
        have ht := tpn_at (P := P) (fs := fs) (Su := Su) (Sh := Sh) (Ow := Ow) (G := G) (q := q) (K := K) (base := base) (whole := whole) s0 n j (by rw [← hsq]; exact hjk) x
        rw [← hsq, ← hτ] at ht
        rw [ht, i2]
      rw [runN_add, i4 bs]
      have hs := step_of_go he
      simp only [runN, hs]
  -- where the contract's end lies
  have same : ∀ N bs frE wE, (∀ j, j < N → HasN P fs Su Sh Ow G q K base whole (sq j).1) → bs.length = 1 → runN P N (lone (topK (kw whole) s0.fr s0.stk) (extK (kw whole) s0.stk ++ bs) (tp s0.pw τ 0)) = .next (lone frE bs wE) → Qe frE wE →
      ∃ s' τ c, (∃ N, runNT P N (crowd s0.gs s0.w s0.sl) s0.t = (.next (crowd s'.gs s'.w s'.sl), s'.t)) ∧ CI P fs Su Sh Ow G q K base s' ∧ s'.stk = [] ∧ (s'.w.tape = s0.w.tape ∧ s0.w.heap.size ≤ s'.w.heap.size) ∧ Qe (s'.fr.and (kw whole)) (tp s'.pw τ c) := by
    intro N bs frE wE hj hlen hr hq
    obtain ⟨i1, i2, i3, i4⟩ := clA N hj
    rw [i4 bs] at hr
    simp only [Stepped.next.injEq, lone, Machine.mk.injEq, and_true] at hr
    obtain ⟨hw, hg⟩ := hr
    simp only [Array.mk.injEq, List.cons.injEq, Goroutine.mk.injEq, and_true] at hg
    obtain ⟨hfr, hstk⟩ := hg
    have hnil : (sq N).1.stk = [] := by
      cases hs : (sq N).1.stk with
      | nil => rfl
      | cons a l =>
        rw [hs, extK_cons] at hstk
        have := congrArg List.length hstk
        simp at this
        omega
    refine ⟨(sq N).1, τ, (sq N).2, i3, i1, hnil, i2, ?_⟩
    rw [hnil] at hfr
    rw [← hfr, ← hw] at hq
    exact hq
  by_cases hall : ∀ j, HasN P fs Su Sh Ow G q K base whole (sq j).1
  · obtain ⟨N, frE, wE, h1, h2⟩ := hL τ [wallV]
    exact same N [wallV] frE wE (fun j _ => hall j) rfl h1 h2
  · obtain ⟨j, hj, hmin⟩ : ∃ j, ¬ HasN P fs Su Sh Ow G q K base whole (sq j).1 ∧ ∀ i, i < j → HasN P fs Su Sh Ow G q K base whole (sq i).1 := by
      have hex : ∃ j, ¬ HasN P fs Su Sh Ow G q K base whole (sq j).1 := Classical.byContradiction fun q => hall fun j => Classical.byContradiction fun r => q ⟨j, r⟩
      obtain ⟨j, hj⟩ := hex
      induction j using Nat.strongRecOn with
      | _ j ih =>
        by_cases hx : ∃ i, i < j ∧ ¬ HasN P fs Su Sh Ow G q K base whole (sq i).1
        · obtain ⟨i, hi, hni⟩ := hx
          exact ih i hi hni
        · exact ⟨j, hj, fun i hi => Classical.byContradiction fun q => hx ⟨i, hi, q⟩⟩
    obtain ⟨i1, ⟨i2, i2s⟩, i3, i4⟩ := clA j hmin
    by_cases hout : OutK whole (sq j).1.fr (sq j).1.stk
    · obtain ⟨N, frE, wE, h1, h2⟩ := hL τ [wallV]
      rcases Nat.lt_or_ge j N with hlt | hge
      · exfalso
        obtain ⟨m1, r1, r2⟩ := run_split h1 (Nat.le_of_lt hlt)
        rw [i4 [wallV]] at r1
        cases r1
        obtain ⟨o1, o2⟩ := hout
        obtain ⟨r, hr⟩ : ∃ r, N - j = r + 1 := ⟨N - j - 1, by omega⟩
        rw [hr, o1] at r2
        have hform := i1.sk.top.form
        have ret : (sq j).1.fr.mode = .returning → False := fun o2 => by
          obtain ⟨fn, hfn⟩ := i1.sk.top.fn
          have htop : topK (kw whole) (sq j).1.fr [] = frm (sq j).1.fr.fn (sq j).1.fr.tmps ((sq j).1.fr.todo ++ kw whole) .returning := by
            show (sq j).1.fr.and (kw whole) = _
            rw [hform, frm_and, o2]
            rfl
          rw [htop] at r2
          have hcs : extK (kw whole) [] ++ [wallV] = [wallV] := rfl
          rw [hcs] at r2
          cases hres : (results fn (sq j).1.fr.tmps).runT P (tp (sq j).1.pw τ (sq j).2) #[] with
          | mk res m =>
            cases res with
            | ok v w1 =>
              have hs := step_of_go (st_return2 (P := P) (main := true) (td := (sq j).1.fr.todo ++ kw whole) (c := wallV) (cs := []) hfn hres)
              have hfin : wallV.finish v = wallV := rfl
              rw [hfin] at hs
              simp only [runN, hs] at r2
              cases r with
              | zero =>
                simp only [runN, Stepped.next.injEq, lone, Machine.mk.injEq] at r2
                have := r2.2.1
                simp at this
              | succ r => exact stuck_wallV r2
            | halt x w1 =>
              obtain ⟨o, es, e⟩ := st_returnNo (P := P) (main := true) (td := (sq j).1.fr.todo ++ kw whole) (c := wallV) (cs := []) hfn hres
              have hs : step P (lone (frm (sq j).1.fr.fn (sq j).1.fr.tmps ((sq j).1.fr.todo ++ kw whole) .returning) [wallV] (tp (sq j).1.pw τ (sq j).2)) = .ended o w1 := by
                refine step_lone_ended ?_
                show (stepG P true (Go.Conc.G _ _) _).bare = _
                rw [e]; rfl
              simp only [runN, hs] at r2
              cases r2
        rcases o2 with o2 | ⟨o2, o3⟩
        · exact ret o2
        · rcases i1.sk.mode with hm | hm
          · have hkw : kw whole = [.code (.refuse "")] := by rw [o2]; rfl
            have htop : topK (kw whole) (sq j).1.fr [] = frm (sq j).1.fr.fn (sq j).1.fr.tmps [.code (.refuse "")] .run := by
              show (sq j).1.fr.and (kw whole) = _
              rw [hform, frm_and, hm, o3, hkw]
              rfl
            rw [htop] at r2
            obtain ⟨o, hs⟩ : ∃ o, step P (lone (frm (sq j).1.fr.fn (sq j).1.fr.tmps [.code (.refuse "")] .run) (extK (kw whole) [] ++ [wallV]) (tp (sq j).1.pw τ (sq j).2)) = .ended o (tp (sq j).1.pw τ (sq j).2) := by
              obtain ⟨o, ho⟩ : ∃ o, stepG P true (Go.Conc.G (frm (sq j).1.fr.fn (sq j).1.fr.tmps [.code (.refuse "")] .run) (extK (kw whole) [] ++ [wallV])) (tp (sq j).1.pw τ (sq j).2) = .ended o (tp (sq j).1.pw τ (sq j).2) := ⟨_, by simp [Go.Conc.G, stepG, stepG.exec, frm]; rfl⟩
              refine ⟨o, step_lone_ended ?_⟩
              show (stepG P true (Go.Conc.G _ _) _).bare = _
              rw [ho]
              rfl
            simp only [runN, hs] at r2
            cases r2
          · exact ret hm
      · exact same N [wallV] frE wE (fun i hi => hmin i (by omega)) rfl h1 h2
    · obtain ⟨e, k, hx | hfail⟩ := CI.next (whole := whole) hF hE hK i1 hout
      · obtain ⟨s', hs'⟩ := hx
        exact absurd ⟨(s', e, k), hs'⟩ hj
      · obtain ⟨N, frE, wE, h1, h2⟩ := hL τ [wallP P]
        rcases Nat.lt_or_ge j N with hlt | hge
        · exfalso
          have hff := nxt_fail hj ⟨(e, k), hfail⟩
          obtain ⟨m1, r1, r2⟩ := run_split h1 (Nat.le_of_lt hlt)
          rw [i4 [wallP P]] at r1
          cases r1
          obtain ⟨r, hr⟩ : ∃ r, N - j = r + 1 := ⟨N - j - 1, by omega⟩
          rw [hr] at r2
          obtain ⟨es, w2, hx⟩ := hff τ (sq j).2 [wallP P] fun i hi x => by
            have ht := tpn_at (P := P) (fs := fs) (Su := Su) (Sh := Sh) (Ow := Ow) (G := G) (q := q) (K := K) (base := base) (whole := whole) s0 j i (by rw [← hsq]; exact hi) x
            rw [← hsq, ← hτ] at ht
            rw [ht, i2]
          rcases hx with ⟨o, ho⟩ | ⟨v, hv⟩
          · have hs : step P (lone (topK (kw whole) (sq j).1.fr (sq j).1.stk) (extK (kw whole) (sq j).1.stk ++ [wallP P]) (tp (sq j).1.pw τ (sq j).2)) = .ended o w2 := by
              refine step_lone_ended ?_
              show (stepG P true (rl (kw whole) [wallP P] (sq j).1.fr (sq j).1.stk) _).bare = _
              rw [ho]; rfl
            simp only [runN, hs] at r2
            cases r2
          · have hs := step_of_go hv
            simp only [runN, hs] at r2
            obtain ⟨p1, p2, p3⟩ := i1.sk.plain (kw whole)
            have hcr : (∃ ch, ((topK (kw whole) (sq j).1.fr (sq j).1.stk).raise [{ v, recovered := false }]).mode = .panicking ch) ∧ ((topK (kw whole) (sq j).1.fr (sq j).1.stk).raise [{ v, recovered := false }]).defers = (topK (kw whole) (sq j).1.fr (sq j).1.stk).defers ∧ ((topK (kw whole) (sq j).1.fr (sq j).1.stk).raise [{ v, recovered := false }]).fn = (topK (kw whole) (sq j).1.fr (sq j).1.stk).fn := by
              unfold Frame.raise
              split <;> exact ⟨⟨_, rfl⟩, rfl, rfl⟩
            obtain ⟨⟨ch, k1⟩, k2, k3⟩ := hcr
            exact stuck_panic2 ⟨frE, wE, rfl, hQ _ _ h2⟩ r _ _ w2 ch k1 (by rw [k2]; exact p2) p1 (by rw [k3]; exact p3) r2
        · exact same N [wallP P] frE wE (fun i hi => hmin i (by omega)) rfl h1 h2
end
open Classical in
noncomputable def emp (Su : Nat → Prop) (w : World) : World := { w with heap := w.heap.mapIdx fun b o => if Su b then (match o with | .cells _ e fr => .cells #[] e fr | o => o) else o }
def SuC (Su : Nat → Prop) (w : World) : Prop := ∀ b, Su b → ∃ cs e fr, w.heap[b]? = some (.cells cs e fr)
section
variable {Su : Nat → Prop} {w pw : World}
theorem emp_out {b : Nat} (hb : ¬ Su b) : (emp Su w).heap[b]? = w.heap[b]? := by
  simp only [emp, Array.getElem?_mapIdx]
  cases w.heap[b]? with
  | none => rfl
  | some o => simp [hb]
theorem emp_in {b : Nat} (hb : Su b) {cs : Array Value} {e : TypeId} {fr : Nat × Nat} (h : w.heap[b]? = some (.cells cs e fr)) : (emp Su w).heap[b]? = some (.cells #[] e fr) := by
  simp only [emp, Array.getElem?_mapIdx, h]
  simp [hb]
theorem emp_size (Su : Nat → Prop) (w : World) : (emp Su w).heap.size = w.heap.size := by simp [emp]
theorem emp_PW (h : SuC Su w) : PW Su (emp Su w) w :=
  ⟨rfl, rfl, emp_size Su w, fun b hb => emp_out hb, fun b hb => by obtain ⟨cs, e, fr, h1⟩ := h b hb; exact ⟨cs, e, fr, h1, emp_in hb h1⟩⟩
theorem PW.suc (h : PW Su pw w) : SuC Su w := fun b hb => by obtain ⟨cs, e, fr, h1, _⟩ := h.in_ b hb; exact ⟨cs, e, fr, h1⟩
theorem pw_is (h : PW Su pw w) : pw = tp (emp Su w) pw.tape pw.drawn := by
  have hh : pw.heap = (emp Su w).heap := by
    apply Array.ext_getElem?
    intro b
    by_cases hb : Su b
    · obtain ⟨cs, e, fr, h1, h2⟩ := h.in_ b hb
      rw [h2, emp_in hb h1]
    · rw [h.out b hb, emp_out hb]
  obtain ⟨heap, tape, drawn, os, out⟩ := pw
  have h1 := h.os
  have h2 := h.output
  simp only at hh h1 h2
  subst hh h1 h2
  rfl
theorem emp_cell {a : Addr} (ha : ¬ Su a.block) : (emp Su w).cell? a = w.cell? a := by simp only [World.cell?, emp_out ha]
end
def Rd (P : Program) {α : Type} : Sem α → Prop
  | .pure _ => True
  | .load _ _ k => ∀ v, Rd P (k v)
  | .program k => Rd P (k P)
  | .halt _ => True
  | .store _ _ _ _ | .new _ _ | .shape _ _ | .freeze _ _ _ | .frozen _ _ | .getObj _ _ | .setObj _ _ _ | .choose _ _ | .sys _ _ | .mark _ _ => False
theorem Rd.bind {P : Program} {α β : Type} {f : α → Sem β} {s : Sem α} (h : Rd P s) (k : ∀ a, Rd P (f a)) : Rd P (s.bind f) := by
  induction s with
  | pure a => exact k a
  | load m a c ih => exact fun v => ih v (h v)
  | program c ih => exact ih P h
  | halt e => exact trivial
  | _ => exact h.elim
theorem Rd.run {P : Program} {α : Type} {s : Sem α} (h : Rd P s) (w : World) : (∃ a, ∀ τ d, s.run P (tp w τ d) = .ok a (tp w τ d)) ∨ ∃ e, ∀ τ d, s.run P (tp w τ d) = .halt e (tp w τ d) := by
  induction s with
  | pure a => exact .inl ⟨a, fun _ _ => rfl⟩
  | load m a c ih =>
    have e1 : ∀ τ d, (tp w τ d).cell? a = w.cell? a := fun _ _ => rfl
    have e2 : ∀ τ d, (tp w τ d).farLoad P a (m == .atomic) = w.farLoad P a (m == .atomic) := fun _ _ => rfl
    simp only [Sem.run, e1, e2]
    cases hc : w.cell? a with
    | some v => exact ih v (h v)
    | none =>
      cases hl : w.farLoad P a (m == .atomic) with
      | ok r => exact ih r.1 (h r.1)
      | error e => exact .inr ⟨e, fun _ _ => rfl⟩
  | program c ih => exact ih P h
  | halt e => exact .inr ⟨e, fun _ _ => rfl⟩
  | _ => exact h.elim
theorem rd_program (P : Program) : Rd P Go.program := trivial
theorem rd_underlying (P : Program) (t : TypeId) : Rd P (underlying t) := by
  unfold underlying
  refine Rd.bind (rd_program P) fun p => ?_
  split <;> exact trivial
theorem rd_typeInfo (P : Program) (t : TypeId) : Rd P (typeInfo t) := by
  unfold typeInfo
  refine Rd.bind (rd_program P) fun p => ?_
  split <;> exact trivial
theorem rd_loadCells (P : Program) (a : Addr) (n : Nat) : ∀ (i : Nat) (acc : Array Value), Rd P (loadCellsFrom a i n acc) := by
  induction n with
  | zero => intro i acc; exact trivial
  | succ n ih => intro i acc; exact fun v => ih _ _
theorem rd_loadVar (P : Program) (t : TypeId) (a : Addr) : Rd P (loadVar t a) := by
  unfold loadVar
  refine Rd.bind ?_ fun b => ?_
  · unfold isAgg
    refine Rd.bind (rd_underlying P t) fun d => ?_
    split <;> exact trivial
  · split
    · exact Rd.bind (Rd.bind (rd_typeInfo P t) fun _ => trivial) fun n => Rd.bind (rd_loadCells P a n 0 #[]) fun _ => trivial
    · exact fun v => trivial
theorem rd_results (P : Program) (fn : Func) (ts : Array Value) : Rd P (results fn ts) := by
  unfold results
  refine Rd.bind ?_ fun _ => trivial
  rw [Array.mapM_eq_mapM_toList]
  refine Rd.bind ?_ fun _ => trivial
  induction fn.results.toList with
  | nil => rw [List.mapM_nil]; exact trivial
  | cons r l ih =>
    rw [List.mapM_cons]
    refine Rd.bind ?_ fun _ => Rd.bind ih fun _ => trivial
    cases r with
    | tmp t => exact trivial
    | cell a t =>
      refine Rd.bind ?_ fun a => rd_loadVar P t a
      unfold asAddr
      split
      · exact trivial
      · exact trivial
      · exact trivial
section
variable {P : Program} {fs : Fs} {Su Sh Ow : Nat → Prop} {G q : Nat}
theorem and_nil (fr : Frame) : fr.and [] = fr := by
  unfold Frame.and
  rw [List.append_nil]
theorem call_beside (hF : FnsAll P fs) (hE : NoEarly P G) {f : FuncId} {args : Array Value} {c : Frame} {cs : List Frame} {R : Value → World → Prop} (hf : fs.contains f = true) (ha : args.size ≤ 7) {ff : Nat → Nat} {gs : Array Goroutine} {w : World} {t : Trace} (sl : Option (Nat × Nat))
    (hB : Bes P q Su Sh Ow ff gs (Go.Conc.G (Frame.enter P f args .normal) (c :: cs)) w t) (hsu : SuC Su w) (hg : Gl G (emp Su w))
    (hC : ∀ τ d, Calls P f args (tp (emp Su w) τ d) fun e w1 => ∃ v, e = .returned v ∧ R v w1) (hR : ∀ v w τ d τ' d', R v (tp w τ d) → R v (tp w τ' d')) :
    ∃ N ff' gs' w' sl' t' v, runNT P N (crowd gs w sl) t = (.next (crowd gs' w' sl'), t') ∧ Bes P q Su Sh Ow ff' gs' (Go.Conc.G (c.finish v) cs) w' t' ∧ SuC Su w' ∧ Gl G (emp Su w') ∧ w'.tape = w.tape ∧ w.heap.size ≤ w'.heap.size ∧ R v (emp Su w') := by
  obtain ⟨e1, e2⟩ := frk_enter hF hf args ha
  have h0 : CI P fs Su Sh Ow G q [] (c :: cs) ⟨gs, w, sl, t, ff, Frame.enter P f args .normal, [], emp Su w⟩ := ⟨by show Bes P q Su Sh Ow ff gs (Go.Conc.G ((Frame.enter P f args .normal).and []) _) w t; rw [and_nil]; exact hB, ⟨e1, .inl e2, fun _ h => by cases h⟩, emp_PW hsu, hg⟩
  obtain ⟨s', τ, d, ⟨N, hN⟩, hci, hstk, ⟨htape, hsize⟩, fn, hmode, hfn, v, hv, hRv⟩ := run_beside (whole := true) hF hE (fun _ => rfl) h0 (Qe := fun fr w1 => ∃ fn, fr.mode = .returning ∧ P.funcs[fr.fn]? = some fn ∧ ∃ v, (results fn fr.tmps).run P w1 = .ok v w1 ∧ R v w1) (fun τ bs => by
    obtain ⟨e, wE, frE, ⟨v, rfl, hRv⟩, ⟨N, hN⟩, hfn, hm, hd, hk, fn, hfn2, hr⟩ := hC τ 0 bs
    refine ⟨N, frE, wE, ?_, fn, hm, hfn2, v, hr, hRv⟩
    show runN P N (lone ((Frame.enter P f args .normal).and []) bs _) = _
    rw [and_nil]
    exact hN) (fun fr w h ch => by obtain ⟨_, hm, _⟩ := h; rw [hm]; simp)
  obtain ⟨sgs, sw, ssl, st, sf, sfr, sstk, spw⟩ := s'
  simp only at hstk htape hsize hN hmode hfn hv hRv
  subst hstk
  have hnil : kw true = [] := rfl
  rw [hnil, and_nil] at hmode hfn hv
  -- it returns
  obtain ⟨N2, f2, gs2, d2, d3, sl2, sl3, t2, r1, r2, r3⟩ := Bes.turn (a := rl [] (c :: cs) sfr []) _ sf sgs sw ssl st (Nat.le_refl _) rfl hci.bes
  have hp2 : PW Su spw (sw.at d3) := ⟨hci.pw.os, hci.pw.output, hci.pw.size, hci.pw.out, hci.pw.in_⟩
  obtain ⟨k, hk⟩ := Cl.run (G := G) _ (ct_results (P := P) (Su := Su) fn sfr.tmps) hp2 hci.gl
  have hform := hci.sk.top.form
  simp only at hform
  have hfr : rl [] (c :: cs) sfr [] = Go.Conc.G (frm sfr.fn sfr.tmps sfr.todo .returning) (c :: cs) := by
    show Go.Conc.G (sfr.and []) (c :: cs) = _
    rw [and_nil]
    rw [hmode] at hform
    rw [← hform]
  have hrun : ∀ τ' d', (results fn sfr.tmps).run P (tp spw τ' d') = .ok v (tp spw τ' d') := by
    rcases (rd_results P fn sfr.tmps).run spw with ⟨a, ha⟩ | ⟨x, hx⟩
    · have := (ha τ d).symm.trans hv
      simp only [Result.ok.injEq] at this
      rw [this.1] at ha
      exact ha
    · have := (hx τ d).symm.trans hv
      cases this
  obtain ⟨σ, hσ⟩ : ∃ σ : Nat → Question → Nat, Agr k (sw.at d3) σ 0 := ⟨fun j x => (sw.at d3).tape ((sw.at d3).drawn + j) x, fun j _ x => by simp⟩
  rcases hk with ⟨a, pw1, w1, n, p1, p2, _, p4, p5, p6, p7, p8, p9⟩ | hk
  · have e4 := congrArg Prod.fst (p1 σ 0 #[] hσ)
    rw [Sem.runT_fst, hrun] at e4
    simp only [Result.ok.injEq] at e4
    obtain ⟨rfl, e5⟩ := e4
    have hgo : stepG P true (rl [] (c :: cs) sfr []) (sw.at d3) = .go (Go.Conc.G (c.finish v) cs) w1 (seen P sfr.fn n) := by
      rw [hfr]
      exact st_return2 hfn (by rw [p2 #[], Array.empty_append])
    obtain ⟨g1, g2⟩ := r2.stepB (sl := sl3) hgo p8 (fun e he => p9 e (mem_seen he))
    have hw1 : pw1 = tp (emp Su w1) pw1.tape pw1.drawn := pw_is p4
    refine ⟨N + (N2 + 1), f2, _, w1, sl3, _, v, runNT_seq hN (runNT_seq r1 (by rw [runNT_succ_next (r3.trans g1)]; rfl)), g2, p4.suc, ?_, p6.trans htape, ?_, ?_⟩
    · have h5 := p5
      rw [hw1] at h5
      exact h5
    · exact Nat.le_trans hsize p8
    · have e6 : tp spw (emp Su w1).tape (emp Su w1).drawn = tp (emp Su w1) (emp Su w1).tape (emp Su w1).drawn := by
        have h1 := congrArg (fun x => tp x (emp Su w1).tape (emp Su w1).drawn) e5
        have h2 := congrArg (fun x => tp x (emp Su w1).tape (emp Su w1).drawn) hw1
        exact h1.trans h2
      have h7 := hR v spw τ d (emp Su w1).tape (emp Su w1).drawn hRv
      rw [e6] at h7
      exact h7
  · obtain ⟨x, w2, m, e3, _⟩ := hk σ 0 #[] hσ
    have e4 := congrArg Prod.fst e3
    rw [Sem.runT_fst, hrun] at e4
    cases e4
theorem piece_beside (hF : FnsAll P fs) (hE : NoEarly P G) {fn : FuncId} {ts : Array Value} {c : Code} {k : List Item} {cs : List Frame} {Q : Exit → Act → World → Prop} (hfn : ∃ f, P.funcs[fn]? = some f) (hsl : ∀ t, fs.has fn t = false) (hc : codeK P fs fn c = true) {ff : Nat → Nat} {gs : Array Goroutine} {w : World} {t : Trace} (sl : Option (Nat × Nat))
    (hB : Bes P q Su Sh Ow ff gs (Go.Conc.G (frm fn ts (.code c :: k) .run) cs) w t) (hsu : SuC Su w) (hg : Gl G (emp Su w))
    (hC : ∀ τ d, c.wp P Q ⟨ts, []⟩ (tp (emp Su w) τ d)) (hQ : ∀ e a w, Q e a w → e = .normal ∨ e = .ret) (hR : ∀ e a w τ d τ' d', Q e a (tp w τ d) → Q e a (tp w τ' d')) :
    ∃ N ff' gs' w' sl' t' ts' a, runNT P N (crowd gs w sl) t = (.next (crowd gs' w' sl'), t') ∧ Bes P q Su Sh Ow ff' gs' a w' t' ∧ SuC Su w' ∧ Gl G (emp Su w') ∧ w'.tape = w.tape ∧ w.heap.size ≤ w'.heap.size ∧
      ((Q .normal ⟨ts', []⟩ (emp Su w') ∧ a = Go.Conc.G (frm fn ts' k .run) cs) ∨ (Q .ret ⟨ts', []⟩ (emp Su w') ∧ ∃ td, a = Go.Conc.G (frm fn ts' td .returning) cs)) := by
  have h0 : CI P fs Su Sh Ow G q k cs ⟨gs, w, sl, t, ff, frm fn ts [.code c] .run, [], emp Su w⟩ := ⟨hB, ⟨⟨hfn, by simp [frm, itemK, hc], rfl, fun t ht => absurd (show fs.has fn t = true from ht) (by rw [hsl t]; simp)⟩, .inl rfl, fun _ h => by cases h⟩, emp_PW hsu, hg⟩
  obtain ⟨s', τ, d, ⟨N, hN⟩, hci, hstk, ⟨htape, hsize⟩, e, a', hq, hfr⟩ := run_beside (whole := false) hF hE (fun h => by cases h) h0 (Qe := fun fr w1 => ∃ e a', Q e a' w1 ∧ ((e = .normal ∧ fr = (Go.Conc.base fn).at a' (kw false)) ∨ (e = .ret ∧ ∃ todo, fr = { (Go.Conc.base fn).at a' todo with mode := .returning }))) (fun τ bs => by
    obtain ⟨e, a', w1, h1, h2⟩ := hC τ 0 (Go.Conc.base fn) (kw false) bs
    rcases hQ _ _ _ h1 with rfl | rfl
    · obtain ⟨N, hN⟩ := h2
      exact ⟨N, _, w1, hN, _, a', h1, .inl ⟨rfl, rfl⟩⟩
    · obtain ⟨todo, N, hN⟩ := h2
      exact ⟨N, _, w1, hN, _, a', h1, .inr ⟨rfl, todo, rfl⟩⟩) (fun fr w h ch => by
    obtain ⟨e, a', _, ⟨_, rfl⟩ | ⟨_, todo, rfl⟩⟩ := h
    · simp [Frame.at]
    · simp)
  obtain ⟨sgs, sw, ssl, st, sf, sfr, sstk, spw⟩ := s'
  simp only at hstk htape hsize hN hq hfr
  subst hstk
  have hform := hci.sk.top.form
  simp only at hform
  have hp := hci.pw
  simp only at hp
  have hw1 : spw = tp (emp Su sw) spw.tape spw.drawn := pw_is hp
  have hq' : ∀ e a, Q e a (tp spw τ d) → Q e a (emp Su sw) := fun e a h => by
    have h7 := hR e a spw τ d (emp Su sw).tape (emp Su sw).drawn h
    have h2 := congrArg (fun x => tp x (emp Su sw).tape (emp Su sw).drawn) hw1
    have h3 : tp spw (emp Su sw).tape (emp Su sw).drawn = tp (emp Su sw) (emp Su sw).tape (emp Su sw).drawn := h2
    rw [h3] at h7
    exact h7
  have hgl : Gl G (emp Su sw) := by
    have h5 := hci.gl
    simp only at h5
    rw [hw1] at h5
    exact h5
  obtain ⟨tmps, defers⟩ := a'
  rcases hfr with ⟨rfl, hfr⟩ | ⟨rfl, todo, hfr⟩
  · rw [hform, frm_and] at hfr
    simp only [frm, Frame.at, Go.Conc.base, Frame.mk.injEq] at hfr
    obtain ⟨f1, f2, f3, f4, f5, _⟩ := hfr
    have htd : sfr.todo = [] := by
      have := congrArg List.length f3
      simp at this
      exact this
    subst f4
    refine ⟨N, sf, sgs, sw, ssl, st, tmps, _, hN, hci.bes, hp.suc, hgl, htape, hsize, .inl ⟨hq' _ _ hq, ?_⟩⟩
    show Go.Conc.G (sfr.and k) cs = _
    rw [hform, frm_and, htd, f1, f2, f5]
    rfl
  · rw [hform, frm_and] at hfr
    simp only [frm, Frame.at, Go.Conc.base, Frame.mk.injEq] at hfr
    obtain ⟨f1, f2, f3, f4, f5, _⟩ := hfr
    subst f4
    refine ⟨N, sf, sgs, sw, ssl, st, tmps, _, hN, hci.bes, hp.suc, hgl, htape, hsize, .inr ⟨hq' _ _ hq, sfr.todo ++ k, ?_⟩⟩
    show Go.Conc.G (sfr.and k) cs = _
    rw [hform, frm_and, f1, f2, f5]
    rfl
end
end Go.Proofs.YtckoipoejaafhaaDoor.Cc
