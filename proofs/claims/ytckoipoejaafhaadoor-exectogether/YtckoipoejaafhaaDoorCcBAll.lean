/-
  Texts that stood one behind the other, as one.
-/
import Derived.Test.YtckoipoejaafhaaDoorCcMdAll
/-! The starter beside those that only leave: its way, and its return. -/
namespace Go.Proofs.YtckoipoejaafhaaDoor.Cc
open Go Go.Conc
open Go.ConcN (CT Apart upd upd_same upd_ne sumTo sumTo_upd get_map_set get_map_set_same)

theorem apart_no (Su : Nat → Prop) : Apart (ShT Su) (OwnT noT noC) (RdT noT) :=
  ⟨fun _ _ _ h _ => absurd h ownT_no, fun _ _ _ h => absurd h ownT_no, fun _ _ h => absurd h ownT_no, fun _ _ h => absurd h rdT_no⟩
structure Bes (P : Program) (q : Nat) (Su Sh Ow : Nat → Prop) (f : Nat → Nat) (gs : Array Goroutine) (a : Goroutine) (w : World) (t : Trace) : Prop where
  size : gs.size = q + 1
  a0 : gs[0]? = some a
  old : ∀ i, 1 ≤ i → i ≤ q → ∃ g, gs[i]? = some g ∧ QuitsD P (f i) (Deaf t i) g
  anc : Anc q Su w.heap.size t
  sh : ∀ b, Sh b → b < w.heap.size ∧ ¬ Su b
  ow : ∀ b, Ow b → b < w.heap.size ∧ ¬ Su b
  su : ∀ b, Su b → b < w.heap.size
section
variable {P : Program} {q : Nat} {Su Sh Ow Ow' : Nat → Prop} {f : Nat → Nat} {gs : Array Goroutine} {a : Goroutine} {w w' : World} {t : Trace} {sl : Option (Nat × Nat)} {es : Array Event}
theorem Bes.at (h : Bes P q Su Sh Ow f gs a w t) (d : Nat) : Bes P q Su Sh Ow f gs a (w.at d) t := ⟨h.size, h.a0, h.old, h.anc, h.sh, h.ow, h.su⟩
/-- The trace behind its own operations. -/
theorem Anc.own {B B' : Nat} (h : Anc q Su B t) (hB : B ≤ B') (fn : FuncId) (pos : String) (hev : ∀ e ∈ es, (∃ ad, e.loc = .cell ad ∧ e.sync = false ∧ ad.block < B' ∧ ¬ Su ad.block) ∨ e = ⟨.mark .noRoom, false, true⟩) : Anc q Su B' (t ++ MemOp.ofEvents 0 fn pos es) := by
  have hops : ∀ op ∈ MemOp.ofEvents 0 fn pos es, op.g = 0 := fun op hop => by obtain ⟨e, _, rfl⟩ := Go.Conc.mem_ofEvents hop; rfl
  refine ⟨CT.app0 (apart_no Su) h.ct fun op hop => ?_, (h.low.mono hB).app fun op hop x hx => ?_, handedOver_app h.over fun op hop => .inl (hops op hop), ?_, fun i hi => ?_⟩
  · obtain ⟨e, he, rfl⟩ := Go.Conc.mem_ofEvents hop
    refine ⟨rfl, fun x hx => ?_⟩
    rcases hev e he with ⟨ad, e1, e2, _, e4⟩ | rfl
    · obtain rfl := cell_touch e1 e2 hx
      refine .inr ⟨fun ⟨b, q1, q2⟩ => ?_, fun _ _ _ => ownT_no, fun _ _ _ _ => rdT_no⟩
      cases q1
      exact e4 q2
    · simp [MemAct.ofEvent, MemAct.touch?] at hx
  · obtain ⟨e, he, rfl⟩ := Go.Conc.mem_ofEvents hop
    rcases hev e he with ⟨ad, e1, e2, e3, _⟩ | rfl
    · obtain rfl := cell_touch e1 e2 hx
      exact e3
    · simp [MemAct.ofEvent, MemAct.touch?] at hx
  · rw [Deaf_own, deafBehind_still fun e he => ?_]
    · exact h.hears
    · rcases hev e he with ⟨ad, e1, _⟩ | rfl
      · rw [e1]; exact ⟨by simp, by simp⟩
      · simp
  · rw [Deaf_other t (g' := 0) (by omega) _ hops]
    exact h.above i hi
/-- Its own step. -/
theorem Bes.step (h : Bes P q Su Sh Ow f gs a w t) {a' : Goroutine} (hgo : stepG P true a w = .go a' w' es) (hd : Doing Sh Ow w w' es Ow') :
    runT P (crowd gs w sl) 0 = (.next (crowd ((gs.map (woken P a a' w')).setIfInBounds 0 a') w' sl), MemOp.ofEvents 0 a.frame.fn a.frame.place es) ∧ Bes P q Su Sh Ow' f ((gs.map (woken P a a' w')).setIfInBounds 0 a') a' w' (t ++ MemOp.ofEvents 0 a.frame.fn a.frame.place es) := by
  have hops : ∀ op ∈ MemOp.ofEvents 0 a.frame.fn a.frame.place es, op.g = 0 := fun op hop => by obtain ⟨e, _, rfl⟩ := Go.Conc.mem_ofEvents hop; rfl
  have hOw : ∀ b, Ow' b → b < w'.heap.size ∧ ¬ Su b := fun b hb => by
    rcases hd.new b hb with x | ⟨x1, x2⟩
    · exact ⟨Nat.lt_of_lt_of_le (h.ow b x).1 hd.size, (h.ow b x).2⟩
    · exact ⟨x2, fun y => by have := h.su b y; omega⟩
  refine ⟨runT_crowd_go (P := P) (sl := sl) (i := 0) h.a0 (show stepG P (0 == 0) a w = _ from hgo), by simp [h.size], get_map_set_same _ _ _ (Array.getElem?_eq_some_iff.1 h.a0).1, fun i h1 h2 => ?_, h.anc.own hd.size _ _ fun e he => ?_, fun b hb => ⟨Nat.lt_of_lt_of_le (h.sh b hb).1 hd.size, (h.sh b hb).2⟩, hOw, fun b hb => Nat.lt_of_lt_of_le (h.su b hb) hd.size⟩
  · obtain ⟨x, e1, e2⟩ := h.old i h1 h2
    refine ⟨x, ?_, by rw [Deaf_other t (g' := 0) (by omega) _ hops]; exact e2⟩
    rw [get_map_set _ _ _ _ (by omega), e1]
    simp [woken_quitsD e2]
  · rcases hd.ev e he with ⟨ad, e1, e2, e3 | ⟨e3, _⟩⟩ | e1
    · exact .inl ⟨ad, e1, e2, hOw _ e3⟩
    · exact .inl ⟨ad, e1, e2, Nat.lt_of_lt_of_le (h.sh _ e3).1 hd.size, (h.sh _ e3).2⟩
    · exact .inr e1
/-- A step of one that leaves. -/
theorem Bes.slip (h : Bes P q Su Sh Ow f gs a w t) (hr : a.status = .running) {i : Nat} (h1 : 1 ≤ i) (h2 : i ≤ q) {g : Goroutine} (hg : gs[i]? = some g) (hrun : g.status = .running) :
    ∃ gs' u k, runT P (crowd gs w sl) i = (.next (crowd gs' w sl), u) ∧ f i = k + 1 ∧ Bes P q Su Sh Ow (upd f i k) gs' a w (t ++ u) := by
  obtain ⟨x, e1, hQ⟩ := h.old i h1 h2
  obtain rfl : g = x := by rw [hg] at e1; exact Option.some.inj e1
  cases hf : f i with
  | zero => rw [hf] at hQ; rw [hQ.1] at hrun; cases hrun
  | succ k =>
    rw [hf] at hQ
    rcases hQ with ⟨hfin, _⟩ | ⟨_, g', es, hm, hst, hq⟩
    · rw [hfin] at hrun; cases hrun
    have hi0 : (i == 0) = false := by simp; omega
    have hrT := runT_crowd_go (P := P) (sl := sl) (i := i) hg (by rw [hi0]; exact hst w)
    have hops : ∀ op ∈ MemOp.ofEvents i g.frame.fn g.frame.place es, op.g = i := fun op hop => by obtain ⟨e, _, rfl⟩ := Go.Conc.mem_ofEvents hop; rfl
    have hnt : ∀ op ∈ MemOp.ofEvents i g.frame.fn g.frame.place es, op.act.touch? = none := fun op hop => by obtain ⟨e, he, rfl⟩ := Go.Conc.mem_ofEvents hop; exact touch_mute (hm e he)
    refine ⟨_, _, k, hrT, rfl, by simp [h.size], by rw [get_map_set _ _ _ _ (by omega), h.a0]; simp [woken_run hr], fun j j1 j2 => ?_, ⟨CT.mute h.anc.ct hnt fun op hop => by rw [hops op hop]; exact h2, h.anc.low.app fun op hop x hx => (by rw [hnt op hop] at hx; cases hx), handedOver_app h.anc.over fun op hop => .inr (hnt op hop), by rw [Deaf_other t (g' := i) (by omega) _ hops]; exact h.anc.hears, fun j hj => by rw [Deaf_other t (g' := i) (by omega) _ hops]; exact h.anc.above j hj⟩, h.sh, h.ow, h.su⟩
    by_cases e : j = i
    · subst e
      exact ⟨g', get_map_set_same _ _ _ (Array.getElem?_eq_some_iff.1 hg).1, by rw [upd_same, Deaf_own]; exact hq⟩
    · obtain ⟨x, x1, x2⟩ := h.old j j1 j2
      refine ⟨x, ?_, by rw [upd_ne _ _ e, Deaf_other t (g' := i) (Ne.symm e) _ hops]; exact x2⟩
      rw [get_map_set _ _ _ _ (Ne.symm e), x1]
      simp [woken_quitsD x2]
theorem Bes.awake (h : Bes P q Su Sh Ow f gs a w t) (hr : a.status = .running) : ∀ g ∈ gs, awake g := by
  intro g hg
  obtain ⟨i, hi⟩ := Array.mem_iff_getElem?.1 hg
  rcases Nat.eq_zero_or_pos i with rfl | h1
  · obtain rfl : g = a := by rw [h.a0] at hi; exact (Option.some.inj hi).symm
    exact awake_of (.inl hr)
  · have h2 : i ≤ q := by have := (Array.getElem?_eq_some_iff.1 hi).1; rw [h.size] at this; omega
    obtain ⟨x, e1, e2⟩ := h.old i h1 h2
    obtain rfl : g = x := by rw [hi] at e1; exact Option.some.inj e1
    exact awake_of (e2.status.elim .inl fun x => .inr (.inr x))
end
/-- ITS WAY, ON WHATEVER TAPE. -/
theorem beside {P : Program} {q : Nat} {Su Sh : Nat → Prop} {Stop : Stp} : ∀ (o : Od) (M : Nat) (Ow : Nat → Prop) (f : Nat → Nat) (gs : Array Goroutine) (a : Goroutine) (w : World) (sl : Option (Nat × Nat)) (t : Trace), sumTo (q + 1) f ≤ M → Wk P true Sh Stop o Ow a w → Bes P q Su Sh Ow f gs a w t →
    ∃ N Ow' f' gs' a' w' sl' t', runNT P N (crowd gs w sl) t = (.next (crowd gs' w' sl'), t') ∧ Stop Ow' a' w' ∧ Bes P q Su Sh Ow' f' gs' a' w' t' := by
  intro o
  induction o with
  | leaf =>
    intro M Ow f gs a w sl t _ hW hB
    exact ⟨0, Ow, f, gs, a, w, sl, t, rfl, hW w (Kept.refl _ _ _), hB⟩
  | mk g ih =>
    intro M
    induction M with
    | zero =>
      intro Ow f gs a w sl t hM hW hB
      obtain ⟨i, x, d, sl', hi, hx, hst⟩ := crowd_pick (P := P) (w := w) (sl := sl) (hB.awake hW.1) ⟨0, a, hB.a0, hW.1⟩
      rcases Nat.eq_zero_or_pos i with rfl | h1
      · obtain ⟨g', w', es, Ow', e1, e2, e3⟩ := hW.2 (w.at d) ⟨rfl, Nat.le_refl _, fun _ _ => rfl⟩
        obtain ⟨hr, hB'⟩ := (hB.at d).step (sl := sl') e1 e2
        obtain ⟨N, Ow2, f2, gs2, a2, w2, sl2, t2, r1, r2, r3⟩ := ih (w.at d) (sumTo (q + 1) f) Ow' f _ g' w' sl' _ (Nat.le_refl _) e3 hB'
        exact ⟨N + 1, Ow2, f2, gs2, a2, w2, sl2, t2, by rw [runNT_succ_next (hst.trans hr)]; exact r1, r2, r3⟩
      · have h2 : i ≤ q := by have := (Array.getElem?_eq_some_iff.1 hi).1; rw [hB.size] at this; omega
        obtain ⟨gs', u, k, _, hk, _⟩ := (hB.at d).slip (sl := sl') hW.1 h1 h2 hi hx
        have := Go.ConcN.le_sumTo (f := f) (show i < q + 1 by omega)
        omega
    | succ M ihM =>
      intro Ow f gs a w sl t hM hW hB
      obtain ⟨i, x, d, sl', hi, hx, hst⟩ := crowd_pick (P := P) (w := w) (sl := sl) (hB.awake hW.1) ⟨0, a, hB.a0, hW.1⟩
      rcases Nat.eq_zero_or_pos i with rfl | h1
      · obtain ⟨g', w', es, Ow', e1, e2, e3⟩ := hW.2 (w.at d) ⟨rfl, Nat.le_refl _, fun _ _ => rfl⟩
        obtain ⟨hr, hB'⟩ := (hB.at d).step (sl := sl') e1 e2
        obtain ⟨N, Ow2, f2, gs2, a2, w2, sl2, t2, r1, r2, r3⟩ := ih (w.at d) (sumTo (q + 1) f) Ow' f _ g' w' sl' _ (Nat.le_refl _) e3 hB'
        exact ⟨N + 1, Ow2, f2, gs2, a2, w2, sl2, t2, by rw [runNT_succ_next (hst.trans hr)]; exact r1, r2, r3⟩
      · have h2 : i ≤ q := by have := (Array.getElem?_eq_some_iff.1 hi).1; rw [hB.size] at this; omega
        obtain ⟨gs', u, k, hr, hk, hB'⟩ := (hB.at d).slip (sl := sl') hW.1 h1 h2 hi hx
        have hs : sumTo (q + 1) (upd f i k) + f i = sumTo (q + 1) f + k := sumTo_upd f k id (show i < q + 1 by omega)
        obtain ⟨N, Ow2, f2, gs2, a2, w2, sl2, t2, r1, r2, r3⟩ := ihM Ow (upd f i k) gs' a (w.at d) sl' (t ++ u) (by omega) (hW.rely ⟨rfl, Nat.le_refl _, fun _ _ => rfl⟩) hB'
        exact ⟨N + 1, Ow2, f2, gs2, a2, w2, sl2, t2, by rw [runNT_succ_next (hst.trans hr)]; exact r1, r2, r3⟩
/-- At its return. -/
def AtEnds (P : Program) (Su : Nat → Prop) (Post : Value → World → Prop) : Stp := fun _ g w => g.status = .running ∧ ∃ v es, stepG P true g w = .ended (.done v) w es ∧ (∀ e ∈ es, (∃ ad, e.loc = .cell ad ∧ e.sync = false ∧ ad.block < w.heap.size ∧ ¬ Su ad.block) ∨ e = ⟨.mark .noRoom, false, true⟩) ∧ Post v w
end Go.Proofs.YtckoipoejaafhaaDoor.Cc

/-! A phase as a whole: from the starter's way to its first go statement, beside leavers, to the join, beside more leavers. -/
namespace Go.Proofs.YtckoipoejaafhaaDoor.Cc
open Go Go.Conc
open Go.ConcN (CT upd upd_same upd_ne WgLive PayAt Has RelBy CTag WD Vc OpenSt isOpen pend)
open Go.ConcR (Payload KK WgAt stA smA)

section
variable [Payload] {p : Ph}
theorem Inv.start {Sh Ow : Nat → Prop} {f : Nat → Nat} {gs : Array Goroutine} {a : Goroutine} {w : World} {sl : Option (Nat × Nat)} {t : Trace} {o : Od} (hB : Bes p.P p.q p.Su Sh Ow f gs a w t) (hwg : WgAt p.ty p.Wg w 0 0) (hpay : PayAt p.C p.n w) (hC : ¬ Sh p.C ∧ ¬ Ow p.C) (hd : ∀ b, Ow b → ¬ Sh b) (hsus : (w.os = p.sw.os ∧ w.output = p.sw.output) ∧ ∀ b, p.Su b → b ≠ p.Wg → w.heap[b]? = p.sw.heap[b]?)
    (hway : Way p.P true p.Wg 0 none (I0 p.ty p.Wg) Sh (MSpawn p.P p.ty p.Wg p.C p.n p.gA p.Fx p.q p.cap p.z p.Tl (left p.l0) p.l0 p.n Sh []) o Ow a w) : ∃ μ, Inv p μ (crowd gs w sl) t := by
  have hT0 : upd noT 0 ⟨Sh, Ow⟩ 0 = ⟨Sh, Ow⟩ := upd_same _ _ _
  have hTn : ∀ i, i ≠ 0 → upd noT 0 ⟨Sh, Ow⟩ i = Hold.no := fun i e => upd_ne _ _ e
  have hTo : ∀ {i b : Nat}, (upd noT 0 ⟨Sh, Ow⟩ i).ow b → i = 0 ∧ Ow b := fun {i b} h => by
    by_cases e : i = 0
    · subst e; rw [hT0] at h; exact ⟨rfl, h⟩
    · rw [hTn i e] at h; exact h.elim
  have hTs : ∀ {i b : Nat}, (upd noT 0 ⟨Sh, Ow⟩ i).sh b → Sh b := fun {i b} h => by
    by_cases e : i = 0
    · subst e; rw [hT0] at h; exact h
    · rw [hTn i e] at h; exact h.elim
  have hCl : p.C < w.heap.size := by obtain ⟨pc, h1, _⟩ := hpay; exact (Array.getElem?_eq_some_iff.1 h1).1
  have hnS : ∀ {b : Nat}, (Sh b ∨ Ow b) → ¬ p.Sp [] b := fun {b} hb hs => by
    rcases hs with rfl | hs | hs
    · exact hb.elim hC.1 hC.2
    · exact hb.elim (fun x => (hB.sh b x).2 hs) fun x => (hB.ow b x).2 hs
    · cases hs
  refine ⟨_, gs, w, sl, upd noT 0 ⟨Sh, Ow⟩, (fun i => if i = 0 then o else Od.nat (f i)), (fun _ => .st), MT.after p.l0 p.n, [], 0, 0, a, rfl, ?_, rfl⟩
  have hop := after_open p.l0 p.n
  refine ⟨by rw [hB.size]; rfl, Nat.zero_le _, hB.a0, ?_, fun i h1 h2 => ?_, fun k c hk => by simp at hk, fun i hi => hTn i (by simp at hi; omega), fun i hi => hB.anc.above i (by simpa using hi), ?_, hB.anc.begin _ (fun k k1 _ => hTn k (by omega)) (fun k a hc => ?_), fun k c hk => by simp at hk, fun k hk => by simp at hk, ⟨by simp, by simp, by simp⟩, hwg, ?_, hpay, fun k hk => by simp at hk, hsus⟩
  · simp only [if_true]
    unfold Ph.M
    rw [hT0, hB.anc.hears]
    cases hn : p.n with
    | zero =>
      rw [hn] at hway
      exact ⟨rfl, by simp, hway⟩
    | succ r =>
      rw [hn] at hway
      exact ⟨rfl, by simp, hway⟩
  · obtain ⟨g, e1, e2⟩ := hB.old i h1 h2
    exact ⟨g, f i, e1, e2, if_neg (by omega)⟩
  · refine ⟨fun i b x => (hB.ow b (hTo x).2).1, fun i b x => (hB.sh b (hTs x)).1, fun b x => ?_, fun i j b x y => by rw [(hTo x).1, (hTo y).1], fun i j b x y => hd b (hTo x).2 (hTs y), fun i b x => hnS (.inr (hTo x).2), fun i b x => hnS (.inl (hTs x))⟩
    rcases x with rfl | x | x
    · exact hCl
    · exact hB.su b x
    · cases x
  · obtain ⟨x, _, rfl, _⟩ := hc
    omega
  · have := Go.ConcN.Mode.opn (j := 0) (D := Dw fun _ => WT.st) (tag := (MT.after p.l0 p.n).ctag) hop.1 (fun i hi => by omega) (fun vs e => absurd e (hop.2.2 vs))
    rw [hop.2.1] at this
    simpa [Vc, Go.ConcN.sumTo] using this
/-- A PHASE. -/
theorem phase (ok : p.Ok) {Sh Ow : Nat → Prop} {f : Nat → Nat} {gs : Array Goroutine} {a : Goroutine} {w : World} (sl : Option (Nat × Nat)) {t : Trace} {o : Od} (hB : Bes p.P p.q p.Su Sh Ow f gs a w t) (hwg : WgAt p.ty p.Wg w 0 0) (hpay : PayAt p.C p.n w) (hC : ¬ Sh p.C ∧ ¬ Ow p.C) (hd : ∀ b, Ow b → ¬ Sh b) (hsus : (w.os = p.sw.os ∧ w.output = p.sw.output) ∧ ∀ b, p.Su b → b ≠ p.Wg → w.heap[b]? = p.sw.heap[b]?)
    (hway : Way p.P true p.Wg 0 none (I0 p.ty p.Wg) Sh (MSpawn p.P p.ty p.Wg p.C p.n p.gA p.Fx p.q p.cap p.z p.Tl (left p.l0) p.l0 p.n Sh []) o Ow a w) :
    ∃ N gs' w' sl' t' T cs, runNT p.P N (crowd gs w sl) t = (.next (crowd gs' w' sl'), t') ∧ Joined p gs' w' t' T cs := by
  obtain ⟨μ, hI⟩ := Inv.start (sl := sl) hB hwg hpay hC hd hsus hway
  obtain ⟨N, m', t', h1, gs', w', sl', T, cs, rfl, hJ⟩ := phase_runs ok μ _ t hI
  exact ⟨N, gs', w', sl', t', T, cs, h1, hJ⟩
/-- Behind it the starter goes on beside all of them. -/
theorem Joined.bes {gs : Array Goroutine} {w : World} {t : Trace} {T : Nat → Hold} {cs : List Nat} (h : Joined p gs w t T cs) (Sh Ow : Nat → Prop) (hsh : ∀ b, Sh b → b < w.heap.size ∧ ¬ p.Su b) (how : ∀ b, Ow b → b < w.heap.size ∧ ¬ p.Su b) : ∃ f a, p.gK a ∧ Bes p.P (p.q + p.n) p.Su Sh Ow f gs a w t := by
  have h2 : ∀ i : Nat, ∃ m : Nat, 1 ≤ i → i < gs.size → ∃ g, gs[i]? = some g ∧ QuitsD p.P m (Deaf t i) g := fun i => by
    by_cases hi : 1 ≤ i ∧ i < gs.size
    · obtain ⟨g, m, e1, e2⟩ := h.old i hi.1 hi.2
      exact ⟨m, fun _ _ => ⟨g, e1, e2⟩⟩
    · exact ⟨0, fun a b => absurd ⟨a, b⟩ hi⟩
  obtain ⟨f, hf⟩ := Classical.axiomOfChoice h2
  obtain ⟨a, ha, hka⟩ := h.main
  exact ⟨f, a, hka, by rw [h.size]; omega, ha, fun i h1 h3 => hf i h1 (by rw [h.size]; omega), h.anc, hsh, how, fun b hb => h.blk.sp_lt b (.inr (.inl hb))⟩
end
/-- A group's block is made. -/
theorem Bes.group {P : Program} {q : Nat} {Su Sh Ow : Nat → Prop} {f : Nat → Nat} {gs : Array Goroutine} {a a' : Goroutine} {w w' : World} {sl : Option (Nat × Nat)} {t : Trace} (h : Bes P q Su Sh Ow f gs a w t) (hgo : stepG P true a w = .go a' w' #[]) (hs : w'.heap.size = w.heap.size + 1) :
    runT P (crowd gs w sl) 0 = (.next (crowd ((gs.map (woken P a a' w')).setIfInBounds 0 a') w' sl), #[]) ∧ Bes P q (fun b => Su b ∨ b = w.heap.size) Sh Ow f ((gs.map (woken P a a' w')).setIfInBounds 0 a') a' w' t := by
  have hr := runT_crowd_go (P := P) (sl := sl) (i := 0) h.a0 (show stepG P (0 == 0) a w = _ from hgo)
  refine ⟨by rw [hr, ofEvents_eq]; simp, by simp [h.size], Go.ConcN.get_map_set_same _ _ _ (Array.getElem?_eq_some_iff.1 h.a0).1, fun i h1 h2 => ?_, by rw [hs]; exact h.anc.shun, fun b hb => ⟨by have := (h.sh b hb).1; omega, fun x => ?_⟩, fun b hb => ⟨by have := (h.ow b hb).1; omega, fun x => ?_⟩, fun b hb => ?_⟩
  · obtain ⟨x, e1, e2⟩ := h.old i h1 h2
    refine ⟨x, ?_, e2⟩
    rw [Go.ConcN.get_map_set _ _ _ _ (by omega), e1]
    simp [woken_quitsD e2]
  · rcases x with x | x
    · exact (h.sh b hb).2 x
    · have := (h.sh b hb).1; omega
  · rcases x with x | x
    · exact (h.ow b hb).2 x
    · have := (h.ow b hb).1; omega
  · rcases hb with hb | hb
    · have := h.su b hb; omega
    · omega

end Go.Proofs.YtckoipoejaafhaaDoor.Cc
