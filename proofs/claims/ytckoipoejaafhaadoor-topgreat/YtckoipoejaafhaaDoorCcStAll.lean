/-
  Texts that stood one behind the other, as one.
-/
import Derived.Test.YtckoipoejaafhaaDoorCcMdAll
namespace Go.Proofs.YtckoipoejaafhaaDoor.Cc
open Go Go.Conc
open Go.ConcN (CT upd upd_same upd_ne WgLive PayAt Has RelBy CTag WD Vc OpenSt isOpen pend)
open Go.ConcR (Payload KK WgAt stA smA)
section
variable [Payload] {p : Ph}
theorem Inv.start {Sh Ow : Nat → Prop} {f : Nat → Nat} {gs : Array Goroutine} {a : Goroutine} {w : World} {sl : Option (Nat × Nat)} {t : Trace} {o : Od} (hB : Bes p.P p.q p.Su Sh Ow f gs a w t) (hwg : WgAt p.ty p.Wg w 0 0) (hpay : PayAt p.C p.n w) (hC : ¬ Sh p.C ∧ ¬ Ow p.C) (hd : ∀ b, Ow b → ¬ Sh b) (hsus : (w.os = p.sw.os ∧ w.output = p.sw.output) ∧ ∀ b, p.Su b → b ≠ p.Wg → w.heap[b]? = p.sw.heap[b]?)
    (hway : Way p.P true p.Wg 0 none (I0 p.ty p.Wg) Sh (MSpawn p.P p.ty p.Wg p.C p.n p.gA p.Fx p.q p.cap p.z p.Tl (left p.l0) p.l0 p.n Sh []) o Ow a w) : ∃ μ, Inv p μ (crowd gs w sl) t := by
  have hT0 : upd noT 0 ⟨Sh, Ow⟩ 0 = ⟨Sh, Ow⟩ := upd_same _ _ _
  have hTn : ∀ i, i ≠ 0 → upd noT 0 ⟨Sh, Ow⟩ i = Hold.no := fun i e => upd_ne _ _ e
  have hTo : ∀ {i b : Nat}, (upd noT 0 ⟨Sh, Ow⟩ i).ow b → i = 0 ∧ Ow b := fun {i b} h => by
    by_cases e : i = 0
    · subst e; rw [hT0] at h; exact ⟨rfl, h⟩
    · rw [hTn i e] at h; exact h.elim
  have hTs : ∀ {i b : Nat}, (upd noT 0 ⟨Sh, Ow⟩ i).sh b → Sh b := fun {i b} h => by
    by_cases e : i = 0
    · subst e; rw [hT0] at h; exact h
    · rw [hTn i e] at h; exact h.elim
  have hCl : p.C < w.heap.size := by obtain ⟨pc, h1, _⟩ := hpay; exact (Array.getElem?_eq_some_iff.1 h1).1
  have hnS : ∀ {b : Nat}, (Sh b ∨ Ow b) → ¬ p.Sp [] b := fun {b} hb hs => by
    rcases hs with rfl | hs | hs
    · exact hb.elim hC.1 hC.2
    · exact hb.elim (fun x => (hB.sh b x).2 hs) fun x => (hB.ow b x).2 hs
    · cases hs
  refine ⟨_, gs, w, sl, upd noT 0 ⟨Sh, Ow⟩, (fun i => if i = 0 then o else Od.nat (f i)), (fun _ => .st), MT.after p.l0 p.n, [], 0, 0, a, rfl, ?_, rfl⟩
  have hop := after_open p.l0 p.n
  refine ⟨by rw [hB.size]; rfl, Nat.zero_le _, hB.a0, ?_, fun i h1 h2 => ?_, fun k c hk => by simp at hk, fun i hi => hTn i (by simp at hi; omega), fun i hi => hB.anc.above i (by simpa using hi), ?_, hB.anc.begin _ (fun k k1 _ => hTn k (by omega)) (fun k a hc => ?_), fun k c hk => by simp at hk, fun k hk => by simp at hk, ⟨by simp, by simp, by simp⟩, hwg, ?_, hpay, fun k hk => by simp at hk, hsus⟩
  · simp only [if_true]
    unfold Ph.M
    rw [hT0, hB.anc.hears]
    cases hn : p.n with
    | zero =>
      rw [hn] at hway
      exact ⟨rfl, by simp, hway⟩
    | succ r =>
      rw [hn] at hway
      exact ⟨rfl, by simp, hway⟩
  · obtain ⟨g, e1, e2⟩ := hB.old i h1 h2
    exact ⟨g, f i, e1, e2, if_neg (by omega)⟩
  · refine ⟨fun i b x => (hB.ow b (hTo x).2).1, fun i b x => (hB.sh b (hTs x)).1, fun b x => ?_, fun i j b x y => by rw [(hTo x).1, (hTo y).1], fun i j b x y => hd b (hTo x).2 (hTs y), fun i b x => hnS (.inr (hTo x).2), fun i b x => hnS (.inl (hTs x))⟩
    rcases x with rfl | x | x
    · exact hCl
    · exact hB.su b x
    · cases x
  · obtain ⟨x, _, rfl, _⟩ := hc
    omega
  · have := Go.ConcN.Mode.opn (j := 0) (D := Dw fun _ => WT.st) (tag := (MT.after p.l0 p.n).ctag) hop.1 (fun i hi => by omega) (fun vs e => absurd e (hop.2.2 vs))
    rw [hop.2.1] at this
    simpa [Vc, Go.ConcN.sumTo] using this
theorem phase (ok : p.Ok) {Sh Ow : Nat → Prop} {f : Nat → Nat} {gs : Array Goroutine} {a : Goroutine} {w : World} (sl : Option (Nat × Nat)) {t : Trace} {o : Od} (hB : Bes p.P p.q p.Su Sh Ow f gs a w t) (hwg : WgAt p.ty p.Wg w 0 0) (hpay : PayAt p.C p.n w) (hC : ¬ Sh p.C ∧ ¬ Ow p.C) (hd : ∀ b, Ow b → ¬ Sh b) (hsus : (w.os = p.sw.os ∧ w.output = p.sw.output) ∧ ∀ b, p.Su b → b ≠ p.Wg → w.heap[b]? = p.sw.heap[b]?)
    (hway : Way p.P true p.Wg 0 none (I0 p.ty p.Wg) Sh (MSpawn p.P p.ty p.Wg p.C p.n p.gA p.Fx p.q p.cap p.z p.Tl (left p.l0) p.l0 p.n Sh []) o Ow a w) :
    ∃ N gs' w' sl' t' T cs, runNT p.P N (crowd gs w sl) t = (.next (crowd gs' w' sl'), t') ∧ Joined p gs' w' t' T cs := by
  obtain ⟨μ, hI⟩ := Inv.start (sl := sl) hB hwg hpay hC hd hsus hway
  obtain ⟨N, m', t', h1, gs', w', sl', T, cs, rfl, hJ⟩ := phase_runs ok μ _ t hI
  exact ⟨N, gs', w', sl', t', T, cs, h1, hJ⟩
theorem Joined.bes {gs : Array Goroutine} {w : World} {t : Trace} {T : Nat → Hold} {cs : List Nat} (h : Joined p gs w t T cs) (Sh Ow : Nat → Prop) (hsh : ∀ b, Sh b → b < w.heap.size ∧ ¬ p.Su b) (how : ∀ b, Ow b → b < w.heap.size ∧ ¬ p.Su b) : ∃ f a, p.gK a ∧ Bes p.P (p.q + p.n) p.Su Sh Ow f gs a w t := by
  have h2 : ∀ i : Nat, ∃ m : Nat, 1 ≤ i → i < gs.size → ∃ g, gs[i]? = some g ∧ QuitsD p.P m (Deaf t i) g := fun i => by
    by_cases hi : 1 ≤ i ∧ i < gs.size
    · obtain ⟨g, m, e1, e2⟩ := h.old i hi.1 hi.2
      exact ⟨m, fun _ _ => ⟨g, e1, e2⟩⟩
    · exact ⟨0, fun a b => absurd ⟨a, b⟩ hi⟩
  obtain ⟨f, hf⟩ := Classical.axiomOfChoice h2
  obtain ⟨a, ha, hka⟩ := h.main
  exact ⟨f, a, hka, by rw [h.size]; omega, ha, fun i h1 h3 => hf i h1 (by rw [h.size]; omega), h.anc, hsh, how, fun b hb => h.blk.sp_lt b (.inr (.inl hb))⟩
end
theorem Bes.group {P : Program} {q : Nat} {Su Sh Ow : Nat → Prop} {f : Nat → Nat} {gs : Array Goroutine} {a a' : Goroutine} {w w' : World} {sl : Option (Nat × Nat)} {t : Trace} (h : Bes P q Su Sh Ow f gs a w t) (hgo : stepG P true a w = .go a' w' #[]) (hs : w'.heap.size = w.heap.size + 1) :
    runT P (crowd gs w sl) 0 = (.next (crowd ((gs.map (woken P a a' w')).setIfInBounds 0 a') w' sl), #[]) ∧ Bes P q (fun b => Su b ∨ b = w.heap.size) Sh Ow f ((gs.map (woken P a a' w')).setIfInBounds 0 a') a' w' t := by
  have hr := runT_crowd_go (P := P) (sl := sl) (i := 0) h.a0 (show stepG P (0 == 0) a w = _ from hgo)
  refine ⟨by rw [hr, ofEvents_eq]; simp, by simp [h.size], Go.ConcN.get_map_set_same _ _ _ (Array.getElem?_eq_some_iff.1 h.a0).1, fun i h1 h2 => ?_, by rw [hs]; exact h.anc.shun, fun b hb => ⟨by have := (h.sh b hb).1; omega, fun x => ?_⟩, fun b hb => ⟨by have := (h.ow b hb).1; omega, fun x => ?_⟩, fun b hb => ?_⟩
  · obtain ⟨x, e1, e2⟩ := h.old i h1 h2
    refine ⟨x, ?_, e2⟩
    rw [Go.ConcN.get_map_set _ _ _ _ (by omega), e1]
    simp [woken_quitsD e2]
  · rcases x with x | x
    · exact (h.sh b hb).2 x
    · have := (h.sh b hb).1; omega
  · rcases x with x | x
    · exact (h.ow b hb).2 x
    · have := (h.ow b hb).1; omega
  · rcases hb with hb | hb
    · have := h.su b hb; omega
    · omega
end Go.Proofs.YtckoipoejaafhaaDoor.Cc

namespace Go.Proofs.YtckoipoejaafhaaDoor.Cc
open Go Go.Conc
def Dead (P : Program) {α : Type} : Sem α → Prop
  | .halt h => plainH h
  | .program k => Dead P (k P)
  | .choose _ k => ∀ n, Dead P (k n)
  | .shape _ k => ∀ s, Dead P (k s)
  | .frozen _ k => ∀ b, Dead P (k b)
  | .mark m k => m = .noRoom ∧ Dead P k
  | .pure _ | .load _ _ _ | .store _ _ _ _ | .new _ _ | .freeze _ _ _ | .getObj _ _ | .setObj _ _ _ | .sys _ _ => False
theorem Dead.runT {P : Program} {α : Type} (s : Sem α) : Dead P s → ∀ (w : World) (es : Array Event), ∃ h w2 m, plainH h ∧ s.runT P w es = (.halt h w2, es ++ m) := by
  induction s with
  | halt h => intro hn w es; exact ⟨h, w, #[], hn, by simp [Sem.runT]⟩
  | program k ih => intro hn w es; exact ih P hn w es
  | choose q k ih =>
    intro hn w es
    simp only [Sem.runT]
    split
    · exact ih _ (hn _) _ _
    · exact ih _ (hn _) _ _
  | shape r k ih => intro hn w es; exact ih _ (hn _) w es
  | frozen a k ih => intro hn w es; exact ih _ (hn _) w es
  | mark m k ih =>
    intro hn w es
    obtain ⟨h, w2, m', h1, h2⟩ := ih hn.2 w (es.push ⟨.mark m, false, true⟩)
    refine ⟨h, w2, #[⟨.mark m, false, true⟩] ++ m', h1, ?_⟩
    simp only [Sem.runT, h2]
    rw [← Array.append_assoc, ← Array.push_eq_append]
  | _ => intro hn; exact hn.elim
section
variable (P : Program) (Su : Nat → Prop)
def Cl {α : Type} (A : α → Prop) : Sem α → Prop
  | .pure a => A a
  | .load m _ k => m = .plain ∧ ∀ v, Cl A (k v)
  | .store m _ _ k => m = .plain ∧ Cl A k
  | .new _ k => ∀ r, ¬ Su r → Cl A (k r)
  | .shape r k => (¬ Su r ∨ ∀ e, Dead P (k (some (e, 0))) ∨ ∀ n, k (some (e, n)) = k (some (e, 0))) ∧ ∀ s, Cl A (k s)
  | .freeze _ _ k => Cl A k
  | .frozen _ k => ∀ b, Cl A (k b)
  | .getObj _ k => ∀ o, Cl A (k o)
  | .setObj _ _ k => Cl A k
  | .choose _ k => ∀ n, Cl A (k n)
  | .sys _ _ => False
  | .program k => Cl A (k P)
  | .mark m k => m = .noRoom ∧ Cl A k
  | .halt h => plainH h
end
section
variable {P : Program} {Su : Nat → Prop} {α β : Type} {A B : α → Prop} {C : β → Prop}
theorem Dead.bind {f : α → Sem β} {s : Sem α} (h : Dead P s) : Dead P (s.bind f) := by
  induction s with
  | halt _ => exact h
  | program k ih => exact ih P h
  | choose q k ih => exact fun n => ih n (h n)
  | shape r k ih => exact fun n => ih n (h n)
  | frozen a k ih => exact fun n => ih n (h n)
  | mark m k ih => exact ⟨h.1, ih h.2⟩
  | _ => exact h.elim
theorem Dead.cl {s : Sem α} (h : Dead P s) : Cl P Su A s := by
  induction s with
  | halt _ => exact h
  | program k ih => exact ih P h
  | choose q k ih => exact fun n => ih n (h n)
  | shape r k ih => exact ⟨.inr fun e => .inl (h _), fun n => ih n (h n)⟩
  | frozen a k ih => exact fun n => ih n (h n)
  | mark m k ih => exact ⟨h.1, ih h.2⟩
  | _ => exact h.elim
def Ask (P : Program) {α : Type} : Sem α → Prop
  | .pure _ => True
  | .halt h => plainH h
  | .program k => Ask P (k P)
  | .shape _ k => ∀ s, Ask P (k s)
  | .frozen _ k => ∀ b, Ask P (k b)
  | .choose _ _ | .mark _ _ | .load _ _ _ | .store _ _ _ _ | .new _ _ | .freeze _ _ _ | .getObj _ _ | .setObj _ _ _ | .sys _ _ => False
theorem Ask.dead {f : α → Sem β} {s : Sem α} (h : Ask P s) (k : ∀ a, Dead P (f a)) : Dead P (s.bind f) := by
  induction s with
  | pure a => exact k a
  | halt _ => exact h
  | program k ih => exact ih P h
  | shape r k ih => exact fun n => ih n (h n)
  | frozen a k ih => exact fun n => ih n (h n)
  | _ => exact h.elim
theorem Ask.bind {f : α → Sem β} {s : Sem α} (h : Ask P s) (k : ∀ a, Ask P (f a)) : Ask P (s.bind f) := by
  induction s with
  | pure a => exact k a
  | halt _ => exact h
  | program k ih => exact ih P h
  | shape r k ih => exact fun n => ih n (h n)
  | frozen a k ih => exact fun n => ih n (h n)
  | _ => exact h.elim
theorem Cl.bind {f : α → Sem β} (s : Sem α) (h : Cl P Su A s) (k : ∀ a, A a → Cl P Su C (f a)) : Cl P Su C (s.bind f) := by
  induction s with
  | pure a => exact k a h
  | load m a c ih => exact ⟨h.1, fun v => ih v (h.2 v)⟩
  | store m a v c ih => exact ⟨h.1, ih h.2⟩
  | new o c ih => exact fun r hr => ih r (h r hr)
  | shape r c ih => exact ⟨h.1.imp id fun q e => (q e).imp (fun x => x.bind) fun x n => congrArg (Sem.bind · f) (x n), fun s => ih s (h.2 s)⟩
  | freeze a n c ih => exact ih h
  | frozen a c ih => exact fun b => ih b (h b)
  | getObj r c ih => exact fun o => ih o (h o)
  | setObj r o c ih => exact ih h
  | choose q c ih => exact fun n => ih n (h n)
  | sys c k' ih => exact h.elim
  | program c ih => exact ih P h
  | mark m c ih => exact ⟨h.1, ih h.2⟩
  | halt e => exact h
theorem Cl.then_ {s : Sem α} {f : α → Sem β} (h : Cl P Su A s) (k : ∀ a, A a → Cl P Su C (f a)) : Cl P Su C (s >>= f) := Cl.bind s h k
end
structure PW (Su : Nat → Prop) (pw w : World) : Prop where
  os : pw.os = w.os
  output : pw.output = w.output
  size : pw.heap.size = w.heap.size
  out : ∀ b, ¬ Su b → pw.heap[b]? = w.heap[b]?
  in_ : ∀ b, Su b → ∃ cs e fr, w.heap[b]? = some (.cells cs e fr) ∧ pw.heap[b]? = some (.cells #[] e fr)
def EvB (Su : Nat → Prop) (B : Nat) (e : Event) : Prop :=
  (∃ a, e.loc = .cell a ∧ e.sync = false ∧ a.block < B ∧ ¬ Su a.block) ∨ (∃ r, e.loc = .obj r ∧ r < B ∧ ¬ Su r) ∨ e = ⟨.mark .noRoom, false, true⟩
theorem EvB.mono {Su : Nat → Prop} {B B' : Nat} {e : Event} (h : EvB Su B e) (k : B ≤ B') : EvB Su B' e := by
  rcases h with ⟨a, h1, h2, h3, h4⟩ | ⟨r, h1, h2, h3⟩ | h
  · exact .inl ⟨a, h1, h2, Nat.lt_of_lt_of_le h3 k, h4⟩
  · exact .inr (.inl ⟨r, h1, Nat.lt_of_lt_of_le h2 k, h3⟩)
  · exact .inr (.inr h)
def endH (w : World) : Halt → Prop
  | .unsupported (.initOrder g) => ∃ c e, w.heap[g]? = some (.pending c e)
  | h => plainH h
section
variable {Su : Nat → Prop} {pw w : World}
theorem PW.tp (h : PW Su pw w) (τ : Nat → Question → Nat) (c : Nat) : PW Su (tp pw τ c) w := ⟨h.os, h.output, h.size, h.out, h.in_⟩
theorem PW.lt (h : PW Su pw w) {b : Nat} (hb : Su b) : b < w.heap.size := by
  obtain ⟨_, _, _, h1, _⟩ := h.in_ b hb
  exact (Array.getElem?_eq_some_iff.1 h1).1
theorem PW.cell (h : PW Su pw w) {a : Addr} (ha : ¬ Su a.block) : w.cell? a = pw.cell? a := by
  simp only [World.cell?, h.out a.block ha]
theorem PW.cellSu (h : PW Su pw w) {a : Addr} (ha : Su a.block) : pw.cell? a = none := by
  obtain ⟨cs, e, fr, _, h2⟩ := h.in_ _ ha
  simp only [World.cell?, h2]
  split
  · rfl
  · simp
theorem PW.frozen (h : PW Su pw w) (a : Addr) : w.frozen? a = pw.frozen? a := by
  by_cases ha : Su a.block
  · obtain ⟨cs, e, fr, h1, h2⟩ := h.in_ _ ha
    simp only [World.frozen?, h1, h2]
  · simp only [World.frozen?, h.out a.block ha]
theorem PW.set (h : PW Su pw w) {b : Nat} (hb : ¬ Su b) (o : Obj) : PW Su { pw with heap := pw.heap.setIfInBounds b o } { w with heap := w.heap.setIfInBounds b o } := by
  refine ⟨h.os, h.output, by simp [h.size], fun c hc => ?_, fun c hc => ?_⟩
  · show (pw.heap.setIfInBounds b o)[c]? = (w.heap.setIfInBounds b o)[c]?
    rw [Array.getElem?_setIfInBounds, Array.getElem?_setIfInBounds, h.size, h.out c hc]
  · obtain ⟨cs, e, fr, h1, h2⟩ := h.in_ c hc
    have hne : b ≠ c := fun q => hb (q ▸ hc)
    exact ⟨cs, e, fr, by show (w.heap.setIfInBounds b o)[c]? = _; rw [Array.getElem?_setIfInBounds_ne hne]; exact h1, by show (pw.heap.setIfInBounds b o)[c]? = _; rw [Array.getElem?_setIfInBounds_ne hne]; exact h2⟩
theorem PW.modify (h : PW Su pw w) {b : Nat} (hb : ¬ Su b) (f : Obj → Obj) : PW Su { pw with heap := pw.heap.modify b f } { w with heap := w.heap.modify b f } := by
  refine ⟨h.os, h.output, by simp [h.size], fun c hc => ?_, fun c hc => ?_⟩
  · show (pw.heap.modify b f)[c]? = (w.heap.modify b f)[c]?
    rw [Array.getElem?_modify, Array.getElem?_modify, h.out c hc]
  · obtain ⟨cs, e, fr, h1, h2⟩ := h.in_ c hc
    have hne : b ≠ c := fun q => hb (q ▸ hc)
    exact ⟨cs, e, fr, by show (w.heap.modify b f)[c]? = _; rw [Array.getElem?_modify, if_neg hne]; exact h1, by show (pw.heap.modify b f)[c]? = _; rw [Array.getElem?_modify, if_neg hne]; exact h2⟩
theorem PW.setCell (h : PW Su pw w) {a : Addr} (ha : ¬ Su a.block) (v : Value) : PW Su (pw.setCell a v) (w.setCell a v) := h.modify ha _
theorem PW.freeze (h : PW Su pw w) (a : Addr) (n : Nat) : PW Su (pw.freeze a n) (w.freeze a n) := by
  unfold World.freeze
  by_cases hn : n = 0
  · rw [if_pos hn, if_pos hn]; exact h
  · rw [if_neg hn, if_neg hn]
    by_cases ha : Su a.block
    · refine ⟨h.os, h.output, by simp [h.size], fun c hc => ?_, fun c hc => ?_⟩
      · have hne : a.block ≠ c := fun q => hc (q ▸ ha)
        show (pw.heap.modify a.block _)[c]? = (w.heap.modify a.block _)[c]?
        rw [Array.getElem?_modify, Array.getElem?_modify, if_neg hne, if_neg hne, h.out c hc]
      · obtain ⟨cs, e, fr, h1, h2⟩ := h.in_ c hc
        by_cases hne : a.block = c
        · refine ⟨cs, e, if (fr.1 == fr.2) = true then (a.off, a.off + n) else (min fr.1 a.off, max fr.2 (a.off + n)), ?_, ?_⟩
          · show (w.heap.modify a.block _)[c]? = _
            rw [Array.getElem?_modify, if_pos hne, h1]
            rfl
          · show (pw.heap.modify a.block _)[c]? = _
            rw [Array.getElem?_modify, if_pos hne, h2]
            rfl
        · exact ⟨cs, e, fr, by show (w.heap.modify a.block _)[c]? = _; rw [Array.getElem?_modify, if_neg hne]; exact h1, by show (pw.heap.modify a.block _)[c]? = _; rw [Array.getElem?_modify, if_neg hne]; exact h2⟩
    · exact h.modify ha _
theorem PW.push (h : PW Su pw w) (o : Obj) : PW Su { pw with heap := pw.heap.push o } { w with heap := w.heap.push o } := by
  refine ⟨h.os, h.output, by simp [h.size], fun c hc => ?_, fun c hc => ?_⟩
  · show (pw.heap.push o)[c]? = (w.heap.push o)[c]?
    rw [Array.getElem?_push, Array.getElem?_push, h.size, h.out c hc]
  · obtain ⟨cs, e, fr, h1, h2⟩ := h.in_ c hc
    have := h.lt hc
    exact ⟨cs, e, fr, by show (w.heap.push o)[c]? = _; rw [Array.getElem?_push, if_neg (by omega)]; exact h1, by show (pw.heap.push o)[c]? = _; rw [Array.getElem?_push, h.size, if_neg (by omega)]; exact h2⟩
end
theorem like_pos {like : Value} {l : List UInt8} (h : like.bytes? = some l) : 0 < l.length := by
  cases like <;> simp only [Value.bytes?, reduceCtorEq, Option.some.injEq] at h
  · subst h; simp
  · rename_i k n
    subst h
    cases k <;> simp [leBytes, IntKind.bits]
  · rename_i k n
    subst h
    cases k <;> simp [leBytes, FloatKind.bytes]
  · rename_i k n m
    subst h
    cases k <;> simp [leBytes, FloatKind.bytes]
theorem seenCells_none (p : Program) (e : TypeId) : ∀ (f x stop : Nat), x < stop → ∃ m, seenCells p #[] e f x stop = .error m
  | 0, x, stop, _ => ⟨_, rfl⟩
  | f + 1, x, stop, h => by
    unfold seenCells
    rw [if_neg (by omega)]
    dsimp only
    split
    · exact ⟨_, rfl⟩
    · split
      · exact ⟨_, rfl⟩
      · simp only [Array.getElem?_empty]
        exact ⟨_, rfl⟩
section
variable {Su : Nat → Prop} {pw w : World}
theorem PW.seen (h : PW Su pw w) (p : Program) {at_ : Addr} (u : TypeId) (k : Addr) (atomic : Bool) (ha : ¬ Su at_.block) : w.seen p at_ u k atomic = pw.seen p at_ u k atomic := by
  simp only [World.seen, h.out _ ha]
theorem PW.seenSu (h : PW Su pw w) (p : Program) {at_ : Addr} (u : TypeId) (k : Addr) (atomic : Bool) (ha : Su at_.block) : ∃ m, pw.seen p at_ u k atomic = .error m := by
  obtain ⟨cs, e, fr, _, h2⟩ := h.in_ _ ha
  unfold World.seen
  rw [h2]
  simp only [bind, Except.bind, pure, Except.pure]
  split
  · exact ⟨_, rfl⟩
  cases hl : plainCell p p.depth u k.off with
  | none => exact ⟨_, rfl⟩
  | some like =>
    dsimp only
    cases hb : like.bytes? with
    | none => exact ⟨_, rfl⟩
    | some l =>
      dsimp only [Option.map_some]
      have hp := like_pos hb
      cases byteOfCell p p.depth u k.off with
      | none => exact ⟨_, rfl⟩
      | some β =>
        dsimp only
        split
        · exact ⟨_, rfl⟩
        cases byteOfCell p p.depth e (at_.off % p.cellsOf e) with
        | none => exact ⟨_, rfl⟩
        | some b0 =>
          dsimp only
          obtain ⟨m, hm⟩ := seenCells_none p e (l.length + 1) (at_.off / p.cellsOf e * p.bytesOf e + b0 + β) (at_.off / p.cellsOf e * p.bytesOf e + b0 + β + l.length) (by omega)
          rw [hm]
          exact ⟨_, rfl⟩
theorem seen_cells {p : Program} {v : World} {at_ : Addr} {u : TypeId} {k : Addr} {atomic : Bool} {r : Array Value × TypeId × (Nat × Nat) × Nat × Value × List (Nat × Nat × List UInt8)} (h : v.seen p at_ u k atomic = .ok r) : at_.block < v.heap.size := by
  unfold World.seen at h
  simp only [bind, Except.bind, pure, Except.pure] at h
  cases hb : v.heap[at_.block]? with
  | some o => exact (Array.getElem?_eq_some_iff.1 hb).1
  | none =>
    rw [hb] at h
    exfalso
    revert h
    repeat' split
    all_goals first | (intro h; cases h; done) | contradiction
theorem PW.viewLoad (h : PW Su pw w) (p : Program) (at_ : Addr) (u : TypeId) (k : Addr) (atomic : Bool) : (∃ e, pw.viewLoad p at_ u k atomic = .error e) ∨ ∃ r, pw.viewLoad p at_ u k atomic = .ok r ∧ w.viewLoad p at_ u k atomic = .ok r ∧ ∀ x ∈ r.2, x.block < w.heap.size ∧ ¬ Su x.block := by
  by_cases ha : Su at_.block
  · obtain ⟨m, hm⟩ := h.seenSu p u k atomic ha
    left
    unfold World.viewLoad
    rw [hm]
    exact ⟨_, rfl⟩
  · have he := h.seen p u k atomic ha
    unfold World.viewLoad
    rw [he]
    cases hs : pw.seen p at_ u k atomic with
    | error m => exact .inl ⟨_, rfl⟩
    | ok r =>
      have hlt : at_.block < w.heap.size := seen_cells (he.trans hs)
      obtain ⟨c, e, fr, first, like, cells⟩ := r
      simp only [bind, Except.bind]
      split
      · rename_i v hv
        refine .inr ⟨_, rfl, rfl, fun x hx => ?_⟩
        simp only [List.mem_map] at hx
        obtain ⟨y, _, rfl⟩ := hx
        exact ⟨hlt, ha⟩
      · exact .inl ⟨_, rfl⟩
theorem PW.farLoad (h : PW Su pw w) (p : Program) (a : Addr) (atomic : Bool) : (∃ e, pw.farLoad p a atomic = .error e ∧ endH pw e) ∨ ∃ r, pw.farLoad p a atomic = .ok r ∧ w.farLoad p a atomic = .ok r ∧ ∀ x ∈ r.2, x.block < w.heap.size ∧ ¬ Su x.block := by
  by_cases ha : Su a.block
  · obtain ⟨cs, e, fr, _, h2⟩ := h.in_ _ ha
    left
    refine ⟨.stuck "load: no such cell", ?_, trivial⟩
    simp only [World.farLoad, h2, World.noCell]
  · unfold World.farLoad World.noCell
    rw [← h.out _ ha]
    cases hb : pw.heap[a.block]? with
    | none => exact .inl ⟨_, rfl, trivial⟩
    | some o =>
      cases o with
      | view at_ u =>
        dsimp only
        rcases h.viewLoad p at_ u a atomic with ⟨m, hm⟩ | ⟨r, h1, h2, h3⟩
        · rw [hm]; exact .inl ⟨_, rfl, trivial⟩
        · rw [h1, h2]; exact .inr ⟨r, rfl, rfl, h3⟩
      | pending c e => exact .inl ⟨_, rfl, c, e, hb⟩
      | _ => exact .inl ⟨_, rfl, trivial⟩
theorem PW.viewStore (h : PW Su pw w) (p : Program) (at_ : Addr) (u : TypeId) (k : Addr) (v : Value) (atomic : Bool) : (∃ e, pw.viewStore p at_ u k v atomic = .error e ∧ (Su at_.block ∨ ∃ e, w.viewStore p at_ u k v atomic = .error e)) ∨
    ∃ c e fr l, pw.viewStore p at_ u k v atomic = .ok ({ pw with heap := pw.heap.setIfInBounds at_.block (.cells c e fr) }, l) ∧ w.viewStore p at_ u k v atomic = .ok ({ w with heap := w.heap.setIfInBounds at_.block (.cells c e fr) }, l) ∧ ¬ Su at_.block ∧ at_.block < w.heap.size ∧ ∀ x ∈ l, x.block < w.heap.size ∧ ¬ Su x.block := by
  by_cases ha : Su at_.block
  · obtain ⟨m, hm⟩ := h.seenSu p u k atomic ha
    left
    unfold World.viewStore
    rw [hm]
    simp only [bind, Except.bind]
    split <;> exact ⟨_, rfl, .inl ha⟩
  · have he := h.seen p u k atomic ha
    unfold World.viewStore
    rw [he]
    simp only [bind, Except.bind]
    by_cases ht : (!tight p p.depth u) = true
    · rw [if_pos ht, if_pos ht]; exact .inl ⟨_, rfl, .inr ⟨_, rfl⟩⟩
    rw [if_neg ht, if_neg ht]
    simp only [pure, Except.pure]
    cases hs : pw.seen p at_ u k atomic with
    | error m => exact .inl ⟨_, rfl, .inr ⟨_, rfl⟩⟩
    | ok r =>
      have hlt : at_.block < w.heap.size := seen_cells (he.trans hs)
      obtain ⟨c, e, fr, first, like, cells⟩ := r
      dsimp only
      cases hv : v.bytes? with
      | none => exact .inl ⟨_, rfl, .inr ⟨_, rfl⟩⟩
      | some bytes =>
        dsimp only
        by_cases hq : some bytes.length ≠ like.bytes?.map (·.length)
        · rw [if_pos hq, if_pos hq]; exact .inl ⟨_, rfl, .inr ⟨_, rfl⟩⟩
        · rw [if_neg hq, if_neg hq]
          generalize (List.foldlM (m := Except String) _ c cells) = F
          cases F with
          | error m => exact .inl ⟨_, rfl, .inr ⟨_, rfl⟩⟩
          | ok c =>
            refine .inr ⟨_, _, _, _, rfl, rfl, ha, hlt, fun x hx => ?_⟩
            simp only [List.mem_map] at hx
            obtain ⟨y, _, rfl⟩ := hx
            exact ⟨hlt, ha⟩
end
end Go.Proofs.YtckoipoejaafhaaDoor.Cc
