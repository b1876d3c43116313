/-
  Such a piece does in the true world what it does in the private one, on a tape that answers alike; or the private one ends.
-/
import Derived.Test.YtckoipoejaafhaaDoorCcStAll
namespace Go.Proofs.YtckoipoejaafhaaDoor.Cc
open Go Go.Conc
def Gl (G : Nat) (w : World) : Prop := ∀ g, g < G → ∃ cs e fr, w.heap[g]? = some (.cells cs e fr)
def endG (G : Nat) (h : Halt) : Prop := plainH h ∨ ∃ g, h = .unsupported (.initOrder g) ∧ G ≤ g
theorem Gl.ends {G : Nat} {w : World} (h : Gl G w) {x : Halt} (k : endH w x) : endG G x := by
  cases x with
  | unsupported u =>
    cases u with
    | initOrder g =>
      refine .inr ⟨g, rfl, Nat.le_of_not_lt fun hlt => ?_⟩
      obtain ⟨cs, e, fr, h1⟩ := h g hlt
      obtain ⟨c, e', h2⟩ := k
      rw [h1] at h2
      cases h2
    | _ => exact .inl k
  | _ => exact .inl k
section
variable {G : Nat} {w : World}
theorem Gl.modify (h : Gl G w) (b : Nat) {f : Obj → Obj} (hf : ∀ c e fr, ∃ c' e' fr', f (.cells c e fr) = .cells c' e' fr') : Gl G { w with heap := w.heap.modify b f } := fun g hg => by
  obtain ⟨cs, e, fr, h1⟩ := h g hg
  show ∃ cs e fr, (w.heap.modify b f)[g]? = _
  rw [Array.getElem?_modify, h1]
  split
  · obtain ⟨c', e', fr', q⟩ := hf cs e fr
    exact ⟨c', e', fr', by rw [Option.map_some, q]⟩
  · exact ⟨cs, e, fr, rfl⟩
theorem Gl.setCell (h : Gl G w) (a : Addr) (v : Value) : Gl G (w.setCell a v) := h.modify a.block fun _ _ _ => ⟨_, _, _, rfl⟩
theorem Gl.freeze (h : Gl G w) (a : Addr) (n : Nat) : Gl G (w.freeze a n) := by
  unfold World.freeze
  split
  · exact h
  · exact h.modify a.block fun _ _ _ => ⟨_, _, _, rfl⟩
theorem Gl.push (h : Gl G w) (o : Obj) : Gl G { w with heap := w.heap.push o } := fun g hg => by
  obtain ⟨cs, e, fr, h1⟩ := h g hg
  have := (Array.getElem?_eq_some_iff.1 h1).1
  exact ⟨cs, e, fr, by show (w.heap.push o)[g]? = _; rw [Array.getElem?_push, if_neg (by omega)]; exact h1⟩
theorem Gl.set (h : Gl G w) (b : Nat) (o : Obj) (hb : b < G → ∃ cs e fr, o = .cells cs e fr) : Gl G { w with heap := w.heap.setIfInBounds b o } := fun g hg => by
  obtain ⟨cs, e, fr, h1⟩ := h g hg
  show ∃ cs e fr, (w.heap.setIfInBounds b o)[g]? = _
  by_cases e : b = g
  · subst e
    obtain ⟨c, e', fr', rfl⟩ := hb hg
    have := (Array.getElem?_eq_some_iff.1 h1).1
    exact ⟨c, e', fr', by rw [Array.getElem?_setIfInBounds, if_pos rfl, if_pos this]⟩
  · exact ⟨cs, _, fr, by rw [Array.getElem?_setIfInBounds_ne e]; exact h1⟩
end
def Agr (k : Nat) (w : World) (τ : Nat → Question → Nat) (c : Nat) : Prop := ∀ j, j < k → ∀ q, τ (c + j) q = w.tape (w.drawn + j) q
theorem Agr.mono {k k' : Nat} {w : World} {τ : Nat → Question → Nat} {c : Nat} (h : Agr k w τ c) (hk : k' ≤ k) : Agr k' w τ c := fun j hj => h j (by omega)
def Both {α : Type} (P : Program) (Su : Nat → Prop) (G : Nat) (A : α → Prop) (s : Sem α) (pw w : World) (k : Nat) : Prop :=
  (∃ a pw1 w1 n, (∀ τ c es, Agr k w τ c → s.runT P (tp pw τ c) es = (.ok a (tp pw1 τ (c + k)), es ++ n)) ∧ (∀ es, s.runT P w es = (.ok a w1, es ++ n)) ∧ A a ∧ PW Su pw1 w1 ∧ Gl G pw1 ∧ w1.tape = w.tape ∧ w1.drawn = w.drawn + k ∧ w.heap.size ≤ w1.heap.size ∧ ∀ e ∈ n, EvB Su w1.heap.size e) ∨
  (∀ τ c es, Agr k w τ c → ∃ h w2 m, s.runT P (tp pw τ c) es = (.halt h w2, es ++ m) ∧ endG G h)
section
variable {P : Program} {Su : Nat → Prop} {G : Nat} {α : Type} {A : α → Prop}
theorem Both.ahead {s s1 : Sem α} {pw w pw1 w1 : World} (l : Array Event) {k d : Nat} (h : Both P Su G A s1 pw1 w1 k) (ht : w1.tape = w.tape) (hd : w1.drawn = w.drawn + d) (hs : w.heap.size ≤ w1.heap.size) (hl : ∀ e ∈ l, EvB Su w1.heap.size e)
    (h1 : ∀ τ c es, Agr d w τ c → s.runT P (tp pw τ c) es = s1.runT P (tp pw1 τ (c + d)) (es ++ l)) (h2 : ∀ es, s.runT P w es = s1.runT P w1 (es ++ l)) : Both P Su G A s pw w (d + k) := by
  have ha : ∀ {τ : Nat → Question → Nat} {c : Nat}, Agr (d + k) w τ c → Agr k w1 τ (c + d) := fun {τ c} h j hj q => by
    have := h (d + j) (by omega) q
    rw [ht, hd, Nat.add_assoc, Nat.add_assoc]
    exact this
  rcases h with ⟨a, pw2, w2, n, r1, r2, r3, r4, r5, r6, r7, r8, r9⟩ | h
  · refine .inl ⟨a, pw2, w2, l ++ n, fun τ c es hA => ?_, fun es => ?_, r3, r4, r5, r6.trans ht, by omega, by omega, fun e he => ?_⟩
    · rw [h1 τ c es (hA.mono (by omega)), r1 τ (c + d) _ (ha hA), Array.append_assoc, Nat.add_assoc]
    · rw [h2, r2, Array.append_assoc]
    · rcases Array.mem_append.1 he with q | q
      · exact (hl e q).mono r8
      · exact r9 e q
  · refine .inr fun τ c es hA => ?_
    obtain ⟨x, w2, m, e1, e2⟩ := h τ (c + d) (es ++ l) (ha hA)
    exact ⟨x, w2, l ++ m, by rw [h1 τ c es (hA.mono (by omega)), e1, Array.append_assoc], e2⟩
theorem Cl.run (s : Sem α) : ∀ {pw w : World}, Cl P Su A s → PW Su pw w → Gl G pw → ∃ k, Both P Su G A s pw w k := by
  have z : ∀ {s s1 : Sem α} {pw w pw1 w1 : World} (l : Array Event), (∃ k, Both P Su G A s1 pw1 w1 k) → w1.tape = w.tape → w1.drawn = w.drawn → w.heap.size ≤ w1.heap.size → (∀ e ∈ l, EvB Su w1.heap.size e) →
      (∀ τ c es, s.runT P (tp pw τ c) es = s1.runT P (tp pw1 τ c) (es ++ l)) → (∀ es, s.runT P w es = s1.runT P w1 (es ++ l)) → ∃ k, Both P Su G A s pw w k := by
    rintro s s1 pw w pw1 w1 l ⟨k, hk⟩ h1 h2 h3 h4 h5 h6
    exact ⟨0 + k, Both.ahead (d := 0) l hk h1 h2 h3 h4 (fun τ c es _ => h5 τ c es) h6⟩
  have bad : ∀ {s : Sem α} {pw w : World}, (∀ τ c es, ∃ h m, s.runT P (tp pw τ c) es = (.halt h (tp pw τ c), es ++ m) ∧ endG G h) → ∃ k, Both P Su G A s pw w k := fun h => ⟨0, .inr fun τ c es _ => by
    obtain ⟨x, m, h1, h2⟩ := h τ c es
    exact ⟨x, _, m, h1, h2⟩⟩
  induction s with
  | pure a =>
    intro pw w h hp hg
    exact ⟨0, .inl ⟨a, pw, w, #[], fun τ c es _ => by simp [Sem.runT], fun es => by simp [Sem.runT], h, hp, hg, rfl, rfl, Nat.le_refl _, by simp⟩⟩
  | load m a k ih =>
    intro pw w h hp hg
    obtain ⟨rfl, hk⟩ := h
    cases hc : pw.cell? a with
    | none =>
      rcases hp.farLoad P a (Mode.plain == .atomic) with ⟨e, h1, h2⟩ | ⟨⟨v, l⟩, h1, h2, h3⟩
      · refine bad fun τ c es => ⟨e, #[], ?_, hg.ends h2⟩
        have hc' : (tp pw τ c).cell? a = none := hc
        have h1' : (tp pw τ c).farLoad P a (Mode.plain == .atomic) = .error e := h1
        simp only [Sem.runT, hc', h1', Array.append_empty]
      · have hcw : w.cell? a = none := by
          by_cases ha : Su a.block
          · exfalso
            obtain ⟨cs, e, fr, _, q⟩ := hp.in_ _ ha
            simp only [World.farLoad, q] at h1
            cases h1
          · rw [hp.cell ha, hc]
        refine z (l.toArray.map (⟨.cell ·, false, Mode.plain == .atomic⟩)) (ih v (hk v) hp hg) rfl rfl (Nat.le_refl _) (fun e he => ?_) (fun τ c es => ?_) (fun es => ?_)
        · simp only [Array.mem_map, List.mem_toArray] at he
          obtain ⟨x, hx, rfl⟩ := he
          exact .inl ⟨x, rfl, rfl, (h3 x hx).1, (h3 x hx).2⟩
        · have hc' : (tp pw τ c).cell? a = none := hc
          have h1' : (tp pw τ c).farLoad P a (Mode.plain == .atomic) = .ok (v, l) := h1
          simp only [Sem.runT, hc', h1']
        · simp only [Sem.runT, hcw, h2]
    | some v =>
      have ha : ¬ Su a.block := fun q => by rw [hp.cellSu q] at hc; cases hc
      have hcw : w.cell? a = some v := by rw [hp.cell ha, hc]
      refine z #[⟨.cell a, false, Mode.plain == .atomic⟩] (ih v (hk v) hp hg) rfl rfl (Nat.le_refl _) (fun e he => ?_) (fun τ c es => ?_) (fun es => ?_)
      · rw [Array.mem_singleton] at he
        subst he
        refine .inl ⟨a, rfl, rfl, ?_, ha⟩
        unfold World.cell? at hcw
        split at hcw
        · rename_i q; exact (Array.getElem?_eq_some_iff.1 q).1
        · cases hcw
      · have hc' : (tp pw τ c).cell? a = some v := hc
        simp only [Sem.runT, hc', Array.push_eq_append]
      · simp only [Sem.runT, hcw, Array.push_eq_append]
  | store m a v k ih =>
    intro pw w h hp hg
    obtain ⟨rfl, hk⟩ := h
    by_cases hag : (∃ cs, v = .agg cs) ∨ ∃ cs, v = .tuple cs
    · rcases hag with ⟨cs, rfl⟩ | ⟨cs, rfl⟩ <;> exact bad fun τ c es => ⟨.stuck "store: not the value of one cell", #[], by simp only [Sem.runT, Array.append_empty], .inl trivial⟩
    have hne : (∀ cs, v ≠ .agg cs) ∧ ∀ cs, v ≠ .tuple cs := ⟨fun cs q => hag (.inl ⟨cs, q⟩), fun cs q => hag (.inr ⟨cs, q⟩)⟩
    have e0 : ∀ (W : World) (es : Array Event), (Sem.store Mode.plain a v k).runT P W es = match W.cell? a with
        | some _ => if W.frozen? a then (.halt (.unsupported (.unsafePointer "a write to bytes that a string shares")) W, es) else k.runT P (W.setCell a v) (es.push ⟨.cell a, true, Mode.plain == .atomic⟩)
        | none => match W.farStore P a v (Mode.plain == .atomic) with
          | .ok (w, touched) => k.runT P w (es ++ touched.toArray.map (⟨.cell ·, true, Mode.plain == .atomic⟩))
          | .error h => (.halt h W, es) := fun W es => by
      cases v <;> first | rfl | exact absurd rfl (hne.1 _) | exact absurd rfl (hne.2 _)
    cases hc : pw.cell? a with
    | none =>
      by_cases ha : Su a.block
      · obtain ⟨cs, e, fr, _, q⟩ := hp.in_ _ ha
        refine bad fun τ c es => ⟨.stuck "store: no such cell", #[], ?_, .inl trivial⟩
        have hc' : (tp pw τ c).cell? a = none := hc
        have q' : (tp pw τ c).heap[a.block]? = some (.cells #[] e fr) := q
        rw [e0, hc']
        simp only [World.farStore, q', World.noCell, Array.append_empty]
      have hcw : w.cell? a = none := by rw [hp.cell ha, hc]
      cases hb : pw.heap[a.block]? with
      | none =>
        refine bad fun τ c es => ⟨.stuck "store: no such cell", #[], ?_, .inl trivial⟩
        have hc' : (tp pw τ c).cell? a = none := hc
        have q' : (tp pw τ c).heap[a.block]? = none := hb
        rw [e0, hc']
        simp only [World.farStore, q', World.noCell, Array.append_empty]
      | some o =>
        have other : ∀ h, (∀ W : World, W.heap[a.block]? = some o → W.farStore P a v (Mode.plain == .atomic) = .error h) → endH pw h → ∃ k', Both P Su G A (Sem.store Mode.plain a v k) pw w k' := fun h q1 q2 => by
          refine bad fun τ c es => ⟨h, #[], ?_, hg.ends q2⟩
          have hc' : (tp pw τ c).cell? a = none := hc
          rw [e0, hc']
          simp only [q1 (tp pw τ c) hb, Array.append_empty]
        cases o with
        | view at_ u =>
          have hbw : w.heap[a.block]? = some (.view at_ u) := by rw [← hp.out _ ha]; exact hb
          have fe : ∀ (W : World) e, W.heap[a.block]? = some (.view at_ u) → W.viewStore P at_ u a v (Mode.plain == .atomic) = .error e → W.farStore P a v (Mode.plain == .atomic) = .error (.unsupported (.unsafePointer e)) := fun W e q1 q2 => by simp only [World.farStore, q1, q2]
          have fo : ∀ (W : World) r, W.heap[a.block]? = some (.view at_ u) → W.viewStore P at_ u a v (Mode.plain == .atomic) = .ok r → W.farStore P a v (Mode.plain == .atomic) = .ok r := fun W e q1 q2 => by simp only [World.farStore, q1, q2]
          have all : (∃ e, pw.viewStore P at_ u a v (Mode.plain == .atomic) = .error e ∧ (Su at_.block ∨ ∃ e, w.viewStore P at_ u a v (Mode.plain == .atomic) = .error e)) → ∃ k', Both P Su G A (Sem.store Mode.plain a v k) pw w k' := by
            rintro ⟨e, _, q⟩
            refine bad fun τ c es => ?_
            have hc' : (tp pw τ c).cell? a = none := hc
            rcases (hp.tp τ c).viewStore P at_ u a v (Mode.plain == .atomic) with ⟨e', x, _⟩ | ⟨c1, e1, fr1, l, x1, x2, x3, _⟩
            · refine ⟨.unsupported (.unsafePointer e'), #[], ?_, .inl trivial⟩
              rw [e0, hc']
              simp only [fe (tp pw τ c) e' hb x, Array.append_empty]
            · rcases q with q | ⟨e2, q⟩
              · exact absurd q x3
              · rw [x2] at q; cases q
          rcases (hp.viewStore P at_ u a v (Mode.plain == .atomic)) with q | ⟨c1, e1, fr1, l, q1, q2, q3, q5, q4⟩
          · exact all q
          · refine z (l.toArray.map (⟨.cell ·, true, Mode.plain == .atomic⟩)) (ih hk (hp.set q3 (.cells c1 e1 fr1)) (hg.set at_.block (.cells c1 e1 fr1) fun _ => ⟨_, _, _, rfl⟩)) rfl rfl (by simp) (fun e he => ?_) (fun τ c es => ?_) (fun es => ?_)
            · simp only [Array.mem_map, List.mem_toArray] at he
              obtain ⟨x, hx, rfl⟩ := he
              exact .inl ⟨x, rfl, rfl, by simpa using (q4 x hx).1, (q4 x hx).2⟩
            · have hc' : (tp pw τ c).cell? a = none := hc
              rcases (hp.tp τ c).viewStore P at_ u a v (Mode.plain == .atomic) with ⟨e', x, y | ⟨e2, y⟩⟩ | ⟨c2, e2, fr2, l2, x1, x2, x3, x4, _⟩
              · exact absurd y q3
              · rw [q2] at y; cases y
              · rw [e0, hc']
                simp only [fo (tp pw τ c) _ hb x1]
                rw [q2] at x2
                simp only [Except.ok.injEq, Prod.mk.injEq, World.mk.injEq, and_true] at x2
                obtain ⟨y1, rfl⟩ := x2
                have y2 : (w.heap.setIfInBounds at_.block (.cells c1 e1 fr1))[at_.block]? = (w.heap.setIfInBounds at_.block (.cells c2 e2 fr2))[at_.block]? := by rw [y1]
                rw [Array.getElem?_setIfInBounds, Array.getElem?_setIfInBounds, if_pos rfl, if_pos rfl, if_pos q5, if_pos q5] at y2
                cases y2
                rfl
            · rw [e0, hcw]
              simp only [fo w _ hbw q2]
        | pending c e => exact other (.unsupported (.initOrder a.block)) (fun W q => by simp only [World.farStore, q, World.noCell]) ⟨c, e, hb⟩
        | _ => exact other (.stuck "store: no such cell") (fun W q => by simp only [World.farStore, q, World.noCell]) trivial
    | some u =>
      have ha : ¬ Su a.block := fun q => by rw [hp.cellSu q] at hc; cases hc
      have hcw : w.cell? a = some u := by rw [hp.cell ha, hc]
      cases hf : pw.frozen? a with
      | true =>
        refine bad fun τ c es => ⟨.unsupported (.unsafePointer "a write to bytes that a string shares"), #[], ?_, .inl trivial⟩
        have hc' : (tp pw τ c).cell? a = some u := hc
        have hf' : (tp pw τ c).frozen? a = true := hf
        rw [e0, hc']
        simp only [hf', if_true, Array.append_empty]
      | false =>
        have hfw : w.frozen? a = false := by rw [hp.frozen, hf]
        refine z #[⟨.cell a, true, Mode.plain == .atomic⟩] (ih hk (hp.setCell ha v) (hg.setCell a v)) rfl rfl (by simp [World.setCell]) (fun e he => ?_) (fun τ c es => ?_) (fun es => ?_)
        · rw [Array.mem_singleton] at he
          subst he
          refine .inl ⟨a, rfl, rfl, ?_, ha⟩
          show a.block < (w.setCell a v).heap.size
          simp only [World.setCell, Array.size_modify]
          unfold World.cell? at hcw
          split at hcw
          · rename_i q; exact (Array.getElem?_eq_some_iff.1 q).1
          · cases hcw
        · have hc' : (tp pw τ c).cell? a = some u := hc
          have hf' : (tp pw τ c).frozen? a = false := hf
          rw [e0, hc']
          simp only [hf', Bool.false_eq_true, if_false, Array.push_eq_append]
          rfl
        · rw [e0, hcw]
          simp only [hfw, Bool.false_eq_true, if_false, Array.push_eq_append]
  | new o k ih =>
    intro pw w h hp hg
    have hn : ¬ Su w.heap.size := fun q => by have := hp.lt q; omega
    refine z #[] (ih w.heap.size (h _ hn) (hp.push o) (hg.push o)) rfl rfl (by simp) (by simp) (fun τ c es => ?_) (fun es => ?_)
    · have : (tp pw τ c).heap.size = w.heap.size := hp.size
      simp only [Sem.runT, this, Array.append_empty]
      rfl
    · simp only [Sem.runT, Array.append_empty]
  | shape r k ih =>
    intro pw w h hp hg
    by_cases hr : Su r
    · obtain ⟨cs, e, fr, h1, h2⟩ := hp.in_ r hr
      rcases (h.1.resolve_left fun q => q hr) e with hdead | hb
      · refine ⟨0, .inr fun τ c es _ => ?_⟩
        obtain ⟨x, w2, m, q1, q2⟩ := Dead.runT (k (some (e, 0))) hdead (tp pw τ c) es
        have h2' : (tp pw τ c).heap[r]? = some (.cells #[] e fr) := h2
        refine ⟨x, w2, m, ?_, .inl q1⟩
        simp only [Sem.runT, World.shape?, h2']
        exact q2
      refine z #[] (ih (some (e, 0)) (h.2 _) hp hg) rfl rfl (Nat.le_refl _) (by simp) (fun τ c es => ?_) (fun es => ?_)
      · have h2' : (tp pw τ c).heap[r]? = some (.cells #[] e fr) := h2
        simp only [Sem.runT, World.shape?, h2', Array.append_empty]
        rfl
      · simp only [Sem.runT, World.shape?, h1, Array.append_empty]
        rw [hb cs.size]
    · refine z #[] (ih (pw.shape? r) (h.2 _) hp hg) rfl rfl (Nat.le_refl _) (by simp) (fun τ c es => ?_) (fun es => ?_)
      · simp only [Sem.runT, Array.append_empty]
        rfl
      · simp only [Sem.runT, World.shape?, ← hp.out r hr, Array.append_empty]
  | freeze a n k ih =>
    intro pw w h hp hg
    refine z #[] (ih h (hp.freeze a n) (hg.freeze a n)) (by unfold World.freeze; split <;> rfl) (by unfold World.freeze; split <;> rfl) (by unfold World.freeze; split <;> simp) (by simp) (fun τ c es => ?_) (fun es => ?_)
    · have : (tp pw τ c).freeze a n = tp (pw.freeze a n) τ c := by unfold World.freeze; split <;> rfl
      simp only [Sem.runT, this, Array.append_empty]
    · simp only [Sem.runT, Array.append_empty]
  | frozen a k ih =>
    intro pw w h hp hg
    refine z #[] (ih (pw.frozen? a) (h _) hp hg) rfl rfl (Nat.le_refl _) (by simp) (fun τ c es => ?_) (fun es => ?_)
    · simp only [Sem.runT, Array.append_empty]; rfl
    · simp only [Sem.runT, hp.frozen, Array.append_empty]
  | getObj r k ih =>
    intro pw w h hp hg
    cases hb : pw.heap[r]? with
    | none => exact bad fun τ c es => ⟨.stuck "getObj: no such block", #[], by have : (tp pw τ c).heap[r]? = none := hb; simp only [Sem.runT, this, Array.append_empty], .inl trivial⟩
    | some o =>
      by_cases hr : Su r
      · obtain ⟨cs, e, fr, _, h2⟩ := hp.in_ r hr
        rw [hb] at h2
        cases h2
        exact bad fun τ c es => ⟨.stuck "getObj: a row of cells", #[], by have : (tp pw τ c).heap[r]? = some (.cells #[] e fr) := hb; simp only [Sem.runT, this, Array.append_empty], .inl trivial⟩
      have hbw : w.heap[r]? = some o := by rw [← hp.out r hr]; exact hb
      have hlt := (Array.getElem?_eq_some_iff.1 hbw).1
      have good : (∀ cs e fr, o ≠ .cells cs e fr) → ∃ k', Both P Su G A (Sem.getObj r k) pw w k' := fun hno => by
        have e0 : ∀ (W : World) es, W.heap[r]? = some o → (Sem.getObj r k).runT P W es = (k o).runT P W (es.push ⟨.obj r, false, o.isChan⟩) := fun W es q => by
          simp only [Sem.runT, q]
          all_goals cases o <;> first | rfl | exact absurd rfl (hno _ _ _)
        refine z #[⟨.obj r, false, o.isChan⟩] (ih o (h _) hp hg) rfl rfl (Nat.le_refl _) (fun e he => ?_) (fun τ c es => ?_) (fun es => ?_)
        · rw [Array.mem_singleton] at he
          subst he
          exact .inr (.inl ⟨r, rfl, hlt, hr⟩)
        · rw [e0 (tp pw τ c) es hb, Array.push_eq_append]
        · rw [e0 w es hbw, Array.push_eq_append]
      cases o with
      | cells cs e fr => exact bad fun τ c es => ⟨.stuck "getObj: a row of cells", #[], by have : (tp pw τ c).heap[r]? = some (.cells cs e fr) := hb; simp only [Sem.runT, this, Array.append_empty], .inl trivial⟩
      | _ => exact good fun _ _ _ q => by cases q
  | setObj r o k ih =>
    intro pw w h hp hg
    cases hb : pw.heap[r]? with
    | none => exact bad fun τ c es => ⟨.stuck "setObj: no such block", #[], by have : (tp pw τ c).heap[r]? = none := hb; simp only [Sem.runT, this, Array.append_empty], .inl trivial⟩
    | some o' =>
      by_cases hr : Su r
      · obtain ⟨cs, e, fr, _, h2⟩ := hp.in_ r hr
        rw [hb] at h2
        cases h2
        exact bad fun τ c es => ⟨.stuck "setObj: a row of cells", #[], by have : (tp pw τ c).heap[r]? = some (.cells #[] e fr) := hb; simp only [Sem.runT, this, Array.append_empty], .inl trivial⟩
      have hbw : w.heap[r]? = some o' := by rw [← hp.out r hr]; exact hb
      have hlt := (Array.getElem?_eq_some_iff.1 hbw).1
      have good : (∀ cs e fr, o' ≠ .cells cs e fr) → ∃ k', Both P Su G A (Sem.setObj r o k) pw w k' := fun hno => by
        have e0 : ∀ (W : World) es, W.heap[r]? = some o' → (Sem.setObj r o k).runT P W es = k.runT P { W with heap := W.heap.setIfInBounds r o } (es.push ⟨.obj r, true, o.isChan⟩) := fun W es q => by
          simp only [Sem.runT, q]
          all_goals cases o' <;> first | rfl | exact absurd rfl (hno _ _ _)
        refine z #[⟨.obj r, true, o.isChan⟩] (ih h (hp.set hr o) (hg.set r o fun hlt' => ?_)) rfl rfl (by simp) (fun e he => ?_) (fun τ c es => ?_) (fun es => ?_)
        · obtain ⟨cs, e, fr, q⟩ := hg r hlt'
          rw [hb] at q
          cases q
          exact absurd rfl (hno _ _ _)
        · rw [Array.mem_singleton] at he
          subst he
          exact .inr (.inl ⟨r, rfl, by simpa using hlt, hr⟩)
        · rw [e0 (tp pw τ c) es hb, Array.push_eq_append]
          rfl
        · rw [e0 w es hbw, Array.push_eq_append]
      cases o' with
      | cells cs e fr => exact bad fun τ c es => ⟨.stuck "setObj: a row of cells", #[], by have : (tp pw τ c).heap[r]? = some (.cells cs e fr) := hb; simp only [Sem.runT, this, Array.append_empty], .inl trivial⟩
      | _ => exact good fun _ _ _ q => by cases q
  | choose q k ih =>
    intro pw w h hp hg
    by_cases hq : q.forced = true
    · refine z #[] (ih 0 (h _) hp hg) rfl rfl (Nat.le_refl _) (by simp) (fun τ c es => ?_) (fun es => ?_)
      · simp only [Sem.runT, hq, if_true, Array.append_empty]
      · simp only [Sem.runT, hq, if_true, Array.append_empty]
    · have hp' : PW Su pw { w with drawn := w.drawn + 1 } := ⟨hp.os, hp.output, hp.size, hp.out, hp.in_⟩
      obtain ⟨k', hk'⟩ := ih (q.cut (w.tape w.drawn q)) (h _) hp' hg
      refine ⟨1 + k', Both.ahead (d := 1) #[] hk' rfl rfl (Nat.le_refl _) (by simp) (fun τ c es hA => ?_) (fun es => ?_)⟩
      · have e1 : τ c q = w.tape w.drawn q := hA 0 (by omega) q
        simp only [Sem.runT, hq, if_false, Array.append_empty, Bool.false_eq_true]
        show (k (q.cut (τ c q))).runT P (tp pw τ (c + 1)) es = _
        rw [e1]
      · simp only [Sem.runT, hq, if_false, Array.append_empty, Bool.false_eq_true]
  | sys c k ih => intro pw w h; exact h.elim
  | program k ih =>
    intro pw w h hp hg
    exact z #[] (ih P h hp hg) rfl rfl (Nat.le_refl _) (by simp) (fun τ c es => by simp only [Sem.runT, Array.append_empty]) (fun es => by simp only [Sem.runT, Array.append_empty])
  | mark m k ih =>
    intro pw w h hp hg
    obtain ⟨rfl, hk⟩ := h
    refine z #[⟨.mark .noRoom, false, true⟩] (ih hk hp hg) rfl rfl (Nat.le_refl _) (fun e he => ?_) (fun τ c es => by simp only [Sem.runT, Array.push_eq_append]) (fun es => by simp only [Sem.runT, Array.push_eq_append])
    rw [Array.mem_singleton] at he
    exact .inr (.inr he)
  | halt e =>
    intro pw w h hp hg
    exact bad fun τ c es => ⟨e, #[], by simp only [Sem.runT, Array.append_empty], .inl h⟩
end
end Go.Proofs.YtckoipoejaafhaaDoor.Cc
