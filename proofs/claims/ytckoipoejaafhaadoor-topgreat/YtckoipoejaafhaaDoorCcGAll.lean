/-
  Texts that stood one behind the other, as one.
-/
import Derived.Test.YtckoipoejaafhaaDoorCcVAll
import Derived.Conc.Beside
import Derived.Conc.CrowdRun
import Derived.Conc.CrowdComm
import Derived.Conc.CrowdSpec
namespace Go.Proofs.YtckoipoejaafhaaDoor.Cc
open Go Go.Conc
open Go.ConcN (CT OkW Ok0 PermW Apart upd upd_same upd_ne PayAt)
open Go.ConcR (Payload)
section
variable [Payload]
structure Suf (Sh Ow : Nat → Prop) (I : World → Prop) (w w₁ : World) : Prop where
  kept : Kept Sh Ow w w₁
  inv : I w₁
omit [Payload] in
theorem Suf.trans {Sh Ow : Nat → Prop} {I : World → Prop} {a b c : World} (h : Suf Sh Ow I a b) (k : Suf Sh Ow I b c) : Suf Sh Ow I a c := ⟨h.kept.trans k.kept, k.inv⟩
structure EvS (Wg k : Nat) (e : Event) : Prop where
  at_ : ∀ x, (MemAct.ofEvent e).touch? = some x → (∃ a, x.loc = .cell a ∧ a.block = Wg) ∧ x.kind ≠ .plain ∧ (x.kind = .said → k = 0)
  dis : e.loc ≠ .mark .disable
  ena : e.loc ≠ .mark .enable
  rel : ∀ a, e.loc ≠ .mark (.release a)
structure Act1 (Wg k : Nat) (X : Option (Nat × Nat)) (Sh Ow : Nat → Prop) (w w' : World) (es : Array Event) (Ow' : Nat → Prop) : Prop where
  tape : w'.tape = w.tape
  os : w'.os = w.os
  output : w'.output = w.output
  size : w.heap.size ≤ w'.heap.size
  block : ∀ b, b < w.heap.size → ¬ Ow b → (∀ i, X ≠ some (b, i)) → w'.heap[b]? = w.heap[b]?
  cells : ∀ c i, X = some (c, i) → (∀ i', i' ≠ i → w'.cell? ⟨c, i', none⟩ = w.cell? ⟨c, i', none⟩) ∧ ∀ n, PayAt c n w → PayAt c n w'
  new : ∀ b, Ow' b → Ow b ∨ (w.heap.size ≤ b ∧ b < w'.heap.size)
  old : ∀ b, Ow b → Ow' b
  ev : ∀ e ∈ es, (∃ a, e.loc = .cell a ∧ e.sync = false ∧ (Ow' a.block ∨ (Sh a.block ∧ e.write = false))) ∨ e = ⟨.mark .noRoom, false, true⟩ ∨ EvS Wg k e
theorem Doing.act {Wg k : Nat} {Sh Ow Ow' : Nat → Prop} {w w' : World} {es : Array Event} (h : Doing Sh Ow w w' es Ow') : Act1 Wg k none Sh Ow w w' es Ow' :=
  ⟨h.tape, h.os, h.output, h.size, fun b hb hn _ => h.block b hb hn, fun _ _ e => (nomatch e), h.new, h.old, fun e he => (h.ev e he).imp id Or.inl⟩
theorem Act1.still (Wg k : Nat) (X : Option (Nat × Nat)) (Sh Ow : Nat → Prop) (w : World) {es : Array Event} (hes : ∀ e ∈ es, EvS Wg k e) : Act1 Wg k X Sh Ow w w es Ow :=
  ⟨rfl, rfl, rfl, Nat.le_refl _, fun _ _ _ _ => rfl, fun _ _ _ => ⟨fun _ _ => rfl, fun _ h => h⟩, fun _ h => .inl h, fun _ h => h, fun e he => .inr (.inr (hes e he))⟩
def Way (P : Program) (main : Bool) (Wg k : Nat) (X : Option (Nat × Nat)) (I : World → Prop) (Sh : Nat → Prop) (Stop : (Nat → Prop) → Goroutine → World → Prop) : Od → (Nat → Prop) → Goroutine → World → Prop
  | .leaf, Ow, g, w => ∀ w₁, Suf Sh Ow I w w₁ → Stop Ow g w₁
  | .mk f, Ow, g, w => g.status = .running ∧ ∀ w₁, Suf Sh Ow I w w₁ → ∃ g' w' es Ow', stepG P main g w₁ = .go g' w' es ∧ Act1 Wg k X Sh Ow w₁ w' es Ow' ∧ Way P main Wg k X I Sh Stop (f w₁) Ow' g' w'
section
variable {P : Program} {main : Bool} {Wg k : Nat} {X : Option (Nat × Nat)} {I : World → Prop} {Sh : Nat → Prop} {Stop Stop' : (Nat → Prop) → Goroutine → World → Prop}
theorem Way.suf {o : Od} {Ow : Nat → Prop} {g : Goroutine} {w w₁ : World} (h : Way P main Wg k X I Sh Stop o Ow g w) (s : Suf Sh Ow I w w₁) : Way P main Wg k X I Sh Stop o Ow g w₁ := by
  cases o with
  | leaf => exact fun w₂ k₂ => h w₂ (s.trans k₂)
  | mk f => exact ⟨h.1, fun w₂ k₂ => h.2 w₂ (s.trans k₂)⟩
theorem Way.of_step {Ow : Nat → Prop} {g : Goroutine} {w : World} (hr : g.status = .running) (h : ∀ w₁, Suf Sh Ow I w w₁ → ∃ g' w' es Ow', stepG P main g w₁ = .go g' w' es ∧ Act1 Wg k X Sh Ow w₁ w' es Ow' ∧ ∃ o, Way P main Wg k X I Sh Stop o Ow' g' w') : ∃ o, Way P main Wg k X I Sh Stop o Ow g w := by
  have h2 : ∀ w₁ : World, ∃ o, Suf Sh Ow I w w₁ → ∃ g' w' es Ow', stepG P main g w₁ = .go g' w' es ∧ Act1 Wg k X Sh Ow w₁ w' es Ow' ∧ Way P main Wg k X I Sh Stop o Ow' g' w' := fun w₁ => by
    by_cases s : Suf Sh Ow I w w₁
    · obtain ⟨g', w', es, Ow', h1, h2, o, h3⟩ := h w₁ s
      exact ⟨o, fun _ => ⟨g', w', es, Ow', h1, h2, h3⟩⟩
    · exact ⟨.leaf, fun q => absurd q s⟩
  obtain ⟨f, hf⟩ := Classical.axiomOfChoice h2
  exact ⟨.mk f, hr, hf⟩
theorem Way.stop {Ow : Nat → Prop} {g : Goroutine} {w : World} (h : ∀ w₁, Suf Sh Ow I w w₁ → Stop Ow g w₁) : ∃ o, Way P main Wg k X I Sh Stop o Ow g w := ⟨.leaf, h⟩
theorem Wi.way {Ow : Nat → Prop} {g : Goroutine} {w : World} (h : Wi P main Sh Stop Ow g w) : ∃ o, Way P main Wg k none I Sh Stop o Ow g w := by
  induction h with
  | stop h => exact ⟨.leaf, fun w₁ s => h w₁ s.kept⟩
  | step gx wx ex ox hr h t ih => exact Way.of_step hr fun w₁ s => ⟨_, _, _, _, (h w₁ s.kept).1, (h w₁ s.kept).2.act, ih w₁ s.kept⟩
end
end
inductive Od.Sub : Od → Od → Prop
  | mk (f : World → Od) (w : World) : Od.Sub (f w) (.mk f)
theorem Od.wf : WellFounded Od.Sub := ⟨fun o => by
  induction o with
  | leaf => exact ⟨_, fun y h => by cases h⟩
  | mk f ih => exact ⟨_, fun y h => by cases h; exact ih _⟩⟩
def Falls (n : Nat) (F' F : Nat → Od) : Prop := ∃ i, i < n ∧ Od.Sub (F' i) (F i) ∧ ∀ j, j ≠ i → F' j = F j
theorem Falls.wf : ∀ n, WellFounded (Falls n)
  | 0 => ⟨fun F => ⟨_, fun F' h => by obtain ⟨i, hi, _⟩ := h; omega⟩⟩
  | n + 1 => ⟨fun F => by
    have key : ∀ o, ∀ F : Nat → Od, F n = o → Acc (Falls (n + 1)) F := by
      intro o
      induction o using Od.wf.induction with
      | _ o ih =>
        intro F
        induction F using (Falls.wf n).induction with
        | _ F ih2 =>
          intro hF
          refine ⟨_, fun F' h => ?_⟩
          obtain ⟨i, hi, hs, hj⟩ := h
          rcases Nat.lt_or_ge i n with hlt | hge
          · exact ih2 F' ⟨i, hlt, hs, hj⟩ (by rw [hj n (by omega)]; exact hF)
          · obtain rfl : i = n := by omega
            exact ih (F' i) (hF ▸ hs) F' rfl
    exact key _ F rfl⟩
def Lt3 (n : Nat) : Nat × (Nat → Od) × Nat → Nat × (Nat → Od) × Nat → Prop := Prod.Lex (· < ·) (Prod.Lex (Falls n) (· < ·))
theorem Lt3.wf (n : Nat) : WellFounded (Lt3 n) := (Prod.lex Nat.lt_wfRel ⟨_, (Prod.lex ⟨_, Falls.wf n⟩ Nat.lt_wfRel).wf⟩).wf
def Low (B : Nat) (t : Trace) : Prop := ∀ i a, touchAt t i = some a → a.loc.low B
theorem Low.mono {B B' : Nat} {t : Trace} (h : Low B t) (hB : B ≤ B') : Low B' t := fun i a e => Loc.low_mono hB (h i a e)
theorem Low.app {B : Nat} {t u : Trace} (h : Low B t) (hu : ∀ op ∈ u, ∀ x, op.act.touch? = some x → x.loc.low B) : Low B (t ++ u) := by
  intro i a e
  obtain ⟨x, hx, hxa⟩ := touch_of e
  rcases getElem?_append_cases hx with ⟨_, hx'⟩ | ⟨_, hxu⟩
  · exact h i a (by rw [touchAt_of hx']; exact hxa)
  · exact hu x hxu a hxa
section
variable {Sh : Loc → Prop} {Own Own' Rd Rd' : Nat → Loc → Prop} {t : Trace} {j : Nat}
theorem CT.grow (h : CT Sh Own Rd t j) (ho : ∀ k, 1 ≤ k → k ≤ j → ∀ l, Own k l → Own' k l) (hn : ∀ k, 1 ≤ k → k ≤ j → ∀ l, Own' k l → Own k l ∨ ∀ i a, touchAt t i = some a → a.loc ≠ l)
    (hr : ∀ k, 1 ≤ k → k ≤ j → ∀ l, Rd' k l ↔ Rd k l) : CT Sh Own' Rd' t j :=
  ⟨h.quiet, fun k k1 kj l hl => (hn k k1 kj l hl).elim (h.own k k1 kj l) fun q i a ha e => absurd e (q i a ha), fun k k1 kj l hl => h.rd k k1 kj l ((hr k k1 kj l).1 hl),
    fun l hs hl => h.free l hs fun k k1 kj => ⟨fun o => (hl k k1 kj).1 (ho k k1 kj l o), fun r => (hl k k1 kj).2 ((hr k k1 kj l).2 r)⟩, fun l hs hl => h.mine l hs fun k k1 kj o => hl k k1 kj (ho k k1 kj l o), h.nr, h.gs⟩
theorem CT.mute {u : Trace} (h : CT Sh Own Rd t j) (hu : ∀ op ∈ u, op.act.touch? = none) (hg : ∀ op ∈ u, op.g ≤ j) : CT Sh Own Rd (t ++ u) j := by
  refine ⟨h.quiet.app fun op hop x hx => (by rw [hu op hop] at hx; cases hx), fun k k1 kj l hl => (h.own k k1 kj l hl).app fun op hop b hb => (by rw [hu op hop] at hb; cases hb), fun k k1 kj l hl => (h.rd k k1 kj l hl).app fun op hop b hb => (by rw [hu op hop] at hb; cases hb),
    fun l hs hl => (h.free l hs hl).app fun op hop b hb => (by rw [hu op hop] at hb; cases hb), fun l hs hl => (h.mine l hs hl).app fun op hop b hb => (by rw [hu op hop] at hb; cases hb), fun said => ?_, fun i op hi => ?_⟩
  · rintro ⟨i, j', hij, ⟨a, b, ha, hb, hc⟩, n1, n2⟩
    obtain ⟨x, hx, hxa⟩ := touch_of ha
    obtain ⟨y, hy, hyb⟩ := touch_of hb
    rcases getElem?_append_cases hx with ⟨li, hx'⟩ | ⟨_, hxu⟩
    · rcases getElem?_append_cases hy with ⟨lj, hy'⟩ | ⟨_, hyu⟩
      · exact h.nr said ⟨i, j', hij, ⟨a, b, by rw [act?_of hx']; exact hxa, by rw [act?_of hy']; exact hyb, hc⟩, fun q => n1 (hb_app u q), fun q => n2 (hb_app u q)⟩
      · rw [hu y hyu] at hyb; cases hyb
    · rw [hu x hxu] at hxa; cases hxa
  · rcases getElem?_append_cases hi with ⟨_, hi'⟩ | ⟨_, hiu⟩
    · exact h.gs i op hi'
    · exact hg op hiu
end
structure Hold where
  sh : Nat → Prop
  ow : Nat → Prop
def Hold.no : Hold := ⟨fun _ => False, fun _ => False⟩
structure Blk (T : Nat → Hold) (Sp : Nat → Prop) (w : World) : Prop where
  ow_lt : ∀ i b, (T i).ow b → b < w.heap.size
  sh_lt : ∀ i b, (T i).sh b → b < w.heap.size
  sp_lt : ∀ b, Sp b → b < w.heap.size
  ow_ow : ∀ i j b, (T i).ow b → (T j).ow b → i = j
  ow_sh : ∀ i j b, (T i).ow b → ¬ (T j).sh b
  ow_sp : ∀ i b, (T i).ow b → ¬ Sp b
  sh_sp : ∀ i b, (T i).sh b → ¬ Sp b
structure Com (Sp Su : Nat → Prop) (Cx : Nat → Addr → Prop) : Prop where
  su : ∀ b, Su b → Sp b
  at_ : ∀ k a, Cx k a → Sp a.block ∧ ¬ Su a.block
  one : ∀ k k' a, Cx k a → Cx k' a → k = k'
def OwnT (T : Nat → Hold) (Cx : Nat → Addr → Prop) (k : Nat) (l : Loc) : Prop := ∃ a, l = .cell a ∧ ((T k).ow a.block ∨ Cx k a)
def RdT (T : Nat → Hold) (k : Nat) (l : Loc) : Prop := ∃ a, l = .cell a ∧ (T k).sh a.block
def ShT (Su : Nat → Prop) (l : Loc) : Prop := ∃ a, l = .cell a ∧ Su a.block
section
variable {T : Nat → Hold} {Sp Su : Nat → Prop} {Cx : Nat → Addr → Prop} {w w' : World}
theorem Blk.apart (hB : Blk T Sp w) (hC : Com Sp Su Cx) : Apart (ShT Su) (OwnT T Cx) (RdT T) := by
  refine ⟨?_, ?_, ?_, ?_⟩
  · rintro k k' l ⟨a, rfl, h | h⟩ ⟨a', e, h' | h'⟩ <;> cases e
    · exact hB.ow_ow k k' _ h h'
    · exact absurd (hC.at_ k' a h').1 (hB.ow_sp k _ h)
    · exact absurd (hC.at_ k a h).1 (hB.ow_sp k' _ h')
    · exact hC.one k k' a h h'
  · rintro k k' l ⟨a, rfl, h | h⟩ ⟨a', e, h'⟩ <;> cases e
    · exact hB.ow_sh k k' _ h h'
    · exact hB.sh_sp k' _ h' (hC.at_ k a h).1
  · rintro k l ⟨a, rfl, h | h⟩ ⟨a', e, h'⟩ <;> cases e
    · exact hB.ow_sp k _ h (hC.su _ h')
    · exact (hC.at_ k a h).2 h'
  · rintro k l ⟨a, rfl, h⟩ ⟨a', e, h'⟩
    cases e
    exact hB.sh_sp k _ h (hC.su _ h')
theorem Blk.heap (hB : Blk T Sp w) (h : w'.heap.size = w.heap.size) : Blk T Sp w' :=
  ⟨fun i b x => h ▸ hB.ow_lt i b x, fun i b x => h ▸ hB.sh_lt i b x, fun b x => h ▸ hB.sp_lt b x, hB.ow_ow, hB.ow_sh, hB.ow_sp, hB.sh_sp⟩
end
section
variable [Payload] {T : Nat → Hold} {Sp Su : Nat → Prop} {Cx : Nat → Addr → Prop} {w w' : World} {Wg i : Nat} {X : Option (Nat × Nat)} {es : Array Event} {Ow' : Nat → Prop}
def grown (T : Nat → Hold) (i : Nat) (Ow' : Nat → Prop) : Nat → Hold := upd T i ⟨(T i).sh, Ow'⟩
omit [Payload] in
theorem grown_sh (T : Nat → Hold) (i : Nat) (Ow' : Nat → Prop) (k : Nat) : (grown T i Ow' k).sh = (T k).sh := by
  unfold grown upd
  split
  · rename_i h; rw [h]
  · rfl
omit [Payload] in
theorem grown_ow (T : Nat → Hold) (i : Nat) (Ow' : Nat → Prop) (k : Nat) : (grown T i Ow' k).ow = if k = i then Ow' else (T k).ow := by
  unfold grown upd
  split <;> rfl
theorem Blk.act (hB : Blk T Sp w) (ha : Act1 Wg i X (T i).sh (T i).ow w w' es Ow') : Blk (grown T i Ow') Sp w' := by
  have key : ∀ k b, (grown T i Ow' k).ow b → (T k).ow b ∨ (k = i ∧ w.heap.size ≤ b ∧ b < w'.heap.size) := fun k b h => by
    rw [grown_ow] at h
    split at h
    · rename_i e
      subst e
      exact (ha.new b h).imp id fun q => ⟨rfl, q⟩
    · exact .inl h
  refine ⟨fun k b h => ?_, fun k b h => ?_, fun b h => Nat.lt_of_lt_of_le (hB.sp_lt b h) ha.size, fun k k' b h h' => ?_, fun k k' b h h' => ?_, fun k b h h' => ?_, fun k b h h' => ?_⟩
  · rcases key k b h with h | ⟨_, _, h⟩
    · exact Nat.lt_of_lt_of_le (hB.ow_lt k b h) ha.size
    · exact h
  · rw [grown_sh] at h
    exact Nat.lt_of_lt_of_le (hB.sh_lt k b h) ha.size
  · rcases key k b h with q | ⟨e, q, _⟩ <;> rcases key k' b h' with q' | ⟨e', q', _⟩
    · exact hB.ow_ow k k' b q q'
    · have := hB.ow_lt k b q; omega
    · have := hB.ow_lt k' b q'; omega
    · rw [e, e']
  · rw [grown_sh] at h'
    rcases key k b h with h | ⟨rfl, h, _⟩
    · exact hB.ow_sh k k' b h h'
    · have := hB.sh_lt k' b h'; omega
  · rcases key k b h with h | ⟨rfl, h, _⟩
    · exact hB.ow_sp k b h h'
    · have := hB.sp_lt b h'; omega
  · rw [grown_sh] at h
    exact hB.sh_sp k b h h'
theorem Blk.others (hB : Blk T Sp w) (ha : Act1 Wg i X (T i).sh (T i).ow w w' es Ow') (hX : ∀ c x, X = some (c, x) → Sp c) {k : Nat} (hk : k ≠ i) : Kept (T k).sh (T k).ow w w' := by
  refine ⟨ha.tape, ha.size, fun b h => ?_⟩
  have hb : b < w.heap.size := h.elim (hB.sh_lt k b) (hB.ow_lt k b)
  refine ha.block b hb (fun ho => ?_) fun x e => ?_
  · rcases h with h | h
    · exact hB.ow_sh i k b ho h
    · exact hk (hB.ow_ow k i b h ho)
  · rcases h with h | h
    · exact hB.sh_sp k b h (hX b x e)
    · exact hB.ow_sp k b h (hX b x e)
theorem Blk.common (hB : Blk T Sp w) (ha : Act1 Wg i X (T i).sh (T i).ow w w' es Ow') {b : Nat} (hb : Sp b) (hX : ∀ x, X ≠ some (b, x)) : w'.heap[b]? = w.heap[b]? :=
  ha.block b (hB.sp_lt b hb) (fun ho => hB.ow_sp i b ho hb) hX
omit [Payload] in
theorem cell_touch {e : Event} {a : Addr} (h : e.loc = .cell a) (hs : e.sync = false) {x : Touch} (hx : (MemAct.ofEvent e).touch? = some x) : x = ⟨.cell a, e.write, .plain⟩ := by
  obtain ⟨loc, wr, sy⟩ := e
  simp only at h hs
  subst h hs
  cases wr <;> simp [MemAct.ofEvent, MemAct.touch?] at hx <;> exact hx.symm
theorem Blk.trace (hB : Blk T Sp w) (hC : Com Sp Su Cx) (hWg : Su Wg) (ha : Act1 Wg i X (T i).sh (T i).ow w w' es Ow') {t : Trace} {j : Nat} (hCT : CT (ShT Su) (OwnT T Cx) (RdT T) t j) (hl : Low w.heap.size t) (hi : i ≤ j) (fn : FuncId) (pos : String) :
    CT (ShT Su) (OwnT (grown T i Ow') Cx) (RdT (grown T i Ow')) (t ++ MemOp.ofEvents i fn pos es) j ∧ Low w'.heap.size (t ++ MemOp.ofEvents i fn pos es) := by
  have hB' := hB.act ha
  have hA := hB'.apart hC
  have g1 : CT (ShT Su) (OwnT (grown T i Ow') Cx) (RdT (grown T i Ow')) t j := by
    refine CT.grow hCT (fun k _ _ l h => ?_) (fun k _ _ l h => ?_) (fun k _ _ l => ?_)
    · obtain ⟨a, rfl, h⟩ := h
      refine ⟨a, rfl, h.imp (fun q => ?_) id⟩
      rw [grown_ow]
      split
      · rename_i e
        subst e
        exact ha.old _ q
      · exact q
    · obtain ⟨a, rfl, h | h⟩ := h
      · rw [grown_ow] at h
        split at h
        · rename_i e
          subst e
          rcases ha.new _ h with q | ⟨q, _⟩
          · exact .inl ⟨a, rfl, .inl q⟩
          · refine .inr fun x y hy e => ?_
            have := hl x y hy
            rw [e] at this
            exact absurd this (by simp only [Loc.low]; omega)
        · exact .inl ⟨a, rfl, .inl h⟩
      · exact .inl ⟨a, rfl, .inr h⟩
    · unfold RdT
      rw [grown_sh]
  have own' : (grown T i Ow' i).ow = Ow' := by rw [grown_ow, if_pos rfl]
  have shi : (grown T i Ow' i).sh = (T i).sh := grown_sh T i Ow' i
  constructor
  · rcases Nat.eq_zero_or_pos i with h0 | h1
    · subst h0
      refine CT.app0 hA g1 fun op hop => ?_
      obtain ⟨e, he, rfl⟩ := Go.Conc.mem_ofEvents hop
      refine ⟨rfl, fun x hx => ?_⟩
      rcases ha.ev e he with ⟨a, e1, e2, h⟩ | rfl | h
      · obtain rfl := cell_touch e1 e2 hx
        refine .inr ?_
        rcases h with h | ⟨h, hw⟩
        · have hO : OwnT (grown T 0 Ow') Cx 0 (.cell a) := ⟨a, rfl, .inl (by rw [own']; exact h)⟩
          exact ⟨hA.ownSh 0 _ hO, fun k k1 _ hk => by have := hA.own k 0 _ hk hO; omega, fun _ k _ _ hk => hA.ownRd 0 k _ hO hk⟩
        · have hR : RdT (grown T 0 Ow') 0 (.cell a) := ⟨a, rfl, by rw [shi]; exact h⟩
          exact ⟨hA.rdSh 0 _ hR, fun k k1 _ hk => hA.ownRd k 0 _ hk hR, fun q => by rw [hw] at q; cases q⟩
      · simp [MemAct.ofEvent, MemAct.touch?] at hx
      · obtain ⟨⟨a, e1, e2⟩, h2, _⟩ := h.at_ x hx
        exact .inl ⟨⟨a, e1, e2 ▸ hWg⟩, h2⟩
    · refine CT.appW hA g1 h1 hi fun op hop => ?_
      obtain ⟨e, he, rfl⟩ := Go.Conc.mem_ofEvents hop
      refine ⟨rfl, fun x hx => ?_⟩
      rcases ha.ev e he with ⟨a, e1, e2, h⟩ | rfl | h
      · obtain rfl := cell_touch e1 e2 hx
        refine .inr ?_
        rcases h with h | ⟨h, hw⟩
        · exact .inl ⟨a, rfl, .inl (by rw [own']; exact h)⟩
        · exact .inr ⟨⟨a, rfl, by rw [shi]; exact h⟩, hw⟩
      · simp [MemAct.ofEvent, MemAct.touch?] at hx
      · obtain ⟨⟨a, e1, e2⟩, h2, h3⟩ := h.at_ x hx
        exact .inl ⟨⟨a, e1, e2 ▸ hWg⟩, h2, fun q => by have := h3 q; omega⟩
  · refine (hl.mono ha.size).app fun op hop x hx => ?_
    obtain ⟨e, he, rfl⟩ := Go.Conc.mem_ofEvents hop
    rcases ha.ev e he with ⟨a, e1, e2, h⟩ | rfl | h
    · obtain rfl := cell_touch e1 e2 hx
      rcases h with h | ⟨h, _⟩
      · exact hB'.ow_lt i _ (by rw [own']; exact h)
      · exact hB'.sh_lt i _ (by rw [shi]; exact h)
    · simp [MemAct.ofEvent, MemAct.touch?] at hx
    · obtain ⟨⟨a, e1, e2⟩, _, _⟩ := h.at_ x hx
      rw [e1]
      simp only [Loc.low, e2]
      exact hB'.sp_lt _ (hC.su _ hWg)
theorem Act1.deaf {Sh Ow : Nat → Prop} (ha : Act1 Wg i X Sh Ow w w' es Ow') (t : Trace) (fn : FuncId) (pos : String) (k : Nat) : Deaf (t ++ MemOp.ofEvents i fn pos es) k = Deaf t k := by
  by_cases hk : i = k
  · subst hk
    rw [Deaf_own]
    refine deafBehind_still (fun e he => ?_) _
    rcases ha.ev e he with ⟨a, e1, _, _⟩ | rfl | h
    · rw [e1]; exact ⟨by simp, by simp⟩
    · simp
    · exact ⟨h.dis, h.ena⟩
  · exact Deaf_other t hk _ fun op hop => by obtain ⟨e, _, rfl⟩ := Go.Conc.mem_ofEvents hop; rfl
theorem Act1.norel {Sh Ow : Nat → Prop} (ha : Act1 Wg i X Sh Ow w w' es Ow') (a : Addr) (fn : FuncId) (pos : String) : ∀ op ∈ MemOp.ofEvents i fn pos es, op.act ≠ .mark (.release a) := by
  intro op hop e
  obtain ⟨x, hx, rfl⟩ := Go.Conc.mem_ofEvents hop
  have hl := Go.ConcR.loc_of_ofEvent e
  rcases ha.ev x hx with ⟨b, e1, _, _⟩ | rfl | h
  · rw [e1] at hl; cases hl
  · cases hl
  · exact h.rel a hl
end
end Go.Proofs.YtckoipoejaafhaaDoor.Cc

namespace Go.Proofs.YtckoipoejaafhaaDoor.Cc
open Go Go.Conc
open Go.ConcN (RW DWs WgLive PayAt AtR0)
open Go.ConcR (Payload KK WgAt stA smA rd wr mk)
abbrev Stp := (Nat → Prop) → Goroutine → World → Prop
section
variable [Payload] (P : Program) (ty : TypeId) (Wg C n : Nat)
def yes : World → Prop := fun _ => True
def no2 : Nat → Loc → Prop := fun _ _ => False
section
variable (i k c : Nat) (z : Value) (Sh : Nat → Prop) (Tl : Value → (Nat → Prop) → World → Prop)
def WStore : Stp := fun Ow g w => g.status = .running ∧ ∃ val, Tl val Ow w ∧ (PayAt C n w → WgLive ty Wg w → ∃ g', stepG P false g w = .go g' (w.setCell ⟨C, k, none⟩ val) #[⟨.cell ⟨C, k, none⟩, true, false⟩] ∧
  ∃ m, Goes P false (RW ty Wg C n 0 k) (DWs Wg no2 no2 C n (k + 1)) (AtR0 P ty Wg C n 0 (k + 1) val) m g' (w.setCell ⟨C, k, none⟩ val))
def WRecv : List Value → Stp
  | v :: vs => fun Ow g w => g.status = .running ∧ ∃ g₂, g₂.offers = none ∧ (∀ w', stepG P false g w' = .comm g₂ #[rcase c z] true (.recv true) w' #[]) ∧ (∀ w', stepG P false g₂ w' = .comm g₂ #[rcase c z] true (.recv true) w' #[]) ∧
      ∃ o, Way P false Wg i none yes Sh (WRecv vs) o Ow (Go.Conc.served g₂ (recvd true v true)) w
  | [] => fun Ow g w => g.status = .running ∧ ∃ g₂, g₂.offers = none ∧ (∀ w', stepG P false g w' = .comm g₂ #[rcase c z] true (.recv true) w' #[]) ∧ (∀ w', stepG P false g₂ w' = .comm g₂ #[rcase c z] true (.recv true) w' #[]) ∧
      ∃ o, Way P false Wg i none yes Sh (WStore P ty Wg C n k Tl) o Ow (Go.Conc.served g₂ (recvd true z false)) w
def WNext : List Value → Goroutine → Stp
  | v :: vs => fun g₂ Ow _ w => ∃ o, Way P false Wg i none yes Sh (WRecv P ty Wg C n i k c z Sh Tl vs) o Ow (Go.Conc.served g₂ (recvd true v true)) w
  | [] => fun g₂ Ow _ w => ∃ o, Way P false Wg i none yes Sh (WStore P ty Wg C n k Tl) o Ow (Go.Conc.served g₂ (recvd true z false)) w
theorem WRecv.next {vs : List Value} {Ow : Nat → Prop} {g : Goroutine} {w : World} (h : WRecv P ty Wg C n i k c z Sh Tl vs Ow g w) :
    g.status = .running ∧ ∃ g₂, g₂.offers = none ∧ (∀ w', stepG P false g w' = .comm g₂ #[rcase c z] true (.recv true) w' #[]) ∧ (∀ w', stepG P false g₂ w' = .comm g₂ #[rcase c z] true (.recv true) w' #[]) ∧ WNext P ty Wg C n i k c z Sh Tl vs g₂ Ow g w := by
  cases vs with
  | nil => exact h
  | cons v vs => exact h
theorem WRecv.of_next {vs : List Value} {Ow : Nat → Prop} {g : Goroutine} {w : World} (h : g.status = .running ∧ ∃ g₂, g₂.offers = none ∧ (∀ w', stepG P false g w' = .comm g₂ #[rcase c z] true (.recv true) w' #[]) ∧ (∀ w', stepG P false g₂ w' = .comm g₂ #[rcase c z] true (.recv true) w' #[]) ∧ WNext P ty Wg C n i k c z Sh Tl vs g₂ Ow g w) :
    WRecv P ty Wg C n i k c z Sh Tl vs Ow g w := by
  cases vs with
  | nil => exact h
  | cons v vs => exact h
end
def I0 : World → Prop := WgLive ty Wg
structure RM (Sh Ow : Nat → Prop) (w w₁ : World) : Prop where
  kept : Kept Sh Ow w w₁
  live : WgLive ty Wg w → WgLive ty Wg w₁
structure DMs (w w' : World) (es : Array Event) : Prop where
  eq : w' = w
  ev : ∀ e ∈ es, EvS Wg 0 e
def Gm (Sh Ow : Nat → Prop) (St : Goroutine → World → Prop) (m : Nat) (g : Goroutine) (w : World) : Prop := Goes P true (RM ty Wg Sh Ow) (DMs Wg) St m g w
section
variable (Sh Ow : Nat → Prop) (gA gK : Goroutine → Prop)
def MAcq (g : Goroutine) (w : World) : Prop := g.status = .running ∧ ∃ g', stepG P true g w = .go g' w #[mk (.acquire (stA Wg))] ∧ gK g'
def MKe (g : Goroutine) (w : World) : Prop := g.status = .running ∧ ∃ g', stepG P true g w = .go g' w #[mk .enable] ∧ ∃ m, Gm P ty Wg Sh Ow (MAcq P Wg gK) m g' w
def MW4 (g : Goroutine) (w : World) : Prop := g.status = .running ∧ (WgAt ty Wg w 0 0 → ∃ g', stepG P true g w = .go g' w #[rd (stA Wg)] ∧ ∃ m, Gm P ty Wg Sh Ow (MKe P ty Wg Sh Ow gK) m g' w)
def MW3 (g : Goroutine) (w : World) : Prop := g.status = .running ∧ g.offers = none ∧ ((∃ st, WgAt ty Wg w st 0) → stepG P true g w = .go { g with status := .blocked } w #[]) ∧
  (WgAt ty Wg w 0 1 → ∃ g', stepG P true g w = .go g' (w.setCell (smA Wg) (.int .u32 0)) (semEvents (smA Wg)) ∧ ∃ m, Gm P ty Wg Sh Ow (MW4 P ty Wg Sh Ow gK) m g' (w.setCell (smA Wg) (.int .u32 0)))
def MW2 (vs : Nat) (g : Goroutine) (w : World) : Prop := g.status = .running ∧ ∀ v : Nat, v < 2147483648 → WgAt ty Wg w (v * KK) 0 →
  (v = vs → ∃ g', stepG P true g w = .go g' (w.setCell (stA Wg) (.int .u64 (v * KK + 1))) #[rd (stA Wg), wr (stA Wg)] ∧ ∃ m, Gm P ty Wg Sh Ow (MW3 P ty Wg Sh Ow gK) m g' (w.setCell (stA Wg) (.int .u64 (v * KK + 1)))) ∧
  (v ≠ vs → ∃ g', stepG P true g w = .go g' w #[rd (stA Wg)] ∧ ∃ m, Gm P ty Wg Sh Ow (fun g _ => gA g) m g' w)
def MW1 (g : Goroutine) (w : World) : Prop := g.status = .running ∧ ∀ v : Nat, v < 2147483648 → WgAt ty Wg w (v * KK) 0 → ∃ g', stepG P true g w = .go g' w #[rd (stA Wg)] ∧
  (v = 0 → ∃ m, Gm P ty Wg Sh Ow (MKe P ty Wg Sh Ow gK) m g' w) ∧ (v ≠ 0 → ∃ m, Gm P ty Wg Sh Ow (MW2 P ty Wg Sh Ow gA gK v) m g' w)
end
section
variable (Sh : Nat → Prop) (gA : Goroutine → Prop) (Fx : (Nat → Prop) → (Nat → Prop) → World → Prop)
def MKd : Stp := fun Ow g w => g.status = .running ∧ Fx Sh Ow w ∧ ∃ g', stepG P true g w = .go g' w #[mk .disable] ∧ ∃ m, Gm P ty Wg Sh Ow (fun g _ => gA g) m g' w
def MClose : List Nat → Stp
  | c :: cs => fun Ow g w => g.status = .running ∧ mayWake P g = true ∧ ∀ cap buf s r tm, w.heap[c]? = some (.chan cap buf false s r tm) → ∃ g', g'.status = .running ∧ stepG P true g w = .go g' (w.setChan c cap buf true s r tm) #[⟨.obj c, false, true⟩, ⟨.obj c, true, true⟩] ∧
      ∃ o, Way P true Wg 0 none (I0 ty Wg) Sh (MClose cs) o Ow g' w
  | [] => MKd P ty Wg Sh gA Fx
def MSend (cs : List Nat) : List (Nat × Value) → Stp
  | (k, v) :: l => fun Ow g w => g.status = .running ∧ ∃ c z g₂, cs[k]? = some c ∧ (∀ w', stepG P true g w' = .comm g₂ #[scase c v z] true .send w' #[]) ∧ ∃ o, Way P true Wg 0 none (I0 ty Wg) Sh (MSend cs l) o Ow (Go.Conc.served g₂ undef) w
  | [] => MClose P ty Wg Sh gA Fx cs
end
section
variable (gA : Goroutine → Prop) (Fx : (Nat → Prop) → (Nat → Prop) → World → Prop) (q cap : Nat) (z : Value) (Tl : Nat → Value → (Nat → Prop) → (Nat → Prop) → World → Prop) (dl : Nat → List Value)
def MGo (next : (Nat → Prop) → List Nat → Stp) (Sh : Nat → Prop) (cs : List Nat) : Stp := fun Ow g w => g.status = .running ∧ ∃ (g' child : Goroutine) (c : Nat) (Mv ShC : Nat → Prop), stepG P true g w = .spawn g' child w #[] ∧ child.status = .running ∧
  w.heap[c]? = some (.chan cap #[] false 0 0 false) ∧ Ow c ∧ ¬ Mv c ∧ (∀ b, Mv b → Ow b) ∧ (∀ b, ShC b → Sh b ∨ Mv b) ∧
  (∃ o, Way P false Wg (q + 1 + cs.length) none yes ShC (WRecv P ty Wg C n (q + 1 + cs.length) cs.length c z ShC (fun v => Tl cs.length v ShC) (dl cs.length)) o (fun _ => False) child w) ∧
  ∃ o, Way P true Wg 0 none (I0 ty Wg) (fun b => Sh b ∨ Mv b) (next (fun b => Sh b ∨ Mv b) (cs ++ [c])) o (fun b => Ow b ∧ ¬ Mv b ∧ b ≠ c) g' w
def MKeS (next : (Nat → Prop) → List Nat → Stp) (Sh : Nat → Prop) (cs : List Nat) (Ow : Nat → Prop) (g : Goroutine) (w : World) : Prop := g.status = .running ∧ ∃ g', stepG P true g w = .go g' w #[mk .enable] ∧ ∃ o, Way P true Wg 0 none (I0 ty Wg) Sh (MGo P ty Wg C n q cap z Tl dl next Sh cs) o Ow g' w
def MA1 (next : (Nat → Prop) → List Nat → Stp) (Sh : Nat → Prop) (cs : List Nat) (Ow : Nat → Prop) (g : Goroutine) (w : World) : Prop := g.status = .running ∧ ∀ v : Nat, v < 2147483647 → WgAt ty Wg w (v * KK) 0 →
  ∃ g', stepG P true g w = .go g' (w.setCell (stA Wg) (.int .u64 ((v + 1) * KK))) #[rd (stA Wg), wr (stA Wg)] ∧ ∃ m, Gm P ty Wg Sh Ow (MKeS P ty Wg C n q cap z Tl dl next Sh cs Ow) m g' (w.setCell (stA Wg) (.int .u64 ((v + 1) * KK)))
def MKdS (next : (Nat → Prop) → List Nat → Stp) (Sh : Nat → Prop) (cs : List Nat) : Stp := fun Ow g w => g.status = .running ∧ ∃ g', stepG P true g w = .go g' w #[mk .disable] ∧ ∃ m, Gm P ty Wg Sh Ow (MA1 P ty Wg C n q cap z Tl dl next Sh cs Ow) m g' w
def MSpawn (l : List (Nat × Value)) : Nat → (Nat → Prop) → List Nat → Stp
  | 0 => fun Sh cs => MSend P ty Wg Sh gA Fx cs l
  | r + 1 => fun Sh cs => MKdS P ty Wg C n q cap z Tl dl (MSpawn l r) Sh cs
end
end
end Go.Proofs.YtckoipoejaafhaaDoor.Cc
