/-
  Two worlds that part in the numbers of their blocks: values, addresses, and what is done to them, related by a renaming; a piece of the model's semantics that is related to another one does in the one world what the other one does in the other. (For goroutines that make memory beside each other: what one of them does is what it does alone, renamed.)
-/
import Derived.Conc.Company
namespace Go.Proofs.YtckoipoejaafhaaDoor.Cc
open Go
abbrev Ren := Nat → Option Nat
def RLe (ρ σ : Ren) : Prop := ∀ b b', ρ b = some b' → σ b = some b'
theorem RLe.refl (ρ : Ren) : RLe ρ ρ := fun _ _ h => h
theorem RLe.trans {ρ σ τ : Ren} (h : RLe ρ σ) (k : RLe σ τ) : RLe ρ τ := fun b b' q => k b b' (h b b' q)
inductive VR (F : FuncId → Prop) (ρ : Ren) : Value → Value → Prop
  | bool (b : Bool) : VR F ρ (.bool b) (.bool b)
  | int (k : IntKind) (n : Int) : VR F ρ (.int k n) (.int k n)
  | slc0 (l c : Nat) : VR F ρ (.slice none l c) (.slice none l c)
  | slc {b b' : Nat} (o : Nat) (s : Option Nat) (l c : Nat) (h : ρ b = some b') : VR F ρ (.slice (some ⟨b, o, s⟩) l c) (.slice (some ⟨b', o, s⟩) l c)
  | fn {f : FuncId} (h : F f) : VR F ρ (.func (.func f) #[] #[]) (.func (.func f) #[] #[])
  | agg {xs ys : Array Value} (hs : ys.size = xs.size) (h : ∀ (i : Nat) (h1 : i < xs.size) (h2 : i < ys.size), VR F ρ xs[i] ys[i]) : VR F ρ (.agg xs) (.agg ys)
  | tuple {xs ys : Array Value} (hs : ys.size = xs.size) (h : ∀ (i : Nat) (h1 : i < xs.size) (h2 : i < ys.size), VR F ρ xs[i] ys[i]) : VR F ρ (.tuple xs) (.tuple ys)
  | poi (v : Value) (h : v.cells = #[v]) (hb : ∀ b, v ≠ .bool b) : VR F ρ undef v
theorem VR.mono {F : FuncId → Prop} {ρ σ : Ren} {v v' : Value} (h : VR F ρ v v') (le : RLe ρ σ) : VR F σ v v' := by
  induction h with
  | bool b => exact .bool b
  | int k n => exact .int k n
  | slc0 l c => exact .slc0 l c
  | slc o s l c h => exact .slc o s l c (le _ _ h)
  | fn h => exact .fn h
  | agg hs _ ih => exact .agg hs ih
  | tuple hs _ ih => exact .tuple hs ih
  | poi v h hb => exact .poi v h hb
structure A2 (R : Value → Value → Prop) (xs ys : Array Value) : Prop where
  size : ys.size = xs.size
  at_ : ∀ (i : Nat) (a : Value), xs[i]? = some a → ∃ a', ys[i]? = some a' ∧ R a a'
theorem A2.mono {R S : Value → Value → Prop} {xs ys : Array Value} (h : A2 R xs ys) (k : ∀ a b, R a b → S a b) : A2 S xs ys :=
  ⟨h.size, fun i a e => by obtain ⟨a', e', r⟩ := h.at_ i a e; exact ⟨a', e', k _ _ r⟩⟩
theorem A2.nil (R : Value → Value → Prop) : A2 R #[] #[] := ⟨rfl, fun i a e => by simp at e⟩
theorem A2.one {R : Value → Value → Prop} {a b : Value} (h : R a b) : A2 R #[a] #[b] := ⟨rfl, fun i x e => by
  cases i with
  | zero => simp at e; subst e; exact ⟨b, rfl, h⟩
  | succ i => simp at e⟩
theorem A2.push {R : Value → Value → Prop} {xs ys : Array Value} {a b : Value} (h : A2 R xs ys) (k : R a b) : A2 R (xs.push a) (ys.push b) := by
  refine ⟨by simp [h.size], fun i x e => ?_⟩
  rw [Array.getElem?_push] at e ⊢
  rw [h.size]
  split at e
  · rename_i hi
    rw [if_pos hi]
    cases e
    exact ⟨b, rfl, k⟩
  · rename_i hi
    rw [if_neg hi]
    exact h.at_ i x e
theorem A2.set {R : Value → Value → Prop} {xs ys : Array Value} {a b : Value} (h : A2 R xs ys) (i : Nat) (k : R a b) : A2 R (xs.setIfInBounds i a) (ys.setIfInBounds i b) := by
  refine ⟨by simp [h.size], fun j x e => ?_⟩
  rw [Array.getElem?_setIfInBounds] at e ⊢
  rw [h.size]
  split at e
  · rename_i hj
    rw [if_pos hj]
    split at e
    · rename_i hl
      rw [if_pos hl]
      cases e
      exact ⟨b, rfl, k⟩
    · cases e
  · rename_i hj
    rw [if_neg hj]
    exact h.at_ j x e
theorem A2.getD {R : Value → Value → Prop} {xs ys : Array Value} (h : A2 R xs ys) (i : Nat) {d : Value} (hd : R d d) : R (xs.getD i d) (ys.getD i d) := by
  rw [Array.getD_eq_getD_getElem?, Array.getD_eq_getD_getElem?]
  cases e : xs[i]? with
  | none =>
    have : ys[i]? = none := by
      rw [Array.getElem?_eq_none_iff] at e ⊢
      rw [h.size]; exact e
    rw [this]; exact hd
  | some a =>
    obtain ⟨a', e', r⟩ := h.at_ i a e
    rw [e']; exact r
theorem A2.none {R : Value → Value → Prop} {xs ys : Array Value} (h : A2 R xs ys) {i : Nat} (e : xs[i]? = none) : ys[i]? = none := by
  rw [Array.getElem?_eq_none_iff] at e ⊢
  rw [h.size]; exact e
theorem A2.append {R : Value → Value → Prop} {xs ys xs' ys' : Array Value} (h : A2 R xs ys) (k : A2 R xs' ys') : A2 R (xs ++ xs') (ys ++ ys') := by
  refine ⟨by simp [h.size, k.size], fun i x e => ?_⟩
  rw [Array.getElem?_append] at e ⊢
  rw [h.size]
  split at e
  · rename_i hi
    rw [if_pos hi]
    exact h.at_ i x e
  · rename_i hi
    rw [if_neg hi]
    exact k.at_ _ x e
theorem A2.replicate {R : Value → Value → Prop} (n : Nat) {d : Value} (hd : R d d) : A2 R (Array.replicate n d) (Array.replicate n d) :=
  ⟨rfl, fun i x e => by
    have := Array.getElem?_eq_some_iff.1 e
    obtain ⟨hi, rfl⟩ := this
    exact ⟨_, e, by simpa using hd⟩⟩
theorem A2.map {ι : Type} {R : Value → Value → Prop} (l : Array ι) {f g : ι → Value} (h : ∀ x, x ∈ l → R (f x) (g x)) : A2 R (l.map f) (l.map g) := by
  refine ⟨by simp, fun i x e => ?_⟩
  rw [Array.getElem?_map] at e ⊢
  cases hx : l[i]? with
  | none => rw [hx] at e; cases e
  | some y =>
    rw [hx] at e
    simp only [Option.map_some, Option.some.injEq] at e ⊢
    subst e
    exact ⟨_, rfl, h y (Array.mem_of_getElem? hx)⟩
theorem A2.toList {R : Value → Value → Prop} {xs ys : Array Value} (h : A2 R xs ys) : ∃ n, xs.toList.length = n ∧ ys.toList.length = n ∧ ∀ (i : Nat) (a : Value), xs.toList[i]? = some a → ∃ a', ys.toList[i]? = some a' ∧ R a a' :=
  ⟨xs.size, by simp, by simp [h.size], fun i a e => by
    rw [Array.getElem?_toList] at e ⊢
    exact h.at_ i a e⟩
section
variable {F : FuncId → Prop} {ρ : Ren} {v v' : Value}
theorem A2.of {xs ys : Array Value} (hs : ys.size = xs.size) (h : ∀ (i : Nat) (h1 : i < xs.size) (h2 : i < ys.size), VR F ρ xs[i] ys[i]) : A2 (VR F ρ) xs ys :=
  ⟨hs, fun i a e => by
    obtain ⟨hi, rfl⟩ := Array.getElem?_eq_some_iff.1 e
    exact ⟨_, Array.getElem?_eq_getElem (by omega), h i hi (by omega)⟩⟩
theorem A2.to {xs ys : Array Value} (h : A2 (VR F ρ) xs ys) (i : Nat) (h1 : i < xs.size) (h2 : i < ys.size) : VR F ρ xs[i] ys[i] := by
  obtain ⟨a', e, r⟩ := h.at_ i _ (Array.getElem?_eq_getElem h1)
  rw [Array.getElem?_eq_getElem h2] at e
  cases e
  exact r
theorem VR.agg' {xs ys : Array Value} (h : A2 (VR F ρ) xs ys) : VR F ρ (.agg xs) (.agg ys) := .agg h.size h.to
theorem VR.tuple' {xs ys : Array Value} (h : A2 (VR F ρ) xs ys) : VR F ρ (.tuple xs) (.tuple ys) := .tuple h.size h.to
theorem VR.undef : VR F ρ undef undef := VR.tuple' (A2.nil _)
theorem VR.cells (h : VR F ρ v v') : A2 (VR F ρ) v.cells v'.cells := by
  cases h with
  | agg hs h => exact A2.of hs h
  | tuple hs h => exact A2.one (.tuple hs h)
  | bool b => exact A2.one (.bool b)
  | int k n => exact A2.one (.int k n)
  | slc0 l c => exact A2.one (.slc0 l c)
  | slc o s l c h => exact A2.one (.slc o s l c h)
  | fn h => exact A2.one (.fn h)
  | poi v h hb => rw [h]; exact A2.one (.poi v' h hb)
end
def AR (ρ : Ren) (a a' : Addr) : Prop := ρ a.block = some a'.block ∧ a'.off = a.off ∧ a'.spot = a.spot
theorem AR.mono {ρ σ : Ren} {a a' : Addr} (h : AR ρ a a') (le : RLe ρ σ) : AR σ a a' := ⟨le _ _ h.1, h.2⟩
theorem AR.add {ρ : Ren} {a a' : Addr} (h : AR ρ a a') (n : Nat) : AR ρ (a.add n) (a'.add n) := by
  unfold Addr.add
  split
  · exact h
  · exact ⟨h.1, by rw [h.2.1], rfl⟩
inductive VP (F : FuncId → Prop) (ρ : Ren) : Value → Value → Prop
  | val {v v' : Value} (h : VR F ρ v v') : VP F ρ v v'
  | ptr {a a' : Addr} (h : AR ρ a a') : VP F ρ (.pointer (some a)) (.pointer (some a'))
theorem VP.mono {F : FuncId → Prop} {ρ σ : Ren} {v v' : Value} (h : VP F ρ v v') (le : RLe ρ σ) : VP F σ v v' := by
  cases h with
  | val h => exact .val (h.mono le)
  | ptr h => exact .ptr (h.mono le)
theorem VR.slice {F : FuncId → Prop} {ρ : Ren} {a a' : Addr} (h : AR ρ a a') (l c : Nat) : VR F ρ (.slice (some a) l c) (.slice (some a') l c) := by
  obtain ⟨b, o, s⟩ := a
  obtain ⟨b', o', s'⟩ := a'
  obtain ⟨h1, h2, h3⟩ := h
  simp only at h1 h2 h3
  subst h2 h3
  exact .slc _ _ _ _ h1
def plainH : Halt → Prop
  | .panic _ => True
  | .stuck _ => True
  | .unsupported (.initOrder _) => False
  | .unsupported _ => True
  | _ => False
section
variable (P : Program) (F : FuncId → Prop)
def Never {α : Type} : Sem α → Prop
  | .halt h => plainH h
  | .program k => Never (k P)
  | .choose _ k => ∀ n, Never (k n)
  | .pure _ | .load _ _ _ | .store _ _ _ _ | .new _ _ | .mark _ _ | .shape _ _ | .freeze _ _ _ | .frozen _ _ | .getObj _ _ | .setObj _ _ _ | .sys _ _ => False
def SR {α : Type} (A : Ren → α → α → Prop) : Sem α → Ren → Sem α → Prop
  | .pure a, ρ, s' => ∃ a', s' = .pure a' ∧ A ρ a a'
  | .load m a k, ρ, s' => m = .plain ∧ ∃ a' k', s' = .load .plain a' k' ∧ AR ρ a a' ∧ ∀ v v', VR F ρ v v' → SR A (k v) ρ (k' v')
  | .store m a v k, ρ, s' => m = .plain ∧ ∃ a' v' k', s' = .store .plain a' v' k' ∧ AR ρ a a' ∧ VR F ρ v v' ∧ SR A k ρ k'
  | .new o k, ρ, s' => ∃ cs cs' e k', o = .cells cs e (0, 0) ∧ s' = .new (.cells cs' e (0, 0)) k' ∧ A2 (VR F ρ) cs cs' ∧ ∀ σ r r', RLe ρ σ → σ r = some r' → SR A (k r) σ (k' r')
  | .choose _ k, _, _ => ∀ n, Never P (k n)
  | .program k, ρ, s' => Never P (k P) ∨ ∃ k', s' = .program k' ∧ SR A (k P) ρ (k' P)
  | .mark m k, ρ, s' => m = .noRoom ∧ ∃ k', s' = .mark .noRoom k' ∧ SR A k ρ k'
  | .halt h, _, _ => plainH h
  | .shape _ _, _, _ | .freeze _ _ _, _, _ | .frozen _ _, _, _ | .getObj _ _, _, _ | .setObj _ _ _, _, _ | .sys _ _, _, _ => False
end
section
variable {P : Program} {F : FuncId → Prop} {α β : Type} {A : Ren → α → α → Prop} {C : Ren → β → β → Prop}
theorem Never.bind {f : α → Sem β} (s : Sem α) (h : Never P s) : Never P (s.bind f) := by
  induction s with
  | halt _ => exact h
  | program k ih => exact ih P h
  | choose q k ih => exact fun n => ih n (h n)
  | _ => exact h.elim
theorem SR.never (s : Sem α) {ρ : Ren} {s' : Sem α} (h : Never P s) : SR P F A s ρ s' := by
  cases s with
  | halt _ => exact h
  | program k => exact .inl h
  | choose q k => exact h
  | _ => exact h.elim
theorem SR.bind {f f' : α → Sem β} (s : Sem α) : ∀ {ρ : Ren} {s' : Sem α}, SR P F A s ρ s' → (∀ σ a a', RLe ρ σ → A σ a a' → SR P F C (f a) σ (f' a')) → SR P F C (s.bind f) ρ (s'.bind f') := by
  induction s with
  | pure a =>
    intro ρ s' h k
    obtain ⟨a', rfl, h⟩ := h
    exact k ρ a a' (RLe.refl ρ) h
  | load m a c ih =>
    intro ρ s' h k
    obtain ⟨rfl, a', c', rfl, ha, hc⟩ := h
    exact ⟨rfl, a', _, rfl, ha, fun v v' hv => ih v (hc v v' hv) k⟩
  | store m a v c ih =>
    intro ρ s' h k
    obtain ⟨rfl, a', v', c', rfl, ha, hv, hc⟩ := h
    exact ⟨rfl, a', v', _, rfl, ha, hv, ih hc k⟩
  | new o c ih =>
    intro ρ s' h k
    obtain ⟨cs, cs', e, c', rfl, rfl, hcs, hc⟩ := h
    exact ⟨cs, cs', e, _, rfl, rfl, hcs, fun σ r r' le hr => ih r (hc σ r r' le hr) fun τ a a' le' ha => k τ a a' (le.trans le') ha⟩
  | choose q c ih =>
    intro ρ s' h k
    exact fun n => Never.bind _ (h n)
  | program c ih =>
    intro ρ s' h k
    rcases h with h | ⟨c', rfl, hc⟩
    · exact .inl (Never.bind _ h)
    · exact .inr ⟨_, rfl, ih P hc k⟩
  | mark m c ih =>
    intro ρ s' h k
    obtain ⟨rfl, c', rfl, hc⟩ := h
    exact ⟨rfl, _, rfl, ih hc k⟩
  | halt h' => intro ρ s' h k; exact h
  | shape | freeze | frozen | getObj | setObj | sys => intro ρ s' h k; exact h.elim
theorem SR.pure {ρ : Ren} {a a' : α} (h : A ρ a a') : SR P F A (Pure.pure a) ρ (Pure.pure a') := ⟨a', rfl, h⟩
theorem SR.stuck {ρ : Ren} (m : String) (s' : Sem α) : SR P F A (Go.stuck m) ρ s' := trivial
end
structure WR (F : FuncId → Prop) (B : Nat) (ρ : Ren) (w w' : World) : Prop where
  inj : ∀ b c b', ρ b = some b' → ρ c = some b' → b = c
  old : ∀ b b', ρ b = some b' → b < B → ∃ cs cs' e fr fr', w.heap[b]? = some (.cells cs e fr) ∧ w'.heap[b']? = some (.cells cs' e fr') ∧ A2 (VR F ρ) cs cs' ∧ ∀ i, i < cs.size → fr.1 ≤ i ∧ i < fr.2
  own : ∀ b b', ρ b = some b' → B ≤ b → ∃ cs cs' e, w.heap[b]? = some (.cells cs e (0, 0)) ∧ w'.heap[b']? = some (.cells cs' e (0, 0)) ∧ A2 (VR F ρ) cs cs'
  size : B ≤ w.heap.size
def tp (w : World) (τ : Nat → Question → Nat) (d : Nat) : World := { w with tape := τ, drawn := d }
structure Kp (B : Nat) (ρ σ : Ren) (w w' : World) : Prop where
  tape : w'.tape = w.tape
  os : w'.os = w.os
  output : w'.output = w.output
  size : w.heap.size ≤ w'.heap.size
  block : ∀ b', b' < w.heap.size → (∀ b, B ≤ b → ρ b ≠ some b') → w'.heap[b']? = w.heap[b']?
  fresh : ∀ b b', σ b = some b' → ρ b = some b' ∨ (B ≤ b ∧ w.heap.size ≤ b' ∧ b' < w'.heap.size)
  le : RLe ρ σ
theorem Kp.refl (B : Nat) (ρ : Ren) (w : World) : Kp B ρ ρ w w := ⟨rfl, rfl, rfl, Nat.le_refl _, fun _ _ _ => rfl, fun _ _ h => .inl h, RLe.refl ρ⟩
theorem Kp.trans {B : Nat} {ρ σ τ : Ren} {a b c : World} (h : Kp B ρ σ a b) (k : Kp B σ τ b c) : Kp B ρ τ a c := by
  refine ⟨k.tape.trans h.tape, k.os.trans h.os, k.output.trans h.output, Nat.le_trans h.size k.size, fun b' hb hn => ?_, fun x x' hx => ?_, h.le.trans k.le⟩
  · rw [k.block b' (Nat.lt_of_lt_of_le hb h.size) fun x hx e => ?_, h.block b' hb hn]
    rcases h.fresh x b' e with q | ⟨_, q, _⟩
    · exact hn x hx q
    · omega
  · rcases k.fresh x x' hx with q | ⟨q1, q2, q3⟩
    · rcases h.fresh x x' q with r | ⟨r1, r2, r3⟩
      · exact .inl r
      · exact .inr ⟨r1, r2, Nat.lt_of_lt_of_le r3 k.size⟩
    · exact .inr ⟨q1, Nat.le_trans h.size q2, q3⟩
def EvK (B : Nat) (σ : Ren) (e : Event) : Prop :=
  (∃ b a, σ b = some a.block ∧ e.loc = .cell a ∧ e.sync = false ∧ (e.write = true → B ≤ b)) ∨ e = ⟨.mark .noRoom, false, true⟩
section
variable {F : FuncId → Prop} {B : Nat} {ρ : Ren} {w w' : World}
theorem WR.block (h : WR F B ρ w w') {b b' : Nat} (hb : ρ b = some b') : ∃ cs cs' e fr fr', w.heap[b]? = some (.cells cs e fr) ∧ w'.heap[b']? = some (.cells cs' e fr') ∧ A2 (VR F ρ) cs cs' := by
  rcases Nat.lt_or_ge b B with q | q
  · obtain ⟨cs, cs', e, fr, fr', h1, h2, h3, _⟩ := h.old b b' hb q
    exact ⟨cs, cs', e, fr, fr', h1, h2, h3⟩
  · obtain ⟨cs, cs', e, h1, h2, h3⟩ := h.own b b' hb q
    exact ⟨cs, cs', e, _, _, h1, h2, h3⟩
theorem WR.lt (h : WR F B ρ w w') {b b' : Nat} (hb : ρ b = some b') : b < w.heap.size ∧ b' < w'.heap.size := by
  obtain ⟨cs, cs', e, fr, fr', h1, h2, _⟩ := h.block hb
  exact ⟨(Array.getElem?_eq_some_iff.1 h1).1, (Array.getElem?_eq_some_iff.1 h2).1⟩
theorem WR.load (h : WR F B ρ w w') {a a' : Addr} (ha : AR ρ a a') {v : Value} (hv : w.cell? a = some v) : ∃ v', w'.cell? a' = some v' ∧ VR F ρ v v' := by
  obtain ⟨cs, cs', e, fr, fr', h1, h2, h3⟩ := h.block ha.1
  simp only [World.cell?, h1] at hv
  split at hv
  · cases hv
  · rename_i hs
    obtain ⟨v', e', r⟩ := h3.at_ a.off v hv
    refine ⟨v', ?_, r⟩
    simp only [World.cell?, h2, ha.2.2, ha.2.1]
    rw [if_neg hs]
    exact e'
theorem WR.store (h : WR F B ρ w w') {a a' : Addr} (ha : AR ρ a a') {u v v' : Value} (hu : w.cell? a = some u) (hf : w.frozen? a = false) (hv : VR F ρ v v') :
    B ≤ a.block ∧ (∃ u', w'.cell? a' = some u') ∧ w'.frozen? a' = false ∧ WR F B ρ (w.setCell a v) (w'.setCell a' v') ∧ Kp B ρ ρ w' (w'.setCell a' v') := by
  have hB : B ≤ a.block := by
    rcases Nat.lt_or_ge a.block B with q | q
    · exfalso
      obtain ⟨cs, cs', e, fr, fr', h1, h2, h3, h4⟩ := h.old _ _ ha.1 q
      simp only [World.cell?, h1] at hu
      split at hu
      · cases hu
      · have hlt := (Array.getElem?_eq_some_iff.1 hu).1
        have := h4 a.off hlt
        simp only [World.frozen?, h1] at hf
        simp [this.1, this.2] at hf
    · exact q
  obtain ⟨cs, cs', e, h1, h2, h3⟩ := h.own _ _ ha.1 hB
  obtain ⟨u', hu', _⟩ := h.load ha hu
  have hsp : a.spot = none := by
    cases hs : a.spot with
    | none => rfl
    | some x => simp [World.cell?, h1, hs] at hu
  have hsp' : a'.spot = none := by rw [ha.2.2, hsp]
  have e1 : (w.setCell a v).heap[a.block]? = some (.cells (cs.setIfInBounds a.off v) e (0, 0)) := by
    simp [World.setCell, Array.getElem?_modify, h1, hsp]
  have e2 : (w'.setCell a' v').heap[a'.block]? = some (.cells (cs'.setIfInBounds a.off v') e (0, 0)) := by
    simp [World.setCell, Array.getElem?_modify, h2, hsp', ha.2.1]
  have o1 : ∀ b, b ≠ a.block → (w.setCell a v).heap[b]? = w.heap[b]? := fun b hb => by
    simp [World.setCell, Array.getElem?_modify, Ne.symm hb]
  have o2 : ∀ b, b ≠ a'.block → (w'.setCell a' v').heap[b]? = w'.heap[b]? := fun b hb => by
    simp [World.setCell, Array.getElem?_modify, Ne.symm hb]
  refine ⟨hB, ⟨u', hu'⟩, by simp [World.frozen?, h2], ⟨h.inj, fun b b' hb hlt => ?_, fun b b' hb hge => ?_, by simp [World.setCell, h.size]⟩, ⟨rfl, rfl, rfl, by simp [World.setCell], fun b' hb' hn => ?_, fun _ _ q => .inl q, RLe.refl ρ⟩⟩
  · obtain ⟨cs, cs', e, fr, fr', q1, q2, q3, q4⟩ := h.old b b' hb hlt
    refine ⟨cs, cs', e, fr, fr', (o1 b (by omega)).trans q1, (o2 b' fun e => ?_).trans q2, q3, q4⟩
    subst e
    have := h.inj _ _ _ hb ha.1
    omega
  · by_cases hba : b = a.block
    · subst hba
      have : b' = a'.block := by rw [ha.1] at hb; exact (Option.some.inj hb).symm
      subst this
      exact ⟨_, _, e, e1, e2, h3.set _ hv⟩
    · obtain ⟨cs, cs', e, q1, q2, q3⟩ := h.own b b' hb hge
      refine ⟨cs, cs', e, (o1 b hba).trans q1, (o2 b' fun e => ?_).trans q2, q3⟩
      subst e
      exact hba (h.inj _ _ _ hb ha.1)
  · exact o2 b' fun e => hn a.block hB (by rw [ha.1, e])
theorem WR.new (h : WR F B ρ w w') {cs cs' : Array Value} (e : TypeId) (hcs : A2 (VR F ρ) cs cs') :
    ∃ σ : Ren, σ w.heap.size = some w'.heap.size ∧ RLe ρ σ ∧ WR F B σ { w with heap := w.heap.push (.cells cs e (0, 0)) } { w' with heap := w'.heap.push (.cells cs' e (0, 0)) } ∧ Kp B ρ σ w' { w' with heap := w'.heap.push (.cells cs' e (0, 0)) } := by
  have hno : ρ w.heap.size = none := by
    cases hx : ρ w.heap.size with
    | none => rfl
    | some x => have := (h.lt hx).1; omega
  obtain ⟨σ, hσ⟩ : ∃ σ : Ren, σ = fun b => if b = w.heap.size then some w'.heap.size else ρ b := ⟨_, rfl⟩
  have s1 : σ w.heap.size = some w'.heap.size := by rw [hσ]; simp
  have s2 : ∀ b, b ≠ w.heap.size → σ b = ρ b := fun b hb => by rw [hσ]; simp [hb]
  have le : RLe ρ σ := fun b b' hb => by
    rw [s2 b fun e => ?_]
    · exact hb
    · subst e; rw [hno] at hb; cases hb
  have o1 : ∀ b, b < w.heap.size → ({ w with heap := w.heap.push (.cells cs e (0, 0)) } : World).heap[b]? = w.heap[b]? := fun b hb => by
    show (w.heap.push _)[b]? = _
    rw [Array.getElem?_push, if_neg (by omega)]
  have o2 : ∀ b, b < w'.heap.size → ({ w' with heap := w'.heap.push (.cells cs' e (0, 0)) } : World).heap[b]? = w'.heap[b]? := fun b hb => by
    show (w'.heap.push _)[b]? = _
    rw [Array.getElem?_push, if_neg (by omega)]
  have back : ∀ b b', σ b = some b' → b ≠ w.heap.size → ρ b = some b' ∧ b < w.heap.size ∧ b' < w'.heap.size := fun b b' hb hne => by
    rw [s2 b hne] at hb
    exact ⟨hb, h.lt hb⟩
  refine ⟨σ, s1, le, ⟨fun b c b' hb hc => ?_, fun b b' hb hlt => ?_, fun b b' hb hge => ?_, by simp; have := h.size; omega⟩, ⟨rfl, rfl, rfl, by simp, fun b' hb' _ => o2 b' hb', fun b b' hb => ?_, le⟩⟩
  · by_cases h1 : b = w.heap.size
    · by_cases h2 : c = w.heap.size
      · omega
      · have q := (back c b' hc h2).2.2
        rw [h1, s1] at hb
        have := Option.some.inj hb
        omega
    · by_cases h2 : c = w.heap.size
      · have q := (back b b' hb h1).2.2
        rw [h2, s1] at hc
        have := Option.some.inj hc
        omega
      · exact h.inj b c b' (back b b' hb h1).1 (back c b' hc h2).1
  · have hs := h.size
    obtain ⟨q, l1, l2⟩ := back b b' hb (by omega)
    obtain ⟨cs, cs', e, fr, fr', q1, q2, q3, q4⟩ := h.old b b' q hlt
    exact ⟨cs, cs', e, fr, fr', (o1 b l1).trans q1, (o2 b' l2).trans q2, q3.mono fun _ _ r => r.mono le, q4⟩
  · by_cases h1 : b = w.heap.size
    · subst h1
      rw [s1] at hb
      cases hb
      refine ⟨cs, cs', e, ?_, ?_, hcs.mono fun _ _ r => r.mono le⟩
      · show (w.heap.push _)[w.heap.size]? = _; simp
      · show (w'.heap.push _)[w'.heap.size]? = _; simp
    · obtain ⟨q, l1, l2⟩ := back b b' hb h1
      obtain ⟨cs, cs', e, q1, q2, q3⟩ := h.own b b' q hge
      exact ⟨cs, cs', e, (o1 b l1).trans q1, (o2 b' l2).trans q2, q3.mono fun _ _ r => r.mono le⟩
  · by_cases h1 : b = w.heap.size
    · subst h1
      rw [s1] at hb
      cases hb
      exact .inr ⟨h.size, Nat.le_refl _, by simp⟩
    · exact .inl (back b b' hb h1).1
end
theorem never_runT {P : Program} {α : Type} (s : Sem α) : Never P s → ∀ (w : World) (es : Array Event), ∃ h w2 m, plainH h ∧ s.runT P w es = (.halt h w2, es ++ m) := by
  induction s with
  | halt h => intro hn w es; exact ⟨h, w, #[], hn, by simp [Sem.runT]⟩
  | program k ih => intro hn w es; exact ih P hn w es
  | choose q k ih =>
    intro hn w es
    simp only [Sem.runT]
    split
    · exact ih _ (hn _) _ _
    · exact ih _ (hn _) _ _
  | _ => intro hn; exact hn.elim
theorem SR.run2 {P : Program} {F : FuncId → Prop} {α : Type} {A : Ren → α → α → Prop} {B : Nat} (s : Sem α) : ∀ {ρ : Ren} {s' : Sem α} {w w' : World}, SR P F A s ρ s' → WR F B ρ w w' →
    (∃ (a : α) (w1 : World) (σ : Ren) (a' : α) (w1' : World) (n : Array Event), (∀ τ d es, ∃ m, s.runT P (tp w τ d) es = (.ok a (tp w1 τ d), es ++ m)) ∧ (∀ es', s'.runT P w' es' = (.ok a' w1', es' ++ n)) ∧
      A σ a a' ∧ WR F B σ w1 w1' ∧ Kp B ρ σ w' w1' ∧ w1'.drawn = w'.drawn ∧ ∀ e ∈ n, EvK B σ e) ∨
    (∀ τ d es, ∃ h w2 m, plainH h ∧ s.runT P (tp w τ d) es = (.halt h w2, es ++ m)) := by
  induction s with
  | pure x =>
    intro ρ s' w w' h hw
    obtain ⟨x', rfl, hx⟩ := h
    exact .inl ⟨x, w, ρ, x', w', #[], fun τ d es => ⟨#[], by simp [Sem.runT]⟩, fun es' => by simp [Sem.runT], hx, hw, Kp.refl _ _ _, rfl, by simp⟩
  | load m ad k ih =>
    intro ρ s' w w' h hw
    obtain ⟨rfl, ad', k', rfl, had, hk⟩ := h
    cases hc : w.cell? ad with
    | none =>
      right
      intro τ d es
      obtain ⟨cs, cs', e, fr, fr', h1, h2, h3⟩ := hw.block had.1
      have hc' : (tp w τ d).cell? ad = none := hc
      have h1' : (tp w τ d).heap[ad.block]? = some (.cells cs e fr) := h1
      refine ⟨.stuck "load: no such cell", tp w τ d, #[], trivial, ?_⟩
      simp only [Sem.runT, hc', World.farLoad, h1', World.noCell, Array.append_empty]
    | some v =>
      obtain ⟨v', hc', hv⟩ := hw.load had hc
      rcases ih v (hk v v' hv) hw with ⟨a, w1, σ, a', w1', n, r1, r2, r3, r4, r5, r5', r6⟩ | hr
      · refine .inl ⟨a, w1, σ, a', w1', #[⟨.cell ad', false, Mode.plain == .atomic⟩] ++ n, fun τ d es => ?_, fun es' => ?_, r3, r4, r5, r5', fun e he => ?_⟩
        · obtain ⟨m, hm⟩ := r1 τ d (es.push ⟨.cell ad, false, Mode.plain == .atomic⟩)
          have hc2 : (tp w τ d).cell? ad = some v := hc
          refine ⟨#[⟨.cell ad, false, Mode.plain == .atomic⟩] ++ m, ?_⟩
          simp only [Sem.runT, hc2, hm]
          rw [← Array.append_assoc, ← Array.push_eq_append]
        · simp only [Sem.runT, hc', r2]
          rw [← Array.append_assoc, ← Array.push_eq_append]
        · rcases Array.mem_append.1 he with q | q
          · simp at q
            subst q
            exact .inl ⟨ad.block, ad', r5.le _ _ had.1, rfl, rfl, fun q => by cases q⟩
          · exact r6 e q
      · right
        intro τ d es
        obtain ⟨h, w2, m, hp, hm⟩ := hr τ d (es.push ⟨.cell ad, false, Mode.plain == .atomic⟩)
        have hc2 : (tp w τ d).cell? ad = some v := hc
        refine ⟨h, w2, #[⟨.cell ad, false, Mode.plain == .atomic⟩] ++ m, hp, ?_⟩
        simp only [Sem.runT, hc2, hm]
        rw [← Array.append_assoc, ← Array.push_eq_append]
  | store m ad v k ih =>
    intro ρ s' w w' h hw
    obtain ⟨rfl, ad', v', k', rfl, had, hv, hk⟩ := h
    by_cases hag : (∃ cs, v = .agg cs) ∨ ∃ cs, v = .tuple cs
    · right
      intro τ d es
      rcases hag with ⟨cs, rfl⟩ | ⟨cs, rfl⟩ <;> exact ⟨.stuck "store: not the value of one cell", tp w τ d, #[], trivial, by simp only [Sem.runT, Array.append_empty]⟩
    · have hne : (∀ cs, v ≠ .agg cs) ∧ ∀ cs, v ≠ .tuple cs := ⟨fun cs q => hag (.inl ⟨cs, q⟩), fun cs q => hag (.inr ⟨cs, q⟩)⟩
      have hne' : (∀ cs, v' ≠ .agg cs) ∧ ∀ cs, v' ≠ .tuple cs := by
        cases hv <;> first | exact absurd rfl (hne.1 _) | exact absurd rfl (hne.2 _) | exact ⟨fun _ q => (by cases q), fun _ q => (by cases q)⟩
      have e0 : ∀ (W : World) (es : Array Event), (Sem.store Mode.plain ad v k).runT P W es = match W.cell? ad with
          | some _ => if W.frozen? ad then (.halt (.unsupported (.unsafePointer "a write to bytes that a string shares")) W, es) else k.runT P (W.setCell ad v) (es.push ⟨.cell ad, true, Mode.plain == .atomic⟩)
          | none => match W.farStore P ad v (Mode.plain == .atomic) with
            | .ok (w, touched) => k.runT P w (es ++ touched.toArray.map (⟨.cell ·, true, Mode.plain == .atomic⟩))
            | .error h => (.halt h W, es) := fun W es => by
        cases v <;> first | rfl | exact absurd rfl (hne.1 _) | exact absurd rfl (hne.2 _)
      cases hc : w.cell? ad with
      | none =>
        right
        intro τ d es
        obtain ⟨cs, cs', e, fr, fr', h1, h2, h3⟩ := hw.block had.1
        have hc' : (tp w τ d).cell? ad = none := hc
        have h1' : (tp w τ d).heap[ad.block]? = some (.cells cs e fr) := h1
        refine ⟨.stuck "store: no such cell", tp w τ d, #[], trivial, ?_⟩
        rw [e0]
        simp only [hc', World.farStore, h1', World.noCell, Array.append_empty]
      | some u =>
        cases hf : w.frozen? ad with
        | true =>
          right
          intro τ d es
          have hc2 : (tp w τ d).cell? ad = some u := hc
          have hf2 : (tp w τ d).frozen? ad = true := hf
          refine ⟨.unsupported (.unsafePointer "a write to bytes that a string shares"), tp w τ d, #[], trivial, ?_⟩
          rw [e0]
          simp only [hc2, hf2, if_true, Array.append_empty]
        | false =>
          obtain ⟨hB, ⟨u', hu'⟩, hf', hw2, hk2⟩ := hw.store had hc hf hv
          rcases ih hk hw2 with ⟨a, w1, σ, a', w1', n, r1, r2, r3, r4, r5, r5', r6⟩ | hr
          · refine .inl ⟨a, w1, σ, a', w1', #[⟨.cell ad', true, Mode.plain == .atomic⟩] ++ n, fun τ d es => ?_, fun es' => ?_, r3, r4, hk2.trans r5, r5', fun e he => ?_⟩
            · obtain ⟨m, hm⟩ := r1 τ d (es.push ⟨.cell ad, true, Mode.plain == .atomic⟩)
              have hc2 : (tp w τ d).cell? ad = some u := hc
              have hf2 : (tp w τ d).frozen? ad = false := hf
              refine ⟨#[⟨.cell ad, true, Mode.plain == .atomic⟩] ++ m, ?_⟩
              rw [e0]
              simp only [hc2, hf2, Bool.false_eq_true, if_false]
              have e3 : (tp w τ d).setCell ad v = tp (w.setCell ad v) τ d := rfl
              rw [e3, hm, ← Array.append_assoc, ← Array.push_eq_append]
            · have e1 : (Sem.store Mode.plain ad' v' k').runT P w' es' = k'.runT P (w'.setCell ad' v') (es'.push ⟨.cell ad', true, Mode.plain == .atomic⟩) := by
                cases v' <;> first | (simp only [Sem.runT, hu', hf']; rfl) | exact absurd rfl (hne'.1 _) | exact absurd rfl (hne'.2 _)
              rw [e1, r2, ← Array.append_assoc, ← Array.push_eq_append]
            · rcases Array.mem_append.1 he with q | q
              · simp at q
                subst q
                exact .inl ⟨ad.block, ad', r5.le _ _ had.1, rfl, rfl, fun _ => hB⟩
              · exact r6 e q
          · right
            intro τ d es
            obtain ⟨h, w2, m, hp, hm⟩ := hr τ d (es.push ⟨.cell ad, true, Mode.plain == .atomic⟩)
            have hc2 : (tp w τ d).cell? ad = some u := hc
            have hf2 : (tp w τ d).frozen? ad = false := hf
            refine ⟨h, w2, #[⟨.cell ad, true, Mode.plain == .atomic⟩] ++ m, hp, ?_⟩
            rw [e0]
            simp only [hc2, hf2, Bool.false_eq_true, if_false]
            have e3 : (tp w τ d).setCell ad v = tp (w.setCell ad v) τ d := rfl
            rw [e3, hm, ← Array.append_assoc, ← Array.push_eq_append]
  | new o k ih =>
    intro ρ s' w w' h hw
    obtain ⟨cs, cs', e, k', rfl, rfl, hcs, hk⟩ := h
    obtain ⟨σ, s1, le, hw2, hk2⟩ := hw.new e hcs
    rcases ih w.heap.size (hk σ _ _ le s1) hw2 with ⟨a, w1, υ, a', w1', n, r1, r2, r3, r4, r5, r5', r6⟩ | hr
    · exact .inl ⟨a, w1, υ, a', w1', n, fun τ d es => r1 τ d es, fun es' => r2 es', r3, r4, hk2.trans r5, r5', r6⟩
    · exact .inr fun τ d es => hr τ d es
  | choose q k ih =>
    intro ρ s' w w' h hw
    exact .inr fun τ d es => never_runT (.choose q k) h _ _
  | program k ih =>
    intro ρ s' w w' h hw
    rcases h with h | ⟨k', rfl, hk⟩
    · exact .inr fun τ d es => never_runT (.program k) h _ _
    · rcases ih P hk hw with ⟨a, w1, σ, a', w1', n, r1, r2, r3, r4, r5, r5', r6⟩ | hr
      · exact .inl ⟨a, w1, σ, a', w1', n, fun τ d es => r1 τ d es, fun es' => r2 es', r3, r4, r5, r5', r6⟩
      · exact .inr fun τ d es => hr τ d es
  | mark m k ih =>
    intro ρ s' w w' h hw
    obtain ⟨rfl, k', rfl, hk⟩ := h
    rcases ih hk hw with ⟨a, w1, σ, a', w1', n, r1, r2, r3, r4, r5, r5', r6⟩ | hr
    · refine .inl ⟨a, w1, σ, a', w1', #[⟨.mark .noRoom, false, true⟩] ++ n, fun τ d es => ?_, fun es' => ?_, r3, r4, r5, r5', fun e he => ?_⟩
      · obtain ⟨m, hm⟩ := r1 τ d (es.push ⟨.mark .noRoom, false, true⟩)
        refine ⟨#[⟨.mark .noRoom, false, true⟩] ++ m, ?_⟩
        simp only [Sem.runT, hm]
        rw [← Array.append_assoc, ← Array.push_eq_append]
      · simp only [Sem.runT, r2]
        rw [← Array.append_assoc, ← Array.push_eq_append]
      · rcases Array.mem_append.1 he with q | q
        · simp at q
          exact .inr q
        · exact r6 e q
    · right
      intro τ d es
      obtain ⟨h, w2, m, hp, hm⟩ := hr τ d (es.push ⟨.mark .noRoom, false, true⟩)
      refine ⟨h, w2, #[⟨.mark .noRoom, false, true⟩] ++ m, hp, ?_⟩
      simp only [Sem.runT, hm]
      rw [← Array.append_assoc, ← Array.push_eq_append]
  | halt h =>
    intro ρ s' w w' hh hw
    exact .inr fun τ d es => ⟨h, tp w τ d, #[], hh, by simp [Sem.runT]⟩
  | shape | freeze | frozen | getObj | setObj | sys => intro ρ s' w w' h; exact h.elim
end Go.Proofs.YtckoipoejaafhaaDoor.Cc
