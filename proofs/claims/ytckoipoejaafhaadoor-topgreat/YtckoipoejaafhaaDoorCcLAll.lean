/-
  Texts that stood one behind the other, as one.
-/
import Derived.Test.YtckoipoejaafhaaDoorCcJAll
import Derived.Conc.CrowdStepW
namespace Go.Proofs.YtckoipoejaafhaaDoor.Cc
open Go Go.Conc
open Go.ConcN (CT upd upd_same upd_ne WgLive PayAt Has AtR0 AtK1 AtD1 AtD2 AtD3 AtD4 RelBy CTag WD Vc cnt sumTo sumTo_upd sumTo_congr get_map_set get_map_set_same)
open Go.ConcR (Payload KK WgAt stA smA rd wr mk)
structure Ph where
  P : Program
  ty : TypeId
  Wg : Nat
  C : Nat
  n : Nat
  q : Nat
  cap : Nat
  gA : Goroutine → Prop
  gK : Goroutine → Prop
  Fx : (Nat → Prop) → (Nat → Prop) → World → Prop
  z : Value
  Tl : Nat → Value → (Nat → Prop) → (Nat → Prop) → World → Prop
  l0 : List (Nat × Value)
  Su : Nat → Prop
  sw : World
def Ph.Sp (p : Ph) (cs : List Nat) (b : Nat) : Prop := b = p.C ∨ p.Su b ∨ b ∈ cs
def Ph.Cx (p : Ph) (i : Nat) (a : Addr) : Prop := ∃ k, k < p.n ∧ i = p.q + 1 + k ∧ a = ⟨p.C, k, none⟩
def Dw (wt : Nat → WT) : Nat → WD := fun k => ⟨(wt k).stage, 0, 0⟩
theorem upd_self {α : Type} (f : Nat → α) (i : Nat) : upd f i (f i) = f := by
  funext a
  unfold upd
  split
  · rename_i h; rw [h]
  · rfl
section
variable [Payload]
def Ph.W (p : Ph) (T : Nat → Hold) (k c : Nat) : WT → Od → Nat → Goroutine → World → Prop := WSit p.P p.ty p.Wg p.C p.n (p.q + 1 + k) k c p.z (T (p.q + 1 + k)) (p.Tl k)
def Ph.M (p : Ph) (T : Nat → Hold) (cs : List Nat) : MT → Od → Nat → Goroutine → World → Prop := MSit p.P p.ty p.Wg p.C p.n p.gA p.gK p.Fx p.q p.cap p.z p.Tl p.l0 (T 0) cs
structure Ph.Ok (p : Ph) : Prop where
  su : p.Su p.Wg
  c : ¬ p.Su p.C
  n : p.n < 2147483647
  tl : ∀ k v Sh Ow w w₁, p.Tl k v Sh Ow w → Kept Sh Ow w w₁ → p.Tl k v Sh Ow w₁
  grow : ∀ k v Sh Ow Ow' w, p.Tl k v Sh Ow w → (∀ b, Ow b → Ow' b) → p.Tl k v Sh Ow' w
  cap : p.l0.length ≤ p.cap
  dest : ∀ x ∈ p.l0, x.1 < p.n
  anch : ∀ g, p.gA g → ∀ Sh Ow w, WgLive p.ty p.Wg w → ∃ m, Gm p.P p.ty p.Wg Sh Ow (MW1 p.P p.ty p.Wg Sh Ow p.gA p.gK) m g w
  anchr : ∀ g, p.gA g → g.status = .running
structure GI (p : Ph) (gs : Array Goroutine) (w : World) (t : Trace) (T : Nat → Hold) (F : Nat → Od) (wt : Nat → WT) (mt : MT) (cs : List Nat) (st sm : Int) (a : Goroutine) : Prop where
  size : gs.size = p.q + 1 + cs.length
  len : cs.length ≤ p.n
  a0 : gs[0]? = some a
  main : p.M T cs mt (F 0) (Deaf t 0) a w
  old : ∀ i, 1 ≤ i → i ≤ p.q → ∃ g m, gs[i]? = some g ∧ QuitsD p.P m (Deaf t i) g ∧ F i = Od.nat m
  wk : ∀ k c, cs[k]? = some c → ∃ g, gs[p.q + 1 + k]? = some g ∧ p.W T k c (wt k) (F (p.q + 1 + k)) (Deaf t (p.q + 1 + k)) g w
  tno : ∀ i, (1 ≤ i ∧ i ≤ p.q) ∨ p.q + cs.length < i → T i = Hold.no
  above : ∀ i, p.q + cs.length < i → Deaf t i = 0
  blk : Blk T (p.Sp cs) w
  trc : Trc p.q cs.length p.Wg p.Su T p.Cx w.heap.size t
  chan : ∀ k c, cs[k]? = some c → ∃ buf s r, w.heap[c]? = some (.chan p.cap buf (mt.shut c) s r false) ∧ (wt k).rest = buf.toList ++ left (mt.todo p.l0) k ∧ ((wt k).isPk = true → buf = #[] ∧ mt.shut c = false)
  short : ∀ k, k < cs.length → (wt k).rest.length ≤ p.cap
  nd : cs.Nodup ∧ p.C ∉ cs ∧ ∀ b ∈ cs, ¬ p.Su b
  wg : WgAt p.ty p.Wg w st sm
  mode : Go.ConcN.Mode cs.length (Dw wt) mt.ctag st sm
  pay : PayAt p.C p.n w
  rel : ∀ k, k < cs.length → (wt k).stage ≤ 6 → ∃ r, RelBy (stA p.Wg) t (p.q + 1 + k) r
  sus : (w.os = p.sw.os ∧ w.output = p.sw.output) ∧ ∀ b, p.Su b → b ≠ p.Wg → w.heap[b]? = p.sw.heap[b]?
def meas (p : Ph) (F : Nat → Od) (wt : Nat → WT) (mt : MT) (cs : List Nat) : Nat × (Nat → Od) × Nat := (mt.phi p.n p.l0.length (Vc cs.length (Dw wt)) + sumTo cs.length fun k => (wt k).phi, F, mt.tries)
def Inv (p : Ph) (μ : Nat × (Nat → Od) × Nat) (m : Machine) (t : Trace) : Prop :=
  ∃ gs w sl T F wt mt cs st sm a, m = crowd gs w sl ∧ GI p gs w t T F wt mt cs st sm a ∧ μ = meas p F wt mt cs
def Goal (p : Ph) (gs : Array Goroutine) (w : World) (sl : Option (Nat × Nat)) (i : Nat) (t : Trace) (μ : Nat × (Nat → Od) × Nat) : Prop :=
  ∃ m' ops μ', runT p.P (crowd gs w sl) i = (.next m', ops) ∧ Lt3 (p.q + 1 + p.n) μ' μ ∧ Inv p μ' m' (t ++ ops)
section
variable {p : Ph} {gs : Array Goroutine} {w w' : World} {t : Trace} {T T' : Nat → Hold} {F : Nat → Od} {wt : Nat → WT} {mt : MT} {cs : List Nat} {st sm : Int} {a : Goroutine} {sl : Option (Nat × Nat)}
omit [Payload] in
theorem phi_mono (n L : Nat) {v v' : Nat} (h : v' ≤ v) (mt : MT) : mt.phi n L v' ≤ mt.phi n L v := by
  cases mt <;> simp only [MT.phi] <;> omega
omit [Payload] in
theorem phi_retag (n L v : Nat) {mt mt' : MT} (e : mt' = mt ∨ (mt = .bk ∧ mt' = .w3)) : mt'.phi n L v = mt.phi n L v := by
  rcases e with rfl | ⟨rfl, rfl⟩ <;> rfl
omit [Payload] in
theorem todo_retag (l : List (Nat × Value)) {mt mt' : MT} (e : mt' = mt ∨ (mt = .bk ∧ mt' = .w3)) : mt'.todo l = mt.todo l := by
  rcases e with rfl | ⟨rfl, rfl⟩ <;> rfl
omit [Payload] in
theorem shut_retag (c : Nat) {mt mt' : MT} (e : mt' = mt ∨ (mt = .bk ∧ mt' = .w3)) : mt'.shut c = mt.shut c := by
  rcases e with rfl | ⟨rfl, rfl⟩ <;> rfl
theorem Ph.M.running (ok : p.Ok) {o : Od} {d : Nat} (h : p.M T cs mt o d a w) (hl : WgLive p.ty p.Wg w) : a.status = .running ∨ mt = .bk := by
  have rf : RM p.ty p.Wg (T 0).sh (T 0).ow w w := ⟨Kept.refl _ _ _, id⟩
  cases mt with
  | kdS r => exact .inl (h.2.2.running hl fun _ _ _ x => x.1)
  | a1 r => exact .inl (let ⟨_, _, h2⟩ := h.2.2; Goes.running (fun _ _ x => x.1) w rf h2)
  | keS r => exact .inl (let ⟨_, _, h2⟩ := h.2.2; Goes.running (fun _ _ x => x.1) w rf h2)
  | go r => exact .inl (h.2.2.running hl fun _ _ _ x => x.1)
  | sd l =>
    refine .inl (h.2.2.running hl fun _ _ _ x => ?_)
    rcases l with _ | ⟨⟨k, v⟩, l⟩
    · unfold MSend at x
      cases cs with
      | nil => exact x.1
      | cons c cs => exact x.1
    · exact x.1
  | cl l =>
    refine .inl (h.2.2.2.running hl fun _ _ _ x => ?_)
    cases l with
    | nil => exact x.1
    | cons c l => exact x.1
  | kd => exact .inl (h.2.2.running hl fun _ _ _ x => x.1)
  | an => exact .inl (let ⟨_, _, h2⟩ := h.2.2.2; Goes.running (fun g _ x => ok.anchr g x) w rf h2)
  | w1 => exact .inl (let ⟨_, _, h2⟩ := h.2.2.2; Goes.running (fun _ _ x => x.1) w rf h2)
  | w2 vs => exact .inl (let ⟨_, _, h2⟩ := h.2.2.2; Goes.running (fun _ _ x => x.1) w rf h2)
  | w3 => exact .inl (let ⟨_, _, h2⟩ := h.2.2.2; Goes.running (fun _ _ x => x.1) w rf h2)
  | bk => exact .inr rfl
  | w4 => exact .inl (let ⟨_, _, h2⟩ := h.2.2.2; Goes.running (fun _ _ x => x.1) w rf h2)
  | ke => exact .inl (let ⟨_, _, h2⟩ := h.2.2.2; Goes.running (fun _ _ x => x.1) w rf h2)
  | aq => exact .inl (let ⟨_, _, h2⟩ := h.2.2.2; Goes.running (fun _ _ x => x.1) w rf h2)
theorem Ph.M.woken (ok : p.Ok) {o : Od} {d : Nat} (h : p.M T cs mt o d a w) (hl : WgLive p.ty p.Wg w) (g g' : Goroutine) : ∃ mt', p.M T cs mt' o d (woken p.P g g' w a) w ∧ (mt' = mt ∨ (mt = .bk ∧ mt' = .w3)) ∧ (mayWake p.P g = true → g'.status = .running → mt' ≠ .bk) := by
  rcases h.running ok hl with hr | rfl
  · refine ⟨mt, by rw [woken_run hr]; exact h, .inl rfl, fun _ _ e => ?_⟩
    subst e
    obtain ⟨_, _, _, g₀, e, _⟩ := h
    rw [e] at hr; cases hr
  · have h' := h
    obtain ⟨h1, h2, h3, g₀, h5, h6, h7, m, h4, h8⟩ := h
    unfold Conc.woken
    split
    · refine ⟨.w3, ⟨h1, h2, h3, ?_⟩, .inr ⟨rfl, rfl⟩, fun _ _ e => by cases e⟩
      have e : a.again w = g₀ := by
        rw [h5]
        unfold Goroutine.again
        obtain ⟨f1, f2, f3, f4, f5⟩ := g₀
        simp only at h6 h7
        subst h6 h7
        rfl
      rw [e]
      exact ⟨m, h4, h8⟩
    · rename_i hc
      refine ⟨.bk, h', .inl rfl, fun hm hs _ => hc ?_⟩
      rw [hm, hs]
      rfl
theorem Ph.W.woken {k c : Nat} {tg : WT} {o : Od} {d : Nat} {x : Goroutine} (h : p.W T k c tg o d x w) (hc : tg.isPk = true → ∃ cap buf s r tm, w.heap[c]? = some (.chan cap buf false s r tm)) (g g' : Goroutine) : woken p.P g g' w x = x := by
  rcases WSit.status h with ⟨_, h1 | ⟨_, h1⟩⟩ | ⟨vs, g₂, rfl, rfl⟩
  · exact woken_run h1
  · exact Go.Conc.woken_rf (.inr h1)
  · obtain ⟨cap, buf, s, r, tm, hc⟩ := hc rfl
    exact woken_recv_open g g' hc
omit [Payload] in
theorem Ph.Ok.com (ok : p.Ok) (cs : List Nat) : Com (p.Sp cs) p.Su p.Cx := by
  refine ⟨fun b hb => .inr (.inl hb), ?_, ?_⟩
  · rintro k a ⟨x, _, _, rfl⟩
    exact ⟨.inl rfl, ok.c⟩
  · rintro k k' a ⟨x, _, rfl, rfl⟩ ⟨x', _, rfl, e⟩
    simp only [Addr.mk.injEq, and_true, true_and] at e
    rw [e]
theorem GI.live (h : GI p gs w t T F wt mt cs st sm a) : WgLive p.ty p.Wg w := ⟨_, _, h.wg⟩
theorem GI.goW (ok : p.Ok) (h : GI p gs w t T F wt mt cs st sm a) {k c : Nat} (hk : cs[k]? = some c) {g g' : Goroutine} {es : Array Event} (hg : gs[p.q + 1 + k]? = some g) (hgo : stepG p.P false g w = .go g' w' es)
    (hT' : ∀ i, i ≠ p.q + 1 + k → T' i = T i) (hkept : ∀ i, i ≠ p.q + 1 + k → Kept (T i).sh (T i).ow w w') (hblk : Blk T' (p.Sp cs) w') (htrc : Trc p.q cs.length p.Wg p.Su T' p.Cx w'.heap.size (t ++ MemOp.ofEvents (p.q + 1 + k) g.frame.fn g.frame.place es))
    (hsu' : (w'.os = w.os ∧ w'.output = w.output) ∧ ∀ b, p.Su b → b ≠ p.Wg → w'.heap[b]? = w.heap[b]?) (hch : ∀ b ∈ cs, w'.heap[b]? = w.heap[b]?) (hcell : ∀ k', k' ≠ k → w'.cell? ⟨p.C, k', none⟩ = w.cell? ⟨p.C, k', none⟩) (hpay : PayAt p.C p.n w') {st' sm' : Int} (hwg : WgAt p.ty p.Wg w' st' sm') {tg : WT} {o : Od}
    (hs : p.W T' k c tg o (Deaf (t ++ MemOp.ofEvents (p.q + 1 + k) g.frame.fn g.frame.place es) (p.q + 1 + k)) g' w') (hrest : tg.rest = (wt k).rest) (hpk : tg.isPk = false)
    (hmode : ∀ mt', (mt' = mt ∨ (mt = .bk ∧ mt' = .w3)) → (mayWake p.P g = true → g'.status = .running → mt' ≠ .bk) → Go.ConcN.Mode cs.length (Dw (upd wt k tg)) mt'.ctag st' sm')
    (hrel : tg.stage ≤ 6 → ∃ r, RelBy (stA p.Wg) (t ++ MemOp.ofEvents (p.q + 1 + k) g.frame.fn g.frame.place es) (p.q + 1 + k) r)
    (hlt : (tg.phi < (wt k).phi ∧ tg.stage ≤ (wt k).stage) ∨ (tg = wt k ∧ Od.Sub o (F (p.q + 1 + k)))) : Goal p gs w sl (p.q + 1 + k) t (meas p F wt mt cs) := by
  have hkl : k < cs.length := (List.getElem?_eq_some_iff.1 hk).1
  have hrun := runT_crowd_go (P := p.P) (sl := sl) (i := p.q + 1 + k) hg (by rw [show (p.q + 1 + k == 0) = false by simp]; exact hgo)
  have hops : ∀ op ∈ MemOp.ofEvents (p.q + 1 + k) g.frame.fn g.frame.place es, op.g = p.q + 1 + k := fun op hop => by obtain ⟨e, _, rfl⟩ := Go.Conc.mem_ofEvents hop; rfl
  have hdeaf : ∀ i, p.q + 1 + k ≠ i → Deaf (t ++ MemOp.ofEvents (p.q + 1 + k) g.frame.fn g.frame.place es) i = Deaf t i := fun i hi => Deaf_other t hi _ hops
  have hl' : WgLive p.ty p.Wg w' := ⟨_, _, hwg⟩
  have hm0 : p.M T' cs mt (F 0) (Deaf (t ++ MemOp.ofEvents (p.q + 1 + k) g.frame.fn g.frame.place es) 0) a w' := by
    rw [hdeaf 0 (by omega)]
    unfold Ph.M
    rw [hT' 0 (by omega)]
    exact MSit.suf h.main (hkept 0 (by omega)) hl'
  obtain ⟨mt', hm1, htag, hwk⟩ := hm0.woken ok hl' g g'
  have hupd : ∀ k', k' ≠ k → upd wt k tg k' = wt k' := fun k' e => upd_ne wt tg e
  have hF : ∀ i, i ≠ p.q + 1 + k → upd F (p.q + 1 + k) o i = F i := fun i e => upd_ne F o e
  have hstg : ∀ k', (upd wt k tg k').stage ≤ (wt k').stage := fun k' => by
    by_cases e : k' = k
    · subst e; rw [upd_same]; rcases hlt with x | x
      · exact x.2
      · rw [x.1]; exact Nat.le_refl _
    · rw [hupd k' e]; exact Nat.le_refl _
  refine ⟨_, _, meas p (upd F (p.q + 1 + k) o) (upd wt k tg) mt' cs, hrun, ?_, _, w', sl, T', upd F (p.q + 1 + k) o, upd wt k tg, mt', cs, st', sm', woken p.P g g' w' a, rfl, ?_, rfl⟩
  · unfold meas
    rw [phi_retag _ _ _ htag]
    have e2 := sumTo_upd wt tg WT.phi hkl
    rcases hlt with ⟨h1, h2⟩ | ⟨h1, h2⟩
    · refine Prod.Lex.left _ _ ?_
      have e1 := sumTo_upd (Dw wt) (⟨tg.stage, 0, 0⟩ : WD) cnt hkl
      have hd : Dw (upd wt k tg) = upd (Dw wt) k ⟨tg.stage, 0, 0⟩ := by
        funext x
        unfold Dw
        by_cases e : x = k
        · subst e; rw [upd_same, upd_same]
        · rw [upd_ne _ _ e, upd_ne _ _ e]
      have hc : cnt (⟨tg.stage, 0, 0⟩ : WD) ≤ cnt (Dw wt k) := by
        by_cases h5 : 5 ≤ tg.stage <;> by_cases h6 : 5 ≤ (wt k).stage <;> simp only [cnt, Dw, h5, h6, if_true, if_false] <;> omega
      have hv : Vc cs.length (Dw (upd wt k tg)) ≤ Vc cs.length (Dw wt) := by
        rw [hd]
        simp only [Vc]
        omega
      have := phi_mono p.n p.l0.length hv mt
      omega
    · subst h1
      rw [upd_self]
      exact Prod.Lex.right _ (Prod.Lex.left _ _ ⟨p.q + 1 + k, by have := h.len; omega, by rw [upd_same]; exact h2, fun j hj => hF j hj⟩)
  · refine ⟨by simp [h.size], h.len, by rw [get_map_set _ _ _ _ (by omega), h.a0]; rfl, by rw [hF 0 (by omega)]; exact hm1, fun i h1 h2 => ?_, fun k' c' hk' => ?_, fun i hi => ?_, fun i hi => ?_, hblk, htrc, fun k' c' hk' => ?_, fun k' hk' => ?_, h.nd, hwg, hmode mt' htag hwk, hpay, fun k' hk' hs' => ?_, ⟨⟨hsu'.1.1.trans h.sus.1.1, hsu'.1.2.trans h.sus.1.2⟩, fun b hb hne => (hsu'.2 b hb hne).trans (h.sus.2 b hb hne)⟩⟩
    · obtain ⟨x, m, e1, e2, e3⟩ := h.old i h1 h2
      refine ⟨x, m, ?_, by rw [hdeaf i (by omega)]; exact e2, by rw [hF i (by omega)]; exact e3⟩
      rw [get_map_set _ _ _ _ (by omega), e1]
      simp [woken_quitsD e2]
    · by_cases e : k' = k
      · subst e
        obtain rfl : c' = c := by rw [hk] at hk'; exact (Option.some.inj hk').symm
        exact ⟨g', get_map_set_same _ _ _ (Array.getElem?_eq_some_iff.1 hg).1, by rw [upd_same, upd_same]; exact hs⟩
      · obtain ⟨x, e1, e2⟩ := h.wk k' c' hk'
        have hw : p.W T' k' c' (wt k') (F (p.q + 1 + k')) (Deaf t (p.q + 1 + k')) x w' := by
          unfold Ph.W
          rw [hT' _ (by omega)]
          exact WSit.suf (ok.tl k') e2 (hkept _ (by omega)) hl' hpay (hcell k' e)
        refine ⟨x, ?_, by rw [hupd k' e, hF _ (by omega), hdeaf _ (by omega)]; exact hw⟩
        rw [get_map_set _ _ _ _ (by omega), e1]
        obtain ⟨buf, s, r, c1, _, c3⟩ := h.chan k' c' hk'
        simp only [Option.map_some, Option.some.injEq]
        refine hw.woken (fun hp => ?_) g g'
        obtain ⟨rfl, c4⟩ := c3 hp
        rw [c4] at c1
        exact ⟨_, _, _, _, _, (hch c' (List.mem_of_getElem? hk')).trans c1⟩
    · rw [hT' i (by omega)]; exact h.tno i hi
    · rw [hdeaf i (by omega)]; exact h.above i hi
    · obtain ⟨buf, s, r, c1, c2, c3⟩ := h.chan k' c' hk'
      refine ⟨buf, s, r, by rw [shut_retag _ htag]; exact (hch c' (List.mem_of_getElem? hk')).trans c1, ?_, ?_⟩
      · rw [todo_retag _ htag, ← c2]
        by_cases e : k' = k
        · subst e; rw [upd_same]; exact hrest
        · rw [hupd k' e]
      · rw [shut_retag _ htag]
        by_cases e : k' = k
        · subst e; rw [upd_same, hpk]; intro x; cases x
        · rw [hupd k' e]; exact c3
    · by_cases e : k' = k
      · subst e; rw [upd_same, hrest]; exact h.short k' hk'
      · rw [hupd k' e]; exact h.short k' hk'
    · by_cases e : k' = k
      · subst e; rw [upd_same] at hs'; exact hrel hs'
      · rw [hupd k' e] at hs'
        obtain ⟨r, hr⟩ := h.rel k' hk' hs'
        exact ⟨r, hr.appOther hops (by omega)⟩
theorem GI.goM (ok : p.Ok) (h : GI p gs w t T F wt mt cs st sm a) {g' : Goroutine} {es : Array Event} (hgo : stepG p.P true a w = .go g' w' es)
    (hT' : ∀ i, i ≠ 0 → T' i = T i) (hkept : ∀ i, i ≠ 0 → Kept (T i).sh (T i).ow w w') (hblk : Blk T' (p.Sp cs) w') (htrc : Trc p.q cs.length p.Wg p.Su T' p.Cx w'.heap.size (t ++ MemOp.ofEvents 0 a.frame.fn a.frame.place es))
    (hsu' : (w'.os = w.os ∧ w'.output = w.output) ∧ ∀ b, p.Su b → b ≠ p.Wg → w'.heap[b]? = w.heap[b]?) (hch : ∀ b ∈ cs, w'.heap[b]? = w.heap[b]?) (hcell : ∀ k', w'.cell? ⟨p.C, k', none⟩ = w.cell? ⟨p.C, k', none⟩) (hpay : PayAt p.C p.n w') {st' sm' : Int} (hwg : WgAt p.ty p.Wg w' st' sm') {mt' : MT} {o : Od}
    (hs : p.M T' cs mt' o (Deaf (t ++ MemOp.ofEvents 0 a.frame.fn a.frame.place es) 0) g' w') (htodo : mt'.todo p.l0 = mt.todo p.l0) (hshut : ∀ c ∈ cs, mt'.shut c = mt.shut c)
    (hmode : Go.ConcN.Mode cs.length (Dw wt) mt'.ctag st' sm')
    (hlt : mt'.phi p.n p.l0.length (Vc cs.length (Dw wt)) < mt.phi p.n p.l0.length (Vc cs.length (Dw wt)) ∨ (mt' = mt ∧ Od.Sub o (F 0)) ∨ (mt = .w3 ∧ mt' = .bk ∧ o = F 0)) : Goal p gs w sl 0 t (meas p F wt mt cs) := by
  have hrun := runT_crowd_go (P := p.P) (sl := sl) (i := 0) h.a0 (show stepG p.P (0 == 0) a w = _ from hgo)
  have hops : ∀ op ∈ MemOp.ofEvents 0 a.frame.fn a.frame.place es, op.g = 0 := fun op hop => by obtain ⟨e, _, rfl⟩ := Go.Conc.mem_ofEvents hop; rfl
  have hdeaf : ∀ i, 0 ≠ i → Deaf (t ++ MemOp.ofEvents 0 a.frame.fn a.frame.place es) i = Deaf t i := fun i hi => Deaf_other t hi _ hops
  have hl' : WgLive p.ty p.Wg w' := ⟨_, _, hwg⟩
  have hF : ∀ i, i ≠ 0 → upd F 0 o i = F i := fun i e => upd_ne F o e
  refine ⟨_, _, meas p (upd F 0 o) wt mt' cs, hrun, ?_, _, w', sl, T', upd F 0 o, wt, mt', cs, st', sm', g', rfl, ?_, rfl⟩
  · unfold meas
    rcases hlt with h1 | ⟨rfl, h2⟩ | ⟨rfl, rfl, rfl⟩
    · exact Prod.Lex.left _ _ (by omega)
    · exact Prod.Lex.right _ (Prod.Lex.left _ _ ⟨0, by omega, by rw [upd_same]; exact h2, fun j hj => hF j hj⟩)
    · rw [upd_self]
      exact Prod.Lex.right _ (Prod.Lex.right _ (by simp [MT.tries]))
  · refine ⟨by simp [h.size], h.len, get_map_set_same _ _ _ (Array.getElem?_eq_some_iff.1 h.a0).1, by rw [upd_same]; exact hs, fun i h1 h2 => ?_, fun k' c' hk' => ?_, fun i hi => ?_, fun i hi => ?_, hblk, htrc, fun k' c' hk' => ?_, h.short, h.nd, hwg, hmode, hpay, fun k' hk' hs' => ?_, ⟨⟨hsu'.1.1.trans h.sus.1.1, hsu'.1.2.trans h.sus.1.2⟩, fun b hb hne => (hsu'.2 b hb hne).trans (h.sus.2 b hb hne)⟩⟩
    · obtain ⟨x, m, e1, e2, e3⟩ := h.old i h1 h2
      refine ⟨x, m, ?_, by rw [hdeaf i (by omega)]; exact e2, by rw [hF i (by omega)]; exact e3⟩
      rw [get_map_set _ _ _ _ (by omega), e1]
      simp [woken_quitsD e2]
    · obtain ⟨x, e1, e2⟩ := h.wk k' c' hk'
      have hw : p.W T' k' c' (wt k') (F (p.q + 1 + k')) (Deaf t (p.q + 1 + k')) x w' := by
        unfold Ph.W
        rw [hT' _ (by omega)]
        exact WSit.suf (ok.tl k') e2 (hkept _ (by omega)) hl' hpay (hcell k')
      refine ⟨x, ?_, by rw [hF _ (by omega), hdeaf _ (by omega)]; exact hw⟩
      rw [get_map_set _ _ _ _ (by omega), e1]
      obtain ⟨buf, s, r, c1, _, c3⟩ := h.chan k' c' hk'
      simp only [Option.map_some, Option.some.injEq]
      refine hw.woken (fun hp => ?_) a g'
      obtain ⟨rfl, c4⟩ := c3 hp
      rw [c4] at c1
      exact ⟨_, _, _, _, _, (hch c' (List.mem_of_getElem? hk')).trans c1⟩
    · rw [hT' i (by omega)]; exact h.tno i hi
    · rw [hdeaf i (by omega)]; exact h.above i hi
    · obtain ⟨buf, s, r, c1, c2, c3⟩ := h.chan k' c' hk'
      rw [htodo, hshut c' (List.mem_of_getElem? hk')]
      exact ⟨buf, s, r, (hch c' (List.mem_of_getElem? hk')).trans c1, c2, c3⟩
    · obtain ⟨r, hr⟩ := h.rel k' hk' hs'
      exact ⟨r, hr.appOther hops (by omega)⟩
end
end
end Go.Proofs.YtckoipoejaafhaaDoor.Cc

namespace Go.Proofs.YtckoipoejaafhaaDoor.Cc
open Go Go.Conc
open Go.ConcN (RW CT upd upd_same upd_ne WgLive PayAt Has AtR0 AtK1 AtD1 AtD2 AtD3 AtD4 RelBy CTag WD Vc cnt sumTo sumTo_upd sumTo_congr OpenSt AllQuit isW3 isFin isOpen pend)
open Go.ConcR (DC0 Payload KK WgAt stA smA rd wr mk Bk)
section
variable [Payload] {p : Ph} {gs : Array Goroutine} {w w' : World} {t : Trace} {T : Nat → Hold} {F : Nat → Od} {wt : Nat → WT} {mt : MT} {cs : List Nat} {st sm : Int} {a : Goroutine} {sl : Option (Nat × Nat)}
theorem GI.keptSp (h : GI p gs w t T F wt mt cs st sm a) (ht : w'.tape = w.tape) (hz : w.heap.size ≤ w'.heap.size) (hb : ∀ b, ¬ p.Sp cs b → w'.heap[b]? = w.heap[b]?) (i : Nat) : Kept (T i).sh (T i).ow w w' :=
  ⟨ht, hz, fun b hx => hb b (hx.elim (h.blk.sh_sp i b) (h.blk.ow_sp i b))⟩
structure EvG (Wg : Nat) (e : Event) : Prop where
  at_ : ∀ x, (MemAct.ofEvent e).touch? = some x → (∃ a, x.loc = .cell a ∧ a.block = Wg) ∧ x.kind ≠ .plain ∧ x.kind ≠ .said
  rel : e.loc ≠ .mark (.release (stA Wg))
omit [Payload] in
theorem Bk.evG {Wg : Nat} {e : Event} (h : Bk Wg e) : EvG Wg e := by
  rcases h with h | h | ⟨b, wr, rfl, hb⟩
  · exact ⟨fun x hx => by simp [Go.ConcR.ofEvent_loc_mark h, MemAct.touch?] at hx, fun e => by rw [h] at e; cases e⟩
  · exact ⟨fun x hx => by simp [Go.ConcR.ofEvent_loc_mark h, MemAct.touch?] at hx, fun e => by rw [h] at e; cases e⟩
  · refine ⟨fun x hx => ?_, fun e => by cases e⟩
    simp only [Go.ConcR.ofEvent_cell, MemAct.touch?, Option.some.injEq] at hx
    subst hx
    exact ⟨⟨b, rfl, hb⟩, by simp, by simp⟩
theorem GI.trcG (ok : p.Ok) (h : GI p gs w t T F wt mt cs st sm a) {k : Nat} (hk : k < cs.length) (fn : FuncId) (pos : String) {es : Array Event} (hev : ∀ e ∈ es, EvG p.Wg e) : Trc p.q cs.length p.Wg p.Su T p.Cx w.heap.size (t ++ MemOp.ofEvents (p.q + 1 + k) fn pos es) := by
  have hA := h.blk.apart (ok.com cs)
  refine h.trc.app (CT.appW (k := p.q + 1 + k) hA h.trc.ct (by omega) (by omega) fun op hop => ?_) (h.trc.low.app fun op hop x hx => ?_) (fun op hop e => ?_) (fun op hop _ x hx hs => ?_) (fun op hop h1 h2 => ?_)
  · obtain ⟨e, he, rfl⟩ := Go.Conc.mem_ofEvents hop
    refine ⟨rfl, fun x hx => ?_⟩
    obtain ⟨⟨b, e1, e2⟩, h2, h3⟩ := (hev e he).at_ x hx
    exact .inl ⟨⟨b, e1, e2 ▸ ok.su⟩, h2, h3⟩
  · obtain ⟨e, he, rfl⟩ := Go.Conc.mem_ofEvents hop
    obtain ⟨⟨b, e1, e2⟩, _, _⟩ := (hev e he).at_ x hx
    rw [e1]
    simp only [Loc.low, e2]
    exact h.blk.sp_lt _ (.inr (.inl ok.su))
  · obtain ⟨x, hx, rfl⟩ := Go.Conc.mem_ofEvents hop
    exact (hev x hx).rel (Go.ConcR.loc_of_ofEvent e)
  · obtain ⟨e, he, rfl⟩ := Go.Conc.mem_ofEvents hop
    obtain ⟨⟨b, e1, e2⟩, _, _⟩ := (hev e he).at_ x hx
    exact absurd ⟨b, e1, e2 ▸ ok.su⟩ hs
  · obtain ⟨e, he, rfl⟩ := Go.Conc.mem_ofEvents hop
    simp only at h2
    omega
omit [Payload] in
theorem Ph.Ok.cw (ok : p.Ok) : p.C ≠ p.Wg := fun e => ok.c (e ▸ ok.su)
theorem GI.sync (ok : p.Ok) (h : GI p gs w t T F wt mt cs st sm a) {k c : Nat} (hk : cs[k]? = some c) {g g' : Goroutine} {es : Array Event} (hg : gs[p.q + 1 + k]? = some g) (hgo : stepG p.P false g w = .go g' w' es)
    (hAs : Aside p.Wg w w') {st' sm' : Int} (hwg : WgAt p.ty p.Wg w' st' sm') (hev : ∀ e ∈ es, EvG p.Wg e) {tg : WT} {o : Od}
    (hs : p.W T k c tg o (Deaf (t ++ MemOp.ofEvents (p.q + 1 + k) g.frame.fn g.frame.place es) (p.q + 1 + k)) g' w') (hrest : tg.rest = (wt k).rest) (hpk : tg.isPk = false)
    (hmode : ∀ mt', (mt' = mt ∨ (mt = .bk ∧ mt' = .w3)) → (mayWake p.P g = true → g'.status = .running → mt' ≠ .bk) → Go.ConcN.Mode cs.length (Dw (upd wt k tg)) mt'.ctag st' sm')
    (hrel : tg.stage ≤ 6 → ∃ r, RelBy (stA p.Wg) (t ++ MemOp.ofEvents (p.q + 1 + k) g.frame.fn g.frame.place es) (p.q + 1 + k) r)
    (hlt : (tg.phi < (wt k).phi ∧ tg.stage ≤ (wt k).stage) ∨ (tg = wt k ∧ Od.Sub o (F (p.q + 1 + k)))) : Goal p gs w sl (p.q + 1 + k) t (meas p F wt mt cs) := by
  have hkl : k < cs.length := (List.getElem?_eq_some_iff.1 hk).1
  have hCb := hAs.block p.C ok.cw
  obtain ⟨pc, hp1, hp2⟩ := h.pay
  refine h.goW ok hk hg hgo (T' := T) (fun _ _ => rfl) (fun i _ => h.keptSp hAs.tape (Nat.le_of_eq hAs.size.symm) (fun b hb => hAs.block b fun e => hb (.inr (.inl (e ▸ ok.su)))) i) (h.blk.heap hAs.size) (by rw [hAs.size]; exact h.trcG ok hkl _ _ hev)
    ⟨⟨hAs.os, hAs.output⟩, fun b _ hne => hAs.block b hne⟩ (fun b hb => hAs.block b fun e => h.nd.2.2 b hb (e ▸ ok.su)) (fun k' _ => Go.ConcN.cell_of_block hCb k') ⟨pc, hCb.trans hp1, hp2⟩ hwg hs hrest hpk hmode hrel hlt
theorem GI.inner (ok : p.Ok) (h : GI p gs w t T F wt mt cs st sm a) {k c : Nat} (hk : cs[k]? = some c) {g : Goroutine} (hg : gs[p.q + 1 + k]? = some g) {X : Option (Nat × Nat)} (hX : X = none ∨ X = some (p.C, k)) {I : World → Prop} {Stop : Stp} {f : World → Od}
    (hI : I w) (hway : Way p.P false p.Wg (p.q + 1 + k) X I (T (p.q + 1 + k)).sh Stop (.mk f) (T (p.q + 1 + k)).ow g w) (hF : F (p.q + 1 + k) = .mk f) (hpk : (wt k).isPk = false) (hst : (wt k).stage = 7)
    (hs : ∀ g' w' es Ow', Act1 p.Wg (p.q + 1 + k) X (T (p.q + 1 + k)).sh (T (p.q + 1 + k)).ow w w' es Ow' → Way p.P false p.Wg (p.q + 1 + k) X I (T (p.q + 1 + k)).sh Stop (f w) Ow' g' w' → p.W (grown T (p.q + 1 + k) Ow') k c (wt k) (f w) (Deaf t (p.q + 1 + k)) g' w') :
    Goal p gs w sl (p.q + 1 + k) t (meas p F wt mt cs) := by
  have hkl : k < cs.length := (List.getElem?_eq_some_iff.1 hk).1
  obtain ⟨g', w', es, Ow', e1, e2, e3⟩ := hway.2 w ⟨Kept.refl _ _ _, hI⟩
  have hXs : ∀ c x, X = some (c, x) → p.Sp cs c := fun c x e => by
    rcases hX with q | q
    · rw [q] at e; cases e
    · rw [q] at e; cases e; exact .inl rfl
  have hXn : ∀ b, b ≠ p.C → ∀ x, X ≠ some (b, x) := fun b hb x e => by
    rcases hX with q | q
    · rw [q] at e; cases e
    · rw [q] at e; cases e; exact hb rfl
  have htr := h.blk.trace (ok.com cs) ok.su e2 h.trc.ct h.trc.low (by omega) g.frame.fn g.frame.place
  have hwg' : w'.heap[p.Wg]? = w.heap[p.Wg]? := h.blk.common e2 (.inr (.inl ok.su)) (hXn _ (Ne.symm ok.cw))
  have hcell : (∀ k', k' ≠ k → w'.cell? ⟨p.C, k', none⟩ = w.cell? ⟨p.C, k', none⟩) ∧ PayAt p.C p.n w' := by
    rcases hX with q | q
    · have hb : w'.heap[p.C]? = w.heap[p.C]? := h.blk.common e2 (.inl rfl) (fun x e => by rw [q] at e; cases e)
      obtain ⟨pc, hp1, hp2⟩ := h.pay
      exact ⟨fun k' _ => Go.ConcN.cell_of_block hb k', pc, hb.trans hp1, hp2⟩
    · exact ⟨fun k' hk' => (e2.cells _ _ q).1 k' hk', (e2.cells _ _ q).2 _ h.pay⟩
  refine h.goW ok hk hg e1 (T' := grown T (p.q + 1 + k) Ow') (fun i hi => upd_ne T _ hi) (fun i hi => h.blk.others e2 hXs hi) (h.blk.act e2) (h.trc.app htr.1 htr.2 (e2.norel _ _ _) (fun op hop _ x hx hsu => ?_) (fun op hop _ h2 => ?_))
    ⟨⟨e2.os, e2.output⟩, fun b hb _ => h.blk.common e2 (.inr (.inl hb)) (hXn b fun e => ok.c (e ▸ hb))⟩ (fun b hb => h.blk.common e2 (.inr (.inr hb)) (hXn b fun e => h.nd.2.1 (e ▸ hb))) hcell.1 hcell.2 (h.wg.of_block hwg') (by rw [e2.deaf]; exact hs g' w' es Ow' e2 e3) rfl hpk (fun mt' htag _ => ?_) (fun x => by omega) (.inr ⟨rfl, hF ▸ Od.Sub.mk f w⟩)
  · obtain ⟨e, he, rfl⟩ := Go.Conc.mem_ofEvents hop
    rcases e2.ev e he with ⟨b, q1, q2, _⟩ | rfl | q
    · obtain rfl := cell_touch q1 q2 hx
      exact ⟨by simp, rfl⟩
    · simp [MemAct.ofEvent, MemAct.touch?] at hx
    · obtain ⟨⟨b, q1, q2⟩, _, _⟩ := q.at_ x hx
      exact absurd ⟨b, q1, q2 ▸ ok.su⟩ hsu
  · obtain ⟨e, he, rfl⟩ := Go.Conc.mem_ofEvents hop
    simp only at h2
    omega
  · rw [upd_self]
    exact h.mode.retag (by rcases htag with rfl | ⟨rfl, rfl⟩ <;> simp [MT.ctag])
omit [Payload] in
theorem Dw_upd (wt : Nat → WT) (k : Nat) (tg : WT) : Dw (upd wt k tg) = upd (Dw wt) k ⟨tg.stage, 0, 0⟩ := by
  funext x
  unfold Dw
  by_cases e : x = k
  · subst e; rw [upd_same, upd_same]
  · rw [upd_ne _ _ e, upd_ne _ _ e]
omit [Payload] in
theorem idle_or_stop {P : Program} {R : World → World → Prop} {St : Goroutine → World → Prop} {n : Nat} {g : Goroutine} {w : World} (hR : R w w) (h : Goes P false R DC0 St n g w) : St g w ∨ ∃ m g', n = m + 1 ∧ stepG P false g w = .go g' w #[] ∧ Goes P false R DC0 St m g' w := by
  cases n with
  | zero => exact .inl (h w hR)
  | succ m =>
    rcases h with h | ⟨_, h⟩
    · exact .inl (h w hR)
    · have h1 := h w hR
      cases hg : stepG P false g w with
      | go g' w' es =>
        rw [hg, goes_go] at h1
        obtain ⟨⟨rfl, rfl⟩, h2⟩ := h1
        exact .inr ⟨m, g', rfl, rfl, h2⟩
      | _ => rw [hg] at h1; exact h1.elim
end
end Go.Proofs.YtckoipoejaafhaaDoor.Cc
