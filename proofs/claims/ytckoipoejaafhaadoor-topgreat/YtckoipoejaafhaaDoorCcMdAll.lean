/-
  Texts that stood one behind the other, as one.
-/
import Derived.Test.YtckoipoejaafhaaDoorCcMbAll
namespace Go.Proofs.YtckoipoejaafhaaDoor.Cc
open Go Go.Conc
open Go.ConcN (RW DWs CT upd upd_same upd_ne WgLive PayAt Has RelBy CTag WD Vc Vc_le cnt sumTo sumTo_upd sumTo_congr le_sumTo OpenSt isOpen pend)
open Go.ConcR (DC0 Payload KK WgAt stA smA rd wr Bk)
def MT.after (l0 : List (Nat × Value)) : Nat → MT
  | 0 => .sd l0
  | r + 1 => .kdS r
theorem after_shut (l0 : List (Nat × Value)) (r c : Nat) : (MT.after l0 r).shut c = false := by cases r <;> rfl
theorem after_todo (l0 : List (Nat × Value)) (r : Nat) : (MT.after l0 r).todo l0 = l0 := by cases r <;> rfl
theorem after_open (l0 : List (Nat × Value)) (r : Nat) : isOpen (MT.after l0 r).ctag ∧ pend (MT.after l0 r).ctag = 0 ∧ ∀ vs, (MT.after l0 r).ctag ≠ .w2 vs := by cases r <;> exact ⟨trivial, rfl, by simp [MT.after, MT.ctag]⟩
theorem left_le (l : List (Nat × Value)) (k : Nat) : (left l k).length ≤ l.length := by simp only [left, List.length_map]; exact List.length_filter_le _ _
section
variable {T : Nat → Hold} {i c : Nat} {Mv ShC : Nat → Prop}
def forkT (T : Nat → Hold) (i c : Nat) (Mv ShC : Nat → Prop) : Nat → Hold := upd (upd T 0 ⟨fun b => (T 0).sh b ∨ Mv b, fun b => (T 0).ow b ∧ ¬ Mv b ∧ b ≠ c⟩) i ⟨ShC, fun _ => False⟩
theorem forkT_at : forkT T i c Mv ShC i = ⟨ShC, fun _ => False⟩ := upd_same _ _ _
theorem forkT_zero (h : i ≠ 0) : forkT T i c Mv ShC 0 = ⟨fun b => (T 0).sh b ∨ Mv b, fun b => (T 0).ow b ∧ ¬ Mv b ∧ b ≠ c⟩ := by
  unfold forkT
  rw [upd_ne _ _ (Ne.symm h), upd_same]
theorem forkT_ne {k : Nat} (h1 : k ≠ i) (h0 : k ≠ 0) : forkT T i c Mv ShC k = T k := by
  unfold forkT
  rw [upd_ne _ _ h1, upd_ne _ _ h0]
theorem forkT_ow (h : i ≠ 0) {k b : Nat} (ho : (forkT T i c Mv ShC k).ow b) : (T k).ow b ∧ (k = 0 → ¬ Mv b ∧ b ≠ c) := by
  by_cases e : k = i
  · subst e; rw [forkT_at] at ho; exact ho.elim
  by_cases e0 : k = 0
  · subst e0; rw [forkT_zero h] at ho; exact ⟨ho.1, fun _ => ho.2⟩
  · rw [forkT_ne e e0] at ho; exact ⟨ho, fun x => absurd x e0⟩
theorem forkT_sh (h : i ≠ 0) (hC : ∀ b, ShC b → (T 0).sh b ∨ Mv b) {k b : Nat} (ho : (forkT T i c Mv ShC k).sh b) : (∃ k', (T k').sh b) ∨ Mv b := by
  by_cases e : k = i
  · subst e; rw [forkT_at] at ho; exact (hC b ho).imp (fun x => ⟨0, x⟩) id
  by_cases e0 : k = 0
  · subst e0; rw [forkT_zero h] at ho; exact ho.imp (fun x => ⟨0, x⟩) id
  · rw [forkT_ne e e0] at ho; exact .inl ⟨k, ho⟩
end
section
variable [Payload] {p : Ph} {gs : Array Goroutine} {w w' : World} {t : Trace} {T : Nat → Hold} {F : Nat → Od} {wt : Nat → WT} {mt : MT} {cs : List Nat} {st sm : Int} {a : Goroutine} {sl : Option (Nat × Nat)}
theorem GI.go (ok : p.Ok) (h : GI p gs w t T F wt mt cs st sm a) {r : Nat} (htg : mt = .go r) : Goal p gs w sl 0 t (meas p F wt mt cs) := by
  have hm := h.main
  rw [htg] at hm
  obtain ⟨hd, hl, hway⟩ := hm
  cases hF : F 0 with
  | mk f =>
    rw [hF] at hway
    refine h.innerM ok hway hF fun g' w' Ow' e3 => ?_
    rw [htg]
    refine ⟨hd, hl, ?_⟩
    rw [grown_sh, grown_ow, if_pos rfl]
    exact e3
  | leaf =>
    rw [hF] at hway
    obtain ⟨hr, g', child, c, Mv, ShC, hsp, hcr, hc, hOc, hMc, hMv, hSC, ⟨oc, hWc⟩, o, hW⟩ := hway w ⟨Kept.refl _ _ _, h.live⟩
    have hrun := runT_crowd_spawn (P := p.P) (sl := sl) (i := 0) h.a0 (show stepG p.P (0 == 0) a w = _ from hsp)
    have hi0 : p.q + 1 + cs.length ≠ 0 := by omega
    have hcnS : ¬ p.Sp cs c := h.blk.ow_sp 0 c hOc
    have hg0 : 0 < gs.size := (Array.getElem?_eq_some_iff.1 h.a0).1
    have hblk : Blk (forkT T (p.q + 1 + cs.length) c Mv ShC) (p.Sp (cs ++ [c])) w := by
      have hSp : ∀ b, p.Sp (cs ++ [c]) b → p.Sp cs b ∨ b = c := fun b hb => by
        rcases hb with hb | hb | hb
        · exact .inl (.inl hb)
        · exact .inl (.inr (.inl hb))
        · rcases List.mem_append.1 hb with hb | hb
          · exact .inl (.inr (.inr hb))
          · exact .inr (by simpa using hb)
      refine ⟨fun k b x => h.blk.ow_lt k b (forkT_ow hi0 x).1, fun k b x => ?_, fun b x => ?_, fun k k' b x y => h.blk.ow_ow k k' b (forkT_ow hi0 x).1 (forkT_ow hi0 y).1, fun k k' b x y => ?_, fun k b x y => ?_, fun k b x y => ?_⟩
      · rcases forkT_sh hi0 hSC x with ⟨k', x⟩ | x
        · exact h.blk.sh_lt k' b x
        · exact h.blk.ow_lt 0 b (hMv b x)
      · rcases hSp b x with x | rfl
        · exact h.blk.sp_lt b x
        · exact h.blk.ow_lt 0 _ hOc
      · obtain ⟨x1, x2⟩ := forkT_ow hi0 x
        rcases forkT_sh hi0 hSC y with ⟨k', y⟩ | y
        · exact h.blk.ow_sh k k' b x1 y
        · exact (x2 (h.blk.ow_ow k 0 b x1 (hMv b y))).1 y
      · obtain ⟨x1, x2⟩ := forkT_ow hi0 x
        rcases hSp b y with y | rfl
        · exact h.blk.ow_sp k b x1 y
        · exact (x2 (h.blk.ow_ow k 0 _ x1 hOc)).2 rfl
      · rcases forkT_sh hi0 hSC x with ⟨k', x'⟩ | x'
        · rcases hSp b y with y | y
          · exact h.blk.sh_sp k' b x' y
          · exact h.blk.ow_sh 0 k' b (y ▸ hOc) x'
        · rcases hSp b y with y | y
          · exact h.blk.ow_sp 0 b (hMv b x') y
          · exact hMc (y ▸ x')
    have hTk : ∀ k, 1 ≤ k → k ≤ p.q + cs.length → forkT T (p.q + 1 + cs.length) c Mv ShC k = T k := fun k h1 h2 => forkT_ne (by omega) (by omega)
    have hA := hblk.apart (ok.com (cs ++ [c]))
    have hct1 : CT (ShT p.Su) (OwnT (forkT T (p.q + 1 + cs.length) c Mv ShC) p.Cx) (RdT (forkT T (p.q + 1 + cs.length) c Mv ShC)) t (p.q + cs.length) := by
      refine CT.grow h.trc.ct (fun k h1 h2 l x => ?_) (fun k h1 h2 l x => ?_) (fun k h1 h2 l => ?_)
      · unfold OwnT at x ⊢; rw [hTk k h1 h2]; exact x
      · unfold OwnT at x; rw [hTk k h1 h2] at x; exact .inl x
      · unfold RdT; rw [hTk k h1 h2]
    have hct2 := CT.fork hA hct1 (x := { g := 0, fn := a.frame.fn, pos := a.frame.place, act := .go gs.size }) (y := { g := gs.size, fn := child.frame.fn, pos := a.frame.place, act := .start }) ⟨rfl, by show MemAct.go gs.size = _; rw [h.size]; congr 1; omega⟩ ⟨by show gs.size = _; have := h.size; omega, rfl⟩ hd
    have hu : ∀ op ∈ #[({ g := 0, fn := a.frame.fn, pos := a.frame.place, act := .go gs.size } : MemOp), { g := gs.size, fn := child.frame.fn, pos := a.frame.place, act := .start }], op.act.touch? = none ∧ op.act ≠ .mark .disable ∧ op.act ≠ .mark .enable ∧ op.act ≠ .mark (.release (stA p.Wg)) := fun op hop => by
      simp only [List.mem_toArray, List.mem_cons, List.not_mem_nil, or_false] at hop
      rcases hop with rfl | rfl <;> simp [MemAct.touch?]
    have htrc : Trc p.q (cs ++ [c]).length p.Wg p.Su (forkT T (p.q + 1 + cs.length) c Mv ShC) p.Cx w.heap.size (t ++ #[({ g := 0, fn := a.frame.fn, pos := a.frame.place, act := .go gs.size } : MemOp), { g := gs.size, fn := child.frame.fn, pos := a.frame.place, act := .start }]) := by
      refine h.trc.app (by rw [List.length_append]; exact hct2) (h.trc.low.app fun op hop x hx => ?_) (fun op hop => (hu op hop).2.2.2) (fun op hop _ x hx => ?_) (fun op hop _ _ => (hu op hop).1)
      · rw [(hu op hop).1] at hx; cases hx
      · rw [(hu op hop).1] at hx; cases hx
    have hdeaf : ∀ i, Deaf (t ++ #[({ g := 0, fn := a.frame.fn, pos := a.frame.place, act := .go gs.size } : MemOp), { g := gs.size, fn := child.frame.fn, pos := a.frame.place, act := .start }]) i = Deaf t i := fun i => Go.ConcN.Deaf_still t i _ fun op hop => ⟨(hu op hop).2.1, (hu op hop).2.2.1⟩
    have eops : ((MemOp.ofEvents 0 a.frame.fn a.frame.place #[]).push { g := 0, fn := a.frame.fn, pos := a.frame.place, act := .go gs.size } |>.push { g := gs.size, fn := child.frame.fn, pos := a.frame.place, act := .start }) = #[({ g := 0, fn := a.frame.fn, pos := a.frame.place, act := .go gs.size } : MemOp), { g := gs.size, fn := child.frame.fn, pos := a.frame.place, act := .start }] := by
      simp [ofEvents_eq]
    rw [eops] at hrun
    have hmd := h.mode
    rw [htg] at hmd
    obtain ⟨ho, e2, e3, _⟩ := mode_open (tag' := .kd) hmd trivial
    have hwt : ∀ k, k ≠ cs.length → upd wt cs.length (.rc (left p.l0 cs.length)) k = wt k := fun k e => upd_ne _ _ e
    have hVc : Vc (cs ++ [c]).length (Dw (upd wt cs.length (.rc (left p.l0 cs.length)))) = Vc cs.length (Dw wt) + 1 := by
      simp only [Vc, List.length_append, List.length_cons, List.length_nil, Nat.zero_add, sumTo]
      rw [sumTo_congr (g := fun i => cnt (Dw wt i)) fun i hi => by simp only [Dw, hwt i (by omega)]]
      simp only [Dw, upd_same, cnt, WT.stage]
      rfl
    have hF0 : upd (upd F 0 o) (p.q + 1 + cs.length) oc 0 = o := by rw [upd_ne _ _ (by omega), upd_same]
    have hFn : ∀ i, i ≠ 0 → i ≠ p.q + 1 + cs.length → upd (upd F 0 o) (p.q + 1 + cs.length) oc i = F i := fun i q1 q2 => by rw [upd_ne _ _ q2, upd_ne _ _ q1]
    have hgs : ∀ i, i ≠ 0 → i < gs.size → ((gs.setIfInBounds 0 g').push child)[i]? = gs[i]? := fun i q1 q2 => by
      rw [Array.getElem?_push, if_neg (by simp; omega), Array.getElem?_setIfInBounds_ne (Ne.symm q1)]
    have hcase : ∀ k c', (cs ++ [c])[k]? = some c' → (cs[k]? = some c' ∧ k < cs.length) ∨ (k = cs.length ∧ c' = c) := fun k c' hk => by
      rcases Nat.lt_or_ge k cs.length with hlt | hge
      · rw [List.getElem?_append_left hlt] at hk
        exact .inl ⟨hk, hlt⟩
      · rw [List.getElem?_append_right hge] at hk
        have hlt : k - cs.length < 1 := by have := (List.getElem?_eq_some_iff.1 hk).1; simpa using this
        have hk0 : k = cs.length := by omega
        subst hk0
        simp at hk
        exact .inr ⟨rfl, hk.symm⟩
    refine ⟨_, _, meas p (upd (upd F 0 o) (p.q + 1 + cs.length) oc) (upd wt cs.length (.rc (left p.l0 cs.length))) (MT.after p.l0 r) (cs ++ [c]), hrun, ?_, _, w, sl, forkT T (p.q + 1 + cs.length) c Mv ShC, upd (upd F 0 o) (p.q + 1 + cs.length) oc, upd wt cs.length (.rc (left p.l0 cs.length)), MT.after p.l0 r, cs ++ [c], st, sm, g', rfl, ?_, rfl⟩
    · unfold meas
      refine Prod.Lex.left _ _ ?_
      have hsum : sumTo (cs ++ [c]).length (fun k => (upd wt cs.length (.rc (left p.l0 cs.length)) k).phi) = sumTo cs.length (fun k => (wt k).phi) + (3 * (left p.l0 cs.length).length + 13) := by
        simp only [List.length_append, List.length_cons, List.length_nil, Nat.zero_add, sumTo]
        rw [sumTo_congr (g := fun k => (wt k).phi) fun i hi => by simp only [hwt i (by omega)]]
        simp only [upd_same, WT.phi]
      rw [hsum, htg]
      have hll := left_le p.l0 cs.length
      cases r with
      | zero => simp only [MT.after, MT.phi]; omega
      | succ r =>
        simp only [MT.after, MT.phi]
        rw [Nat.mul_succ (3 * p.l0.length + 20) (r + 1)]
        omega
    · refine ⟨by simp [h.size]; omega, by simp; omega, ?_, ?_, fun i h1 h2 => ?_, fun k c' hk => ?_, fun i hi => ?_, fun i hi => ?_, hblk, htrc, fun k c' hk => ?_, fun k hk => ?_, ⟨?_, ?_, ?_⟩, h.wg, ?_, h.pay, fun k hk hs' => ?_, h.sus⟩
      · rw [Array.getElem?_push, if_neg (by simp; omega), Array.getElem?_setIfInBounds_self_of_lt hg0]
      · rw [hF0, hdeaf]
        unfold Ph.M
        rw [forkT_zero hi0]
        cases r with
        | zero => exact ⟨hd, by simp; omega, hW⟩
        | succ r => exact ⟨hd, by simp; omega, hW⟩
      · obtain ⟨x, m, q1, q2, q3⟩ := h.old i h1 h2
        exact ⟨x, m, by rw [hgs i (by omega) (by rw [h.size]; omega)]; exact q1, by rw [hdeaf]; exact q2, by rw [hFn i (by omega) (by omega)]; exact q3⟩
      · rcases hcase k c' hk with ⟨hk', hlt⟩ | ⟨rfl, rfl⟩
        · obtain ⟨x, q1, q2⟩ := h.wk k c' hk'
          refine ⟨x, by rw [hgs _ (by omega) (by rw [h.size]; omega)]; exact q1, ?_⟩
          rw [hwt k (by omega), hFn _ (by omega) (by omega), hdeaf]
          unfold Ph.W
          rw [forkT_ne (by omega) (by omega)]
          exact q2
        · refine ⟨child, by rw [Array.getElem?_push, if_pos (by simp [h.size])], ?_⟩
          rw [upd_same, upd_same, hdeaf]
          unfold Ph.W
          rw [forkT_at]
          exact ⟨h.above _ (by omega), hWc⟩
      · simp only [List.length_append, List.length_cons, List.length_nil] at hi
        rw [forkT_ne (by omega) (by omega)]
        exact h.tno i (by omega)
      · simp only [List.length_append, List.length_cons, List.length_nil] at hi
        rw [hdeaf]
        exact h.above i (by omega)
      · rw [after_shut, after_todo]
        rcases hcase k c' hk with ⟨hk', hlt⟩ | ⟨rfl, rfl⟩
        · have := h.chan k c' hk'
          rw [htg] at this
          rw [hwt k (by omega)]
          exact this
        · rw [upd_same]
          exact ⟨#[], 0, 0, hc, by simp [WT.rest], fun q => by cases q⟩
      · by_cases e : k = cs.length
        · subst e
          rw [upd_same]
          exact Nat.le_trans (left_le _ _) ok.cap
        · rw [hwt k e]
          simp only [List.length_append, List.length_cons, List.length_nil] at hk
          exact h.short k (by omega)
      · exact List.nodup_append.2 ⟨h.nd.1, by simp, fun x hx y hy e => by
          simp only [List.mem_singleton] at hy
          subst hy e
          exact hcnS (.inr (.inr hx))⟩
      · intro hx
        rcases List.mem_append.1 hx with hx | hx
        · exact h.nd.2.1 hx
        · simp only [List.mem_singleton] at hx
          exact hcnS (.inl hx.symm)
      · intro b hb
        rcases List.mem_append.1 hb with hb | hb
        · exact h.nd.2.2 b hb
        · simp only [List.mem_singleton] at hb
          subst hb
          exact fun q => hcnS (.inr (.inl q))
      · have hop := after_open p.l0 r
        have := Go.ConcN.Mode.opn (j := (cs ++ [c]).length) (D := Dw (upd wt cs.length (.rc (left p.l0 cs.length)))) (tag := (MT.after p.l0 r).ctag) hop.1 (fun i hi => ?_) (fun vs e => absurd e (hop.2.2 vs))
        · rw [hVc, hop.2.1] at this
          rw [e2, e3]
          exact this
        · by_cases e : i = cs.length
          · subst e; simp only [Dw, upd_same, WT.stage]; simp
          · simp only [Dw, hwt i e]
            simp only [List.length_append, List.length_cons, List.length_nil] at hi
            exact ho i (by omega)
      · simp only [List.length_append, List.length_cons, List.length_nil] at hk
        by_cases e : k = cs.length
        · subst e; rw [upd_same] at hs'; simp [WT.stage] at hs'
        · rw [hwt k e] at hs'
          obtain ⟨r', hr'⟩ := h.rel k (by omega) hs'
          refine ⟨r', hr'.app fun i hi hgi hcnt => ?_⟩
          obtain ⟨x, hx, _⟩ := hcnt
          obtain ⟨op, hop, hox⟩ := touch_of hx
          rcases getElem?_append_cases hop with ⟨hlt, _⟩ | ⟨_, hopu⟩
          · omega
          · rw [(hu op hopu).1] at hox; cases hox
end
end Go.Proofs.YtckoipoejaafhaaDoor.Cc

namespace Go.Proofs.YtckoipoejaafhaaDoor.Cc
open Go Go.Conc
open Go.ConcN (RW DWs CT upd upd_same upd_ne WgLive PayAt Has RelBy CTag WD Vc Vc_le cnt sumTo sumTo_upd sumTo_congr le_sumTo OpenSt AllQuit isOpen isW3 isFin pend get_map_set get_map_set_same exists_counted)
open Go.ConcR (DC0 Payload KK WgAt stA smA rd wr Bk)
section
variable [Payload]
structure Joined (p : Ph) (gs : Array Goroutine) (w : World) (t : Trace) (T : Nat → Hold) (cs : List Nat) : Prop where
  size : gs.size = p.q + 1 + p.n
  main : ∃ a, gs[0]? = some a ∧ p.gK a
  old : ∀ i, 1 ≤ i → i < gs.size → ∃ g m, gs[i]? = some g ∧ QuitsD p.P m (Deaf t i) g
  anc : Anc (p.q + p.n) p.Su w.heap.size t
  snap : Snap p.Fx (T 0) w
  told : ∀ k, k < p.n → ∃ v, Has p.C k v w ∧ p.Tl k v (T (p.q + 1 + k)).sh (T (p.q + 1 + k)).ow w
  pay : PayAt p.C p.n w
  blk : Blk T (p.Sp cs) w
  wg : WgLive p.ty p.Wg w
  sus : (w.os = p.sw.os ∧ w.output = p.sw.output) ∧ ∀ b, p.Su b → b ≠ p.Wg → w.heap[b]? = p.sw.heap[b]?
def Ends (p : Ph) (m : Machine) (t : Trace) : Prop := ∃ gs w sl T cs, m = crowd gs w sl ∧ Joined p gs w t T cs
section
variable {p : Ph} {gs : Array Goroutine} {w w' : World} {t : Trace} {T : Nat → Hold} {F : Nat → Od} {wt : Nat → WT} {mt : MT} {cs : List Nat} {st sm : Int} {a : Goroutine} {sl : Option (Nat × Nat)}
theorem GI.at (ok : p.Ok) (h : GI p gs w t T F wt mt cs st sm a) (d : Nat) : GI p gs (w.at d) t T F wt mt cs st sm a :=
  ⟨h.size, h.len, h.a0, MSit.suf h.main ⟨rfl, Nat.le_refl _, fun _ _ => rfl⟩ ⟨_, _, h.wg⟩, h.old, fun k c hk => let ⟨g, h1, h2⟩ := h.wk k c hk; ⟨g, h1, WSit.suf (ok.tl k) h2 ⟨rfl, Nat.le_refl _, fun _ _ => rfl⟩ ⟨_, _, h.wg⟩ h.pay rfl⟩, h.tno, h.above, h.blk.heap rfl, h.trc, h.chan, h.short, h.nd, h.wg, h.mode, h.pay, h.rel, h.sus⟩
theorem GI.acquire (ok : p.Ok) (h : GI p gs w t T F wt mt cs st sm a) (htg : mt = .aq) : Goal p gs w sl 0 t (meas p F wt mt cs) ∨ ∃ m' ops, runT p.P (crowd gs w sl) 0 = (.next m', ops) ∧ Ends p m' (t ++ ops) := by
  have hm := h.main
  rw [htg] at hm
  obtain ⟨hd, hl, hsn, m, hF, hG⟩ := hm
  rcases gm_cases hG with ⟨_, g', e1, hgK⟩ | ⟨m', g', es, rfl, e1, hev, hG2⟩
  · right
    have hrun := runT_crowd_go (P := p.P) (sl := sl) (i := 0) h.a0 (show stepG p.P (0 == 0) a w = _ from e1)
    refine ⟨_, _, hrun, _, w, sl, T, cs, rfl, ?_⟩
    have hmd := h.mode
    rw [htg] at hmd
    obtain ⟨hq, _, _⟩ := mode_fin hmd trivial
    have hops : ∀ op ∈ MemOp.ofEvents 0 a.frame.fn a.frame.place #[Go.ConcR.mk (.acquire (stA p.Wg))], op.g = 0 := fun op hop => by obtain ⟨e, _, rfl⟩ := Go.Conc.mem_ofEvents hop; rfl
    have eu : MemOp.ofEvents 0 a.frame.fn a.frame.place #[Go.ConcR.mk (.acquire (stA p.Wg))] = #[{ g := 0, fn := a.frame.fn, pos := a.frame.place, act := .mark (.acquire (stA p.Wg)) }] := by
      rw [ofEvents_eq]
      simp [Go.ConcR.ofEvent_mk]
    have hu : ∀ op ∈ MemOp.ofEvents 0 a.frame.fn a.frame.place #[Go.ConcR.mk (.acquire (stA p.Wg))], op.act.touch? = none ∧ op.act ≠ .mark .disable ∧ op.act ≠ .mark .enable ∧ op.act ≠ .mark (.release (stA p.Wg)) := fun op hop => by
      rw [eu] at hop
      simp only [List.mem_toArray, List.mem_cons, List.not_mem_nil, or_false] at hop
      subst hop
      simp [MemAct.touch?]
    have hdeaf : ∀ i, Deaf (t ++ MemOp.ofEvents 0 a.frame.fn a.frame.place #[Go.ConcR.mk (.acquire (stA p.Wg))]) i = Deaf t i := fun i => Go.ConcN.Deaf_still t i _ fun op hop => ⟨(hu op hop).2.1, (hu op hop).2.2.1⟩
    have hqt : ∀ k, k < cs.length → ∃ v, wt k = .qt v := fun k hk => by
      have := hq k hk
      simp only [Dw] at this
      cases hk2 : wt k <;> rw [hk2] at this <;> simp [WT.stage] at this
      exact ⟨_, rfl⟩
    have htrc : Trc p.q cs.length p.Wg p.Su T p.Cx w.heap.size (t ++ MemOp.ofEvents 0 a.frame.fn a.frame.place #[Go.ConcR.mk (.acquire (stA p.Wg))]) := by
      refine h.trc.app (CT.mute h.trc.ct (fun op hop => (hu op hop).1) fun op hop => by rw [hops op hop]; omega) (h.trc.low.app fun op hop x hx => ?_) (fun op hop => (hu op hop).2.2.2) (fun op hop _ x hx => ?_) (fun op hop _ _ => (hu op hop).1)
      · rw [(hu op hop).1] at hx; cases hx
      · rw [(hu op hop).1] at hx; cases hx
    have hy : (t ++ MemOp.ofEvents 0 a.frame.fn a.frame.place #[Go.ConcR.mk (.acquire (stA p.Wg))])[t.size]? = some { g := 0, fn := a.frame.fn, pos := a.frame.place, act := .mark (.acquire (stA p.Wg)) } := by rw [eu]; simp
    have hanc := htrc.join (p := t.size) (by rw [act?_of hy]) (by simp [Trace.g?, hy]) ⟨0, by simp [Trace.g?, hy], by rw [deaf_old (Nat.le_refl _)]; exact hd⟩ (fun k hk => by
      obtain ⟨v, hv⟩ := hqt k hk
      obtain ⟨r, hr⟩ := h.rel k hk (by rw [hv]; simp [WT.stage])
      exact ⟨r, hr.appOther hops (by omega), lt_of_act? hr.act⟩) (by rw [hdeaf]; exact hd) (fun i hi => by rw [hdeaf]; exact h.above i hi)
    refine ⟨by simp [h.size, hl], ⟨g', get_map_set_same _ _ _ (Array.getElem?_eq_some_iff.1 h.a0).1, hgK⟩, fun i h1 h2 => ?_, by rw [← hl]; exact hanc, hsn, fun k hk => ?_, h.pay, h.blk, ⟨_, _, h.wg⟩, h.sus⟩
    · have hq1 : ∃ g m, gs[i]? = some g ∧ QuitsD p.P m (Deaf t i) g := by
        rcases Nat.lt_or_ge p.q i with hlt | hge
        · obtain ⟨k, rfl⟩ : ∃ k, i = p.q + 1 + k := ⟨i - (p.q + 1), by omega⟩
          have hk : k < cs.length := by simp [h.size] at h2; omega
          obtain ⟨v, hv⟩ := hqt k hk
          obtain ⟨x, x1, x2⟩ := h.wk k _ (List.getElem?_eq_getElem hk)
          rw [hv] at x2
          obtain ⟨_, _, m, _, x3⟩ := x2
          exact ⟨x, m, x1, x3⟩
        · obtain ⟨x, m, x1, x2, _⟩ := h.old i h1 hge
          exact ⟨x, m, x1, x2⟩
      obtain ⟨g, m, q1, q2⟩ := hq1
      refine ⟨g, m, ?_, by rw [hdeaf]; exact q2⟩
      rw [get_map_set _ _ _ _ (by omega), q1]
      simp [woken_quitsD q2]
    · obtain ⟨v, hv⟩ := hqt k (by omega)
      obtain ⟨x, _, x2⟩ := h.wk k _ (List.getElem?_eq_getElem (show k < cs.length by omega))
      rw [hv] at x2
      exact ⟨v, x2.2.1, x2.1⟩
  · exact .inl (h.quietM ok e1 hev hF (by rw [htg]; exact ⟨hd, hl, hsn, m', rfl, hG2⟩))
theorem GI.awake (ok : p.Ok) (h : GI p gs w t T F wt mt cs st sm a) : ∀ g ∈ gs, awake g := by
  intro g hg tm
  obtain ⟨i, hi⟩ := Array.mem_iff_getElem?.1 hg
  rcases Nat.eq_zero_or_pos i with rfl | h1
  · obtain rfl : g = a := by rw [h.a0] at hi; exact (Option.some.inj hi).symm
    rcases h.main.running ok h.live with hr | hb
    · rw [hr]; simp
    · have hm := h.main
      rw [hb] at hm
      obtain ⟨_, _, _, g₀, e, _⟩ := hm
      rw [e]; simp
  · rcases Nat.lt_or_ge p.q i with hlt | hge
    · obtain ⟨k, rfl⟩ : ∃ k, i = p.q + 1 + k := ⟨i - (p.q + 1), by omega⟩
      have hk : k < cs.length := by have := (Array.getElem?_eq_some_iff.1 hi).1; rw [h.size] at this; omega
      obtain ⟨x, e1, e2⟩ := h.wk k _ (List.getElem?_eq_getElem hk)
      obtain rfl : g = x := by rw [hi] at e1; exact Option.some.inj e1
      rcases WSit.status e2 with ⟨_, q | ⟨_, q⟩⟩ | ⟨vs, g₂, q, rfl⟩
      · rw [q]; simp
      · rw [q]; simp
      · simp [parked]
    · obtain ⟨x, m, e1, e2, _⟩ := h.old i h1 hge
      obtain rfl : g = x := by rw [hi] at e1; exact Option.some.inj e1
      rcases e2.status with q | q <;> rw [q] <;> simp
theorem GI.someone (ok : p.Ok) (h : GI p gs w t T F wt mt cs st sm a) : ∃ (i : Nat) (g : Goroutine), gs[i]? = some g ∧ g.status = .running := by
  rcases h.main.running ok h.live with hr | hb
  · exact ⟨0, a, h.a0, hr⟩
  have key : ∀ k, k < cs.length → 2 ≤ (wt k).stage → ∃ (i : Nat) (g : Goroutine), gs[i]? = some g ∧ g.status = .running := fun k hk h2 => by
    obtain ⟨x, e1, e2⟩ := h.wk k _ (List.getElem?_eq_getElem hk)
    obtain ⟨buf, s, r, _, _, c3⟩ := h.chan k _ (List.getElem?_eq_getElem hk)
    rcases WSit.status e2 with ⟨_, q | ⟨q, _⟩⟩ | ⟨vs, g₂, q, _⟩
    · exact ⟨_, x, e1, q⟩
    · omega
    · have := (c3 (by rw [q]; rfl)).2
      rw [hb] at this
      cases this
  have hmd := h.mode
  rw [hb] at hmd
  cases hmd with
  | opn h1 _ _ => exact h1.elim
  | reg _ _ h3 =>
    obtain ⟨k, hk, h5⟩ := exists_counted h3
    exact key k hk (by simp only [Dw] at h5; omega)
  | last L _ h2 h3 _ => exact key L h2 (by simp only [Dw] at h3; omega)
  | fin h1 _ => exact h1.elim
end
theorem phase_step {p : Ph} (ok : p.Ok) (μ : Nat × (Nat → Od) × Nat) (m : Machine) (t : Trace) (hI : Inv p μ m t) :
    (∃ m' ops μ', stepT p.P m = (.next m', ops) ∧ Lt3 (p.q + 1 + p.n) μ' μ ∧ Inv p μ' m' (t ++ ops)) ∨ ∃ m' ops, stepT p.P m = (.next m', ops) ∧ Ends p m' (t ++ ops) := by
  obtain ⟨gs, w, sl, T, F, wt, mt, cs, st, sm, a, rfl, h, rfl⟩ := hI
  obtain ⟨i, g, d, sl', hg, hrun, hstep⟩ := crowd_pick (P := p.P) (w := w) (sl := sl) (h.awake ok) (h.someone ok)
  rw [hstep]
  have h' := h.at ok d
  rcases Nat.eq_zero_or_pos i with rfl | h1
  · obtain rfl : g = a := by rw [h.a0] at hg; exact (Option.some.inj hg).symm
    cases htg : mt with
    | kdS r => rw [← htg]; exact .inl (h'.kdS ok htg)
    | a1 r => rw [← htg]; exact .inl (h'.a1 ok htg)
    | keS r => rw [← htg]; exact .inl (h'.keS ok htg)
    | go r => rw [← htg]; exact .inl (h'.go ok htg)
    | sd l => rw [← htg]; exact .inl (h'.sd ok htg)
    | cl l => rw [← htg]; exact .inl (h'.cl ok htg)
    | kd => rw [← htg]; exact .inl (h'.kd ok htg)
    | an => rw [← htg]; exact .inl (h'.an ok htg)
    | w1 => rw [← htg]; exact .inl (h'.w1 ok htg)
    | w2 vs => rw [← htg]; exact .inl (h'.w2 ok htg)
    | w3 => rw [← htg]; exact .inl (h'.w3 ok htg)
    | bk =>
      have hm := h.main
      rw [htg] at hm
      obtain ⟨_, _, _, g₀, e, _⟩ := hm
      rw [e] at hrun
      cases hrun
    | w4 => rw [← htg]; exact .inl (h'.w4 ok htg)
    | ke => rw [← htg]; exact .inl (h'.ke ok htg)
    | aq => rw [← htg]; exact h'.acquire ok htg
  · rcases Nat.lt_or_ge p.q i with hlt | hge
    · obtain ⟨k, rfl⟩ : ∃ k, i = p.q + 1 + k := ⟨i - (p.q + 1), by omega⟩
      have hk : k < cs.length := by have := (Array.getElem?_eq_some_iff.1 hg).1; rw [h.size] at this; omega
      exact .inl (h'.worker ok (List.getElem?_eq_getElem hk) hg hrun)
    · exact .inl (h'.slips ok h1 hge hg hrun)
theorem phase_runs {p : Ph} (ok : p.Ok) : ∀ (μ : Nat × (Nat → Od) × Nat) (m : Machine) (t : Trace), Inv p μ m t → ∃ N m' t', runNT p.P N m t = (.next m', t') ∧ Ends p m' t' := by
  intro μ
  induction μ using (Lt3.wf (p.q + 1 + p.n)).induction with
  | _ μ ih =>
    intro m t hI
    rcases phase_step ok μ m t hI with ⟨m', ops, μ', hs, hr, hI'⟩ | ⟨m', ops, hs, hE⟩
    · obtain ⟨N, m'', t', h1, h2⟩ := ih μ' hr m' (t ++ ops) hI'
      exact ⟨N + 1, m'', t', by rw [runNT_succ_next hs]; exact h1, h2⟩
    · exact ⟨1, m', t ++ ops, by rw [runNT_succ_next hs]; rfl, hE⟩
end
end Go.Proofs.YtckoipoejaafhaaDoor.Cc

namespace Go.Proofs.YtckoipoejaafhaaDoor.Cc
open Go Go.Conc
open Go.ConcN (CT Apart upd upd_same upd_ne sumTo sumTo_upd get_map_set get_map_set_same)
theorem apart_no (Su : Nat → Prop) : Apart (ShT Su) (OwnT noT noC) (RdT noT) :=
  ⟨fun _ _ _ h _ => absurd h ownT_no, fun _ _ _ h => absurd h ownT_no, fun _ _ h => absurd h ownT_no, fun _ _ h => absurd h rdT_no⟩
structure Bes (P : Program) (q : Nat) (Su Sh Ow : Nat → Prop) (f : Nat → Nat) (gs : Array Goroutine) (a : Goroutine) (w : World) (t : Trace) : Prop where
  size : gs.size = q + 1
  a0 : gs[0]? = some a
  old : ∀ i, 1 ≤ i → i ≤ q → ∃ g, gs[i]? = some g ∧ QuitsD P (f i) (Deaf t i) g
  anc : Anc q Su w.heap.size t
  sh : ∀ b, Sh b → b < w.heap.size ∧ ¬ Su b
  ow : ∀ b, Ow b → b < w.heap.size ∧ ¬ Su b
  su : ∀ b, Su b → b < w.heap.size
section
variable {P : Program} {q : Nat} {Su Sh Ow Ow' : Nat → Prop} {f : Nat → Nat} {gs : Array Goroutine} {a : Goroutine} {w w' : World} {t : Trace} {sl : Option (Nat × Nat)} {es : Array Event}
theorem Bes.at (h : Bes P q Su Sh Ow f gs a w t) (d : Nat) : Bes P q Su Sh Ow f gs a (w.at d) t := ⟨h.size, h.a0, h.old, h.anc, h.sh, h.ow, h.su⟩
theorem Anc.own {B B' : Nat} (h : Anc q Su B t) (hB : B ≤ B') (fn : FuncId) (pos : String) (hev : ∀ e ∈ es, (∃ ad, e.loc = .cell ad ∧ e.sync = false ∧ ad.block < B' ∧ ¬ Su ad.block) ∨ e = ⟨.mark .noRoom, false, true⟩) : Anc q Su B' (t ++ MemOp.ofEvents 0 fn pos es) := by
  have hops : ∀ op ∈ MemOp.ofEvents 0 fn pos es, op.g = 0 := fun op hop => by obtain ⟨e, _, rfl⟩ := Go.Conc.mem_ofEvents hop; rfl
  refine ⟨CT.app0 (apart_no Su) h.ct fun op hop => ?_, (h.low.mono hB).app fun op hop x hx => ?_, handedOver_app h.over fun op hop => .inl (hops op hop), ?_, fun i hi => ?_⟩
  · obtain ⟨e, he, rfl⟩ := Go.Conc.mem_ofEvents hop
    refine ⟨rfl, fun x hx => ?_⟩
    rcases hev e he with ⟨ad, e1, e2, _, e4⟩ | rfl
    · obtain rfl := cell_touch e1 e2 hx
      refine .inr ⟨fun ⟨b, q1, q2⟩ => ?_, fun _ _ _ => ownT_no, fun _ _ _ _ => rdT_no⟩
      cases q1
      exact e4 q2
    · simp [MemAct.ofEvent, MemAct.touch?] at hx
  · obtain ⟨e, he, rfl⟩ := Go.Conc.mem_ofEvents hop
    rcases hev e he with ⟨ad, e1, e2, e3, _⟩ | rfl
    · obtain rfl := cell_touch e1 e2 hx
      exact e3
    · simp [MemAct.ofEvent, MemAct.touch?] at hx
  · rw [Deaf_own, deafBehind_still fun e he => ?_]
    · exact h.hears
    · rcases hev e he with ⟨ad, e1, _⟩ | rfl
      · rw [e1]; exact ⟨by simp, by simp⟩
      · simp
  · rw [Deaf_other t (g' := 0) (by omega) _ hops]
    exact h.above i hi
theorem Bes.slip (h : Bes P q Su Sh Ow f gs a w t) (hr : a.status = .running) {i : Nat} (h1 : 1 ≤ i) (h2 : i ≤ q) {g : Goroutine} (hg : gs[i]? = some g) (hrun : g.status = .running) :
    ∃ gs' u k, runT P (crowd gs w sl) i = (.next (crowd gs' w sl), u) ∧ f i = k + 1 ∧ Bes P q Su Sh Ow (upd f i k) gs' a w (t ++ u) := by
  obtain ⟨x, e1, hQ⟩ := h.old i h1 h2
  obtain rfl : g = x := by rw [hg] at e1; exact Option.some.inj e1
  cases hf : f i with
  | zero => rw [hf] at hQ; rw [hQ.1] at hrun; cases hrun
  | succ k =>
    rw [hf] at hQ
    rcases hQ with ⟨hfin, _⟩ | ⟨_, g', es, hm, hst, hq⟩
    · rw [hfin] at hrun; cases hrun
    have hi0 : (i == 0) = false := by simp; omega
    have hrT := runT_crowd_go (P := P) (sl := sl) (i := i) hg (by rw [hi0]; exact hst w)
    have hops : ∀ op ∈ MemOp.ofEvents i g.frame.fn g.frame.place es, op.g = i := fun op hop => by obtain ⟨e, _, rfl⟩ := Go.Conc.mem_ofEvents hop; rfl
    have hnt : ∀ op ∈ MemOp.ofEvents i g.frame.fn g.frame.place es, op.act.touch? = none := fun op hop => by obtain ⟨e, he, rfl⟩ := Go.Conc.mem_ofEvents hop; exact touch_mute (hm e he)
    refine ⟨_, _, k, hrT, rfl, by simp [h.size], by rw [get_map_set _ _ _ _ (by omega), h.a0]; simp [woken_run hr], fun j j1 j2 => ?_, ⟨CT.mute h.anc.ct hnt fun op hop => by rw [hops op hop]; exact h2, h.anc.low.app fun op hop x hx => (by rw [hnt op hop] at hx; cases hx), handedOver_app h.anc.over fun op hop => .inr (hnt op hop), by rw [Deaf_other t (g' := i) (by omega) _ hops]; exact h.anc.hears, fun j hj => by rw [Deaf_other t (g' := i) (by omega) _ hops]; exact h.anc.above j hj⟩, h.sh, h.ow, h.su⟩
    by_cases e : j = i
    · subst e
      exact ⟨g', get_map_set_same _ _ _ (Array.getElem?_eq_some_iff.1 hg).1, by rw [upd_same, Deaf_own]; exact hq⟩
    · obtain ⟨x, x1, x2⟩ := h.old j j1 j2
      refine ⟨x, ?_, by rw [upd_ne _ _ e, Deaf_other t (g' := i) (Ne.symm e) _ hops]; exact x2⟩
      rw [get_map_set _ _ _ _ (Ne.symm e), x1]
      simp [woken_quitsD x2]
theorem Bes.awake (h : Bes P q Su Sh Ow f gs a w t) (hr : a.status = .running) : ∀ g ∈ gs, awake g := by
  intro g hg
  obtain ⟨i, hi⟩ := Array.mem_iff_getElem?.1 hg
  rcases Nat.eq_zero_or_pos i with rfl | h1
  · obtain rfl : g = a := by rw [h.a0] at hi; exact (Option.some.inj hi).symm
    exact awake_of (.inl hr)
  · have h2 : i ≤ q := by have := (Array.getElem?_eq_some_iff.1 hi).1; rw [h.size] at this; omega
    obtain ⟨x, e1, e2⟩ := h.old i h1 h2
    obtain rfl : g = x := by rw [hi] at e1; exact Option.some.inj e1
    exact awake_of (e2.status.elim .inl fun x => .inr (.inr x))
end
def AtEnds (P : Program) (Su : Nat → Prop) (Post : Value → World → Prop) : Stp := fun _ g w => g.status = .running ∧ ∃ v es, stepG P true g w = .ended (.done v) w es ∧ (∀ e ∈ es, (∃ ad, e.loc = .cell ad ∧ e.sync = false ∧ ad.block < w.heap.size ∧ ¬ Su ad.block) ∨ e = ⟨.mark .noRoom, false, true⟩) ∧ Post v w
end Go.Proofs.YtckoipoejaafhaaDoor.Cc
