/-
  The starter's own steps: on its way, and about the group.
-/
import Derived.Test.YtckoipoejaafhaaDoorCcRc
namespace Go.Proofs.YtckoipoejaafhaaDoor.Cc
open Go Go.Conc
open Go.ConcN (RW DWs CT upd upd_same upd_ne WgLive PayAt Has RelBy CTag WD Vc Vc_le cnt sumTo sumTo_upd sumTo_congr le_sumTo OpenSt AllQuit isW3 isFin isOpen pend)
open Go.ConcR (DC0 Payload KK WgAt stA smA rd wr Bk)
theorem mode_open {j : Nat} {D : Nat → WD} {tag tag' : CTag} {st sm : Int} (hm : Go.ConcN.Mode j D tag st sm) (h : isOpen tag) : OpenSt j D ∧ st = ((Vc j D + pend tag : Nat) : Int) * KK ∧ sm = 0 ∧ ((isOpen tag' → pend tag' = pend tag → (∀ vs, tag' ≠ .w2 vs) → Go.ConcN.Mode j D tag' st sm)) := by
  cases hm with
  | opn h1 h2 h3 => exact ⟨h2, rfl, rfl, fun a b c => by have := Go.ConcN.Mode.opn (tag := tag') a h2 (fun vs e => absurd e (c vs)); rw [b] at this; exact this⟩
  | reg h1 _ _ => cases tag <;> simp [isOpen, isW3] at h h1
  | last L h1 _ _ _ => cases tag <;> simp [isOpen, isW3] at h h1
  | sema _ => exact h.elim
  | fin h1 _ => cases tag <;> simp [isOpen, isFin] at h h1
theorem quit_of_none {j : Nat} {D : Nat → WD} (ho : OpenSt j D) (hv : Vc j D = 0) : AllQuit j D := fun i hi => by
  have h1 := le_sumTo (f := fun i => cnt (D i)) hi
  have h2 : cnt (D i) = 0 := by simp only [Vc] at hv; omega
  have q := ho i hi
  simp only [cnt] at h2
  split at h2 <;> omega
theorem lt3_of {n : Nat} {μ' ν μ : Nat × (Nat → Od) × Nat} (h : Lt3 n μ' ν) (h2 : ν.1 < μ.1) : Lt3 n μ' μ := by
  obtain ⟨a, b⟩ := μ'
  obtain ⟨c, d⟩ := ν
  obtain ⟨e, f⟩ := μ
  refine Prod.Lex.left _ _ ?_
  simp only at h2
  cases h with
  | left _ _ h => exact Nat.lt_trans h h2
  | right _ h => exact h2
structure EvM (Wg : Nat) (e : Event) : Prop where
  at_ : ∀ x, (MemAct.ofEvent e).touch? = some x → (∃ a, x.loc = .cell a ∧ a.block = Wg) ∧ x.kind ≠ .plain
  rel : e.loc ≠ .mark (.release (stA Wg))
theorem EvG.evM {Wg : Nat} {e : Event} (h : EvG Wg e) : EvM Wg e := ⟨fun x hx => ⟨(h.at_ x hx).1, (h.at_ x hx).2.1⟩, h.rel⟩
theorem EvS.evM {Wg : Nat} {e : Event} (h : EvS Wg 0 e) : EvM Wg e := ⟨fun x hx => ⟨(h.at_ x hx).1, (h.at_ x hx).2.1⟩, h.rel _⟩
theorem mark_evM {Wg : Nat} {m : Mark} (h1 : (MemAct.mark m).touch? = none) (h2 : m ≠ .release (stA Wg)) : EvM Wg (Go.ConcR.mk m) := ⟨fun x hx => (by rw [Go.ConcR.ofEvent_mk, h1] at hx; cases hx), fun e => h2 (Loc.mark.inj e)⟩
section
variable [Payload] {p : Ph} {gs : Array Goroutine} {w w' : World} {t : Trace} {T : Nat → Hold} {F : Nat → Od} {wt : Nat → WT} {mt : MT} {cs : List Nat} {st sm : Int} {a : Goroutine} {sl : Option (Nat × Nat)}
theorem GI.syncM (ok : p.Ok) (h : GI p gs w t T F wt mt cs st sm a) {g' : Goroutine} {es : Array Event} (hgo : stepG p.P true a w = .go g' w' es) (hAs : Aside p.Wg w w') {st' sm' : Int} (hwg : WgAt p.ty p.Wg w' st' sm') (hev : ∀ e ∈ es, EvM p.Wg e) {mt' : MT} {o : Od}
    (hs : p.M T cs mt' o (Deaf (t ++ MemOp.ofEvents 0 a.frame.fn a.frame.place es) 0) g' w') (htodo : mt'.todo p.l0 = mt.todo p.l0) (hshut : ∀ c ∈ cs, mt'.shut c = mt.shut c) (hmode : Go.ConcN.Mode cs.length (Dw wt) mt'.ctag st' sm')
    (hlt : mt'.phi p.n p.l0.length (Vc cs.length (Dw wt)) < mt.phi p.n p.l0.length (Vc cs.length (Dw wt)) ∨ (mt' = mt ∧ Od.Sub o (F 0)) ∨ (mt = .w3 ∧ mt' = .bk ∧ o = F 0)) : Goal p gs w sl 0 t (meas p F wt mt cs) := by
  have hCb := hAs.block p.C ok.cw
  obtain ⟨pc, hp1, hp2⟩ := h.pay
  have hA := h.blk.apart (ok.com cs)
  have htr : Trc p.q cs.length p.Wg p.Su T p.Cx w.heap.size (t ++ MemOp.ofEvents 0 a.frame.fn a.frame.place es) := by
    refine h.trc.app (CT.app0 hA h.trc.ct fun op hop => ?_) (h.trc.low.app fun op hop x hx => ?_) (fun op hop e => ?_) (fun op hop hq => ?_) (fun op hop h1 h2 => ?_)
    · obtain ⟨e, he, rfl⟩ := Go.Conc.mem_ofEvents hop
      refine ⟨rfl, fun x hx => ?_⟩
      obtain ⟨⟨b, e1, e2⟩, h2⟩ := (hev e he).at_ x hx
      exact .inl ⟨⟨b, e1, e2 ▸ ok.su⟩, h2⟩
    · obtain ⟨e, he, rfl⟩ := Go.Conc.mem_ofEvents hop
      obtain ⟨⟨b, e1, e2⟩, _⟩ := (hev e he).at_ x hx
      rw [e1]
      simp only [Loc.low, e2]
      exact h.blk.sp_lt _ (.inr (.inl ok.su))
    · obtain ⟨x, hx, rfl⟩ := Go.Conc.mem_ofEvents hop
      exact (hev x hx).rel (Go.ConcR.loc_of_ofEvent e)
    · obtain ⟨e, he, rfl⟩ := Go.Conc.mem_ofEvents hop
      simp at hq
    · obtain ⟨e, he, rfl⟩ := Go.Conc.mem_ofEvents hop
      simp at h1
  exact h.goM ok hgo (T' := T) (fun _ _ => rfl) (fun i _ => h.keptSp hAs.tape (Nat.le_of_eq hAs.size.symm) (fun b hb => hAs.block b fun e => hb (.inr (.inl (e ▸ ok.su)))) i) (h.blk.heap hAs.size) (by rw [hAs.size]; exact htr)
    ⟨⟨hAs.os, hAs.output⟩, fun b _ hne => hAs.block b hne⟩ (fun b hb => hAs.block b fun e => h.nd.2.2 b hb (e ▸ ok.su)) (fun k' => Go.ConcN.cell_of_block hCb k') ⟨pc, hCb.trans hp1, hp2⟩ hwg hs htodo hshut hmode hlt
theorem GI.innerM (ok : p.Ok) (h : GI p gs w t T F wt mt cs st sm a) {Stop : Stp} {f : World → Od} (hway : Way p.P true p.Wg 0 none (I0 p.ty p.Wg) (T 0).sh Stop (.mk f) (T 0).ow a w) (hF : F 0 = .mk f)
    (hs : ∀ g' w' Ow', Way p.P true p.Wg 0 none (I0 p.ty p.Wg) (T 0).sh Stop (f w) Ow' g' w' → p.M (grown T 0 Ow') cs mt (f w) (Deaf t 0) g' w') : Goal p gs w sl 0 t (meas p F wt mt cs) := by
  obtain ⟨g', w', es, Ow', e1, e2, e3⟩ := hway.2 w ⟨Kept.refl _ _ _, h.live⟩
  have hXs : ∀ c x, (none : Option (Nat × Nat)) = some (c, x) → p.Sp cs c := fun c x e => by cases e
  have htr := h.blk.trace (ok.com cs) ok.su e2 h.trc.ct h.trc.low (Nat.zero_le _) a.frame.fn a.frame.place
  have hsp : ∀ {b : Nat}, p.Sp cs b → w'.heap[b]? = w.heap[b]? := fun hb => h.blk.common e2 hb fun x e => by cases e
  obtain ⟨pc, hp1, hp2⟩ := h.pay
  refine h.goM ok e1 (T' := grown T 0 Ow') (fun i hi => upd_ne T _ hi) (fun i hi => h.blk.others e2 hXs hi) (h.blk.act e2) (h.trc.app htr.1 htr.2 (e2.norel _ _ _) (fun op hop hq => ?_) (fun op hop h1 _ => ?_))
    ⟨⟨e2.os, e2.output⟩, fun b hb _ => hsp (.inr (.inl hb))⟩ (fun b hb => hsp (.inr (.inr hb))) (fun k' => Go.ConcN.cell_of_block (hsp (.inl rfl)) k') ⟨pc, (hsp (.inl rfl)).trans hp1, hp2⟩ (h.wg.of_block (hsp (.inr (.inl ok.su)))) (by rw [e2.deaf]; exact hs g' w' Ow' e3) rfl (fun _ _ => rfl) h.mode (.inr (.inl ⟨rfl, hF ▸ Od.Sub.mk f w⟩))
  · obtain ⟨e, he, rfl⟩ := Go.Conc.mem_ofEvents hop
    simp at hq
  · obtain ⟨e, he, rfl⟩ := Go.Conc.mem_ofEvents hop
    simp at h1
omit [Payload] in
theorem gm_cases {P : Program} {ty : TypeId} {Wg m : Nat} {Sh Ow : Nat → Prop} {St : Goroutine → World → Prop} {g : Goroutine} {w : World} (h : Gm P ty Wg Sh Ow St m g w) : St g w ∨ ∃ m' g' es, m = m' + 1 ∧ stepG P true g w = .go g' w es ∧ (∀ e ∈ es, EvS Wg 0 e) ∧ Gm P ty Wg Sh Ow St m' g' w := by
  have hR : RM ty Wg Sh Ow w w := ⟨Kept.refl _ _ _, id⟩
  cases m with
  | zero => exact .inl (h w hR)
  | succ m =>
    rcases h with h | ⟨_, h⟩
    · exact .inl (h w hR)
    · have h1 := h w hR
      cases hg : stepG P true g w with
      | go g' w' es =>
        rw [hg, goes_go] at h1
        obtain ⟨⟨rfl, he⟩, h2⟩ := h1
        exact .inr ⟨m, g', es, rfl, rfl, he, h2⟩
      | _ => rw [hg] at h1; exact h1.elim
theorem GI.quietM (ok : p.Ok) (h : GI p gs w t T F wt mt cs st sm a) {g' : Goroutine} {es : Array Event} {m : Nat} (hgo : stepG p.P true a w = .go g' w es) (hev : ∀ e ∈ es, EvS p.Wg 0 e) (hF : F 0 = Od.nat (m + 1)) (hs : p.M T cs mt (Od.nat m) (Deaf t 0) g' w) : Goal p gs w sl 0 t (meas p F wt mt cs) := by
  refine h.syncM ok hgo (Aside.refl _ w) h.wg (fun e he => (hev e he).evM) (o := Od.nat m) ?_ rfl (fun _ _ => rfl) h.mode (.inr (.inl ⟨rfl, hF ▸ Od.nat_sub m w⟩))
  rw [Deaf_own, deafBehind_still (fun e he => ⟨(hev e he).dis, (hev e he).ena⟩)]
  exact hs
omit [Payload] in
theorem bk2_evM (Wg : Nat) : ∀ e ∈ #[rd (stA Wg), wr (stA Wg)], EvM Wg e := fun e he => by
  rcases (by simpa using he : e = rd (stA Wg) ∨ e = wr (stA Wg)) with rfl | rfl
  · exact (Bk.evG (Wg := Wg) (.inr (.inr ⟨stA Wg, _, rfl, rfl⟩))).evM
  · exact (Bk.evG (Wg := Wg) (.inr (.inr ⟨stA Wg, _, rfl, rfl⟩))).evM
omit [Payload] in
theorem bk1_evM (Wg : Nat) : ∀ e ∈ #[rd (stA Wg)], EvM Wg e := fun e he => by
  obtain rfl : e = rd (stA Wg) := by simpa using he
  exact (Bk.evG (Wg := Wg) (.inr (.inr ⟨stA Wg, _, rfl, rfl⟩))).evM
theorem GI.kdS (ok : p.Ok) (h : GI p gs w t T F wt mt cs st sm a) {r : Nat} (htg : mt = .kdS r) : Goal p gs w sl 0 t (meas p F wt mt cs) := by
  have hm := h.main
  rw [htg] at hm
  obtain ⟨hd, hl, hway⟩ := hm
  cases hF : F 0 with
  | mk f =>
    rw [hF] at hway
    refine h.innerM ok hway hF fun g' w' Ow' e3 => ?_
    rw [htg]
    refine ⟨hd, hl, ?_⟩
    rw [grown_sh, grown_ow, if_pos rfl]
    exact e3
  | leaf =>
    rw [hF] at hway
    obtain ⟨_, g', e1, m, hG⟩ := hway w ⟨Kept.refl _ _ _, h.live⟩
    have hmd := h.mode
    rw [htg] at hmd
    refine h.syncM ok e1 (Aside.refl _ w) h.wg (fun e he => ?_) (mt' := .a1 r) (o := Od.nat m) ⟨by rw [Deaf_own, hd]; rfl, hl, m, rfl, hG⟩ (by rw [htg]; rfl) (fun _ _ => by rw [htg]; rfl) ((mode_open hmd trivial).2.2.2 trivial rfl (by simp [MT.ctag])) (.inl (by rw [htg]; simp [MT.phi]))
    obtain rfl : e = Go.ConcR.mk .disable := by simpa using he
    exact mark_evM rfl (by simp)
theorem GI.a1 (ok : p.Ok) (h : GI p gs w t T F wt mt cs st sm a) {r : Nat} (htg : mt = .a1 r) : Goal p gs w sl 0 t (meas p F wt mt cs) := by
  have hm := h.main
  rw [htg] at hm
  obtain ⟨hd, hl, m, hF, hG⟩ := hm
  rcases gm_cases hG with hst | ⟨m', g', es, rfl, e1, hev, hG2⟩
  · have hmd := h.mode
    rw [htg] at hmd
    obtain ⟨ho, e2, e3, _⟩ := mode_open (tag' := .kd) hmd trivial
    have hv := Vc_le cs.length (Dw wt)
    obtain ⟨g', e1, m2, hG2⟩ := hst.2 (Vc cs.length (Dw wt)) (by have := h.len; have := ok.n; omega) (by have := h.wg; rw [e2, e3] at this; simpa [MT.ctag, pend] using this)
    refine h.syncM ok e1 (aside_setCell w (stA p.Wg) _) (h.wg.setSt _) (bk2_evM _) (mt' := .keS r) (o := Od.nat m2) ⟨by rw [Deaf_own, hd]; rfl, hl, m2, rfl, hG2⟩ (by rw [htg]; rfl) (fun _ _ => by rw [htg]; rfl) ?_ (.inl (by rw [htg]; simp [MT.phi]))
    have := Go.ConcN.Mode.opn (j := cs.length) (D := Dw wt) (tag := (MT.keS r).ctag) trivial ho (by simp [MT.ctag])
    rw [e3]
    simpa [MT.ctag, pend] using this
  · exact h.quietM ok e1 hev hF (by rw [htg]; exact ⟨hd, hl, m', rfl, hG2⟩)
theorem GI.keS (ok : p.Ok) (h : GI p gs w t T F wt mt cs st sm a) {r : Nat} (htg : mt = .keS r) : Goal p gs w sl 0 t (meas p F wt mt cs) := by
  have hm := h.main
  rw [htg] at hm
  obtain ⟨hd, hl, m, hF, hG⟩ := hm
  rcases gm_cases hG with hst | ⟨m', g', es, rfl, e1, hev, hG2⟩
  · have hmd := h.mode
    rw [htg] at hmd
    obtain ⟨_, g', e1, o, hW⟩ := hst
    refine h.syncM ok e1 (Aside.refl _ w) h.wg (fun e he => ?_) (mt' := .go r) (o := o) ⟨by rw [Deaf_own, hd]; rfl, hl, hW⟩ (by rw [htg]; rfl) (fun _ _ => by rw [htg]; rfl) ((mode_open hmd trivial).2.2.2 trivial rfl (by simp [MT.ctag])) (.inl (by rw [htg]; simp [MT.phi]))
    obtain rfl : e = Go.ConcR.mk .enable := by simpa using he
    exact mark_evM rfl (by simp)
  · exact h.quietM ok e1 hev hF (by rw [htg]; exact ⟨hd, hl, m', rfl, hG2⟩)
theorem GI.kd (ok : p.Ok) (h : GI p gs w t T F wt mt cs st sm a) (htg : mt = .kd) : Goal p gs w sl 0 t (meas p F wt mt cs) := by
  have hm := h.main
  rw [htg] at hm
  obtain ⟨hd, hl, hway⟩ := hm
  cases hF : F 0 with
  | mk f =>
    rw [hF] at hway
    refine h.innerM ok hway hF fun g' w' Ow' e3 => ?_
    rw [htg]
    refine ⟨hd, hl, ?_⟩
    rw [grown_sh, grown_ow, if_pos rfl]
    exact e3
  | leaf =>
    rw [hF] at hway
    obtain ⟨_, hfx, g', e1, m, hG⟩ := hway w ⟨Kept.refl _ _ _, h.live⟩
    have hmd := h.mode
    rw [htg] at hmd
    have hv := Vc_le cs.length (Dw wt)
    refine h.syncM ok e1 (Aside.refl _ w) h.wg (fun e he => ?_) (mt' := .an) (o := Od.nat m) ⟨by rw [Deaf_own, hd]; rfl, hl, ⟨w, hfx, Kept.refl _ _ _⟩, m, rfl, hG⟩ (by rw [htg]; rfl) (fun _ _ => by rw [htg]; rfl) ((mode_open hmd trivial).2.2.2 trivial rfl (by simp [MT.ctag])) (.inl (by rw [htg]; simp only [MT.phi]; omega))
    obtain rfl : e = Go.ConcR.mk .disable := by simpa using he
    exact mark_evM rfl (by simp)
theorem GI.w1 (ok : p.Ok) (h : GI p gs w t T F wt mt cs st sm a) (htg : mt = .w1) : Goal p gs w sl 0 t (meas p F wt mt cs) := by
  have hm := h.main
  rw [htg] at hm
  obtain ⟨hd, hl, hsn, m, hF, hG⟩ := hm
  rcases gm_cases hG with hst | ⟨m', g', es, rfl, e1, hev, hG2⟩
  · have hmd := h.mode
    rw [htg] at hmd
    obtain ⟨ho, e2, e3, _⟩ := mode_open (tag' := .kd) hmd trivial
    have hv := Vc_le cs.length (Dw wt)
    obtain ⟨g', e1, h0, h1⟩ := hst.2 (Vc cs.length (Dw wt)) (by have := h.len; have := ok.n; omega) (by have := h.wg; rw [e2, e3] at this; simpa [MT.ctag, pend] using this)
    by_cases hz : Vc cs.length (Dw wt) = 0
    · obtain ⟨m2, hG2⟩ := h0 hz
      refine h.syncM ok e1 (Aside.refl _ w) h.wg (bk1_evM _) (mt' := .ke) (o := Od.nat m2) ⟨by rw [Deaf_own, hd]; rfl, hl, hsn, m2, rfl, hG2⟩ (by rw [htg]; rfl) (fun _ _ => by rw [htg]; rfl) ?_ (.inl (by rw [htg]; simp only [MT.phi]; omega))
      have := Go.ConcN.Mode.fin (j := cs.length) (D := Dw wt) (tag := MT.ke.ctag) trivial (quit_of_none ho hz)
      rw [e2, e3]
      simpa [MT.ctag, pend, hz] using this
    · obtain ⟨m2, hG2⟩ := h1 hz
      refine h.syncM ok e1 (Aside.refl _ w) h.wg (bk1_evM _) (mt' := .w2 (Vc cs.length (Dw wt))) (o := Od.nat m2) ⟨by rw [Deaf_own, hd]; rfl, hl, hsn, m2, rfl, hG2⟩ (by rw [htg]; rfl) (fun _ _ => by rw [htg]; rfl) ?_ (.inl (by rw [htg]; simp only [MT.phi]; omega))
      have := Go.ConcN.Mode.opn (j := cs.length) (D := Dw wt) (tag := (MT.w2 (Vc cs.length (Dw wt))).ctag) trivial ho (fun vs e => by simp only [MT.ctag, CTag.w2.injEq] at e; subst e; exact ⟨Nat.le_refl _, by omega⟩)
      rw [e2, e3]
      exact this
  · exact h.quietM ok e1 hev hF (by rw [htg]; exact ⟨hd, hl, hsn, m', rfl, hG2⟩)
theorem GI.w2 (ok : p.Ok) (h : GI p gs w t T F wt mt cs st sm a) {vs : Nat} (htg : mt = .w2 vs) : Goal p gs w sl 0 t (meas p F wt mt cs) := by
  have hm := h.main
  rw [htg] at hm
  obtain ⟨hd, hl, hsn, m, hF, hG⟩ := hm
  rcases gm_cases hG with hst | ⟨m', g', es, rfl, e1, hev, hG2⟩
  · have hmd := h.mode
    rw [htg] at hmd
    obtain ⟨ho, e2, e3, hto⟩ := mode_open (tag' := .anch) hmd trivial
    have hvs : Vc cs.length (Dw wt) ≤ vs ∧ 1 ≤ vs := by
      cases hmd with
      | opn _ _ h3 => exact h3 vs rfl
      | reg h1 _ _ => exact h1.elim
      | last L h1 _ _ _ => exact h1.elim
      | fin h1 _ => exact h1.elim
    have hv := Vc_le cs.length (Dw wt)
    obtain ⟨h0, h1⟩ := hst.2 (Vc cs.length (Dw wt)) (by have := h.len; have := ok.n; omega) (by have := h.wg; rw [e2, e3] at this; simpa [MT.ctag, pend] using this)
    by_cases hz : Vc cs.length (Dw wt) = vs
    · obtain ⟨g', e1, m2, hG2⟩ := h0 hz
      refine h.syncM ok e1 (aside_setCell w (stA p.Wg) _) (h.wg.setSt _) (bk2_evM _) (mt' := .w3) (o := Od.nat m2) ⟨by rw [Deaf_own, hd]; rfl, hl, hsn.suf (h.keptSp (aside_setCell w (stA p.Wg) _).tape (Nat.le_of_eq (aside_setCell w (stA p.Wg) _).size.symm) (fun b hb => (aside_setCell w (stA p.Wg) _).block b fun e => hb (.inr (.inl (e ▸ ok.su)))) 0), m2, rfl, hG2⟩ (by rw [htg]; rfl) (fun _ _ => by rw [htg]; rfl) ?_ (.inl (by rw [htg]; simp only [MT.phi]; omega))
      have := Go.ConcN.Mode.reg (j := cs.length) (D := Dw wt) (tag := MT.w3.ctag) trivial ho (by omega)
      rw [e3]
      exact this
    · obtain ⟨g', e1, m2, hG2⟩ := h1 hz
      exact h.syncM ok e1 (Aside.refl _ w) h.wg (bk1_evM _) (mt' := .an) (o := Od.nat m2) ⟨by rw [Deaf_own, hd]; rfl, hl, hsn, m2, rfl, hG2⟩ (by rw [htg]; rfl) (fun _ _ => by rw [htg]; rfl) (hto trivial rfl (by simp)) (.inl (by rw [htg]; simp only [MT.phi]; omega))
  · exact h.quietM ok e1 hev hF (by rw [htg]; exact ⟨hd, hl, hsn, m', rfl, hG2⟩)
theorem GI.w3 (ok : p.Ok) (h : GI p gs w t T F wt mt cs st sm a) (htg : mt = .w3) : Goal p gs w sl 0 t (meas p F wt mt cs) := by
  have hm := h.main
  rw [htg] at hm
  obtain ⟨hd, hl, hsn, m, hF, hG⟩ := hm
  rcases gm_cases hG with hst | ⟨m', g', es, rfl, e1, hev, hG2⟩
  · have hmd := h.mode
    rw [htg] at hmd
    have hcase : (sm = 0 ∧ Go.ConcN.Mode cs.length (Dw wt) MT.bk.ctag st sm) ∨ (st = 0 ∧ sm = 1 ∧ AllQuit cs.length (Dw wt)) := by
      cases hmd with
      | opn h1 _ _ => exact h1.elim
      | reg h1 h2 h3 => exact .inl ⟨rfl, .reg trivial h2 h3⟩
      | last L h1 h2 h3 h4 => exact .inl ⟨rfl, .last L trivial h2 h3 h4⟩
      | sema h2 => exact .inr ⟨rfl, rfl, h2⟩
      | fin h1 _ => exact h1.elim
    rcases hcase with ⟨e3, hb⟩ | ⟨rfl, rfl, hq⟩
    · have e1 := hst.2.2.1 ⟨st, by have := h.wg; rw [e3] at this; exact this⟩
      exact h.syncM ok e1 (Aside.refl _ w) h.wg (fun e he => by simp at he) (mt' := .bk) (o := F 0) ⟨by rw [Deaf_own, hd]; rfl, hl, hsn, a, rfl, hst.1, hst.2.1, m, hF, hG⟩ (by rw [htg]; rfl) (fun _ _ => by rw [htg]; rfl) hb (.inr (.inr ⟨htg, rfl, rfl⟩))
    · obtain ⟨g', e1, m2, hG2⟩ := hst.2.2.2 h.wg
      have hAs := aside_setCell w (smA p.Wg) (.int .u32 0)
      refine h.syncM ok e1 hAs (h.wg.setSm 0) (fun e he => ?_) (mt' := .w4) (o := Od.nat m2) ⟨by rw [Deaf_own, hd]; rfl, hl, hsn.suf (h.keptSp hAs.tape (Nat.le_of_eq hAs.size.symm) (fun b hb => hAs.block b fun e => hb (.inr (.inl (e ▸ ok.su)))) 0), m2, rfl, hG2⟩ (by rw [htg]; rfl) (fun _ _ => by rw [htg]; rfl) (.fin trivial hq) (.inl (by rw [htg]; simp [MT.phi]))
      simp only [semEvents, List.mem_toArray, List.mem_cons, List.not_mem_nil, or_false] at he
      rcases he with rfl | rfl | rfl | rfl
      · exact (Bk.evG (Wg := p.Wg) (.inl rfl)).evM
      · exact (Bk.evG (Wg := p.Wg) (.inr (.inr ⟨smA p.Wg, _, rfl, rfl⟩))).evM
      · exact (Bk.evG (Wg := p.Wg) (.inr (.inr ⟨smA p.Wg, _, rfl, rfl⟩))).evM
      · exact (Bk.evG (Wg := p.Wg) (.inr (.inl rfl))).evM
  · exact h.quietM ok e1 hev hF (by rw [htg]; exact ⟨hd, hl, hsn, m', rfl, hG2⟩)
omit [Payload] in
theorem mode_fin {j : Nat} {D : Nat → WD} {tag : CTag} {st sm : Int} (hm : Go.ConcN.Mode j D tag st sm) (h : isFin tag) : AllQuit j D ∧ st = 0 ∧ sm = 0 := by
  cases hm with
  | opn h1 _ _ => cases tag <;> simp [isOpen, isFin] at h h1
  | reg h1 _ _ => cases tag <;> simp [isW3, isFin] at h h1
  | last L h1 _ _ _ => cases tag <;> simp [isW3, isFin] at h h1
  | sema _ => exact h.elim
  | fin _ h2 => exact ⟨h2, rfl, rfl⟩
theorem GI.w4 (ok : p.Ok) (h : GI p gs w t T F wt mt cs st sm a) (htg : mt = .w4) : Goal p gs w sl 0 t (meas p F wt mt cs) := by
  have hm := h.main
  rw [htg] at hm
  obtain ⟨hd, hl, hsn, m, hF, hG⟩ := hm
  rcases gm_cases hG with hst | ⟨m', g', es, rfl, e1, hev, hG2⟩
  · have hmd := h.mode
    rw [htg] at hmd
    obtain ⟨hq, rfl, rfl⟩ := mode_fin hmd trivial
    obtain ⟨g', e1, m2, hG2⟩ := hst.2 h.wg
    exact h.syncM ok e1 (Aside.refl _ w) h.wg (bk1_evM _) (mt' := .ke) (o := Od.nat m2) ⟨by rw [Deaf_own, hd]; rfl, hl, hsn, m2, rfl, hG2⟩ (by rw [htg]; rfl) (fun _ _ => by rw [htg]; rfl) (.fin trivial hq) (.inl (by rw [htg]; simp [MT.phi]))
  · exact h.quietM ok e1 hev hF (by rw [htg]; exact ⟨hd, hl, hsn, m', rfl, hG2⟩)
theorem GI.ke (ok : p.Ok) (h : GI p gs w t T F wt mt cs st sm a) (htg : mt = .ke) : Goal p gs w sl 0 t (meas p F wt mt cs) := by
  have hm := h.main
  rw [htg] at hm
  obtain ⟨hd, hl, hsn, m, hF, hG⟩ := hm
  rcases gm_cases hG with hst | ⟨m', g', es, rfl, e1, hev, hG2⟩
  · have hmd := h.mode
    rw [htg] at hmd
    obtain ⟨hq, rfl, rfl⟩ := mode_fin hmd trivial
    obtain ⟨_, g', e1, m2, hG2⟩ := hst
    refine h.syncM ok e1 (Aside.refl _ w) h.wg (fun e he => ?_) (mt' := .aq) (o := Od.nat m2) ⟨by rw [Deaf_own, hd]; rfl, hl, hsn, m2, rfl, hG2⟩ (by rw [htg]; rfl) (fun _ _ => by rw [htg]; rfl) (.fin trivial hq) (.inl (by rw [htg]; simp [MT.phi]))
    obtain rfl : e = Go.ConcR.mk .enable := by simpa using he
    exact mark_evM rfl (by simp)
  · exact h.quietM ok e1 hev hF (by rw [htg]; exact ⟨hd, hl, hsn, m', rfl, hG2⟩)
theorem GI.an (ok : p.Ok) (h : GI p gs w t T F wt mt cs st sm a) (htg : mt = .an) : Goal p gs w sl 0 t (meas p F wt mt cs) := by
  have hm := h.main
  rw [htg] at hm
  obtain ⟨hd, hl, hsn, m, hF, hG⟩ := hm
  rcases gm_cases hG with hst | ⟨m', g', es, rfl, e1, hev, hG2⟩
  · have hmd := h.mode
    rw [htg] at hmd
    obtain ⟨m2, hG2⟩ := ok.anch a hst (T 0).sh (T 0).ow w h.live
    have hFn : ∀ i, i ≠ 0 → upd F 0 (Od.nat m2) i = F i := fun i e => upd_ne F _ e
    have h' : GI p gs w t T (upd F 0 (Od.nat m2)) wt .w1 cs st sm a := by
      refine ⟨h.size, h.len, h.a0, ?_, fun i h1 h2 => ?_, fun k c hk => ?_, h.tno, h.above, h.blk, h.trc, fun k c hk => ?_, h.short, h.nd, h.wg, (mode_open hmd trivial).2.2.2 trivial rfl (by simp [MT.ctag]), h.pay, h.rel, h.sus⟩
      · rw [upd_same]
        exact ⟨hd, hl, hsn, m2, rfl, hG2⟩
      · rw [hFn i (by omega)]; exact h.old i h1 h2
      · rw [hFn _ (by omega)]; exact h.wk k c hk
      · have := h.chan k c hk
        rw [htg] at this
        exact this
    obtain ⟨mm, ops, μ', q1, q2, q3⟩ := h'.w1 (sl := sl) ok rfl
    exact ⟨mm, ops, μ', q1, lt3_of q2 (by rw [htg]; simp only [meas, MT.phi]; omega), q3⟩
  · exact h.quietM ok e1 hev hF (by rw [htg]; exact ⟨hd, hl, hsn, m', rfl, hG2⟩)
end
end Go.Proofs.YtckoipoejaafhaaDoor.Cc
