/-
  Texts that stood one behind the other, as one.
-/
import Derived.Test.YtckoipoejaafhaaDoorCcLAll
namespace Go.Proofs.YtckoipoejaafhaaDoor.Cc
open Go Go.Conc
open Go.ConcN (RW DWs CT upd upd_same upd_ne WgLive PayAt Has AtR0 AtK1 AtD1 AtD2 AtD3 AtD4 RelBy CTag WD Vc cnt sumTo sumTo_upd sumTo_congr OpenSt AllQuit isW3 isFin isOpen pend)
open Go.ConcR (DC0 Payload KK WgAt stA smA rd wr mk Bk)
theorem payCell {w : World} {c k n : Nat} [Payload] (v : Value) (h : PayAt c n w) (hk : k < n) : PayAt c n (w.setCell ⟨c, k, none⟩ v) ∧ Has c k v (w.setCell ⟨c, k, none⟩ v) ∧ ∀ k', k' ≠ k → (w.setCell ⟨c, k, none⟩ v).cell? ⟨c, k', none⟩ = w.cell? ⟨c, k', none⟩ := by
  obtain ⟨pc, h1, h2⟩ := h
  have e : (w.setCell ⟨c, k, none⟩ v).heap[c]? = some (.cells (pc.setIfInBounds k v) Payload.ety) := by
    simp [World.setCell, Array.getElem?_modify, h1]
  refine ⟨⟨_, e, by simpa using h2⟩, ?_, fun k' hk' => ?_⟩
  · simp only [Has, World.cell?, e]
    simp [h2, hk]
  · simp only [World.cell?, e, h1]
    rw [Array.getElem?_setIfInBounds_ne (Ne.symm hk')]
section
variable [Payload] {p : Ph} {gs : Array Goroutine} {w w' : World} {t : Trace} {T : Nat → Hold} {F : Nat → Od} {wt : Nat → WT} {mt : MT} {cs : List Nat} {st sm : Int} {a : Goroutine} {sl : Option (Nat × Nat)}
theorem GI.cell (ok : p.Ok) (h : GI p gs w t T F wt mt cs st sm a) {k c : Nat} (hk : cs[k]? = some c) {g g' : Goroutine} {es : Array Event} (hg : gs[p.q + 1 + k]? = some g) (hgo : stepG p.P false g w = .go g' w' es)
    (ht : w'.tape = w.tape ∧ w'.os = w.os ∧ w'.output = w.output) (hz : w'.heap.size = w.heap.size) (hb : ∀ b, b ≠ p.C → w'.heap[b]? = w.heap[b]?) (hcell : ∀ k', k' ≠ k → w'.cell? ⟨p.C, k', none⟩ = w.cell? ⟨p.C, k', none⟩) (hpay : PayAt p.C p.n w')
    (hev : ∀ e ∈ es, EvG p.Wg e ∨ e = ⟨.cell ⟨p.C, k, none⟩, true, false⟩) {tg : WT} {o : Od}
    (hs : p.W T k c tg o (Deaf (t ++ MemOp.ofEvents (p.q + 1 + k) g.frame.fn g.frame.place es) (p.q + 1 + k)) g' w') (hrest : tg.rest = (wt k).rest) (hpk : tg.isPk = false) (hst : tg.stage = 7) (hst' : (wt k).stage = 7)
    (hlt : tg.phi < (wt k).phi ∨ (tg = wt k ∧ Od.Sub o (F (p.q + 1 + k)))) : Goal p gs w sl (p.q + 1 + k) t (meas p F wt mt cs) := by
  have hkl : k < cs.length := (List.getElem?_eq_some_iff.1 hk).1
  have hA := h.blk.apart (ok.com cs)
  have hWg : w'.heap[p.Wg]? = w.heap[p.Wg]? := hb _ (Ne.symm ok.cw)
  have hOw : OwnT T p.Cx (p.q + 1 + k) (.cell ⟨p.C, k, none⟩) := ⟨_, rfl, .inr ⟨k, by have := h.len; omega, rfl, rfl⟩⟩
  have htr : Trc p.q cs.length p.Wg p.Su T p.Cx w.heap.size (t ++ MemOp.ofEvents (p.q + 1 + k) g.frame.fn g.frame.place es) := by
    refine h.trc.app (CT.appW (k := p.q + 1 + k) hA h.trc.ct (by omega) (by omega) fun op hop => ?_) (h.trc.low.app fun op hop x hx => ?_) (fun op hop e => ?_) (fun op hop _ x hx hs => ?_) (fun op hop h1 h2 => ?_)
    · obtain ⟨e, he, rfl⟩ := Go.Conc.mem_ofEvents hop
      refine ⟨rfl, fun x hx => ?_⟩
      rcases hev e he with q | rfl
      · obtain ⟨⟨b, e1, e2⟩, h2, h3⟩ := q.at_ x hx
        exact .inl ⟨⟨b, e1, e2 ▸ ok.su⟩, h2, h3⟩
      · obtain rfl := cell_touch (e := ⟨.cell ⟨p.C, k, none⟩, true, false⟩) rfl rfl hx
        exact .inr (.inl hOw)
    · obtain ⟨e, he, rfl⟩ := Go.Conc.mem_ofEvents hop
      rcases hev e he with q | rfl
      · obtain ⟨⟨b, e1, e2⟩, _, _⟩ := q.at_ x hx
        rw [e1]
        simp only [Loc.low, e2]
        exact h.blk.sp_lt _ (.inr (.inl ok.su))
      · obtain rfl := cell_touch (e := ⟨.cell ⟨p.C, k, none⟩, true, false⟩) rfl rfl hx
        exact h.blk.sp_lt _ (.inl rfl)
    · obtain ⟨x, hx, rfl⟩ := Go.Conc.mem_ofEvents hop
      rcases hev x hx with q | rfl
      · exact q.rel (Go.ConcR.loc_of_ofEvent e)
      · cases Go.ConcR.loc_of_ofEvent (e := ⟨.cell ⟨p.C, k, none⟩, true, false⟩) e
    · obtain ⟨e, he, rfl⟩ := Go.Conc.mem_ofEvents hop
      rcases hev e he with q | rfl
      · obtain ⟨⟨b, e1, e2⟩, _, _⟩ := q.at_ x hx
        exact absurd ⟨b, e1, e2 ▸ ok.su⟩ hs
      · obtain rfl := cell_touch (e := ⟨.cell ⟨p.C, k, none⟩, true, false⟩) rfl rfl hx
        exact ⟨by simp, rfl⟩
    · obtain ⟨e, he, rfl⟩ := Go.Conc.mem_ofEvents hop
      simp only at h2
      omega
  refine h.goW ok hk hg hgo (T' := T) (fun _ _ => rfl) (fun i _ => h.keptSp ht.1 (Nat.le_of_eq hz.symm) (fun b hx => hb b fun e => hx (.inl e)) i) (h.blk.heap hz) (by rw [hz]; exact htr)
    ⟨ht.2, fun b hs' _ => hb b fun e => ok.c (e ▸ hs')⟩ (fun b hx => hb b fun e => h.nd.2.1 (e ▸ hx)) hcell hpay (h.wg.of_block hWg) hs hrest hpk (fun mt' htag _ => ?_) (fun x => by omega) ?_
  · rw [Dw_upd]
    refine (h.mode.congr (D' := upd (Dw wt) k ⟨tg.stage, 0, 0⟩) fun x _ => ?_).retag (by rcases htag with rfl | ⟨rfl, rfl⟩ <;> simp [MT.ctag])
    by_cases e : x = k
    · subst e; rw [upd_same]; simp only [Dw]; omega
    · rw [upd_ne _ _ e]
  · exact hlt.imp (fun x => ⟨x, by omega⟩) id
theorem GI.store (ok : p.Ok) (h : GI p gs w t T F wt mt cs st sm a) {k c : Nat} (hk : cs[k]? = some c) {g : Goroutine} (hg : gs[p.q + 1 + k]? = some g) (hw : p.W T k c (wt k) (F (p.q + 1 + k)) (Deaf t (p.q + 1 + k)) g w) (htg : wt k = .st) : Goal p gs w sl (p.q + 1 + k) t (meas p F wt mt cs) := by
  have hkl : k < cs.length := (List.getElem?_eq_some_iff.1 hk).1
  have hkn : k < p.n := by have := h.len; omega
  rw [htg] at hw
  obtain ⟨hd, hway⟩ := hw
  cases hF : F (p.q + 1 + k) with
  | mk f =>
    rw [hF] at hway
    refine h.inner ok hk hg (.inl rfl) (I := yes) trivial hway hF (by rw [htg]; rfl) (by rw [htg]; rfl) fun g' w' es Ow' _ e3 => ?_
    rw [htg]
    refine ⟨hd, ?_⟩
    rw [grown_sh, grown_ow, if_pos rfl]
    exact e3
  | leaf =>
    rw [hF] at hway
    obtain ⟨_, val, hT, hgo⟩ := hway w ⟨Kept.refl _ _ _, trivial⟩
    obtain ⟨g', e1, m, hG⟩ := hgo h.pay h.live
    obtain ⟨c1, _, c3⟩ := payCell val h.pay hkn
    have hAs := aside_setCell w ⟨p.C, k, none⟩ val
    have hkp : Kept (T (p.q + 1 + k)).sh (T (p.q + 1 + k)).ow w (w.setCell ⟨p.C, k, none⟩ val) := h.keptSp hAs.tape (Nat.le_of_eq hAs.size.symm) (fun b hx => hAs.block b fun e => hx (.inl e)) _
    refine h.cell ok hk hg e1 ⟨hAs.tape, hAs.os, hAs.output⟩ hAs.size (fun b hx => hAs.block b hx) c3 c1 (fun e he => .inr (by simpa using he)) (tg := .r0 val) (o := Od.nat m) ⟨?_, ok.tl _ _ _ _ _ _ hT hkp, m, rfl, hG⟩ (by rw [htg]; rfl) rfl rfl (by rw [htg]; rfl) (.inl (by rw [htg]; simp [WT.phi]))
    rw [Deaf_own, hd]
    rfl
theorem GI.release (ok : p.Ok) (h : GI p gs w t T F wt mt cs st sm a) {k c : Nat} (hk : cs[k]? = some c) {g : Goroutine} (hg : gs[p.q + 1 + k]? = some g) (hw : p.W T k c (wt k) (F (p.q + 1 + k)) (Deaf t (p.q + 1 + k)) g w) {v : Value} (htg : wt k = .r0 v) : Goal p gs w sl (p.q + 1 + k) t (meas p F wt mt cs) := by
  have hkl : k < cs.length := (List.getElem?_eq_some_iff.1 hk).1
  rw [htg] at hw
  obtain ⟨hd, hT, m, hF, hG⟩ := hw
  have hstop : (AtR0 p.P p.ty p.Wg p.C p.n 0 (k + 1) v g w) ∨ ∃ m' g' w' es, m = m' + 1 ∧ stepG p.P false g w = .go g' w' es ∧ DWs p.Wg no2 no2 p.C p.n (k + 1) w w' es ∧ Goes p.P false (RW p.ty p.Wg p.C p.n 0 k) (DWs p.Wg no2 no2 p.C p.n (k + 1)) (AtR0 p.P p.ty p.Wg p.C p.n 0 (k + 1) v) m' g' w' := by
    cases m with
    | zero => exact .inl (hG w (RW.refl w))
    | succ m' =>
      rcases hG with x | ⟨_, x⟩
      · exact .inl (x w (RW.refl w))
      · have h1 := x w (RW.refl w)
        cases hg1 : stepG p.P false g w with
        | go g' w' es =>
          rw [hg1, goes_go] at h1
          exact .inr ⟨m', g', w', es, rfl, rfl, h1.1, h1.2⟩
        | _ => rw [hg1] at h1; exact h1.elim
  rcases hstop with ⟨_, hH, g', e1, m2, hG2⟩ | ⟨m', g', w', es, rfl, e1, ⟨hA, hE⟩, hG2⟩
  · refine h.sync ok hk hg e1 (Aside.refl _ w) h.wg (fun e he => ?_) (tg := .k1 v) (o := Od.nat m2) ⟨?_, hT, hH, m2, rfl, hG2⟩ (by rw [htg]; rfl) rfl (fun mt' htag _ => ?_) (fun _ => ⟨_, RelBy.new hd _ _⟩) (.inl ⟨by rw [htg]; simp [WT.phi], by rw [htg]; simp [WT.stage]⟩)
    · obtain rfl : e = Go.ConcR.mk (.releaseMerge (stA p.Wg)) := by simpa using he
      exact ⟨fun x hx => by simp [Go.ConcR.ofEvent_mk, MemAct.touch?] at hx, fun x => by cases x⟩
    · rw [Deaf_own, hd]
      rfl
    · rw [Dw_upd]
      refine (h.mode.counted hkl (by simp [Dw, htg, WT.stage]) (.inl rfl) 0 0).retag (by rcases htag with rfl | ⟨rfl, rfl⟩ <;> simp [MT.ctag])
  · have hkp : Kept (T (p.q + 1 + k)).sh (T (p.q + 1 + k)).ow w w' := h.keptSp hA.tape (Nat.le_of_eq hA.size.symm) (fun b hx => hA.block b fun e => hx (.inl e)) _
    refine h.cell ok hk hg e1 ⟨hA.tape, hA.os, hA.output⟩ hA.size hA.block hA.cells (hA.pay h.pay) (fun e he => .inl ?_) (tg := .r0 v) (o := Od.nat m') ⟨?_, ok.tl _ _ _ _ _ _ hT hkp, m', rfl, hG2⟩ (by rw [htg]) rfl rfl (by rw [htg]; rfl) (.inr ⟨htg.symm, hF ▸ Od.nat_sub m' w⟩)
    · obtain ⟨q1, _, _, q4⟩ := hE e he
      refine ⟨fun x hx => ?_, q4⟩
      rcases (q1 0 "").2 x hx with ⟨⟨b, e1, e2⟩, e3, e4⟩ | q | ⟨q, _⟩
      · exact ⟨⟨b, e1, e2⟩, e3, e4⟩
      · exact q.elim
      · exact q.elim
    · rw [Deaf_own, hd]
      exact deafBehind_still (fun e he => ⟨(hE e he).2.1, (hE e he).2.2.1⟩) 0
theorem GI.deafen (ok : p.Ok) (h : GI p gs w t T F wt mt cs st sm a) {k c : Nat} (hk : cs[k]? = some c) {g : Goroutine} (hg : gs[p.q + 1 + k]? = some g) (hw : p.W T k c (wt k) (F (p.q + 1 + k)) (Deaf t (p.q + 1 + k)) g w) {v : Value} (htg : wt k = .k1 v) : Goal p gs w sl (p.q + 1 + k) t (meas p F wt mt cs) := by
  have hkl : k < cs.length := (List.getElem?_eq_some_iff.1 hk).1
  obtain ⟨r, hr⟩ := h.rel k hkl (by rw [htg]; simp [WT.stage])
  rw [htg] at hw
  obtain ⟨hd, hT, hH, m, hF, hG⟩ := hw
  rcases idle_or_stop (RW.refl w) hG with ⟨_, g', e1, m2, hG2⟩ | ⟨m', g', rfl, e1, hG2⟩
  · refine h.sync ok hk hg e1 (Aside.refl _ w) h.wg (fun e he => ?_) (tg := .d1 v) (o := Od.nat m2) ⟨?_, hT, hH, m2, rfl, hG2⟩ (by rw [htg]; rfl) rfl (fun mt' htag _ => ?_) (fun _ => ⟨r, hr.book (Wg := p.Wg) hd _ _ (fun e he => ?_) (fun j e he => ?_)⟩) (.inl ⟨by rw [htg]; simp [WT.phi], by rw [htg]; simp [WT.stage]⟩)
    · obtain rfl : e = Go.ConcR.mk .disable := by simpa using he
      exact Bk.evG (.inl rfl)
    · rw [Deaf_own, hd]
      rfl
    · rw [Dw_upd]
      exact (h.mode.counted hkl (by simp [Dw, htg, WT.stage]) (.inr rfl) 0 0).retag (by rcases htag with rfl | ⟨rfl, rfl⟩ <;> simp [MT.ctag])
    · obtain rfl : e = Go.ConcR.mk .disable := by simpa using he
      exact .inl rfl
    · obtain rfl : e = Go.ConcR.mk .disable := by simpa using Array.mem_of_getElem? he
      exact .inl rfl
  · refine h.sync ok hk hg e1 (Aside.refl _ w) h.wg (fun e he => by simp at he) (tg := .k1 v) (o := Od.nat m') ⟨?_, hT, hH, m', rfl, hG2⟩ (by rw [htg]) rfl (fun mt' htag _ => ?_) (fun _ => ⟨r, hr.book (Wg := p.Wg) hd _ _ (fun e he => by simp at he) (fun j e he => by simp at he)⟩) (.inr ⟨htg.symm, hF ▸ Od.nat_sub m' w⟩)
    · rw [Deaf_own, hd]
      rfl
    · rw [← htg, upd_self]
      exact h.mode.retag (by rcases htag with rfl | ⟨rfl, rfl⟩ <;> simp [MT.ctag])
end
end Go.Proofs.YtckoipoejaafhaaDoor.Cc

namespace Go.Proofs.YtckoipoejaafhaaDoor.Cc
open Go Go.Conc
open Go.ConcN (RW DWs CT upd upd_same upd_ne WgLive PayAt Has AtR0 AtK1 AtD1 AtD2 AtD3 AtD4 RelBy CTag WD Vc Vc_upd Vc_le others_uncounted cnt sumTo sumTo_upd sumTo_congr le_sumTo OpenSt AllQuit isW3 isFin isOpen pend)
open Go.ConcR (DC0 Payload KK WgAt stA smA rd wr Bk)
theorem mode_less {j k : Nat} {D : Nat → WD} {tag : CTag} {st sm : Int} (hm : Go.ConcN.Mode j D tag st sm) (hi : k < j) (h5 : (D k).stage = 5) :
    ∃ x y : Nat, y ≤ 1 ∧ x ≤ j ∧ st = ((x : Int) + 1) * KK + (y : Int) ∧ sm = 0 ∧ ((x = 0 ∧ y = 1) → Go.ConcN.Mode j (upd D k ⟨4, 0, 0⟩) tag ((x : Int) * KK + (y : Int)) 0) ∧ (¬ (x = 0 ∧ y = 1) → Go.ConcN.Mode j (upd D k ⟨1, 0, 0⟩) tag ((x : Int) * KK + (y : Int)) 0) := by
  have c5 : cnt (D k) = 1 := by simp [cnt, h5]
  have hv := Vc_le j D
  have h1 : 1 ≤ Vc j D := by
    have := le_sumTo (f := fun i => cnt (D i)) hi
    simp only [Vc]
    omega
  have e1 := Vc_upd D (⟨1, 0, 0⟩ : WD) hi
  have z1 : cnt (⟨1, 0, 0⟩ : WD) = 0 := rfl
  have ho : OpenSt j D → OpenSt j (upd D k ⟨1, 0, 0⟩) := fun h a ha => by
    by_cases e : a = k
    · subst e; rw [upd_same]; simp
    · rw [upd_ne D _ e]; exact h a ha
  cases hm with
  | opn h1' h2 h3 =>
    have hp : pend tag ≤ 1 := by unfold pend; split <;> (try split) <;> omega
    refine ⟨Vc j D + pend tag - 1, 0, by omega, by omega, ?_, rfl, fun h => by omega, fun _ => ?_⟩
    · rw [show (((Vc j D + pend tag - 1 : Nat) : Int) + 1) = ((Vc j D + pend tag : Nat) : Int) by omega]; simp
    · have := Go.ConcN.Mode.opn (j := j) (D := upd D k ⟨1, 0, 0⟩) h1' (ho h2) (fun vs e => by have := h3 vs e; omega)
      rw [show Vc j (upd D k ⟨1, 0, 0⟩) + pend tag = Vc j D + pend tag - 1 by omega] at this
      simpa using this
  | reg h1' h2 h3 =>
    refine ⟨Vc j D - 1, 1, by omega, by omega, ?_, rfl, fun h => ?_, fun h => ?_⟩
    · rw [show (((Vc j D - 1 : Nat) : Int) + 1) = ((Vc j D : Nat) : Int) by omega]; rfl
    · have hu := others_uncounted hi (by omega) c5
      have := Go.ConcN.Mode.last (j := j) (D := upd D k ⟨4, 0, 0⟩) k h1' hi (.inl (by rw [upd_same])) (fun a ha e => by
        rw [upd_ne D _ e]
        have q1 := h2 a ha
        have q2 := hu a ha e
        simp only [cnt] at q2
        split at q2 <;> omega)
      rw [upd_same] at this
      simpa [h.1] using this
    · have := Go.ConcN.Mode.reg (j := j) (D := upd D k ⟨1, 0, 0⟩) h1' (ho h2) (by omega)
      rw [show Vc j (upd D k ⟨1, 0, 0⟩) = Vc j D - 1 by omega] at this
      exact this
  | last L _ _ h3 h4 =>
    by_cases e : k = L
    · subst e; omega
    · have := h4 k hi e; omega
  | sema h2 => have := h2 k hi; omega
  | fin _ h2 => have := h2 k hi; omega
theorem runs_of_deaf {P : Program} {m : Nat} {g : Goroutine} (h : QuitsD P m 1 g) : g.status = .running := by
  cases m with
  | zero => cases h.2
  | succ m =>
    rcases h with ⟨_, h⟩ | ⟨h, _⟩
    · cases h
    · exact h
section
variable [Payload] {p : Ph} {gs : Array Goroutine} {w w' : World} {t : Trace} {T : Nat → Hold} {F : Nat → Od} {wt : Nat → WT} {mt : MT} {cs : List Nat} {st sm : Int} {a : Goroutine} {sl : Option (Nat × Nat)}
omit [Payload] in
theorem retag_ctag {mt mt' : MT} (e : mt' = mt ∨ (mt = .bk ∧ mt' = .w3)) : mt'.ctag = mt.ctag ∨ (mt.ctag = .blk ∧ mt'.ctag = .w3) := by
  rcases e with rfl | ⟨rfl, rfl⟩ <;> simp [MT.ctag]
theorem GI.quiet (ok : p.Ok) (h : GI p gs w t T F wt mt cs st sm a) {k c : Nat} (hk : cs[k]? = some c) {g g' : Goroutine} (hg : gs[p.q + 1 + k]? = some g) (hgo : stepG p.P false g w = .go g' w #[]) {o : Od}
    (hs : p.W T k c (wt k) o (Deaf t (p.q + 1 + k)) g' w) (hpk : (wt k).isPk = false) (ho : Od.Sub o (F (p.q + 1 + k))) : Goal p gs w sl (p.q + 1 + k) t (meas p F wt mt cs) := by
  have hkl : k < cs.length := (List.getElem?_eq_some_iff.1 hk).1
  refine h.sync ok hk hg hgo (Aside.refl _ w) h.wg (fun e he => by simp at he) (tg := wt k) (o := o) (by rw [Deaf_own]; exact hs) rfl hpk (fun mt' htag _ => by rw [upd_self]; exact h.mode.retag (retag_ctag htag)) (fun x => ?_) (.inr ⟨rfl, ho⟩)
  obtain ⟨r, hr⟩ := h.rel k hkl x
  exact ⟨r, hr.book (Wg := p.Wg) rfl _ _ (fun e he => by simp at he) (fun j e he => by simp at he)⟩
theorem GI.count (ok : p.Ok) (h : GI p gs w t T F wt mt cs st sm a) {k c : Nat} (hk : cs[k]? = some c) {g : Goroutine} (hg : gs[p.q + 1 + k]? = some g) (hw : p.W T k c (wt k) (F (p.q + 1 + k)) (Deaf t (p.q + 1 + k)) g w) {v : Value} (htg : wt k = .d1 v) : Goal p gs w sl (p.q + 1 + k) t (meas p F wt mt cs) := by
  have hkl : k < cs.length := (List.getElem?_eq_some_iff.1 hk).1
  obtain ⟨r, hr⟩ := h.rel k hkl (by rw [htg]; simp [WT.stage])
  have hw0 := hw
  rw [htg] at hw
  obtain ⟨hd, hT, hH, m, hF, hG⟩ := hw
  rcases idle_or_stop (RW.refl w) hG with hst | ⟨m', g', rfl, e1, hG2⟩
  · obtain ⟨x, y, y1, xj, rfl, rfl, hlast, hless⟩ := mode_less h.mode hkl (by simp [Dw, htg, WT.stage])
    obtain ⟨g', e1, hq1, hq2⟩ := hst.2 x y y1 (by have := h.len; have := ok.n; omega) h.wg
    have hwg' : WgAt p.ty p.Wg (w.setCell (stA p.Wg) (.int .u64 ((x : Int) * KK + (y : Int)))) ((x : Int) * KK + (y : Int)) 0 := h.wg.setSt _
    have hAs := aside_setCell w (stA p.Wg) (.int .u64 ((x : Int) * KK + (y : Int)))
    have hbk : ∀ e ∈ #[rd (stA p.Wg), wr (stA p.Wg)], Bk p.Wg e := fun e he => by
      rcases (by simpa using he : e = rd (stA p.Wg) ∨ e = wr (stA p.Wg)) with rfl | rfl
      · exact .inr (.inr ⟨_, _, rfl, rfl⟩)
      · exact .inr (.inr ⟨_, _, rfl, rfl⟩)
    have hdf : Deaf (t ++ MemOp.ofEvents (p.q + 1 + k) g.frame.fn g.frame.place #[rd (stA p.Wg), wr (stA p.Wg)]) (p.q + 1 + k) = 1 := by rw [Deaf_own, hd]; rfl
    have hrl : ∃ r, RelBy (stA p.Wg) (t ++ MemOp.ofEvents (p.q + 1 + k) g.frame.fn g.frame.place #[rd (stA p.Wg), wr (stA p.Wg)]) (p.q + 1 + k) r := ⟨r, hr.book hd _ _ hbk (fun j e he => .inr (by
      have : j < 2 := by have := (Array.getElem?_eq_some_iff.1 he).1; simpa using this
      match j, this with
      | 0, _ => exact Nat.one_pos
      | 1, _ => exact Nat.one_pos))⟩
    have hT' := ok.tl _ _ _ _ _ _ hT (h.keptSp hAs.tape (Nat.le_of_eq hAs.size.symm) (fun b hb => hAs.block b fun e => hb (.inr (.inl (e ▸ ok.su)))) (p.q + 1 + k))
    have hH' : Has p.C k v (w.setCell (stA p.Wg) (.int .u64 ((x : Int) * KK + (y : Int)))) := (Go.ConcN.cell_of_block (hAs.block p.C ok.cw) k).trans hH
    by_cases hxy : x = 0 ∧ y = 1
    · obtain ⟨m2, hG2⟩ := hq1 hxy
      refine h.sync ok hk hg e1 hAs hwg' (fun e he => Bk.evG (hbk e he)) (tg := .d2 v) (o := Od.nat m2) ⟨hdf, hT', hH', m2, rfl, hG2⟩ (by rw [htg]; rfl) rfl (fun mt' htag _ => ?_) (fun _ => hrl) (.inl ⟨by rw [htg]; simp [WT.phi], by rw [htg]; simp [WT.stage]⟩)
      rw [Dw_upd]
      exact (hlast hxy).retag (retag_ctag htag)
    · obtain ⟨m2, hG2⟩ := hq2 hxy
      refine h.sync ok hk hg e1 hAs hwg' (fun e he => Bk.evG (hbk e he)) (tg := .qt v) (o := Od.nat m2) ⟨hT', hH', m2, rfl, by rw [hdf]; exact hG2⟩ (by rw [htg]; rfl) rfl (fun mt' htag _ => ?_) (fun _ => hrl) (.inl ⟨by rw [htg]; simp [WT.phi], by rw [htg]; simp [WT.stage]⟩)
      rw [Dw_upd]
      exact (hless hxy).retag (retag_ctag htag)
  · exact h.quiet ok hk hg e1 (o := Od.nat m') (by rw [htg]; exact ⟨hd, hT, hH, m', rfl, hG2⟩) (by rw [htg]; rfl) (hF ▸ Od.nat_sub m' w)
theorem GI.last2 (ok : p.Ok) (h : GI p gs w t T F wt mt cs st sm a) {k c : Nat} (hk : cs[k]? = some c) {g : Goroutine} (hg : gs[p.q + 1 + k]? = some g) (hw : p.W T k c (wt k) (F (p.q + 1 + k)) (Deaf t (p.q + 1 + k)) g w) {v : Value} (htg : wt k = .d2 v) : Goal p gs w sl (p.q + 1 + k) t (meas p F wt mt cs) := by
  have hkl : k < cs.length := (List.getElem?_eq_some_iff.1 hk).1
  obtain ⟨r, hr⟩ := h.rel k hkl (by rw [htg]; simp [WT.stage])
  rw [htg] at hw
  obtain ⟨hd, hT, hH, m, hF, hG⟩ := hw
  rcases idle_or_stop (RW.refl w) hG with hst | ⟨m', g', rfl, e1, hG2⟩
  · obtain ⟨i3, io, is, im⟩ := h.mode.isLast hkl (.inl (by simp [Dw, htg, WT.stage]))
    have hwg := h.wg
    rw [is, im] at hwg
    obtain ⟨g', e1, m2, hG2⟩ := hst.2 (by simpa [Dw, htg, WT.stage] using hwg)
    have hbk : ∀ e ∈ #[rd (stA p.Wg)], Bk p.Wg e := fun e he => by
      obtain rfl : e = rd (stA p.Wg) := by simpa using he
      exact .inr (.inr ⟨_, _, rfl, rfl⟩)
    refine h.sync ok hk hg e1 (Aside.refl _ w) h.wg (fun e he => Bk.evG (hbk e he)) (tg := .d3 v) (o := Od.nat m2) ⟨by rw [Deaf_own, hd]; rfl, hT, hH, m2, rfl, hG2⟩ (by rw [htg]; rfl) rfl (fun mt' htag _ => ?_) (fun _ => ⟨r, hr.book hd _ _ hbk (fun j e he => .inr (by
      have : j < 1 := by have := (Array.getElem?_eq_some_iff.1 he).1; simpa using this
      match j, this with
      | 0, _ => exact Nat.one_pos))⟩) (.inl ⟨by rw [htg]; simp [WT.phi], by rw [htg]; simp [WT.stage]⟩)
    rw [Dw_upd, is, im]
    have := Go.ConcN.Mode.last (j := cs.length) (D := upd (Dw wt) k ⟨3, 0, 0⟩) k i3 hkl (.inr (.inl (by rw [upd_same]))) (fun x hx e => by rw [upd_ne _ _ e]; exact io x hx e)
    rw [upd_same] at this
    refine Go.ConcN.Mode.retag ?_ (retag_ctag htag)
    simpa [Dw, htg, WT.stage] using this
  · exact h.quiet ok hk hg e1 (o := Od.nat m') (by rw [htg]; exact ⟨hd, hT, hH, m', rfl, hG2⟩) (by rw [htg]; rfl) (hF ▸ Od.nat_sub m' w)
theorem GI.last3 (ok : p.Ok) (h : GI p gs w t T F wt mt cs st sm a) {k c : Nat} (hk : cs[k]? = some c) {g : Goroutine} (hg : gs[p.q + 1 + k]? = some g) (hw : p.W T k c (wt k) (F (p.q + 1 + k)) (Deaf t (p.q + 1 + k)) g w) {v : Value} (htg : wt k = .d3 v) : Goal p gs w sl (p.q + 1 + k) t (meas p F wt mt cs) := by
  have hkl : k < cs.length := (List.getElem?_eq_some_iff.1 hk).1
  obtain ⟨r, hr⟩ := h.rel k hkl (by rw [htg]; simp [WT.stage])
  rw [htg] at hw
  obtain ⟨hd, hT, hH, m, hF, hG⟩ := hw
  rcases idle_or_stop (RW.refl w) hG with hst | ⟨m', g', rfl, e1, hG2⟩
  · obtain ⟨i3, io, is, im⟩ := h.mode.isLast hkl (.inr (.inl (by simp [Dw, htg, WT.stage])))
    have hwg := h.wg
    rw [is, im] at hwg
    obtain ⟨g', e1, m2, hG2⟩ := hst.2 (by simpa [Dw, htg, WT.stage] using hwg)
    have hAs := aside_setCell w (stA p.Wg) (.int .u64 0)
    have hbk : ∀ e ∈ #[wr (stA p.Wg)], Bk p.Wg e := fun e he => by
      obtain rfl : e = wr (stA p.Wg) := by simpa using he
      exact .inr (.inr ⟨_, _, rfl, rfl⟩)
    have hT' := ok.tl _ _ _ _ _ _ hT (h.keptSp hAs.tape (Nat.le_of_eq hAs.size.symm) (fun b hb => hAs.block b fun e => hb (.inr (.inl (e ▸ ok.su)))) (p.q + 1 + k))
    have hH' : Has p.C k v (w.setCell (stA p.Wg) (.int .u64 0)) := (Go.ConcN.cell_of_block (hAs.block p.C ok.cw) k).trans hH
    refine h.sync ok hk hg e1 hAs (hwg.setSt 0) (fun e he => Bk.evG (hbk e he)) (tg := .d4 v) (o := Od.nat m2) ⟨by rw [Deaf_own, hd]; rfl, hT', hH', m2, rfl, hG2⟩ (by rw [htg]; rfl) rfl (fun mt' htag _ => ?_) (fun _ => ⟨r, hr.book hd _ _ hbk (fun j e he => .inr (by
      have : j < 1 := by have := (Array.getElem?_eq_some_iff.1 he).1; simpa using this
      match j, this with
      | 0, _ => exact Nat.one_pos))⟩) (.inl ⟨by rw [htg]; simp [WT.phi], by rw [htg]; simp [WT.stage]⟩)
    rw [Dw_upd]
    have := Go.ConcN.Mode.last (j := cs.length) (D := upd (Dw wt) k ⟨2, 0, 0⟩) k i3 hkl (.inr (.inr (by rw [upd_same]))) (fun x hx e => by rw [upd_ne _ _ e]; exact io x hx e)
    rw [upd_same] at this
    exact Go.ConcN.Mode.retag (by simpa [WT.stage] using this) (retag_ctag htag)
  · exact h.quiet ok hk hg e1 (o := Od.nat m') (by rw [htg]; exact ⟨hd, hT, hH, m', rfl, hG2⟩) (by rw [htg]; rfl) (hF ▸ Od.nat_sub m' w)
theorem GI.last4 (ok : p.Ok) (h : GI p gs w t T F wt mt cs st sm a) {k c : Nat} (hk : cs[k]? = some c) {g : Goroutine} (hg : gs[p.q + 1 + k]? = some g) (hw : p.W T k c (wt k) (F (p.q + 1 + k)) (Deaf t (p.q + 1 + k)) g w) {v : Value} (htg : wt k = .d4 v) : Goal p gs w sl (p.q + 1 + k) t (meas p F wt mt cs) := by
  have hkl : k < cs.length := (List.getElem?_eq_some_iff.1 hk).1
  obtain ⟨r, hr⟩ := h.rel k hkl (by rw [htg]; simp [WT.stage])
  rw [htg] at hw
  obtain ⟨hd, hT, hH, m, hF, hG⟩ := hw
  rcases idle_or_stop (RW.refl w) hG with hst | ⟨m', g', rfl, e1, hG2⟩
  · obtain ⟨i3, io, is, im⟩ := h.mode.isLast hkl (.inr (.inr (by simp [Dw, htg, WT.stage])))
    have hwg := h.wg
    rw [is, im] at hwg
    simp only [Dw, htg, WT.stage, if_true] at hwg
    obtain ⟨g', e1, m2, hG2⟩ := hst.2.2 hwg
    have hAs := aside_setCell w (smA p.Wg) (.int .u32 1)
    have hbk : ∀ e ∈ semEvents (smA p.Wg), Bk p.Wg e := fun e he => by
      simp only [semEvents, List.mem_toArray, List.mem_cons, List.not_mem_nil, or_false] at he
      rcases he with rfl | rfl | rfl | rfl
      · exact .inl rfl
      · exact .inr (.inr ⟨_, _, rfl, rfl⟩)
      · exact .inr (.inr ⟨_, _, rfl, rfl⟩)
      · exact .inr (.inl rfl)
    have hT' := ok.tl _ _ _ _ _ _ hT (h.keptSp hAs.tape (Nat.le_of_eq hAs.size.symm) (fun b hb => hAs.block b fun e => hb (.inr (.inl (e ▸ ok.su)))) (p.q + 1 + k))
    have hH' : Has p.C k v (w.setCell (smA p.Wg) (.int .u32 1)) := (Go.ConcN.cell_of_block (hAs.block p.C ok.cw) k).trans hH
    have hdf : Deaf (t ++ MemOp.ofEvents (p.q + 1 + k) g.frame.fn g.frame.place (semEvents (smA p.Wg))) (p.q + 1 + k) = 1 := by rw [Deaf_own, hd]; rfl
    refine h.sync ok hk hg e1 hAs (hwg.setSm 1) (fun e he => Bk.evG (hbk e he)) (tg := .qt v) (o := Od.nat m2) ⟨hT', hH', m2, rfl, by rw [hdf]; exact hG2⟩ (by rw [htg]; rfl) rfl (fun mt' htag hnb => ?_) (fun _ => ⟨r, hr.book hd _ _ hbk (fun j e he => .inr (by
      have : j < 4 := by have := (Array.getElem?_eq_some_iff.1 he).1; simpa [semEvents] using this
      match j, this with
      | 0, _ => exact Nat.one_pos
      | 1, _ => exact Nat.succ_pos _
      | 2, _ => exact Nat.succ_pos _
      | 3, _ => exact Nat.succ_pos _))⟩) (.inl ⟨by rw [htg]; simp [WT.phi], by rw [htg]; simp [WT.stage]⟩)
    have hnb' := hnb hst.2.1 (runs_of_deaf hG2)
    have hw3 : mt' = .w3 := by
      rcases htag with rfl | ⟨_, rfl⟩
      · cases mt' <;> simp [MT.ctag, isW3] at i3 hnb' ⊢
      · rfl
    subst hw3
    rw [Dw_upd]
    refine Go.ConcN.Mode.sema fun x hx => ?_
    by_cases e : x = k
    · subst e; rw [upd_same]; rfl
    · rw [upd_ne _ _ e]; exact io x hx e
  · exact h.quiet ok hk hg e1 (o := Od.nat m') (by rw [htg]; exact ⟨hd, hT, hH, m', rfl, hG2⟩) (by rw [htg]; rfl) (hF ▸ Od.nat_sub m' w)
omit [Payload] in
theorem mute_evG {Wg : Nat} {e : Event} (h : e.mute = true) : EvG Wg e := by
  refine ⟨fun x hx => (by rw [touch_mute h] at hx; cases hx), fun q => ?_⟩
  obtain ⟨loc, b1, b2⟩ := e
  simp only at q
  subst q
  cases h
theorem GI.leaves (ok : p.Ok) (h : GI p gs w t T F wt mt cs st sm a) {k c : Nat} (hk : cs[k]? = some c) {g : Goroutine} (hg : gs[p.q + 1 + k]? = some g) (hw : p.W T k c (wt k) (F (p.q + 1 + k)) (Deaf t (p.q + 1 + k)) g w) {v : Value} (htg : wt k = .qt v) (hrun : g.status = .running) : Goal p gs w sl (p.q + 1 + k) t (meas p F wt mt cs) := by
  have hkl : k < cs.length := (List.getElem?_eq_some_iff.1 hk).1
  obtain ⟨r, hr⟩ := h.rel k hkl (by rw [htg]; simp [WT.stage])
  rw [htg] at hw
  obtain ⟨hT, hH, m, hF, hQ⟩ := hw
  cases m with
  | zero => rw [hQ.1] at hrun; cases hrun
  | succ m =>
    rcases hQ with ⟨hf, _⟩ | ⟨_, g', es, hm, hst, hq⟩
    · rw [hf] at hrun; cases hrun
    refine h.sync ok hk hg (hst w) (Aside.refl _ w) h.wg (fun e he => mute_evG (hm e he)) (tg := .qt v) (o := Od.nat m) ⟨hT, hH, m, rfl, by rw [Deaf_own]; exact hq⟩ (by rw [htg]) rfl (fun mt' htag _ => ?_) (fun _ => ⟨r, hr.appOwn _ _ _ fun j e he => .inl (touch_mute (hm e (Array.mem_of_getElem? he)))⟩) (.inr ⟨htg.symm, hF ▸ Od.nat_sub m w⟩)
    rw [← htg, upd_self]
    exact h.mode.retag (retag_ctag htag)
end
end Go.Proofs.YtckoipoejaafhaaDoor.Cc
