/-
 Texts that stood one behind the other,as one.
-/
import Derived.Test.YtckoipoejaafhaaDoorCcMAll
namespace Go.Proofs.YtckoipoejaafhaaDoor.Cc
open Go Go.Conc
open Go.ConcN (RW DWs CT upd upd_same upd_ne WgLive PayAt Has AtR0 AtK1 AtD1 AtD2 AtD3 AtD4 RelBy CTag WD Vc Vc_upd Vc_le others_uncounted cnt sumTo sumTo_upd sumTo_congr le_sumTo OpenSt AllQuit isW3 isFin isOpen pend)
open Go.ConcR (DC0 Payload KK WgAt stA smA rd wr Bk)
theorem mode_less {j k : Nat} {D : Nat -> WD} {tag : CTag} {st sm : Int} (hm : Go.ConcN.Mode j D tag st sm) (hi : k < j) (h5 : (D k).stage = 5) :
   ∃ x y : Nat,y <= 1 /\ x <= j /\ st = ((x : Int) + 1) * KK + (y : Int) /\ sm = 0 /\ ((x = 0 /\ y = 1) -> Go.ConcN.Mode j (upd D k ⟨4,0,0⟩) tag ((x : Int) * KK + (y : Int)) 0) /\ (¬ (x = 0 /\ y = 1) -> Go.ConcN.Mode j (upd D k ⟨1,0,0⟩) tag ((x : Int) * KK + (y : Int)) 0) := by
 have c5 : cnt (D k) = 1 := by simp [cnt,h5]
 have hv := Vc_le j D
 have h1 : 1 <= Vc j D := by
   have := le_sumTo (f := fun i => cnt (D i)) hi
   simp only [Vc]
   omega
 have e1 := Vc_upd D (⟨1,0,0⟩ : WD) hi
 have z1 : cnt (⟨1,0,0⟩ : WD) = 0 := rfl
 have ho : OpenSt j D -> OpenSt j (upd D k ⟨1,0,0⟩) := fun h a ha => by
   by_cases e : a = k
   · subst e; rw [upd_same]; simp
   · rw [upd_ne D _ e]; exact h a ha
 cases hm with
 | opn h1' h2 h3 =>
   have hp : pend tag <= 1 := by unfold pend; split <;> (try split) <;> omega
   refine ⟨Vc j D + pend tag - 1,0,by omega,by omega,?_,rfl,fun h => by omega,fun _ => ?_⟩
   · rw [show (((Vc j D + pend tag - 1 : Nat) : Int) + 1) = ((Vc j D + pend tag : Nat) : Int) by omega]; simp
   · have := Go.ConcN.Mode.opn (j := j) (D := upd D k ⟨1,0,0⟩) h1' (ho h2) (fun vs e => by have := h3 vs e; omega)
     rw [show Vc j (upd D k ⟨1,0,0⟩) + pend tag = Vc j D + pend tag - 1 by omega] at this
     simpa using this
 | reg h1' h2 h3 =>
   refine ⟨Vc j D - 1,1,by omega,by omega,?_,rfl,fun h => ?_,fun h => ?_⟩
   · rw [show (((Vc j D - 1 : Nat) : Int) + 1) = ((Vc j D : Nat) : Int) by omega]; rfl
   · have hu := others_uncounted hi (by omega) c5
     have := Go.ConcN.Mode.last (j := j) (D := upd D k ⟨4,0,0⟩) k h1' hi (.inl (by rw [upd_same])) (fun a ha e => by
       rw [upd_ne D _ e]
       have q1 := h2 a ha
       have q2 := hu a ha e
       simp only [cnt] at q2
       split at q2 <;> omega)
     rw [upd_same] at this
     simpa [h.1] using this
   · have := Go.ConcN.Mode.reg (j := j) (D := upd D k ⟨1,0,0⟩) h1' (ho h2) (by omega)
     rw [show Vc j (upd D k ⟨1,0,0⟩) = Vc j D - 1 by omega] at this
     exact this
 | last L _ _ h3 h4 =>
   by_cases e : k = L
   · subst e; omega
   · have := h4 k hi e; omega
 | sema h2 => have := h2 k hi; omega
 | fin _ h2 => have := h2 k hi; omega
theorem runs_of_deaf {P : Program} {m : Nat} {g : Goroutine} (h : QuitsD P m 1 g) : g.status = .running := by
 cases m with
 | zero => cases h.2
 | succ m =>
   rcases h with ⟨_,h⟩ | ⟨h,_⟩
   · cases h
   · exact h
section
variable [Payload] {p : Ph} {gs : Array Goroutine} {w w' : World} {t : Trace} {T : Nat -> Hold} {F : Nat -> Od} {wt : Nat -> WT} {mt : MT} {cs : List Nat} {st sm : Int} {a : Goroutine} {sl : Option (Nat × Nat)}
omit [Payload] in
theorem retag_ctag {mt mt' : MT} (e : mt' = mt \/ (mt = .bk /\ mt' = .w3)) : mt'.ctag = mt.ctag \/ (mt.ctag = .blk /\ mt'.ctag = .w3) := by
 rcases e with rfl | ⟨rfl,rfl⟩ <;> simp [MT.ctag]
theorem GI.quiet (ok : p.Ok) (h : GI p gs w t T F wt mt cs st sm a) {k c : Nat} (hk : cs[k]? = some c) {g g' : Goroutine} (hg : gs[p.q + 1 + k]? = some g) (hgo : stepG p.P false g w = .go g' w #[]) {o : Od}
   (hs : p.W T k c (wt k) o (Deaf t (p.q + 1 + k)) g' w) (hpk : (wt k).isPk = false) (ho : Od.Sub o (F (p.q + 1 + k))) : Goal p gs w sl (p.q + 1 + k) t (meas p F wt mt cs) := by
 have hkl : k < cs.length := (List.getElem?_eq_some_iff.1 hk).1
 refine h.sync ok hk hg hgo (Aside.refl _ w) h.wg (fun e he => by simp at he) (tg := wt k) (o := o) (by rw [Deaf_own]; exact hs) rfl hpk (fun mt' htag _ => by rw [upd_self]; exact h.mode.retag (retag_ctag htag)) (fun x => ?_) (.inr ⟨rfl,ho⟩)
 obtain ⟨r,hr⟩ := h.rel k hkl x
 exact ⟨r,hr.book (Wg := p.Wg) rfl _ _ (fun e he => by simp at he) (fun j e he => by simp at he)⟩
theorem GI.count (ok : p.Ok) (h : GI p gs w t T F wt mt cs st sm a) {k c : Nat} (hk : cs[k]? = some c) {g : Goroutine} (hg : gs[p.q + 1 + k]? = some g) (hw : p.W T k c (wt k) (F (p.q + 1 + k)) (Deaf t (p.q + 1 + k)) g w) {v : Value} (htg : wt k = .d1 v) : Goal p gs w sl (p.q + 1 + k) t (meas p F wt mt cs) := by
 have hkl : k < cs.length := (List.getElem?_eq_some_iff.1 hk).1
 obtain ⟨r,hr⟩ := h.rel k hkl (by rw [htg]; simp [WT.stage])
 have hw0 := hw
 rw [htg] at hw
 obtain ⟨hd,hT,hH,m,hF,hG⟩ := hw
 rcases idle_or_stop (RW.refl w) hG with hst | ⟨m',g',rfl,e1,hG2⟩
 · obtain ⟨x,y,y1,xj,rfl,rfl,hlast,hless⟩ := mode_less h.mode hkl (by simp [Dw,htg,WT.stage])
   obtain ⟨g',e1,hq1,hq2⟩ := hst.2 x y y1 (by have := h.len; have := ok.n; omega) h.wg
   have hwg' : WgAt p.ty p.Wg (w.setCell (stA p.Wg) (.int .u64 ((x : Int) * KK + (y : Int)))) ((x : Int) * KK + (y : Int)) 0 := h.wg.setSt _
   have hAs := aside_setCell w (stA p.Wg) (.int .u64 ((x : Int) * KK + (y : Int)))
   have hbk : ∀ e ∈ #[rd (stA p.Wg),wr (stA p.Wg)],Bk p.Wg e := fun e he => by
     rcases (by simpa using he : e = rd (stA p.Wg) \/ e = wr (stA p.Wg)) with rfl | rfl
     · exact .inr (.inr ⟨_,_,rfl,rfl⟩)
     · exact .inr (.inr ⟨_,_,rfl,rfl⟩)
   have hdf : Deaf (t ++ MemOp.ofEvents (p.q + 1 + k) g.frame.fn g.frame.place #[rd (stA p.Wg),wr (stA p.Wg)]) (p.q + 1 + k) = 1 := by rw [Deaf_own,hd]; rfl
   have hrl : ∃ r,RelBy (stA p.Wg) (t ++ MemOp.ofEvents (p.q + 1 + k) g.frame.fn g.frame.place #[rd (stA p.Wg),wr (stA p.Wg)]) (p.q + 1 + k) r := ⟨r,hr.book hd _ _ hbk (fun j e he => .inr (by
     have : j < 2 := by have := (Array.getElem?_eq_some_iff.1 he).1; simpa using this
     match j,this with
     | 0,_ => exact Nat.one_pos
     | 1,_ => exact Nat.one_pos))⟩
   have hT' := ok.tl _ _ _ _ _ _ hT (h.keptSp hAs.tape (Nat.le_of_eq hAs.size.symm) (fun b hb => hAs.block b fun e => hb (.inr (.inl (e ▸ ok.su)))) (p.q + 1 + k))
   have hH' : Has p.C k v (w.setCell (stA p.Wg) (.int .u64 ((x : Int) * KK + (y : Int)))) := (Go.ConcN.cell_of_block (hAs.block p.C ok.cw) k).trans hH
   by_cases hxy : x = 0 /\ y = 1
   · obtain ⟨m2,hG2⟩ := hq1 hxy
     refine h.sync ok hk hg e1 hAs hwg' (fun e he => Bk.evG (hbk e he)) (tg := .d2 v) (o := Od.nat m2) ⟨hdf,hT',hH',m2,rfl,hG2⟩ (by rw [htg]; rfl) rfl (fun mt' htag _ => ?_) (fun _ => hrl) (.inl ⟨by rw [htg]; simp [WT.phi],by rw [htg]; simp [WT.stage]⟩)
     rw [Dw_upd]
     exact (hlast hxy).retag (retag_ctag htag)
   · obtain ⟨m2,hG2⟩ := hq2 hxy
     refine h.sync ok hk hg e1 hAs hwg' (fun e he => Bk.evG (hbk e he)) (tg := .qt v) (o := Od.nat m2) ⟨hT',hH',m2,rfl,by rw [hdf]; exact hG2⟩ (by rw [htg]; rfl) rfl (fun mt' htag _ => ?_) (fun _ => hrl) (.inl ⟨by rw [htg]; simp [WT.phi],by rw [htg]; simp [WT.stage]⟩)
     rw [Dw_upd]
     exact (hless hxy).retag (retag_ctag htag)
 · exact h.quiet ok hk hg e1 (o := Od.nat m') (by rw [htg]; exact ⟨hd,hT,hH,m',rfl,hG2⟩) (by rw [htg]; rfl) (hF ▸ Od.nat_sub m' w)
theorem GI.last2 (ok : p.Ok) (h : GI p gs w t T F wt mt cs st sm a) {k c : Nat} (hk : cs[k]? = some c) {g : Goroutine} (hg : gs[p.q + 1 + k]? = some g) (hw : p.W T k c (wt k) (F (p.q + 1 + k)) (Deaf t (p.q + 1 + k)) g w) {v : Value} (htg : wt k = .d2 v) : Goal p gs w sl (p.q + 1 + k) t (meas p F wt mt cs) := by
 have hkl : k < cs.length := (List.getElem?_eq_some_iff.1 hk).1
 obtain ⟨r,hr⟩ := h.rel k hkl (by rw [htg]; simp [WT.stage])
 rw [htg] at hw
 obtain ⟨hd,hT,hH,m,hF,hG⟩ := hw
 rcases idle_or_stop (RW.refl w) hG with hst | ⟨m',g',rfl,e1,hG2⟩
 · obtain ⟨i3,io,is,im⟩ := h.mode.isLast hkl (.inl (by simp [Dw,htg,WT.stage]))
   have hwg := h.wg
   rw [is,im] at hwg
   obtain ⟨g',e1,m2,hG2⟩ := hst.2 (by simpa [Dw,htg,WT.stage] using hwg)
   have hbk : ∀ e ∈ #[rd (stA p.Wg)],Bk p.Wg e := fun e he => by
     obtain rfl : e = rd (stA p.Wg) := by simpa using he
     exact .inr (.inr ⟨_,_,rfl,rfl⟩)
   refine h.sync ok hk hg e1 (Aside.refl _ w) h.wg (fun e he => Bk.evG (hbk e he)) (tg := .d3 v) (o := Od.nat m2) ⟨by rw [Deaf_own,hd]; rfl,hT,hH,m2,rfl,hG2⟩ (by rw [htg]; rfl) rfl (fun mt' htag _ => ?_) (fun _ => ⟨r,hr.book hd _ _ hbk (fun j e he => .inr (by
     have : j < 1 := by have := (Array.getElem?_eq_some_iff.1 he).1; simpa using this
     match j,this with
     | 0,_ => exact Nat.one_pos))⟩) (.inl ⟨by rw [htg]; simp [WT.phi],by rw [htg]; simp [WT.stage]⟩)
   rw [Dw_upd,is,im]
   have := Go.ConcN.Mode.last (j := cs.length) (D := upd (Dw wt) k ⟨3,0,0⟩) k i3 hkl (.inr (.inl (by rw [upd_same]))) (fun x hx e => by rw [upd_ne _ _ e]; exact io x hx e)
   rw [upd_same] at this
   refine Go.ConcN.Mode.retag ?_ (retag_ctag htag)
   simpa [Dw,htg,WT.stage] using this
 · exact h.quiet ok hk hg e1 (o := Od.nat m') (by rw [htg]; exact ⟨hd,hT,hH,m',rfl,hG2⟩) (by rw [htg]; rfl) (hF ▸ Od.nat_sub m' w)
theorem GI.last3 (ok : p.Ok) (h : GI p gs w t T F wt mt cs st sm a) {k c : Nat} (hk : cs[k]? = some c) {g : Goroutine} (hg : gs[p.q + 1 + k]? = some g) (hw : p.W T k c (wt k) (F (p.q + 1 + k)) (Deaf t (p.q + 1 + k)) g w) {v : Value} (htg : wt k = .d3 v) : Goal p gs w sl (p.q + 1 + k) t (meas p F wt mt cs) := by
 have hkl : k < cs.length := (List.getElem?_eq_some_iff.1 hk).1
 obtain ⟨r,hr⟩ := h.rel k hkl (by rw [htg]; simp [WT.stage])
 rw [htg] at hw
 obtain ⟨hd,hT,hH,m,hF,hG⟩ := hw
 rcases idle_or_stop (RW.refl w) hG with hst | ⟨m',g',rfl,e1,hG2⟩
 · obtain ⟨i3,io,is,im⟩ := h.mode.isLast hkl (.inr (.inl (by simp [Dw,htg,WT.stage])))
   have hwg := h.wg
   rw [is,im] at hwg
   obtain ⟨g',e1,m2,hG2⟩ := hst.2 (by simpa [Dw,htg,WT.stage] using hwg)
   have hAs := aside_setCell w (stA p.Wg) (.int .u64 0)
   have hbk : ∀ e ∈ #[wr (stA p.Wg)],Bk p.Wg e := fun e he => by
     obtain rfl : e = wr (stA p.Wg) := by simpa using he
     exact .inr (.inr ⟨_,_,rfl,rfl⟩)
   have hT' := ok.tl _ _ _ _ _ _ hT (h.keptSp hAs.tape (Nat.le_of_eq hAs.size.symm) (fun b hb => hAs.block b fun e => hb (.inr (.inl (e ▸ ok.su)))) (p.q + 1 + k))
   have hH' : Has p.C k v (w.setCell (stA p.Wg) (.int .u64 0)) := (Go.ConcN.cell_of_block (hAs.block p.C ok.cw) k).trans hH
   refine h.sync ok hk hg e1 hAs (hwg.setSt 0) (fun e he => Bk.evG (hbk e he)) (tg := .d4 v) (o := Od.nat m2) ⟨by rw [Deaf_own,hd]; rfl,hT',hH',m2,rfl,hG2⟩ (by rw [htg]; rfl) rfl (fun mt' htag _ => ?_) (fun _ => ⟨r,hr.book hd _ _ hbk (fun j e he => .inr (by
     have : j < 1 := by have := (Array.getElem?_eq_some_iff.1 he).1; simpa using this
     match j,this with
     | 0,_ => exact Nat.one_pos))⟩) (.inl ⟨by rw [htg]; simp [WT.phi],by rw [htg]; simp [WT.stage]⟩)
   rw [Dw_upd]
   have := Go.ConcN.Mode.last (j := cs.length) (D := upd (Dw wt) k ⟨2,0,0⟩) k i3 hkl (.inr (.inr (by rw [upd_same]))) (fun x hx e => by rw [upd_ne _ _ e]; exact io x hx e)
   rw [upd_same] at this
   exact Go.ConcN.Mode.retag (by simpa [WT.stage] using this) (retag_ctag htag)
 · exact h.quiet ok hk hg e1 (o := Od.nat m') (by rw [htg]; exact ⟨hd,hT,hH,m',rfl,hG2⟩) (by rw [htg]; rfl) (hF ▸ Od.nat_sub m' w)
theorem GI.last4 (ok : p.Ok) (h : GI p gs w t T F wt mt cs st sm a) {k c : Nat} (hk : cs[k]? = some c) {g : Goroutine} (hg : gs[p.q + 1 + k]? = some g) (hw : p.W T k c (wt k) (F (p.q + 1 + k)) (Deaf t (p.q + 1 + k)) g w) {v : Value} (htg : wt k = .d4 v) : Goal p gs w sl (p.q + 1 + k) t (meas p F wt mt cs) := by
 have hkl : k < cs.length := (List.getElem?_eq_some_iff.1 hk).1
 obtain ⟨r,hr⟩ := h.rel k hkl (by rw [htg]; simp [WT.stage])
 rw [htg] at hw
 obtain ⟨hd,hT,hH,m,hF,hG⟩ := hw
 rcases idle_or_stop (RW.refl w) hG with hst | ⟨m',g',rfl,e1,hG2⟩
 · obtain ⟨i3,io,is,im⟩ := h.mode.isLast hkl (.inr (.inr (by simp [Dw,htg,WT.stage])))
   have hwg := h.wg
   rw [is,im] at hwg
   simp only [Dw,htg,WT.stage,if_true] at hwg
   obtain ⟨g',e1,m2,hG2⟩ := hst.2.2 hwg
   have hAs := aside_setCell w (smA p.Wg) (.int .u32 1)
   have hbk : ∀ e ∈ semEvents (smA p.Wg),Bk p.Wg e := fun e he => by
     simp only [semEvents,List.mem_toArray,List.mem_cons,List.not_mem_nil,or_false] at he
     rcases he with rfl | rfl | rfl | rfl
     · exact .inl rfl
     · exact .inr (.inr ⟨_,_,rfl,rfl⟩)
     · exact .inr (.inr ⟨_,_,rfl,rfl⟩)
     · exact .inr (.inl rfl)
   have hT' := ok.tl _ _ _ _ _ _ hT (h.keptSp hAs.tape (Nat.le_of_eq hAs.size.symm) (fun b hb => hAs.block b fun e => hb (.inr (.inl (e ▸ ok.su)))) (p.q + 1 + k))
   have hH' : Has p.C k v (w.setCell (smA p.Wg) (.int .u32 1)) := (Go.ConcN.cell_of_block (hAs.block p.C ok.cw) k).trans hH
   have hdf : Deaf (t ++ MemOp.ofEvents (p.q + 1 + k) g.frame.fn g.frame.place (semEvents (smA p.Wg))) (p.q + 1 + k) = 1 := by rw [Deaf_own,hd]; rfl
   refine h.sync ok hk hg e1 hAs (hwg.setSm 1) (fun e he => Bk.evG (hbk e he)) (tg := .qt v) (o := Od.nat m2) ⟨hT',hH',m2,rfl,by rw [hdf]; exact hG2⟩ (by rw [htg]; rfl) rfl (fun mt' htag hnb => ?_) (fun _ => ⟨r,hr.book hd _ _ hbk (fun j e he => .inr (by
     have : j < 4 := by have := (Array.getElem?_eq_some_iff.1 he).1; simpa [semEvents] using this
     match j,this with
     | 0,_ => exact Nat.one_pos
     | 1,_ => exact Nat.succ_pos _
     | 2,_ => exact Nat.succ_pos _
     | 3,_ => exact Nat.succ_pos _))⟩) (.inl ⟨by rw [htg]; simp [WT.phi],by rw [htg]; simp [WT.stage]⟩)
   have hnb' := hnb hst.2.1 (runs_of_deaf hG2)
   have hw3 : mt' = .w3 := by
     rcases htag with rfl | ⟨_,rfl⟩
     · cases mt' <;> simp [MT.ctag,isW3] at i3 hnb' ⊢
     · rfl
   subst hw3
   rw [Dw_upd]
   refine Go.ConcN.Mode.sema fun x hx => ?_
   by_cases e : x = k
   · subst e; rw [upd_same]; rfl
   · rw [upd_ne _ _ e]; exact io x hx e
 · exact h.quiet ok hk hg e1 (o := Od.nat m') (by rw [htg]; exact ⟨hd,hT,hH,m',rfl,hG2⟩) (by rw [htg]; rfl) (hF ▸ Od.nat_sub m' w)
omit [Payload] in
theorem mute_evG {Wg : Nat} {e : Event} (h : e.mute = true) : EvG Wg e := by
 refine ⟨fun x hx => (by rw [touch_mute h] at hx; cases hx),fun q => ?_⟩
 obtain ⟨loc,b1,b2⟩ := e
 simp only at q
 subst q
 cases h
theorem GI.leaves (ok : p.Ok) (h : GI p gs w t T F wt mt cs st sm a) {k c : Nat} (hk : cs[k]? = some c) {g : Goroutine} (hg : gs[p.q + 1 + k]? = some g) (hw : p.W T k c (wt k) (F (p.q + 1 + k)) (Deaf t (p.q + 1 + k)) g w) {v : Value} (htg : wt k = .qt v) (hrun : g.status = .running) : Goal p gs w sl (p.q + 1 + k) t (meas p F wt mt cs) := by
 have hkl : k < cs.length := (List.getElem?_eq_some_iff.1 hk).1
 obtain ⟨r,hr⟩ := h.rel k hkl (by rw [htg]; simp [WT.stage])
 rw [htg] at hw
 obtain ⟨hT,hH,m,hF,hQ⟩ := hw
 cases m with
 | zero => rw [hQ.1] at hrun; cases hrun
 | succ m =>
   rcases hQ with ⟨hf,_⟩ | ⟨_,g',es,hm,hst,hq⟩
   · rw [hf] at hrun; cases hrun
   refine h.sync ok hk hg (hst w) (Aside.refl _ w) h.wg (fun e he => mute_evG (hm e he)) (tg := .qt v) (o := Od.nat m) ⟨hT,hH,m,rfl,by rw [Deaf_own]; exact hq⟩ (by rw [htg]) rfl (fun mt' htag _ => ?_) (fun _ => ⟨r,hr.appOwn _ _ _ fun j e he => .inl (touch_mute (hm e (Array.mem_of_getElem? he)))⟩) (.inr ⟨htg.symm,hF ▸ Od.nat_sub m w⟩)
   rw [<- htg,upd_self]
   exact h.mode.retag (retag_ctag htag)
end
end Go.Proofs.YtckoipoejaafhaaDoor.Cc

namespace Go.Proofs.YtckoipoejaafhaaDoor.Cc
open Go Go.Conc
open Go.ConcN (RW DWs CT upd upd_same upd_ne WgLive PayAt Has RelBy CTag WD Vc cnt sumTo sumTo_upd sumTo_congr)
open Go.ConcR (DC0 Payload KK WgAt stA smA rd wr Bk)
theorem shut_todo {mt : MT} {c : Nat} (l : List (Nat × Value)) (h : mt.shut c = true) : mt.todo l = [] := by
 cases mt <;> simp [MT.shut,MT.todo] at h ⊢
theorem setChan_block (w : World) {c cap s r : Nat} {buf : Array Value} {closed tm : Bool} (b : Nat) (hb : b ≠ c) : (w.setChan c cap buf closed s r tm).heap[b]? = w.heap[b]? := by
 simp only [World.setChan]
 rw [Array.getElem?_setIfInBounds_ne (Ne.symm hb)]
theorem setChan_at (w : World) {c cap s r : Nat} {buf : Array Value} {closed tm : Bool} (hc : c < w.heap.size) : (w.setChan c cap buf closed s r tm).heap[c]? = some (.chan cap buf closed s r tm) := by
 simp only [World.setChan]
 rw [Array.getElem?_setIfInBounds_self_of_lt hc]
section
variable [Payload] {p : Ph} {gs : Array Goroutine} {w w' : World} {t : Trace} {T : Nat -> Hold} {F : Nat -> Od} {wt : Nat -> WT} {mt : MT} {cs : List Nat} {st sm : Int} {a : Goroutine} {sl : Option (Nat × Nat)}
theorem GI.offers (ok : p.Ok) (h : GI p gs w t T F wt mt cs st sm a) {i : Nat} {g : Goroutine} (hi : gs[i]? = some g) : (∀ c,offersAt g c true = []) /\ ∀ c,offersAt g c false = [] \/ ∃ k,i = p.q + 1 + k /\ cs[k]? = some c /\ (wt k).isPk = true := by
 have nb : g.status ≠ .blocked -> (∀ c,offersAt g c true = []) /\ ∀ c,offersAt g c false = [] \/ ∃ k,i = p.q + 1 + k /\ cs[k]? = some c /\ (wt k).isPk = true := fun x => ⟨fun c => offersAt_of_not_blocked x c true,fun c => .inl (offersAt_of_not_blocked x c false)⟩
 rcases Nat.eq_zero_or_pos i with rfl | h1
 · obtain rfl : g = a := by rw [h.a0] at hi; exact (Option.some.inj hi).symm
   rcases h.main.running ok h.live with hr | hb
   · exact nb (by rw [hr]; simp)
   · have hm := h.main
     rw [hb] at hm
     obtain ⟨_,_,_,g₀,e,_,hn,_⟩ := hm
     have : ∀ c b,offersAt g c b = [] := fun c b => by
       rw [e]
       unfold offersAt
       simp only [hn]
     exact ⟨fun c => this c true,fun c => .inl (this c false)⟩
 · rcases Nat.lt_or_ge p.q i with hlt | hge
   · have hk : i - (p.q + 1) < cs.length := by have := (Array.getElem?_eq_some_iff.1 hi).1; rw [h.size] at this; omega
     obtain ⟨k,rfl⟩ : ∃ k,i = p.q + 1 + k := ⟨i - (p.q + 1),by omega⟩
     have hkc : cs[k]? = some cs[k] := List.getElem?_eq_getElem (by omega)
     obtain ⟨x,e1,e2⟩ := h.wk k _ hkc
     obtain rfl : g = x := by rw [hi] at e1; exact Option.some.inj e1
     rcases WSit.status e2 with ⟨_,q | ⟨_,q⟩⟩ | ⟨vs,g₂,q,rfl⟩
     · exact nb (by rw [q]; simp)
     · exact nb (by rw [q]; simp)
     · refine ⟨fun c => offersAt_parked_recv' _ _ _ _ c,fun c => ?_⟩
       rw [offersAt_parked_recv]
       split
       · rename_i e
         subst e
         exact .inr ⟨k,rfl,hkc,by rw [q]; rfl⟩
       · exact .inl rfl
   · obtain ⟨x,m,e1,e2,_⟩ := h.old i h1 hge
     obtain rfl : g = x := by rw [hi] at e1; exact Option.some.inj e1
     rcases e2.status with q | q <;> exact nb (by rw [q]; simp)
theorem GI.noSend (ok : p.Ok) (h : GI p gs w t T F wt mt cs st sm a) (i c : Nat) : partners (gs.setIfInBounds i ph) c true = [] := by
 refine partners_nil fun j g hj => ?_
 rcases getElem?_stand gs i j g hj with ⟨_,rfl⟩ | ⟨_,hj'⟩
 · exact offersAt_ph c true
 · exact (h.offers ok hj').1 c
theorem GI.commW (ok : p.Ok) (h : GI p gs w t T F wt mt cs st sm a) {k c : Nat} (hk : cs[k]? = some c) {g : Goroutine} {u : Trace} (hrun : runT p.P (crowd gs w sl) (p.q + 1 + k) = (.next (crowd (gs.setIfInBounds (p.q + 1 + k) g) w' sl),u))
   (ht : w'.tape = w.tape /\ w'.os = w.os /\ w'.output = w.output) (hz : w'.heap.size = w.heap.size) (hb : ∀ b,b ≠ c -> w'.heap[b]? = w.heap[b]?) (hu : ∀ op ∈ u,op.g = p.q + 1 + k /\ op.act.touch? = none /\ op.act ≠ .mark .disable /\ op.act ≠ .mark .enable /\ op.act ≠ .mark (.release (stA p.Wg)))
   {tg : WT} {o : Od} (hs : p.W T k c tg o (Deaf t (p.q + 1 + k)) g w') (hch : ∃ buf s r,w'.heap[c]? = some (.chan p.cap buf (mt.shut c) s r false) /\ tg.rest = buf.toList ++ left (mt.todo p.l0) k /\ (tg.isPk = true -> buf = #[] /\ mt.shut c = false))
   (hsh : tg.rest.length <= (wt k).rest.length) (hst : tg.stage = 7) (hst' : (wt k).stage = 7) (hlt : tg.phi < (wt k).phi) : Goal p gs w sl (p.q + 1 + k) t (meas p F wt mt cs) := by
 have hkl : k < cs.length := (List.getElem?_eq_some_iff.1 hk).1
 have hmem := List.mem_of_getElem? hk
 have hdeaf : ∀ i,Deaf (t ++ u) i = Deaf t i := fun i => Go.ConcN.Deaf_still t i u fun op hop => ⟨(hu op hop).2.2.1,(hu op hop).2.2.2.1⟩
 have hWg : w'.heap[p.Wg]? = w.heap[p.Wg]? := hb _ fun e => h.nd.2.2 c hmem (e ▸ ok.su)
 have hCb : w'.heap[p.C]? = w.heap[p.C]? := hb _ fun e => h.nd.2.1 (e ▸ hmem)
 obtain ⟨pc,hp1,hp2⟩ := h.pay
 have hkept : ∀ i,Kept (T i).sh (T i).ow w w' := h.keptSp ht.1 (Nat.le_of_eq hz.symm) fun b hx => hb b fun e => hx (.inr (.inr (e ▸ hmem)))
 have hwg' := h.wg.of_block hWg
 have hl' : WgLive p.ty p.Wg w' := ⟨_,_,hwg'⟩
 have hpay : PayAt p.C p.n w' := ⟨pc,hCb.trans hp1,hp2⟩
 have hg0 : p.q + 1 + k < gs.size := by rw [h.size]; omega
 have hupd : ∀ k',k' ≠ k -> upd wt k tg k' = wt k' := fun k' e => upd_ne wt tg e
 have hF : ∀ i,i ≠ p.q + 1 + k -> upd F (p.q + 1 + k) o i = F i := fun i e => upd_ne F o e
 have hD : ∀ x,(Dw (upd wt k tg) x).stage = (Dw wt x).stage := fun x => by
   by_cases e : x = k
   · subst e; simp only [Dw,upd_same]; omega
   · simp only [Dw,hupd x e]
 refine ⟨_,_,meas p (upd F (p.q + 1 + k) o) (upd wt k tg) mt cs,hrun,?_,_,w',sl,T,upd F (p.q + 1 + k) o,upd wt k tg,mt,cs,st,sm,a,rfl,?_,rfl⟩
 · unfold meas
   refine Prod.Lex.left _ _ ?_
   have e2 := sumTo_upd wt tg WT.phi hkl
   have hv : Vc cs.length (Dw (upd wt k tg)) = Vc cs.length (Dw wt) := sumTo_congr fun x _ => by simp only [cnt,hD x]
   rw [hv]
   omega
 · refine ⟨by simp [h.size],h.len,by rw [Array.getElem?_setIfInBounds_ne (by omega)]; exact h.a0,by rw [hF 0 (by omega),hdeaf]; exact MSit.suf h.main (hkept 0) hl',fun i h1 h2 => ?_,fun k' c' hk' => ?_,h.tno,fun i hi => by rw [hdeaf]; exact h.above i hi,h.blk.heap hz,?_,fun k' c' hk' => ?_,fun k' hk' => ?_,h.nd,hwg',h.mode.congr fun x _ => hD x,hpay,fun k' hk' hs' => ?_,⟨⟨ht.2.1.trans h.sus.1.1,ht.2.2.trans h.sus.1.2⟩,fun b hs' hne => (hb b fun e => h.nd.2.2 c hmem (e ▸ hs')).trans (h.sus.2 b hs' hne)⟩⟩
   · obtain ⟨x,m,e1,e2,e3⟩ := h.old i h1 h2
     exact ⟨x,m,by rw [Array.getElem?_setIfInBounds_ne (by omega)]; exact e1,by rw [hdeaf]; exact e2,by rw [hF i (by omega)]; exact e3⟩
   · by_cases e : k' = k
     · subst e
       obtain rfl : c' = c := by rw [hk] at hk'; exact (Option.some.inj hk').symm
       exact ⟨g,Array.getElem?_setIfInBounds_self_of_lt hg0,by rw [upd_same,upd_same,hdeaf]; exact hs⟩
     · obtain ⟨x,e1,e2⟩ := h.wk k' c' hk'
       refine ⟨x,by rw [Array.getElem?_setIfInBounds_ne (by omega)]; exact e1,?_⟩
       rw [hupd k' e,hF _ (by omega),hdeaf]
       exact WSit.suf (ok.tl k') e2 (hkept _) hl' hpay (Go.ConcN.cell_of_block hCb k')
   · rw [hz]
     refine h.trc.app (CT.mute h.trc.ct (fun op hop => (hu op hop).2.1) fun op hop => by rw [(hu op hop).1]; omega) (h.trc.low.app fun op hop x hx => ?_) (fun op hop => (hu op hop).2.2.2.2) (fun op hop _ x hx => ?_) (fun op hop _ _ => (hu op hop).2.1)
     · rw [(hu op hop).2.1] at hx; cases hx
     · rw [(hu op hop).2.1] at hx; cases hx
   · by_cases e : k' = k
     · subst e
       obtain rfl : c' = c := by rw [hk] at hk'; exact (Option.some.inj hk').symm
       rw [upd_same]
       exact hch
     · obtain ⟨buf,s,r,c1,c2,c3⟩ := h.chan k' c' hk'
       rw [hupd k' e]
       refine ⟨buf,s,r,(hb c' fun x => e ?_).trans c1,c2,c3⟩
       subst x
       exact (List.getElem?_inj (by have := (List.getElem?_eq_some_iff.1 hk').1; exact this) h.nd.1).1 (hk'.trans hk.symm)
   · by_cases e : k' = k
     · subst e; rw [upd_same]; exact Nat.le_trans hsh (h.short k' hk')
     · rw [hupd k' e]; exact h.short k' hk'
   · have : (wt k').stage <= 6 := by have := hD k'; simp only [Dw] at this; omega
     obtain ⟨r,hr⟩ := h.rel k' hk' this
     refine ⟨r,hr.app fun i hi hgi hc => ?_⟩
     obtain ⟨x,hx,_⟩ := hc
     obtain ⟨op,hop,hox⟩ := touch_of hx
     rcases getElem?_append_cases hop with ⟨hlt,_⟩ | ⟨_,hopu⟩
     · omega
     · rw [(hu op hopu).2.1] at hox; cases hox
theorem GI.recv (ok : p.Ok) (h : GI p gs w t T F wt mt cs st sm a) {k c : Nat} (hk : cs[k]? = some c) {g : Goroutine} (hg : gs[p.q + 1 + k]? = some g) (hw : p.W T k c (wt k) (F (p.q + 1 + k)) (Deaf t (p.q + 1 + k)) g w) {vs : List Value} (htg : wt k = .rc vs) : Goal p gs w sl (p.q + 1 + k) t (meas p F wt mt cs) := by
 have hmem := List.mem_of_getElem? hk
 rw [htg] at hw
 obtain ⟨hd,hway⟩ := hw
 cases hF : F (p.q + 1 + k) with
 | mk f =>
   rw [hF] at hway
   refine h.inner ok hk hg (.inl rfl) (I := yes) trivial hway hF (by rw [htg]; rfl) (by rw [htg]; rfl) fun g' w' es Ow' _ e3 => ?_
   rw [htg]
   refine ⟨hd,?_⟩
   rw [grown_sh,grown_ow,if_pos rfl]
   exact e3
 | leaf =>
   rw [hF] at hway
   obtain ⟨_,g₂,hof,hst,hst2,hnx⟩ := WRecv.next _ _ _ _ _ _ _ _ _ _ _ (hway w ⟨Kept.refl _ _ _,trivial⟩)
   obtain ⟨buf,s,r,c1,c2,c3⟩ := h.chan k c hk
   rw [htg] at c2
   have hcl : c < w.heap.size := (Array.getElem?_eq_some_iff.1 c1).1
   have hi0 : (p.q + 1 + k == 0) = false := by simp
   have hstep := hst w
   rw [<- hi0] at hstep
   have hp := h.noSend ok (p.q + 1 + k) c
   obtain ⟨bl⟩ := buf
   cases bl with
   | cons v bs =>
     have hrun := crowd_recv_buf (sl := sl) hg hstep c1 (by simp) hp
     simp only [WT.rest,List.cons_append] at c2
     subst c2
     rw [finishComm_recv] at hrun
     have he : (Array.mk (v :: bs)).extract 1 (Array.mk (v :: bs)).size = Array.mk bs := by simp
     have hv' : (Array.mk (v :: bs)).getD 0 undef = v := by simp
     rw [hv',he] at hrun
     obtain ⟨o,ho⟩ := hnx
     have hkp : Kept (T (p.q + 1 + k)).sh (T (p.q + 1 + k)).ow w (w.setChan c p.cap (Array.mk bs) (mt.shut c) s (r + 1) false) := h.keptSp (w' := w.setChan c p.cap (Array.mk bs) (mt.shut c) s (r + 1) false) rfl (by simp [World.setChan]) (fun b hx => setChan_block w b fun e => hx (.inr (.inr (e ▸ hmem)))) _
     refine h.commW ok hk hrun ⟨rfl,rfl,rfl⟩ (by simp [World.setChan]) (fun b hb => setChan_block w b hb) (fun op hop => ?_) (tg := .rc (bs ++ left (mt.todo p.l0) k)) (o := o) ⟨hd,ho.suf ⟨hkp,trivial⟩⟩
       ⟨Array.mk bs,s,r + 1,setChan_at w hcl,rfl,fun x => by cases x⟩ (by rw [htg]; simp [WT.rest]) rfl (by rw [htg]; rfl) (by rw [htg]; simp [WT.phi])
     simp only [Array.mem_append,List.mem_toArray,List.mem_cons,List.not_mem_nil,or_false] at hop
     rcases hop with hop | rfl | rfl
     · obtain ⟨e,he,_⟩ := Go.Conc.mem_ofEvents hop
       simp at he
     · simp [MemAct.touch?]
     · simp [MemAct.touch?]
   | nil =>
     cases hsh : mt.shut c with
     | true =>
       rw [shut_todo p.l0 hsh] at c2
       simp only [WT.rest,left,List.filter_nil,List.map_nil,List.append_nil] at c2
       subst c2
       rw [hsh] at c1
       have hrun := crowd_recv_closed (sl := sl) hg hstep c1 hp
       rw [finishComm_recv] at hrun
       obtain ⟨o,ho⟩ := hnx
       refine h.commW ok hk hrun ⟨rfl,rfl,rfl⟩ rfl (fun b hb => rfl) (fun op hop => ?_) (tg := .st) (o := o) ⟨hd,ho⟩
         ⟨#[],s,r,by rw [hsh]; exact c1,by rw [shut_todo p.l0 hsh]; rfl,fun x => by cases x⟩ (by simp [WT.rest]) rfl (by rw [htg]; rfl) (by rw [htg]; simp [WT.phi])
       simp only [Array.mem_append,List.mem_toArray,List.mem_cons,List.not_mem_nil,or_false] at hop
       rcases hop with hop | rfl
       · obtain ⟨e,he,_⟩ := Go.Conc.mem_ofEvents hop
         simp at he
       · simp [MemAct.touch?]
     | false =>
       rw [hsh] at c1
       have hrun := crowd_waits (sl := sl) hg hstep (fun cc hcc => by
         obtain rfl : cc = rcase c p.z := by simpa using hcc
         exact ways_recv_none c1 hp)
       refine h.commW ok hk hrun ⟨rfl,rfl,rfl⟩ rfl (fun b hb => rfl) (fun op hop => ?_) (tg := .pk vs) (o := .leaf) ⟨hd,rfl,g₂,rfl,hof,hst2,hnx.suf (Kept.refl _ _ _)⟩
         ⟨#[],s,r,by rw [hsh]; exact c1,c2,fun _ => ⟨rfl,hsh⟩⟩ (by rw [htg]; exact Nat.le_refl _) rfl (by rw [htg]; rfl) (by rw [htg]; simp [WT.phi])
       obtain ⟨e,he,_⟩ := Go.Conc.mem_ofEvents hop
       simp at he
theorem GI.worker (ok : p.Ok) (h : GI p gs w t T F wt mt cs st sm a) {k c : Nat} (hk : cs[k]? = some c) {g : Goroutine} (hg : gs[p.q + 1 + k]? = some g) (hrun : g.status = .running) : Goal p gs w sl (p.q + 1 + k) t (meas p F wt mt cs) := by
 obtain ⟨x,e1,e2⟩ := h.wk k c hk
 obtain rfl : g = x := by rw [hg] at e1; exact Option.some.inj e1
 cases htg : wt k with
 | rc vs => exact h.recv ok hk hg e2 htg
 | pk vs =>
   rw [htg] at e2
   obtain ⟨_,_,g₂,e,_⟩ := e2
   rw [e] at hrun
   cases hrun
 | st => exact h.store ok hk hg e2 htg
 | r0 v => exact h.release ok hk hg e2 htg
 | k1 v => exact h.deafen ok hk hg e2 htg
 | d1 v => exact h.count ok hk hg e2 htg
 | d2 v => exact h.last2 ok hk hg e2 htg
 | d3 v => exact h.last3 ok hk hg e2 htg
 | d4 v => exact h.last4 ok hk hg e2 htg
 | qt v => exact h.leaves ok hk hg e2 htg hrun
theorem GI.slips (ok : p.Ok) (h : GI p gs w t T F wt mt cs st sm a) {i : Nat} (h1 : 1 <= i) (h2 : i <= p.q) {g : Goroutine} (hg : gs[i]? = some g) (hrun : g.status = .running) : Goal p gs w sl i t (meas p F wt mt cs) := by
 obtain ⟨x,m,e1,hQ,hF⟩ := h.old i h1 h2
 obtain rfl : g = x := by rw [hg] at e1; exact Option.some.inj e1
 cases m with
 | zero => rw [hQ.1] at hrun; cases hrun
 | succ m =>
   rcases hQ with ⟨hf,_⟩ | ⟨_,g',es,hm,hst,hq⟩
   · rw [hf] at hrun; cases hrun
   have hi0 : (i == 0) = false := by simp; omega
   have hr := runT_crowd_go (P := p.P) (sl := sl) (i := i) hg (by rw [hi0]; exact hst w)
   have hops : ∀ op ∈ MemOp.ofEvents i g.frame.fn g.frame.place es,op.g = i := fun op hop => by obtain ⟨e,_,rfl⟩ := Go.Conc.mem_ofEvents hop; rfl
   have hnt : ∀ op ∈ MemOp.ofEvents i g.frame.fn g.frame.place es,op.act.touch? = none := fun op hop => by obtain ⟨e,he,rfl⟩ := Go.Conc.mem_ofEvents hop; exact touch_mute (hm e he)
   have hdeaf : ∀ j,i ≠ j -> Deaf (t ++ MemOp.ofEvents i g.frame.fn g.frame.place es) j = Deaf t j := fun j hj => Deaf_other t hj _ hops
   have hm0 : p.M T cs mt (F 0) (Deaf (t ++ MemOp.ofEvents i g.frame.fn g.frame.place es) 0) a w := by
     rw [hdeaf 0 (by omega)]
     exact h.main
   obtain ⟨mt',hm1,htag,_⟩ := hm0.woken ok h.live g g'
   have hFn : ∀ j,j ≠ i -> upd F i (Od.nat m) j = F j := fun j e => upd_ne F _ e
   refine ⟨_,_,meas p (upd F i (Od.nat m)) wt mt' cs,hr,?_,_,w,sl,T,upd F i (Od.nat m),wt,mt',cs,st,sm,woken p.P g g' w a,rfl,?_,rfl⟩
   · unfold meas
     rw [phi_retag _ _ _ htag]
     exact Prod.Lex.right _ (Prod.Lex.left _ _ ⟨i,by omega,by rw [upd_same,hF]; exact Od.nat_sub m w,fun j hj => hFn j hj⟩)
   · refine ⟨by simp [h.size],h.len,by rw [Go.ConcN.get_map_set _ _ _ _ (by omega),h.a0]; rfl,by rw [hFn 0 (by omega)]; exact hm1,fun j h1' h2' => ?_,fun k' c' hk' => ?_,h.tno,fun j hj => by rw [hdeaf j (by omega)]; exact h.above j hj,h.blk,?_,fun k' c' hk' => ?_,h.short,h.nd,h.wg,h.mode.retag (retag_ctag htag),h.pay,fun k' hk' hs' => ?_,h.sus⟩
     · by_cases e : j = i
       · subst e
         exact ⟨g',m,Go.ConcN.get_map_set_same _ _ _ (Array.getElem?_eq_some_iff.1 hg).1,by rw [Deaf_own]; exact hq,upd_same _ _ _⟩
       · obtain ⟨x,m',q1,q2,q3⟩ := h.old j h1' h2'
         refine ⟨x,m',?_,by rw [hdeaf j (Ne.symm e)]; exact q2,by rw [hFn j e]; exact q3⟩
         rw [Go.ConcN.get_map_set _ _ _ _ (Ne.symm e),q1]
         simp [woken_quitsD q2]
     · obtain ⟨x,q1,q2⟩ := h.wk k' c' hk'
       refine ⟨x,?_,by rw [hFn _ (by omega),hdeaf _ (by omega)]; exact q2⟩
       rw [Go.ConcN.get_map_set _ _ _ _ (by omega),q1]
       obtain ⟨buf,s,r,c1,_,c3⟩ := h.chan k' c' hk'
       simp only [Option.map_some,Option.some.injEq]
       refine q2.woken (fun hp => ?_) g g'
       obtain ⟨rfl,c4⟩ := c3 hp
       rw [c4] at c1
       exact ⟨_,_,_,_,_,c1⟩
     · refine h.trc.app (CT.mute h.trc.ct hnt fun op hop => by rw [hops op hop]; omega) (h.trc.low.app fun op hop x hx => ?_) (fun op hop e => ?_) (fun op hop _ x hx => ?_) (fun op hop _ _ => hnt op hop)
       · rw [hnt op hop] at hx; cases hx
       · obtain ⟨x,hx,rfl⟩ := Go.Conc.mem_ofEvents hop
         exact (mute_evG (Wg := p.Wg) (hm x hx)).rel (Go.ConcR.loc_of_ofEvent e)
       · rw [hnt op hop] at hx; cases hx
     · rw [todo_retag _ htag,shut_retag _ htag]
       exact h.chan k' c' hk'
     · obtain ⟨r,hr⟩ := h.rel k' hk' hs'
       exact ⟨r,hr.appOther hops (by omega)⟩
end
end Go.Proofs.YtckoipoejaafhaaDoor.Cc
