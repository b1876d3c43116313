/-
 Texts that stood one behind the other,as one.
-/
import Derived.Test.YtckoipoejaafhaaDoorCcKAll
namespace Go.Proofs.YtckoipoejaafhaaDoor.Cc
open Go Go.Conc
open Go.ConcN (RW CT upd upd_same upd_ne WgLive PayAt Has AtR0 AtK1 AtD1 AtD2 AtD3 AtD4 RelBy CTag WD Vc cnt sumTo sumTo_upd sumTo_congr OpenSt AllQuit isW3 isFin isOpen pend)
open Go.ConcR (DC0 Payload KK WgAt stA smA rd wr mk Bk)
section
variable [Payload] {p : Ph} {gs : Array Goroutine} {w w' : World} {t : Trace} {T : Nat -> Hold} {F : Nat -> Od} {wt : Nat -> WT} {mt : MT} {cs : List Nat} {st sm : Int} {a : Goroutine} {sl : Option (Nat × Nat)}
theorem GI.keptSp (h : GI p gs w t T F wt mt cs st sm a) (ht : w'.tape = w.tape) (hz : w.heap.size <= w'.heap.size) (hb : ∀ b,¬ p.Sp cs b -> w'.heap[b]? = w.heap[b]?) (i : Nat) : Kept (T i).sh (T i).ow w w' :=
 ⟨ht,hz,fun b hx => hb b (hx.elim (h.blk.sh_sp i b) (h.blk.ow_sp i b))⟩
structure EvG (Wg : Nat) (e : Event) : Prop where
 at_ : ∀ x,(MemAct.ofEvent e).touch? = some x -> (∃ a,x.loc = .cell a /\ a.block = Wg) /\ x.kind ≠ .plain /\ x.kind ≠ .said
 rel : e.loc ≠ .mark (.release (stA Wg))
omit [Payload] in
theorem Bk.evG {Wg : Nat} {e : Event} (h : Bk Wg e) : EvG Wg e := by
 rcases h with h | h | ⟨b,wr,rfl,hb⟩
 · exact ⟨fun x hx => by simp [Go.ConcR.ofEvent_loc_mark h,MemAct.touch?] at hx,fun e => by rw [h] at e; cases e⟩
 · exact ⟨fun x hx => by simp [Go.ConcR.ofEvent_loc_mark h,MemAct.touch?] at hx,fun e => by rw [h] at e; cases e⟩
 · refine ⟨fun x hx => ?_,fun e => by cases e⟩
   simp only [Go.ConcR.ofEvent_cell,MemAct.touch?,Option.some.injEq] at hx
   subst hx
   exact ⟨⟨b,rfl,hb⟩,by simp,by simp⟩
theorem GI.trcG (ok : p.Ok) (h : GI p gs w t T F wt mt cs st sm a) {k : Nat} (hk : k < cs.length) (fn : FuncId) (pos : String) {es : Array Event} (hev : ∀ e ∈ es,EvG p.Wg e) : Trc p.q cs.length p.Wg p.Su T p.Cx w.heap.size (t ++ MemOp.ofEvents (p.q + 1 + k) fn pos es) := by
 have hA := h.blk.apart (ok.com cs)
 refine h.trc.app (CT.appW (k := p.q + 1 + k) hA h.trc.ct (by omega) (by omega) fun op hop => ?_) (h.trc.low.app fun op hop x hx => ?_) (fun op hop e => ?_) (fun op hop _ x hx hs => ?_) (fun op hop h1 h2 => ?_)
 · obtain ⟨e,he,rfl⟩ := Go.Conc.mem_ofEvents hop
   refine ⟨rfl,fun x hx => ?_⟩
   obtain ⟨⟨b,e1,e2⟩,h2,h3⟩ := (hev e he).at_ x hx
   exact .inl ⟨⟨b,e1,e2 ▸ ok.su⟩,h2,h3⟩
 · obtain ⟨e,he,rfl⟩ := Go.Conc.mem_ofEvents hop
   obtain ⟨⟨b,e1,e2⟩,_,_⟩ := (hev e he).at_ x hx
   rw [e1]
   simp only [Loc.low,e2]
   exact h.blk.sp_lt _ (.inr (.inl ok.su))
 · obtain ⟨x,hx,rfl⟩ := Go.Conc.mem_ofEvents hop
   exact (hev x hx).rel (Go.ConcR.loc_of_ofEvent e)
 · obtain ⟨e,he,rfl⟩ := Go.Conc.mem_ofEvents hop
   obtain ⟨⟨b,e1,e2⟩,_,_⟩ := (hev e he).at_ x hx
   exact absurd ⟨b,e1,e2 ▸ ok.su⟩ hs
 · obtain ⟨e,he,rfl⟩ := Go.Conc.mem_ofEvents hop
   simp only at h2
   omega
omit [Payload] in
theorem Ph.Ok.cw (ok : p.Ok) : p.C ≠ p.Wg := fun e => ok.c (e ▸ ok.su)
theorem GI.sync (ok : p.Ok) (h : GI p gs w t T F wt mt cs st sm a) {k c : Nat} (hk : cs[k]? = some c) {g g' : Goroutine} {es : Array Event} (hg : gs[p.q + 1 + k]? = some g) (hgo : stepG p.P false g w = .go g' w' es)
   (hAs : Aside p.Wg w w') {st' sm' : Int} (hwg : WgAt p.ty p.Wg w' st' sm') (hev : ∀ e ∈ es,EvG p.Wg e) {tg : WT} {o : Od}
   (hs : p.W T k c tg o (Deaf (t ++ MemOp.ofEvents (p.q + 1 + k) g.frame.fn g.frame.place es) (p.q + 1 + k)) g' w') (hrest : tg.rest = (wt k).rest) (hpk : tg.isPk = false)
   (hmode : ∀ mt',(mt' = mt \/ (mt = .bk /\ mt' = .w3)) -> (mayWake p.P g = true -> g'.status = .running -> mt' ≠ .bk) -> Go.ConcN.Mode cs.length (Dw (upd wt k tg)) mt'.ctag st' sm')
   (hrel : tg.stage <= 6 -> ∃ r,RelBy (stA p.Wg) (t ++ MemOp.ofEvents (p.q + 1 + k) g.frame.fn g.frame.place es) (p.q + 1 + k) r)
   (hlt : (tg.phi < (wt k).phi /\ tg.stage <= (wt k).stage) \/ (tg = wt k /\ Od.Sub o (F (p.q + 1 + k)))) : Goal p gs w sl (p.q + 1 + k) t (meas p F wt mt cs) := by
 have hkl : k < cs.length := (List.getElem?_eq_some_iff.1 hk).1
 have hCb := hAs.block p.C ok.cw
 obtain ⟨pc,hp1,hp2⟩ := h.pay
 refine h.goW ok hk hg hgo (T' := T) (fun _ _ => rfl) (fun i _ => h.keptSp hAs.tape (Nat.le_of_eq hAs.size.symm) (fun b hb => hAs.block b fun e => hb (.inr (.inl (e ▸ ok.su)))) i) (h.blk.heap hAs.size) (by rw [hAs.size]; exact h.trcG ok hkl _ _ hev)
   ⟨⟨hAs.os,hAs.output⟩,fun b _ hne => hAs.block b hne⟩ (fun b hb => hAs.block b fun e => h.nd.2.2 b hb (e ▸ ok.su)) (fun k' _ => Go.ConcN.cell_of_block hCb k') ⟨pc,hCb.trans hp1,hp2⟩ hwg hs hrest hpk hmode hrel hlt
theorem GI.inner (ok : p.Ok) (h : GI p gs w t T F wt mt cs st sm a) {k c : Nat} (hk : cs[k]? = some c) {g : Goroutine} (hg : gs[p.q + 1 + k]? = some g) {X : Option (Nat × Nat)} (hX : X = none \/ X = some (p.C,k)) {I : World -> Prop} {Stop : Stp} {f : World -> Od}
   (hI : I w) (hway : Way p.P false p.Wg (p.q + 1 + k) X I (T (p.q + 1 + k)).sh Stop (.mk f) (T (p.q + 1 + k)).ow g w) (hF : F (p.q + 1 + k) = .mk f) (hpk : (wt k).isPk = false) (hst : (wt k).stage = 7)
   (hs : ∀ g' w' es Ow',Act1 p.Wg (p.q + 1 + k) X (T (p.q + 1 + k)).sh (T (p.q + 1 + k)).ow w w' es Ow' -> Way p.P false p.Wg (p.q + 1 + k) X I (T (p.q + 1 + k)).sh Stop (f w) Ow' g' w' -> p.W (grown T (p.q + 1 + k) Ow') k c (wt k) (f w) (Deaf t (p.q + 1 + k)) g' w') :
   Goal p gs w sl (p.q + 1 + k) t (meas p F wt mt cs) := by
 have hkl : k < cs.length := (List.getElem?_eq_some_iff.1 hk).1
 obtain ⟨g',w',es,Ow',e1,e2,e3⟩ := hway.2 w ⟨Kept.refl _ _ _,hI⟩
 have hXs : ∀ c x,X = some (c,x) -> p.Sp cs c := fun c x e => by
   rcases hX with q | q
   · rw [q] at e; cases e
   · rw [q] at e; cases e; exact .inl rfl
 have hXn : ∀ b,b ≠ p.C -> ∀ x,X ≠ some (b,x) := fun b hb x e => by
   rcases hX with q | q
   · rw [q] at e; cases e
   · rw [q] at e; cases e; exact hb rfl
 have htr := h.blk.trace (ok.com cs) ok.su e2 h.trc.ct h.trc.low (by omega) g.frame.fn g.frame.place
 have hwg' : w'.heap[p.Wg]? = w.heap[p.Wg]? := h.blk.common e2 (.inr (.inl ok.su)) (hXn _ (Ne.symm ok.cw))
 have hcell : (∀ k',k' ≠ k -> w'.cell? ⟨p.C,k',none⟩ = w.cell? ⟨p.C,k',none⟩) /\ PayAt p.C p.n w' := by
   rcases hX with q | q
   · have hb : w'.heap[p.C]? = w.heap[p.C]? := h.blk.common e2 (.inl rfl) (fun x e => by rw [q] at e; cases e)
     obtain ⟨pc,hp1,hp2⟩ := h.pay
     exact ⟨fun k' _ => Go.ConcN.cell_of_block hb k',pc,hb.trans hp1,hp2⟩
   · exact ⟨fun k' hk' => (e2.cells _ _ q).1 k' hk',(e2.cells _ _ q).2 _ h.pay⟩
 refine h.goW ok hk hg e1 (T' := grown T (p.q + 1 + k) Ow') (fun i hi => upd_ne T _ hi) (fun i hi => h.blk.others e2 hXs hi) (h.blk.act e2) (h.trc.app htr.1 htr.2 (e2.norel _ _ _) (fun op hop _ x hx hsu => ?_) (fun op hop _ h2 => ?_))
   ⟨⟨e2.os,e2.output⟩,fun b hb _ => h.blk.common e2 (.inr (.inl hb)) (hXn b fun e => ok.c (e ▸ hb))⟩ (fun b hb => h.blk.common e2 (.inr (.inr hb)) (hXn b fun e => h.nd.2.1 (e ▸ hb))) hcell.1 hcell.2 (h.wg.of_block hwg') (by rw [e2.deaf]; exact hs g' w' es Ow' e2 e3) rfl hpk (fun mt' htag _ => ?_) (fun x => by omega) (.inr ⟨rfl,hF ▸ Od.Sub.mk f w⟩)
 · obtain ⟨e,he,rfl⟩ := Go.Conc.mem_ofEvents hop
   rcases e2.ev e he with ⟨b,q1,q2,_⟩ | rfl | q
   · obtain rfl := cell_touch q1 q2 hx
     exact ⟨by simp,rfl⟩
   · simp [MemAct.ofEvent,MemAct.touch?] at hx
   · obtain ⟨⟨b,q1,q2⟩,_,_⟩ := q.at_ x hx
     exact absurd ⟨b,q1,q2 ▸ ok.su⟩ hsu
 · obtain ⟨e,he,rfl⟩ := Go.Conc.mem_ofEvents hop
   simp only at h2
   omega
 · rw [upd_self]
   exact h.mode.retag (by rcases htag with rfl | ⟨rfl,rfl⟩ <;> simp [MT.ctag])
omit [Payload] in
theorem Dw_upd (wt : Nat -> WT) (k : Nat) (tg : WT) : Dw (upd wt k tg) = upd (Dw wt) k ⟨tg.stage,0,0⟩ := by
 funext x
 unfold Dw
 by_cases e : x = k
 · subst e; rw [upd_same,upd_same]
 · rw [upd_ne _ _ e,upd_ne _ _ e]
omit [Payload] in
theorem idle_or_stop {P : Program} {R : World -> World -> Prop} {St : Goroutine -> World -> Prop} {n : Nat} {g : Goroutine} {w : World} (hR : R w w) (h : Goes P false R DC0 St n g w) : St g w \/ ∃ m g',n = m + 1 /\ stepG P false g w = .go g' w #[] /\ Goes P false R DC0 St m g' w := by
 cases n with
 | zero => exact .inl (h w hR)
 | succ m =>
   rcases h with h | ⟨_,h⟩
   · exact .inl (h w hR)
   · have h1 := h w hR
     cases hg : stepG P false g w with
     | go g' w' es =>
       rw [hg,goes_go] at h1
       obtain ⟨⟨rfl,rfl⟩,h2⟩ := h1
       exact .inr ⟨m,g',rfl,rfl,h2⟩
     | _ => rw [hg] at h1; exact h1.elim
end
end Go.Proofs.YtckoipoejaafhaaDoor.Cc

namespace Go.Proofs.YtckoipoejaafhaaDoor.Cc
open Go Go.Conc
open Go.ConcN (RW DWs CT upd upd_same upd_ne WgLive PayAt Has AtR0 AtK1 AtD1 AtD2 AtD3 AtD4 RelBy CTag WD Vc cnt sumTo sumTo_upd sumTo_congr OpenSt AllQuit isW3 isFin isOpen pend)
open Go.ConcR (DC0 Payload KK WgAt stA smA rd wr mk Bk)
theorem payCell {w : World} {c k n : Nat} [Payload] (v : Value) (h : PayAt c n w) (hk : k < n) : PayAt c n (w.setCell ⟨c,k,none⟩ v) /\ Has c k v (w.setCell ⟨c,k,none⟩ v) /\ ∀ k',k' ≠ k -> (w.setCell ⟨c,k,none⟩ v).cell? ⟨c,k',none⟩ = w.cell? ⟨c,k',none⟩ := by
 obtain ⟨pc,h1,h2⟩ := h
 have e : (w.setCell ⟨c,k,none⟩ v).heap[c]? = some (.cells (pc.setIfInBounds k v) Payload.ety) := by
   simp [World.setCell,Array.getElem?_modify,h1]
 refine ⟨⟨_,e,by simpa using h2⟩,?_,fun k' hk' => ?_⟩
 · simp only [Has,World.cell?,e]
   simp [h2,hk]
 · simp only [World.cell?,e,h1]
   rw [Array.getElem?_setIfInBounds_ne (Ne.symm hk')]
section
variable [Payload] {p : Ph} {gs : Array Goroutine} {w w' : World} {t : Trace} {T : Nat -> Hold} {F : Nat -> Od} {wt : Nat -> WT} {mt : MT} {cs : List Nat} {st sm : Int} {a : Goroutine} {sl : Option (Nat × Nat)}
theorem GI.cell (ok : p.Ok) (h : GI p gs w t T F wt mt cs st sm a) {k c : Nat} (hk : cs[k]? = some c) {g g' : Goroutine} {es : Array Event} (hg : gs[p.q + 1 + k]? = some g) (hgo : stepG p.P false g w = .go g' w' es)
   (ht : w'.tape = w.tape /\ w'.os = w.os /\ w'.output = w.output) (hz : w'.heap.size = w.heap.size) (hb : ∀ b,b ≠ p.C -> w'.heap[b]? = w.heap[b]?) (hcell : ∀ k',k' ≠ k -> w'.cell? ⟨p.C,k',none⟩ = w.cell? ⟨p.C,k',none⟩) (hpay : PayAt p.C p.n w')
   (hev : ∀ e ∈ es,EvG p.Wg e \/ e = ⟨.cell ⟨p.C,k,none⟩,true,false⟩) {tg : WT} {o : Od}
   (hs : p.W T k c tg o (Deaf (t ++ MemOp.ofEvents (p.q + 1 + k) g.frame.fn g.frame.place es) (p.q + 1 + k)) g' w') (hrest : tg.rest = (wt k).rest) (hpk : tg.isPk = false) (hst : tg.stage = 7) (hst' : (wt k).stage = 7)
   (hlt : tg.phi < (wt k).phi \/ (tg = wt k /\ Od.Sub o (F (p.q + 1 + k)))) : Goal p gs w sl (p.q + 1 + k) t (meas p F wt mt cs) := by
 have hkl : k < cs.length := (List.getElem?_eq_some_iff.1 hk).1
 have hA := h.blk.apart (ok.com cs)
 have hWg : w'.heap[p.Wg]? = w.heap[p.Wg]? := hb _ (Ne.symm ok.cw)
 have hOw : OwnT T p.Cx (p.q + 1 + k) (.cell ⟨p.C,k,none⟩) := ⟨_,rfl,.inr ⟨k,by have := h.len; omega,rfl,rfl⟩⟩
 have htr : Trc p.q cs.length p.Wg p.Su T p.Cx w.heap.size (t ++ MemOp.ofEvents (p.q + 1 + k) g.frame.fn g.frame.place es) := by
   refine h.trc.app (CT.appW (k := p.q + 1 + k) hA h.trc.ct (by omega) (by omega) fun op hop => ?_) (h.trc.low.app fun op hop x hx => ?_) (fun op hop e => ?_) (fun op hop _ x hx hs => ?_) (fun op hop h1 h2 => ?_)
   · obtain ⟨e,he,rfl⟩ := Go.Conc.mem_ofEvents hop
     refine ⟨rfl,fun x hx => ?_⟩
     rcases hev e he with q | rfl
     · obtain ⟨⟨b,e1,e2⟩,h2,h3⟩ := q.at_ x hx
       exact .inl ⟨⟨b,e1,e2 ▸ ok.su⟩,h2,h3⟩
     · obtain rfl := cell_touch (e := ⟨.cell ⟨p.C,k,none⟩,true,false⟩) rfl rfl hx
       exact .inr (.inl hOw)
   · obtain ⟨e,he,rfl⟩ := Go.Conc.mem_ofEvents hop
     rcases hev e he with q | rfl
     · obtain ⟨⟨b,e1,e2⟩,_,_⟩ := q.at_ x hx
       rw [e1]
       simp only [Loc.low,e2]
       exact h.blk.sp_lt _ (.inr (.inl ok.su))
     · obtain rfl := cell_touch (e := ⟨.cell ⟨p.C,k,none⟩,true,false⟩) rfl rfl hx
       exact h.blk.sp_lt _ (.inl rfl)
   · obtain ⟨x,hx,rfl⟩ := Go.Conc.mem_ofEvents hop
     rcases hev x hx with q | rfl
     · exact q.rel (Go.ConcR.loc_of_ofEvent e)
     · cases Go.ConcR.loc_of_ofEvent (e := ⟨.cell ⟨p.C,k,none⟩,true,false⟩) e
   · obtain ⟨e,he,rfl⟩ := Go.Conc.mem_ofEvents hop
     rcases hev e he with q | rfl
     · obtain ⟨⟨b,e1,e2⟩,_,_⟩ := q.at_ x hx
       exact absurd ⟨b,e1,e2 ▸ ok.su⟩ hs
     · obtain rfl := cell_touch (e := ⟨.cell ⟨p.C,k,none⟩,true,false⟩) rfl rfl hx
       exact ⟨by simp,rfl⟩
   · obtain ⟨e,he,rfl⟩ := Go.Conc.mem_ofEvents hop
     simp only at h2
     omega
 refine h.goW ok hk hg hgo (T' := T) (fun _ _ => rfl) (fun i _ => h.keptSp ht.1 (Nat.le_of_eq hz.symm) (fun b hx => hb b fun e => hx (.inl e)) i) (h.blk.heap hz) (by rw [hz]; exact htr)
   ⟨ht.2,fun b hs' _ => hb b fun e => ok.c (e ▸ hs')⟩ (fun b hx => hb b fun e => h.nd.2.1 (e ▸ hx)) hcell hpay (h.wg.of_block hWg) hs hrest hpk (fun mt' htag _ => ?_) (fun x => by omega) ?_
 · rw [Dw_upd]
   refine (h.mode.congr (D' := upd (Dw wt) k ⟨tg.stage,0,0⟩) fun x _ => ?_).retag (by rcases htag with rfl | ⟨rfl,rfl⟩ <;> simp [MT.ctag])
   by_cases e : x = k
   · subst e; rw [upd_same]; simp only [Dw]; omega
   · rw [upd_ne _ _ e]
 · exact hlt.imp (fun x => ⟨x,by omega⟩) id
theorem GI.store (ok : p.Ok) (h : GI p gs w t T F wt mt cs st sm a) {k c : Nat} (hk : cs[k]? = some c) {g : Goroutine} (hg : gs[p.q + 1 + k]? = some g) (hw : p.W T k c (wt k) (F (p.q + 1 + k)) (Deaf t (p.q + 1 + k)) g w) (htg : wt k = .st) : Goal p gs w sl (p.q + 1 + k) t (meas p F wt mt cs) := by
 have hkl : k < cs.length := (List.getElem?_eq_some_iff.1 hk).1
 have hkn : k < p.n := by have := h.len; omega
 rw [htg] at hw
 obtain ⟨hd,hway⟩ := hw
 cases hF : F (p.q + 1 + k) with
 | mk f =>
   rw [hF] at hway
   refine h.inner ok hk hg (.inl rfl) (I := yes) trivial hway hF (by rw [htg]; rfl) (by rw [htg]; rfl) fun g' w' es Ow' _ e3 => ?_
   rw [htg]
   refine ⟨hd,?_⟩
   rw [grown_sh,grown_ow,if_pos rfl]
   exact e3
 | leaf =>
   rw [hF] at hway
   obtain ⟨_,val,hT,hgo⟩ := hway w ⟨Kept.refl _ _ _,trivial⟩
   obtain ⟨g',e1,m,hG⟩ := hgo h.pay h.live
   obtain ⟨c1,_,c3⟩ := payCell val h.pay hkn
   have hAs := aside_setCell w ⟨p.C,k,none⟩ val
   have hkp : Kept (T (p.q + 1 + k)).sh (T (p.q + 1 + k)).ow w (w.setCell ⟨p.C,k,none⟩ val) := h.keptSp hAs.tape (Nat.le_of_eq hAs.size.symm) (fun b hx => hAs.block b fun e => hx (.inl e)) _
   refine h.cell ok hk hg e1 ⟨hAs.tape,hAs.os,hAs.output⟩ hAs.size (fun b hx => hAs.block b hx) c3 c1 (fun e he => .inr (by simpa using he)) (tg := .r0 val) (o := Od.nat m) ⟨?_,ok.tl _ _ _ _ _ _ hT hkp,m,rfl,hG⟩ (by rw [htg]; rfl) rfl rfl (by rw [htg]; rfl) (.inl (by rw [htg]; simp [WT.phi]))
   rw [Deaf_own,hd]
   rfl
theorem GI.release (ok : p.Ok) (h : GI p gs w t T F wt mt cs st sm a) {k c : Nat} (hk : cs[k]? = some c) {g : Goroutine} (hg : gs[p.q + 1 + k]? = some g) (hw : p.W T k c (wt k) (F (p.q + 1 + k)) (Deaf t (p.q + 1 + k)) g w) {v : Value} (htg : wt k = .r0 v) : Goal p gs w sl (p.q + 1 + k) t (meas p F wt mt cs) := by
 have hkl : k < cs.length := (List.getElem?_eq_some_iff.1 hk).1
 rw [htg] at hw
 obtain ⟨hd,hT,m,hF,hG⟩ := hw
 have hstop : (AtR0 p.P p.ty p.Wg p.C p.n 0 (k + 1) v g w) \/ ∃ m' g' w' es,m = m' + 1 /\ stepG p.P false g w = .go g' w' es /\ DWs p.Wg no2 no2 p.C p.n (k + 1) w w' es /\ Goes p.P false (RW p.ty p.Wg p.C p.n 0 k) (DWs p.Wg no2 no2 p.C p.n (k + 1)) (AtR0 p.P p.ty p.Wg p.C p.n 0 (k + 1) v) m' g' w' := by
   cases m with
   | zero => exact .inl (hG w (RW.refl w))
   | succ m' =>
     rcases hG with x | ⟨_,x⟩
     · exact .inl (x w (RW.refl w))
     · have h1 := x w (RW.refl w)
       cases hg1 : stepG p.P false g w with
       | go g' w' es =>
         rw [hg1,goes_go] at h1
         exact .inr ⟨m',g',w',es,rfl,rfl,h1.1,h1.2⟩
       | _ => rw [hg1] at h1; exact h1.elim
 rcases hstop with ⟨_,hH,g',e1,m2,hG2⟩ | ⟨m',g',w',es,rfl,e1,⟨hA,hE⟩,hG2⟩
 · refine h.sync ok hk hg e1 (Aside.refl _ w) h.wg (fun e he => ?_) (tg := .k1 v) (o := Od.nat m2) ⟨?_,hT,hH,m2,rfl,hG2⟩ (by rw [htg]; rfl) rfl (fun mt' htag _ => ?_) (fun _ => ⟨_,RelBy.new hd _ _⟩) (.inl ⟨by rw [htg]; simp [WT.phi],by rw [htg]; simp [WT.stage]⟩)
   · obtain rfl : e = Go.ConcR.mk (.releaseMerge (stA p.Wg)) := by simpa using he
     exact ⟨fun x hx => by simp [Go.ConcR.ofEvent_mk,MemAct.touch?] at hx,fun x => by cases x⟩
   · rw [Deaf_own,hd]
     rfl
   · rw [Dw_upd]
     refine (h.mode.counted hkl (by simp [Dw,htg,WT.stage]) (.inl rfl) 0 0).retag (by rcases htag with rfl | ⟨rfl,rfl⟩ <;> simp [MT.ctag])
 · have hkp : Kept (T (p.q + 1 + k)).sh (T (p.q + 1 + k)).ow w w' := h.keptSp hA.tape (Nat.le_of_eq hA.size.symm) (fun b hx => hA.block b fun e => hx (.inl e)) _
   refine h.cell ok hk hg e1 ⟨hA.tape,hA.os,hA.output⟩ hA.size hA.block hA.cells (hA.pay h.pay) (fun e he => .inl ?_) (tg := .r0 v) (o := Od.nat m') ⟨?_,ok.tl _ _ _ _ _ _ hT hkp,m',rfl,hG2⟩ (by rw [htg]) rfl rfl (by rw [htg]; rfl) (.inr ⟨htg.symm,hF ▸ Od.nat_sub m' w⟩)
   · obtain ⟨q1,_,_,q4⟩ := hE e he
     refine ⟨fun x hx => ?_,q4⟩
     rcases (q1 0 "").2 x hx with ⟨⟨b, e1, e2⟩, e3, e4⟩ | q | ⟨q, _⟩
     · exact ⟨⟨b,e1,e2⟩,e3,e4⟩
     · exact q.elim
     · exact q.elim
   · rw [Deaf_own,hd]
     exact deafBehind_still (fun e he => ⟨(hE e he).2.1,(hE e he).2.2.1⟩) 0
theorem GI.deafen (ok : p.Ok) (h : GI p gs w t T F wt mt cs st sm a) {k c : Nat} (hk : cs[k]? = some c) {g : Goroutine} (hg : gs[p.q + 1 + k]? = some g) (hw : p.W T k c (wt k) (F (p.q + 1 + k)) (Deaf t (p.q + 1 + k)) g w) {v : Value} (htg : wt k = .k1 v) : Goal p gs w sl (p.q + 1 + k) t (meas p F wt mt cs) := by
 have hkl : k < cs.length := (List.getElem?_eq_some_iff.1 hk).1
 obtain ⟨r,hr⟩ := h.rel k hkl (by rw [htg]; simp [WT.stage])
 rw [htg] at hw
 obtain ⟨hd,hT,hH,m,hF,hG⟩ := hw
 rcases idle_or_stop (RW.refl w) hG with ⟨_,g',e1,m2,hG2⟩ | ⟨m',g',rfl,e1,hG2⟩
 · refine h.sync ok hk hg e1 (Aside.refl _ w) h.wg (fun e he => ?_) (tg := .d1 v) (o := Od.nat m2) ⟨?_,hT,hH,m2,rfl,hG2⟩ (by rw [htg]; rfl) rfl (fun mt' htag _ => ?_) (fun _ => ⟨r,hr.book (Wg := p.Wg) hd _ _ (fun e he => ?_) (fun j e he => ?_)⟩) (.inl ⟨by rw [htg]; simp [WT.phi],by rw [htg]; simp [WT.stage]⟩)
   · obtain rfl : e = Go.ConcR.mk .disable := by simpa using he
     exact Bk.evG (.inl rfl)
   · rw [Deaf_own,hd]
     rfl
   · rw [Dw_upd]
     exact (h.mode.counted hkl (by simp [Dw,htg,WT.stage]) (.inr rfl) 0 0).retag (by rcases htag with rfl | ⟨rfl,rfl⟩ <;> simp [MT.ctag])
   · obtain rfl : e = Go.ConcR.mk .disable := by simpa using he
     exact .inl rfl
   · obtain rfl : e = Go.ConcR.mk .disable := by simpa using Array.mem_of_getElem? he
     exact .inl rfl
 · refine h.sync ok hk hg e1 (Aside.refl _ w) h.wg (fun e he => by simp at he) (tg := .k1 v) (o := Od.nat m') ⟨?_,hT,hH,m',rfl,hG2⟩ (by rw [htg]) rfl (fun mt' htag _ => ?_) (fun _ => ⟨r,hr.book (Wg := p.Wg) hd _ _ (fun e he => by simp at he) (fun j e he => by simp at he)⟩) (.inr ⟨htg.symm,hF ▸ Od.nat_sub m' w⟩)
   · rw [Deaf_own,hd]
     rfl
   · rw [<- htg,upd_self]
     exact h.mode.retag (by rcases htag with rfl | ⟨rfl,rfl⟩ <;> simp [MT.ctag])
end
end Go.Proofs.YtckoipoejaafhaaDoor.Cc
