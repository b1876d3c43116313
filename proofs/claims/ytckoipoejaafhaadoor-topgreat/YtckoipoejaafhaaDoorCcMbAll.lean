/-
  Texts that stood one behind the other, as one.
-/
import Derived.Test.YtckoipoejaafhaaDoorCcMa
namespace Go.Proofs.YtckoipoejaafhaaDoor.Cc
open Go Go.Conc
open Go.ConcN (RW DWs CT upd upd_same upd_ne WgLive PayAt Has RelBy CTag WD Vc Vc_le cnt sumTo sumTo_upd sumTo_congr le_sumTo get_map_set get_map_set_same)
open Go.ConcR (DC0 Payload KK WgAt stA smA rd wr Bk)
theorem left_same (k : Nat) (v : Value) (l : List (Nat × Value)) : left ((k, v) :: l) k = v :: left l k := by simp [left]
theorem left_ne {k k' : Nat} (v : Value) (l : List (Nat × Value)) (h : k' ≠ k) : left ((k, v) :: l) k' = left l k' := by simp [left, Ne.symm h]
theorem nodup_at {cs : List Nat} (h : cs.Nodup) {k k' c : Nat} (h1 : cs[k]? = some c) (h2 : cs[k']? = some c) : k' = k :=
  (List.getElem?_inj (List.getElem?_eq_some_iff.1 h2).1 h).1 (h2.trans h1.symm)
section
variable [Payload] {p : Ph} {gs : Array Goroutine} {w w' : World} {t : Trace} {T : Nat → Hold} {F : Nat → Od} {wt : Nat → WT} {mt : MT} {cs : List Nat} {st sm : Int} {a : Goroutine} {sl : Option (Nat × Nat)}
theorem GI.both2 (ok : p.Ok) (h : GI p gs w t T F wt mt cs st sm a) {k c : Nat} (hk : cs[k]? = some c) {gs' : Array Goroutine} {a' gk : Goroutine} {u : Trace} (hrun : runT p.P (crowd gs w sl) 0 = (.next (crowd gs' w' sl), u))
    (hsz : gs'.size = gs.size) (h0 : gs'[0]? = some a') (hgk : gs'[p.q + 1 + k]? = some gk) (hoth : ∀ i g, i ≠ 0 → i ≠ p.q + 1 + k → gs[i]? = some g → ((∃ m d, QuitsD p.P m d g) ∨ ∃ k' c' o d, c' ≠ c ∧ cs[k']? = some c' ∧ p.W T k' c' (wt k') o d g w') → gs'[i]? = some g)
    (ht : w'.tape = w.tape ∧ w'.os = w.os ∧ w'.output = w.output) (hz : w'.heap.size = w.heap.size) (hb : ∀ b, b ≠ c → w'.heap[b]? = w.heap[b]?) (hmix : (∀ op ∈ u, op.act.touch? = none) ∨ ∀ op ∈ u, op.g = 0 ∧ ∀ x, op.act.touch? = some x → x.loc = .obj c) (hu : ∀ op ∈ u, (op.g = 0 ∨ op.g = p.q + 1 + k) ∧ op.act ≠ .mark .disable ∧ op.act ≠ .mark .enable ∧ op.act ≠ .mark (.release (stA p.Wg)))
    {mt' : MT} {o ow : Od} {tg : WT} (hs : p.M T cs mt' o (Deaf t 0) a' w') (hw : p.W T k c tg ow (Deaf t (p.q + 1 + k)) gk w')
    (hch : ∃ buf s r, w'.heap[c]? = some (.chan p.cap buf (mt'.shut c) s r false) ∧ tg.rest = buf.toList ++ left (mt'.todo p.l0) k ∧ (tg.isPk = true → buf = #[] ∧ mt'.shut c = false))
    (hle : ∀ k', k' ≠ k → left (mt'.todo p.l0) k' = left (mt.todo p.l0) k') (hshut : ∀ c' ∈ cs, c' ≠ c → mt'.shut c' = mt.shut c') (hst : tg.stage = (wt k).stage) (hsh : tg.rest.length ≤ (wt k).rest.length) (htag : mt'.ctag = mt.ctag)
    (hlt : mt'.phi p.n p.l0.length (Vc cs.length (Dw wt)) + tg.phi < mt.phi p.n p.l0.length (Vc cs.length (Dw wt)) + (wt k).phi) : Goal p gs w sl 0 t (meas p F wt mt cs) := by
  have hkl : k < cs.length := (List.getElem?_eq_some_iff.1 hk).1
  have hmem := List.mem_of_getElem? hk
  have hdeaf : ∀ i, Deaf (t ++ u) i = Deaf t i := fun i => Go.ConcN.Deaf_still t i u fun op hop => ⟨(hu op hop).2.1, (hu op hop).2.2.1⟩
  have hWg : w'.heap[p.Wg]? = w.heap[p.Wg]? := hb _ fun e => h.nd.2.2 c hmem (e ▸ ok.su)
  have hCb : w'.heap[p.C]? = w.heap[p.C]? := hb _ fun e => h.nd.2.1 (e ▸ hmem)
  obtain ⟨pc, hp1, hp2⟩ := h.pay
  have hkept : ∀ i, Kept (T i).sh (T i).ow w w' := h.keptSp ht.1 (Nat.le_of_eq hz.symm) fun b hx => hb b fun e => hx (.inr (.inr (e ▸ hmem)))
  have hwg' := h.wg.of_block hWg
  have hl' : WgLive p.ty p.Wg w' := ⟨_, _, hwg'⟩
  have hpay : PayAt p.C p.n w' := ⟨pc, hCb.trans hp1, hp2⟩
  have hupd : ∀ k', k' ≠ k → upd wt k tg k' = wt k' := fun k' e => upd_ne wt tg e
  have hD : ∀ x, (Dw (upd wt k tg) x).stage = (Dw wt x).stage := fun x => by
    by_cases e : x = k
    · subst e; simp only [Dw, upd_same]; omega
    · simp only [Dw, hupd x e]
  have hF0 : upd (upd F 0 o) (p.q + 1 + k) ow 0 = o := by rw [upd_ne _ _ (by omega), upd_same]
  have hFk : upd (upd F 0 o) (p.q + 1 + k) ow (p.q + 1 + k) = ow := upd_same _ _ _
  have hF : ∀ i, i ≠ 0 → i ≠ p.q + 1 + k → upd (upd F 0 o) (p.q + 1 + k) ow i = F i := fun i e1 e2 => by rw [upd_ne _ _ e2, upd_ne _ _ e1]
  refine ⟨_, _, meas p (upd (upd F 0 o) (p.q + 1 + k) ow) (upd wt k tg) mt' cs, hrun, ?_, _, w', sl, T, upd (upd F 0 o) (p.q + 1 + k) ow, upd wt k tg, mt', cs, st, sm, a', rfl, ?_, rfl⟩
  · unfold meas
    refine Prod.Lex.left _ _ ?_
    have e2 := sumTo_upd wt tg WT.phi hkl
    have hv : Vc cs.length (Dw (upd wt k tg)) = Vc cs.length (Dw wt) := sumTo_congr fun x _ => by simp only [cnt, hD x]
    rw [hv]
    omega
  · refine ⟨by rw [hsz]; exact h.size, h.len, h0, by rw [hF0, hdeaf]; exact hs, fun i h1 h2 => ?_, fun k' c' hk' => ?_, h.tno, fun i hi => by rw [hdeaf]; exact h.above i hi, h.blk.heap hz, ?_, fun k' c' hk' => ?_, fun k' hk' => ?_, h.nd, hwg', by rw [htag]; exact h.mode.congr fun x _ => hD x, hpay, fun k' hk' hs' => ?_, ⟨⟨ht.2.1.trans h.sus.1.1, ht.2.2.trans h.sus.1.2⟩, fun b hs' hne => (hb b fun e => h.nd.2.2 c hmem (e ▸ hs')).trans (h.sus.2 b hs' hne)⟩⟩
    · obtain ⟨x, m, e1, e2, e3⟩ := h.old i h1 h2
      exact ⟨x, m, hoth i x (by omega) (by omega) e1 (.inl ⟨_, _, e2⟩), by rw [hdeaf]; exact e2, by rw [hF i (by omega) (by omega)]; exact e3⟩
    · by_cases e : k' = k
      · subst e
        obtain rfl : c' = c := by rw [hk] at hk'; exact (Option.some.inj hk').symm
        exact ⟨gk, hgk, by rw [upd_same, hFk, hdeaf]; exact hw⟩
      · obtain ⟨x, e1, e2⟩ := h.wk k' c' hk'
        have hc' : c' ≠ c := fun q => e (nodup_at h.nd.1 hk (q ▸ hk'))
        have q2 : p.W T k' c' (wt k') (F (p.q + 1 + k')) (Deaf t (p.q + 1 + k')) x w' := WSit.suf (ok.tl k') e2 (hkept _) hl' hpay (Go.ConcN.cell_of_block hCb k')
        exact ⟨x, hoth _ x (by omega) (by omega) e1 (.inr ⟨k', c', _, _, hc', hk', q2⟩), by rw [hupd k' e, hF _ (by omega) (by omega), hdeaf]; exact q2⟩
    · rw [hz]
      have hobj : ∀ op ∈ u, ∀ x, op.act.touch? = some x → op.g = 0 ∧ x.loc = .obj c := fun op hop x hx => by
        rcases hmix with hm | hm
        · rw [hm op hop] at hx; cases hx
        · exact ⟨(hm op hop).1, (hm op hop).2 x hx⟩
      have hcl : c < w.heap.size := h.blk.sp_lt c (.inr (.inr hmem))
      have hct : CT (ShT p.Su) (OwnT T p.Cx) (RdT T) (t ++ u) (p.q + cs.length) := by
        rcases hmix with hm | hm
        · exact CT.mute h.trc.ct hm fun op hop => by rcases (hu op hop).1 with q | q <;> rw [q] <;> omega
        · refine CT.app0 (h.blk.apart (ok.com cs)) h.trc.ct fun op hop => ⟨(hm op hop).1, fun x hx => .inr ?_⟩
          rw [(hm op hop).2 x hx]
          exact ⟨fun ⟨_, q, _⟩ => (nomatch q), fun _ _ _ ⟨_, q, _⟩ => (nomatch q), fun _ _ _ _ ⟨_, q, _⟩ => (nomatch q)⟩
      refine h.trc.app hct (h.trc.low.app fun op hop x hx => ?_) (fun op hop => (hu op hop).2.2.2) (fun op hop hg x hx => ?_) (fun op hop h1 _ => ?_)
      · rw [(hobj op hop x hx).2]
        exact hcl
      · have := (hobj op hop x hx).1
        omega
      · cases hx : op.act.touch? with
        | none => rfl
        | some x => have := (hobj op hop x hx).1; omega
    · by_cases e : k' = k
      · subst e
        obtain rfl : c' = c := by rw [hk] at hk'; exact (Option.some.inj hk').symm
        rw [upd_same]
        exact hch
      · have hc' : c' ≠ c := fun q => e (nodup_at h.nd.1 hk (q ▸ hk'))
        obtain ⟨buf, s, r, c1, c2, c3⟩ := h.chan k' c' hk'
        rw [hupd k' e, hle k' e, hshut c' (List.mem_of_getElem? hk') hc']
        exact ⟨buf, s, r, (hb c' hc').trans c1, c2, c3⟩
    · by_cases e : k' = k
      · subst e; rw [upd_same]; exact Nat.le_trans hsh (h.short k' hk')
      · rw [hupd k' e]; exact h.short k' hk'
    · have : (wt k').stage ≤ 6 := by have := hD k'; simp only [Dw] at this; omega
      obtain ⟨r, hr⟩ := h.rel k' hk' this
      refine ⟨r, hr.app fun i hi hgi hc => ?_⟩
      obtain ⟨x, hx, _⟩ := hc
      obtain ⟨op, hop, hox⟩ := touch_of hx
      rcases getElem?_append_cases hop with ⟨hlt, _⟩ | ⟨_, hopu⟩
      · omega
      · rcases hmix with hm | hm
        · rw [hm op hopu] at hox; cases hox
        · have h1 := (hm op hopu).1
          have h2 : op.g = p.q + 1 + k' := by simpa [Trace.g?, hop] using hgi
          omega
theorem GI.both (ok : p.Ok) (h : GI p gs w t T F wt mt cs st sm a) {k c : Nat} (hk : cs[k]? = some c) {gs' : Array Goroutine} {a' gk : Goroutine} {u : Trace} (hrun : runT p.P (crowd gs w sl) 0 = (.next (crowd gs' w' sl), u))
    (hsz : gs'.size = gs.size) (h0 : gs'[0]? = some a') (hgk : gs'[p.q + 1 + k]? = some gk) (hoth : ∀ i g, i ≠ 0 → i ≠ p.q + 1 + k → gs[i]? = some g → ((∃ m d, QuitsD p.P m d g) ∨ ∃ k' c' o d, c' ≠ c ∧ cs[k']? = some c' ∧ p.W T k' c' (wt k') o d g w') → gs'[i]? = some g)
    (ht : w'.tape = w.tape ∧ w'.os = w.os ∧ w'.output = w.output) (hz : w'.heap.size = w.heap.size) (hb : ∀ b, b ≠ c → w'.heap[b]? = w.heap[b]?) (hu : ∀ op ∈ u, (op.g = 0 ∨ op.g = p.q + 1 + k) ∧ op.act.touch? = none ∧ op.act ≠ .mark .disable ∧ op.act ≠ .mark .enable ∧ op.act ≠ .mark (.release (stA p.Wg)))
    {mt' : MT} {o ow : Od} {tg : WT} (hs : p.M T cs mt' o (Deaf t 0) a' w') (hw : p.W T k c tg ow (Deaf t (p.q + 1 + k)) gk w')
    (hch : ∃ buf s r, w'.heap[c]? = some (.chan p.cap buf (mt'.shut c) s r false) ∧ tg.rest = buf.toList ++ left (mt'.todo p.l0) k ∧ (tg.isPk = true → buf = #[] ∧ mt'.shut c = false))
    (hle : ∀ k', k' ≠ k → left (mt'.todo p.l0) k' = left (mt.todo p.l0) k') (hshut : ∀ c' ∈ cs, c' ≠ c → mt'.shut c' = mt.shut c') (hst : tg.stage = (wt k).stage) (hsh : tg.rest.length ≤ (wt k).rest.length) (htag : mt'.ctag = mt.ctag)
    (hlt : mt'.phi p.n p.l0.length (Vc cs.length (Dw wt)) + tg.phi < mt.phi p.n p.l0.length (Vc cs.length (Dw wt)) + (wt k).phi) : Goal p gs w sl 0 t (meas p F wt mt cs) :=
  h.both2 ok hk hrun hsz h0 hgk hoth ht hz hb (.inl fun op hop => (hu op hop).2.1) (fun op hop => ⟨(hu op hop).1, (hu op hop).2.2⟩) hs hw hch hle hshut hst hsh htag hlt
theorem GI.cl (ok : p.Ok) (h : GI p gs w t T F wt mt cs st sm a) {l : List Nat} (htg : mt = .cl l) : Goal p gs w sl 0 t (meas p F wt mt cs) := by
  have hm := h.main
  rw [htg] at hm
  obtain ⟨hd, hl, ⟨l1, hl1⟩, hway⟩ := hm
  cases hF : F 0 with
  | mk f =>
    rw [hF] at hway
    refine h.innerM ok hway hF fun g' w' Ow' e3 => ?_
    rw [htg]
    refine ⟨hd, hl, ⟨l1, hl1⟩, ?_⟩
    rw [grown_sh, grown_ow, if_pos rfl]
    exact e3
  | leaf =>
    cases l with
    | nil =>
      have h' : GI p gs w t T F wt .kd cs st sm a := by
        have hmd := h.mode
        rw [htg] at hmd
        refine ⟨h.size, h.len, h.a0, ⟨hd, hl, hway⟩, h.old, h.wk, h.tno, h.above, h.blk, h.trc, fun k c hk => ?_, h.short, h.nd, h.wg, hmd, h.pay, h.rel, h.sus⟩
        have := h.chan k c hk
        rw [htg] at this
        simpa [MT.shut, MT.todo] using this
      obtain ⟨mm, ops, μ', q1, q2, q3⟩ := h'.kd (sl := sl) ok rfl
      exact ⟨mm, ops, μ', q1, lt3_of q2 (by rw [htg]; simp only [meas, MT.phi, List.length_nil]; omega), q3⟩
    | cons c l =>
      rw [hF] at hway
      obtain ⟨hr, hmw, hst⟩ := hway w ⟨Kept.refl _ _ _, h.live⟩
      have hkl : l1.length < cs.length := by rw [hl1]; simp
      have hk : cs[l1.length]? = some c := by rw [hl1]; simp
      obtain ⟨buf, s, r, c1, c2, c3⟩ := h.chan _ c hk
      have hnd := h.nd.1
      rw [hl1] at hnd
      have hcl : c ∉ l := by
        have := (List.nodup_append.1 hnd).2.1
        exact (List.nodup_cons.1 this).1
      have hmem := List.mem_of_getElem? hk
      have hs0 : mt.shut c = false := by rw [htg]; simp [MT.shut]
      have htd : mt.todo p.l0 = [] := by rw [htg]; rfl
      rw [hs0] at c1
      rw [htd] at c2
      obtain ⟨g', hg', e1, o, hW⟩ := hst _ _ _ _ _ c1
      have hcs : c < w.heap.size := (Array.getElem?_eq_some_iff.1 c1).1
      have hrun := runT_crowd_go (P := p.P) (sl := sl) (i := 0) h.a0 (show stepG p.P (0 == 0) a w = _ from e1)
      obtain ⟨x, x1, x2⟩ := h.wk _ c hk
      have hkp : ∀ i, Kept (T i).sh (T i).ow w (w.setChan c p.cap buf true s r false) := h.keptSp (w' := w.setChan c p.cap buf true s r false) rfl (by simp [World.setChan]) fun b hx => setChan_block w b fun e => hx (.inr (.inr (e ▸ hmem)))
      have hWg : (w.setChan c p.cap buf true s r false).heap[p.Wg]? = w.heap[p.Wg]? := setChan_block w _ fun e => h.nd.2.2 c hmem (e ▸ ok.su)
      have hCb : (w.setChan c p.cap buf true s r false).heap[p.C]? = w.heap[p.C]? := setChan_block w _ fun e => h.nd.2.1 (e ▸ hmem)
      have hl' : WgLive p.ty p.Wg (w.setChan c p.cap buf true s r false) := ⟨_, _, h.wg.of_block hWg⟩
      obtain ⟨pc, hp1, hp2⟩ := h.pay
      have hpay : PayAt p.C p.n (w.setChan c p.cap buf true s r false) := ⟨pc, hCb.trans hp1, hp2⟩
      have hx' : p.W T l1.length c (wt l1.length) (F (p.q + 1 + l1.length)) (Deaf t (p.q + 1 + l1.length)) x (w.setChan c p.cap buf true s r false) := WSit.suf (ok.tl _) x2 (hkp _) hl' hpay (Go.ConcN.cell_of_block hCb _)
      have hwoke : ∃ tg, p.W T l1.length c tg (F (p.q + 1 + l1.length)) (Deaf t (p.q + 1 + l1.length)) (woken p.P a g' (w.setChan c p.cap buf true s r false) x) (w.setChan c p.cap buf true s r false) ∧ tg.rest = (wt l1.length).rest ∧ tg.isPk = false ∧ tg.stage = (wt l1.length).stage ∧ tg.phi ≤ (wt l1.length).phi + 1 := by
        rcases WSit.status hx' with ⟨n1, q | ⟨_, q⟩⟩ | ⟨vs, _, q, _⟩
        · exact ⟨_, by rw [woken_run q]; exact hx', rfl, n1, rfl, by omega⟩
        · exact ⟨_, by rw [Go.Conc.woken_rf (.inr q)]; exact hx', rfl, n1, rfl, by omega⟩
        · have hx2 := hx'
          rw [q] at hx2
          obtain ⟨y1, y2, y3, y4, y5, y6, y7⟩ := hx2
          have e3 : woken p.P a g' (w.setChan c p.cap buf true s r false) x = { parked y3 #[rcase c p.z] (.recv true) with status := .running } := by
            rw [y4]
            unfold woken
            rw [if_pos (by rw [hmw, hg']; rfl)]
            exact again_recv_closed (setChan_at w hcs)
          refine ⟨.rc vs, ?_, by rw [q]; rfl, rfl, by rw [q]; rfl, by rw [q]; simp [WT.phi]⟩
          rw [e3, y2]
          refine ⟨y1, fun w₁ hs₁ => WRecv.of_next _ _ _ _ _ _ _ _ _ _ _ ⟨rfl, y3, y5, fun w2 => y6 w2, y6, y7.suf hs₁.kept⟩⟩
      obtain ⟨tg, t1, t2, t3, t4, t5⟩ := hwoke
      have hgk : ((gs.map (woken p.P a g' (w.setChan c p.cap buf true s r false))).setIfInBounds 0 g')[p.q + 1 + l1.length]? = some (woken p.P a g' (w.setChan c p.cap buf true s r false) x) := by rw [get_map_set _ _ _ _ (by omega), x1]; rfl
      refine h.both2 ok hk hrun (by simp) (get_map_set_same _ _ _ (Array.getElem?_eq_some_iff.1 h.a0).1) hgk (fun i g hi0 hi1 hg hq => ?_) ⟨rfl, rfl, rfl⟩ (by simp [World.setChan]) (fun b hb => setChan_block w b hb) (.inr fun op hop => ?_) (fun op hop => ?_) (mt' := .cl l) (o := o) ⟨hd, hl, ⟨l1 ++ [c], by rw [hl1]; simp⟩, hW.suf ⟨hkp 0, hl'⟩⟩ t1
        ⟨buf, s, r, ?_, by rw [t2, c2]; rfl, fun q => by rw [t3] at q; cases q⟩ (fun k' _ => by rw [htd]; rfl) (fun c' _ hne => ?_) t4 (by rw [t2]; exact Nat.le_refl _) (by rw [htg]; rfl) ?_
      · rw [get_map_set _ _ _ _ (Ne.symm hi0), hg]
        simp only [Option.map_some, Option.some.injEq]
        rcases hq with ⟨m, d, hq⟩ | ⟨k', c', o', d', hne, hk', hq⟩
        · exact woken_quitsD hq
        · refine hq.woken (fun hp => ?_) a g'
          obtain ⟨buf', s', r', d1, _, d3⟩ := h.chan k' c' hk'
          obtain ⟨rfl, d4⟩ := d3 hp
          rw [d4] at d1
          exact ⟨_, _, _, _, _, (setChan_block w _ hne).trans d1⟩
      · obtain ⟨e, he, rfl⟩ := Go.Conc.mem_ofEvents hop
        simp only [List.mem_toArray, List.mem_cons, List.not_mem_nil, or_false] at he
        refine ⟨rfl, fun x hx => ?_⟩
        rcases he with rfl | rfl
        · simp only [MemAct.ofEvent, MemAct.touch?, Option.some.injEq] at hx
          rw [← hx]
        · simp [MemAct.ofEvent, MemAct.touch?] at hx
      · obtain ⟨e, he, rfl⟩ := Go.Conc.mem_ofEvents hop
        simp only [List.mem_toArray, List.mem_cons, List.not_mem_nil, or_false] at he
        rcases he with rfl | rfl <;> simp [MemAct.ofEvent]
      · rw [show (MT.cl l).shut c = true by simp [MT.shut, hcl]]
        exact setChan_at w hcs
      · rw [htg]
        simp [MT.shut, hne]
      · rw [htg]
        simp only [MT.phi, List.length_cons]
        omega
end
section
variable [Payload] {p : Ph} {gs : Array Goroutine} {w w' : World} {t : Trace} {T : Nat → Hold} {F : Nat → Od} {wt : Nat → WT} {mt : MT} {cs : List Nat} {st sm : Int} {a : Goroutine} {sl : Option (Nat × Nat)}
theorem GI.sd (ok : p.Ok) (h : GI p gs w t T F wt mt cs st sm a) {l : List (Nat × Value)} (htg : mt = .sd l) : Goal p gs w sl 0 t (meas p F wt mt cs) := by
  have hm := h.main
  rw [htg] at hm
  obtain ⟨hd, hl, hway⟩ := hm
  rcases l with _ | ⟨⟨k, v⟩, l⟩
  · have h' : GI p gs w t T F wt (.cl cs) cs st sm a := by
      have hmd := h.mode
      rw [htg] at hmd
      refine ⟨h.size, h.len, h.a0, ⟨hd, hl, ⟨[], rfl⟩, hway⟩, h.old, h.wk, h.tno, h.above, h.blk, h.trc, fun k c hk => ?_, h.short, h.nd, h.wg, hmd, h.pay, h.rel, h.sus⟩
      have := h.chan k c hk
      rw [htg] at this
      have hc : (MT.cl cs).shut c = false := by simp [MT.shut, List.mem_of_getElem? hk]
      rw [hc]
      exact this
    obtain ⟨mm, ops, μ', q1, q2, q3⟩ := h'.cl (sl := sl) ok rfl
    refine ⟨mm, ops, μ', q1, ?_, q3⟩
    have e : meas p F wt mt cs = meas p F wt (.cl cs) cs := by
      rw [htg]
      simp only [meas, MT.phi, MT.tries, List.length_nil, hl]
      rw [show 9 * p.n + 15 + 2 * p.n + 0 = 9 * p.n + 15 + 2 * p.n by omega]
    rw [e]
    exact q2
  cases hF : F 0 with
  | mk f =>
    rw [hF] at hway
    refine h.innerM ok hway hF fun g' w' Ow' e3 => ?_
    rw [htg]
    refine ⟨hd, hl, ?_⟩
    rw [grown_sh, grown_ow, if_pos rfl]
    exact e3
  | leaf =>
    rw [hF] at hway
    obtain ⟨hr, c, z, g₂, hk, hst, o, hW⟩ := hway w ⟨Kept.refl _ _ _, h.live⟩
    have hkl : k < cs.length := (List.getElem?_eq_some_iff.1 hk).1
    have hmem := List.mem_of_getElem? hk
    obtain ⟨buf, s, r, c1, c2, c3⟩ := h.chan k c hk
    have hs0 : ∀ x, mt.shut x = false := fun x => by rw [htg]; rfl
    have htd : mt.todo p.l0 = (k, v) :: l := by rw [htg]; rfl
    rw [hs0] at c1
    rw [htd, left_same] at c2
    have hcs : c < w.heap.size := (Array.getElem?_eq_some_iff.1 c1).1
    obtain ⟨x, x1, x2⟩ := h.wk k c hk
    have hg0 : 0 < gs.size := (Array.getElem?_eq_some_iff.1 h.a0).1
    have hgk : p.q + 1 + k < gs.size := by rw [h.size]; omega
    have hstep : stepG p.P (0 == 0) a w = .comm g₂ #[scase c v z] true .send w #[] := hst w
    have hkp : ∀ (b : Array Value) (s' r' : Nat) i, Kept (T i).sh (T i).ow w (w.setChan c p.cap b false s' r' false) := fun b s' r' => h.keptSp (w' := w.setChan c p.cap b false s' r' false) rfl (by simp [World.setChan]) fun y hy => setChan_block w y fun e => hy (.inr (.inr (e ▸ hmem)))
    have hWg : ∀ (b : Array Value) (s' r' : Nat), (w.setChan c p.cap b false s' r' false).heap[p.Wg]? = w.heap[p.Wg]? := fun b s' r' => setChan_block w _ fun e => h.nd.2.2 c hmem (e ▸ ok.su)
    have hCb : ∀ (b : Array Value) (s' r' : Nat), (w.setChan c p.cap b false s' r' false).heap[p.C]? = w.heap[p.C]? := fun b s' r' => setChan_block w _ fun e => h.nd.2.1 (e ▸ hmem)
    have hlv : ∀ (b : Array Value) (s' r' : Nat), WgLive p.ty p.Wg (w.setChan c p.cap b false s' r' false) := fun b s' r' => ⟨_, _, h.wg.of_block (hWg b s' r')⟩
    obtain ⟨pc, hp1, hp2⟩ := h.pay
    have hpy : ∀ (b : Array Value) (s' r' : Nat), PayAt p.C p.n (w.setChan c p.cap b false s' r' false) := fun b s' r' => ⟨pc, (hCb b s' r').trans hp1, hp2⟩
    have hle : ∀ k', k' ≠ k → left ((MT.sd l).todo p.l0) k' = left (mt.todo p.l0) k' := fun k' e => by rw [htd, left_ne v l e]; rfl
    have hlt1 : (MT.sd l).phi p.n p.l0.length (Vc cs.length (Dw wt)) + 1 = mt.phi p.n p.l0.length (Vc cs.length (Dw wt)) := by rw [htg]; simp only [MT.phi, List.length_cons]; omega
    have hct : (MT.sd l).ctag = mt.ctag := by rw [htg]; rfl
    cases hpk : (wt k).isPk with
    | false =>
      have hp : partners (gs.setIfInBounds 0 ph) c false = [] := by
        refine partners_nil fun j g hj => ?_
        rcases getElem?_stand gs 0 j g hj with ⟨_, rfl⟩ | ⟨_, hj'⟩
        · exact offersAt_ph c false
        · rcases (h.offers ok hj').2 c with q | ⟨k', _, q1, q2⟩
          · exact q
          · rw [nodup_at h.nd.1 hk q1, hpk] at q2
            cases q2
      have hroom : buf.size < p.cap := by
        have := h.short k hkl
        rw [c2] at this
        simp at this
        omega
      have hrun := crowd_send_room (sl := sl) h.a0 hstep c1 hroom hp
      rw [finishComm_send] at hrun
      refine h.both ok hk hrun (by simp) (Array.getElem?_setIfInBounds_self_of_lt hg0) (by rw [Array.getElem?_setIfInBounds_ne (by omega)]; exact x1) (fun i g hi0 _ hg _ => by rw [Array.getElem?_setIfInBounds_ne (Ne.symm hi0)]; exact hg) ⟨rfl, rfl, rfl⟩ (by simp [World.setChan]) (fun b hb => setChan_block w b hb) (fun op hop => ?_) (mt' := .sd l) (o := o) ⟨hd, hl, hW.suf ⟨hkp _ _ _ 0, hlv _ _ _⟩⟩ (WSit.suf (ok.tl _) x2 (hkp _ _ _ _) (hlv _ _ _) (hpy _ _ _) (Go.ConcN.cell_of_block (hCb _ _ _) _))
        ⟨buf.push v, s + 1, r, setChan_at w hcs, by rw [c2]; simp [MT.todo], fun q => by rw [hpk] at q; cases q⟩ hle (fun _ _ _ => by rw [hs0]; rfl) rfl (Nat.le_refl _) hct (by omega)
      simp only [Array.mem_append, List.mem_toArray, List.mem_cons, List.not_mem_nil, or_false] at hop
      rcases hop with hop | rfl | rfl
      · obtain ⟨e, he, _⟩ := Go.Conc.mem_ofEvents hop
        simp at he
      · simp [MemAct.touch?]
      · simp [MemAct.touch?]
    | true =>
      obtain ⟨rfl, _⟩ := c3 hpk
      rcases WSit.status x2 with ⟨q, _⟩ | ⟨vs, _, q, _⟩
      · rw [hpk] at q; cases q
      rw [q] at x2 c2
      obtain ⟨y1, y2, y3, rfl, y5, y6, y7⟩ := x2
      have evs : vs = v :: left l k := by simpa [WT.rest] using c2
      subst evs
      have hp : partners (gs.setIfInBounds 0 ph) c false = [(p.q + 1 + k, 0)] := by
        have hj : (gs.setIfInBounds 0 ph)[p.q + 1 + k]? = some (parked y3 #[rcase c p.z] (.recv true)) := by rw [Array.getElem?_setIfInBounds_ne (by omega)]; exact x1
        rw [partners_one hj fun j g hj0 hj' => ?_, offersAt_parked_recv]
        · simp
        · rcases getElem?_stand gs 0 j g hj' with ⟨_, rfl⟩ | ⟨_, hj''⟩
          · exact offersAt_ph c false
          · rcases (h.offers ok hj'').2 c with q' | ⟨k', q0, q1, q2⟩
            · exact q'
            · exact absurd (by rw [q0, nodup_at h.nd.1 hk q1]) hj0
      have hrun := crowd_send_meets (sl := sl) h.a0 hstep c1 (by omega) x1 hp
      rw [finishComm_send, finishComm_recv] at hrun
      obtain ⟨ow, how⟩ := y7
      have hkw := (hkp #[] (s + 1) (r + 1) (p.q + 1 + k))
      refine h.both ok hk hrun (by simp) (by rw [Array.getElem?_setIfInBounds_self_of_lt (by simpa using hg0)]) (by rw [Array.getElem?_setIfInBounds_ne (by omega), Array.getElem?_setIfInBounds_self_of_lt hgk]) (fun i g hi0 hi1 hg _ => by rw [Array.getElem?_setIfInBounds_ne (Ne.symm hi0), Array.getElem?_setIfInBounds_ne (Ne.symm hi1)]; exact hg) ⟨rfl, rfl, rfl⟩ (by simp [World.setChan]) (fun b hb => setChan_block w b hb) (fun op hop => ?_) (mt' := .sd l) (o := o) ⟨hd, hl, hW.suf ⟨hkp _ _ _ 0, hlv _ _ _⟩⟩ (tg := .rc (left l k)) (ow := ow) ⟨y1, how.suf ⟨hkw, trivial⟩⟩
        ⟨#[], s + 1, r + 1, setChan_at w hcs, rfl, fun q' => by cases q'⟩ hle (fun _ _ _ => by rw [hs0]; rfl) (by rw [q]; rfl) (by rw [q]; simp [WT.rest]) hct (by rw [q]; simp only [WT.phi, List.length_cons]; omega)
      simp only [Array.mem_append, List.mem_toArray, List.mem_cons, List.not_mem_nil, or_false] at hop
      rcases hop with hop | rfl | rfl | rfl | rfl
      · obtain ⟨e, he, _⟩ := Go.Conc.mem_ofEvents hop
        simp at he
      · simp [MemAct.touch?]
      · simp [MemAct.touch?]
      · simp [MemAct.touch?]
      · simp [MemAct.touch?]
end
end Go.Proofs.YtckoipoejaafhaaDoor.Cc
