/-
  A worker at the receive: a task is there; the channel is closed; it waits.
-/
import Derived.Test.YtckoipoejaafhaaDoorCcNAll
namespace Go.Proofs.YtckoipoejaafhaaDoor.Cc
open Go Go.Conc
open Go.ConcN (RW DWs CT upd upd_same upd_ne WgLive PayAt Has RelBy CTag WD Vc cnt sumTo sumTo_upd sumTo_congr)
open Go.ConcR (DC0 Payload KK WgAt stA smA rd wr Bk)
theorem shut_todo {mt : MT} {c : Nat} (l : List (Nat × Value)) (h : mt.shut c = true) : mt.todo l = [] := by
  cases mt <;> simp [MT.shut, MT.todo] at h ⊢
theorem setChan_block (w : World) {c cap s r : Nat} {buf : Array Value} {closed tm : Bool} (b : Nat) (hb : b ≠ c) : (w.setChan c cap buf closed s r tm).heap[b]? = w.heap[b]? := by
  simp only [World.setChan]
  rw [Array.getElem?_setIfInBounds_ne (Ne.symm hb)]
theorem setChan_at (w : World) {c cap s r : Nat} {buf : Array Value} {closed tm : Bool} (hc : c < w.heap.size) : (w.setChan c cap buf closed s r tm).heap[c]? = some (.chan cap buf closed s r tm) := by
  simp only [World.setChan]
  rw [Array.getElem?_setIfInBounds_self_of_lt hc]
section
variable [Payload] {p : Ph} {gs : Array Goroutine} {w w' : World} {t : Trace} {T : Nat → Hold} {F : Nat → Od} {wt : Nat → WT} {mt : MT} {cs : List Nat} {st sm : Int} {a : Goroutine} {sl : Option (Nat × Nat)}
theorem GI.offers (ok : p.Ok) (h : GI p gs w t T F wt mt cs st sm a) {i : Nat} {g : Goroutine} (hi : gs[i]? = some g) : (∀ c, offersAt g c true = []) ∧ ∀ c, offersAt g c false = [] ∨ ∃ k, i = p.q + 1 + k ∧ cs[k]? = some c ∧ (wt k).isPk = true := by
  have nb : g.status ≠ .blocked → (∀ c, offersAt g c true = []) ∧ ∀ c, offersAt g c false = [] ∨ ∃ k, i = p.q + 1 + k ∧ cs[k]? = some c ∧ (wt k).isPk = true := fun x => ⟨fun c => offersAt_of_not_blocked x c true, fun c => .inl (offersAt_of_not_blocked x c false)⟩
  rcases Nat.eq_zero_or_pos i with rfl | h1
  · obtain rfl : g = a := by rw [h.a0] at hi; exact (Option.some.inj hi).symm
    rcases h.main.running ok h.live with hr | hb
    · exact nb (by rw [hr]; simp)
    · have hm := h.main
      rw [hb] at hm
      obtain ⟨_, _, _, g₀, e, _, hn, _⟩ := hm
      have : ∀ c b, offersAt g c b = [] := fun c b => by
        rw [e]
        unfold offersAt
        simp only [hn]
      exact ⟨fun c => this c true, fun c => .inl (this c false)⟩
  · rcases Nat.lt_or_ge p.q i with hlt | hge
    · have hk : i - (p.q + 1) < cs.length := by have := (Array.getElem?_eq_some_iff.1 hi).1; rw [h.size] at this; omega
      obtain ⟨k, rfl⟩ : ∃ k, i = p.q + 1 + k := ⟨i - (p.q + 1), by omega⟩
      have hkc : cs[k]? = some cs[k] := List.getElem?_eq_getElem (by omega)
      obtain ⟨x, e1, e2⟩ := h.wk k _ hkc
      obtain rfl : g = x := by rw [hi] at e1; exact Option.some.inj e1
      rcases WSit.status e2 with ⟨_, q | ⟨_, q⟩⟩ | ⟨vs, g₂, q, rfl⟩
      · exact nb (by rw [q]; simp)
      · exact nb (by rw [q]; simp)
      · refine ⟨fun c => offersAt_parked_recv' _ _ _ _ c, fun c => ?_⟩
        rw [offersAt_parked_recv]
        split
        · rename_i e
          subst e
          exact .inr ⟨k, rfl, hkc, by rw [q]; rfl⟩
        · exact .inl rfl
    · obtain ⟨x, m, e1, e2, _⟩ := h.old i h1 hge
      obtain rfl : g = x := by rw [hi] at e1; exact Option.some.inj e1
      rcases e2.status with q | q <;> exact nb (by rw [q]; simp)
theorem GI.noSend (ok : p.Ok) (h : GI p gs w t T F wt mt cs st sm a) (i c : Nat) : partners (gs.setIfInBounds i ph) c true = [] := by
  refine partners_nil fun j g hj => ?_
  rcases getElem?_stand gs i j g hj with ⟨_, rfl⟩ | ⟨_, hj'⟩
  · exact offersAt_ph c true
  · exact (h.offers ok hj').1 c
theorem GI.commW (ok : p.Ok) (h : GI p gs w t T F wt mt cs st sm a) {k c : Nat} (hk : cs[k]? = some c) {g : Goroutine} {u : Trace} (hrun : runT p.P (crowd gs w sl) (p.q + 1 + k) = (.next (crowd (gs.setIfInBounds (p.q + 1 + k) g) w' sl), u))
    (ht : w'.tape = w.tape ∧ w'.os = w.os ∧ w'.output = w.output) (hz : w'.heap.size = w.heap.size) (hb : ∀ b, b ≠ c → w'.heap[b]? = w.heap[b]?) (hu : ∀ op ∈ u, op.g = p.q + 1 + k ∧ op.act.touch? = none ∧ op.act ≠ .mark .disable ∧ op.act ≠ .mark .enable ∧ op.act ≠ .mark (.release (stA p.Wg)))
    {tg : WT} {o : Od} (hs : p.W T k c tg o (Deaf t (p.q + 1 + k)) g w') (hch : ∃ buf s r, w'.heap[c]? = some (.chan p.cap buf (mt.shut c) s r false) ∧ tg.rest = buf.toList ++ left (mt.todo p.l0) k ∧ (tg.isPk = true → buf = #[] ∧ mt.shut c = false))
    (hsh : tg.rest.length ≤ (wt k).rest.length) (hst : tg.stage = 7) (hst' : (wt k).stage = 7) (hlt : tg.phi < (wt k).phi) : Goal p gs w sl (p.q + 1 + k) t (meas p F wt mt cs) := by
  have hkl : k < cs.length := (List.getElem?_eq_some_iff.1 hk).1
  have hmem := List.mem_of_getElem? hk
  have hdeaf : ∀ i, Deaf (t ++ u) i = Deaf t i := fun i => Go.ConcN.Deaf_still t i u fun op hop => ⟨(hu op hop).2.2.1, (hu op hop).2.2.2.1⟩
  have hWg : w'.heap[p.Wg]? = w.heap[p.Wg]? := hb _ fun e => h.nd.2.2 c hmem (e ▸ ok.su)
  have hCb : w'.heap[p.C]? = w.heap[p.C]? := hb _ fun e => h.nd.2.1 (e ▸ hmem)
  obtain ⟨pc, hp1, hp2⟩ := h.pay
  have hkept : ∀ i, Kept (T i).sh (T i).ow w w' := h.keptSp ht.1 (Nat.le_of_eq hz.symm) fun b hx => hb b fun e => hx (.inr (.inr (e ▸ hmem)))
  have hwg' := h.wg.of_block hWg
  have hl' : WgLive p.ty p.Wg w' := ⟨_, _, hwg'⟩
  have hpay : PayAt p.C p.n w' := ⟨pc, hCb.trans hp1, hp2⟩
  have hg0 : p.q + 1 + k < gs.size := by rw [h.size]; omega
  have hupd : ∀ k', k' ≠ k → upd wt k tg k' = wt k' := fun k' e => upd_ne wt tg e
  have hF : ∀ i, i ≠ p.q + 1 + k → upd F (p.q + 1 + k) o i = F i := fun i e => upd_ne F o e
  have hD : ∀ x, (Dw (upd wt k tg) x).stage = (Dw wt x).stage := fun x => by
    by_cases e : x = k
    · subst e; simp only [Dw, upd_same]; omega
    · simp only [Dw, hupd x e]
  refine ⟨_, _, meas p (upd F (p.q + 1 + k) o) (upd wt k tg) mt cs, hrun, ?_, _, w', sl, T, upd F (p.q + 1 + k) o, upd wt k tg, mt, cs, st, sm, a, rfl, ?_, rfl⟩
  · unfold meas
    refine Prod.Lex.left _ _ ?_
    have e2 := sumTo_upd wt tg WT.phi hkl
    have hv : Vc cs.length (Dw (upd wt k tg)) = Vc cs.length (Dw wt) := sumTo_congr fun x _ => by simp only [cnt, hD x]
    rw [hv]
    omega
  · refine ⟨by simp [h.size], h.len, by rw [Array.getElem?_setIfInBounds_ne (by omega)]; exact h.a0, by rw [hF 0 (by omega), hdeaf]; exact MSit.suf h.main (hkept 0) hl', fun i h1 h2 => ?_, fun k' c' hk' => ?_, h.tno, fun i hi => by rw [hdeaf]; exact h.above i hi, h.blk.heap hz, ?_, fun k' c' hk' => ?_, fun k' hk' => ?_, h.nd, hwg', h.mode.congr fun x _ => hD x, hpay, fun k' hk' hs' => ?_, ⟨⟨ht.2.1.trans h.sus.1.1, ht.2.2.trans h.sus.1.2⟩, fun b hs' hne => (hb b fun e => h.nd.2.2 c hmem (e ▸ hs')).trans (h.sus.2 b hs' hne)⟩⟩
    · obtain ⟨x, m, e1, e2, e3⟩ := h.old i h1 h2
      exact ⟨x, m, by rw [Array.getElem?_setIfInBounds_ne (by omega)]; exact e1, by rw [hdeaf]; exact e2, by rw [hF i (by omega)]; exact e3⟩
    · by_cases e : k' = k
      · subst e
        obtain rfl : c' = c := by rw [hk] at hk'; exact (Option.some.inj hk').symm
        exact ⟨g, Array.getElem?_setIfInBounds_self_of_lt hg0, by rw [upd_same, upd_same, hdeaf]; exact hs⟩
      · obtain ⟨x, e1, e2⟩ := h.wk k' c' hk'
        refine ⟨x, by rw [Array.getElem?_setIfInBounds_ne (by omega)]; exact e1, ?_⟩
        rw [hupd k' e, hF _ (by omega), hdeaf]
        exact WSit.suf (ok.tl k') e2 (hkept _) hl' hpay (Go.ConcN.cell_of_block hCb k')
    · rw [hz]
      refine h.trc.app (CT.mute h.trc.ct (fun op hop => (hu op hop).2.1) fun op hop => by rw [(hu op hop).1]; omega) (h.trc.low.app fun op hop x hx => ?_) (fun op hop => (hu op hop).2.2.2.2) (fun op hop _ x hx => ?_) (fun op hop _ _ => (hu op hop).2.1)
      · rw [(hu op hop).2.1] at hx; cases hx
      · rw [(hu op hop).2.1] at hx; cases hx
    · by_cases e : k' = k
      · subst e
        obtain rfl : c' = c := by rw [hk] at hk'; exact (Option.some.inj hk').symm
        rw [upd_same]
        exact hch
      · obtain ⟨buf, s, r, c1, c2, c3⟩ := h.chan k' c' hk'
        rw [hupd k' e]
        refine ⟨buf, s, r, (hb c' fun x => e ?_).trans c1, c2, c3⟩
        subst x
        exact (List.getElem?_inj (by have := (List.getElem?_eq_some_iff.1 hk').1; exact this) h.nd.1).1 (hk'.trans hk.symm)
    · by_cases e : k' = k
      · subst e; rw [upd_same]; exact Nat.le_trans hsh (h.short k' hk')
      · rw [hupd k' e]; exact h.short k' hk'
    · have : (wt k').stage ≤ 6 := by have := hD k'; simp only [Dw] at this; omega
      obtain ⟨r, hr⟩ := h.rel k' hk' this
      refine ⟨r, hr.app fun i hi hgi hc => ?_⟩
      obtain ⟨x, hx, _⟩ := hc
      obtain ⟨op, hop, hox⟩ := touch_of hx
      rcases getElem?_append_cases hop with ⟨hlt, _⟩ | ⟨_, hopu⟩
      · omega
      · rw [(hu op hopu).2.1] at hox; cases hox
theorem GI.recv (ok : p.Ok) (h : GI p gs w t T F wt mt cs st sm a) {k c : Nat} (hk : cs[k]? = some c) {g : Goroutine} (hg : gs[p.q + 1 + k]? = some g) (hw : p.W T k c (wt k) (F (p.q + 1 + k)) (Deaf t (p.q + 1 + k)) g w) {vs : List Value} (htg : wt k = .rc vs) : Goal p gs w sl (p.q + 1 + k) t (meas p F wt mt cs) := by
  have hmem := List.mem_of_getElem? hk
  rw [htg] at hw
  obtain ⟨hd, hway⟩ := hw
  cases hF : F (p.q + 1 + k) with
  | mk f =>
    rw [hF] at hway
    refine h.inner ok hk hg (.inl rfl) (I := yes) trivial hway hF (by rw [htg]; rfl) (by rw [htg]; rfl) fun g' w' es Ow' _ e3 => ?_
    rw [htg]
    refine ⟨hd, ?_⟩
    rw [grown_sh, grown_ow, if_pos rfl]
    exact e3
  | leaf =>
    rw [hF] at hway
    obtain ⟨_, g₂, hof, hst, hst2, hnx⟩ := WRecv.next _ _ _ _ _ _ _ _ _ _ _ (hway w ⟨Kept.refl _ _ _, trivial⟩)
    obtain ⟨buf, s, r, c1, c2, c3⟩ := h.chan k c hk
    rw [htg] at c2
    have hcl : c < w.heap.size := (Array.getElem?_eq_some_iff.1 c1).1
    have hi0 : (p.q + 1 + k == 0) = false := by simp
    have hstep := hst w
    rw [← hi0] at hstep
    have hp := h.noSend ok (p.q + 1 + k) c
    obtain ⟨bl⟩ := buf
    cases bl with
    | cons v bs =>
      have hrun := crowd_recv_buf (sl := sl) hg hstep c1 (by simp) hp
      simp only [WT.rest, List.cons_append] at c2
      subst c2
      rw [finishComm_recv] at hrun
      have he : (Array.mk (v :: bs)).extract 1 (Array.mk (v :: bs)).size = Array.mk bs := by simp
      have hv' : (Array.mk (v :: bs)).getD 0 undef = v := by simp
      rw [hv', he] at hrun
      obtain ⟨o, ho⟩ := hnx
      have hkp : Kept (T (p.q + 1 + k)).sh (T (p.q + 1 + k)).ow w (w.setChan c p.cap (Array.mk bs) (mt.shut c) s (r + 1) false) := h.keptSp (w' := w.setChan c p.cap (Array.mk bs) (mt.shut c) s (r + 1) false) rfl (by simp [World.setChan]) (fun b hx => setChan_block w b fun e => hx (.inr (.inr (e ▸ hmem)))) _
      refine h.commW ok hk hrun ⟨rfl, rfl, rfl⟩ (by simp [World.setChan]) (fun b hb => setChan_block w b hb) (fun op hop => ?_) (tg := .rc (bs ++ left (mt.todo p.l0) k)) (o := o) ⟨hd, ho.suf ⟨hkp, trivial⟩⟩
        ⟨Array.mk bs, s, r + 1, setChan_at w hcl, rfl, fun x => by cases x⟩ (by rw [htg]; simp [WT.rest]) rfl (by rw [htg]; rfl) (by rw [htg]; simp [WT.phi])
      simp only [Array.mem_append, List.mem_toArray, List.mem_cons, List.not_mem_nil, or_false] at hop
      rcases hop with hop | rfl | rfl
      · obtain ⟨e, he, _⟩ := Go.Conc.mem_ofEvents hop
        simp at he
      · simp [MemAct.touch?]
      · simp [MemAct.touch?]
    | nil =>
      cases hsh : mt.shut c with
      | true =>
        rw [shut_todo p.l0 hsh] at c2
        simp only [WT.rest, left, List.filter_nil, List.map_nil, List.append_nil] at c2
        subst c2
        rw [hsh] at c1
        have hrun := crowd_recv_closed (sl := sl) hg hstep c1 hp
        rw [finishComm_recv] at hrun
        obtain ⟨o, ho⟩ := hnx
        refine h.commW ok hk hrun ⟨rfl, rfl, rfl⟩ rfl (fun b hb => rfl) (fun op hop => ?_) (tg := .st) (o := o) ⟨hd, ho⟩
          ⟨#[], s, r, by rw [hsh]; exact c1, by rw [shut_todo p.l0 hsh]; rfl, fun x => by cases x⟩ (by simp [WT.rest]) rfl (by rw [htg]; rfl) (by rw [htg]; simp [WT.phi])
        simp only [Array.mem_append, List.mem_toArray, List.mem_cons, List.not_mem_nil, or_false] at hop
        rcases hop with hop | rfl
        · obtain ⟨e, he, _⟩ := Go.Conc.mem_ofEvents hop
          simp at he
        · simp [MemAct.touch?]
      | false =>
        rw [hsh] at c1
        have hrun := crowd_waits (sl := sl) hg hstep (fun cc hcc => by
          obtain rfl : cc = rcase c p.z := by simpa using hcc
          exact ways_recv_none c1 hp)
        refine h.commW ok hk hrun ⟨rfl, rfl, rfl⟩ rfl (fun b hb => rfl) (fun op hop => ?_) (tg := .pk vs) (o := .leaf) ⟨hd, rfl, g₂, rfl, hof, hst2, hnx.suf (Kept.refl _ _ _)⟩
          ⟨#[], s, r, by rw [hsh]; exact c1, c2, fun _ => ⟨rfl, hsh⟩⟩ (by rw [htg]; exact Nat.le_refl _) rfl (by rw [htg]; rfl) (by rw [htg]; simp [WT.phi])
        obtain ⟨e, he, _⟩ := Go.Conc.mem_ofEvents hop
        simp at he
theorem GI.worker (ok : p.Ok) (h : GI p gs w t T F wt mt cs st sm a) {k c : Nat} (hk : cs[k]? = some c) {g : Goroutine} (hg : gs[p.q + 1 + k]? = some g) (hrun : g.status = .running) : Goal p gs w sl (p.q + 1 + k) t (meas p F wt mt cs) := by
  obtain ⟨x, e1, e2⟩ := h.wk k c hk
  obtain rfl : g = x := by rw [hg] at e1; exact Option.some.inj e1
  cases htg : wt k with
  | rc vs => exact h.recv ok hk hg e2 htg
  | pk vs =>
    rw [htg] at e2
    obtain ⟨_, _, g₂, e, _⟩ := e2
    rw [e] at hrun
    cases hrun
  | st => exact h.store ok hk hg e2 htg
  | r0 v => exact h.release ok hk hg e2 htg
  | k1 v => exact h.deafen ok hk hg e2 htg
  | d1 v => exact h.count ok hk hg e2 htg
  | d2 v => exact h.last2 ok hk hg e2 htg
  | d3 v => exact h.last3 ok hk hg e2 htg
  | d4 v => exact h.last4 ok hk hg e2 htg
  | qt v => exact h.leaves ok hk hg e2 htg hrun
theorem GI.slips (ok : p.Ok) (h : GI p gs w t T F wt mt cs st sm a) {i : Nat} (h1 : 1 ≤ i) (h2 : i ≤ p.q) {g : Goroutine} (hg : gs[i]? = some g) (hrun : g.status = .running) : Goal p gs w sl i t (meas p F wt mt cs) := by
  obtain ⟨x, m, e1, hQ, hF⟩ := h.old i h1 h2
  obtain rfl : g = x := by rw [hg] at e1; exact Option.some.inj e1
  cases m with
  | zero => rw [hQ.1] at hrun; cases hrun
  | succ m =>
    rcases hQ with ⟨hf, _⟩ | ⟨_, g', es, hm, hst, hq⟩
    · rw [hf] at hrun; cases hrun
    have hi0 : (i == 0) = false := by simp; omega
    have hr := runT_crowd_go (P := p.P) (sl := sl) (i := i) hg (by rw [hi0]; exact hst w)
    have hops : ∀ op ∈ MemOp.ofEvents i g.frame.fn g.frame.place es, op.g = i := fun op hop => by obtain ⟨e, _, rfl⟩ := Go.Conc.mem_ofEvents hop; rfl
    have hnt : ∀ op ∈ MemOp.ofEvents i g.frame.fn g.frame.place es, op.act.touch? = none := fun op hop => by obtain ⟨e, he, rfl⟩ := Go.Conc.mem_ofEvents hop; exact touch_mute (hm e he)
    have hdeaf : ∀ j, i ≠ j → Deaf (t ++ MemOp.ofEvents i g.frame.fn g.frame.place es) j = Deaf t j := fun j hj => Deaf_other t hj _ hops
    have hm0 : p.M T cs mt (F 0) (Deaf (t ++ MemOp.ofEvents i g.frame.fn g.frame.place es) 0) a w := by
      rw [hdeaf 0 (by omega)]
      exact h.main
    obtain ⟨mt', hm1, htag, _⟩ := hm0.woken ok h.live g g'
    have hFn : ∀ j, j ≠ i → upd F i (Od.nat m) j = F j := fun j e => upd_ne F _ e
    refine ⟨_, _, meas p (upd F i (Od.nat m)) wt mt' cs, hr, ?_, _, w, sl, T, upd F i (Od.nat m), wt, mt', cs, st, sm, woken p.P g g' w a, rfl, ?_, rfl⟩
    · unfold meas
      rw [phi_retag _ _ _ htag]
      exact Prod.Lex.right _ (Prod.Lex.left _ _ ⟨i, by omega, by rw [upd_same, hF]; exact Od.nat_sub m w, fun j hj => hFn j hj⟩)
    · refine ⟨by simp [h.size], h.len, by rw [Go.ConcN.get_map_set _ _ _ _ (by omega), h.a0]; rfl, by rw [hFn 0 (by omega)]; exact hm1, fun j h1' h2' => ?_, fun k' c' hk' => ?_, h.tno, fun j hj => by rw [hdeaf j (by omega)]; exact h.above j hj, h.blk, ?_, fun k' c' hk' => ?_, h.short, h.nd, h.wg, h.mode.retag (retag_ctag htag), h.pay, fun k' hk' hs' => ?_, h.sus⟩
      · by_cases e : j = i
        · subst e
          exact ⟨g', m, Go.ConcN.get_map_set_same _ _ _ (Array.getElem?_eq_some_iff.1 hg).1, by rw [Deaf_own]; exact hq, upd_same _ _ _⟩
        · obtain ⟨x, m', q1, q2, q3⟩ := h.old j h1' h2'
          refine ⟨x, m', ?_, by rw [hdeaf j (Ne.symm e)]; exact q2, by rw [hFn j e]; exact q3⟩
          rw [Go.ConcN.get_map_set _ _ _ _ (Ne.symm e), q1]
          simp [woken_quitsD q2]
      · obtain ⟨x, q1, q2⟩ := h.wk k' c' hk'
        refine ⟨x, ?_, by rw [hFn _ (by omega), hdeaf _ (by omega)]; exact q2⟩
        rw [Go.ConcN.get_map_set _ _ _ _ (by omega), q1]
        obtain ⟨buf, s, r, c1, _, c3⟩ := h.chan k' c' hk'
        simp only [Option.map_some, Option.some.injEq]
        refine q2.woken (fun hp => ?_) g g'
        obtain ⟨rfl, c4⟩ := c3 hp
        rw [c4] at c1
        exact ⟨_, _, _, _, _, c1⟩
      · refine h.trc.app (CT.mute h.trc.ct hnt fun op hop => by rw [hops op hop]; omega) (h.trc.low.app fun op hop x hx => ?_) (fun op hop e => ?_) (fun op hop _ x hx => ?_) (fun op hop _ _ => hnt op hop)
        · rw [hnt op hop] at hx; cases hx
        · obtain ⟨x, hx, rfl⟩ := Go.Conc.mem_ofEvents hop
          exact (mute_evG (Wg := p.Wg) (hm x hx)).rel (Go.ConcR.loc_of_ofEvent e)
        · rw [hnt op hop] at hx; cases hx
      · rw [todo_retag _ htag, shut_retag _ htag]
        exact h.chan k' c' hk'
      · obtain ⟨r, hr⟩ := h.rel k' hk' hs'
        exact ⟨r, hr.appOther hops (by omega)⟩
end
end Go.Proofs.YtckoipoejaafhaaDoor.Cc
