/-
  Texts that stood one behind the other, as one.
-/
import Derived.Test.YtckoipoejaafhaaDoorCeM
import Derived.Test.YtckoipoejaafhaaDoorPlanDAll
namespace Go.Proofs.YtckoipoejaafhaaDoor.Cc
open Go Go.Conc Go.RowKit
section
variable {dl : List Nat} {zs : List Int} {back : Bool} {n : Nat} {L : List (List (List Int))} {bz oz cz bP oP cP : Nat} {c0 : Frame} {cs : List Frame} {N0 : Nat} {fs : Fs}
theorem fine_pos (hG : Good zs dl) (hFi : Go.Proofs.YtckoipoejaafhaaDoor.Fine dl L) {x : Nat} (hx : x < L.length) : 0 < (L.getD x []).length := by
  have hS : Shp dl := hG.2.2.2
  have hxd : x < dl.length := by rw [← hFi.1]; exact hx
  have hnp : 0 < nln dl x := by
    have h1 := prd2_pos hS.pos
    rw [prd2_at dl x hxd] at h1
    exact Nat.mul_pos (beh_pos hS (x + 1)) (Nat.pos_of_ne_zero fun e => by rw [e, Nat.mul_zero] at h1; omega)
  have h1 := (hFi.2 x hxd).2 0 hnp
  have h2 := hits_le (L.getD x []) 0
  omega
set_option maxRecDepth 100000 in
set_option maxHeartbeats 4000000 in
theorem tg_loop (hF : FnsAll Tryd.prog fs) (hfg : fs.contains 38 = true) (hG : Good zs dl) (hn : prd2 dl ≤ 1024) (hn8 : n ≤ 8) (hn0 : ¬ n = 0) (hm : Tryd.prog.follows .mixedOrders = true) (hFi : Go.Proofs.YtckoipoejaafhaaDoor.Fine dl L) (hLs : L.length < 1000000) (hbig : ∀ x, x < L.length → (L.getD x []).length ≤ 64)
    {xs : List Nat} (hla : xs.length = prd2 dl) :
    ∀ (r x : Nat) (σ : Nat → Value) (bA oA cA : Nat) (pw : World), x + r = L.length → Tm dl zs L bz oz cz bP oP N0 pw → IsU pw (.slice (some ⟨bA, oA, none⟩) (prd2 dl) cA) (cur dl xs back x) → One pw bA → (∃ o v, pw.cell? ⟨bA, o, none⟩ = some v) →
      Tg (.slice (some ⟨bz, oz, none⟩) dl.length cz) (.slice (some ⟨bP, oP, none⟩) L.length cP) n L.length back (.slice (some ⟨bA, oA, none⟩) (prd2 dl) cA) x σ →
      Leads Tryd.prog N0 (G (fd false 13 46 [] σ [.code tgL, .inLoop tgL, .inBlock 0, .code tgE]) (c0 :: cs)) pw fun a' pw' => ∃ b o c, a' = G (c0.finish (.tuple #[.slice (some ⟨b, o, none⟩) (prd2 dl) c, .int .i64 0])) cs ∧ Blw pw pw' ∧ IsU pw' (.slice (some ⟨b, o, none⟩) (prd2 dl) c) (cur dl xs back L.length) ∧ One pw' b ∧ ((r = 0 ∧ b = bA ∧ o = oA ∧ c = cA) ∨ (o = 0 ∧ c = prd2 dl ∧ pw.heap.size ≤ b ∧ RowU pw' b (cur dl xs back L.length))) := by
  intro r
  induction r with
  | zero =>
    intro x σ bA oA cA pw hr hT ha hoa hac hS
    have e : x = L.length := by omega
    subst e
    refine leads_seq ?_
    refine leads_region [0] rfl ?_
    refine leads_pure (some 29) (.bool false) rfl rfl rfl (fun _ => lss_run (i := (L.length : Int)) (j := (L.length : Int)) false (by simp [evT_tmp, hS.s28]) (by simp [evT_tmp, hS.s27]) (decide_eq_false (by omega))) ?_
    refine leads_regionEnd ?_
    refine leads_seq ?_
    refine leads_cond false (by simp [evT_tmp, put_some]) ?_
    refine leads_exit rfl ?_
    refine leads_seq ?_
    refine leads_region [0, 1, 2] rfl ?_
    refine leads_mv (some 45) rfl rfl rfl (.inl rfl) ?_
    refine leads_mv (some 10) rfl rfl rfl (.inr rfl) ?_
    refine leads_mv (some 11) rfl rfl rfl (.inr rfl) ?_
    refine leads_regionEnd ?_
    refine leads_retD ?_
    rw [fdR_frm]
    refine leads_back Tryd.func13 (v := .tuple #[.slice (some ⟨bA, oA, none⟩) (prd2 dl) cA, .int .i64 0]) (fun w es => ?_) (leads_stop ⟨bA, oA, cA, rfl, Blw.refl _, ha, hoa, .inl ⟨rfl, rfl, rfl, rfl⟩⟩)
    rw [res2 (j := 10) (j' := 11) rfl]
    show (Result.ok (Value.tuple #[evT (arr 46 _) (.tmp 10), evT (arr 46 _) (.tmp 11)]) w, es) = _
    simp [evT_tmp, put_some, hS.s13, evT_const]
  | succ r ih =>
    intro x σ bA oA cA pw hr hT ha hoa hac hS
    have hx : x < L.length := by omega
    have hxd : x < dl.length := by rw [← hFi.1]; exact hx
    refine Leads.then (tg_round hF hfg hG hn hn8 hn0 hm hFi hLs hbig hx (fine_pos hG hFi hx) hT ha (cur_length hla back x) hoa hac hS) ?_
    rintro a' p1 ⟨σ', g, rfl, hb, hg, hrow, hS'⟩
    rw [cur_succ hG.2.2.2 back x hxd] at hrow
    have hl1 := cur_length hla back (x + 1)
    have hR : Rng (cur dl xs back (x + 1)) := by
      rw [← cur_succ hG.2.2.2 back x hxd]
      exact Rng_of_P (mk_lt _ _)
    obtain ⟨b, o, c, e, h1, h2, h3, h4⟩ := Ar.of_row (Sh := fun _ => True) (Ow := fun _ => True) hrow hR hl1 hn trivial
    simp only [Value.slice.injEq, Option.some.injEq, Addr.mk.injEq, and_true, true_and] at e
    obtain ⟨⟨rfl, rfl⟩, rfl⟩ := e
    refine Leads.mono (ih (x + 1) σ' g 0 (prd2 dl) p1 (by omega) (hT.blw hb) h1 h4 ⟨0, _, hrow.cell 0 (by rw [hl1]; exact prd2_pos (show Shp dl from hG.2.2.2).pos)⟩ hS') ?_
    rintro a' p2 ⟨b, o, c, h5, h6, h7, h8, h9⟩
    refine ⟨b, o, c, h5, hb.trans h6, h7, h8, .inr ?_⟩
    rcases h9 with ⟨rfl, rfl, rfl, rfl⟩ | ⟨e1, e2, e3, e4⟩
    · have e : x + 1 = L.length := by omega
      rw [e] at hrow
      exact ⟨rfl, rfl, hg, (h6.block _ h4.lt).trans hrow⟩
    · exact ⟨e1, e2, Nat.le_trans hb.size e3, e4⟩
set_option maxRecDepth 100000 in
set_option maxHeartbeats 4000000 in
theorem together_leads (hF : FnsAll Tryd.prog fs) (hfg : fs.contains 38 = true) (hfc : fs.contains 36 = true) (hG : Good zs dl) (hn : prd2 dl ≤ 1024) (hn8 : n ≤ 8) (hn0 : ¬ n = 0) (hm : Tryd.prog.follows .mixedOrders = true) (hFi : Go.Proofs.YtckoipoejaafhaaDoor.Fine dl L) (hLs : L.length < 1000000) (hbig : ¬ BigP L L.length)
    {xs : List Nat} {bA oA cA : Nat} {pw : World} (hT : Tm dl zs L bz oz cz bP oP N0 pw) (hP : IsP 3 pw (.slice (some ⟨bP, oP, none⟩) L.length cP) L) (ha : IsU pw (.slice (some ⟨bA, oA, none⟩) (prd2 dl) cA) xs) (hla : xs.length = prd2 dl) (hoa : One pw bA) (hac : ∃ o v, pw.cell? ⟨bA, o, none⟩ = some v) :
    Leads Tryd.prog N0 (G (Frame.enter Tryd.prog 13 #[.slice (some ⟨bz, oz, none⟩) dl.length cz, .slice (some ⟨bA, oA, none⟩) (prd2 dl) cA, .slice (some ⟨bP, oP, none⟩) L.length cP, .int .i64 (n : Int), .bool back] .normal) (c0 :: cs)) pw
      fun a' pw' => ∃ b, a' = G (c0.finish (.tuple #[.slice (some ⟨b, 0, none⟩) (prd2 dl) (prd2 dl), .int .i64 0])) cs ∧ Blw pw pw' ∧ IsU pw' (.slice (some ⟨b, 0, none⟩) (prd2 dl) (prd2 dl)) (cur dl xs back L.length) ∧ pw.heap.size ≤ b ∧ RowU pw' b (cur dl xs back L.length) := by
  have hbig' : ∀ x, x < L.length → (L.getD x []).length ≤ 64 := fun x hx => Nat.le_of_not_lt fun h => hbig ⟨x, hx, h⟩
  rw [enter_fd #[.slice (some ⟨bz, oz, none⟩) dl.length cz, .slice (some ⟨bA, oA, none⟩) (prd2 dl) cA, .slice (some ⟨bP, oP, none⟩) L.length cP, .int .i64 (n : Int), .bool back] Tryd.func13 rfl (show 5 ≤ 46 by omega)]
  refine leads_seq ?_
  refine leads_region [0, 1] rfl ?_
  refine leads_mv (some 10) rfl rfl rfl (.inr rfl) ?_
  refine leads_mv (some 11) rfl rfl rfl (.inr rfl) ?_
  refine leads_regionEnd ?_
  refine leads_seq ?_
  refine leads_seq ?_
  refine leads_region [0, 1, 2, 3, 4, 5] rfl ?_
  refine leads_mv (some 17) rfl rfl rfl (.inl rfl) ?_
  refine leads_mv (some 18) rfl rfl rfl (.inl rfl) ?_
  refine leads_mv (some 19) rfl rfl rfl (.inl rfl) ?_
  refine leads_mv (some 20) rfl rfl rfl (.inl rfl) ?_
  refine leads_enterD 36 #[.slice (some ⟨bz, oz, none⟩) dl.length cz, .slice (some ⟨bA, oA, none⟩) (prd2 dl) cA, .slice (some ⟨bP, oP, none⟩) L.length cP, .int .i64 (n : Int)] rfl rfl (fun w => run_ev (by simp [execOp, go_sem, evT_tmp, evT_func, put_some]) (by simp [execOp, go_sem, evT_tmp, evT_func, put_some, call_events Tryd.func36 (by kernel_rfl) rfl])) ?_
  refine Leads.then (leads_call (R := fun v w1 => v = .int .i64 0 ∧ Blw pw w1) hF hfc (fun τ d => ?_) (fun v w τ d τ' d' h => ⟨h.1, ⟨h.2.os, h.2.output, h.2.size, h.2.block⟩⟩)) ?_
  · refine Calls.mono (exec_check (tp pw τ d) _ _ _ zs dl xs L n (IsZ.of_block hT.z rfl) (IsU.of_block ha rfl) hP hG hn hFi hbig hla (by omega) hn8) ?_
    rintro e w1 ⟨rfl, hb⟩
    exact ⟨_, rfl, rfl, ⟨hb.os, hb.output, hb.size, hb.block⟩⟩
  rintro a' p1 ⟨v, rfl, rfl, hb1⟩
  rw [finish_arr _ _ _ _ _ _ _ _ _ _ rfl]
  refine leads_mv (some 12) rfl rfl rfl (.inr rfl) ?_
  refine leads_regionEnd ?_
  refine leads_seq ?_
  refine leads_region [0, 1] rfl ?_
  refine leads_mv (some 22) rfl rfl rfl (.inl rfl) ?_
  refine leads_pure (some 23) (.bool false) rfl rfl rfl (fun _ => run_ev (by simp [execOp, go_sem, evT_tmp, put_some, evT_const]) (by simp [execOp, go_sem, evT_tmp, put_some, evT_const])) ?_
  refine leads_regionEnd ?_
  refine leads_cond false (by simp [evT_tmp, put_some]) ?_
  refine leads_skip ?_
  refine leads_seq ?_
  refine leads_region [0, 1] rfl ?_
  refine leads_mv (some 25) rfl rfl rfl (.inl rfl) ?_
  refine leads_mv (some 13) rfl rfl rfl (.inr rfl) ?_
  refine leads_regionEnd ?_
  refine leads_seq ?_
  refine leads_seq ?_
  refine leads_region [0, 1, 2] rfl ?_
  refine leads_mv (some 26) rfl rfl rfl (.inl rfl) ?_
  refine leads_pure (some 27) (.int .i64 (L.length : Int)) rfl rfl rfl (fun _ => run_ev (by simp [execOp, go_sem, evT_tmp, put_some]) (by simp [execOp, go_sem, evT_tmp, put_some])) ?_
  refine leads_mv (some 28) rfl rfl rfl (.inl rfl) ?_
  refine leads_regionEnd ?_
  refine leads_block ?_
  refine leads_loop ?_
  refine Leads.mono (tg_loop (back := back) (cP := cP) hF hfg hG hn hn8 hn0 hm hFi hLs hbig' hla L.length 0 _ bA oA cA p1 (by omega) (hT.blw hb1) (IsU.of_block ha (hb1.block _ hoa.lt)) (hoa.of (hb1.block _ hoa.lt)) (let ⟨o, v, h⟩ := hac; ⟨o, v, cell_same h (hb1.block _ hoa.lt)⟩) ?_) ?_
  · exact ⟨by simp [put_some], by simp [put_some], by simp [put_some], by simp [put_some, evT_tmp], by simp [put_some, evT_tmp], by simp [put_some, evT_tmp], by simp [put_some, evT_const]⟩
  · rintro a' p2 ⟨b, o, c, h5, h6, h7, h8, h9⟩
    rcases h9 with ⟨e0, -⟩ | ⟨rfl, rfl, e3, e4⟩
    · have q := hG.1
      rw [hG.2.2.1, List.length_map, ← hFi.1, e0] at q
      omega
    · exact ⟨b, h5, hb1.trans h6, h7, Nat.le_trans hb1.size e3, e4⟩
end
end Go.Proofs.YtckoipoejaafhaaDoor.Cc

namespace Go.Proofs.YtckoipoejaafhaaDoor
open Go.RowKit
set_option maxRecDepth 100000
end Go.Proofs.YtckoipoejaafhaaDoor

namespace Go.Proofs.YtckoipoejaafhaaDoor.Cc
open Go Go.Conc Go.RowKit
section
variable {c0 : Frame} {cs : List Frame} {N0 : Nat} {fs : Fs}
end
end Go.Proofs.YtckoipoejaafhaaDoor.Cc

namespace Go.Proofs.YtckoipoejaafhaaDoor.Cc
open Go Go.Conc Go.RowKit
open Go.ConcN (sumTo sumTo_upd upd)
theorem emp_no (w : World) : emp (fun _ => False) w = w := by
  have h : (emp (fun _ => False) w).heap = w.heap := by
    apply Array.ext_getElem?
    intro b
    exact emp_out (fun h => h)
  show { w with heap := (emp (fun _ => False) w).heap } = w
  rw [h]
theorem anc_start (Su : Nat → Prop) (B : Nat) : Anc 0 Su B #[] := by
  refine ⟨⟨?_, ?_, ?_, ?_, ?_, ?_, ?_⟩, ?_, ?_, ?_, ?_⟩
  · intro i op x h; simp at h
  · intro k h1 h2; omega
  · intro k h1 h2; omega
  · intro l _ _ i a h; simp [touchAt, Trace.act?] at h
  · intro l _ _ i a h; simp [touchAt, Trace.act?] at h
  · exact (Go.ConcN.CT.lone (Sh := fun _ => False) (Own := fun _ _ => False) (Rd := fun _ _ => False) (u := #[]) (fun op h => by simp at h) (fun op h => by simp at h)).nr
  · intro i op h; simp at h
  · intro i a h; simp [touchAt, Trace.act?] at h
  · intro i g h; simp [Trace.g?] at h
  · rfl
  · intro i _; rfl
theorem sb_start {P : Program} {N0 : Nat} {a : Goroutine} {W : World} (hE : ∃ G0, G0 ≤ N0 ∧ NoEarly P G0 ∧ Gl G0 W) : Sb P N0 a W (solo a W) #[] := by
  refine ⟨0, fun _ => False, fun _ => 0, #[a], W, none, W.tape, W.drawn, rfl, ⟨rfl, rfl, fun i h1 h2 => by omega, anc_start _ _, fun b h => h.elim, fun b h => h.elim, fun b h => h.elim⟩, fun b h => h.elim, by rw [emp_no]; exact hE, fun b h => h.elim, by rw [emp_no]; rfl⟩
theorem ends_good2 {P : Program} {q : Nat} {Su Sh : Nat → Prop} {Post : Value → World → Prop} : ∀ (M : Nat) (Ow : Nat → Prop) (f : Nat → Nat) (gs : Array Goroutine) (a : Goroutine) (w : World) (sl : Option (Nat × Nat)) (t : Trace), sumTo (q + 1) f ≤ M → (∀ d, AtEnds P Su Post Ow a (w.at d)) → Bes P q Su Sh Ow f gs a w t →
    ∃ N last o w' t', runNT P (N + 1) (crowd gs w sl) t = (.ended o w', t') ∧ runN P N (crowd gs w sl) = .next last ∧ step P last = .ended o w' ∧ Conc.Good P Post last o w' t' := by
  have key : ∀ (Ow : Nat → Prop) (f : Nat → Nat) (gs : Array Goroutine) (a : Goroutine) (w : World) (sl sl' : Option (Nat × Nat)) (t : Trace) (d : Nat), (∀ d, AtEnds P Su Post Ow a (w.at d)) → Bes P q Su Sh Ow f gs a w t → stepT P (crowd gs w sl) = runT P (crowd gs (w.at d) sl') 0 →
      ∃ N last o w' t', runNT P (N + 1) (crowd gs w sl) t = (.ended o w', t') ∧ runN P N (crowd gs w sl) = .next last ∧ step P last = .ended o w' ∧ Conc.Good P Post last o w' t' := by
    intro Ow f gs a w sl sl' t d hW hB hst
    obtain ⟨_, v, es, hend, hes, hpost⟩ := hW d
    have hrT := runT_many_ended (P := P) (sl := sl') (i := 0) hB.a0 (show stepG P (0 == 0) a (w.at d) = _ from hend)
    have hA := hB.anc.own (Nat.le_refl _) a.frame.fn a.frame.place (es := es) hes
    refine ⟨0, crowd gs w sl, .done v, w.at d, t ++ MemOp.ofEvents 0 a.frame.fn a.frame.place es, by simp [runNT, hst, hrT], rfl, by simp [step, hst, hrT], v, rfl, hpost, hA.ct.nr, hA.over, ⟨fun x hx => ?_, rfl⟩, fun j x hx hj => ?_⟩
    · obtain ⟨j, hj⟩ := List.mem_iff_getElem?.1 hx
      rw [List.getElem?_drop] at hj
      have hj' : gs[1 + j]? = some x := by simpa [crowd] using hj
      obtain ⟨y, y1, y2⟩ := hB.old (1 + j) (by omega) (by have := (Array.getElem?_eq_some_iff.1 hj').1; rw [hB.size] at this; omega)
      rw [hj'] at y1
      cases y1
      exact ⟨_, y2.leaves⟩
    · have hj' : gs[j]? = some x := hx
      obtain ⟨y, y1, y2⟩ := hB.old j (by omega) (by have := (Array.getElem?_eq_some_iff.1 hj').1; rw [hB.size] at this; omega)
      rw [hj'] at y1
      cases y1
      refine ⟨f j, ?_⟩
      have e : (t ++ MemOp.ofEvents 0 a.frame.fn a.frame.place es).deaf j (t ++ MemOp.ofEvents 0 a.frame.fn a.frame.place es).size = Deaf t j :=
        Deaf_other t (g := j) (g' := 0) (by omega) _ (fun op hop => by obtain ⟨e, _, rfl⟩ := Go.Conc.mem_ofEvents hop; rfl)
      rw [e]
      exact y2.hears _
  intro M
  induction M with
  | zero =>
    intro Ow f gs a w sl t hM hW hB
    have hr := (hW w.drawn).1
    obtain ⟨i, x, d, sl', hi, hx, hst⟩ := crowd_pick (P := P) (w := w) (sl := sl) (hB.awake hr) ⟨0, a, hB.a0, hr⟩
    rcases Nat.eq_zero_or_pos i with rfl | h1
    · exact key Ow f gs a w sl sl' t d hW hB hst
    · have h2 : i ≤ q := by have := (Array.getElem?_eq_some_iff.1 hi).1; rw [hB.size] at this; omega
      obtain ⟨gs', u, k, _, hk, _⟩ := (hB.at d).slip (sl := sl') hr h1 h2 hi hx
      have := Go.ConcN.le_sumTo (f := f) (show i < q + 1 by omega)
      omega
  | succ M ih =>
    intro Ow f gs a w sl t hM hW hB
    have hr := (hW w.drawn).1
    obtain ⟨i, x, d, sl', hi, hx, hst⟩ := crowd_pick (P := P) (w := w) (sl := sl) (hB.awake hr) ⟨0, a, hB.a0, hr⟩
    rcases Nat.eq_zero_or_pos i with rfl | h1
    · exact key Ow f gs a w sl sl' t d hW hB hst
    · have h2 : i ≤ q := by have := (Array.getElem?_eq_some_iff.1 hi).1; rw [hB.size] at this; omega
      obtain ⟨gs', u, k, hrT, hk, hB'⟩ := (hB.at d).slip (sl := sl') hr h1 h2 hi hx
      have hs : sumTo (q + 1) (upd f i k) + f i = sumTo (q + 1) f + k := sumTo_upd f k id (show i < q + 1 by omega)
      obtain ⟨N, last, o, w', t', r1, r2, r3, r4⟩ := ih Ow (upd f i k) gs' a (w.at d) sl' (t ++ u) (by omega) (fun d' => hW d') hB'
      exact ⟨N + 1, last, o, w', t', by rw [runNT_succ_next (hst.trans hrT)]; exact r1, by rw [runN_succ_next (hst.trans hrT)]; exact r2, r3, r4⟩
theorem runN_on {P : Program} {m' : Machine} {t' : Trace} (K : Nat) : ∀ (N : Nat) (m : Machine) (t : Trace), runNT P N m t = (.next m', t') → runN P (N + K) m = runN P K m' := by
  intro N
  induction N with
  | zero =>
    intro m t h
    simp [runNT] at h
    rw [Nat.zero_add, h.1]
  | succ N ih =>
    intro m t h
    cases hs : stepT P m with
    | mk r ops =>
      cases r with
      | next m1 =>
        rw [runNT_succ_next hs] at h
        rw [show N + 1 + K = N + K + 1 by omega, runN_succ_next hs]
        exact ih _ _ h
      | _ => simp [runNT, hs] at h
theorem leads_good {P : Program} {N0 : Nat} {a : Goroutine} {W : World} {Post : Value → World → Prop} (hE : ∃ G0, G0 ≤ N0 ∧ NoEarly P G0 ∧ Gl G0 W)
    (h : Leads P N0 a W fun a' pw' => a'.status = .running ∧ ∃ v, (∀ w, ∃ es, stepG P true a' w = .ended (.done v) w es ∧ ∀ e ∈ es, e = ⟨.mark .noRoom, false, true⟩) ∧ ∀ w', w'.os = pw'.os → w'.output = pw'.output → (∀ b, b < N0 → w'.heap[b]? = pw'.heap[b]?) → w'.heap.size = pw'.heap.size → Post v w') :
    ∃ M last o w' t', runNT P (M + 1) (solo a W) #[] = (.ended o w', t') ∧ runN P M (solo a W) = .next last ∧ step P last = .ended o w' ∧ Conc.Good P Post last o w' t' := by
  obtain ⟨N, m, t, a', pw', h1, ⟨q, Su, f, gs, w, sl, τ, d, rfl, hB, hs, hg, hN, rfl⟩, hr, v, hend, hpost⟩ := h _ _ (sb_start hE)
  obtain ⟨N2, last, o, w', t', r1, r2, r3, r4⟩ := ends_good2 (Post := Post) (sumTo (q + 1) f) nob f gs a' w sl t (Nat.le_refl _) (fun d1 => ⟨hr, v, by
    obtain ⟨es, e1, e2⟩ := hend (w.at d1)
    exact ⟨es, e1, fun e he => .inr (e2 e he), hpost (w.at d1) rfl rfl (fun b hb => (emp_out (w := w) (fun hs => by have := hN b hs; omega)).symm) (emp_size Su w).symm⟩⟩) hB
  refine ⟨N + N2, last, o, w', t', ?_, ?_, r3, r4⟩
  · rw [Nat.add_assoc]
    exact runNT_seq h1 r1
  · rw [runN_on N2 N _ _ h1]
    exact r2
end Go.Proofs.YtckoipoejaafhaaDoor.Cc

namespace Go.Proofs.YtckoipoejaafhaaDoor.Cc
open Go Go.Conc Go.RowKit
section
variable {P : Program} {N0 : Nat} {pw : World} {Q : Goroutine → World → Prop} {fn : FuncId} {n : Nat} {σ : Nat → Value} {k : List Item} {cs : List Frame} {ops : Array Oper} {i : Nat} {rest : List Nat} {o : Oper}
theorem leads_unw (d : Option Tmp) (ho : ops[i]? = some o) (hd : o.dst = d) (hw : Region.wanted o (yielded ops (arr n σ)) = false) (h : Leads P N0 (G (fd false fn n [] (put σ d undef) (.inRegion ops rest :: k)) cs) pw Q) : Leads P N0 (G (fd false fn n [] σ (.inRegion ops (i :: rest) :: k)) cs) pw Q := by
  subst hd
  refine leads_ctl rfl (fun _ => st_unwanted (by rw [ho]; exact hw)) ?_
  rw [← fd_frm, finish_arr _ _ _ _ _ _ _ _ _ _ ho]
  exact h
theorem leads_pureW (d : Option Tmp) (v : Value) (ho : ops[i]? = some o) (hd : o.dst = d) (hw : Region.wanted o (yielded ops (arr n σ)) = true) (hx : ∀ w, (execOp (evT (arr n σ)) o).runT P w #[] = (.ok (.value v) w, #[]))
    (h' : Leads P N0 (G (fd false fn n [] (put σ d v) (.inRegion ops rest :: k)) cs) pw Q) : Leads P N0 (G (fd false fn n [] σ (.inRegion ops (i :: rest) :: k)) cs) pw Q := by
  subst hd
  refine leads_val ho hw hx ?_
  rw [← fd_frm, finish_arr _ _ _ _ _ _ _ _ _ _ ho]
  exact h'
theorem leads_enterW (f : FuncId) (args : Array Value) (ho : ops[i]? = some o) (hw : Region.wanted o (yielded ops (arr n σ)) = true) (hx : ∀ w, (execOp (evT (arr n σ)) o).runT P w #[] = (.ok (.enter f args) w, #[]))
    (h : Leads P N0 (G (Frame.enter P f args .normal) (fd false fn n [] σ (.inRegion ops (i :: rest) :: k) :: cs)) pw Q) : Leads P N0 (G (fd false fn n [] σ (.inRegion ops (i :: rest) :: k)) cs) pw Q :=
  leads_enter ho hw hx h
end
theorem wanted_b {ops : Array Oper} {o og : Oper} {n : Nat} {σ : Nat → Value} {g dg : Nat} {b c : Bool} (hg : o.guard = some (g, b)) (hog : ops[g]? = some og) (hdg : og.dst = some dg) (hn : dg < n) (hs : σ dg = .bool c) : Region.wanted o (yielded ops (arr n σ)) = (c == b) := by
  unfold Region.wanted
  rw [hg]
  dsimp only
  unfold yielded
  rw [hog, Option.bind_some, hdg, Option.bind_some, arr_get, if_pos hn, hs]
  cases b <;> cases c <;> rfl
section
variable {P : Program} {N0 : Nat} {pw : World} {Q : Goroutine → World → Prop} {fn : FuncId} {n : Nat} {σ : Nat → Value} {k : List Item} {cs : List Frame} {ops : Array Oper} {i : Nat} {rest : List Nat} {o og : Oper}
theorem leads_no (d : Option Tmp) (g dg : Nat) (b : Bool) (ho : ops[i]? = some o) (hd : o.dst = d) (hg : o.guard = some (g, b)) (hog : ops[g]? = some og) (hdg : og.dst = some dg) (hn : dg < n) (hs : σ dg = .bool !b)
    (h : Leads P N0 (G (fd false fn n [] (put σ d undef) (.inRegion ops rest :: k)) cs) pw Q) : Leads P N0 (G (fd false fn n [] σ (.inRegion ops (i :: rest) :: k)) cs) pw Q :=
  leads_unw d ho hd (by rw [wanted_b hg hog hdg hn hs]; cases b <;> rfl) h
theorem leads_yes (d : Option Tmp) (v : Value) (g dg : Nat) (b : Bool) (ho : ops[i]? = some o) (hd : o.dst = d) (hg : o.guard = some (g, b)) (hog : ops[g]? = some og) (hdg : og.dst = some dg) (hn : dg < n) (hs : σ dg = .bool b)
    (hx : ∀ w, (execOp (evT (arr n σ)) o).runT P w #[] = (.ok (.value v) w, #[]))
    (h : Leads P N0 (G (fd false fn n [] (put σ d v) (.inRegion ops rest :: k)) cs) pw Q) : Leads P N0 (G (fd false fn n [] σ (.inRegion ops (i :: rest) :: k)) cs) pw Q :=
  leads_pureW d v ho hd (by rw [wanted_b hg hog hdg hn hs]; cases b <;> rfl) hx h
theorem leads_extr {ds : List Deferred} {x : Operand} {xs : Array Value} {j : Nat} (d : Option Tmp) (v : Value) (ho : ops[i]? = some o) (hd : o.dst = d) (hg : o.guard = none) (hop : o.op = .extract x j) (hx : evT (arr n σ) x = .tuple xs) (hv : xs[j]? = some v)
    (h : Leads P N0 (G (fd false fn n ds (put σ d v) (.inRegion ops rest :: k)) cs) pw Q) : Leads P N0 (G (fd false fn n ds σ (.inRegion ops (i :: rest) :: k)) cs) pw Q := by
  refine leads_pure d v ho hd hg (fun w₁ => ?_) h
  obtain ⟨dst, op, type, pos, after, guard⟩ := o
  simp only at hop
  subst hop
  exact run_ev (by simp [execOp, Instr.extract, hx, hv]) (by simp [execOp, Instr.extract, hx, hv])
theorem leads_fn {fs : Fs} (hF : FnsAll P fs) (R : Value → World → Prop) (d : Option Tmp) (f : FuncId) (args : Array Value) (ho : ops[i]? = some o) (hd : o.dst = d) (hw : Region.wanted o (yielded ops (arr n σ)) = true)
    (hx : ∀ w, (execOp (evT (arr n σ)) o).runT P w #[] = (.ok (.enter f args) w, #[])) (hf : fs.contains f = true)
    (hC : ∀ τ t, Calls P f args (tp pw τ t) fun e w1 => ∃ v, e = .returned v ∧ R v w1 ∧ Below pw.heap.size (tp pw τ t) w1) (hR : ∀ v w τ t τ' t', R v (tp w τ t) → R v (tp w τ' t'))
    (h : ∀ v pw', R v pw' → Blw pw pw' → Leads P N0 (G (fd false fn n [] (put σ d v) (.inRegion ops rest :: k)) cs) pw' Q) (ha : args.size ≤ 7 := by simp) : Leads P N0 (G (fd false fn n [] σ (.inRegion ops (i :: rest) :: k)) cs) pw Q := by
  subst hd
  refine leads_enterW f args ho hw hx ?_
  refine Leads.then (leads_call (R := fun v w1 => R v w1 ∧ Blw pw w1) hF hf (fun τ t => ?_) (fun v w τ t τ' t' q => ⟨hR v w τ t τ' t' q.1, ⟨q.2.os, q.2.output, q.2.size, q.2.block⟩⟩) ha) ?_
  · refine Calls.mono (hC τ t) ?_
    rintro e w1 ⟨v, rfl, h1, h2⟩
    exact ⟨v, rfl, h1, ⟨h2.os, h2.output, h2.size, h2.block⟩⟩
  · rintro a' p1 ⟨v, rfl, h1, h2⟩
    rw [finish_arr _ _ _ _ _ _ _ _ _ _ ho]
    exact h v p1 h1 h2
theorem wanted_0 (hg : o.guard = none) : Region.wanted o (yielded ops (arr n σ)) = true := by unfold Region.wanted; rw [hg]
theorem leads_done {f : Func} {td : List Item} (v : Value) (hf : P.funcs[fn]? = some f) (hi : P.inits.idxOf? fn = none) (hr : ∀ (w : World) es, (results f (arr n σ)).runT P w es = (.ok v w, es)) {Post : Value → World → Prop}
    (hp : ∀ w', w'.os = pw.os → w'.output = pw.output → (∀ b, b < N0 → w'.heap[b]? = pw.heap[b]?) → w'.heap.size = pw.heap.size → Post v w') :
    Leads P N0 (G (fdR false fn n [] σ td) []) pw fun a' pw' => a'.status = .running ∧ ∃ v, (∀ w, ∃ es, stepG P true a' w = .ended (.done v) w es ∧ ∀ e ∈ es, e = ⟨.mark .noRoom, false, true⟩) ∧ ∀ w', w'.os = pw'.os → w'.output = pw'.output → (∀ b, b < N0 → w'.heap[b]? = pw'.heap[b]?) → w'.heap.size = pw'.heap.size → Post v w' := by
  refine leads_stop ⟨rfl, v, fun w => ⟨#[], ?_, fun e he => by simp at he⟩, hp⟩
  rw [fdR_frm]
  simp only [stepG, frm, G]
  unfold unwind
  dsimp only
  rw [hf]
  dsimp only
  rw [hr]
  simp [doReturn, GStep.after, seen, hi]
end
theorem one_of_cell {w : World} {a : Addr} {u : Value} (h : w.cell? a = some u) : One w a.block := by
  cases ho : w.heap[a.block]? with
  | none => simp [World.cell?, ho] at h
  | some o =>
    cases o with
    | cells c e fr => exact ⟨c, e, fr, ho, trivial⟩
    | _ => simp [World.cell?, ho] at h
theorem IsU.blw {w w' : World} {v : Value} {xs : List Nat} (h : IsU w v xs) (b : Blw w w') : IsU w' v xs := by
  obtain ⟨a, cap, rfl, h1, h2, hc, hr⟩ := h
  refine ⟨a, cap, rfl, h1, h2, fun i hi => ?_, hr⟩
  obtain ⟨q, o, rfl, hx⟩ := hc i hi
  exact ⟨q, o, rfl, cell_same hx (b.block _ (cell_lt hx))⟩
theorem IsZ.blw {w w' : World} {v : Value} {xs : List Int} (h : IsZ w v xs) (b : Blw w w') : IsZ w' v xs := by
  obtain ⟨a, cap, rfl, h1, h2, hc, hr⟩ := h
  refine ⟨a, cap, rfl, h1, h2, fun i hi => ?_, hr⟩
  obtain ⟨q, o, rfl, hx⟩ := hc i hi
  exact ⟨q, o, rfl, cell_same hx (b.block _ (cell_lt hx))⟩
theorem IsR.blw {k : Nat} {w w' : World} {v : Value} {xs : List (List Int)} (h : IsR k w v xs) (b : Blw w w') : IsR k w' v xs := by
  obtain ⟨a, cap, rfl, h1, h2, hc, hr⟩ := h
  refine ⟨a, cap, rfl, h1, h2, fun i hi => ?_, hr⟩
  obtain ⟨q, o, rfl, hx⟩ := hc i hi
  exact ⟨q, o, rfl, fun j hj => cell_same (hx j hj) (b.block _ (cell_lt (hx j hj)))⟩
theorem IsP.blw {k : Nat} {w w' : World} {v : Value} {xs : List (List (List Int))} (h : IsP k w v xs) (b : Blw w w') : IsP k w' v xs := by
  obtain ⟨a, cap, rfl, h1, h2, hc⟩ := h
  refine ⟨a, cap, rfl, h1, h2, fun i hi => ?_⟩
  obtain ⟨q, o, u, rfl, hx, hu⟩ := hc i hi
  exact ⟨q, o, u, rfl, cell_same hx (b.block _ (cell_lt hx)), IsR.blw hu b⟩
theorem IsU.tp {w : World} {v : Value} {xs : List Nat} (h : IsU w v xs) (τ : Nat → Question → Nat) (d : Nat) : IsU (tp w τ d) v xs := h
theorem IsZ.tp {w : World} {v : Value} {xs : List Int} (h : IsZ w v xs) (τ : Nat → Question → Nat) (d : Nat) : IsZ (tp w τ d) v xs := h
structure Tbs (N0 : Nat) (w : World) : Prop where
  tab : Tab w
  tabs : ∀ g ∈ tabsL, g < N0 ∧ One w g
  ns : N0 ≤ w.heap.size
theorem Tbs.blw {N0 : Nat} {w w' : World} (h : Tbs N0 w) (b : Blw w w') : Tbs N0 w' :=
  ⟨Tab.of_blocks h.tab fun g hg => b.block _ (h.tabs g hg).2.lt, fun g hg => ⟨(h.tabs g hg).1, (h.tabs g hg).2.of (b.block _ (h.tabs g hg).2.lt)⟩, Nat.le_trans h.ns b.size⟩
section
variable {c0 : Frame} {cs : List Frame} {N0 : Nat} {fs : Fs}
theorem together_right (hF : FnsAll Tryd.prog fs) (hfg : fs.contains 38 = true) (hfc : fs.contains 36 = true) {pw : World} {v va vl : Value} {zs : List Int} {ds xs : List Nat} {L : List (List (List Int))} {n : Nat} {back : Bool}
    (hZ : IsZ pw v zs) (hA : IsU pw va xs) (hP : IsP 3 pw vl L) (hG : Good zs ds) (hn : prd2 ds ≤ 1024) (hFi : Go.Proofs.YtckoipoejaafhaaDoor.Fine ds L) (hbig : ¬ BigP L L.length) (hl : xs.length = prd2 ds) (hn1 : 1 ≤ n) (hn8 : n ≤ 8) (hm : Tryd.prog.follows .mixedOrders = true) (hT : Tbs N0 pw) :
    Leads Tryd.prog N0 (G (Frame.enter Tryd.prog 13 #[v, va, vl, .int .i64 (n : Int), .bool back] .normal) (c0 :: cs)) pw
      fun a' pw' => ∃ b, a' = G (c0.finish (.tuple #[.slice (some ⟨b, 0, none⟩) (prd2 ds) (prd2 ds), .int .i64 0])) cs ∧ Blw pw pw' ∧ IsU pw' (.slice (some ⟨b, 0, none⟩) (prd2 ds) (prd2 ds)) (mk (prd2 ds) (who ds back (cf xs) ds.length)) ∧ pw.heap.size ≤ b ∧ RowU pw' b (mk (prd2 ds) (who ds back (cf xs) ds.length)) := by
  have hlen : zs.length = ds.length := by rw [hG.2.2.1, List.length_map]
  have hL3 : L.length = ds.length := hFi.1
  have h3 := hG.2.1
  have h1 := hG.1
  have hS : Shp ds := hG.2.2.2
  have hpos := prd2_pos hS.pos
  obtain ⟨az, cz, rfl, z1, z2, z3, z4⟩ := hZ
  obtain ⟨aa, ca, rfl, a1, a2, a3, a4⟩ := hA
  obtain ⟨ap, cp, rfl, p1, p2, p3⟩ := hP
  obtain ⟨bz, oz, rfl, z5⟩ := z3 0 (by omega)
  obtain ⟨bA, oA, rfl, a5⟩ := a3 0 (by omega)
  obtain ⟨bP, oP, u0, rfl, p5, p6⟩ := p3 0 (by omega)
  have hcur : cur ds xs back L.length = mk (prd2 ds) (who ds back (cf xs) ds.length) := by unfold cur; rw [if_neg (by omega), hL3]
  have hTm : Tm ds zs L bz oz cz bP oP N0 pw := by
    refine ⟨?_, one_of_cell z5, ⟨_, _, z5⟩, hT.ns, hT.tab, hT.tabs, fun x hx => ?_⟩
    · rw [← hlen]
      exact ⟨_, _, rfl, z1, z2, z3, z4⟩
    · obtain ⟨b, o, u, e, hc, hu⟩ := p3 x hx
      simp only [Option.some.injEq, Addr.mk.injEq, and_true] at e
      obtain ⟨rfl, rfl⟩ := e
      obtain ⟨ar, cr, rfl, r1, r2, r3, r4⟩ := hu
      have hp := fine_pos hG hFi hx
      obtain ⟨bh, oh, rfl, -⟩ := r3 0 hp
      refine ⟨bh, oh, cr, hc, fun i hi j hj => ?_⟩
      obtain ⟨b', o', e, hh⟩ := r3 i hi
      simp only [Option.some.injEq, Addr.mk.injEq, and_true] at e
      obtain ⟨rfl, rfl⟩ := e
      have := hh j hj
      rw [show oh + 3 * i + j = oh + (i * 3 + j) by omega]
      exact this
  have h := together_leads (c0 := c0) (cs := cs) (back := back) (cP := cp) hF hfg hfc hG hn hn8 (by omega) hm hFi (by omega) hbig hTm ⟨_, _, rfl, p1, p2, p3⟩ (by rw [← hl]; exact ⟨_, _, rfl, a1, a2, a3, a4⟩) hl (one_of_cell a5) ⟨_, _, a5⟩
  rw [hcur] at h
  rw [hlen, hl]
  exact h
end
def EndT (P : Program) (W : World) (N0 : Nat) : Goroutine → World → Prop := fun a' pw' => a'.status = .running ∧ ∃ v, (∀ w, ∃ es, stepG P true a' w = .ended (.done v) w es ∧ ∀ e ∈ es, e = ⟨.mark .noRoom, false, true⟩) ∧ ∀ w', w'.os = pw'.os → w'.output = pw'.output → (∀ b, b < N0 → w'.heap[b]? = pw'.heap[b]?) → w'.heap.size = pw'.heap.size → v = .bool true ∧ Blw W w'
theorem leads_true {W : World} {fn : FuncId} {n : Nat} {σ : Nat → Value} {td : List Item} {f : Func} {pw : World} (hf : Tryd.prog.funcs[fn]? = some f) (hi : Tryd.prog.inits.idxOf? fn = none) (hr : ∀ (w : World) es, (results f (arr n σ)).runT Tryd.prog w es = (.ok (.bool true) w, es)) (hb : Blw W pw) :
    Leads Tryd.prog W.heap.size (G (fdR false fn n [] σ td) []) pw (EndT Tryd.prog W W.heap.size) :=
  leads_done (Post := fun v w' => v = .bool true ∧ Blw W w') (.bool true) hf hi hr fun w' h1 h2 h3 h4 => ⟨rfl, h1.trans hb.os, h2.trans hb.output, by rw [h4]; exact hb.size, fun b hbb => (h3 b hbb).trans (hb.block b hbb)⟩
section
variable {w : World} {ρ : Operand → Value} {x y : Operand} {d : Option Tmp} {ty : TypeId} {pos : String} {af : Array Edge} {gd : Option (Nat × Bool)}
theorem neE_run {e f : Int} (t : Bool) (ht : decide (¬ e = f) = t) (hx : ρ x = .int .i64 e) (hy : ρ y = .int .i64 f) :
    (execOp ρ ⟨d, .binOp .neq 25 x y 25, ty, pos, af, gd⟩).runT Tryd.prog w #[] = (.ok (.value (.bool t)) w, #[]) := by
  subst ht
  apply run_ev
  · by_cases h : e = f <;> simp [execOp, go_sem, hx, hy, h]
  · simp [execOp, go_sem, hx, hy]
theorem gtr_run {e f : Int} (t : Bool) (ht : decide (f < e) = t) (hx : ρ x = .int .i64 e) (hy : ρ y = .int .i64 f) :
    (execOp ρ ⟨d, .binOp .gtr 3 x y 3, ty, pos, af, gd⟩).runT Tryd.prog w #[] = (.ok (.value (.bool t)) w, #[]) := by
  subst ht
  apply run_ev
  · simp [execOp, go_sem, hx, hy]
  · simp [execOp, go_sem, hx, hy]
theorem pick_run {z : Operand} {u : Value} (c : Bool) (hx : ρ x = .bool c) (hu : (if c then ρ y else ρ z) = u) :
    (execOp ρ ⟨d, .pick x y z, ty, pos, af, gd⟩).runT Tryd.prog w #[] = (.ok (.value u) w, #[]) := by
  subst hu
  apply run_ev
  · cases c <;> simp [execOp, go_sem, hx]
  · cases c <;> simp [execOp, go_sem, hx]
end
end Go.Proofs.YtckoipoejaafhaaDoor.Cc
