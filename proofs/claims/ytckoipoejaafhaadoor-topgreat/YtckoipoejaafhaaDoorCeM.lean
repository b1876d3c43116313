/-
  Together's loop over the phases, beside leavers.
-/
import Derived.Test.YtckoipoejaafhaaDoorCeL
import Derived.Test.YtckoipoejaafhaaDoorCrewMAll
namespace Go.Proofs.YtckoipoejaafhaaDoor.Cc
open Go Go.Conc Go.RowKit
noncomputable def tgB : Code := Tryd.f13.body.getD .skip
noncomputable def tg4 : Code := sq2 (sq2 tgB)
noncomputable def tg5 : Code := sq2 tg4
noncomputable def tgL : Code := lop (blk (sq2 (sq1 tg5)))
noncomputable def tgE : Code := sq2 tg5
section
variable {P : Program} {N0 : Nat} {pw : World} {Q : Goroutine → World → Prop} {fn : FuncId} {n : Nat} {ds : List Deferred} {σ : Nat → Value} {k : List Item} {cs : List Frame}
theorem leads_block {id : Nat} {x : Code} (h : Leads P N0 (G (fd false fn n ds σ (.code x :: .inBlock id :: k)) cs) pw Q) : Leads P N0 (G (fd false fn n ds σ (.code (.block id x) :: k)) cs) pw Q := leads_ctl rfl (fun _ => sd_block) h
theorem leads_inBlock {id : Nat} (h : Leads P N0 (G (fd false fn n ds σ k) cs) pw Q) : Leads P N0 (G (fd false fn n ds σ (.inBlock id :: k)) cs) pw Q := leads_ctl rfl (fun _ => sd_inBlock) h
theorem leads_loop {x : Code} (h : Leads P N0 (G (fd false fn n ds σ (.code x :: .inLoop x :: k)) cs) pw Q) : Leads P N0 (G (fd false fn n ds σ (.code (.loop x) :: k)) cs) pw Q := leads_ctl rfl (fun _ => sd_loop) h
theorem leads_inLoop {x : Code} (h : Leads P N0 (G (fd false fn n ds σ (.code x :: .inLoop x :: k)) cs) pw Q) : Leads P N0 (G (fd false fn n ds σ (.inLoop x :: k)) cs) pw Q := leads_ctl rfl (fun _ => sd_inLoop) h
theorem leads_skip (h : Leads P N0 (G (fd false fn n ds σ k) cs) pw Q) : Leads P N0 (G (fd false fn n ds σ (.code .skip :: k)) cs) pw Q := leads_ctl rfl (fun _ => sd_skip) h
theorem leads_exit {id : Nat} {k' : List Item} (he : exitTo id k = some k') (h : Leads P N0 (G (fd false fn n ds σ k') cs) pw Q) : Leads P N0 (G (fd false fn n ds σ (.code (.exit id) :: k)) cs) pw Q := leads_ctl rfl (fun _ => sd_exit he) h
theorem leads_cond {x y : Code} {p : Operand} (t : Bool) (hp : evT (arr n σ) p = .bool t) (h : Leads P N0 (G (fd false fn n ds σ (.code (if t then x else y) :: k)) cs) pw Q) : Leads P N0 (G (fd false fn n ds σ (.code (.cond p x y) :: k)) cs) pw Q := leads_ctl rfl (fun _ => sd_cond hp) h
end
section
variable {w : World} {ρ : Operand → Value} {x y : Operand} {d : Option Tmp} {ty : TypeId} {pos : String} {af : Array Edge} {gd : Option (Nat × Bool)}
theorem idxP_run {b o l c m : Nat} (hx : ρ x = .slice (some ⟨b, o, none⟩) l c) (hy : ρ y = .int .i64 (m : Int)) (hm : m < l) :
    (execOp ρ ⟨d, .indexAddr 24 x y, ty, pos, af, gd⟩).runT Tryd.prog w #[] = (.ok (.value (.pointer (some ⟨b, o + m, none⟩))) w, #[]) := by
  apply run_ev
  · simp [execOp, go_sem, hx, hy, hm]
  · simp [execOp, go_sem, hx, hy, hm]
end
structure Tg (vz vl : Value) (n nL : Nat) (back : Bool) (va : Value) (x : Nat) (σ : Nat → Value) : Prop where
  s0 : σ 0 = vz
  s3 : σ 3 = .int .i64 (n : Int)
  s4 : σ 4 = .bool back
  s13 : σ 13 = va
  s26 : σ 26 = vl
  s27 : σ 27 = .int .i64 (nL : Int)
  s28 : σ 28 = .int .i64 (x : Int)
section
variable {dl : List Nat} {zs : List Int} {back : Bool} {n : Nat} {L : List (List (List Int))} {bz oz cz bP oP cP : Nat} {c0 : Frame} {cs : List Frame} {pw : World} {N0 : Nat} {fs : Fs}
structure Tm (dl : List Nat) (zs : List Int) (L : List (List (List Int))) (bz oz cz bP oP N0 : Nat) (pw : World) : Prop where
  z : IsZ pw (.slice (some ⟨bz, oz, none⟩) dl.length cz) zs
  oz : One pw bz
  zc : ∃ o v, pw.cell? ⟨bz, o, none⟩ = some v
  ns : N0 ≤ pw.heap.size
  tab : Tab pw
  tabs : ∀ g ∈ tabsL, g < N0 ∧ One pw g
  ph : ∀ x, x < L.length → ∃ bh oh ch, pw.cell? ⟨bP, oP + x, none⟩ = some (.slice (some ⟨bh, oh, none⟩) (L.getD x []).length ch) ∧ ∀ i, i < (L.getD x []).length → ∀ j, j < 3 → pw.cell? ⟨bh, oh + 3 * i + j, none⟩ = some (.int .i64 (((L.getD x []).getD i []).getD j 0))
theorem Tm.blw {pw' : World} (h : Tm dl zs L bz oz cz bP oP N0 pw) (b : Blw pw pw') : Tm dl zs L bz oz cz bP oP N0 pw' :=
  ⟨IsZ.of_block h.z (b.block _ h.oz.lt), h.oz.of (b.block _ h.oz.lt), let ⟨o, v, e⟩ := h.zc; ⟨o, v, cell_same e (b.block _ h.oz.lt)⟩, Nat.le_trans h.ns b.size, Tab.of_blocks h.tab fun g hg => b.block _ (h.tabs g hg).2.lt, fun g hg => ⟨(h.tabs g hg).1, (h.tabs g hg).2.of (b.block _ (h.tabs g hg).2.lt)⟩, fun x hx => by
    obtain ⟨bh, oh, ch, h1, h2⟩ := h.ph x hx
    exact ⟨bh, oh, ch, cell_same h1 (b.block _ (cell_lt h1)), fun i hi j hj => cell_same (h2 i hi j hj) (b.block _ (cell_lt (h2 i hi j hj)))⟩⟩
set_option maxRecDepth 100000 in
set_option maxHeartbeats 4000000 in
theorem tg_round (hF : FnsAll Tryd.prog fs) (hfg : fs.contains 38 = true) (hG : Good zs dl) (hn : prd2 dl ≤ 1024) (hn8 : n ≤ 8) (hn0 : ¬ n = 0) (hm : Tryd.prog.follows .mixedOrders = true) (hFi : Go.Proofs.YtckoipoejaafhaaDoor.Fine dl L) (hLs : L.length < 1000000) (hbig : ∀ x, x < L.length → (L.getD x []).length ≤ 64)
    {x : Nat} (hx : x < L.length) (hpos : 0 < (L.getD x []).length) {σ : Nat → Value} {bA oA cA : Nat} {xs : List Nat} (hT : Tm dl zs L bz oz cz bP oP N0 pw) (ha : IsU pw (.slice (some ⟨bA, oA, none⟩) (prd2 dl) cA) xs) (hla : xs.length = prd2 dl) (hoa : One pw bA) (hac : ∃ o v, pw.cell? ⟨bA, o, none⟩ = some v)
    (hS : Tg (.slice (some ⟨bz, oz, none⟩) dl.length cz) (.slice (some ⟨bP, oP, none⟩) L.length cP) n L.length back (.slice (some ⟨bA, oA, none⟩) (prd2 dl) cA) x σ) {k : List Item} :
    Leads Tryd.prog N0 (G (fd false 13 46 [] σ (.code tgL :: .inLoop tgL :: k)) cs) pw fun a' pw' => ∃ σ' g, a' = G (fd false 13 46 [] σ' (.code tgL :: .inLoop tgL :: k)) cs ∧ Blw pw pw' ∧ pw.heap.size ≤ g ∧ RowU pw' g (mk (prd2 dl) (alo dl x back (cf xs))) ∧
      Tg (.slice (some ⟨bz, oz, none⟩) dl.length cz) (.slice (some ⟨bP, oP, none⟩) L.length cP) n L.length back (.slice (some ⟨g, 0, none⟩) (prd2 dl) (prd2 dl)) (x + 1) σ' := by
  have hxd : x < dl.length := by rw [← hFi.1]; exact hx
  have hR := hFi.2 x hxd
  obtain ⟨bh, oh, ch, hc, hph⟩ := hT.ph x hx
  refine leads_seq ?_
  refine leads_region [0] rfl ?_
  refine leads_pure (some 29) (.bool true) rfl rfl rfl (fun _ => lss_run (i := (x : Int)) (j := (L.length : Int)) true (by simp [evT_tmp, hS.s28]) (by simp [evT_tmp, hS.s27]) (decide_eq_true (by omega))) ?_
  refine leads_regionEnd ?_
  refine leads_seq ?_
  refine leads_cond true (by simp [evT_tmp, put_some]) ?_
  refine leads_skip ?_
  refine leads_seq ?_
  refine leads_block ?_
  refine leads_seq ?_
  refine leads_region [0, 1, 2, 3, 4] rfl ?_
  refine leads_mv (some 30) rfl rfl rfl (.inl rfl) ?_
  refine leads_pure (some 31) (.pointer (some ⟨bP, oP + x, none⟩)) rfl rfl rfl (fun _ => idxP_run (b := bP) (o := oP) (l := L.length) (c := cP) (m := x) (by simp [evT_tmp, put_some, hS.s26]) (by simp [evT_tmp, put_some, hS.s28]) hx) ?_
  refine leads_get1 (some 32) ⟨bP, oP + x, none⟩ (.slice (some ⟨bh, oh, none⟩) (L.getD x []).length ch) rfl rfl rfl hc (fun w h => run_ev (by simp [execOp, go_sem, evT_tmp, put_some, h]) (by simp [execOp, go_sem, evT_tmp, put_some, h])) ?_
  refine leads_mv (some 14) rfl rfl rfl (.inr rfl) ?_
  refine leads_mv (some 15) rfl rfl rfl (.inr rfl) ?_
  refine leads_regionEnd ?_
  refine leads_seq ?_
  refine leads_region [0, 1, 2, 3, 4, 5, 6] rfl ?_
  refine leads_mv (some 33) rfl rfl rfl (.inl rfl) ?_
  refine leads_mv (some 34) rfl rfl rfl (.inl rfl) ?_
  refine leads_mv (some 35) rfl rfl rfl (.inl rfl) ?_
  refine leads_mv (some 36) rfl rfl rfl (.inl rfl) ?_
  refine leads_mv (some 37) rfl rfl rfl (.inl rfl) ?_
  refine leads_enterD 37 #[.slice (some ⟨bz, oz, none⟩) dl.length cz, .slice (some ⟨bA, oA, none⟩) (prd2 dl) cA, .slice (some ⟨bh, oh, none⟩) (L.getD x []).length ch, .int .i64 (n : Int), .bool back] rfl rfl (fun w => run_ev (by simp [execOp, go_sem, evT_tmp, evT_func, put_some, hS.s0, hS.s13, hS.s3, hS.s4]) (by simp [execOp, go_sem, evT_tmp, evT_func, put_some, hS.s0, hS.s13, hS.s3, hS.s4, call_events Tryd.func37 (by kernel_rfl) rfl])) ?_
  refine Leads.then (workTogether_leads (x := x) hG hn hxd hn8 hn0 hm hR.1 (hbig x hx) hpos hT.z hT.oz ha hla hoa hT.zc hac hT.ns hT.tab hT.tabs hph) ?_
  rintro a' p1 ⟨C, rfl, hb1, hC, hW⟩
  rw [finish_arr _ _ _ _ _ _ _ _ _ _ rfl]
  refine leads_mv (some 16) rfl rfl rfl (.inr rfl) ?_
  refine leads_regionEnd ?_
  refine leads_region [0, 1, 2, 3, 4, 5] rfl ?_
  refine leads_mv (some 39) rfl rfl rfl (.inl rfl) ?_
  refine leads_mv (some 40) rfl rfl rfl (.inl rfl) ?_
  refine leads_mv (some 41) rfl rfl rfl (.inl rfl) ?_
  refine leads_mv (some 42) rfl rfl rfl (.inl rfl) ?_
  refine leads_enterD 38 #[.slice (some ⟨bz, oz, none⟩) dl.length cz, .int .i64 (x : Int), .slice (some ⟨bh, oh, none⟩) (L.getD x []).length ch, .slice (some ⟨C, 0, none⟩) n n] rfl rfl (fun w => run_ev (by simp [execOp, go_sem, evT_tmp, evT_func, put_some, hS.s0, hS.s28]) (by simp [execOp, go_sem, evT_tmp, evT_func, put_some, hS.s0, hS.s28, call_events Tryd.func38 (by kernel_rfl) rfl])) ?_
  have hT1 := hT.blw hb1
  have hph1 : ∀ i, i < (L.getD x []).length → ∀ j, j < 3 → p1.cell? ⟨bh, oh + 3 * i + j, none⟩ = some (.int .i64 (((L.getD x []).getD i []).getD j 0)) := fun i hi j hj => cell_same (hph i hi j hj) (hb1.block _ (cell_lt (hph i hi j hj)))
  have hCall : ∀ τ d, Calls Tryd.prog 38 #[.slice (some ⟨bz, oz, none⟩) dl.length cz, .int .i64 (x : Int), .slice (some ⟨bh, oh, none⟩) (L.getD x []).length ch, .slice (some ⟨C, 0, none⟩) n n] (tp p1 τ d) fun e w1 => ∃ v, e = .returned v ∧ ∃ g, v = .slice (some ⟨g, 0, none⟩) (prd2 dl) (prd2 dl) ∧ p1.heap.size ≤ g ∧ RowU w1 g (mk (prd2 dl) (alo dl x back (cf xs))) ∧ Blw p1 w1 := fun τ d => by
    refine Calls.mono (exec_gather (tp p1 τ d) _ zs dl x n (L.getD x []) (fun k => wkL dl back (dealT n (L.getD x []) k) xs) bh oh ch C (IsZ.of_block hT1.z rfl) hG hn hxd (by omega) hn8 (hbig x hx) hR.1 hph1 (fun k hk => ?_)) ?_
    · obtain ⟨v, h1, b, o, c, rfl, h2, h3, -⟩ := hW k hk
      exact ⟨b, o, c, h1, IsU.of_block h2 rfl, h3⟩
    · rintro e w1 ⟨g, rfl, hg, hr, hb⟩
      rw [gat_work hG.2.2.2 hxd hla hR] at hr
      exact ⟨_, rfl, g, rfl, hg, hr, ⟨hb.os, hb.output, hb.size, hb.block⟩⟩
  refine Leads.then (leads_call hF hfg hCall (fun v w τ d τ' d' h => ?_)) ?_
  · obtain ⟨g, h1, h2, h3, h4⟩ := h
    exact ⟨g, h1, h2, h3, ⟨h4.os, h4.output, h4.size, h4.block⟩⟩
  rintro a' p2 ⟨v, rfl, g, rfl, hg, hr, hb2⟩
  rw [finish_arr _ _ _ _ _ _ _ _ _ _ rfl]
  refine leads_mv (some 13) rfl rfl rfl (.inr rfl) ?_
  refine leads_regionEnd ?_
  refine leads_inBlock ?_
  refine leads_region [0, 1] rfl ?_
  refine leads_pure (some 44) (.int .i64 ((x + 1 : Nat) : Int)) rfl rfl rfl (fun _ => add1_run (i := x) (by simp [evT_tmp, put_some, hS.s28]) (by simp [evT]) (by omega)) ?_
  refine leads_mv (some 28) rfl rfl rfl (.inl rfl) ?_
  refine leads_regionEnd ?_
  refine leads_inLoop ?_
  refine leads_stop ⟨_, g, rfl, hb1.trans hb2, Nat.le_trans hb1.size hg, hr, ?_⟩
  exact ⟨by simp [put_some, hS.s0], by simp [put_some, hS.s3], by simp [put_some, hS.s4], by simp [put_some, evT_tmp], by simp [put_some, hS.s26], by simp [put_some, hS.s27], by simp [put_some, evT_tmp]⟩
end
end Go.Proofs.YtckoipoejaafhaaDoor.Cc
