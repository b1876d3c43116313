/-
  Texts that stood one behind the other, as one.
-/
import Derived.Test.YtckoipoejaafhaaDoorCeL
import Derived.Test.YtckoipoejaafhaaDoorExGmAll
import Derived.Test.YtckoipoejaafhaaDoorPlanX
import Derived.Test.YtckoipoejaafhaaDoorNttCAll
import Derived.BigQuiet
import Derived.Deep.RegionWith
import Derived.Deep.Cut
/-! Together's loop over the phases, beside leavers. -/
namespace Go.Proofs.YtckoipoejaafhaaDoor.Cc
open Go Go.Conc Go.RowKit

noncomputable def tgB : Code := Tryd.f13.body.getD .skip
noncomputable def tg4 : Code := sq2 (sq2 tgB)
noncomputable def tg5 : Code := sq2 tg4
noncomputable def tgL : Code := lop (blk (sq2 (sq1 tg5)))
noncomputable def tgE : Code := sq2 tg5

section
variable {P : Program} {N0 : Nat} {pw : World} {Q : Goroutine → World → Prop} {fn : FuncId} {n : Nat} {ds : List Deferred} {σ : Nat → Value} {k : List Item} {cs : List Frame}
theorem leads_block {id : Nat} {x : Code} (h : Leads P N0 (G (fd false fn n ds σ (.code x :: .inBlock id :: k)) cs) pw Q) : Leads P N0 (G (fd false fn n ds σ (.code (.block id x) :: k)) cs) pw Q := leads_ctl rfl (fun _ => sd_block) h
theorem leads_inBlock {id : Nat} (h : Leads P N0 (G (fd false fn n ds σ k) cs) pw Q) : Leads P N0 (G (fd false fn n ds σ (.inBlock id :: k)) cs) pw Q := leads_ctl rfl (fun _ => sd_inBlock) h
theorem leads_loop {x : Code} (h : Leads P N0 (G (fd false fn n ds σ (.code x :: .inLoop x :: k)) cs) pw Q) : Leads P N0 (G (fd false fn n ds σ (.code (.loop x) :: k)) cs) pw Q := leads_ctl rfl (fun _ => sd_loop) h
theorem leads_inLoop {x : Code} (h : Leads P N0 (G (fd false fn n ds σ (.code x :: .inLoop x :: k)) cs) pw Q) : Leads P N0 (G (fd false fn n ds σ (.inLoop x :: k)) cs) pw Q := leads_ctl rfl (fun _ => sd_inLoop) h
theorem leads_skip (h : Leads P N0 (G (fd false fn n ds σ k) cs) pw Q) : Leads P N0 (G (fd false fn n ds σ (.code .skip :: k)) cs) pw Q := leads_ctl rfl (fun _ => sd_skip) h
theorem leads_exit {id : Nat} {k' : List Item} (he : exitTo id k = some k') (h : Leads P N0 (G (fd false fn n ds σ k') cs) pw Q) : Leads P N0 (G (fd false fn n ds σ (.code (.exit id) :: k)) cs) pw Q := leads_ctl rfl (fun _ => sd_exit he) h
theorem leads_cond {x y : Code} {p : Operand} (t : Bool) (hp : evT (arr n σ) p = .bool t) (h : Leads P N0 (G (fd false fn n ds σ (.code (if t then x else y) :: k)) cs) pw Q) : Leads P N0 (G (fd false fn n ds σ (.code (.cond p x y) :: k)) cs) pw Q := leads_ctl rfl (fun _ => sd_cond hp) h
end
section
variable {w : World} {ρ : Operand → Value} {x y : Operand} {d : Option Tmp} {ty : TypeId} {pos : String} {af : Array Edge} {gd : Option (Nat × Bool)}
theorem idxP_run {b o l c m : Nat} (hx : ρ x = .slice (some ⟨b, o, none⟩) l c) (hy : ρ y = .int .i64 (m : Int)) (hm : m < l) :
    (execOp ρ ⟨d, .indexAddr 24 x y, ty, pos, af, gd⟩).runT Tryd.prog w #[] = (.ok (.value (.pointer (some ⟨b, o + m, none⟩))) w, #[]) := by
  apply run_ev
  · simp [execOp, go_sem, hx, hy, hm]
  · simp [execOp, go_sem, hx, hy, hm]
end

/-- Slots that stay in Together's loop. -/
structure Tg (vz vl : Value) (n nL : Nat) (back : Bool) (va : Value) (x : Nat) (σ : Nat → Value) : Prop where
  s0 : σ 0 = vz
  s3 : σ 3 = .int .i64 (n : Int)
  s4 : σ 4 = .bool back
  s13 : σ 13 = va
  s26 : σ 26 = vl
  s27 : σ 27 = .int .i64 (nL : Int)
  s28 : σ 28 = .int .i64 (x : Int)

section
variable {dl : List Nat} {zs : List Int} {back : Bool} {n : Nat} {L : List (List (List Int))} {bz oz cz bP oP cP : Nat} {c0 : Frame} {cs : List Frame} {pw : World} {N0 : Nat} {fs : List FuncId}
/-- What stays in memory. -/
structure Tm (dl : List Nat) (zs : List Int) (L : List (List (List Int))) (bz oz cz bP oP N0 : Nat) (pw : World) : Prop where
  z : IsZ pw (.slice (some ⟨bz, oz, none⟩) dl.length cz) zs
  oz : One pw bz
  zc : ∃ o v, pw.cell? ⟨bz, o, none⟩ = some v
  ns : N0 ≤ pw.heap.size
  tab : Tab pw
  tabs : ∀ g ∈ tabsL, g < N0 ∧ One pw g
  ph : ∀ x, x < L.length → ∃ bh oh ch, pw.cell? ⟨bP, oP + x, none⟩ = some (.slice (some ⟨bh, oh, none⟩) (L.getD x []).length ch) ∧ ∀ i, i < (L.getD x []).length → ∀ j, j < 3 → pw.cell? ⟨bh, oh + 3 * i + j, none⟩ = some (.int .i64 (((L.getD x []).getD i []).getD j 0))
theorem Tm.blw {pw' : World} (h : Tm dl zs L bz oz cz bP oP N0 pw) (b : Blw pw pw') : Tm dl zs L bz oz cz bP oP N0 pw' :=
  ⟨IsZ.of_block h.z (b.block _ h.oz.lt), h.oz.of (b.block _ h.oz.lt), let ⟨o, v, e⟩ := h.zc; ⟨o, v, cell_same e (b.block _ h.oz.lt)⟩, Nat.le_trans h.ns b.size, Tab.of_blocks h.tab fun g hg => b.block _ (h.tabs g hg).2.lt, fun g hg => ⟨(h.tabs g hg).1, (h.tabs g hg).2.of (b.block _ (h.tabs g hg).2.lt)⟩, fun x hx => by
    obtain ⟨bh, oh, ch, h1, h2⟩ := h.ph x hx
    exact ⟨bh, oh, ch, cell_same h1 (b.block _ (cell_lt h1)), fun i hi j hj => cell_same (h2 i hi j hj) (b.block _ (cell_lt (h2 i hi j hj)))⟩⟩

set_option maxRecDepth 100000 in
set_option maxHeartbeats 4000000 in
theorem tg_round (hF : FnsAll Tryd.prog fs) (hfg : fs.contains 38 = true) (hG : Good zs dl) (hn : prd2 dl ≤ 1024) (hn8 : n ≤ 8) (hn0 : ¬ n = 0) (hm : Tryd.prog.follows .mixedOrders = true) (hFi : Go.Proofs.YtckoipoejaafhaaDoor.Fine dl L) (hLs : L.length < 1000000) (hbig : ∀ x, x < L.length → (L.getD x []).length ≤ 64)
    {x : Nat} (hx : x < L.length) (hpos : 0 < (L.getD x []).length) {σ : Nat → Value} {bA oA cA : Nat} {xs : List Nat} (hT : Tm dl zs L bz oz cz bP oP N0 pw) (ha : IsU pw (.slice (some ⟨bA, oA, none⟩) (prd2 dl) cA) xs) (hla : xs.length = prd2 dl) (hoa : One pw bA) (hac : ∃ o v, pw.cell? ⟨bA, o, none⟩ = some v)
    (hS : Tg (.slice (some ⟨bz, oz, none⟩) dl.length cz) (.slice (some ⟨bP, oP, none⟩) L.length cP) n L.length back (.slice (some ⟨bA, oA, none⟩) (prd2 dl) cA) x σ) {k : List Item} :
    Leads Tryd.prog N0 (G (fd false 13 46 [] σ (.code tgL :: .inLoop tgL :: k)) cs) pw fun a' pw' => ∃ σ' g, a' = G (fd false 13 46 [] σ' (.code tgL :: .inLoop tgL :: k)) cs ∧ Blw pw pw' ∧ pw.heap.size ≤ g ∧ RowU pw' g (mk (prd2 dl) (alo dl x back (cf xs))) ∧
      Tg (.slice (some ⟨bz, oz, none⟩) dl.length cz) (.slice (some ⟨bP, oP, none⟩) L.length cP) n L.length back (.slice (some ⟨g, 0, none⟩) (prd2 dl) (prd2 dl)) (x + 1) σ' := by
  have hxd : x < dl.length := by rw [← hFi.1]; exact hx
  have hR := hFi.2 x hxd
  obtain ⟨bh, oh, ch, hc, hph⟩ := hT.ph x hx
  refine leads_seq ?_
  refine leads_region [0] rfl ?_
  refine leads_pure (some 29) (.bool true) rfl rfl rfl (fun _ => lss_run (i := (x : Int)) (j := (L.length : Int)) true (by simp [evT_tmp, hS.s28]) (by simp [evT_tmp, hS.s27]) (decide_eq_true (by omega))) ?_
  refine leads_regionEnd ?_
  refine leads_seq ?_
  refine leads_cond true (by simp [evT_tmp, put_some]) ?_
  refine leads_skip ?_
  refine leads_seq ?_
  refine leads_block ?_
  refine leads_seq ?_
  refine leads_region [0, 1, 2, 3, 4] rfl ?_
  refine leads_mv (some 30) rfl rfl rfl (.inl rfl) ?_
  refine leads_pure (some 31) (.pointer (some ⟨bP, oP + x, none⟩)) rfl rfl rfl (fun _ => idxP_run (b := bP) (o := oP) (l := L.length) (c := cP) (m := x) (by simp [evT_tmp, put_some, hS.s26]) (by simp [evT_tmp, put_some, hS.s28]) hx) ?_
  refine leads_get1 (some 32) ⟨bP, oP + x, none⟩ (.slice (some ⟨bh, oh, none⟩) (L.getD x []).length ch) rfl rfl rfl hc (fun w h => run_ev (by simp [execOp, go_sem, evT_tmp, put_some, h]) (by simp [execOp, go_sem, evT_tmp, put_some, h])) ?_
  refine leads_mv (some 14) rfl rfl rfl (.inr rfl) ?_
  refine leads_mv (some 15) rfl rfl rfl (.inr rfl) ?_
  refine leads_regionEnd ?_
  refine leads_seq ?_
  refine leads_region [0, 1, 2, 3, 4, 5, 6] rfl ?_
  refine leads_mv (some 33) rfl rfl rfl (.inl rfl) ?_
  refine leads_mv (some 34) rfl rfl rfl (.inl rfl) ?_
  refine leads_mv (some 35) rfl rfl rfl (.inl rfl) ?_
  refine leads_mv (some 36) rfl rfl rfl (.inl rfl) ?_
  refine leads_mv (some 37) rfl rfl rfl (.inl rfl) ?_
  refine leads_enterD 37 #[.slice (some ⟨bz, oz, none⟩) dl.length cz, .slice (some ⟨bA, oA, none⟩) (prd2 dl) cA, .slice (some ⟨bh, oh, none⟩) (L.getD x []).length ch, .int .i64 (n : Int), .bool back] rfl rfl (fun w => run_ev (by simp [execOp, go_sem, evT_tmp, evT_func, put_some, hS.s0, hS.s13, hS.s3, hS.s4]) (by simp [execOp, go_sem, evT_tmp, evT_func, put_some, hS.s0, hS.s13, hS.s3, hS.s4, call_events Tryd.func37 (by kernel_rfl) rfl])) ?_
  refine Leads.then (workTogether_leads (x := x) hG hn hxd hn8 hn0 hm hR.1 (hbig x hx) hpos hT.z hT.oz ha hla hoa hT.zc hac hT.ns hT.tab hT.tabs hph) ?_
  rintro a' p1 ⟨C, rfl, hb1, hC, hW⟩
  rw [finish_arr _ _ _ _ _ _ _ _ _ _ rfl]
  refine leads_mv (some 16) rfl rfl rfl (.inr rfl) ?_
  refine leads_regionEnd ?_
  refine leads_region [0, 1, 2, 3, 4, 5] rfl ?_
  refine leads_mv (some 39) rfl rfl rfl (.inl rfl) ?_
  refine leads_mv (some 40) rfl rfl rfl (.inl rfl) ?_
  refine leads_mv (some 41) rfl rfl rfl (.inl rfl) ?_
  refine leads_mv (some 42) rfl rfl rfl (.inl rfl) ?_
  refine leads_enterD 38 #[.slice (some ⟨bz, oz, none⟩) dl.length cz, .int .i64 (x : Int), .slice (some ⟨bh, oh, none⟩) (L.getD x []).length ch, .slice (some ⟨C, 0, none⟩) n n] rfl rfl (fun w => run_ev (by simp [execOp, go_sem, evT_tmp, evT_func, put_some, hS.s0, hS.s28]) (by simp [execOp, go_sem, evT_tmp, evT_func, put_some, hS.s0, hS.s28, call_events Tryd.func38 (by kernel_rfl) rfl])) ?_
  have hT1 := hT.blw hb1
  have hph1 : ∀ i, i < (L.getD x []).length → ∀ j, j < 3 → p1.cell? ⟨bh, oh + 3 * i + j, none⟩ = some (.int .i64 (((L.getD x []).getD i []).getD j 0)) := fun i hi j hj => cell_same (hph i hi j hj) (hb1.block _ (cell_lt (hph i hi j hj)))
  have hCall : ∀ τ d, Calls Tryd.prog 38 #[.slice (some ⟨bz, oz, none⟩) dl.length cz, .int .i64 (x : Int), .slice (some ⟨bh, oh, none⟩) (L.getD x []).length ch, .slice (some ⟨C, 0, none⟩) n n] (tp p1 τ d) fun e w1 => ∃ v, e = .returned v ∧ ∃ g, v = .slice (some ⟨g, 0, none⟩) (prd2 dl) (prd2 dl) ∧ p1.heap.size ≤ g ∧ RowU w1 g (mk (prd2 dl) (alo dl x back (cf xs))) ∧ Blw p1 w1 := fun τ d => by
    refine Calls.mono (exec_gather (tp p1 τ d) _ zs dl x n (L.getD x []) (fun k => wkL dl back (dealT n (L.getD x []) k) xs) bh oh ch C (IsZ.of_block hT1.z rfl) hG hn hxd (by omega) hn8 (hbig x hx) hR.1 hph1 (fun k hk => ?_)) ?_
    · obtain ⟨v, h1, b, o, c, rfl, h2, h3, -⟩ := hW k hk
      exact ⟨b, o, c, h1, IsU.of_block h2 rfl, h3⟩
    · rintro e w1 ⟨g, rfl, hg, hr, hb⟩
      rw [gat_work hG.2.2.2 hxd hla hR] at hr
      exact ⟨_, rfl, g, rfl, hg, hr, ⟨hb.os, hb.output, hb.size, hb.block⟩⟩
  refine Leads.then (leads_call hF hfg hCall (fun v w τ d τ' d' h => ?_)) ?_
  · obtain ⟨g, h1, h2, h3, h4⟩ := h
    exact ⟨g, h1, h2, h3, ⟨h4.os, h4.output, h4.size, h4.block⟩⟩
  rintro a' p2 ⟨v, rfl, g, rfl, hg, hr, hb2⟩
  rw [finish_arr _ _ _ _ _ _ _ _ _ _ rfl]
  refine leads_mv (some 13) rfl rfl rfl (.inr rfl) ?_
  refine leads_regionEnd ?_
  refine leads_inBlock ?_
  refine leads_region [0, 1] rfl ?_
  refine leads_pure (some 44) (.int .i64 ((x + 1 : Nat) : Int)) rfl rfl rfl (fun _ => add1_run (i := x) (by simp [evT_tmp, put_some, hS.s28]) (by simp [evT]) (by omega)) ?_
  refine leads_mv (some 28) rfl rfl rfl (.inl rfl) ?_
  refine leads_regionEnd ?_
  refine leads_inLoop ?_
  refine leads_stop ⟨_, g, rfl, hb1.trans hb2, Nat.le_trans hb1.size hg, hr, ?_⟩
  exact ⟨by simp [put_some, hS.s0], by simp [put_some, hS.s3], by simp [put_some, hS.s4], by simp [put_some, evT_tmp], by simp [put_some, hS.s26], by simp [put_some, hS.s27], by simp [put_some, evT_tmp]⟩
end

end Go.Proofs.YtckoipoejaafhaaDoor.Cc

/-! What Check, cutLines and Make of package plan answer. -/
namespace Go.Proofs.YtckoipoejaafhaaDoor
open Go.RowKit
set_option maxRecDepth 100000

set_option maxRecDepth 100000 in
set_option maxHeartbeats 8000000 in
theorem plan_Check_all (w : World) (v vl : Value) (zs : List Int) (ds : List Nat) (L : List (List (List Int))) (h : IsZ w v zs) (hG : Good zs ds) (hn : prd2 ds ≤ 1024) (hP : IsP 3 w vl L) :
    Calls Tryd.prog 76 #[v, vl] w fun e w' => ((e = .returned (.int .i64 5) ∧ ¬ Fine ds L) ∨ (e = .returned (.int .i64 2) ∧ Fine ds L ∧ BigP L L.length) ∨ (e = .returned (.int .i64 0) ∧ Fine ds L ∧ ¬ BigP L L.length)) ∧ Below w.heap.size w w' := by
  have hS : Shp ds := hG.2.2.2
  have h0 := h
  have cS := many_Check_okW w v zs ds h hG hn
  obtain ⟨a, cap, rfl, -, -, hcell, -⟩ := h
  obtain ⟨al, cl, rfl, hL1, hL2, hph⟩ := hP
  have hL9 : L.length ≤ 9223372036854775807 := by unfold maxLen at hL2; omega
  have hlen : zs.length = ds.length := by rw [hG.2.2.1, List.length_map]
  have h3 : ds.length ≤ 3 := by rw [← hlen]; exact hG.2.1
  have hcz : Hid (∀ x, x < ds.length → ∃ b off, a = some ⟨b, off, none⟩ ∧ ∀ W, Below w.heap.size w W → W.cell? ⟨b, off + x, none⟩ = some (.int .i64 ((sz ds x : Nat) : Int))) := fun x hx => by
    obtain ⟨b, off, rfl, hc0⟩ := hcell x (by omega)
    rw [(Good_get hG x (by omega)).1] at hc0
    exact ⟨b, off, rfl, fun W hb => (hb.cell (block_lt hc0)).trans hc0⟩
  have hln : Hid (∀ x, x < ds.length → prd2 ds / sz ds x = nln ds x ∧ 0 < sz ds x ∧ nln ds x ≤ 1024) := fun x hx => by
    have e := nln_div hS x hx
    exact ⟨e, P2_pos (hS.at x hx), by rw [← e]; exact Nat.le_trans (Nat.div_le_self _ _) hn⟩
  rw [hlen] at h0 cS ⊢
  obtain ⟨n, hnn⟩ : ∃ n, n = prd2 ds := ⟨_, rfl⟩
  rw [← hnn] at cS hn
  have hnn' : Hid (n = prd2 ds) := hnn
  clear hnn hG hcell hS hlen hL1 hL2
  by_cases hLd : L.length = ds.length
  · have hph' : Hid (∀ x, x < ds.length → ∃ b off u, al = some ⟨b, off, none⟩ ∧ w.cell? ⟨b, off + x, none⟩ = some u ∧ IsR 3 w u (L.getD x [])) := fun x hx => hph x (by omega)
    have hLd' : Hid (L.length = ds.length) := hLd
    rw [hLd]
    clear hph hLd hL9
    go_enter Tryd.func76, Tryd.ntmps76
    go_wp2_with (go_at_call 39; refine Calls.mono cS ?_; rintro e w' ⟨rfl, hw⟩; rw [hw]; clear hw)
    clear cS
    go_loopw [26] (fun vi wr => ∃ (x : Nat), x ≤ ds.length ∧ vi = .int .i64 (x : Int) ∧ Hid (∀ y, y < x → RgtP (nln ds y) y (L.getD y [])) ∧ Below w.heap.size w wr)
      (fun vi _ => ds.length - (intOf vi).toNat)
    case atStart => exact ⟨0, Nat.zero_le _, rfl, fun y hy => by omega, Below.refl _ _⟩
    case round =>
      obtain ⟨x, hx, rfl, hrt, hnx⟩ := hrel
      by_cases hlt : x < ds.length
      · obtain ⟨b, off, rfl, hcx⟩ := hcz.out x hlt
        have hcx1 := hcx wr hnx
        obtain ⟨bl, ol, ul, rfl, hcu, hR⟩ := hph'.out x hlt
        have hcu1 := (hnx.cell (block_lt hcu)).trans hcu
        obtain ⟨e1, hd0, hl9⟩ := hln.out x hlt
        have hnx' := hnn'.out
        obtain ⟨d, hd⟩ : ∃ d, d = sz ds x := ⟨_, rfl⟩
        obtain ⟨m, hm⟩ : ∃ m, m = nln ds x := ⟨_, rfl⟩
        have hq : Int.tdiv (n : Int) (d : Int) = (m : Int) := by rw [hm, hd, hnx', ← e1]; rfl
        rw [← hd] at hcx1 hd0
        rw [← hm] at hl9
        have hd0' : ¬ (d : Int) = 0 := by omega
        have hqw : IntKind.i64.wrap (m : Int) = (m : Int) := by rw [IntKind.wrap_i64]; omega
        have hm' : Hid (m = nln ds x) := hm
        have cC := plan_coversAxis wr ul (L.getD x []) x m (hR.below hnx) hl9
        clear hd hm e1 hnx' hcx hcu hR
        by_cases hRg : RgtP m x (L.getD x [])
        · have hrt2 : Hid (∀ y, y < x + 1 → RgtP (nln ds y) y (L.getD y [])) := fun y hy => by
            rcases Nat.lt_or_ge y x with q | q
            · exact hrt.out y q
            · rw [show y = x by omega, ← hm'.out]; exact hRg
          have cC2 : Calls Tryd.prog 108 #[ul, .int .i64 (x : Int), .int .i64 (m : Int)] wr fun e w' => e = .returned (.bool true) ∧ Below wr.heap.size wr w' := cC.mono (by
            rintro e w' ⟨b, rfl, hiff, hb⟩
            rw [hiff.mpr hRg]
            exact ⟨rfl, hb⟩)
          clear cC hRg hrt
          go_wp2_with (go_at_call 108; refine Calls.mono cC2 ?_; rintro e w2 ⟨rfl, hb2⟩; clear cC2)
          have hnx2 := hnx.trans (hb2.mono hnx.size)
          clear hnx hb2 hcx1 hcu1 hq hqw
          go_roundw
          case rel => exact ⟨x + 1, by omega, by go_num, hrt2, hnx2⟩
          case measure => simp only [intOf]; omega
        · have hno : Hid (¬ Fine ds L) := fun hF => hRg (by rw [hm'.out]; exact hF.2 x hlt)
          have cC2 : Calls Tryd.prog 108 #[ul, .int .i64 (x : Int), .int .i64 (m : Int)] wr fun e w' => e = .returned (.bool false) ∧ Below wr.heap.size wr w' := cC.mono (by
            rintro e w' ⟨b, rfl, hiff, hb⟩
            cases b
            · exact ⟨rfl, hb⟩
            · exact absurd (hiff.mp rfl) hRg)
          clear cC hRg hrt
          go_wp2_with (go_at_call 108; refine Calls.mono cC2 ?_; rintro e w2 ⟨rfl, hb2⟩; clear cC2)
          go_ret
          exact ⟨.inl ⟨rfl, hno.out⟩, hnx.trans (hb2.mono hnx.size)⟩
      · have e : ds.length = x := by omega
        have hge : ds.length ≤ x := by omega
        rw [← e] at hrt
        have hFine : Hid (Fine ds L) := ⟨hLd'.out, hrt.out⟩
        clear e hrt hcz hln
        go_wp2
        clear hge hx
        go_loopw [44] (fun vi wi => ∃ (y : Nat), y ≤ ds.length ∧ vi = .int .i64 (y : Int) ∧ Hid (∀ z, z < y → (L.getD z []).length ≤ 64) ∧ Below w.heap.size w wi)
          (fun vi _ => ds.length - (intOf vi).toNat)
        case atStart => exact ⟨0, Nat.zero_le _, rfl, fun z hz => by omega, hnx⟩
        case round =>
          clear hnx
          obtain ⟨y, hy, rfl, hsm, hnx⟩ := hrel
          by_cases hlt : y < ds.length
          · obtain ⟨bl, ol, ul, rfl, hcu, hR⟩ := hph'.out y hlt
            have hcu1 := (hnx.cell (block_lt hcu)).trans hcu
            obtain ⟨au, cu, rfl, hu1, hu2, -⟩ := hR
            have hu9 : (L.getD y []).length ≤ 9223372036854775807 := by unfold maxLen at hu2; omega
            clear hcu hu1 hu2
            by_cases h64 : (L.getD y []).length ≤ 64
            · have hsm2 : Hid (∀ z, z < y + 1 → (L.getD z []).length ≤ 64) := fun z hz => by
                rcases Nat.lt_or_ge z y with q | q
                · exact hsm.out z q
                · rw [show z = y by omega]; exact h64
              clear hsm
              generalize (L.getD y []).length = k at *
              go_wp2
              go_roundw
              case rel => exact ⟨y + 1, by omega, by go_num, hsm2, hnx⟩
              case measure => simp only [intOf]; omega
            · have hbig : Hid (BigP L ds.length) := ⟨y, hlt, by omega⟩
              have h65 : 64 < (L.getD y []).length := by omega
              clear hsm h64
              generalize (L.getD y []).length = k at *
              go_wp2
              go_ret
              exact ⟨.inr (.inl ⟨rfl, hFine.out, hbig.out⟩), hnx⟩
          · have e : ds.length = y := by omega
            have hge : ds.length ≤ y := by omega
            rw [← e] at hsm
            have hnb : Hid (¬ BigP L ds.length) := fun ⟨z, hz, hb⟩ => by have := hsm.out z hz; omega
            clear e hsm
            go_wp2
            go_ret
            exact ⟨.inr (.inr ⟨rfl, hFine.out, hnb.out⟩), hnx⟩
  · have hno : Hid (¬ Fine ds L) := fun hF => hLd hF.1
    have hne : ((L.length : Int) != (ds.length : Int)) = true := by rw [bne_iff_ne]; omega
    clear hph hcz hln
    go_enter Tryd.func76, Tryd.ntmps76
    go_wp2_with (go_at_call 39; refine Calls.mono cS ?_; rintro e w' ⟨rfl, hw⟩; rw [hw]; clear hw)
    go_ret
    exact ⟨.inl ⟨rfl, hno.out⟩, Below.refl _ _⟩
theorem plan_Check_shape (w : World) (v vl : Value) (er : Int) (her : (er != 0) = true) (cS : Calls Tryd.prog 39 #[v] w fun e w' => e = .returned (.tuple #[.int .i64 0, .int .i64 er]) ∧ w' = w) :
    Calls Tryd.prog 76 #[v, vl] w fun e w' => e = .returned (.int .i64 er) ∧ Below w.heap.size w w' := by
  go_enter Tryd.func76, Tryd.ntmps76
  go_wp2_with (go_at_call 39; refine Calls.mono cS ?_; rintro e w' ⟨rfl, hw⟩; rw [hw]; clear hw)
  go_ret
  exact ⟨rfl, Below.refl _ _⟩
theorem plan_Check_large (w : World) (v vl : Value) (zs : List Int) (ds : List Nat) (h : IsZ w v zs) (hG : Good zs ds) (hn : 1024 < prd2 ds) :
    Calls Tryd.prog 76 #[v, vl] w fun e w' => e = .returned (.int .i64 2) ∧ Below w.heap.size w w' :=
  plan_Check_shape w v vl 2 (by decide) (many_Check_largeW w v zs ds h hG hn)
theorem plan_Check_bad (w : World) (v vl : Value) (zs : List Int) (h : IsZ w v zs) (hG : ∀ ds, ¬ Good zs ds) :
    Calls Tryd.prog 76 #[v, vl] w fun e w' => e = .returned (.int .i64 1) ∧ Below w.heap.size w w' :=
  plan_Check_shape w v vl 1 (by decide) (many_Check_badW w v zs h hG)

/-- A row of integers by its numbers. -/
def tv (n : Nat) (g : Nat → Int) : List Value := (List.range n).map fun p => .int .i64 (g p)
/-- The numbers of tasks, one behind the other; the first k tasks, then noughts. -/
def fT (x c n p : Nat) : Int := if p % 3 = 0 then (x : Int) else if p % 3 = 1 then ((p / 3 * c : Nat) : Int) else ((min (p / 3 * c + c) n : Nat) : Int)
def gT (x c n k p : Nat) : Int := if p < k * 3 then fT x c n p else 0
/-- The first phases made, each in a block of its own that is not G. -/
def PhI (w : World) (G : Nat) (vs : List Value) (P : Nat → List (List Int)) (i : Nat) : Prop := ∀ j, j < i → ∃ u, vs[j]? = some u ∧ IsR 3 w u (P j) ∧ ∀ b off s l c, u = .slice (some ⟨b, off, s⟩) l c → b ≠ G
theorem IsR.keep {k : Nat} {w w' : World} {v : Value} {L : List (List Int)} {G : Nat} (h : IsR k w v L) (hk : 0 < k) (hne : ∀ b off s l c, v = .slice (some ⟨b, off, s⟩) l c → b ≠ G) (hb : ∀ b, b < w.heap.size → b ≠ G → w'.heap[b]? = w.heap[b]?) : IsR k w' v L := by
  obtain ⟨a, cap, rfl, h1, h2, hc, hr⟩ := h
  refine ⟨a, cap, rfl, h1, h2, fun i hi => ?_, hr⟩
  obtain ⟨b, off, rfl, hcell⟩ := hc i hi
  refine ⟨b, off, rfl, fun j hj => ?_⟩
  have hlt : b < w.heap.size := block_lt (hcell 0 hk)
  exact (World.cell?_of_block (w := w) (hb b hlt (hne b off none _ _ rfl))).trans (hcell j hj)
theorem PhI.step {w w' : World} {G : Nat} {vs : List Value} {P : Nat → List (List Int)} {i : Nat} {u : Value} (h : PhI w G vs P i) (hi : i < vs.length) (hb : ∀ b, b < w.heap.size → b ≠ G → w'.heap[b]? = w.heap[b]?) (hu : IsR 3 w' u (P i)) (hne : ∀ b off s l c, u = .slice (some ⟨b, off, s⟩) l c → b ≠ G) : PhI w' G (vs.set i u) P (i + 1) := fun j hj => by
  by_cases e : j = i
  · subst e
    exact ⟨u, by rw [List.getElem?_set_self hi], hu, hne⟩
  · obtain ⟨u', h1, h2, h3⟩ := h j (by omega)
    exact ⟨u', by rw [List.getElem?_set_ne (Ne.symm e)]; exact h1, h2.keep (by decide) h3 hb, h3⟩
end Go.Proofs.YtckoipoejaafhaaDoor

/-! What check of package exec answers of right things. -/
namespace Go.Proofs.YtckoipoejaafhaaDoor
open Go.RowKit
set_option maxRecDepth 100000

set_option maxHeartbeats 1000000 in
theorem exec_check (w : World) (v va vl : Value) (zs : List Int) (ds xs : List Nat) (L : List (List (List Int))) (W : Nat) (h : IsZ w v zs) (hU : IsU w va xs) (hP : IsP 3 w vl L) (hG : Good zs ds) (hn : prd2 ds ≤ 1024) (hF : Fine ds L) (hb : ¬ BigP L L.length) (hl : xs.length = prd2 ds) (hW : 1 ≤ W) (hW8 : W ≤ 8) :
    Calls Tryd.prog 36 #[v, va, vl, .int .i64 (W : Int)] w fun e w' => e = .returned (.int .i64 0) ∧ Below w.heap.size w w' := by
  have c1 : Calls Tryd.prog 76 #[v, vl] w fun e w' => e = .returned (.int .i64 0) ∧ Below w.heap.size w w' := (plan_Check_all w v vl zs ds L h hG hn hP).mono fun e w' hh => by
    obtain ⟨⟨_, hno⟩ | ⟨_, _, hbg⟩ | ⟨rfl, _⟩, hb2⟩ := hh
    · exact absurd hF hno
    · exact absurd hbg hb
    · exact ⟨rfl, hb2⟩
  have c2 := fun (W' : World) (hb : Below w.heap.size w W') => many_Check_okW W' v zs ds (h.below hb) hG hn
  obtain ⟨aa, ca, rfl, -⟩ := hU
  rw [hl]
  have hW1 : ¬ (W : Int) < 1 := by omega
  have hW2 : ¬ (8 : Int) < (W : Int) := by omega
  clear h hP hG hF hb hl
  generalize prd2 ds = n at *
  go_enter Tryd.func36, Tryd.ntmps36
  go_wp2_with (first
    | (go_at_call 76; refine Calls.mono c1 ?_; rintro e w1 ⟨rfl, hb1⟩; clear c1)
    | (go_at_call 39; refine Calls.mono (c2 _ hb1) ?_; rintro e w2 ⟨rfl, hw⟩; rw [hw]; clear hw c2))
  go_ret
  exact ⟨rfl, hb1⟩

end Go.Proofs.YtckoipoejaafhaaDoor
