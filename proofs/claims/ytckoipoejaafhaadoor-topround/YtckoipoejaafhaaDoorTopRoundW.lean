/-
  The law TopRound, beside leavers, whole.
-/
import Derived.Test.YtckoipoejaafhaaDoorCeTAll
import Derived.Test.YtckoipoejaafhaaDoorExWAll
import Derived.Test.YtckoipoejaafhaaDoorExWAll
import Derived.Test.YtckoipoejaafhaaDoorRefWrapped
import Derived.Test.YtckoipoejaafhaaDoorCeTAll
namespace Go.Proofs.YtckoipoejaafhaaDoor
open Go.RowKit
set_option maxRecDepth 100000
theorem top_shaped_any2 (w : World) (v vx : Value) (zs : List Int) (xs : List Nat) (hZ : IsZ w v zs) (hX : IsU w vx xs) :
    Calls Tryd.prog 16 #[v, vx] w fun e w' => ∃ a ok, e = .returned (.tuple #[a, .bool ok]) ∧ (ok = true → ∃ ds g, Good zs ds ∧ prd2 ds ≤ 64 ∧ a = .slice (some ⟨g, 0, none⟩) (prd2 ds) (prd2 ds) ∧ IsU w' a (szd xs (prd2 ds))) ∧ (∀ ds, Good zs ds → prd2 ds ≤ 64 → ok ≠ false) ∧ Below w.heap.size w w' := by
  by_cases hG : ∃ ds, Good zs ds ∧ prd2 ds ≤ 64
  · obtain ⟨ds, hG, hn⟩ := hG
    refine (top_shaped_ok w v vx zs ds xs hZ hX hG hn).mono ?_
    rintro e w' ⟨g, rfl, hU, hb⟩
    exact ⟨_, true, rfl, fun _ => ⟨ds, g, hG, hn, rfl, hU⟩, fun _ _ _ => by decide, hb⟩
  · refine (top_shaped_any w v vx zs xs hZ hX).mono ?_
    rintro e w' ⟨a, ok, h1, h2, h3⟩
    exact ⟨a, ok, h1, h2, fun ds h h' => absurd ⟨ds, h, h'⟩ hG, h3⟩
theorem roundback {ds : List Nat} (hS : Shp ds) (hn : prd2 ds ≤ 1024) {xs ys : List Nat} : mk (prd2 ds) (who ds true (cf (muK (mk (prd2 ds) (who ds false (cf xs) ds.length)) (mk (prd2 ds) (who ds false (cf ys) ds.length)) (prd2 ds))) ds.length) = mk (prd2 ds) (cyD ds (cf xs) (cf ys)) := by
  refine mk_congr fun p hp => ?_
  rw [← cyc_by hS hn (cf xs) (cf ys) p hp]
  refine who_congr hS true (fun i hi => ?_) p hp
  rw [cf_muK _ _ _ (by rw [mk_length]; exact Nat.le_refl _), if_pos hi, cf_mk, if_pos hi, cf_mk, if_pos hi]
set_option maxRecDepth 100000 in
set_option maxHeartbeats 4000000 in
theorem topRound_loop (w0 w : World) (v vx vy l : Value) (ok2 : Bool) (wk : Int) (m1 k1 g g2 gp gq n : Nat) (X Y : List Nat) (hb : Below w0.heap.size w0 w) (hg : w0.heap.size ≤ gp) (hrow : RowU w gp X) (hrow2 : RowU w gq Y) (hne : gq ≠ gp) (lX : X.length = n) (lY : Y.length = n) (hPX : ∀ z ∈ X, z < P) (hPY : ∀ z ∈ Y, z < P) (hn9 : n ≤ 1024) :
    (Cc.sq1 (Cc.sq2 (Cc.sq2 (Cc.sq2 (Cc.sq2 (Cc.sq2 (Cc.sq2 (Cc.sq2 (Cc.sq2 (Cc.sq2 (Cc.sq2 (Tryd.f6.body.getD .skip)))))))))))).wp Tryd.prog (Cc.midPost fun ts w' => ts.size = 110 ∧ (ts.getD 0 undef = v ∧ ts.getD 11 undef = .slice (some ⟨g, 0, none⟩) n n ∧ ts.getD 13 undef = .slice (some ⟨g2, 0, none⟩) n n ∧ ts.getD 15 undef = l ∧ ts.getD 17 undef = .int .i64 ((k1 + 1 : Nat) : Int) ∧ ts.getD 18 undef = .slice (some ⟨gp, 0, none⟩) n n) ∧ RowU w' gp (muK X Y n) ∧ Below w0.heap.size w0 w')
      ⟨#[v, vx, vy, .int .i64 (m1 : Int), .int .i64 wk, undef, undef, undef, undef, undef, .bool false, .slice (some ⟨g, 0, none⟩) (n) (n), .bool true, .slice (some ⟨g2, 0, none⟩) (n) (n), .bool ok2, l, .int .i64 0, .int .i64 ((k1 + 1 : Nat) : Int), .slice (some ⟨gp, 0, none⟩) (n) (n), .slice (some ⟨gq, 0, none⟩) (n) (n), .int .i64 0, undef, undef, .bool true, .bool false, .tuple #[.slice (some ⟨g, 0, none⟩) (n) (n), .bool true], v, vx, .tuple #[.slice (some ⟨g, 0, none⟩) (n) (n), .bool true], .slice (some ⟨g, 0, none⟩) (n) (n), .bool true, .tuple #[.slice (some ⟨g2, 0, none⟩) (n) (n), .bool ok2], v, vy, .tuple #[.slice (some ⟨g2, 0, none⟩) (n) (n), .bool ok2], .slice (some ⟨g2, 0, none⟩) (n) (n), .bool ok2, .tuple #[l, .int .i64 0], v, .int .i64 (m1 : Int), .tuple #[l, .int .i64 0], l, .int .i64 0, .bool true, .bool false, .bool false, .int .i64 0, .bool false, .bool false, .int .i64 wk, .int .i64 (k1 : Int), .int .i64 ((k1 + 1 : Nat) : Int), .tuple #[.slice (some ⟨gp, 0, none⟩) (n) (n), .int .i64 0], v, .slice (some ⟨g, 0, none⟩) (n) (n), l, .int .i64 ((k1 + 1 : Nat) : Int), .tuple #[.slice (some ⟨gp, 0, none⟩) (n) (n), .int .i64 0], .slice (some ⟨gp, 0, none⟩) (n) (n), .int .i64 0, .tuple #[.slice (some ⟨gq, 0, none⟩) (n) (n), .int .i64 0], v, .slice (some ⟨g2, 0, none⟩) (n) (n), l, .int .i64 ((k1 + 1 : Nat) : Int), .tuple #[.slice (some ⟨gq, 0, none⟩) (n) (n), .int .i64 0], .slice (some ⟨gq, 0, none⟩) (n) (n), .int .i64 0, .int .i64 0, .bool false, .bool false, .int .i64 0, .bool false, .bool false, undef, undef, undef, undef, undef, undef, undef, undef, undef, undef, undef, undef, undef, undef, undef, undef, undef, undef, undef, undef, undef, undef, undef, undef, undef, undef, undef, undef, undef, undef, undef, undef, undef, undef, undef, undef], []⟩ w := by
  have hlX : Hid (X.length = n) := lX
  have hlY : Hid (Y.length = n) := lY
  clear lX lY
  refine Cc.mid10 (fn := Tryd.f6) rfl ?_
  go_wp2
  go_loopw [76] (fun vi wr => ∃ i : Nat, i ≤ n ∧ vi = .int .i64 (i : Int) ∧ RowU wr gp (muK X Y i) ∧ RowU wr gq Y ∧ Below w0.heap.size w0 wr)
    (fun vi _ => n - (intOf vi).toNat)
  case atStart => exact ⟨0, Nat.zero_le _, rfl, hrow, hrow2, hb⟩
  case round =>
    clear hrow hb hrow2
    obtain ⟨i, hi, rfl, hrow, hrow2, hnx⟩ := hrel
    by_cases hlt : i < n
    · have hcS := hrow.cell i (by rw [muK_length, hlX.out]; exact hlt)
      have hc2 := hrow2.cell i (by rw [hlY.out]; exact hlt)
      have hfr := hrow.frozen i
      have hset : Hid (∀ m : Nat, RowU ((wr.drewN m).setCell ⟨gp, i, none⟩ (.int .u64 ((fM ((muK X Y i).getD i 0) (Y.getD i 0) : Nat) : Int))) gp (muK X Y (i + 1))) := fun m => (hrow.drewN m).set i _
      have hset2 : Hid (∀ (m : Nat) (u : Value), RowU ((wr.drewN m).setCell ⟨gp, i, none⟩ u) gq Y) := fun m u => (hrow2.drewN m).bar hne ((Bar.refl gp _).setCell i u)
      have cM := field_Mul ((muK X Y i).getD i 0) (Y.getD i 0) (range_getD (Rng_of_P (muK_P X Y i hPX)) _) (range_getD (Rng_of_P hPY) _)
      have hB2 : Hid (∀ (m : Nat) (u : Value), Below w0.heap.size w0 ((wr.drewN m).setCell ⟨gp, i, none⟩ u)) := fun m u => (show Below w0.heap.size w0 (wr.drewN m) from ⟨hnx.os, hnx.tape, hnx.output, hnx.size, hnx.block⟩).setCell (p := ⟨gp, i, none⟩) hg u
      clear hrow hrow2 hnx hPX hPY hne
      generalize fM ((muK X Y i).getD i 0) (Y.getD i 0) = z at *
      generalize (muK X Y i).getD i 0 = old at *
      generalize Y.getD i 0 = y at *
      go_wp2
      go_region_with (go_at_call 22; refine Calls.mono (cM _) ?_; rintro e w' ⟨rfl, hw⟩; rw [hw]; clear hw)
      all_goals
        clear hcS hc2 hfr
        go_wp2
        go_roundw
        case rel => exact ⟨i + 1, by omega, by go_num, hset.out 1, hset2.out 1 _, hB2.out 1 _⟩
        case measure => simp only [intOf]; omega
    · have e : n = i := by omega
      subst e
      have hge : n ≤ n := Nat.le_refl _
      clear hrow2 hPX hPY
      go_wp2
      exact ⟨rfl, ⟨rfl, rfl, rfl, rfl, rfl, rfl⟩, hrow, hnx⟩
end Go.Proofs.YtckoipoejaafhaaDoor
namespace Go.Proofs.YtckoipoejaafhaaDoor.Cc
open Go Go.Conc Go.RowKit
set_option maxRecDepth 100000 in
set_option maxHeartbeats 16000000 in
theorem topRound_leads {w : World} {v vx vy : Value} {zs : List Int} {xs ys : List Nat} {c1 wk : Int} (hZ : IsZ w v zs) (hX : IsU w vx xs) (hY : IsU w vy ys) (hc1 : -9223372036854775808 ≤ c1 ∧ c1 ≤ 9223372036854775807) (hT : Tbs w.heap.size w) :
    Leads Tryd.prog w.heap.size (G (Frame.enter Tryd.prog 6 #[v, vx, vy, .int .i64 c1, .int .i64 wk] .normal) []) w (EndT Tryd.prog w w.heap.size) := by
  rw [enter_fd #[v, vx, vy, .int .i64 c1, .int .i64 wk] Tryd.func6 rfl (show 5 ≤ 110 by omega), Tryd.ntmps6]
  refine leads_seq ?_
  refine leads_region [0] rfl ?_
  refine leads_mv (some 10) rfl rfl rfl (.inr rfl) ?_
  refine leads_regionEnd ?_
  refine leads_seq ?_
  refine leads_seq ?_
  refine leads_region [0, 1] rfl ?_
  refine leads_enterD 15 #[] rfl rfl (fun w => run_ev (by simp [execOp, go_sem, evT_func]) (by simp [execOp, go_sem, evT_func, call_events Tryd.func15 (by kernel_rfl) rfl])) ?_
  refine Leads.then (said_leads hT) ?_
  rintro a' p1 ⟨rfl, b1⟩
  rw [finish_arr _ _ _ _ _ _ _ _ _ _ rfl]
  refine leads_pure (some 24) (.bool false) rfl rfl rfl (fun _ => run_ev (by simp [execOp, go_sem, evT_tmp, put_some]) (by simp [execOp, go_sem, evT_tmp, put_some])) ?_
  refine leads_regionEnd ?_
  refine leads_cond false (by simp [evT_tmp, put_some]) ?_
  refine leads_skip ?_
  refine leads_seq ?_
  refine leads_region [0, 1, 2, 3, 4, 5, 6, 7] rfl ?_
  refine leads_mv (some 26) rfl rfl rfl (.inl rfl) ?_
  refine leads_mv (some 27) rfl rfl rfl (.inl rfl) ?_
  refine leads_fn tAll (fun u W => ∃ a ok, u = .tuple #[a, .bool ok] ∧ (ok = true → ∃ ds g, Good zs ds ∧ prd2 ds ≤ 64 ∧ a = .slice (some ⟨g, 0, none⟩) (prd2 ds) (prd2 ds) ∧ IsU W a (szd xs (prd2 ds)))) (some 28) 16 #[v, vx] rfl rfl (wanted_0 rfl) (fun w => run_ev (by simp [execOp, go_sem, evT_tmp, evT_func, put_some]) (by simp [execOp, go_sem, evT_tmp, evT_func, put_some, call_events Tryd.func16 (by kernel_rfl) rfl])) (by kernel_rfl) (fun τ t => ?_) (fun _ _ _ _ _ _ h => h) ?_
  · exact (top_shaped_any _ _ _ zs xs (IsZ.tp (IsZ.blw hZ b1) τ t) (IsU.tp (IsU.blw hX b1) τ t)).mono fun e w1 ⟨a, ok, h1, h2, h3⟩ => ⟨_, h1, ⟨a, ok, rfl, h2⟩, h3⟩
  rintro u p2 ⟨a, ok, rfl, hA⟩ b2
  refine leads_mv (some 25) rfl rfl rfl (.inl rfl) ?_
  refine leads_extr (some 29) (a) rfl rfl rfl rfl (by simp [evT_tmp, put_some]; rfl) rfl ?_
  refine leads_extr (some 30) (.bool ok) rfl rfl rfl rfl (by simp [evT_tmp, put_some]; rfl) rfl ?_
  refine leads_mv (some 11) rfl rfl rfl (.inr rfl) ?_
  refine leads_mv (some 12) rfl rfl rfl (.inr rfl) ?_
  refine leads_regionEnd ?_
  have B2 := b1.trans b2
  refine leads_seq ?_
  refine leads_region [0, 1, 2, 3, 4, 5, 6, 7] rfl ?_
  refine leads_mv (some 32) rfl rfl rfl (.inl rfl) ?_
  refine leads_mv (some 33) rfl rfl rfl (.inl rfl) ?_
  refine leads_fn tAll (fun u W => ∃ a ok, u = .tuple #[a, .bool ok] ∧ (ok = true → ∃ ds g, Good zs ds ∧ prd2 ds ≤ 64 ∧ a = .slice (some ⟨g, 0, none⟩) (prd2 ds) (prd2 ds) ∧ IsU W a (szd ys (prd2 ds))) ∧ (true = true → ∀ ds, Good zs ds → prd2 ds ≤ 64 → ok ≠ false)) (some 34) 16 #[v, vy] rfl rfl (wanted_0 rfl) (fun w => run_ev (by simp [execOp, go_sem, evT_tmp, evT_func, put_some]) (by simp [execOp, go_sem, evT_tmp, evT_func, put_some, call_events Tryd.func16 (by kernel_rfl) rfl])) (by kernel_rfl) (fun τ t => ?_) (fun _ _ _ _ _ _ h => h) ?_
  · exact (top_shaped_any2 _ _ _ zs ys (IsZ.tp (IsZ.blw hZ B2) τ t) (IsU.tp (IsU.blw hY B2) τ t)).mono fun e w1 ⟨a, ok, h1, h2, h4, h3⟩ => ⟨_, h1, ⟨a, ok, rfl, h2, fun _ => h4⟩, h3⟩
  rintro u p3 ⟨a2, ok2, rfl, hA2, hA2n⟩ b3
  refine leads_mv (some 31) rfl rfl rfl (.inl rfl) ?_
  refine leads_extr (some 35) (a2) rfl rfl rfl rfl (by simp [evT_tmp, put_some]; rfl) rfl ?_
  refine leads_extr (some 36) (.bool ok2) rfl rfl rfl rfl (by simp [evT_tmp, put_some]; rfl) rfl ?_
  refine leads_mv (some 13) rfl rfl rfl (.inr rfl) ?_
  refine leads_mv (some 14) rfl rfl rfl (.inr rfl) ?_
  refine leads_regionEnd ?_
  have B3 := B2.trans b3
  refine leads_seq ?_
  refine leads_region [0, 1, 2, 3, 4, 5, 6, 7] rfl ?_
  refine leads_mv (some 38) rfl rfl rfl (.inl rfl) ?_
  refine leads_mv (some 39) rfl rfl rfl (.inl rfl) ?_
  refine leads_fn tAll (fun u W => ∃ l er, u = .tuple #[l, .int .i64 er] ∧ (er = 0 → ∀ ds, Good zs ds → prd2 ds ≤ 64 → ∃ m : Nat, c1 = (m : Int) ∧ 1 ≤ m ∧ IsP 3 W l (pls ds m ds.length))) (some 40) 17 #[v, .int .i64 c1] rfl rfl (wanted_0 rfl) (fun w => run_ev (by simp [execOp, go_sem, evT_tmp, evT_func, put_some]) (by simp [execOp, go_sem, evT_tmp, evT_func, put_some, call_events Tryd.func17 (by kernel_rfl) rfl])) (by kernel_rfl) (fun τ t => ?_) (fun _ _ _ _ _ _ h => h) ?_
  · exact (plan_Make_tot _ _ zs c1 (IsZ.tp (IsZ.blw hZ B3) τ t) hc1).mono fun e w1 ⟨l, er, h1, h2, h3⟩ => ⟨_, h1, ⟨l, er, rfl, h2⟩, h3⟩
  rintro u p4 ⟨l, e1, rfl, hL⟩ b4
  refine leads_mv (some 37) rfl rfl rfl (.inl rfl) ?_
  refine leads_extr (some 41) (l) rfl rfl rfl rfl (by simp [evT_tmp, put_some]; rfl) rfl ?_
  refine leads_extr (some 42) (.int .i64 e1) rfl rfl rfl rfl (by simp [evT_tmp, put_some]; rfl) rfl ?_
  refine leads_mv (some 15) rfl rfl rfl (.inr rfl) ?_
  refine leads_mv (some 16) rfl rfl rfl (.inr rfl) ?_
  refine leads_regionEnd ?_
  have B4 := B3.trans b4
  refine leads_seq ?_
  refine leads_seq ?_
  cases ok with
  | false =>
    refine leads_region [0, 1, 2, 3, 4, 5] rfl ?_
    refine leads_mv (some 43) rfl rfl rfl (.inl rfl) ?_
    refine leads_pure (some 44) (.bool true) rfl rfl rfl (fun w => run_ev (by simp [execOp, go_sem, evT_tmp, put_some]) (by simp [execOp, go_sem, evT_tmp, put_some])) ?_
    refine leads_mv (some 45) rfl rfl rfl (.inl rfl) ?_
    refine leads_no (some 46) 2 45 false rfl rfl rfl rfl rfl (by omega) (by simp [evT_tmp, put_some]) ?_
    refine leads_no (some 47) 2 45 false rfl rfl rfl rfl rfl (by omega) (by simp [evT_tmp, put_some]) ?_
    refine leads_pure (some 48) (.bool true) rfl rfl rfl (fun w => pick_run true (by simp [evT_tmp, put_some]) (by simp [evT_const])) ?_
    refine leads_regionEnd ?_
    refine leads_cond true (by simp [evT_tmp, put_some]) ?_
    refine leads_seq ?_
    refine leads_region [0] rfl ?_
    refine leads_mv (some 10) rfl rfl rfl (.inr rfl) ?_
    refine leads_regionEnd ?_
    refine leads_retD ?_
    refine leads_true Tryd.func6 (by kernel_rfl) (fun w es => ?_) B4
    rw [res1 (j := 10) rfl]
    show (Result.ok (evT (arr 110 _) (.tmp 10)) w, es) = _
    simp [evT_tmp, put_some, evT_const]
  | true =>
    by_cases he1 : e1 = 0
    case neg =>
      refine leads_region [0, 1, 2, 3, 4, 5] rfl ?_
      refine leads_mv (some 43) rfl rfl rfl (.inl rfl) ?_
      refine leads_pure (some 44) (.bool false) rfl rfl rfl (fun w => run_ev (by simp [execOp, go_sem, evT_tmp, put_some]) (by simp [execOp, go_sem, evT_tmp, put_some])) ?_
      refine leads_mv (some 45) rfl rfl rfl (.inl rfl) ?_
      refine leads_yes (some 46) (.int .i64 e1) 2 45 false rfl rfl rfl rfl rfl (by omega) (by simp [evT_tmp, put_some]) (fun w => run_ev (by simp [execOp, evT_tmp, put_some]) (by simp [execOp])) ?_
      refine leads_yes (some 47) (.bool true) 2 45 false rfl rfl rfl rfl rfl (by omega) (by simp [evT_tmp, put_some]) (fun w => neE_run (e := e1) (f := 0) true (by simp [he1]) (by simp [evT_tmp, put_some]) (by simp [evT_const])) ?_
      refine leads_pure (some 48) (.bool true) rfl rfl rfl (fun w => pick_run false (by simp [evT_tmp, put_some]) (by simp [evT_tmp, put_some])) ?_
      refine leads_regionEnd ?_
      refine leads_cond true (by simp [evT_tmp, put_some]) ?_
      refine leads_seq ?_
      refine leads_region [0] rfl ?_
      refine leads_mv (some 10) rfl rfl rfl (.inr rfl) ?_
      refine leads_regionEnd ?_
      refine leads_retD ?_
      refine leads_true Tryd.func6 (by kernel_rfl) (fun w es => ?_) B4
      rw [res1 (j := 10) rfl]
      show (Result.ok (evT (arr 110 _) (.tmp 10)) w, es) = _
      simp [evT_tmp, put_some, evT_const]
    subst he1
    refine leads_region [0, 1, 2, 3, 4, 5] rfl ?_
    refine leads_mv (some 43) rfl rfl rfl (.inl rfl) ?_
    refine leads_pure (some 44) (.bool false) rfl rfl rfl (fun w => run_ev (by simp [execOp, go_sem, evT_tmp, put_some]) (by simp [execOp, go_sem, evT_tmp, put_some])) ?_
    refine leads_mv (some 45) rfl rfl rfl (.inl rfl) ?_
    refine leads_yes (some 46) (.int .i64 0) 2 45 false rfl rfl rfl rfl rfl (by omega) (by simp [evT_tmp, put_some]) (fun w => run_ev (by simp [execOp, evT_tmp, put_some]) (by simp [execOp])) ?_
    refine leads_yes (some 47) (.bool false) 2 45 false rfl rfl rfl rfl rfl (by omega) (by simp [evT_tmp, put_some]) (fun w => neE_run (e := 0) (f := 0) false (by simp) (by simp [evT_tmp, put_some]) (by simp [evT_const])) ?_
    refine leads_pure (some 48) (.bool false) rfl rfl rfl (fun w => pick_run false (by simp [evT_tmp, put_some]) (by simp [evT_tmp, put_some])) ?_
    refine leads_regionEnd ?_
    refine leads_cond false (by simp [evT_tmp, put_some]) ?_
    refine leads_skip ?_
    obtain ⟨ds, g, hG, hds, rfl, hU⟩ := hA rfl
    obtain ⟨g2, ok2e, hU2⟩ : ∃ g2, a2 = .slice (some ⟨g2, 0, none⟩) (prd2 ds) (prd2 ds) ∧ IsU p3 a2 (szd ys (prd2 ds)) := by
      cases ok2 with
      | false => exact absurd rfl (hA2n (by rfl) ds hG hds)
      | true =>
        obtain ⟨ds', g', hG', _, e, h⟩ := hA2 rfl
        rw [Good_one hG hG'] at e h
        exact ⟨g', e, h⟩
    subst ok2e
    obtain ⟨m1, rfl, hm1, hP1⟩ := hL rfl ds hG hds
    obtain ⟨k1, hk1, cR1⟩ := rest8 wk
    refine leads_seq ?_
    refine leads_region [0, 1, 2, 3] rfl ?_
    refine leads_mv (some 49) rfl rfl rfl (.inl rfl) ?_
    refine leads_fn tAll (fun u _ => u = .int .i64 (k1 : Int)) (some 50) 18 #[.int .i64 wk, .int .i64 8] rfl rfl (wanted_0 rfl) (fun w => run_ev (by simp [execOp, go_sem, evT_tmp, evT_func, evT_const, put_some]) (by simp [execOp, go_sem, evT_tmp, evT_func, evT_const, put_some, call_events Tryd.func18 (by kernel_rfl) rfl])) (by kernel_rfl) (fun τ t => ?_) (fun _ _ _ _ _ _ h => h) ?_
    · exact (cR1 _).mono fun e w1 h => ⟨_, h.1, rfl, by rw [h.2]; exact Below.refl _ _⟩
    rintro u p5 rfl b5
    refine leads_pure (some 51) (.int .i64 ((k1 + 1 : Nat) : Int)) rfl rfl rfl (fun w => addk_run (k := k1) (by omega) (by simp [evT_const]) (by simp [evT_tmp, put_some])) ?_
    refine leads_mv (some 17) rfl rfl rfl (.inr rfl) ?_
    refine leads_regionEnd ?_
    have B5 := B4.trans b5
    refine leads_seq ?_
    refine leads_region [0, 1, 2, 3, 4, 5, 6, 7, 8, 9] rfl ?_
    refine leads_mv (some 53) rfl rfl rfl (.inl rfl) ?_
    refine leads_mv (some 54) rfl rfl rfl (.inl rfl) ?_
    refine leads_mv (some 55) rfl rfl rfl (.inl rfl) ?_
    refine leads_mv (some 56) rfl rfl rfl (.inl rfl) ?_
    refine leads_enterD 13 #[v, .slice (some ⟨g, 0, none⟩) (prd2 ds) (prd2 ds), l, .int .i64 ((k1 + 1 : Nat) : Int), .bool false] rfl rfl (fun w => run_ev (by simp [execOp, go_sem, evT_tmp, evT_func, evT_const, put_some]) (by simp [execOp, go_sem, evT_tmp, evT_func, evT_const, put_some, call_events Tryd.func13 (by kernel_rfl) rfl])) ?_
    refine Leads.then (together_right (n := k1 + 1) (back := false) tAll (by kernel_rfl) (by kernel_rfl) (IsZ.blw hZ B5) (IsU.blw hU ((b3.trans b4).trans b5)) (IsP.blw hP1 b5) hG (by omega) (pls_fine ds m1 hm1) (pls_notbig (few_small hG.2.2.2 hds m1)) (szd_length _ _) (by omega) (by omega) (by kernel_rfl) (hT.blw B5)) ?_
    rintro a' p6 ⟨gp, rfl, b6, _, hgp, hrp⟩
    rw [finish_arr _ _ _ _ _ _ _ _ _ _ rfl]
    refine leads_mv (some 52) rfl rfl rfl (.inl rfl) ?_
    refine leads_extr (some 58) (.slice (some ⟨gp, 0, none⟩) (prd2 ds) (prd2 ds)) rfl rfl rfl rfl (by simp [evT_tmp, put_some]; rfl) rfl ?_
    refine leads_extr (some 59) (.int .i64 0) rfl rfl rfl rfl (by simp [evT_tmp, put_some]; rfl) rfl ?_
    refine leads_mv (some 18) rfl rfl rfl (.inr rfl) ?_
    refine leads_mv (some 16) rfl rfl rfl (.inr rfl) ?_
    refine leads_regionEnd ?_
    have B6 := B5.trans b6
    refine leads_seq ?_
    refine leads_region [0, 1, 2, 3, 4, 5, 6, 7, 8, 9] rfl ?_
    refine leads_mv (some 61) rfl rfl rfl (.inl rfl) ?_
    refine leads_mv (some 62) rfl rfl rfl (.inl rfl) ?_
    refine leads_mv (some 63) rfl rfl rfl (.inl rfl) ?_
    refine leads_mv (some 64) rfl rfl rfl (.inl rfl) ?_
    refine leads_enterD 13 #[v, .slice (some ⟨g2, 0, none⟩) (prd2 ds) (prd2 ds), l, .int .i64 ((k1 + 1 : Nat) : Int), .bool false] rfl rfl (fun w => run_ev (by simp [execOp, go_sem, evT_tmp, evT_func, evT_const, put_some]) (by simp [execOp, go_sem, evT_tmp, evT_func, evT_const, put_some, call_events Tryd.func13 (by kernel_rfl) rfl])) ?_
    refine Leads.then (together_right (n := k1 + 1) (back := false) tAll (by kernel_rfl) (by kernel_rfl) (IsZ.blw hZ B6) (IsU.blw hU2 ((b4.trans b5).trans b6)) (IsP.blw hP1 (b5.trans b6)) hG (by omega) (pls_fine ds m1 hm1) (pls_notbig (few_small hG.2.2.2 hds m1)) (szd_length _ _) (by omega) (by omega) (by kernel_rfl) (hT.blw B6)) ?_
    rintro a' p7 ⟨gq, rfl, b7, _, hgq, hrq⟩
    rw [finish_arr _ _ _ _ _ _ _ _ _ _ rfl]
    refine leads_mv (some 60) rfl rfl rfl (.inl rfl) ?_
    refine leads_extr (some 66) (.slice (some ⟨gq, 0, none⟩) (prd2 ds) (prd2 ds)) rfl rfl rfl rfl (by simp [evT_tmp, put_some]; rfl) rfl ?_
    refine leads_extr (some 67) (.int .i64 0) rfl rfl rfl rfl (by simp [evT_tmp, put_some]; rfl) rfl ?_
    refine leads_mv (some 19) rfl rfl rfl (.inr rfl) ?_
    refine leads_mv (some 20) rfl rfl rfl (.inr rfl) ?_
    refine leads_regionEnd ?_
    have B7 := B6.trans b7
    refine leads_seq ?_
    refine leads_seq ?_
    refine leads_region [0, 1, 2, 3, 4, 5] rfl ?_
    refine leads_mv (some 68) rfl rfl rfl (.inl rfl) ?_
    refine leads_pure (some 69) (.bool false) rfl rfl rfl (fun w => neE_run (e := 0) (f := 0) false (by simp) (by simp [evT_tmp, put_some]) (by simp [evT_const])) ?_
    refine leads_mv (some 70) rfl rfl rfl (.inl rfl) ?_
    refine leads_yes (some 71) (.int .i64 0) 2 70 false rfl rfl rfl rfl rfl (by omega) (by simp [evT_tmp, put_some]) (fun w => run_ev (by simp [execOp, evT_tmp, put_some]) (by simp [execOp])) ?_
    refine leads_yes (some 72) (.bool false) 2 70 false rfl rfl rfl rfl rfl (by omega) (by simp [evT_tmp, put_some]) (fun w => neE_run (e := 0) (f := 0) false (by simp) (by simp [evT_tmp, put_some]) (by simp [evT_const])) ?_
    refine leads_pure (some 73) (.bool false) rfl rfl rfl (fun w => pick_run false (by simp [evT_tmp, put_some]) (by simp [evT_tmp, put_some])) ?_
    refine leads_regionEnd ?_
    refine leads_cond false (by simp [evT_tmp, put_some]) ?_
    refine leads_skip ?_
    refine leads_seq ?_
    have hlt := hrp.lt
    have hne : gq ≠ gp := by omega
    refine leads_mid (f := Tryd.f6) tAll (fun s W => s 0 = v ∧ s 11 = .slice (some ⟨g, 0, none⟩) (prd2 ds) (prd2 ds) ∧ s 13 = .slice (some ⟨g2, 0, none⟩) (prd2 ds) (prd2 ds) ∧ s 15 = l ∧ s 17 = .int .i64 ((k1 + 1 : Nat) : Int) ∧ s 18 = .slice (some ⟨gp, 0, none⟩) (prd2 ds) (prd2 ds) ∧ RowU W gp (muK (mk (prd2 ds) (who ds false (cf (szd xs (prd2 ds))) ds.length)) (mk (prd2 ds) (who ds false (cf (szd ys (prd2 ds))) ds.length)) (prd2 ds)) ∧ Blw p5 W) #[v, vx, vy, .int .i64 (m1 : Int), .int .i64 wk, undef, undef, undef, undef, undef, .bool false, .slice (some ⟨g, 0, none⟩) (prd2 ds) (prd2 ds), .bool true, .slice (some ⟨g2, 0, none⟩) (prd2 ds) (prd2 ds), .bool ok2, l, .int .i64 0, .int .i64 ((k1 + 1 : Nat) : Int), .slice (some ⟨gp, 0, none⟩) (prd2 ds) (prd2 ds), .slice (some ⟨gq, 0, none⟩) (prd2 ds) (prd2 ds), .int .i64 0, undef, undef, .bool true, .bool false, .tuple #[.slice (some ⟨g, 0, none⟩) (prd2 ds) (prd2 ds), .bool true], v, vx, .tuple #[.slice (some ⟨g, 0, none⟩) (prd2 ds) (prd2 ds), .bool true], .slice (some ⟨g, 0, none⟩) (prd2 ds) (prd2 ds), .bool true, .tuple #[.slice (some ⟨g2, 0, none⟩) (prd2 ds) (prd2 ds), .bool ok2], v, vy, .tuple #[.slice (some ⟨g2, 0, none⟩) (prd2 ds) (prd2 ds), .bool ok2], .slice (some ⟨g2, 0, none⟩) (prd2 ds) (prd2 ds), .bool ok2, .tuple #[l, .int .i64 0], v, .int .i64 (m1 : Int), .tuple #[l, .int .i64 0], l, .int .i64 0, .bool true, .bool false, .bool false, .int .i64 0, .bool false, .bool false, .int .i64 wk, .int .i64 (k1 : Int), .int .i64 ((k1 + 1 : Nat) : Int), .tuple #[.slice (some ⟨gp, 0, none⟩) (prd2 ds) (prd2 ds), .int .i64 0], v, .slice (some ⟨g, 0, none⟩) (prd2 ds) (prd2 ds), l, .int .i64 ((k1 + 1 : Nat) : Int), .tuple #[.slice (some ⟨gp, 0, none⟩) (prd2 ds) (prd2 ds), .int .i64 0], .slice (some ⟨gp, 0, none⟩) (prd2 ds) (prd2 ds), .int .i64 0, .tuple #[.slice (some ⟨gq, 0, none⟩) (prd2 ds) (prd2 ds), .int .i64 0], v, .slice (some ⟨g2, 0, none⟩) (prd2 ds) (prd2 ds), l, .int .i64 ((k1 + 1 : Nat) : Int), .tuple #[.slice (some ⟨gq, 0, none⟩) (prd2 ds) (prd2 ds), .int .i64 0], .slice (some ⟨gq, 0, none⟩) (prd2 ds) (prd2 ds), .int .i64 0, .int .i64 0, .bool false, .bool false, .int .i64 0, .bool false, .bool false, undef, undef, undef, undef, undef, undef, undef, undef, undef, undef, undef, undef, undef, undef, undef, undef, undef, undef, undef, undef, undef, undef, undef, undef, undef, undef, undef, undef, undef, undef, undef, undef, undef, undef, undef, undef] (by kernel_rfl) Tryd.func6 (by kernel_rfl) (by kernel_rfl) (fun τ d => ?_) (fun s W τ d τ' d' h => ⟨h.1, h.2.1, h.2.2.1, h.2.2.2.1, h.2.2.2.2.1, h.2.2.2.2.2.1, h.2.2.2.2.2.2.1, ⟨h.2.2.2.2.2.2.2.os, h.2.2.2.2.2.2.2.output, h.2.2.2.2.2.2.2.size, h.2.2.2.2.2.2.2.block⟩⟩) ?_
    · have b57 := b6.trans b7
      refine Code.wp_mono (fun e a W h => ?_) (topRound_loop (tp p5 τ d) (tp p7 τ d) v vx vy l ok2 wk m1 k1 g g2 gp gq (prd2 ds) _ _ ⟨b57.os, rfl, b57.output, b57.size, b57.block⟩ hgp ((b7.block _ hlt).trans hrp) hrq hne (mk_length _ _) (mk_length _ _) (mk_lt _ _) (mk_lt _ _) (by omega))
      cases e with
      | normal =>
        obtain ⟨h2, h3, h4⟩ := h
        exact ⟨h2, h3.1, h3.2.1, h3.2.2.1, h3.2.2.2.1, h3.2.2.2.2.1, h3.2.2.2.2.2, h4.1, ⟨h4.2.os, h4.2.output, h4.2.size, h4.2.block⟩⟩
      | _ => exact h.elim
    rintro σ p8 ⟨hs0, hs11, hs13, hs15, hs17, hs18, hrow, b8⟩
    have B8 := B5.trans b8
    have hlM : (muK (mk (prd2 ds) (who ds false (cf (szd xs (prd2 ds))) ds.length)) (mk (prd2 ds) (who ds false (cf (szd ys (prd2 ds))) ds.length)) (prd2 ds)).length = prd2 ds := by rw [muK_length, mk_length]
    have hUm := hrow.isUN (Rng_of_P (muK_P _ _ _ (mk_lt _ _))) (by rw [hlM]; omega) hlM
    refine leads_seq ?_
    refine leads_region [0, 1, 2, 3, 4, 5, 6, 7, 8, 9] rfl ?_
    refine leads_mv (some 93) rfl rfl rfl (.inl rfl) ?_
    refine leads_mv (some 94) rfl rfl rfl (.inl rfl) ?_
    refine leads_mv (some 95) rfl rfl rfl (.inl rfl) ?_
    refine leads_mv (some 96) rfl rfl rfl (.inl rfl) ?_
    refine leads_enterD 13 #[v, .slice (some ⟨gp, 0, none⟩) (prd2 ds) (prd2 ds), l, .int .i64 ((k1 + 1 : Nat) : Int), .bool true] rfl rfl (fun w => run_ev (by simp [execOp, go_sem, evT_tmp, evT_func, evT_const, put_some, hs0, hs15, hs17, hs18]) (by simp [execOp, go_sem, evT_tmp, evT_func, evT_const, put_some, hs0, hs15, hs17, hs18, call_events Tryd.func13 (by kernel_rfl) rfl])) ?_
    refine Leads.then (together_right (n := k1 + 1) (back := true) tAll (by kernel_rfl) (by kernel_rfl) (IsZ.blw hZ B8) hUm (IsP.blw hP1 (b5.trans b8)) hG (by omega) (pls_fine ds m1 hm1) (pls_notbig (few_small hG.2.2.2 hds m1)) hlM (by omega) (by omega) (by kernel_rfl) (hT.blw B8)) ?_
    rintro a' p9 ⟨gc, rfl, b9, hUc, _, _⟩
    rw [finish_arr _ _ _ _ _ _ _ _ _ _ rfl]
    refine leads_mv (some 92) rfl rfl rfl (.inl rfl) ?_
    refine leads_extr (some 98) (.slice (some ⟨gc, 0, none⟩) (prd2 ds) (prd2 ds)) rfl rfl rfl rfl (by simp [evT_tmp, put_some]; rfl) rfl ?_
    refine leads_extr (some 99) (.int .i64 0) rfl rfl rfl rfl (by simp [evT_tmp, put_some]; rfl) rfl ?_
    refine leads_mv (some 22) rfl rfl rfl (.inr rfl) ?_
    refine leads_mv (some 16) rfl rfl rfl (.inr rfl) ?_
    refine leads_regionEnd ?_
    have B9 := B8.trans b9
    rw [roundback hG.2.2.2 (by omega)] at hUc
    refine leads_seq ?_
    refine leads_region [0, 1, 2, 3, 4, 5, 6, 7, 8, 9, 10] rfl ?_
    refine leads_mv (some 100) rfl rfl rfl (.inl rfl) ?_
    refine leads_pure (some 101) (.bool true) rfl rfl rfl (fun w => eqE_run (e := 0) (f := 0) true (by simp) (by simp [evT_tmp, put_some]) (by simp [evT_const])) ?_
    refine leads_mv (some 102) rfl rfl rfl (.inl rfl) ?_
    refine leads_yes (some 103) (.slice (some ⟨gc, 0, none⟩) (prd2 ds) (prd2 ds)) 2 102 true rfl rfl rfl rfl rfl (by omega) (by simp [evT_tmp, put_some]) (fun w => run_ev (by simp [execOp, evT_tmp, put_some]) (by simp [execOp])) ?_
    refine leads_yes (some 104) (v) 2 102 true rfl rfl rfl rfl rfl (by omega) (by simp [evT_tmp, put_some]) (fun w => run_ev (by simp [execOp, evT_tmp, put_some, hs0]) (by simp [execOp])) ?_
    refine leads_yes (some 105) (.slice (some ⟨g, 0, none⟩) (prd2 ds) (prd2 ds)) 2 102 true rfl rfl rfl rfl rfl (by omega) (by simp [evT_tmp, put_some]) (fun w => run_ev (by simp [execOp, evT_tmp, put_some, hs11]) (by simp [execOp])) ?_
    refine leads_yes (some 106) (.slice (some ⟨g2, 0, none⟩) (prd2 ds) (prd2 ds)) 2 102 true rfl rfl rfl rfl rfl (by omega) (by simp [evT_tmp, put_some]) (fun w => run_ev (by simp [execOp, evT_tmp, put_some, hs13]) (by simp [execOp])) ?_
    refine leads_fn tAll (fun u W => IsU W u (mk (prd2 ds) (cyD ds (cf (szd xs (prd2 ds))) (cf (szd ys (prd2 ds)))))) (some 107) 23 #[v, .slice (some ⟨g, 0, none⟩) (prd2 ds) (prd2 ds), .slice (some ⟨g2, 0, none⟩) (prd2 ds) (prd2 ds)] rfl rfl (wanted_b (b := true) (c := true) rfl rfl rfl (by omega) (by simp [evT_tmp, put_some])) (fun w => run_ev (by simp [execOp, go_sem, evT_tmp, evT_func, put_some]) (by simp [execOp, go_sem, evT_tmp, evT_func, put_some, call_events Tryd.func23 (by kernel_rfl) rfl])) (by kernel_rfl) (fun τ t => ?_) (fun _ _ _ _ _ _ h => h) ?_
    · exact (ref_Wrapped _ _ _ _ zs ds _ _ (IsZ.tp (IsZ.blw hZ B9) τ t) (IsU.tp (IsU.blw hU ((((b3.trans b4).trans b5).trans b8).trans b9)) τ t) (IsU.tp (IsU.blw hU2 (((b4.trans b5).trans b8).trans b9)) τ t) hG (by omega) (szd_length _ _) (szd_length _ _)).mono fun e w1 h => h
    rintro wv p10 hWv b10
    refine leads_fn tAll (fun u _ => u = .bool true) (some 108) 14 #[.slice (some ⟨gc, 0, none⟩) (prd2 ds) (prd2 ds), wv] rfl rfl (wanted_b (b := true) (c := true) rfl rfl rfl (by omega) (by simp [evT_tmp, put_some])) (fun w => run_ev (by simp [execOp, go_sem, evT_tmp, evT_func, put_some]) (by simp [execOp, go_sem, evT_tmp, evT_func, put_some, call_events Tryd.func14 (by kernel_rfl) rfl])) (by kernel_rfl) (fun τ t => ?_) (fun _ _ _ _ _ _ h => h) ?_
    · exact (slices_Equal _ _ _ _ (IsU.tp (IsU.blw hUc b10) τ t) (IsU.tp hWv τ t)).mono fun e w1 h => ⟨_, h.1, rfl, h.2⟩
    rintro u p11 rfl b11
    refine leads_pure (some 109) (.bool true) rfl rfl rfl (fun w => pick_run true (by simp [evT_tmp, put_some]) (by simp [evT_tmp, put_some])) ?_
    refine leads_mv (some 10) rfl rfl rfl (.inr rfl) ?_
    refine leads_regionEnd ?_
    refine leads_retD ?_
    refine leads_true Tryd.func6 (by kernel_rfl) (fun w es => ?_) ((B9.trans b10).trans b11)
    rw [res1 (j := 10) rfl]
    show (Result.ok (evT (arr 110 _) (.tmp 10)) w, es) = _
    simp [evT_tmp, put_some]
end Go.Proofs.YtckoipoejaafhaaDoor.Cc
namespace Go.Proofs.YtckoipoejaafhaaDoor
open Go Go.Conc Go.RowKit
theorem topRound_walk (w : World) (v : Value) (zs : List Int) (hZ : IsZ w v zs) (vx : Value) (xs : List Nat) (hX : IsU w vx xs) (vy : Value) (ys : List Nat) (hY : IsU w vy ys) (c1 : Int) (hc1 : (Lit.int .i64 c1).wf = true) (wk : Int) (_hwk : (Lit.int .i64 wk).wf = true) (hsh : w.ShapedOpen Tryd.prog) (hTb : Tab w) :
    Cc.GoodRun Tryd.prog 6 #[v, vx, vy, .int .i64 c1, .int .i64 wk] w :=
  Cc.good_run hsh (Cc.topRound_leads hZ hX hY (bounds_i64 hc1) (Cc.tbs_of hsh hTb))
end Go.Proofs.YtckoipoejaafhaaDoor
