/-
  Texts that stood one behind the other, as one.
-/
import Derived.Test.YtckoipoejaafhaaDoorRows
import Derived.Test.YtckoipoejaafhaaDoorSlAll
import Derived.BigQuiet
import Derived.Test.YtckoipoejaafhaaDoorCeSAll
import Derived.Test.YtckoipoejaafhaaDoorCcWtAll
import Derived.Test.YtckoipoejaafhaaDoorRefIAll
/-! What slices.Equal answers of two slices of numbers that read as one list: true; nothing that was there is written. -/
namespace Go.Proofs.YtckoipoejaafhaaDoor
open Go.RowKit
set_option maxRecDepth 100000

set_option maxHeartbeats 1000000 in
theorem slices_Equal (w : World) (v v' : Value) (xs : List Nat) (h : IsU w v xs) (h' : IsU w v' xs) :
    Calls Tryd.prog 14 #[v, v'] w fun e w' => e = .returned (.bool true) ∧ Below w.heap.size w w' := by
  obtain ⟨a, cap, rfl, hcap, hmax, hc, hr⟩ := h
  obtain ⟨a', cap', rfl, hcap', hmax', hc', _⟩ := h'
  have hlen : (xs.length : Int) ≤ 9223372036854775807 := by unfold maxLen at hmax; omega
  clear hr hmax' hmax hcap hcap'
  generalize hn : xs.length = n at *
  clear hn
  go_enter Tryd.func14, Tryd.ntmps14
  go_wp2
  go_loopw [13] (fun vi wr => ∃ k : Nat, k ≤ n ∧ vi = .int .i64 (k : Int) ∧ Below w.heap.size w wr)
    (fun vi _ => n - (intOf vi).toNat)
  case atStart => exact ⟨0, Nat.zero_le _, rfl, Below.refl _ _⟩
  case round =>
    obtain ⟨k, hk, rfl, hnx⟩ := hrel
    by_cases hlt : k < n
    · obtain ⟨b, off, rfl, hcell0⟩ := hc k hlt
      have hcell := (hnx.cell (block_lt hcell0)).trans hcell0
      obtain ⟨b', off', rfl, hcell0'⟩ := hc' k hlt
      have hcell' := (hnx.cell (block_lt hcell0')).trans hcell0'
      clear hcell0 hcell0' hc hc'
      generalize xs.getD k 0 = x at *
      go_wp2
      go_quiet (fail)
      go_wp2
      go_roundw
      case rel => exact ⟨k + 1, by omega, by go_num, below_drewN hnx _⟩
      case measure => simp only [intOf]; omega
    · have e : k = n := by omega
      subst e
      clear hc hc'
      go_wp2
      go_ret
      exact ⟨rfl, hnx⟩

end Go.Proofs.YtckoipoejaafhaaDoor

/-! The law ExecTogether, beside leavers: whatever is handed in, it returns true. -/
namespace Go.Proofs.YtckoipoejaafhaaDoor.Cc
open Go Go.Conc Go.RowKit

noncomputable def etB : Code := Tryd.f3.body.getD .skip
noncomputable def et4 : Code := sq2 (sq2 (sq2 etB))
noncomputable def et5 : Code := sq2 et4
noncomputable def et7 : Code := sq2 et5
noncomputable def et9 : Code := sq2 et7
noncomputable def et10 : Code := sq2 et9
noncomputable def et12 : Code := sq2 et10
/-- What is handed in, in its slots. -/
structure Et (v va vl : Value) (wk : Int) (back : Bool) (σ : Nat → Value) : Prop where
  s0 : σ 0 = v
  s1 : σ 1 = va
  s2 : σ 2 = vl
  s3 : σ 3 = .int .i64 wk
  s4 : σ 4 = .bool back
section
variable {W pw : World} {v va vl want : Value} {wk er : Int} {back : Bool} {σ : Nat → Value}
set_option maxRecDepth 100000 in
set_option maxHeartbeats 4000000 in
/-- Together is called; what it tells is compared. -/
theorem et_tail (hb : Blw W pw) (hS : Et v va vl wk back σ) (h13 : σ 13 = .int .i64 er) (h14 : σ 14 = want)
    (hTg : ∀ c0 cs, Leads Tryd.prog W.heap.size (G (Frame.enter Tryd.prog 13 #[v, va, vl, .int .i64 wk, .bool back] .normal) (c0 :: cs)) pw fun a' pw' => ∃ x ys, a' = G (c0.finish (.tuple #[x, .int .i64 er])) cs ∧ Blw pw pw' ∧ IsU pw' x ys ∧ IsU pw' want ys) :
    Leads Tryd.prog W.heap.size (G (fd false 3 65 [] σ [.code et12]) []) pw (EndT Tryd.prog W W.heap.size) := by
  refine leads_seq ?_
  refine leads_region [0, 1, 2, 3, 4, 5, 6, 7, 8, 9, 10] rfl ?_
  refine leads_mv (some 49) rfl rfl rfl (.inl rfl) ?_
  refine leads_mv (some 50) rfl rfl rfl (.inl rfl) ?_
  refine leads_mv (some 51) rfl rfl rfl (.inl rfl) ?_
  refine leads_mv (some 52) rfl rfl rfl (.inl rfl) ?_
  refine leads_mv (some 53) rfl rfl rfl (.inl rfl) ?_
  refine leads_enterD 13 #[v, va, vl, .int .i64 wk, .bool back] rfl rfl (fun w => run_ev (by simp [execOp, go_sem, evT_tmp, evT_func, put_some, hS.s0, hS.s1, hS.s2, hS.s3, hS.s4]) (by simp [execOp, go_sem, evT_tmp, evT_func, put_some, hS.s0, hS.s1, hS.s2, hS.s3, hS.s4, call_events Tryd.func13 (by kernel_rfl) rfl])) ?_
  refine Leads.then (hTg _ _) ?_
  rintro a' p1 ⟨x, ys, rfl, hb1, hx, hw⟩
  rw [finish_arr _ _ _ _ _ _ _ _ _ _ rfl]
  refine leads_mv (some 48) rfl rfl rfl (.inl rfl) ?_
  refine leads_extr (some 55) x rfl rfl rfl rfl (by simp [evT_tmp, put_some]; rfl) rfl ?_
  refine leads_extr (some 56) (.int .i64 er) rfl rfl rfl rfl (by simp [evT_tmp, put_some]; rfl) rfl ?_
  refine leads_mv (some 15) rfl rfl rfl (.inr rfl) ?_
  refine leads_mv (some 16) rfl rfl rfl (.inr rfl) ?_
  refine leads_regionEnd ?_
  refine leads_seq ?_
  refine leads_region [0, 1, 2, 3, 4, 5, 6, 7, 8] rfl ?_
  refine leads_mv (some 57) rfl rfl rfl (.inl rfl) ?_
  refine leads_mv (some 58) rfl rfl rfl (.inl rfl) ?_
  refine leads_fn mAll (fun v _ => v = .bool true) (some 59) 14 #[x, want] rfl rfl (wanted_0 rfl) (fun w => run_ev (by simp [execOp, go_sem, evT_tmp, evT_func, put_some, h14]) (by simp [execOp, go_sem, evT_tmp, evT_func, put_some, h14, call_events Tryd.func14 (by kernel_rfl) rfl])) (by kernel_rfl) (fun τ t => ?_) (fun _ _ _ _ _ _ h => h) ?_
  · exact (slices_Equal _ _ _ ys (IsU.tp hx τ t) (IsU.tp hw τ t)).mono fun e w1 h => ⟨_, h.1, rfl, h.2⟩
  rintro v2 p2 rfl hb2
  refine leads_mv (some 60) rfl rfl rfl (.inl rfl) ?_
  refine leads_yes (some 61) (.int .i64 er) 3 60 true rfl rfl rfl rfl rfl (by omega) (by simp [evT_tmp, put_some]) (fun w => run_ev (by simp [execOp, evT_tmp, put_some]) (by simp [execOp])) ?_
  refine leads_yes (some 62) (.int .i64 er) 3 60 true rfl rfl rfl rfl rfl (by omega) (by simp [evT_tmp, put_some]) (fun w => run_ev (by simp [execOp, evT_tmp, put_some, h13]) (by simp [execOp])) ?_
  refine leads_yes (some 63) (.bool true) 3 60 true rfl rfl rfl rfl rfl (by omega) (by simp [evT_tmp, put_some]) (fun w => eqE_run (e := er) (f := er) true (by simp) (by simp [evT_tmp, put_some]) (by simp [evT_tmp, put_some])) ?_
  refine leads_pure (some 64) (.bool true) rfl rfl rfl (fun w => pick_run true (by simp [evT_tmp, put_some]) (by simp [evT_tmp, put_some])) ?_
  refine leads_mv (some 10) rfl rfl rfl (.inr rfl) ?_
  refine leads_regionEnd ?_
  refine leads_retD ?_
  refine leads_true Tryd.func3 (by kernel_rfl) (fun w es => ?_) (hb.trans (hb1.trans hb2))
  rw [res1 (j := 10) rfl]
  show (Result.ok (evT (arr 65 _) (.tmp 10)) w, es) = _
  simp [evT_tmp, put_some]
set_option maxRecDepth 100000 in
set_option maxHeartbeats 4000000 in
/-- An error is asked. -/
theorem et_err (her : (er != 0) = true) (hb : Blw W pw) (hS : Et v va vl wk back σ) (h13 : σ 13 = .int .i64 er)
    (hTg : ∀ c0 cs, Leads Tryd.prog W.heap.size (G (Frame.enter Tryd.prog 13 #[v, va, vl, .int .i64 wk, .bool back] .normal) (c0 :: cs)) pw fun a' pw' => a' = G (c0.finish (.tuple #[.slice none 0 0, .int .i64 er])) cs ∧ Blw pw pw') :
    Leads Tryd.prog W.heap.size (G (fd false 3 65 [] σ [.code et9]) []) pw (EndT Tryd.prog W W.heap.size) := by
  have her' : ¬ er = 0 := by simpa using her
  refine leads_seq ?_
  refine leads_region [0] rfl ?_
  refine leads_mv (some 14) rfl rfl rfl (.inr rfl) ?_
  refine leads_regionEnd ?_
  refine leads_seq ?_
  refine leads_seq ?_
  refine leads_region [0, 1] rfl ?_
  refine leads_mv (some 42) rfl rfl rfl (.inl rfl) ?_
  refine leads_pure (some 43) (.bool false) rfl rfl rfl (fun _ => eqE_run (e := er) (f := 0) false (by simp [her']) (by simp [evT_tmp, put_some, h13]) (by simp [evT_const])) ?_
  refine leads_regionEnd ?_
  refine leads_cond false (by simp [evT_tmp, put_some]) ?_
  refine leads_skip ?_
  refine et_tail (v := v) (va := va) (vl := vl) (wk := wk) (back := back) (want := .slice none 0 0) (er := er) hb ⟨by simp [put_some, hS.s0], by simp [put_some, hS.s1], by simp [put_some, hS.s2], by simp [put_some, hS.s3], by simp [put_some, hS.s4]⟩ (by simp [put_some, h13]) (by simp [put_some, evT_const]) fun c0 cs => ?_
  refine (hTg c0 cs).mono ?_
  rintro a' p1 ⟨h1, h2⟩
  exact ⟨_, [], h1, h2, IsU.nil _, IsU.nil _⟩
set_option maxRecDepth 100000 in
set_option maxHeartbeats 4000000 in
/-- The transform is asked. -/
theorem et_ok {zs : List Int} {ds xs : List Nat} {L : List (List (List Int))} {n : Nat} (hb : Blw W pw) (hS : Et v va vl (n : Int) back σ) (h13 : σ 13 = .int .i64 0) (hZ : IsZ pw v zs) (hA : IsU pw va xs) (hP : IsP 3 pw vl L) (hG : Good zs ds) (hn : prd2 ds ≤ 1024) (hFi : Go.Proofs.YtckoipoejaafhaaDoor.Fine ds L) (hbig : ¬ BigP L L.length) (hl : xs.length = prd2 ds) (hn1 : 1 ≤ n) (hn8 : n ≤ 8) (hm : Tryd.prog.follows .mixedOrders = true) (hT : Tbs W.heap.size pw) :
    Leads Tryd.prog W.heap.size (G (fd false 3 65 [] σ [.code et9]) []) pw (EndT Tryd.prog W W.heap.size) := by
  refine leads_seq ?_
  refine leads_region [0] rfl ?_
  refine leads_mv (some 14) rfl rfl rfl (.inr rfl) ?_
  refine leads_regionEnd ?_
  refine leads_seq ?_
  refine leads_seq ?_
  refine leads_region [0, 1] rfl ?_
  refine leads_mv (some 42) rfl rfl rfl (.inl rfl) ?_
  refine leads_pure (some 43) (.bool true) rfl rfl rfl (fun _ => eqE_run (e := 0) (f := 0) true (by simp) (by simp [evT_tmp, put_some, h13]) (by simp [evT_const])) ?_
  refine leads_regionEnd ?_
  refine leads_cond true (by simp [evT_tmp, put_some]) ?_
  refine leads_region [0, 1, 2, 3, 4] rfl ?_
  refine leads_mv (some 44) rfl rfl rfl (.inl rfl) ?_
  refine leads_mv (some 45) rfl rfl rfl (.inl rfl) ?_
  refine leads_mv (some 46) rfl rfl rfl (.inl rfl) ?_
  refine leads_fn mAll (fun v w => IsU w v (mk (prd2 ds) (who ds back (cf xs) ds.length))) (some 47) 12 #[v, va, .bool back] rfl rfl (wanted_0 rfl) (fun w => run_ev (by simp [execOp, go_sem, evT_tmp, evT_func, put_some, hS.s0, hS.s1, hS.s4]) (by simp [execOp, go_sem, evT_tmp, evT_func, put_some, hS.s0, hS.s1, hS.s4, call_events Tryd.func12 (by kernel_rfl) rfl])) (by kernel_rfl) (fun τ t => ?_) (fun _ _ _ _ _ _ h => h) ?_
  · exact (ref_Whole _ _ _ zs ds xs back (IsZ.tp hZ τ t) (IsU.tp hA τ t) hG hn hl).mono fun e w1 h => h
  rintro v2 p2 hU hb2
  refine leads_mv (some 14) rfl rfl rfl (.inr rfl) ?_
  refine leads_regionEnd ?_
  refine et_tail (v := v) (va := va) (vl := vl) (back := back) (want := v2) (er := 0) (wk := (n : Int)) (hb.trans hb2) ⟨by simp [put_some, hS.s0], by simp [put_some, hS.s1], by simp [put_some, hS.s2], by simp [put_some, hS.s3], by simp [put_some, hS.s4]⟩ (by simp [put_some, h13]) (by simp [put_some, evT_tmp]) fun c0 cs => ?_
  refine (together_right mAll (by kernel_rfl) (by kernel_rfl) (IsZ.blw hZ hb2) (IsU.blw hA hb2) (IsP.blw hP hb2) hG hn hFi hbig hl hn1 hn8 hm (hT.blw hb2)).mono ?_
  rintro a' p3 ⟨b, h1, h2, h3, -⟩
  exact ⟨_, _, h1, h2, h3, IsU.blw hU h2⟩
set_option maxRecDepth 100000 in
set_option maxHeartbeats 4000000 in
/-- An error stands already: the workers are not asked. -/
theorem et_7no {Q : Goroutine → World → Prop} (her : (er != 0) = true) (hS : Et v va vl wk back σ) (h13 : σ 13 = .int .i64 er)
    (h : ∀ σ', Et v va vl wk back σ' → σ' 13 = .int .i64 er → Leads Tryd.prog W.heap.size (G (fd false 3 65 [] σ' [.code et9]) []) pw Q) :
    Leads Tryd.prog W.heap.size (G (fd false 3 65 [] σ [.code et7]) []) pw Q := by
  have her' : ¬ er = 0 := by simpa using her
  refine leads_seq ?_
  refine leads_seq ?_
  refine leads_region [0, 1, 2, 3, 4, 5, 6] rfl ?_
  refine leads_mv (some 35) rfl rfl rfl (.inl rfl) ?_
  refine leads_pure (some 36) (.bool false) rfl rfl rfl (fun _ => eqE_run (e := er) (f := 0) false (by simp [her']) (by simp [evT_tmp, put_some, h13]) (by simp [evT_const])) ?_
  refine leads_mv (some 37) rfl rfl rfl (.inl rfl) ?_
  refine leads_no (some 38) 2 37 true rfl rfl rfl rfl rfl (by omega) (by simp [evT_tmp, put_some]) ?_
  refine leads_no (some 39) 2 37 true rfl rfl rfl rfl rfl (by omega) (by simp [evT_tmp, put_some]) ?_
  refine leads_no (some 40) 2 37 true rfl rfl rfl rfl rfl (by omega) (by simp [evT_tmp, put_some]) ?_
  refine leads_pure (some 41) (.bool false) rfl rfl rfl (fun w => pick_run false (by simp [evT_tmp, put_some]) (by simp [evT_const])) ?_
  refine leads_regionEnd ?_
  refine leads_cond false (by simp [evT_tmp, put_some]) ?_
  refine leads_skip ?_
  exact h _ ⟨by simp [put_some, hS.s0], by simp [put_some, hS.s1], by simp [put_some, hS.s2], by simp [put_some, hS.s3], by simp [put_some, hS.s4]⟩ (by simp [put_some, h13])
set_option maxRecDepth 100000 in
set_option maxHeartbeats 4000000 in
/-- An error stands already: the length is not asked. -/
theorem et_5no {Q : Goroutine → World → Prop} (her : (er != 0) = true) (hS : Et v va vl wk back σ) (h13 : σ 13 = .int .i64 er)
    (h : ∀ σ', Et v va vl wk back σ' → σ' 13 = .int .i64 er → Leads Tryd.prog W.heap.size (G (fd false 3 65 [] σ' [.code et9]) []) pw Q) :
    Leads Tryd.prog W.heap.size (G (fd false 3 65 [] σ [.code et5]) []) pw Q := by
  have her' : ¬ er = 0 := by simpa using her
  refine leads_seq ?_
  refine leads_seq ?_
  refine leads_region [0, 1, 2, 3, 4, 5, 6, 7] rfl ?_
  refine leads_mv (some 27) rfl rfl rfl (.inl rfl) ?_
  refine leads_pure (some 28) (.bool false) rfl rfl rfl (fun _ => eqE_run (e := er) (f := 0) false (by simp [her']) (by simp [evT_tmp, put_some, h13]) (by simp [evT_const])) ?_
  refine leads_mv (some 29) rfl rfl rfl (.inl rfl) ?_
  refine leads_no (some 30) 2 29 true rfl rfl rfl rfl rfl (by omega) (by simp [evT_tmp, put_some]) ?_
  refine leads_no (some 31) 2 29 true rfl rfl rfl rfl rfl (by omega) (by simp [evT_tmp, put_some]) ?_
  refine leads_no (some 32) 2 29 true rfl rfl rfl rfl rfl (by omega) (by simp [evT_tmp, put_some]) ?_
  refine leads_no (some 33) 2 29 true rfl rfl rfl rfl rfl (by omega) (by simp [evT_tmp, put_some]) ?_
  refine leads_pure (some 34) (.bool false) rfl rfl rfl (fun w => pick_run false (by simp [evT_tmp, put_some]) (by simp [evT_const])) ?_
  refine leads_regionEnd ?_
  refine leads_cond false (by simp [evT_tmp, put_some]) ?_
  refine leads_skip ?_
  exact et_7no (v := v) (va := va) (vl := vl) (wk := wk) (back := back) her ⟨by simp [put_some, hS.s0], by simp [put_some, hS.s1], by simp [put_some, hS.s2], by simp [put_some, hS.s3], by simp [put_some, hS.s4]⟩ (by simp [put_some, h13]) h
set_option maxRecDepth 100000 in
set_option maxHeartbeats 4000000 in
/-- No error yet: the length, then the workers. -/
theorem et_5yes {Q : Goroutine → World → Prop} {m n : Nat} {aa : Option Addr} {ca : Nat} (hS : Et v (.slice aa m ca) vl wk back σ) (h11 : σ 11 = .int .i64 (n : Int)) (h13 : σ 13 = .int .i64 0)
    (h : ∀ σ' pw' e, Blw pw pw' → Et v (.slice aa m ca) vl wk back σ' → σ' 13 = .int .i64 e → ((e = 5 ∧ ¬ m = n) ∨ (e = 1 ∧ m = n ∧ (wk < 1 ∨ 8 < wk)) ∨ (e = 0 ∧ m = n ∧ 1 ≤ wk ∧ wk ≤ 8)) → Leads Tryd.prog W.heap.size (G (fd false 3 65 [] σ' [.code et9]) []) pw' Q) :
    Leads Tryd.prog W.heap.size (G (fd false 3 65 [] σ [.code et5]) []) pw Q := by
  refine leads_seq ?_
  refine leads_seq ?_
  refine leads_region [0, 1, 2, 3, 4, 5, 6, 7] rfl ?_
  refine leads_mv (some 27) rfl rfl rfl (.inl rfl) ?_
  refine leads_pure (some 28) (.bool true) rfl rfl rfl (fun _ => eqE_run (e := 0) (f := 0) true (by simp) (by simp [evT_tmp, put_some, h13]) (by simp [evT_const])) ?_
  refine leads_mv (some 29) rfl rfl rfl (.inl rfl) ?_
  refine leads_yes (some 30) (.slice aa m ca) 2 29 true rfl rfl rfl rfl rfl (by omega) (by simp [evT_tmp, put_some]) (fun w => run_ev (by simp [execOp, evT_tmp, put_some, hS.s1]) (by simp [execOp])) ?_
  refine leads_yes (some 31) (.int .i64 (m : Int)) 2 29 true rfl rfl rfl rfl rfl (by omega) (by simp [evT_tmp, put_some]) (fun w => run_ev (by simp [execOp, go_sem, evT_tmp, put_some]) (by simp [execOp, go_sem, evT_tmp, put_some])) ?_
  refine leads_yes (some 32) (.int .i64 (n : Int)) 2 29 true rfl rfl rfl rfl rfl (by omega) (by simp [evT_tmp, put_some]) (fun w => run_ev (by simp [execOp, evT_tmp, put_some, h11]) (by simp [execOp])) ?_
  by_cases hmn : m = n
  · refine leads_yes (some 33) (.bool false) 2 29 true rfl rfl rfl rfl rfl (by omega) (by simp [evT_tmp, put_some]) (fun w => neI_run (e := (m : Int)) (f := (n : Int)) false (by simp [hmn]) (by simp [evT_tmp, put_some]) (by simp [evT_tmp, put_some])) ?_
    refine leads_pure (some 34) (.bool false) rfl rfl rfl (fun w => pick_run true (by simp [evT_tmp, put_some]) (by simp [evT_tmp, put_some])) ?_
    refine leads_regionEnd ?_
    refine leads_cond false (by simp [evT_tmp, put_some]) ?_
    refine leads_skip ?_
    refine leads_seq ?_
    refine leads_seq ?_
    refine leads_region [0, 1, 2, 3, 4, 5, 6] rfl ?_
    refine leads_mv (some 35) rfl rfl rfl (.inl rfl) ?_
    refine leads_pure (some 36) (.bool true) rfl rfl rfl (fun _ => eqE_run (e := 0) (f := 0) true (by simp) (by simp [evT_tmp, put_some, h13]) (by simp [evT_const])) ?_
    refine leads_mv (some 37) rfl rfl rfl (.inl rfl) ?_
    refine leads_yes (some 38) (.int .i64 wk) 2 37 true rfl rfl rfl rfl rfl (by omega) (by simp [evT_tmp, put_some]) (fun w => run_ev (by simp [execOp, evT_tmp, put_some, hS.s3]) (by simp [execOp])) ?_
    refine leads_fn mAll (fun v _ => v = .bool (decide (1 ≤ wk ∧ wk ≤ 8))) (some 39) 11 #[.int .i64 wk, .int .i64 1, .int .i64 8] rfl rfl (wanted_b (b := true) (c := true) rfl rfl rfl (by omega) (by simp [evT_tmp, put_some])) (fun w => run_ev (by simp [execOp, go_sem, evT_tmp, evT_func, evT_const, put_some]) (by simp [execOp, go_sem, evT_tmp, evT_func, evT_const, put_some, call_events Tryd.func11 (by kernel_rfl) rfl])) (by kernel_rfl) (fun τ t => ?_) (fun _ _ _ _ _ _ h => h) ?_
    · by_cases h1 : wk < 1
      · exact (ref_In_low wk 1 8 h1 _).mono fun e w1 hh => ⟨_, hh.1, by rw [decide_eq_false (by omega)], by rw [hh.2]; exact Below.refl _ _⟩
      · by_cases h2 : 8 < wk
        · exact (ref_In_high wk 1 8 (by omega) h2 _).mono fun e w1 hh => ⟨_, hh.1, by rw [decide_eq_false (by omega)], by rw [hh.2]; exact Below.refl _ _⟩
        · exact (ref_In_true wk 1 8 (by omega) (by omega) _).mono fun e w1 hh => ⟨_, hh.1, by rw [decide_eq_true (by omega)], by rw [hh.2]; exact Below.refl _ _⟩
    rintro v2 p2 rfl hb2
    by_cases hin : 1 ≤ wk ∧ wk ≤ 8
    · rw [decide_eq_true hin]
      refine leads_yes (some 40) (.bool false) 2 37 true rfl rfl rfl rfl rfl (by omega) (by simp [evT_tmp, put_some]) (fun w => run_ev (by simp [execOp, go_sem, evT_tmp, put_some]) (by simp [execOp, go_sem, evT_tmp, put_some])) ?_
      refine leads_pure (some 41) (.bool false) rfl rfl rfl (fun w => pick_run true (by simp [evT_tmp, put_some]) (by simp [evT_tmp, put_some])) ?_
      refine leads_regionEnd ?_
      refine leads_cond false (by simp [evT_tmp, put_some]) ?_
      refine leads_skip ?_
      exact h _ _ 0 hb2 ⟨by simp [put_some, hS.s0], by simp [put_some, hS.s1], by simp [put_some, hS.s2], by simp [put_some, hS.s3], by simp [put_some, hS.s4]⟩ (by simp [put_some, h13]) (.inr (.inr ⟨rfl, hmn, hin.1, hin.2⟩))
    · rw [decide_eq_false hin]
      refine leads_yes (some 40) (.bool true) 2 37 true rfl rfl rfl rfl rfl (by omega) (by simp [evT_tmp, put_some]) (fun w => run_ev (by simp [execOp, go_sem, evT_tmp, put_some]) (by simp [execOp, go_sem, evT_tmp, put_some])) ?_
      refine leads_pure (some 41) (.bool true) rfl rfl rfl (fun w => pick_run true (by simp [evT_tmp, put_some]) (by simp [evT_tmp, put_some])) ?_
      refine leads_regionEnd ?_
      refine leads_cond true (by simp [evT_tmp, put_some]) ?_
      refine leads_region [0] rfl ?_
      refine leads_mv (some 13) rfl rfl rfl (.inr rfl) ?_
      refine leads_regionEnd ?_
      exact h _ _ 1 hb2 ⟨by simp [put_some, hS.s0], by simp [put_some, hS.s1], by simp [put_some, hS.s2], by simp [put_some, hS.s3], by simp [put_some, hS.s4]⟩ (by simp [put_some, evT_const]) (.inr (.inl ⟨rfl, hmn, by omega⟩))
  · refine leads_yes (some 33) (.bool true) 2 29 true rfl rfl rfl rfl rfl (by omega) (by simp [evT_tmp, put_some]) (fun w => neI_run (e := (m : Int)) (f := (n : Int)) true (by simp; omega) (by simp [evT_tmp, put_some]) (by simp [evT_tmp, put_some])) ?_
    refine leads_pure (some 34) (.bool true) rfl rfl rfl (fun w => pick_run true (by simp [evT_tmp, put_some]) (by simp [evT_tmp, put_some])) ?_
    refine leads_regionEnd ?_
    refine leads_cond true (by simp [evT_tmp, put_some]) ?_
    refine leads_region [0] rfl ?_
    refine leads_mv (some 13) rfl rfl rfl (.inr rfl) ?_
    refine leads_regionEnd ?_
    refine et_7no (v := v) (va := .slice aa m ca) (vl := vl) (wk := wk) (back := back) (er := 5) (by decide) ⟨by simp [put_some, hS.s0], by simp [put_some, hS.s1], by simp [put_some, hS.s2], by simp [put_some, hS.s3], by simp [put_some, hS.s4]⟩ (by simp [put_some, evT_const]) fun σ' hS' h' => ?_
    exact h _ _ 5 (Blw.refl _) hS' h' (.inl ⟨rfl, hmn⟩)
set_option maxRecDepth 100000 in
set_option maxHeartbeats 4000000 in
/-- THE LAW. -/
theorem execTogether_leads {zs : List Int} {xs : List Nat} {L : List (List (List Int))} (hZ : IsZ W v zs) (hA : IsU W va xs) (hP : IsP 3 W vl L) (hm : Tryd.prog.follows .mixedOrders = true) (hT : Tbs W.heap.size W) :
    Leads Tryd.prog W.heap.size (G (Frame.enter Tryd.prog 3 #[v, va, vl, .int .i64 wk, .bool back] .normal) []) W (EndT Tryd.prog W W.heap.size) := by
  rw [enter_fd #[v, va, vl, .int .i64 wk, .bool back] Tryd.func3 rfl (show 5 ≤ 65 by omega)]
  refine leads_seq ?_
  refine leads_region [0] rfl ?_
  refine leads_mv (some 10) rfl rfl rfl (.inr rfl) ?_
  refine leads_regionEnd ?_
  refine leads_seq ?_
  refine leads_region [0, 1, 2, 3, 4, 5, 6] rfl ?_
  refine leads_mv (some 18) rfl rfl rfl (.inl rfl) ?_
  refine leads_fn mAll (fun u _ => (∃ ds, Good zs ds ∧ prd2 ds ≤ 1024 ∧ u = .tuple #[.int .i64 ((prd2 ds : Nat) : Int), .int .i64 0]) ∨ (∃ er, (er != 0) = true ∧ ((er = 1 ∧ ∀ ds, ¬ Good zs ds) ∨ (er = 2 ∧ ∃ ds, Good zs ds ∧ 1024 < prd2 ds)) ∧ u = .tuple #[.int .i64 0, .int .i64 er])) (some 19) 9 #[v] rfl rfl (wanted_0 rfl) (fun w => run_ev (by simp [execOp, go_sem, evT_tmp, evT_func, put_some]) (by simp [execOp, go_sem, evT_tmp, evT_func, put_some, call_events Tryd.func9 (by kernel_rfl) rfl])) (by kernel_rfl) (fun τ t => ?_) (fun _ _ _ _ _ _ h => h) ?_
  · refine (ref_Shape _ _ zs (IsZ.tp hZ τ t)).mono ?_
    rintro e w1 ⟨rfl, ⟨ds, h1, h2, rfl⟩ | ⟨ds, h1, h2, rfl⟩ | ⟨h1, rfl⟩⟩
    · exact ⟨_, rfl, .inl ⟨ds, h1, h2, rfl⟩, Below.refl _ _⟩
    · exact ⟨_, rfl, .inr ⟨2, by decide, .inr ⟨rfl, ds, h1, h2⟩, rfl⟩, Below.refl _ _⟩
    · exact ⟨_, rfl, .inr ⟨1, by decide, .inl ⟨rfl, h1⟩, rfl⟩, Below.refl _ _⟩
  rintro u p1 hu hb1
  refine leads_mv (some 17) rfl rfl rfl (.inl rfl) ?_
  obtain ⟨n, e0, hue, hn⟩ : ∃ (n : Nat) (e0 : Int), u = .tuple #[.int .i64 (n : Int), .int .i64 e0] ∧ ((∃ ds, Good zs ds ∧ prd2 ds ≤ 1024 ∧ n = prd2 ds ∧ e0 = 0) ∨ (n = 0 ∧ (e0 != 0) = true ∧ ((e0 = 1 ∧ ∀ ds, ¬ Good zs ds) ∨ (e0 = 2 ∧ ∃ ds, Good zs ds ∧ 1024 < prd2 ds)))) := by
    rcases hu with ⟨ds, h1, h2, rfl⟩ | ⟨er, h1, h2, rfl⟩
    · exact ⟨_, _, rfl, .inl ⟨ds, h1, h2, rfl, rfl⟩⟩
    · exact ⟨0, er, rfl, .inr ⟨rfl, h1, h2⟩⟩
  subst hue
  refine leads_extr (some 20) (.int .i64 (n : Int)) rfl rfl rfl rfl (by simp [evT_tmp, put_some]; rfl) rfl ?_
  refine leads_extr (some 21) (.int .i64 e0) rfl rfl rfl rfl (by simp [evT_tmp, put_some]; rfl) rfl ?_
  refine leads_mv (some 11) rfl rfl rfl (.inr rfl) ?_
  refine leads_mv (some 12) rfl rfl rfl (.inr rfl) ?_
  refine leads_regionEnd ?_
  refine leads_seq ?_
  refine leads_seq ?_
  refine leads_region [0, 1] rfl ?_
  refine leads_mv (some 22) rfl rfl rfl (.inl rfl) ?_
  by_cases hbig : 64 < n
  · refine leads_pure (some 23) (.bool true) rfl rfl rfl (fun _ => gtr_run (e := (n : Int)) (f := 64) true (decide_eq_true (by omega)) (by simp [evT_tmp, put_some]) (by simp [evT_const])) ?_
    refine leads_regionEnd ?_
    refine leads_cond true (by simp [evT_tmp, put_some]) ?_
    refine leads_seq ?_
    refine leads_region [0] rfl ?_
    refine leads_mv (some 10) rfl rfl rfl (.inr rfl) ?_
    refine leads_regionEnd ?_
    refine leads_retD ?_
    refine leads_true Tryd.func3 (by kernel_rfl) (fun w es => ?_) hb1
    rw [res1 (j := 10) rfl]
    show (Result.ok (evT (arr 65 _) (.tmp 10)) w, es) = _
    simp [evT_tmp, put_some, evT_const]
  refine leads_pure (some 23) (.bool false) rfl rfl rfl (fun _ => gtr_run (e := (n : Int)) (f := 64) false (decide_eq_false (by omega)) (by simp [evT_tmp, put_some]) (by simp [evT_const])) ?_
  refine leads_regionEnd ?_
  refine leads_cond false (by simp [evT_tmp, put_some]) ?_
  refine leads_skip ?_
  refine leads_seq ?_
  refine leads_region [0, 1, 2, 3] rfl ?_
  refine leads_mv (some 24) rfl rfl rfl (.inl rfl) ?_
  refine leads_mv (some 25) rfl rfl rfl (.inl rfl) ?_
  have hZ1 := IsZ.blw hZ hb1
  have hA1 := IsU.blw hA hb1
  have hP1 := IsP.blw hP hb1
  refine leads_fn mAll (fun u _ => ∃ er, u = .int .i64 er ∧ (((er != 0) = true ∧ ((er = 1 ∧ ∀ ds, ¬ Good zs ds) ∨ (er = 2 ∧ ∃ ds, Good zs ds ∧ 1024 < prd2 ds) ∨ ∃ ds, Good zs ds ∧ prd2 ds ≤ 1024 ∧ ((er = 5 ∧ ¬ Go.Proofs.YtckoipoejaafhaaDoor.Fine ds L) ∨ (er = 2 ∧ Go.Proofs.YtckoipoejaafhaaDoor.Fine ds L ∧ BigP L L.length)))) ∨ (er = 0 ∧ ∃ ds, Good zs ds ∧ prd2 ds ≤ 1024 ∧ n = prd2 ds ∧ Go.Proofs.YtckoipoejaafhaaDoor.Fine ds L ∧ ¬ BigP L L.length))) (some 26) 10 #[v, vl] rfl rfl (wanted_0 rfl) (fun w => run_ev (by simp [execOp, go_sem, evT_tmp, evT_func, put_some]) (by simp [execOp, go_sem, evT_tmp, evT_func, put_some, call_events Tryd.func10 (by kernel_rfl) rfl])) (by kernel_rfl) (fun τ t => ?_) (fun _ _ _ _ _ _ h => h) ?_
  · rcases hn with ⟨ds, hG, h1, rfl, rfl⟩ | ⟨rfl, he, hn⟩
    · refine (ref_Phases_all _ _ _ zs ds L (IsZ.tp hZ1 τ t) hG h1 (IsP.tp hP1 τ t)).mono ?_
      rintro e w1 ⟨⟨rfl, h⟩ | ⟨rfl, h, h'⟩ | ⟨rfl, h, h'⟩, hb⟩
      · exact ⟨_, rfl, ⟨5, rfl, .inl ⟨by decide, .inr (.inr ⟨ds, hG, h1, .inl ⟨rfl, h⟩⟩)⟩⟩, hb⟩
      · exact ⟨_, rfl, ⟨2, rfl, .inl ⟨by decide, .inr (.inr ⟨ds, hG, h1, .inr ⟨rfl, h, h'⟩⟩)⟩⟩, hb⟩
      · exact ⟨_, rfl, ⟨0, rfl, .inr ⟨rfl, ds, hG, h1, rfl, h, h'⟩⟩, hb⟩
    · refine (ref_Phases_shape _ _ _ zs e0 he ?_ (IsZ.tp hZ1 τ t)).mono ?_
      · refine (ref_Shape _ _ zs (IsZ.tp hZ1 τ t)).mono ?_
        rintro e w1 ⟨rfl, ⟨ds, h1, h2, rfl⟩ | ⟨ds, h1, h2, rfl⟩ | ⟨h1, rfl⟩⟩
        · rcases hn with ⟨-, h⟩ | ⟨-, ds', h, h'⟩
          · exact absurd h1 (h ds)
          · rw [Good_unique h h1] at h2
            omega
        · rcases hn with ⟨-, h⟩ | ⟨rfl, -⟩
          · exact absurd h1 (h ds)
          · exact ⟨rfl, rfl⟩
        · rcases hn with ⟨rfl, -⟩ | ⟨-, ds', h, -⟩
          · exact ⟨rfl, rfl⟩
          · exact absurd h (h1 ds')
      · rintro e w1 ⟨rfl, hb⟩
        exact ⟨_, rfl, ⟨e0, rfl, .inl ⟨he, hn.elim .inl fun h => .inr (.inl h)⟩⟩, hb⟩
  rintro u p2 ⟨er, rfl, hu⟩ hb2
  refine leads_mv (some 13) rfl rfl rfl (.inr rfl) ?_
  refine leads_regionEnd ?_
  have hB := hb1.trans hb2
  rcases hu with ⟨her, hu⟩ | ⟨rfl, ds, hG, h1, rfl, hFi, hBg⟩
  · refine et_5no (v := v) (va := va) (vl := vl) (wk := wk) (back := back) her ⟨by simp [put_some], by simp [put_some], by simp [put_some], by simp [put_some], by simp [put_some]⟩ (by simp [put_some, evT_tmp]) fun σ' hS' h' => ?_
    refine et_err her hB hS' h' fun c0 cs => ?_
    refine together_wrong (zs := zs) (xs := xs) (L := L) mAll (by kernel_rfl) her (IsZ.blw hZ hB) (IsU.blw hA hB) (IsP.blw hP hB) ?_
    rcases hu with h | h | ⟨ds, hG, h1, h | h⟩
    · exact .inl h
    · exact .inr (.inl h)
    · exact .inr (.inr ⟨ds, hG, h1, .inl h⟩)
    · exact .inr (.inr ⟨ds, hG, h1, .inr (.inl h)⟩)
  · obtain ⟨aa, ca, rfl, hrest⟩ := id hA
    refine et_5yes (v := v) (vl := vl) (wk := wk) (back := back) (m := xs.length) (n := prd2 ds) (aa := aa) (ca := ca) ⟨by simp [put_some], by simp [put_some], by simp [put_some], by simp [put_some], by simp [put_some]⟩ (by simp [put_some, evT_tmp]) (by simp [put_some, evT_tmp]) ?_
    intro σ' p3 e hb3 hS' h' he
    have hB3 := hB.trans hb3
    rcases he with ⟨rfl, hne⟩ | ⟨rfl, heq, hw⟩ | ⟨rfl, heq, hw1, hw8⟩
    · refine et_err (er := 5) (by decide) hB3 hS' h' fun c0 cs => ?_
      exact together_wrong (zs := zs) (xs := xs) (L := L) mAll (by kernel_rfl) (by decide) (IsZ.blw hZ hB3) (IsU.blw hA hB3) (IsP.blw hP hB3) (.inr (.inr ⟨ds, hG, h1, .inr (.inr (.inl ⟨rfl, hFi, hBg, hne⟩))⟩))
    · refine et_err (er := 1) (by decide) hB3 hS' h' fun c0 cs => ?_
      exact together_wrong (zs := zs) (xs := xs) (L := L) mAll (by kernel_rfl) (by decide) (IsZ.blw hZ hB3) (IsU.blw hA hB3) (IsP.blw hP hB3) (.inr (.inr ⟨ds, hG, h1, .inr (.inr (.inr ⟨rfl, hFi, hBg, heq, hw⟩))⟩))
    · obtain ⟨k, rfl⟩ := Int.eq_ofNat_of_zero_le (show 0 ≤ wk by omega)
      exact et_ok (n := k) hB3 hS' h' (IsZ.blw hZ hB3) (IsU.blw hA hB3) (IsP.blw hP hB3) hG h1 hFi hBg heq (by omega) (by omega) hm (hT.blw hB3)
end
end Go.Proofs.YtckoipoejaafhaaDoor.Cc
