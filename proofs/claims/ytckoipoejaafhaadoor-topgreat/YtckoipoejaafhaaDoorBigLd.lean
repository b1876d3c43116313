/-
  text and Mul of package big beside leavers.
-/
import Derived.Test.YtckoipoejaafhaaDoorCeVAll
import Derived.Test.YtckoipoejaafhaaDoorBigFAll
namespace Go.Proofs.YtckoipoejaafhaaDoor
open Go.RowKit
set_option maxRecDepth 100000
theorem txt_mid {P : Program} {fn : Func} {a b c d : Code} {Q : Exit → Act → World → Prop} {s : Act} {w : World} (hb : fn.body = some (.seq a (.seq b (.seq c d)))) (h : c.wp P Q s w) : (Cc.sq1 (Cc.sq2 (Cc.sq2 (fn.body.getD .skip)))).wp P Q s w := by
  rw [hb]
  exact h
set_option maxHeartbeats 2000000 in
set_option maxRecDepth 100000 in
theorem text_first (w : World) (bl of cp n : Nat) (Y : List Nat) (h : IsU w (.slice (some ⟨bl, of, none⟩) n cp) Y) (h1 : 0 < n) (h9 : n ≤ 100000) (hn : n = Y.length) :
    (Cc.sq1 (Cc.sq2 (Cc.sq2 (Tryd.f56.body.getD .skip)))).wp Tryd.prog (Cc.midPost fun ts w' => ts.size = 41 ∧ ∃ t : Nat, t < n ∧ ts.getD 0 undef = .slice (some ⟨bl, of, none⟩) n cp ∧ ts.getD 3 undef = .int .i64 (t : Int) ∧ (∀ j, t + 1 ≤ j → Y.getD j 0 = 0) ∧ (0 < t → Y.getD t 0 ≠ 0) ∧ Below w.heap.size w w')
      ⟨#[.slice (some ⟨bl, of, none⟩) n cp, undef, .string ⟨#[]⟩, .int .i64 ((n : Int) - 1), undef, undef, .slice (some ⟨bl, of, none⟩) n cp, .int .i64 (n : Int), .int .i64 ((n : Int) - 1), undef, undef, undef, undef, undef, undef, undef, undef, undef, undef, undef, undef, undef, undef, undef, undef, undef, undef, undef, undef, undef, undef, undef, undef, undef, undef, undef, undef, undef, undef, undef, undef], []⟩ w := by
  have hcell : Hid (∀ i, i < n → w.cell? ⟨bl, of + i, none⟩ = some (.int .u64 ((Y.getD i 0 : Nat) : Int))) := fun i hi => h.cell i (by omega)
  have hbeyond : Hid (∀ j, n ≤ j → Y.getD j 0 = 0) := fun j hj => by rw [List.getD, List.getElem?_eq_none (by omega)]; rfl
  have hB : Hid (Below w.heap.size w w) := Below.refl _ _
  clear h hn
  refine txt_mid (fn := Tryd.f56) rfl ?_
  go_wp2
  go_loopw [3] (fun vt wr => ∃ (t : Nat), t < n ∧ vt = .int .i64 (t : Int) ∧ Hid (∀ j, t + 1 ≤ j → Y.getD j 0 = 0) ∧ wr = w)
    (fun vt _ => (intOf vt).toNat)
  case atStart => exact ⟨n - 1, by omega, by refine congrArg (Value.int IntKind.i64) ?_; omega, fun j hj => hbeyond.out j (by omega), rfl⟩
  case round =>
    obtain ⟨t, hlt, rfl, hz, hwr⟩ := hrel
    rw [hwr]
    clear hwr
    have hc := hcell.out t hlt
    by_cases hgo : 0 < t ∧ Y.getD t 0 = 0
    · obtain ⟨h0, hy⟩ := hgo
      rw [hy] at hc
      have hz2 : Hid (∀ j, t - 1 + 1 ≤ j → Y.getD j 0 = 0) := fun j hj => by
        rcases Nat.eq_or_lt_of_le (show t ≤ j by omega) with q | q
        · rw [← q]; exact hy
        · exact hz.out j q
      have h0' : (0 : Int) < (t : Int) := by omega
      clear hy
      go_wp2
      go_roundw
      case rel => exact ⟨t - 1, by omega, by refine congrArg (Value.int IntKind.i64) ?_; omega, hz2, by trivial⟩
      case measure => simp only [intOf]; omega
    · have hne : Hid (0 < t → Y.getD t 0 ≠ 0) := fun q q2 => hgo ⟨q, q2⟩
      have hdec : (¬ 0 < t) ∨ (0 < t ∧ (((Y.getD t 0 : Nat) : Int) == 0) = false) := by
        rcases Nat.eq_zero_or_pos t with q | q
        · left; omega
        · right
          refine ⟨q, ?_⟩
          rw [beq_eq_false_iff_ne]
          have := hne.out q
          omega
      clear hgo hbeyond
      have hfin : Hid (t < n ∧ (∀ j, t + 1 ≤ j → Y.getD j 0 = 0) ∧ (0 < t → Y.getD t 0 ≠ 0)) := ⟨hlt, hz.out, hne.out⟩
      clear hz hne
      obtain ⟨x, hx⟩ : ∃ x, x = Y.getD t 0 := ⟨_, rfl⟩
      rw [← hx] at hc hdec
      clear hx
      rcases hdec with hcd | ⟨hcd, hcd2⟩
      · go_wp2
        exact ⟨rfl, t, hfin.out.1, rfl, rfl, hfin.out.2.1, hfin.out.2.2, hB.out⟩
      · go_wp2
        exact ⟨rfl, t, hfin.out.1, rfl, rfl, hfin.out.2.1, hfin.out.2.2, hB.out⟩
end Go.Proofs.YtckoipoejaafhaaDoor
namespace Go.Proofs.YtckoipoejaafhaaDoor.Cc
open Go Go.Conc Go.RowKit
theorem Bl.cell {B : Nat} {w w' : World} (h : Bl B w w') {p : Addr} (hp : p.block < B) : w'.cell? p = w.cell? p := by
  simp only [World.cell?, h.block p.block hp]
theorem Tbs.bl {N0 B : Nat} {w w' : World} (h : Tbs N0 w) (hB : N0 ≤ B) (b : Bl B w w') : Tbs N0 w' :=
  ⟨Tab.of_blocks h.tab fun g hg => b.block _ (Nat.lt_of_lt_of_le (h.tabs g hg).1 hB), fun g hg => ⟨(h.tabs g hg).1, (h.tabs g hg).2.of (b.block _ (Nat.lt_of_lt_of_le (h.tabs g hg).1 hB))⟩, Nat.le_trans h.ns b.size⟩
theorem Bld.blw {B b : Nat} {l : List UInt8} {w w' : World} (h : Bld B b l w) (k : Blw w w') : Bld B b l w' := by
  have hb : Below w.heap.size w (tp w' w.tape w'.drawn) := k.below
  have h2 : Bld B b l (tp w' w.tape w'.drawn) := Bld.below h hb
  exact h2
section
variable {P : Program} {N0 : Nat} {pw : World} {Q : Goroutine → World → Prop} {fn : FuncId} {n : Nat} {σ : Nat → Value} {k : List Item} {cs : List Frame} {ops : Array Oper} {i : Nat} {rest : List Nat} {o : Oper}
theorem leads_fnR {fs : Fs} (hF : FnsAll P fs) (R : Value → World → Prop) (d : Option Tmp) (f : FuncId) (args : Array Value) (ho : ops[i]? = some o) (hd : o.dst = d) (hw : Region.wanted o (yielded ops (arr n σ)) = true)
    (hx : ∀ w, (execOp (evT (arr n σ)) o).runT P w #[] = (.ok (.enter f args) w, #[])) (hf : fs.contains f = true)
    (hC : ∀ τ t, Calls P f args (tp pw τ t) fun e w1 => ∃ v, e = .returned v ∧ R v w1) (hR : ∀ v w τ t τ' t', R v (tp w τ t) → R v (tp w τ' t'))
    (h : ∀ v pw', R v pw' → Leads P N0 (G (fd false fn n [] (put σ d v) (.inRegion ops rest :: k)) cs) pw' Q) (ha : args.size ≤ 7 := by simp) : Leads P N0 (G (fd false fn n [] σ (.inRegion ops (i :: rest) :: k)) cs) pw Q := by
  subst hd
  refine leads_enterW f args ho hw hx ?_
  refine Leads.then (leads_call (R := R) hF hf hC hR ha) ?_
  rintro a' p1 ⟨v, rfl, h1⟩
  rw [finish_arr _ _ _ _ _ _ _ _ _ _ ho]
  exact h v p1 h1
end
section
variable {w : World} {ρ : Operand → Value} {x y : Operand} {d : Option Tmp} {ty : TypeId} {pos : String} {af : Array Edge} {gd : Option (Nat × Bool)}
theorem idxU_run {b o l c m : Nat} (hx : ρ x = .slice (some ⟨b, o, none⟩) l c) (hy : ρ y = .int .i64 (m : Int)) (hm : m < l) :
    (execOp ρ ⟨d, .indexAddr 23 x y, ty, pos, af, gd⟩).runT Tryd.prog w #[] = (.ok (.value (.pointer (some ⟨b, o + m, none⟩))) w, #[]) := by
  apply run_ev
  · simp [execOp, go_sem, hx, hy, hm]
  · simp [execOp, go_sem, hx, hy, hm]
theorem getU_run {v : Value} {a : Addr} (hx : ρ x = .pointer (some a)) (hc : w.cell? a = some v) : (execOp ρ ⟨d, .load 34 x, ty, pos, af, gd⟩).runT Tryd.prog w #[] = (.ok (.value v) w, #[⟨.cell a, false, false⟩]) := by
  apply run_ev
  · simp [execOp, go_sem, hx, hc]
  · simp [execOp, go_sem, hx, hc]
theorem subk_run {i : Int} (hx : ρ x = .int .i64 i) (hy : ρ y = .int .i64 1) (h0 : 0 ≤ i) (h : i < 1000000) : (execOp ρ ⟨d, .binOp .sub 3 x y 3, ty, pos, af, gd⟩).runT Tryd.prog w #[] = (.ok (.value (.int .i64 (i - 1))) w, #[]) := by
  have hw : IntKind.i64.wrap (i - 1) = i - 1 := by rw [IntKind.wrap_i64]; omega
  apply run_ev
  · simp [execOp, go_sem, hx, hy, hw]
  · simp [execOp, go_sem, hx, hy]
theorem geq_run {i : Int} (t : Bool) (hx : ρ x = .int .i64 i) (hy : ρ y = .int .i64 0) (h : decide (0 ≤ i) = t) : (execOp ρ ⟨d, .binOp .geq 3 x y 3, ty, pos, af, gd⟩).runT Tryd.prog w #[] = (.ok (.value (.bool t)) w, #[]) := by
  subst h
  apply run_ev
  · simp [execOp, go_sem, hx, hy]
  · simp [execOp, go_sem, hx, hy]
theorem addU_run {i : Nat} (hx : ρ x = .int .u64 100000000) (hy : ρ y = .int .u64 (i : Int)) (h : i < 100000000) : (execOp ρ ⟨d, .binOp .add 34 x y 34, ty, pos, af, gd⟩).runT Tryd.prog w #[] = (.ok (.value (.int .u64 (100000000 + (i : Int)))) w, #[]) := by
  have hw : IntKind.u64.wrap (100000000 + (i : Int)) = 100000000 + (i : Int) := by rw [IntKind.wrap_u64]; omega
  apply run_ev
  · simp [execOp, go_sem, hx, hy, hw]
  · simp [execOp, go_sem, hx, hy]
theorem cutS_run {s s1 : ByteArray} (hx : ρ x = .string s) (hy : ρ y = .int .i64 1) (h9 : s.size = 9) (hc : s.extract 1 9 = s1) : (execOp ρ ⟨d, .slice 9 x (some y) none none, ty, pos, af, gd⟩).runT Tryd.prog w #[] = (.ok (.value (.string s1)) w, #[]) := by
  apply run_ev
  · simp [execOp, go_sem, hx, hy, h9, hc]
  · simp [execOp, go_sem, hx, hy, h9, Instr.sliceAt, Instr.slice, Instr.sliceBounds, Instr.sliceBound]
theorem newB_run : (execOp ρ ⟨d, .alloc 141, ty, pos, af, gd⟩).runT Tryd.prog w #[] = (.ok (.value (.pointer (some ⟨w.heap.size, 0, none⟩))) (w.alloc (.cells #[.pointer none, .slice none 0 0] 141)), #[]) := by
  apply run_ev
  · simp [execOp, go_sem]
  · simp [execOp, go_sem]
end
noncomputable def txB : Code := Tryd.f56.body.getD .skip
noncomputable def txX : Code := sq2 (sq2 (sq2 (sq2 (sq2 txB))))
noncomputable def txL : Code := lop (blk (sq2 (sq1 txX)))
noncomputable def txE : Code := sq2 txX
theorem cut9 {d : List Nat} (h : d.length = 8) : (bsX (49 :: tx d)).size = 9 ∧ (bsX (49 :: tx d)).extract 1 9 = bsX (tx d) := by
  have h9 : (bsX (49 :: tx d)).size = 9 := by rw [bsX_size, List.length_cons, tx_length, h]
  have := cut1 (tx d)
  rw [h9] at this
  exact ⟨h9, this⟩
section
variable {N0 : Nat} {c0 : Frame} {cs : List Frame}
set_option maxRecDepth 100000 in
set_option maxHeartbeats 8000000 in
theorem text_round {w0 : World} {bl of cp n : Nat} {Y : List Nat} (hU : IsU w0 (.slice (some ⟨bl, of, none⟩) n cp) Y) (hn : n = Y.length) (hL : Lm Y) (h9 : n ≤ 100000) (hT : Tbs N0 w0) {t b : Nat} (ht : t < n) {K : List Item} :
    ∀ (j : Nat) (c : List Nat) (σ : Nat → Value) (pw : World), j ≤ t → σ 0 = .slice (some ⟨bl, of, none⟩) n cp → σ 4 = .pointer (some ⟨b, 0, none⟩) → σ 5 = .int .i64 ((j : Int) - 1) → Bld w0.heap.size b (tx c) pw → Gt c → (0 < t → c.headD 0 ≠ 0) → val c = lv (Y.drop j) → c.length ≤ 8 * (t + 1 - j) → Bl w0.heap.size w0 pw →
    Leads Tryd.prog N0 (G (fd false 56 41 [] σ (.code txL :: .inLoop txL :: .inBlock 2 :: K)) cs) pw fun a' pw' => ∃ σ' c', a' = G (fd false 56 41 [] σ' K) cs ∧ σ' 4 = .pointer (some ⟨b, 0, none⟩) ∧ Bld w0.heap.size b (tx c') pw' ∧ Gt c' ∧ val c' = lv Y ∧ Bl w0.heap.size w0 pw' := by
  intro j
  induction j with
  | zero =>
    intro c σ pw hj s0 s4 s5 hB g1 g2 g3 hl hb
    refine leads_seq ?_
    refine leads_seq ?_
    refine leads_region [0, 1] rfl ?_
    refine leads_mv (some 28) rfl rfl rfl (.inl rfl) ?_
    refine leads_pure (some 29) (.bool false) rfl rfl rfl (fun _ => geq_run (i := -1) false (by simp [evT_tmp, put_some, s5]) (by simp [evT_const]) (by decide)) ?_
    refine leads_regionEnd ?_
    refine leads_cond false (by simp [evT_tmp, put_some]) ?_
    refine leads_exit (k' := K) rfl ?_
    exact leads_stop ⟨_, c, rfl, by simp [put_some, s4], hB, g1, g3, hb⟩
  | succ i ih =>
    intro c σ pw hj s0 s4 s5 hB g1 g2 g3 hl hb
    have hi : i < n := by omega
    have hcell : pw.cell? ⟨bl, of + i, none⟩ = some (.int .u64 ((Y.getD i 0 : Nat) : Int)) := by
      have h1 := hU.cell i (by omega)
      rw [hb.cell (p := ⟨bl, of + i, none⟩) (cell_lt h1)]
      exact h1
    have hy : Y.getD i 0 < 100000000 := hL.get i
    have hTp : Tbs N0 pw := hT.bl hT.ns hb
    have hdrop : lv (Y.drop i) = Y.getD i 0 + 100000000 * lv (Y.drop (i + 1)) := lv_drop (by omega)
    refine leads_seq ?_
    refine leads_seq ?_
    refine leads_region [0, 1] rfl ?_
    refine leads_mv (some 28) rfl rfl rfl (.inl rfl) ?_
    refine leads_pure (some 29) (.bool true) rfl rfl rfl (fun _ => geq_run (i := (((i + 1 : Nat) : Int)) - 1) true (by simp [evT_tmp, put_some, s5]) (by simp [evT_const]) (decide_eq_true (by omega))) ?_
    refine leads_regionEnd ?_
    refine leads_cond true (by simp [evT_tmp, put_some]) ?_
    refine leads_skip ?_
    refine leads_seq ?_
    refine leads_block ?_
    refine leads_region [0, 1, 2, 3, 4, 5, 6, 7] rfl ?_
    refine leads_mv (some 32) rfl rfl rfl (.inl rfl) ?_
    refine leads_mv (some 33) rfl rfl rfl (.inl rfl) ?_
    refine leads_pure (some 34) (.pointer (some ⟨bl, of + i, none⟩)) rfl rfl rfl (fun _ => idxU_run (l := n) (c := cp) (m := i) (by simp [evT_tmp, put_some, s0]) (by simp [evT_tmp, put_some, s5]) hi) ?_
    refine leads_get1 (some 35) ⟨bl, of + i, none⟩ _ rfl rfl rfl hcell (fun w hc => getU_run (by simp [evT_tmp, put_some]) hc) ?_
    refine leads_pure (some 36) (.int .u64 (100000000 + ((Y.getD i 0 : Nat) : Int))) rfl rfl rfl (fun _ => addU_run (by simp [evT_const]) (by simp [evT_tmp, put_some]) hy) ?_
    refine leads_fn tAll (fun v _ => ∃ d, v = .string (bsX (49 :: tx d)) ∧ Dg d ∧ d.length = 8 ∧ val d = Y.getD i 0) (some 37) 97 #[.int .u64 (100000000 + ((Y.getD i 0 : Nat) : Int)), .int .i64 10] rfl rfl (wanted_0 rfl) (fun w => run_ev (by simp [execOp, go_sem, evT_func, evT_tmp, evT_const, put_some]) (by simp [execOp, go_sem, evT_func, evT_tmp, evT_const, put_some, call_events Tryd.func97 (by kernel_rfl) rfl])) (by decide) (fun τ e => Calls.mono (fmtu_pad (Y.getD i 0) hy (tp pw τ e) hTp.tab) (by rintro e w1 ⟨d, rfl, q1, q2, q3, q4⟩; exact ⟨_, rfl, ⟨d, rfl, q1, q2, q3⟩, q4⟩)) (fun v w τ e τ' e' q => q) ?_
    rintro v p1 ⟨d, rfl, d1, d2, d3⟩ b1
    obtain ⟨k1, k2⟩ := cut9 d2
    have hB1 := Bld.blw hB b1
    have hb1 : Bl w0.heap.size w0 p1 := hb.trans (b1.bl hb.size)
    refine leads_pure (some 38) (.string (bsX (tx d))) rfl rfl rfl (fun _ => cutS_run (s := bsX (49 :: tx d)) (by simp [evT_tmp, put_some]) (by simp [evT_const]) k1 k2) ?_
    refine leads_enterD 96 #[.pointer (some ⟨b, 0, none⟩), .string (bsX (tx d))] rfl rfl (fun w => run_ev (by simp [execOp, go_sem, evT_func, evT_tmp, put_some, s4]) (by simp [execOp, go_sem, evT_func, evT_tmp, put_some, s4, call_events Tryd.func96 (by kernel_rfl) rfl])) ?_
    refine Leads.then (write_leads w0.heap.size b (tx c) (tx d) hB1 (by rw [tx_length, tx_length]; omega) hb1.size) ?_
    rintro a' p2 ⟨rfl, hB2, b2⟩
    rw [finish_arr _ _ _ _ _ _ _ _ _ _ rfl]
    refine leads_regionEnd ?_
    refine leads_inBlock ?_
    refine leads_region [0, 1, 2] rfl ?_
    refine leads_mv (some 30) rfl rfl rfl (.inl rfl) ?_
    refine leads_pure (some 31) (.int .i64 ((((i + 1 : Nat) : Int) - 1) - 1)) rfl rfl rfl (fun _ => subk_run (i := ((i + 1 : Nat) : Int) - 1) (by simp [evT_tmp, put_some, s5]) (by simp [evT_const]) (by omega) (by omega)) ?_
    refine leads_mv (some 5) rfl rfl rfl (.inr rfl) ?_
    refine leads_regionEnd ?_
    refine leads_inLoop ?_
    obtain ⟨m1, m2⟩ := gt_more g1 (g2 (by omega)) d1
    refine ih (c ++ d) _ p2 (by omega) (by simp [put_some, s0]) (by simp [put_some, s4]) ?_ ?_ m1 (fun _ => m2) ?_ (by rw [List.length_append]; omega) (hb1.trans b2)
    · simp only [put_some, evT_tmp]
      simp
    · rw [show tx (c ++ d) = tx c ++ tx d by simp [tx]]
      exact hB2
    · rw [val_append, d2, hdrop, g3, d3]
      have e8 : (10 : Nat) ^ 8 = 100000000 := by decide
      rw [e8, Nat.mul_comm, Nat.add_comm]
set_option maxRecDepth 100000 in
set_option maxHeartbeats 8000000 in
theorem text_leads {pw : World} {v : Value} {Y : List Nat} (h : IsU pw v Y) (hL : Lm Y) (h1 : 0 < Y.length) (h9 : Y.length ≤ 100000) (hT : Tbs N0 pw) :
    Leads Tryd.prog N0 (G (Frame.enter Tryd.prog 56 #[v] .normal) (c0 :: cs)) pw fun a' pw' => ∃ c, a' = G (c0.finish (.string (bsX (tx c)))) cs ∧ Gt c ∧ val c = lv Y ∧ Blw pw pw' := by
  have hU := h
  obtain ⟨bl, of, cp, rfl⟩ := h.place h1
  obtain ⟨n, hn⟩ : ∃ n, n = Y.length := ⟨_, rfl⟩
  rw [← hn] at h1 h9 hU ⊢
  clear h
  rw [enter_fd #[.slice (some ⟨bl, of, none⟩) n cp] Tryd.func56 rfl (show 1 ≤ 41 by omega), Tryd.ntmps56]
  refine leads_seq ?_
  refine leads_region [0] rfl ?_
  refine leads_mv (some 2) rfl rfl rfl (.inr rfl) ?_
  refine leads_regionEnd ?_
  refine leads_seq ?_
  refine leads_region [0, 1, 2, 3] rfl ?_
  refine leads_mv (some 6) rfl rfl rfl (.inl rfl) ?_
  refine leads_pure (some 7) (.int .i64 (n : Int)) rfl rfl rfl (fun w => run_ev (by simp [execOp, go_sem, evT_tmp, put_some]) (by simp [execOp, go_sem, evT_tmp, put_some])) ?_
  refine leads_pure (some 8) (.int .i64 ((n : Int) - 1)) rfl rfl rfl (fun _ => subk_run (by simp [evT_tmp, put_some]) (by simp [evT_const]) (by omega) (by omega)) ?_
  refine leads_mv (some 3) rfl rfl rfl (.inr rfl) ?_
  refine leads_regionEnd ?_
  refine leads_seq ?_
  refine leads_mid (f := Tryd.f56) tAll (fun s W => ∃ t : Nat, t < n ∧ s 0 = .slice (some ⟨bl, of, none⟩) n cp ∧ s 3 = .int .i64 (t : Int) ∧ (∀ j, t + 1 ≤ j → Y.getD j 0 = 0) ∧ (0 < t → Y.getD t 0 ≠ 0) ∧ Blw pw W) #[.slice (some ⟨bl, of, none⟩) n cp, undef, .string ⟨#[]⟩, .int .i64 ((n : Int) - 1), undef, undef, .slice (some ⟨bl, of, none⟩) n cp, .int .i64 (n : Int), .int .i64 ((n : Int) - 1), undef, undef, undef, undef, undef, undef, undef, undef, undef, undef, undef, undef, undef, undef, undef, undef, undef, undef, undef, undef, undef, undef, undef, undef, undef, undef, undef, undef, undef, undef, undef, undef] (by kernel_rfl) Tryd.func56 (by kernel_rfl) (by kernel_rfl) (fun τ d => Code.wp_mono (fun e a w q => ?_) (text_first (tp pw τ d) bl of cp n Y hU h1 h9 hn)) (fun s w τ d τ' d' ⟨t, q1, q2, q3, q4, q5, q6⟩ => ⟨t, q1, q2, q3, q4, q5, ⟨q6.os, q6.output, q6.size, q6.block⟩⟩) ?_
  · cases e with
    | normal =>
      obtain ⟨q0, t, q1, q2, q3, q4, q5, q6⟩ := q
      exact ⟨q0, t, q1, q2, q3, q4, q5, ⟨q6.os, q6.output, q6.size, q6.block⟩⟩
    | _ => exact q.elim
  · rintro σ p1 ⟨t, ht, s0, s3, hz, hne, b1⟩
    have hU1 : IsU p1 (.slice (some ⟨bl, of, none⟩) n cp) Y := IsU.blw hU b1
    have hT1 : Tbs N0 p1 := hT.blw b1
    have hy : Y.getD t 0 < 100000000 := hL.get t
    refine leads_seq ?_
    refine leads_region [0] rfl ?_
    refine leads_new (some 4) (fun B => .pointer (some ⟨B, 0, none⟩)) (.cells #[.pointer none, .slice none 0 0] 141) rfl rfl rfl (fun w => newB_run) ?_
    have b2 : Blw p1 (p1.alloc (.cells #[.pointer none, .slice none 0 0] 141)) := (Blw.refl p1).alloc _
    have hB := bld_new p1
    have hcell : (p1.alloc (.cells #[.pointer none, .slice none 0 0] 141)).cell? ⟨bl, of + t, none⟩ = some (.int .u64 ((Y.getD t 0 : Nat) : Int)) := (IsU.blw hU1 b2).cell t (by omega)
    have hT2 : Tbs N0 (p1.alloc (.cells #[.pointer none, .slice none 0 0] 141)) := hT1.blw b2
    have hb2 := b2.bl (Nat.le_refl _)
    generalize p1.alloc (.cells #[.pointer none, .slice none 0 0] 141) = p2 at *
    refine leads_regionEnd ?_
    refine leads_seq ?_
    refine leads_region [0, 1, 2, 3, 4, 5] rfl ?_
    refine leads_mv (some 20) rfl rfl rfl (.inl rfl) ?_
    refine leads_mv (some 21) rfl rfl rfl (.inl rfl) ?_
    refine leads_pure (some 22) (.pointer (some ⟨bl, of + t, none⟩)) rfl rfl rfl (fun _ => idxU_run (l := n) (c := cp) (m := t) (by simp [evT_tmp, put_some, s0]) (by simp [evT_tmp, put_some, s3]) ht) ?_
    refine leads_get1 (some 23) ⟨bl, of + t, none⟩ _ rfl rfl rfl hcell (fun w hc => getU_run (by simp [evT_tmp, put_some]) hc) ?_
    refine leads_fn tAll (fun v _ => ∃ c, v = .string (bsX (tx c)) ∧ Gt c ∧ val c = Y.getD t 0) (some 24) 97 #[.int .u64 ((Y.getD t 0 : Nat) : Int), .int .i64 10] rfl rfl (wanted_0 rfl) (fun w => run_ev (by simp [execOp, go_sem, evT_func, evT_tmp, evT_const, put_some]) (by simp [execOp, go_sem, evT_func, evT_tmp, evT_const, put_some, call_events Tryd.func97 (by kernel_rfl) rfl])) (by decide) (fun τ e => Calls.mono (fmtu_top (Y.getD t 0) hy (tp p2 τ e) hT2.tab) (by rintro e w1 ⟨c, rfl, q1, q2, q3⟩; exact ⟨_, rfl, ⟨c, rfl, q1, q2⟩, q3⟩)) (fun v w τ e τ' e' q => q) ?_
    rintro v p3 ⟨c, rfl, c1, c2⟩ b3
    have hB3 := Bld.blw hB b3
    have hb3 : Bl p1.heap.size p1 p3 := hb2.trans (b3.bl hb2.size)
    have hcl : c.length ≤ 8 := c1.len (by omega) (by rw [c2]; omega)
    refine leads_enterD 96 #[.pointer (some ⟨p1.heap.size, 0, none⟩), .string (bsX (tx c))] rfl rfl (fun w => run_ev (by simp [execOp, go_sem, evT_func, evT_tmp, put_some]) (by simp [execOp, go_sem, evT_func, evT_tmp, put_some, call_events Tryd.func96 (by kernel_rfl) rfl])) ?_
    refine Leads.then (write_leads p1.heap.size p1.heap.size [] (tx c) hB3 (by rw [tx_length]; simp; omega) hb3.size) ?_
    rintro a' p4 ⟨rfl, hB4, b4⟩
    rw [List.nil_append] at hB4
    rw [finish_arr _ _ _ _ _ _ _ _ _ _ rfl]
    refine leads_regionEnd ?_
    refine leads_seq ?_
    refine leads_seq ?_
    refine leads_region [0, 1, 2] rfl ?_
    refine leads_mv (some 26) rfl rfl rfl (.inl rfl) ?_
    refine leads_pure (some 27) (.int .i64 ((t : Int) - 1)) rfl rfl rfl (fun _ => subk_run (by simp [evT_tmp, put_some, s3]) (by simp [evT_const]) (by omega) (by omega)) ?_
    refine leads_mv (some 5) rfl rfl rfl (.inr rfl) ?_
    refine leads_regionEnd ?_
    refine leads_block ?_
    refine leads_loop ?_
    refine Leads.then (text_round (K := [.code txE]) hU1 hn hL h9 hT1 (t := t) (b := p1.heap.size) ht t c _ p4 (Nat.le_refl _) (by simp [put_some, s0]) (by simp [put_some]) ?_ hB4 c1 ?_ ?_ (by omega) (hb3.trans b4)) ?_
    · simp only [put_some, evT_tmp]
      simp
    · exact fun q => Tx.first hne c1 c2 q
    · exact (Tx.start (by omega) hz c1 c2).eq
    rintro a' p5 ⟨σ', c', rfl, s4, hB5, e1, e2, b5⟩
    refine leads_seq ?_
    refine leads_region [0, 1] rfl ?_
    refine leads_fnR tAll (fun v w => v = .string (bsX (tx c')) ∧ Bl p1.heap.size p5 w) (some 40) 98 #[.pointer (some ⟨p1.heap.size, 0, none⟩)] rfl rfl (wanted_0 rfl) (fun w => run_ev (by simp [execOp, go_sem, evT_func, evT_tmp, s4]) (by simp [execOp, go_sem, evT_func, evT_tmp, s4, call_events Tryd.func98 (by kernel_rfl) rfl])) (by decide) (fun τ e => Calls.mono (bld_text p1.heap.size p1.heap.size (tx c') (tp p5 τ e) hB5 b5.size) (by rintro e w1 ⟨rfl, q⟩; exact ⟨_, rfl, rfl, Bl.of_below q⟩)) (fun v w τ e τ' e' q => ⟨q.1, q.2.tp⟩) ?_
    rintro v p6 ⟨rfl, b6⟩
    refine leads_mv (some 2) rfl rfl rfl (.inr rfl) ?_
    refine leads_regionEnd ?_
    refine leads_retD ?_
    rw [fdR_frm]
    refine leads_back Tryd.func56 (v := .string (bsX (tx c'))) (fun w es => ?_) (leads_stop ⟨c', rfl, e1, e2, b1.trans (b5.trans b6).blw⟩)
    rw [res1 (f := Tryd.f56) (j := 2) rfl]
    rfl
set_option maxRecDepth 100000 in
set_option maxHeartbeats 8000000 in
theorem mul_bad {pw : World} {s t : ByteArray} (h : gchk2 s t ≠ 0) :
    Leads Tryd.prog N0 (G (Frame.enter Tryd.prog 24 #[.string s, .string t] .normal) (c0 :: cs)) pw fun a' pw' => a' = G (c0.finish (.tuple #[.string ⟨#[]⟩, .int .i64 (gchk2 s t)])) cs ∧ Blw pw pw' := by
  rw [enter_fd #[.string s, .string t] Tryd.func24 rfl (show 2 ≤ 26 by omega), Tryd.ntmps24]
  refine leads_seq ?_
  refine leads_region [0, 1] rfl ?_
  refine leads_mv (some 4) rfl rfl rfl (.inr rfl) ?_
  refine leads_mv (some 5) rfl rfl rfl (.inr rfl) ?_
  refine leads_regionEnd ?_
  refine leads_seq ?_
  refine leads_seq ?_
  refine leads_region [0, 1, 2, 3] rfl ?_
  refine leads_mv (some 9) rfl rfl rfl (.inl rfl) ?_
  refine leads_mv (some 10) rfl rfl rfl (.inl rfl) ?_
  refine leads_fn tAll (fun v _ => v = .int .i64 (gchk2 s t)) (some 11) 54 #[.string s, .string t] rfl rfl (wanted_0 rfl) (fun w => run_ev (by simp [execOp, go_sem, evT_func, evT_tmp, put_some]) (by simp [execOp, go_sem, evT_func, evT_tmp, put_some, call_events Tryd.func54 (by kernel_rfl) rfl])) (by decide) (fun τ e => Calls.mono (big_checkBoth (tp pw τ e) s t) (by rintro e w1 ⟨rfl, rfl⟩; exact ⟨_, rfl, rfl, Below.refl _ _⟩)) (fun v w τ e τ' e' q => q) ?_
  rintro v p1 rfl b1
  refine leads_mv (some 6) rfl rfl rfl (.inr rfl) ?_
  refine leads_regionEnd ?_
  refine leads_seq ?_
  refine leads_region [0, 1] rfl ?_
  refine leads_mv (some 12) rfl rfl rfl (.inl rfl) ?_
  refine leads_pure (some 13) (.bool true) rfl rfl rfl (fun _ => neE_run (e := gchk2 s t) (f := 0) true (decide_eq_true h) (by simp [evT_tmp, put_some]) (by simp [evT_const])) ?_
  refine leads_regionEnd ?_
  refine leads_cond true (by simp [evT_tmp, put_some]) ?_
  refine leads_seq ?_
  refine leads_region [0, 1, 2] rfl ?_
  refine leads_mv (some 14) rfl rfl rfl (.inl rfl) ?_
  refine leads_mv (some 4) rfl rfl rfl (.inr rfl) ?_
  refine leads_mv (some 5) rfl rfl rfl (.inr rfl) ?_
  refine leads_regionEnd ?_
  refine leads_retD ?_
  rw [fdR_frm]
  refine leads_back Tryd.func24 (v := .tuple #[.string ⟨#[]⟩, .int .i64 (gchk2 s t)]) (fun w es => ?_) (leads_stop ⟨rfl, b1⟩)
  rw [res2 (f := Tryd.f24) (j := 4) (j' := 5) rfl]
  rfl
set_option maxRecDepth 100000 in
set_option maxHeartbeats 8000000 in
theorem mul_leads {pw : World} {s t : ByteArray} {a b : List Nat} (ha : Gd s a) (hb : Gd t b) (hT : Tbs N0 pw) :
    Leads Tryd.prog N0 (G (Frame.enter Tryd.prog 24 #[.string s, .string t] .normal) (c0 :: cs)) pw fun a' pw' => ∃ c, a' = G (c0.finish (.tuple #[.string (bsX (tx c)), .int .i64 0])) cs ∧ Gt c ∧ val c = val a * val b ∧ Blw pw pw' := by
  have hg : gchk2 s t = 0 := by unfold gchk2; rw [if_pos (gchk_ok ha)]; exact gchk_ok hb
  rw [enter_fd #[.string s, .string t] Tryd.func24 rfl (show 2 ≤ 26 by omega), Tryd.ntmps24]
  refine leads_seq ?_
  refine leads_region [0, 1] rfl ?_
  refine leads_mv (some 4) rfl rfl rfl (.inr rfl) ?_
  refine leads_mv (some 5) rfl rfl rfl (.inr rfl) ?_
  refine leads_regionEnd ?_
  refine leads_seq ?_
  refine leads_seq ?_
  refine leads_region [0, 1, 2, 3] rfl ?_
  refine leads_mv (some 9) rfl rfl rfl (.inl rfl) ?_
  refine leads_mv (some 10) rfl rfl rfl (.inl rfl) ?_
  refine leads_fn tAll (fun v _ => v = .int .i64 (gchk2 s t)) (some 11) 54 #[.string s, .string t] rfl rfl (wanted_0 rfl) (fun w => run_ev (by simp [execOp, go_sem, evT_func, evT_tmp, put_some]) (by simp [execOp, go_sem, evT_func, evT_tmp, put_some, call_events Tryd.func54 (by kernel_rfl) rfl])) (by decide) (fun τ e => Calls.mono (big_checkBoth (tp pw τ e) s t) (by rintro e w1 ⟨rfl, rfl⟩; exact ⟨_, rfl, rfl, Below.refl _ _⟩)) (fun v w τ e τ' e' q => q) ?_
  rintro v p1 rfl b1
  refine leads_mv (some 6) rfl rfl rfl (.inr rfl) ?_
  refine leads_regionEnd ?_
  refine leads_seq ?_
  refine leads_region [0, 1] rfl ?_
  refine leads_mv (some 12) rfl rfl rfl (.inl rfl) ?_
  refine leads_pure (some 13) (.bool false) rfl rfl rfl (fun _ => neE_run (e := gchk2 s t) (f := 0) false (decide_eq_false (by rw [hg]; decide)) (by simp [evT_tmp, put_some]) (by simp [evT_const])) ?_
  refine leads_regionEnd ?_
  refine leads_cond false (by simp [evT_tmp, put_some]) ?_
  refine leads_skip ?_
  refine leads_seq ?_
  refine leads_region [0, 1, 2, 3, 4, 5, 6, 7, 8, 9] rfl ?_
  refine leads_mv (some 16) rfl rfl rfl (.inl rfl) ?_
  refine leads_fn tAll (fun v w => ∃ X, IsU w v X ∧ Lm X ∧ lv X = val a ∧ 0 < X.length ∧ X.length ≤ 250) (some 17) 55 #[.string s] rfl rfl (wanted_0 rfl) (fun w => run_ev (by simp [execOp, go_sem, evT_func, evT_tmp, put_some]) (by simp [execOp, go_sem, evT_func, evT_tmp, put_some, call_events Tryd.func55 (by kernel_rfl) rfl])) (by decide) (fun τ e => Calls.mono (big_limbs (tp p1 τ e) s a ha) (by rintro e w1 ⟨u, X, rfl, q1, q2, q3, q4, q5, q6⟩; exact ⟨_, rfl, ⟨X, q1, q2, q3, q4, q5⟩, q6⟩)) (fun v w τ e τ' e' q => q) ?_
  rintro ux p2 ⟨X, hX, hxl, hxv, hx0, hx9⟩ b2
  refine leads_mv (some 18) rfl rfl rfl (.inl rfl) ?_
  refine leads_fn tAll (fun v w => ∃ Y, IsU w v Y ∧ Lm Y ∧ lv Y = val b ∧ 0 < Y.length ∧ Y.length ≤ 250) (some 19) 55 #[.string t] rfl rfl (wanted_0 rfl) (fun w => run_ev (by simp [execOp, go_sem, evT_func, evT_tmp, put_some]) (by simp [execOp, go_sem, evT_func, evT_tmp, put_some, call_events Tryd.func55 (by kernel_rfl) rfl])) (by decide) (fun τ e => Calls.mono (big_limbs (tp p2 τ e) t b hb) (by rintro e w1 ⟨u, X, rfl, q1, q2, q3, q4, q5, q6⟩; exact ⟨_, rfl, ⟨X, q1, q2, q3, q4, q5⟩, q6⟩)) (fun v w τ e τ' e' q => q) ?_
  rintro uy p3 ⟨Y, hY, hyl, hyv, hy0, hy9⟩ b3
  have hX3 := IsU.blw hX b3
  have hT3 : Tbs N0 p3 := ((hT.blw b1).blw b2).blw b3
  refine leads_fn tAll (fun v w => ∃ u, v = .tuple #[u, .int .i64 0] ∧ IsU w u (pM X Y)) (some 20) 26 #[ux, uy] rfl rfl (wanted_0 rfl) (fun w => run_ev (by simp [execOp, go_sem, evT_func, evT_tmp, put_some]) (by simp [execOp, go_sem, evT_func, evT_tmp, put_some, call_events Tryd.func26 (by kernel_rfl) rfl])) (by decide) (fun τ e => Calls.mono (conv_Linear_ok (tp p3 τ e) ux uy X Y (IsU.tp hX3 τ e) (IsU.tp hY τ e) hT3.tab (by omega) (by omega) (by omega)) (by rintro e w1 ⟨u, rfl, q1, q2⟩; exact ⟨_, rfl, ⟨u, rfl, q1⟩, q2⟩)) (fun v w τ e τ' e' q => q) ?_
  rintro _ p4 ⟨u, rfl, hU⟩ b4
  obtain ⟨m1, m2, m3⟩ := pM_limbs hxl hyl hx0 hy0 hx9
  have m4 := mul_bound hxl hyl hx0 hy0 hx9
  rw [hxv, hyv] at m3
  refine leads_mv (some 15) rfl rfl rfl (.inl rfl) ?_
  refine leads_extr (some 21) u rfl rfl rfl rfl (by simp [evT_tmp, put_some]; rfl) rfl ?_
  refine leads_extr (some 22) (.int .i64 0) rfl rfl rfl rfl (by simp [evT_tmp, put_some]; rfl) rfl ?_
  refine leads_mv (some 7) rfl rfl rfl (.inr rfl) ?_
  refine leads_mv (some 8) rfl rfl rfl (.inr rfl) ?_
  refine leads_regionEnd ?_
  refine leads_seq ?_
  refine leads_region [0, 1, 2, 3, 4] rfl ?_
  refine leads_mv (some 23) rfl rfl rfl (.inl rfl) ?_
  refine leads_fn tAll (fun v w => ∃ Z, IsU w v Z ∧ Lm Z ∧ Z.length = (pM X Y).length + 1 ∧ lv Z = lv (pM X Y)) (some 24) 57 #[u] rfl rfl (wanted_0 rfl) (fun w => run_ev (by simp [execOp, go_sem, evT_func, evT_tmp, put_some]) (by simp [execOp, go_sem, evT_func, evT_tmp, put_some, call_events Tryd.func57 (by kernel_rfl) rfl])) (by decide) (fun τ e => Calls.mono (big_carried (tp p4 τ e) u (pM X Y) (IsU.tp hU τ e) (fun i => by have := m2 i; omega) (by omega) m4) (by rintro e w1 ⟨u, Z, rfl, q1, q2, q3, q4, q5⟩; exact ⟨_, rfl, ⟨Z, q1, q2, q3, q4⟩, q5⟩)) (fun v w τ e τ' e' q => q) ?_
  rintro uz p5 ⟨Z, hZ, hzl, hz1, hzv⟩ b5
  have hT5 : Tbs N0 p5 := (hT3.blw b4).blw b5
  refine leads_enterD 56 #[uz] rfl rfl (fun w => run_ev (by simp [execOp, go_sem, evT_func, evT_tmp, put_some]) (by simp [execOp, go_sem, evT_func, evT_tmp, put_some, call_events Tryd.func56 (by kernel_rfl) rfl])) ?_
  refine Leads.then (text_leads hZ hzl (by omega) (by omega) hT5) ?_
  rintro a' p6 ⟨c, rfl, c1, c2, b6⟩
  rw [finish_arr _ _ _ _ _ _ _ _ _ _ rfl]
  refine leads_mv (some 4) rfl rfl rfl (.inr rfl) ?_
  refine leads_mv (some 5) rfl rfl rfl (.inr rfl) ?_
  refine leads_regionEnd ?_
  refine leads_retD ?_
  rw [fdR_frm]
  refine leads_back Tryd.func24 (v := .tuple #[.string (bsX (tx c)), .int .i64 0]) (fun w es => ?_) (leads_stop ⟨c, rfl, c1, by rw [c2, hzv, m3], ((((b1.trans b2).trans b3).trans b4).trans b5).trans b6⟩)
  rw [res2 (f := Tryd.f24) (j := 4) (j' := 5) rfl]
  rfl
end
end Go.Proofs.YtckoipoejaafhaaDoor.Cc
