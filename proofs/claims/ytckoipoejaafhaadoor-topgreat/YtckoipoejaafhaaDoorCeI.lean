/-
  The starter's loop of sends, its loop of closes, its way into Wait.
-/
import Derived.Test.YtckoipoejaafhaaDoorCeH
import Derived.Test.YtckoipoejaafhaaDoorCcWaAll
import Derived.Conc.TokenWalk
namespace Go.Proofs.YtckoipoejaafhaaDoor.Cc
open Go Go.Conc Go.RowKit Go.Conc.Lib Go.ConcR.Gen
open Go.ConcN (WgLive PayAt)
open Go.ConcR (Payload KK WgAt stA smA rd wr mk)
theorem get3o_run {w : World} {ρ : Operand → Value} {x : Operand} {d : Option Tmp} {ty : TypeId} {pos : String} {af : Array Edge} {gd : Option (Nat × Bool)} {B o : Nat} {v0 v1 v2 : Value} (hx : ρ x = .pointer (some ⟨B, o, none⟩)) (c0 : w.cell? ⟨B, o, none⟩ = some v0) (c1 : w.cell? ⟨B, o + 1, none⟩ = some v1) (c2 : w.cell? ⟨B, o + 2, none⟩ = some v2) :
    (execOp ρ ⟨d, .load 71 x, ty, pos, af, gd⟩).runT Tryd.prog w #[] = (.ok (.value (.agg #[v0, v1, v2])) w, #[⟨.cell ⟨B, o, none⟩, false, false⟩, ⟨.cell ⟨B, o + 1, none⟩, false, false⟩, ⟨.cell ⟨B, o + 2, none⟩, false, false⟩]) := by
  apply run_ev
  · simp [execOp, go_sem, hx, c0, c1, c2]
  · simp [execOp, go_sem, hx, c0, c1, c2]
theorem idxC_run {w : World} {ρ : Operand → Value} {x y : Operand} {d : Option Tmp} {ty : TypeId} {pos : String} {af : Array Edge} {gd : Option (Nat × Bool)} {b l c m : Nat} (hx : ρ x = .slice (some ⟨b, 0, none⟩) l c) (hy : ρ y = .int .i64 (m : Int)) (hm : m < l) :
    (execOp ρ ⟨d, .indexAddr 112 x y, ty, pos, af, gd⟩).runT Tryd.prog w #[] = (.ok (.value (.pointer (some ⟨b, m, none⟩))) w, #[]) := by
  apply run_ev
  · simp [execOp, go_sem, hx, hy, hm]
  · simp [execOp, go_sem, hx, hy, hm]
theorem idxT_run {w : World} {ρ : Operand → Value} {x y : Operand} {d : Option Tmp} {ty : TypeId} {pos : String} {af : Array Edge} {gd : Option (Nat × Bool)} {b o l c m : Nat} (hx : ρ x = .slice (some ⟨b, o, none⟩) l c) (hy : ρ y = .int .i64 (m : Int)) (hm : m < l) :
    (execOp ρ ⟨d, .indexAddr 69 x y, ty, pos, af, gd⟩).runT Tryd.prog w #[] = (.ok (.value (.pointer (some ⟨b, o + 3 * m, none⟩))) w, #[]) := by
  apply run_ev
  · simp [execOp, go_sem, hx, hy, hm, Nat.mul_comm]
  · simp [execOp, go_sem, hx, hy, hm]
noncomputable def snO : Array Oper := rgo (sq2 (blk (sq1 (sq2 (sq2 wL2)))))
theorem sn_dep : depOk snO = true := by kernel_rfl
theorem sn_lt : depLt snO = true := by kernel_rfl
theorem sn_ns : Region.noSelect snO = true := by kernel_rfl
theorem sn_size : snO.size = 8 := by kernel_rfl
theorem sn_all {listed : Array Bool} (hs : listed.size = snO.size) (hr : 7 ∈ Region.ready .any snO listed) (hcl : Clo snO listed) : ∀ i, i < (listed.setIfInBounds 7 true).size → (listed.setIfInBounds 7 true)[i]? = some true := by
  have l5 := ready_dp (b := 5) hr (by kernel_rfl)
  have l6 := ready_dp (b := 6) hr (by kernel_rfl)
  have l3 := ready_dp (b := 3) hr (by kernel_rfl)
  have l4 := hcl.at_ (b := 4) l5 (by kernel_rfl)
  have l0 := hcl.at_ (b := 0) l4 (by kernel_rfl)
  have l1 := hcl.at_ (b := 1) l3 (by kernel_rfl)
  have l2 := hcl.at_ (b := 2) l3 (by kernel_rfl)
  intro i hi
  rw [Array.size_setIfInBounds, hs, sn_size] at hi
  match i, hi with
  | 0, _ => exact set_true l0
  | 1, _ => exact set_true l1
  | 2, _ => exact set_true l2
  | 3, _ => exact set_true l3
  | 4, _ => exact set_true l4
  | 5, _ => exact set_true l5
  | 6, _ => exact set_true l6
  | 7, _ => rw [Array.getElem?_setIfInBounds, if_pos rfl, if_pos (by rw [hs, sn_size]; omega)]
theorem sn_dst (i : Nat) (o : Oper) (h : snO[i]? = some o) (d : Nat) (hd : d < 43) : o.dst ≠ some d := by
  have hc : ((List.range 8).all fun i => ((snO[i]?).bind (·.dst)).all fun d => decide (43 ≤ d)) = true := by kernel_rfl
  have hi := (Array.getElem?_eq_some_iff.1 h).1
  rw [sn_size] at hi
  simp only [List.all_eq_true, List.mem_range] at hc
  have := hc i hi
  rw [h, Option.bind_some] at this
  intro e
  rw [e] at this
  have h2 : decide (43 ≤ d) = true := this
  simp only [decide_eq_true_eq] at h2
  omega
theorem sn_comm {σ : Nat → Value} {c : Nat} {v : Value} {q : List Item} {cs0 : List Frame} (h48 : evT (arr 61 σ) (.tmp 48) = .chan (some c)) (h49 : evT (arr 61 σ) (.tmp 49) = v) (w : World) :
    stepG Tryd.prog true (G (fd false 37 61 [] σ (.inRegion snO [7] :: q)) cs0) w = .comm (G (fd false 37 61 [] σ (.inRegion snO [7] :: q)) cs0) #[scase c v (.tuple #[])] true .send w #[] := by
  have e2 : ∀ ρ, execOp ρ snO[7] = execOp ρ ⟨none, .send (.tmp 48) (.tmp 49), 0, "", #[], none⟩ := fun _ => rfl
  have hr : (execOp (evT (arr 61 σ)) snO[7]).runT Tryd.prog w #[] = (.ok (.comm #[scase c v (.tuple #[])] true .send) w, #[]) := by
    rw [e2]
    apply run_ev
    · simp [execOp, go_sem, h48, h49, scase]
    · simp [execOp, go_sem, h48]
  rw [sd_oper (rfl : snO[7]? = some _) rfl]
  unfold stepG.apply
  dsimp only
  rw [if_pos rfl, hr]
  simp [fd, G, GStep.after, seen]
theorem sn_served (σ : Nat → Value) (v : Value) (q : List Item) (cs0 : List Frame) : Go.Conc.served (G (fd false 37 61 [] σ (.inRegion snO [7] :: q)) cs0) v = G (fd false 37 61 [] σ (.inRegion snO [] :: q)) cs0 := by
  unfold Go.Conc.served
  simp only [G]
  rw [finish_arr _ _ _ _ _ _ _ _ _ _ (rfl : snO[7]? = some _)]
  rfl
def snFin (σ0 : Nat → Value) (Cc n i c : Nat) (t : List Int) : Nat → Value := fun j =>
  if j = 43 then .slice (some ⟨Cc, 0, none⟩) n n else if j = 44 then .int .i64 (i : Int) else if j = 45 then .int .i64 (n : Int) else if j = 46 then .int .i64 ((i % n : Nat) : Int) else if j = 47 then .pointer (some ⟨Cc, i % n, none⟩) else if j = 48 then .chan (some c) else if j = 49 then tkV t else σ0 j
section
variable {Sh Ow : Nat → Prop} {Cc n i c B Wg : Nat} {t : List Int} {σ0 : Nat → Value} {w : World} {Stop : Stp} {q : List Item} {cs0 : List Frame}
theorem sn_fin : ∀ d, (∀ (i : Nat) (o : Oper), snO[i]? = some o → o.dst ≠ some d) → snFin σ0 Cc n i c t d = σ0 d := by
  intro d h
  unfold snFin
  rw [if_neg fun e => h 0 _ (rfl : snO[0]? = some _) (by rw [e]; rfl)]
  rw [if_neg fun e => h 1 _ (rfl : snO[1]? = some _) (by rw [e]; rfl)]
  rw [if_neg fun e => h 2 _ (rfl : snO[2]? = some _) (by rw [e]; rfl)]
  rw [if_neg fun e => h 3 _ (rfl : snO[3]? = some _) (by rw [e]; rfl)]
  rw [if_neg fun e => h 4 _ (rfl : snO[4]? = some _) (by rw [e]; rfl)]
  rw [if_neg fun e => h 5 _ (rfl : snO[5]? = some _) (by rw [e]; rfl)]
  rw [if_neg fun e => h 6 _ (rfl : snO[6]? = some _) (by rw [e]; rfl)]
theorem sn_hop (s12 : σ0 12 = .slice (some ⟨Cc, 0, none⟩) n n) (s16 : σ0 16 = .int .i64 (i : Int)) (s3 : σ0 3 = .int .i64 (n : Int)) (s17 : σ0 17 = .pointer (some ⟨B, 0, none⟩)) (hn : ¬ n = 0) (hCc : Ow Cc) (hB : Ow B) (hcc : w.cell? ⟨Cc, i % n, none⟩ = some (.chan (some c))) (hbb : w.heap[B]? = some (.cells #[.int .i64 (t.getD 0 0), .int .i64 (t.getD 1 0), .int .i64 (t.getD 2 0)] 71)) : ∀ (j : Nat) (o : Oper), snO[j]? = some o → ¬ (j = 7) → ∃ u, (∀ d, o.dst = some d → u = snFin σ0 Cc n i c t d) ∧
    ∀ σ rest, execOp (evT (arr 61 σ)) o = execOp (evT (arr 61 (snFin σ0 Cc n i c t))) o → Wy Tryd.prog true Wg 0 (I0 wgLink.tWg Wg) Sh Stop Ow (G (fd false 37 61 [] (put σ o.dst u) (.inRegion snO rest :: q)) cs0) w → Wy Tryd.prog true Wg 0 (I0 wgLink.tWg Wg) Sh Stop Ow (G (fd false 37 61 [] σ (.inRegion snO (j :: rest) :: q)) cs0) w
  | 0, o, ho, _ => by
    have e : snO[0]? = some _ := rfl
    rw [e] at ho
    cases ho
    refine ⟨.slice (some ⟨Cc, 0, none⟩) n n, fun d hd => by cases hd; rfl, fun σ rest he h => ?_⟩
    refine wy_val _ _ (rfl : snO[0]? = some _) rfl rfl (fun w₁ k₁ => ?_) h
    have e2 : ∀ ρ, execOp ρ snO[0] = execOp ρ ⟨none, .move (.tmp 12), 0, "", #[], none⟩ := fun _ => rfl
    rw [he, e2]
    exact ⟨#[], run_ev (by simp [execOp, evT_tmp, snFin, s12]) (by simp [execOp]), by simp⟩
  | 1, o, ho, _ => by
    have e : snO[1]? = some _ := rfl
    rw [e] at ho
    cases ho
    refine ⟨.int .i64 (i : Int), fun d hd => by cases hd; rfl, fun σ rest he h => ?_⟩
    refine wy_val _ _ (rfl : snO[1]? = some _) rfl rfl (fun w₁ k₁ => ?_) h
    have e2 : ∀ ρ, execOp ρ snO[1] = execOp ρ ⟨none, .move (.tmp 16), 0, "", #[], none⟩ := fun _ => rfl
    rw [he, e2]
    exact ⟨#[], run_ev (by simp [execOp, evT_tmp, snFin, s16]) (by simp [execOp]), by simp⟩
  | 2, o, ho, _ => by
    have e : snO[2]? = some _ := rfl
    rw [e] at ho
    cases ho
    refine ⟨.int .i64 (n : Int), fun d hd => by cases hd; rfl, fun σ rest he h => ?_⟩
    refine wy_val _ _ (rfl : snO[2]? = some _) rfl rfl (fun w₁ k₁ => ?_) h
    have e2 : ∀ ρ, execOp ρ snO[2] = execOp ρ ⟨none, .move (.tmp 3), 0, "", #[], none⟩ := fun _ => rfl
    rw [he, e2]
    exact ⟨#[], run_ev (by simp [execOp, evT_tmp, snFin, s3]) (by simp [execOp]), by simp⟩
  | 3, o, ho, _ => by
    have e : snO[3]? = some _ := rfl
    rw [e] at ho
    cases ho
    refine ⟨.int .i64 ((i % n : Nat) : Int), fun d hd => by cases hd; rfl, fun σ rest he h => ?_⟩
    have e2 : ∀ ρ, execOp ρ snO[3] = execOp ρ ⟨none, .call { callee := .value (.func 81), args := #[.tmp 44, .tmp 45], argTypes := #[] }, 0, "", #[], none⟩ := fun _ => rfl
    refine wy_call 81 #[.int .i64 (i : Int), .int .i64 (n : Int)] (rfl : snO[3]? = some _) rfl (fun w₁ => by
      rw [he, e2]
      exact run_ev (by simp [execOp, go_sem, evT_tmp, evT_func, snFin]) (by simp [execOp, go_sem, evT_tmp, evT_func, snFin, call_events Tryd.func81 (by kernel_rfl) rfl])) ?_
    rw [enter_fd #[.int .i64 (i : Int), .int .i64 (n : Int)] Tryd.func81 rfl (show 2 ≤ 8 by omega)]
    refine wy_seq ?_
    refine wy_region [0] rfl ?_
    refine wy_as (some 4) rfl rfl rfl rfl ?_
    refine wy_regionEnd ?_
    refine wy_seq ?_
    refine wy_region [0, 1, 2, 3] rfl ?_
    refine wy_mv (some 5) rfl rfl rfl rfl ?_
    refine wy_mv (some 6) rfl rfl rfl rfl ?_
    refine wy_pure (some 7) (.int .i64 ((i % n : Nat) : Int)) rfl rfl rfl (fun _ => rem_run (i := i) (n := n) rfl rfl hn) ?_
    refine wy_as (some 4) rfl rfl rfl rfl ?_
    refine wy_regionEnd ?_
    refine wy_ret ?_
    rw [fdR_frm]
    refine wy_back _ _ (rfl : snO[3]? = some _) rfl Tryd.func81 (fun w es => ?_) h
    rw [res1 (j := 4) rfl]
    show (Result.ok (evT (arr 8 _) (.tmp 4)) w, es) = _
    simp [evT_tmp, put_some]
  | 4, o, ho, _ => by
    have e : snO[4]? = some _ := rfl
    rw [e] at ho
    cases ho
    refine ⟨.pointer (some ⟨Cc, i % n, none⟩), fun d hd => by cases hd; rfl, fun σ rest he h => ?_⟩
    refine wy_val _ _ (rfl : snO[4]? = some _) rfl rfl (fun w₁ k₁ => ?_) h
    have e2 : ∀ ρ, execOp ρ snO[4] = execOp ρ ⟨none, .indexAddr 112 (.tmp 43) (.tmp 46), 0, "", #[], none⟩ := fun _ => rfl
    have hin : i % n < n := Nat.mod_lt _ (by omega)
    rw [he, e2]
    exact ⟨#[], idxC_run (c := n) (by simp [evT_tmp, snFin]) (by simp [evT_tmp, snFin]) hin, by simp⟩
  | 5, o, ho, _ => by
    have e : snO[5]? = some _ := rfl
    rw [e] at ho
    cases ho
    refine ⟨.chan (some c), fun d hd => by cases hd; rfl, fun σ rest he h => ?_⟩
    refine wy_get1 _ ⟨Cc, i % n, none⟩ _ (rfl : snO[5]? = some _) rfl rfl (.inr hCc) (fun w₁ k₁ => ?_) h
    have e2 : ∀ ρ, execOp ρ snO[5] = execOp ρ ⟨none, .load 122 (.tmp 47), 0, "", #[], none⟩ := fun _ => rfl
    rw [he, e2]
    exact getC_run (by simp [evT_tmp, snFin]) (cell_same hcc (k₁.kept.block Cc (.inr hCc)))
  | 6, o, ho, _ => by
    have e : snO[6]? = some _ := rfl
    rw [e] at ho
    cases ho
    refine ⟨tkV t, fun d hd => by cases hd; rfl, fun σ rest he h => ?_⟩
    refine wy_val _ _ (rfl : snO[6]? = some _) rfl rfl (fun w₁ k₁ => ?_) h
    have e2 : ∀ ρ, execOp ρ snO[6] = execOp ρ ⟨none, .load 71 (.tmp 17), 0, "", #[], none⟩ := fun _ => rfl
    rw [he, e2]
    refine ⟨_, get3_run (by simp [evT_tmp, snFin, s17]) ((k₁.kept.block B (.inr hB)).trans hbb), fun e he => ?_⟩
    simp only [List.mem_toArray, List.mem_cons, List.not_mem_nil, or_false] at he
    rcases he with rfl | rfl | rfl <;> exact ⟨_, rfl, rfl, rfl, .inr hB⟩
  | 7, _, _, hn => absurd rfl hn
  | j + 8, o, ho, _ => by
    have h1 := (Array.getElem?_eq_some_iff.1 ho).1
    rw [sn_size] at h1
    omega
end
theorem sendL_drop (n : Nat) (TT : List (List Int)) {i : Nat} (h : i < TT.length) : (sendL n TT).drop i = (i % n, tkV (TT.getD i [])) :: (sendL n TT).drop (i + 1) := by
  have hl : i < (sendL n TT).length := by simp [sendL, h]
  rw [List.drop_eq_getElem_cons hl]
  congr 1
  simp [sendL, List.getD, h]
section
variable {dl : List Nat} {zs : List Int} {vz va : Value} {xs : List Nat} {back : Bool} {C n Cc Wg bs ba bb bp : Nat} {TT : List (List Int)} {bh oh ch : Nat} {Od : Nat → Prop} {w0 : World} {gA : Goroutine → Prop} {Fx : (Nat → Prop) → (Nat → Prop) → World → Prop} {cs0 : List Frame} {cs : List Nat} {Sh : Nat → Prop}
set_option maxRecDepth 100000 in
set_option maxHeartbeats 4000000 in
theorem send_way (hn : ¬ n = 0) (hm : Tryd.prog.follows .mixedOrders = true) (hcs : cs.length = n) (hTT : TT.length < 1000000)
    (hclose : ∀ (Ow : Nat → Prop) (w : World) (σ : Nat → Value), Sg n bs ba bb bp Cc Wg (.slice (some ⟨bh, oh, none⟩) TT.length ch) σ → Es dl zs vz va xs back C n bs ba bb bp TT bh oh Od w0 Sh w → Cs Wg Cc n cs Sh Ow w → WgLive wgLink.tWg Wg w →
      Wy Tryd.prog true Wg 0 (I0 wgLink.tWg Wg) Sh (MClose Tryd.prog wgLink.tWg Wg Sh gA Fx cs) Ow (G (fd false 37 61 [] σ [.code wc6]) cs0) w) :
    ∀ (r i : Nat) (Ow : Nat → Prop) (w : World) (σ : Nat → Value), i + r = TT.length → Sg n bs ba bb bp Cc Wg (.slice (some ⟨bh, oh, none⟩) TT.length ch) σ → σ 36 = .slice (some ⟨bh, oh, none⟩) TT.length ch → σ 37 = .int .i64 (TT.length : Int) → σ 38 = .int .i64 (i : Int) → Es dl zs vz va xs back C n bs ba bb bp TT bh oh Od w0 Sh w → Cs Wg Cc n cs Sh Ow w → WgLive wgLink.tWg Wg w →
      Wy Tryd.prog true Wg 0 (I0 wgLink.tWg Wg) Sh (MSend Tryd.prog wgLink.tWg Wg Sh gA Fx cs ((sendL n TT).drop i)) Ow (G (fd false 37 61 [] σ [.code wL2, .inLoop wL2, .inBlock 2, .code wc6]) cs0) w := by
  intro r
  induction r with
  | zero =>
    intro i Ow w σ hr hS h36 h37 h38 hE hC hl
    have e0 : (sendL n TT).drop i = [] := by simp [sendL]; omega
    rw [e0]
    refine wy_seq ?_
    refine wy_region [0] rfl ?_
    refine wy_pure (some 39) (.bool false) rfl rfl rfl (fun _ => lss_run (i := (i : Int)) (j := (TT.length : Int)) false (by simp [evT_tmp, h38]) (by simp [evT_tmp, h37]) (decide_eq_false (by omega))) ?_
    refine wy_regionEnd ?_
    refine wy_seq ?_
    refine wy_cond false (by simp [evT_tmp, put_some]) ?_
    refine wy_exit rfl ?_
    exact hclose Ow w _ (hS.of rfl rfl rfl rfl rfl rfl rfl rfl) hE hC hl
  | succ r ih =>
    intro i Ow w σ hr hS h36 h37 h38 hE hC hl
    have hi : i < TT.length := by omega
    rw [sendL_drop n TT hi]
    refine wy_seq ?_
    refine wy_region [0] rfl ?_
    refine wy_pure (some 39) (.bool true) rfl rfl rfl (fun _ => lss_run (i := (i : Int)) (j := (TT.length : Int)) true (by simp [evT_tmp, h38]) (by simp [evT_tmp, h37]) (decide_eq_true (by omega))) ?_
    refine wy_regionEnd ?_
    refine wy_seq ?_
    refine wy_cond true (by simp [evT_tmp, put_some]) ?_
    refine wy_skip ?_
    refine wy_seq ?_
    refine wy_block ?_
    refine wy_seq ?_
    refine wy_region [0, 1, 2, 3, 4, 5] rfl ?_
    refine wy_mv (some 40) rfl rfl rfl rfl ?_
    refine wy_pure (some 41) (.pointer (some ⟨bh, oh + 3 * i, none⟩)) rfl rfl rfl (fun _ => idxT_run (b := bh) (o := oh) (l := TT.length) (c := ch) (m := i) (by simp [evT_tmp, put_some, h36]) (by simp [evT_tmp, put_some, h38]) hi) ?_
    have hsh := hE.h (by omega)
    refine wy_val (some 42) (tkV (TT.getD i [])) rfl rfl rfl (fun w₁ k₁ => ⟨_, get3o_run (by simp [evT_tmp, put_some]) (cell_same (hE.tk i hi 0 (by omega)) (k₁.kept.block bh (.inl hsh))) (cell_same (hE.tk i hi 1 (by omega)) (k₁.kept.block bh (.inl hsh))) (cell_same (hE.tk i hi 2 (by omega)) (k₁.kept.block bh (.inl hsh))), fun e he => ?_⟩) ?_
    · simp only [List.mem_toArray, List.mem_cons, List.not_mem_nil, or_false] at he
      rcases he with rfl | rfl | rfl <;> exact ⟨_, rfl, rfl, rfl, .inl hsh⟩
    refine wy_new (some 17) (fun B => .pointer (some ⟨B, 0, none⟩)) (.cells #[.int .i64 0, .int .i64 0, .int .i64 0] 71) rfl rfl rfl (fun w₁ => run_ev (by simp [execOp, go_sem]) (by simp [execOp, go_sem])) (fun w₁ k₁ => ?_)
    have hJ1 := ((Jn.refl hC.sep).kept k₁.kept).new (.cells #[.int .i64 0, .int .i64 0, .int .i64 0] 71)
    have hcc1 := at_alloc (o' := .cells #[.int .i64 0, .int .i64 0, .int .i64 0] 71) (at_kept k₁ hC.cc.1 hC.cc.2)
    have hb1 := alloc_at w₁ (.cells #[.int .i64 0, .int .i64 0, .int .i64 0] 71)
    have hz1 : w.heap.size ≤ w₁.heap.size := k₁.kept.size
    generalize w₁.alloc (.cells #[.int .i64 0, .int .i64 0, .int .i64 0] 71) = wA at hJ1 hcc1 hb1
    generalize w₁.heap.size = B at hJ1 hb1 hz1
    clear k₁
    have hcB : Cc ≠ B := fun e => by have := hC.lt Cc hC.cc.1; omega
    have hWB : Wg ≠ B := fun e => by have := hC.wg.2.2; omega
    refine wy_as (some 16) rfl rfl rfl rfl ?_
    refine wy_set none B (set3 B (.int .i64 ((TT.getD i []).getD 0 0)) (.int .i64 ((TT.getD i []).getD 1 0)) (.int .i64 ((TT.getD i []).getD 2 0))) rfl rfl rfl (.inr rfl) (fun w₂ k₂ => ?_) (fun w₂ k₂ => ?_)
    · refine ⟨_, set3_run (a := (TT.getD i []).getD 0 0) (b := (TT.getD i []).getD 1 0) (c := (TT.getD i []).getD 2 0) (by simp [evT_tmp, put_some]) (by simp [evT_tmp, put_some, tkV]) (at_kept k₂ (.inr rfl) hb1), fun e he => ?_, rfl, rfl, rfl, set3_size _ _ _ _ _, fun b hb => set3_other _ _ _ _ _ hb⟩
      simp only [List.mem_toArray, List.mem_cons, List.not_mem_nil, or_false] at he
      rcases he with rfl | rfl | rfl <;> exact ⟨_, rfl, rfl, rfl⟩
    have hJ3 := (hJ1.kept k₂.kept).set3 (B := B) (.inr rfl) (.int .i64 ((TT.getD i []).getD 0 0)) (.int .i64 ((TT.getD i []).getD 1 0)) (.int .i64 ((TT.getD i []).getD 2 0))
    have hB3 := set3_at (.int .i64 ((TT.getD i []).getD 0 0)) (.int .i64 ((TT.getD i []).getD 1 0)) (.int .i64 ((TT.getD i []).getD 2 0)) (at_kept k₂ (.inr rfl) hb1)
    have hcc3 : (set3 B (.int .i64 ((TT.getD i []).getD 0 0)) (.int .i64 ((TT.getD i []).getD 1 0)) (.int .i64 ((TT.getD i []).getD 2 0)) w₂).heap[Cc]? = _ := (set3_other B _ _ _ w₂ hcB).trans (at_kept k₂ (.inl hC.cc.1) hcc1)
    have hl3 : WgLive wgLink.tWg Wg (set3 B (.int .i64 ((TT.getD i []).getD 0 0)) (.int .i64 ((TT.getD i []).getD 1 0)) (.int .i64 ((TT.getD i []).getD 2 0)) w₂) := live_set (live_set (live_set k₂.inv hWB) hWB) hWB
    generalize set3 B (.int .i64 ((TT.getD i []).getD 0 0)) (.int .i64 ((TT.getD i []).getD 1 0)) (.int .i64 ((TT.getD i []).getD 2 0)) w₂ = w3 at hJ3 hB3 hcc3 hl3
    clear k₂ hJ1 hb1 hcc1
    have hC3 : Cs Wg Cc n cs Sh (fun b => Ow b ∨ b = B) w3 := by
      refine ⟨⟨.inl hC.cc.1, hcc3⟩, hJ3.sep, ⟨hC.wg.1, ?_, Nat.lt_of_lt_of_le hC.wg.2.2 hJ3.size⟩, ?_⟩
      · rintro (h | h)
        · exact hC.wg.2.1 h
        · exact hWB h
      · rintro b (h | h)
        · exact Nat.lt_of_lt_of_le (hC.lt b h) hJ3.size
        · subst h; exact lt_of_at hB3
    have hE3 := hE.keep hJ3.at_
    obtain ⟨c, hc⟩ : ∃ c, cs[i % n]? = some c := ⟨_, List.getElem?_eq_getElem (by rw [hcs]; exact Nat.mod_lt _ (by omega))⟩
    have hcell : w3.cell? ⟨Cc, i % n, none⟩ = some (.chan (some c)) := by simp [World.cell?, hcc3, chRow_get hc]
    refine wy_regionEnd ?_
    refine wy_draw (id := 15) (ops := snO) (fun _ _ h => h) (fun t => ?_)
    rw [sched_ord hm]
    refine wy_ord (fin := snFin _ Cc n i c (TT.getD i [])) (σ0 := _) sn_dep sn_lt sn_ns sn_fin (fun j => j = 7) ⟨7, by rw [sn_size]; omega, rfl⟩ (Array.replicate snO.size false) (fun j o ho hnj _ => sn_hop (B := B) (c := c) (by simp [put_some, put_none, hS.s12]) (by simp [put_some, put_none, evT_tmp, h38]) (by simp [put_some, put_none, hS.s3]) (by simp [put_some, put_none]) hn (.inl hC.cc.1) (.inr rfl) hcell hB3 j o ho hnj) (fun j o fuel t' listed σ' hj ho hr hs hu h0 hsu hcl hAg he => ?_) _ t _ _ (by simp) (unl_start _) (fun _ h => h) (fun _ _ => rep_not _ _) (Clo.start _) (Ag.start _ _ _)
    subst hj
    have e7 : o = snO[7] := by
      have : snO[7]? = some snO[7] := rfl
      rw [this] at ho
      exact (Option.some.inj ho).symm
    subst e7
    have hf : fuel = 0 := by
      have h1 := unl_set (ready_false hs hr)
      rw [unl_all (sn_all hs hr hcl)] at h1
      omega
    subst hf
    have hfin := hAg.evs (n := 61) sn_dep sn_fin ho hr
    have hops : snO[7].op.operands = #[.tmp 48, .tmp 49] := rfl
    have h48 := hfin (.tmp 48) (by rw [hops]; simp)
    have h49 := hfin (.tmp 49) (by rw [hops]; simp)
    have hsame : ∀ d, d < 43 → σ' d = _ := fun d hd => hAg.non d fun i o h1 h2 => absurd h2 (sn_dst i o h1 d hd)
    refine wy_stop (fun w₄ k₄ => ⟨rfl, c, .tuple #[], _, hc, fun w' => sn_comm (h48.trans (by simp [evT_tmp, snFin])) (h49.trans (by simp [evT_tmp, snFin])) w', ?_⟩)
    rw [sn_served]
    refine wy_regionEnd ?_
    refine wy_inBlock ?_
    refine wy_region [0, 1] rfl ?_
    refine wy_pure (some 50) (.int .i64 ((i + 1 : Nat) : Int)) rfl rfl rfl (fun w₈ => add1_run (i := i) (by simp [evT_tmp, hsame, put_some, put_none, h38]) rfl (by omega)) ?_
    refine wy_mv (some 38) rfl rfl rfl rfl ?_
    refine wy_regionEnd ?_
    refine wy_inLoop ?_
    refine ih (i + 1) _ w₄ _ (by omega) (hS.of ?_ ?_ ?_ ?_ ?_ ?_ ?_ ?_) ?_ ?_ (by simp [evT_tmp, put_some]) (hE3.keep fun b hb => k₄.kept.block b (.inl hb)) (hC3.keep k₄.kept) k₄.inv
    all_goals simp [put_some, put_none, hsame, h36, h37]
noncomputable def clsO : Array Oper := rgo (sq2 (blk (sq1 (sq2 (sq2 wL3)))))
theorem loudW : (Tryd.prog.funcs[37]?).any (·.norace) = false := by kernel_rfl
theorem cls_step {σ : Nat → Value} {c cap s r : Nat} {buf : Array Value} {tm : Bool} {q : List Item} {w : World} (h : σ 57 = .chan (some c)) (hc : w.heap[c]? = some (.chan cap buf false s r tm)) :
    stepG Tryd.prog true (G (fd false 37 61 [] σ (.inRegion clsO [1] :: q)) cs0) w = .go (G (fd false 37 61 [] σ (.inRegion clsO [] :: q)) cs0) (w.setChan c cap buf true s r tm) #[⟨.obj c, false, true⟩, ⟨.obj c, true, true⟩] := by
  have e1 : Act.eval ⟨arr 61 σ, []⟩ (.tmp 57) = evT (arr 61 σ) (.tmp 57) := rfl
  exact (stepG_close (P := Tryd.prog) (main := true) (b := base 37) (a := ⟨arr 61 σ, []⟩) (kk := q) (cs := cs0) (rest := []) (rfl : clsO[1]? = some _) rfl (by simp [base]) (x := .tmp 57) rfl (by rw [e1]; simp [evT_tmp, h]) hc loudW).trans rfl
set_option maxRecDepth 100000 in
set_option maxHeartbeats 4000000 in
theorem close_way (hn8 : n ≤ 8) (hcs : cs.length = n)
    (hwait : ∀ (Ow : Nat → Prop) (w : World) (σ : Nat → Value), Sg n bs ba bb bp Cc Wg (.slice (some ⟨bh, oh, none⟩) TT.length ch) σ → Es dl zs vz va xs back C n bs ba bb bp TT bh oh Od w0 Sh w → Cs Wg Cc n cs Sh Ow w → WgLive wgLink.tWg Wg w →
      Wy Tryd.prog true Wg 0 (I0 wgLink.tWg Wg) Sh (MKd Tryd.prog wgLink.tWg Wg Sh gA Fx) Ow (G (fd false 37 61 [] σ [.code wc7]) cs0) w) :
    ∀ (r i : Nat) (Ow : Nat → Prop) (w : World) (σ : Nat → Value), i + r = n → Sg n bs ba bb bp Cc Wg (.slice (some ⟨bh, oh, none⟩) TT.length ch) σ → σ 51 = .slice (some ⟨Cc, 0, none⟩) n n → σ 52 = .int .i64 (n : Int) → σ 53 = .int .i64 (i : Int) → Es dl zs vz va xs back C n bs ba bb bp TT bh oh Od w0 Sh w → Cs Wg Cc n cs Sh Ow w → WgLive wgLink.tWg Wg w →
      Wy Tryd.prog true Wg 0 (I0 wgLink.tWg Wg) Sh (MClose Tryd.prog wgLink.tWg Wg Sh gA Fx (cs.drop i)) Ow (G (fd false 37 61 [] σ [.code wL3, .inLoop wL3, .inBlock 4, .code wc7]) cs0) w := by
  intro r
  induction r with
  | zero =>
    intro i Ow w σ hr hS h51 h52 h53 hE hC hl
    have e0 : cs.drop i = [] := by rw [List.drop_eq_nil_iff]; omega
    rw [e0]
    refine wy_seq ?_
    refine wy_region [0] rfl ?_
    refine wy_pure (some 54) (.bool false) rfl rfl rfl (fun _ => lss_run (i := (i : Int)) (j := (n : Int)) false (by simp [evT_tmp, h53]) (by simp [evT_tmp, h52]) (decide_eq_false (by omega))) ?_
    refine wy_regionEnd ?_
    refine wy_seq ?_
    refine wy_cond false (by simp [evT_tmp, put_some]) ?_
    refine wy_exit rfl ?_
    exact hwait Ow w _ (hS.of rfl rfl rfl rfl rfl rfl rfl rfl) hE hC hl
  | succ r ih =>
    intro i Ow w σ hr hS h51 h52 h53 hE hC hl
    have hi : i < cs.length := by omega
    have hin : i < n := by omega
    rw [List.drop_eq_getElem_cons hi]
    have hci : cs[i]? = some cs[i] := List.getElem?_eq_getElem hi
    generalize cs[i] = c at hci
    have hcell : w.cell? ⟨Cc, i, none⟩ = some (.chan (some c)) := by simp [World.cell?, hC.cc.2, chRow_get hci]
    refine wy_seq ?_
    refine wy_region [0] rfl ?_
    refine wy_pure (some 54) (.bool true) rfl rfl rfl (fun _ => lss_run (i := (i : Int)) (j := (n : Int)) true (by simp [evT_tmp, h53]) (by simp [evT_tmp, h52]) (decide_eq_true (by omega))) ?_
    refine wy_regionEnd ?_
    refine wy_seq ?_
    refine wy_cond true (by simp [evT_tmp, put_some]) ?_
    refine wy_skip ?_
    refine wy_seq ?_
    refine wy_block ?_
    refine wy_seq ?_
    refine wy_region [0, 1, 2] rfl ?_
    refine wy_pure (some 55) (.pointer (some ⟨Cc, i, none⟩)) rfl rfl rfl (fun _ => idxC_run (b := Cc) (l := n) (c := n) (m := i) (by simp [evT_tmp, put_some, h51]) (by simp [evT_tmp, put_some, h53]) hin) ?_
    refine wy_get1 (some 56) ⟨Cc, i, none⟩ (.chan (some c)) rfl rfl rfl (.inr hC.cc.1) (fun w₁ k₁ => getC_run (by simp [evT_tmp, put_some]) (cell_same hcell (k₁.kept.block Cc (.inr hC.cc.1)))) ?_
    refine wy_as (some 19) rfl rfl rfl rfl ?_
    refine wy_regionEnd ?_
    refine wy_region [0, 1] rfl ?_
    refine wy_mv (some 57) rfl rfl rfl rfl ?_
    refine wy_stop (fun w₁ k₁ => ⟨rfl, rfl, fun cap buf s r tm hch => ⟨_, rfl, cls_step (by simp [evT_tmp, put_some]) hch, ?_⟩⟩)
    refine wy_regionEnd ?_
    refine wy_inBlock ?_
    refine wy_region [0, 1] rfl ?_
    refine wy_pure (some 58) (.int .i64 ((i + 1 : Nat) : Int)) rfl rfl rfl (fun w₈ => add1_run (i := i) (by simp [evT_tmp, put_some, h53]) rfl (by omega)) ?_
    refine wy_mv (some 53) rfl rfl rfl rfl ?_
    refine wy_regionEnd ?_
    refine wy_inLoop ?_
    exact ih (i + 1) Ow w₁ _ (by omega) (hS.of rfl rfl rfl rfl rfl rfl rfl rfl) h51 h52 (by simp [evT_tmp, put_some]) (hE.keep fun b hb => k₁.kept.block b (.inl hb)) (hC.keep k₁.kept) k₁.inv
end
end Go.Proofs.YtckoipoejaafhaaDoor.Cc
