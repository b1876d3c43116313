/-
  Texts that stood one behind the other, as one.
-/
import Derived.Test.YtckoipoejaafhaaDoorCeUAll
import Derived.Test.YtckoipoejaafhaaDoorCdFtAll
import Derived.Test.YtckoipoejaafhaaDoorRows
import Derived.Test.YtckoipoejaafhaaDoorSlAll
import Derived.Lib.OthersKept
namespace Go.Proofs.YtckoipoejaafhaaDoor.Cc
open Go Go.Conc Go.RowKit
structure Bl (B : Nat) (w w' : World) : Prop where
  os : w'.os = w.os
  output : w'.output = w.output
  size : w.heap.size ≤ w'.heap.size
  block : ∀ k, k < B → w'.heap[k]? = w.heap[k]?
theorem Bl.refl (B : Nat) (w : World) : Bl B w w := ⟨rfl, rfl, Nat.le_refl _, fun _ _ => rfl⟩
theorem Bl.trans {B : Nat} {a b c : World} (h : Bl B a b) (k : Bl B b c) : Bl B a c := ⟨k.os.trans h.os, k.output.trans h.output, Nat.le_trans h.size k.size, fun i hi => (k.block i hi).trans (h.block i hi)⟩
theorem Bl.of_below {B : Nat} {w w' : World} {τ : Nat → Question → Nat} {d : Nat} (h : Below B (tp w τ d) w') : Bl B w w' := ⟨h.os, h.output, h.size, h.block⟩
theorem Bl.tp {B : Nat} {w w' : World} {τ τ' : Nat → Question → Nat} {d d' : Nat} (h : Bl B w (tp w' τ d)) : Bl B w (tp w' τ' d') := ⟨h.os, h.output, h.size, h.block⟩
theorem Blw.bl {B : Nat} {w w' : World} (h : Blw w w') (hB : B ≤ w.heap.size) : Bl B w w' := ⟨h.os, h.output, h.size, fun k hk => h.block k (Nat.lt_of_lt_of_le hk hB)⟩
theorem Bl.blw {w w' : World} (h : Bl w.heap.size w w') : Blw w w' := ⟨h.os, h.output, h.size, h.block⟩
theorem Bl.setCell {B : Nat} {w w' : World} (h : Bl B w w') {p : Addr} (hp : B ≤ p.block) (v : Value) : Bl B w (w'.setCell p v) := by
  refine ⟨h.os, h.output, by simp [World.setCell, h.size], fun k hk => ?_⟩
  rw [← h.block k hk]
  have hne : p.block ≠ k := by omega
  show (w'.heap.modify p.block _)[k]? = _
  rw [Array.getElem?_modify, if_neg hne]
section
variable {P : Program} {N0 : Nat} {pw : World} {Q : Goroutine → World → Prop} {fn : FuncId} {n : Nat} {ds : List Deferred} {σ : Nat → Value} {k : List Item} {cs : List Frame} {ops : Array Oper} {i : Nat} {rest : List Nat} {o : Oper}
theorem leads_at (d : Option Tmp) (v : Value) (b : Nat) (u : Value) (hb : pw.cell? ⟨b, 0, none⟩ = some u) (ho : ops[i]? = some o) (hd : o.dst = d) (hg : o.guard = none)
    (hx : ∀ w : World, w.heap[b]? = pw.heap[b]? → (execOp (evT (arr n σ)) o).runT P w #[] = (.ok (.value v) w, #[]))
    (h : Leads P N0 (G (fd false fn n ds (put σ d v) (.inRegion ops rest :: k)) cs) pw Q) : Leads P N0 (G (fd false fn n ds σ (.inRegion ops (i :: rest) :: k)) cs) pw Q := by
  subst hd
  refine leads_read rfl (fun Su w hs hp => ?_) h
  obtain ⟨τ, d', rfl⟩ := hp
  have hns : ¬ Su b := emp_notSu hs hb
  exact ⟨_, (sd_oper ho hg).trans (ad_value ho (hx w (emp_out (w := w) hns).symm)), fun e he => absurd (mem_seen he) (by simp)⟩
theorem leads_ext (d : Option Tmp) (v : Value) (f : FuncId) (ho : ops[i]? = some o) (hd : o.dst = d) (hg : o.guard = none)
    (hx : ∀ w : World, (execOp (evT (arr n σ)) o).runT P w #[] = (.ok (.value v) w, #[⟨.mark (.extern f), false, true⟩]))
    (h : Leads P N0 (G (fd false fn n ds (put σ d v) (.inRegion ops rest :: k)) cs) pw Q) : Leads P N0 (G (fd false fn n ds σ (.inRegion ops (i :: rest) :: k)) cs) pw Q := by
  subst hd
  exact leads_ctl rfl (fun w => ((sd_oper ho hg).trans (ad_value ho (hx w))).trans (by simp [seen])) h
theorem leads_nil (h : Leads P N0 (G (fdR false fn n ds σ []) cs) pw Q) : Leads P N0 (G (fd false fn n ds σ []) cs) pw Q := leads_ctl rfl (fun _ => sd_nil) h
end
theorem res0 {f : Func} (h : f.results = #[]) (P : Program) (ts : Array Value) (w : World) (es : Array Event) : (results f ts).runT P w es = (.ok (.tuple #[]) w, es) := by
  simp only [results, h]
  rw [Array.mapM_eq_mapM_toList]
  simp only [List.mapM_nil]
  rfl
theorem leads_tailR {fs : Fs} {pw : World} {fn : FuncId} {f : Func} {n : Nat} {σ : Nat → Value} {c : Code} {N0 : Nat} {c0 : Frame} {cs : List Frame} (hF : FnsAll Tryd.prog fs) (R : World → Prop) (g : Array Value → Value) (ts : Array Value) (he : arr n σ = ts) (hf : Tryd.prog.funcs[fn]? = some f) (hres : ∀ (ts : Array Value) (w : World) es, (results f ts).runT Tryd.prog w es = (.ok (g ts) w, es)) (hsl : fs.sl.all (fun p => p.1 != fn) = true) (hc : codeK Tryd.prog fs fn c = true) (v : Value)
    (hC : ∀ τ d, c.wp Tryd.prog (bodyPost Tryd.prog f fun e w' => e = .returned v ∧ R w') ⟨ts, []⟩ (tp pw τ d)) (hR : ∀ w τ d τ' d', R (tp w τ d) → R (tp w τ' d')) :
    Leads Tryd.prog N0 (G (fd false fn n [] σ [.code c]) (c0 :: cs)) pw fun a' pw' => a' = G (c0.finish v) cs ∧ R pw' := by
  subst he
  rw [fd_frm]
  refine Leads.then (leads_piece (R := fun e a w => (e = .normal ∨ e = .ret) ∧ g a.tmps = v ∧ R w) hF ⟨f, hf⟩ (fs_no hsl) hc (fun τ d => ?_) (fun e a w h => h.1) (fun e a w τ d τ' d' h => ⟨h.1, h.2.1, hR _ _ _ _ _ h.2.2⟩)) ?_
  · refine Code.wp_mono ?_ (hC τ d)
    intro e a w h
    have key : (∃ u, (results f a.tmps).run Tryd.prog w = .ok u w ∧ Ending.returned u = .returned v ∧ R w) → g a.tmps = v ∧ R w := by
      rintro ⟨u, h1, h2, h3⟩
      cases h2
      refine ⟨?_, h3⟩
      have e1 := hres a.tmps w #[]
      have e2 : (results f a.tmps).run Tryd.prog w = .ok (g a.tmps) w := by rw [← Sem.runT_fst Tryd.prog _ w #[], e1]
      rw [e2] at h1
      simpa using h1
    cases e with
    | normal => exact ⟨.inl rfl, key h.2⟩
    | ret => exact ⟨.inr rfl, key h.2⟩
    | panic ch => obtain ⟨_, q, _⟩ := h; cases q
    | outgrown => obtain ⟨q, _⟩ := h; cases q
    | _ => exact h.elim
  · rintro a' p1 ⟨ts', ⟨h, rfl⟩ | ⟨h, td, rfl⟩⟩
    · refine leads_ctl rfl (fun _ => st_nil) (leads_back hf (fun w es => ?_) (leads_stop ⟨rfl, h.2.2⟩))
      rw [hres, show g ts' = v from h.2.1]
    · refine leads_back hf (fun w es => ?_) (leads_stop ⟨rfl, h.2.2⟩)
      rw [hres, show g ts' = v from h.2.1]
end Go.Proofs.YtckoipoejaafhaaDoor.Cc

namespace Go.Proofs.YtckoipoejaafhaaDoor
open Go.RowKit
set_option maxRecDepth 100000
def Bld (B b : Nat) (l : List UInt8) (w : World) : Prop := Lib.IsBuilder 141 5 B b (Lib.byteCells l) w
theorem bld_size : (Tryd.prog.info? 141).map (·.size) = some 2 := by kernel_rfl
theorem bld_lies : liesAt Tryd.prog Tryd.prog.depth 141 (2 / Tryd.prog.cellsOf 141) 0 141 1 = true := by kernel_rfl
theorem info_byte : (Tryd.prog.info? 5).map (fun i => (i.zero, i.size, i.bytes)) = some (some (.int .u8 0), 1, 1) := by kernel_rfl
theorem bld_text (B b : Nat) (l : List UInt8) (w : World) (h : Bld B b l w) (hBw : B ≤ w.heap.size) :
    Calls Tryd.prog 98 #[.pointer (some ⟨b, 0, none⟩)] w fun e w' => e = .returned (.string ⟨l.toArray⟩) ∧ Below B w w' := Tryd.Builder_String_any B b l w h hBw
theorem bld_new (w : World) : Bld w.heap.size w.heap.size [] (w.alloc (.cells #[.pointer none, .slice none 0 0] 141)) := by
  refine .inl ⟨Nat.le_refl _, .slice none 0 0, ?_, World.ownsRow_nil _ _ _ _, fun e => by cases e⟩
  show (w.heap.push _)[w.heap.size]? = _
  simp
theorem Bld.below {B b : Nat} {l : List UInt8} {w w' : World} (h : Bld B b l w) (hb : Below w.heap.size w w') : Bld B b l w' := by
  rcases h with h | h
  · have hlt := h.lt
    obtain ⟨hB, v, hbk, hown, hne⟩ := h
    exact .inl ⟨hB, v, (hb.block b hlt).trans hbk, owns_below hown hb, hne⟩
  · have hlt := h.lt
    obtain ⟨hB, v, hbk, hown, hne⟩ := h
    exact .inr ⟨hB, v, (hb.block b hlt).trans hbk, owns_below hown hb, hne⟩
set_option maxHeartbeats 2000000 in
set_option maxRecDepth 100000 in
theorem bld_rest (B b : Nat) (bs : List Value) (s : ByteArray) (w1 : World) (h : Lib.BuilderAt 141 5 B b (.pointer (some ⟨b, 0, none⟩)) bs w1) (hlen : bs.length + s.size ≤ 140737488355328) (hBw : B ≤ w1.heap.size) (R : World → Prop) (hR : ∀ w', Lib.IsBuilder 141 5 B b (bs ++ Lib.strCells s) w' → Below B w1 w' → R w') :
    (Cc.sq2 (Cc.sq2 (Tryd.f96.body.getD .skip))).wp Tryd.prog (bodyPost Tryd.prog Tryd.f96 fun e w' => e = .returned (.tuple #[.int .i64 (s.size : Int), .nilIface]) ∧ R w')
      ⟨#[.pointer (some ⟨b, 0, none⟩), .string s, undef, undef, .int .i64 0, .nilIface, .pointer (some ⟨b, 0, none⟩), .tuple #[], undef, undef, undef, undef, undef, undef, undef, undef, undef, undef, undef], []⟩ w1 := by
  obtain ⟨i0, hi, hz0, hz1, hz2⟩ := info_parts info_byte
  obtain ⟨hB, v, hbk, hown, hne⟩ := h
  have c0 : w1.cell? ⟨b, 0, none⟩ = some (.pointer (some ⟨b, 0, none⟩)) := by rw [Lib.cell_of_heap hbk]; rfl
  have c1 : w1.cell? ⟨b, 1, none⟩ = some v := by rw [Lib.cell_of_heap hbk]; rfl
  have hR' : Hid (∀ w', Lib.IsBuilder 141 5 B b (bs ++ Lib.strCells s) w' → Below B w1 w' → R w') := hR
  clear hR
  refine Cc.rest2 (fn := Tryd.f96) rfl ?_
  go_wp2_with (at_builtin; refine Lib.wpList_append_own_string _ rfl _ _ 55 9 rfl B 5 i0 Tryd.underlying55 Tryd.underlying9 hi hz0 hz1 hz2 _ _ _ rfl hown s rfl ?c3 ?c4 ?c5 ?_)
  case c3 => unfold maxLen; omega
  case c4 => omega
  case c5 => omega
  intro v' w2 hown' hgrow _
  have hlt : b < w1.heap.size := by
    rcases Nat.lt_or_ge b w1.heap.size with h' | h'
    · exact h'
    · simp [Array.getElem?_eq_none h'] at hbk
  have hb2 : w2.heap[b]? = some (.cells #[.pointer (some ⟨b, 0, none⟩), v] 141 (0, 0)) := by
    rw [hgrow.block b hlt (fun e => hne e.symm)]
    exact hbk
  have d0 : w2.cell? ⟨b, 0, none⟩ = some (.pointer (some ⟨b, 0, none⟩)) := by rw [Lib.cell_of_heap hb2]; rfl
  have d1 : w2.cell? ⟨b, 1, none⟩ = some v := by rw [Lib.cell_of_heap hb2]; rfl
  have f1 : w2.frozen? ⟨b, 1, none⟩ = false := Lib.frozen_of_heap hb2 1
  obtain ⟨ao, n', cap, rfl⟩ : ∃ ao n' cap, v' = .slice ao n' cap := by
    rcases hown'.2 with ⟨hv, _⟩ | ⟨g, cap, cur, hv, _⟩
    · exact ⟨_, _, _, hv⟩
    · exact ⟨_, _, _, hv⟩
  go_wp2
  go_ret2
  refine ⟨rfl, hR'.out _ (.inr ?_) ?_⟩
  · exact Lib.BuilderAt.put (T := 141) (e := 5) hB hb2 (bs' := bs ++ Lib.strCells s) (by simpa [Lib.strCells_length] using hown') (by decide)
  · exact ((Below.refl B w1).grown hgrow (by omega) (fun k hk => (hown.lt k hk).1)).setCell (p := ⟨b, 1, none⟩) hB _
end Go.Proofs.YtckoipoejaafhaaDoor
namespace Go.Proofs.YtckoipoejaafhaaDoor.Cc
open Go Go.Conc Go.RowKit
section
variable {ρ : Operand → Value} {x y : Operand} {d : Option Tmp} {ty : TypeId} {pos : String} {af : Array Edge} {gd : Option (Nat × Bool)} {w : World} {b : Nat}
theorem nilck_run (hx : ρ x = .pointer (some ⟨b, 0, none⟩)) : (execOp ρ ⟨d, .nilCheck x, ty, pos, af, gd⟩).runT Tryd.prog w #[] = (.ok (.value (.pointer (some ⟨b, 0, none⟩))) w, #[]) :=
  run_ev (by simp [execOp, hx]) (by simp [execOp, hx])
theorem fldB_run (hx : ρ x = .pointer (some ⟨b, 0, none⟩)) : (execOp ρ ⟨d, .fieldAddr 141 x 0, ty, pos, af, gd⟩).runT Tryd.prog w #[] = (.ok (.value (.pointer (some ⟨b, 0, none⟩))) w, #[]) :=
  run_ev (by simp [execOp, hx, go_sem]) (by simp [execOp, hx, go_sem])
theorem eqNil_run {p : Option Addr} (hx : ρ x = .pointer p) (hy : ρ y = .pointer none) : (execOp ρ ⟨d, .binOp .eql 139 x y 139, ty, pos, af, gd⟩).runT Tryd.prog w #[] = (.ok (.value (.bool p.isNone)) w, #[]) := by
  apply run_ev
  · cases p <;> simp [execOp, go_sem, hx, hy]
  · have h : ∀ e : Nat, (Op.equalIn (e + 1) 139 (.pointer p) (.pointer none)).run Tryd.prog w = .ok p.isNone w ∧ (Op.equalIn (e + 1) 139 (.pointer p) (.pointer none)).events Tryd.prog w #[] = #[] := fun e => by
      cases p <;> simp [Op.equalIn, run_underlying Tryd.underlying139]
    have h2 : (binOp .eql 139 (.pointer p) (.pointer none)).events Tryd.prog w #[] = #[] := by
      simp only [binOp]
      simp [Op.equal, Op.maxDepth, (h 9999).2]
    simp [execOp, go_sem, hx, hy, h2]
theorem neSame_run (hx : ρ x = .pointer (some ⟨b, 0, none⟩)) (hy : ρ y = .pointer (some ⟨b, 0, none⟩)) : (execOp ρ ⟨d, .binOp .neq 139 x y 139, ty, pos, af, gd⟩).runT Tryd.prog w #[] = (.ok (.value (.bool false)) w, #[]) := by
  obtain ⟨j, hj, _⟩ := Option.map_eq_some_iff.1 bld_size
  apply run_ev
  · simp [execOp, go_sem, hx, hy, Lib.run_neq_ptr_same w _ Tryd.underlying139 hj]
  · have h : ∀ e : Nat, (Op.equalIn (e + 1) 139 (.pointer (some ⟨b, 0, none⟩)) (.pointer (some ⟨b, 0, none⟩))).run Tryd.prog w = .ok true w ∧ (Op.equalIn (e + 1) 139 (.pointer (some ⟨b, 0, none⟩)) (.pointer (some ⟨b, 0, none⟩))).events Tryd.prog w #[] = #[] := fun e => by
      simp [Op.equalIn, run_underlying Tryd.underlying139, sizeOf, typeInfo, hj, sameAddr]
    have h2 : (binOp .neq 139 (.pointer (some ⟨b, 0, none⟩)) (.pointer (some ⟨b, 0, none⟩))).events Tryd.prog w #[] = #[] := by
      simp only [binOp]
      simp [Op.equal, Op.maxDepth, (h 9999).2]
    simp [execOp, go_sem, hx, hy, h2]
theorem toU_run (hx : ρ x = .pointer (some ⟨b, 0, none⟩)) (hsh : w.shape? b = some (141, 2)) : (execOp ρ ⟨d, .convert 139 155 x, ty, pos, af, gd⟩).runT Tryd.prog w #[] = (.ok (.value (.pointer (some ⟨b, 0, none⟩))) w, #[]) := by
  obtain ⟨j, hj, hjs⟩ := Option.map_eq_some_iff.1 bld_size
  have hr := Lib.run_to_unsafe w ⟨b, 0, none⟩ Tryd.underlying139 Tryd.underlying155 hj (by rw [hjs]; decide) hsh (Nat.zero_lt_succ 1)
  apply run_ev
  · simp [execOp, hx, hr]
  · simp [execOp, hx, convert, run_underlying Tryd.underlying139, run_underlying Tryd.underlying155, Conv.unsafePointer, Conv.seenAt, viewAt, cellsIn, hsh, sizeOf, typeInfo, hj]
theorem ofU_run (hx : ρ x = .pointer (some ⟨b, 0, none⟩)) (hsh : w.shape? b = some (141, 2)) : (execOp ρ ⟨d, .convert 155 139 x, ty, pos, af, gd⟩).runT Tryd.prog w #[] = (.ok (.value (.pointer (some ⟨b, 0, none⟩))) w, #[]) := by
  obtain ⟨j, hj, hjs⟩ := Option.map_eq_some_iff.1 bld_size
  have hr := Lib.run_from_unsafe w ⟨b, 0, none⟩ Tryd.underlying155 Tryd.underlying139 hj hsh bld_lies
  apply run_ev
  · simp [execOp, hx, hr]
  · simp [execOp, hx, convert, run_underlying Tryd.underlying139, run_underlying Tryd.underlying155, Conv.unsafePointer, Conv.seenAt, viewAt, variablesAt, hsh, sizeOf, typeInfo, hj, hjs, bld_lies]
theorem noEsc_run (hf : ρ (.func 153) = .func (.func 153) #[] #[]) {ats : Array TypeId} (hx : ρ x = .pointer (some ⟨b, 0, none⟩)) : (execOp ρ ⟨d, .call { callee := .value (.func 153), args := #[x], argTypes := ats }, ty, pos, af, gd⟩).runT Tryd.prog w #[] = (.ok (.value (.pointer (some ⟨b, 0, none⟩))) w, #[⟨.mark (.extern 153), false, true⟩]) := by
  have h1 : (Tryd.f153.name == "runtime.NumGoroutine") = false := by kernel_rfl
  have h2 : Tryd.f153.body = none := by kernel_rfl
  have h3 : Extern.findNext Tryd.f153 = none := by kernel_rfl
  have h4 : Extern.find Tryd.f153 = some Extern.AbiNoEscape.same := by kernel_rfl
  have h1' : Tryd.f153.name ≠ "runtime.NumGoroutine" := by simpa using h1
  apply run_ev
  · simp [execOp, go_sem, hf, hx, callFunc, Tryd.func153, h1', h2, h3, h4, mark, Sem.run, Lib.run_noEscape]
  · have h5 : ∀ es, (Extern.AbiNoEscape.same #[.pointer (some ⟨b, 0, none⟩)]).events Tryd.prog w es = es := fun _ => rfl
    simp [execOp, go_sem, hf, hx, callFunc, Tryd.func153, h1', h2, h3, h4, h5]
theorem loadB_run {v : Value} (hx : ρ x = .pointer (some ⟨b, 0, none⟩)) (hc : w.cell? ⟨b, 0, none⟩ = some v) : (execOp ρ ⟨d, .load 139 x, ty, pos, af, gd⟩).runT Tryd.prog w #[] = (.ok (.value v) w, #[⟨.cell ⟨b, 0, none⟩, false, false⟩]) :=
  run_ev (by simp [execOp, hx, go_sem, hc]) (by simp [execOp, hx, go_sem, hc])
theorem storeB_run {u : Value} (hx : ρ x = .pointer (some ⟨b, 0, none⟩)) (hy : ρ y = .pointer (some ⟨b, 0, none⟩)) (hc : w.cell? ⟨b, 0, none⟩ = some u) (hz : w.frozen? ⟨b, 0, none⟩ = false) : (execOp ρ ⟨d, .store 139 x y, ty, pos, af, gd⟩).runT Tryd.prog w #[] = (.ok .skip (w.setCell ⟨b, 0, none⟩ (.pointer (some ⟨b, 0, none⟩))), #[⟨.cell ⟨b, 0, none⟩, true, false⟩]) := by
  apply run_ev
  · simp [execOp, go_sem, hx, hy, stored, hc, hz]
  · simp [execOp, go_sem, hx, hy, events_store (P := Tryd.prog) (w := w) (es := #[]) ⟨b, 0, none⟩ (.pointer (some ⟨b, 0, none⟩)) .plain rfl, hc, hz]
end
section
variable {N0 : Nat} {pw : World} {c0 : Frame} {cs : List Frame}
set_option maxRecDepth 100000 in
set_option maxHeartbeats 4000000 in
theorem used_leads (b : Nat) (h0 : pw.cell? ⟨b, 0, none⟩ = some (.pointer (some ⟨b, 0, none⟩))) :
    Leads Tryd.prog N0 (G (Frame.enter Tryd.prog 137 #[.pointer (some ⟨b, 0, none⟩)] .normal) (c0 :: cs)) pw fun a' pw' => a' = G (c0.finish (.tuple #[])) cs ∧ pw' = pw := by
  rw [enter_fd #[.pointer (some ⟨b, 0, none⟩)] Tryd.func137 rfl (show 1 ≤ 20 by omega)]
  refine leads_seq ?_
  refine leads_region [0, 1, 2, 3, 4] rfl ?_
  refine leads_mv (some 2) rfl rfl rfl (.inl rfl) ?_
  refine leads_pure (some 3) (.pointer (some ⟨b, 0, none⟩)) rfl rfl rfl (fun w => nilck_run (by simp [evT_tmp, put_some])) ?_
  refine leads_pure (some 4) (.pointer (some ⟨b, 0, none⟩)) rfl rfl rfl (fun w => fldB_run (by simp [evT_tmp, put_some])) ?_
  refine leads_get1 (some 5) ⟨b, 0, none⟩ _ rfl rfl rfl h0 (fun w hc => loadB_run (by simp [evT_tmp, put_some]) hc) ?_
  refine leads_pure (some 6) (.bool false) rfl rfl rfl (fun w => eqNil_run (p := some ⟨b, 0, none⟩) (by simp [evT_tmp, put_some]) (by simp [evT_const])) ?_
  refine leads_regionEnd ?_
  refine leads_cond false (by simp [evT_tmp, put_some]) ?_
  refine leads_seq ?_
  refine leads_region [0, 1, 2, 3, 4, 5] rfl ?_
  refine leads_mv (some 14) rfl rfl rfl (.inl rfl) ?_
  refine leads_pure (some 15) (.pointer (some ⟨b, 0, none⟩)) rfl rfl rfl (fun w => nilck_run (by simp [evT_tmp, put_some])) ?_
  refine leads_pure (some 16) (.pointer (some ⟨b, 0, none⟩)) rfl rfl rfl (fun w => fldB_run (by simp [evT_tmp, put_some])) ?_
  refine leads_get1 (some 17) ⟨b, 0, none⟩ _ rfl rfl rfl h0 (fun w hc => loadB_run (by simp [evT_tmp, put_some]) hc) ?_
  refine leads_mv (some 18) rfl rfl rfl (.inl rfl) ?_
  refine leads_pure (some 19) (.bool false) rfl rfl rfl (fun w => neSame_run (b := b) (by simp [evT_tmp, put_some]) (by simp [evT_tmp, put_some])) ?_
  refine leads_regionEnd ?_
  refine leads_cond false (by simp [evT_tmp, put_some]) ?_
  refine leads_skip ?_
  refine leads_nil ?_
  rw [fdR_frm]
  exact leads_back Tryd.func137 (fun w es => res0 rfl _ _ w es) (leads_stop ⟨rfl, rfl⟩)
set_option maxRecDepth 100000 in
set_option maxHeartbeats 4000000 in
theorem fresh_leads (b : Nat) (h0 : pw.cell? ⟨b, 0, none⟩ = some (.pointer none)) (hsh : pw.shape? b = some (141, 2)) (hfz : pw.frozen? ⟨b, 0, none⟩ = false) :
    Leads Tryd.prog N0 (G (Frame.enter Tryd.prog 137 #[.pointer (some ⟨b, 0, none⟩)] .normal) (c0 :: cs)) pw fun a' pw' => a' = G (c0.finish (.tuple #[])) cs ∧ pw' = pw.setCell ⟨b, 0, none⟩ (.pointer (some ⟨b, 0, none⟩)) := by
  have hsh2 : ∀ w : World, w.heap[b]? = pw.heap[b]? → w.shape? b = some (141, 2) := fun w hw => by
    rw [← hsh]
    simp only [World.shape?, hw]
  rw [enter_fd #[.pointer (some ⟨b, 0, none⟩)] Tryd.func137 rfl (show 1 ≤ 20 by omega)]
  refine leads_seq ?_
  refine leads_region [0, 1, 2, 3, 4] rfl ?_
  refine leads_mv (some 2) rfl rfl rfl (.inl rfl) ?_
  refine leads_pure (some 3) (.pointer (some ⟨b, 0, none⟩)) rfl rfl rfl (fun w => nilck_run (by simp [evT_tmp, put_some])) ?_
  refine leads_pure (some 4) (.pointer (some ⟨b, 0, none⟩)) rfl rfl rfl (fun w => fldB_run (by simp [evT_tmp, put_some])) ?_
  refine leads_get1 (some 5) ⟨b, 0, none⟩ _ rfl rfl rfl h0 (fun w hc => loadB_run (by simp [evT_tmp, put_some]) hc) ?_
  refine leads_pure (some 6) (.bool true) rfl rfl rfl (fun w => eqNil_run (p := none) (by simp [evT_tmp, put_some]) (by simp [evT_const])) ?_
  refine leads_regionEnd ?_
  refine leads_cond true (by simp [evT_tmp, put_some]) ?_
  refine leads_region [0, 1, 2, 3, 4, 5, 6, 7] rfl ?_
  refine leads_mv (some 7) rfl rfl rfl (.inl rfl) ?_
  refine leads_mv (some 8) rfl rfl rfl (.inl rfl) ?_
  refine leads_at (some 9) (.pointer (some ⟨b, 0, none⟩)) b _ h0 rfl rfl rfl (fun w hw => toU_run (by simp [evT_tmp, put_some]) (hsh2 w hw)) ?_
  refine leads_ext (some 10) (.pointer (some ⟨b, 0, none⟩)) 153 rfl rfl rfl (fun w => noEsc_run (evT_func _ _ _) (by simp [evT_tmp, put_some])) ?_
  refine leads_at (some 11) (.pointer (some ⟨b, 0, none⟩)) b _ h0 rfl rfl rfl (fun w hw => ofU_run (by simp [evT_tmp, put_some]) (hsh2 w hw)) ?_
  refine leads_pure (some 12) (.pointer (some ⟨b, 0, none⟩)) rfl rfl rfl (fun w => nilck_run (by simp [evT_tmp, put_some])) ?_
  refine leads_pure (some 13) (.pointer (some ⟨b, 0, none⟩)) rfl rfl rfl (fun w => fldB_run (by simp [evT_tmp, put_some])) ?_
  refine leads_set1 none ⟨b, 0, none⟩ _ (.pointer (some ⟨b, 0, none⟩)) rfl rfl rfl h0 hfz (fun w hc hz => storeB_run (by simp [evT_tmp, put_some]) (by simp [evT_tmp, put_some]) hc hz) ?_
  refine leads_regionEnd ?_
  refine leads_nil ?_
  rw [fdR_frm]
  exact leads_back Tryd.func137 (fun w es => res0 rfl _ _ w es) (leads_stop ⟨rfl, rfl⟩)
theorem check_leads (B b : Nat) (bs : List Value) (h : Lib.IsBuilder 141 5 B b bs pw) :
    Leads Tryd.prog N0 (G (Frame.enter Tryd.prog 137 #[.pointer (some ⟨b, 0, none⟩)] .normal) (c0 :: cs)) pw fun a' pw' => a' = G (c0.finish (.tuple #[])) cs ∧ Lib.BuilderAt 141 5 B b (.pointer (some ⟨b, 0, none⟩)) bs pw' ∧ Bl B pw pw' := by
  rcases h with h | h
  · refine (fresh_leads b h.cell0 h.shape h.frozen0).mono ?_
    rintro a' p1 ⟨rfl, rfl⟩
    exact ⟨rfl, h.used _, (Bl.refl B pw).setCell (p := ⟨b, 0, none⟩) h.1 _⟩
  · refine (used_leads b h.cell0).mono ?_
    rintro a' p1 ⟨rfl, rfl⟩
    exact ⟨rfl, h, Bl.refl B _⟩
set_option maxRecDepth 100000 in
set_option maxHeartbeats 4000000 in
theorem write_leads (B b : Nat) (l m : List UInt8) (h : Bld B b l pw) (hlen : l.length + m.length ≤ 140737488355328) (hBw : B ≤ pw.heap.size) :
    Leads Tryd.prog N0 (G (Frame.enter Tryd.prog 96 #[.pointer (some ⟨b, 0, none⟩), .string ⟨m.toArray⟩] .normal) (c0 :: cs)) pw fun a' pw' => a' = G (c0.finish (.tuple #[.int .i64 (m.length : Int), .nilIface])) cs ∧ Bld B b (l ++ m) pw' ∧ Bl B pw pw' := by
  have happ : Lib.byteCells (l ++ m) = Lib.byteCells l ++ Lib.strCells ⟨m.toArray⟩ := Lib.byteCells_append l m
  have hsz : (⟨m.toArray⟩ : ByteArray).size = m.length := by simp [ByteArray.size]
  unfold Bld
  rw [happ, ← hsz]
  rw [← hsz, ← Lib.byteCells_length l] at hlen
  generalize (⟨m.toArray⟩ : ByteArray) = s at *
  have h' : Lib.IsBuilder 141 5 B b (Lib.byteCells l) pw := h
  generalize Lib.byteCells l = bs at *
  rw [enter_fd #[.pointer (some ⟨b, 0, none⟩), .string s] Tryd.func96 rfl (show 2 ≤ 19 by omega), Tryd.ntmps96]
  refine leads_seq ?_
  refine leads_region [0, 1] rfl ?_
  refine leads_mv (some 4) rfl rfl rfl (.inr rfl) ?_
  refine leads_mv (some 5) rfl rfl rfl (.inr rfl) ?_
  refine leads_regionEnd ?_
  refine leads_seq ?_
  refine leads_region [0, 1] rfl ?_
  refine leads_mv (some 6) rfl rfl rfl (.inl rfl) ?_
  refine leads_enterD 137 #[.pointer (some ⟨b, 0, none⟩)] rfl rfl (fun w => run_ev (by simp [execOp, go_sem, evT_func, evT_tmp, put_some]) (by simp [execOp, go_sem, evT_func, evT_tmp, put_some, call_events Tryd.func137 (by kernel_rfl) rfl])) ?_
  refine Leads.then (check_leads B b bs h') ?_
  rintro a' p1 ⟨rfl, hA, b1⟩
  rw [finish_arr _ _ _ _ _ _ _ _ _ _ rfl]
  refine leads_regionEnd ?_
  refine (leads_tailR (f := Tryd.f96) tAll (fun w' => Lib.IsBuilder 141 5 B b (bs ++ Lib.strCells s) w' ∧ Bl B p1 w') (fun ts => .tuple #[ts.getD 4 undef, ts.getD 5 undef]) #[.pointer (some ⟨b, 0, none⟩), .string s, undef, undef, .int .i64 0, .nilIface, .pointer (some ⟨b, 0, none⟩), .tuple #[], undef, undef, undef, undef, undef, undef, undef, undef, undef, undef, undef] (by kernel_rfl) Tryd.func96 (fun ts w es => res2 rfl _ ts w es) (by kernel_rfl) (by kernel_rfl) (.tuple #[.int .i64 (s.size : Int), .nilIface]) (fun τ d => ?_) (fun w τ d τ' d' q => ⟨q.1, q.2.tp⟩)).mono ?_
  · exact bld_rest B b bs s (tp p1 τ d) hA hlen (Nat.le_trans hBw b1.size) _ fun w' q1 q2 => ⟨q1, Bl.of_below q2⟩
  · rintro a' p2 ⟨rfl, q1, q2⟩
    exact ⟨rfl, q1, b1.trans q2⟩
end
end Go.Proofs.YtckoipoejaafhaaDoor.Cc
