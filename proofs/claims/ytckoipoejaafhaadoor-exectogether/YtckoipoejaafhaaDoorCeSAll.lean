/-
  Texts that stood one behind the other, as one.
-/
import Derived.Test.YtckoipoejaafhaaDoorCeNAll
import Derived.Test.YtckoipoejaafhaaDoorSlAppAll
import Derived.Test.YtckoipoejaafhaaDoorSlAll
import Derived.Test.YtckoipoejaafhaaDoorPure
import Derived.Test.YtckoipoejaafhaaDoorCeBAll
/-! Together of lists that are handed over: right things, wrong things. -/
namespace Go.Proofs.YtckoipoejaafhaaDoor.Cc
open Go Go.Conc Go.RowKit

theorem one_of_cell {w : World} {a : Addr} {u : Value} (h : w.cell? a = some u) : One w a.block := by
  cases ho : w.heap[a.block]? with
  | none => simp [World.cell?, ho] at h
  | some o =>
    cases o with
    | cells c e fr => exact ⟨c, e, fr, ho, trivial⟩
    | _ => simp [World.cell?, ho] at h
theorem IsU.blw {w w' : World} {v : Value} {xs : List Nat} (h : IsU w v xs) (b : Blw w w') : IsU w' v xs := by
  obtain ⟨a, cap, rfl, h1, h2, hc, hr⟩ := h
  refine ⟨a, cap, rfl, h1, h2, fun i hi => ?_, hr⟩
  obtain ⟨q, o, rfl, hx⟩ := hc i hi
  exact ⟨q, o, rfl, cell_same hx (b.block _ (cell_lt hx))⟩
theorem IsZ.blw {w w' : World} {v : Value} {xs : List Int} (h : IsZ w v xs) (b : Blw w w') : IsZ w' v xs := by
  obtain ⟨a, cap, rfl, h1, h2, hc, hr⟩ := h
  refine ⟨a, cap, rfl, h1, h2, fun i hi => ?_, hr⟩
  obtain ⟨q, o, rfl, hx⟩ := hc i hi
  exact ⟨q, o, rfl, cell_same hx (b.block _ (cell_lt hx))⟩
theorem IsR.blw {k : Nat} {w w' : World} {v : Value} {xs : List (List Int)} (h : IsR k w v xs) (b : Blw w w') : IsR k w' v xs := by
  obtain ⟨a, cap, rfl, h1, h2, hc, hr⟩ := h
  refine ⟨a, cap, rfl, h1, h2, fun i hi => ?_, hr⟩
  obtain ⟨q, o, rfl, hx⟩ := hc i hi
  exact ⟨q, o, rfl, fun j hj => cell_same (hx j hj) (b.block _ (cell_lt (hx j hj)))⟩
theorem IsP.blw {k : Nat} {w w' : World} {v : Value} {xs : List (List (List Int))} (h : IsP k w v xs) (b : Blw w w') : IsP k w' v xs := by
  obtain ⟨a, cap, rfl, h1, h2, hc⟩ := h
  refine ⟨a, cap, rfl, h1, h2, fun i hi => ?_⟩
  obtain ⟨q, o, u, rfl, hx, hu⟩ := hc i hi
  exact ⟨q, o, u, rfl, cell_same hx (b.block _ (cell_lt hx)), IsR.blw hu b⟩
theorem IsU.tp {w : World} {v : Value} {xs : List Nat} (h : IsU w v xs) (τ : Nat → Question → Nat) (d : Nat) : IsU (tp w τ d) v xs := h
theorem IsZ.tp {w : World} {v : Value} {xs : List Int} (h : IsZ w v xs) (τ : Nat → Question → Nat) (d : Nat) : IsZ (tp w τ d) v xs := h
theorem IsR.tp {k : Nat} {w : World} {v : Value} {xs : List (List Int)} (h : IsR k w v xs) (τ : Nat → Question → Nat) (d : Nat) : IsR k (tp w τ d) v xs := h
theorem IsP.tp {k : Nat} {w : World} {v : Value} {xs : List (List (List Int))} (h : IsP k w v xs) (τ : Nat → Question → Nat) (d : Nat) : IsP k (tp w τ d) v xs := h
/-- The tables lie below, as cells. -/
structure Tbs (N0 : Nat) (w : World) : Prop where
  tab : Tab w
  tabs : ∀ g ∈ tabsL, g < N0 ∧ One w g
  ns : N0 ≤ w.heap.size
theorem Tbs.blw {N0 : Nat} {w w' : World} (h : Tbs N0 w) (b : Blw w w') : Tbs N0 w' :=
  ⟨Tab.of_blocks h.tab fun g hg => b.block _ (h.tabs g hg).2.lt, fun g hg => ⟨(h.tabs g hg).1, (h.tabs g hg).2.of (b.block _ (h.tabs g hg).2.lt)⟩, Nat.le_trans h.ns b.size⟩

section
variable {c0 : Frame} {cs : List Frame} {N0 : Nat} {fs : List FuncId}
/-- TOGETHER, of right things. -/
theorem together_right (hF : FnsAll Tryd.prog fs) (hfg : fs.contains 38 = true) (hfc : fs.contains 36 = true) {pw : World} {v va vl : Value} {zs : List Int} {ds xs : List Nat} {L : List (List (List Int))} {n : Nat} {back : Bool}
    (hZ : IsZ pw v zs) (hA : IsU pw va xs) (hP : IsP 3 pw vl L) (hG : Good zs ds) (hn : prd2 ds ≤ 1024) (hFi : Go.Proofs.YtckoipoejaafhaaDoor.Fine ds L) (hbig : ¬ BigP L L.length) (hl : xs.length = prd2 ds) (hn1 : 1 ≤ n) (hn8 : n ≤ 8) (hm : Tryd.prog.follows .mixedOrders = true) (hT : Tbs N0 pw) :
    Leads Tryd.prog N0 (G (Frame.enter Tryd.prog 13 #[v, va, vl, .int .i64 (n : Int), .bool back] .normal) (c0 :: cs)) pw
      fun a' pw' => ∃ b, a' = G (c0.finish (.tuple #[.slice (some ⟨b, 0, none⟩) (prd2 ds) (prd2 ds), .int .i64 0])) cs ∧ Blw pw pw' ∧ IsU pw' (.slice (some ⟨b, 0, none⟩) (prd2 ds) (prd2 ds)) (mk (prd2 ds) (who ds back (cf xs) ds.length)) ∧ pw.heap.size ≤ b ∧ RowU pw' b (mk (prd2 ds) (who ds back (cf xs) ds.length)) := by
  have hlen : zs.length = ds.length := by rw [hG.2.2.1, List.length_map]
  have hL3 : L.length = ds.length := hFi.1
  have h3 := hG.2.1
  have h1 := hG.1
  have hS : Shp ds := hG.2.2.2
  have hpos := prd2_pos hS.pos
  obtain ⟨az, cz, rfl, z1, z2, z3, z4⟩ := hZ
  obtain ⟨aa, ca, rfl, a1, a2, a3, a4⟩ := hA
  obtain ⟨ap, cp, rfl, p1, p2, p3⟩ := hP
  obtain ⟨bz, oz, rfl, z5⟩ := z3 0 (by omega)
  obtain ⟨bA, oA, rfl, a5⟩ := a3 0 (by omega)
  obtain ⟨bP, oP, u0, rfl, p5, p6⟩ := p3 0 (by omega)
  have hcur : cur ds xs back L.length = mk (prd2 ds) (who ds back (cf xs) ds.length) := by unfold cur; rw [if_neg (by omega), hL3]
  have hTm : Tm ds zs L bz oz cz bP oP N0 pw := by
    refine ⟨?_, one_of_cell z5, ⟨_, _, z5⟩, hT.ns, hT.tab, hT.tabs, fun x hx => ?_⟩
    · rw [← hlen]
      exact ⟨_, _, rfl, z1, z2, z3, z4⟩
    · obtain ⟨b, o, u, e, hc, hu⟩ := p3 x hx
      simp only [Option.some.injEq, Addr.mk.injEq, and_true] at e
      obtain ⟨rfl, rfl⟩ := e
      obtain ⟨ar, cr, rfl, r1, r2, r3, r4⟩ := hu
      have hp := fine_pos hG hFi hx
      obtain ⟨bh, oh, rfl, -⟩ := r3 0 hp
      refine ⟨bh, oh, cr, hc, fun i hi j hj => ?_⟩
      obtain ⟨b', o', e, hh⟩ := r3 i hi
      simp only [Option.some.injEq, Addr.mk.injEq, and_true] at e
      obtain ⟨rfl, rfl⟩ := e
      have := hh j hj
      rw [show oh + 3 * i + j = oh + (i * 3 + j) by omega]
      exact this
  have h := together_leads (c0 := c0) (cs := cs) (back := back) (cP := cp) hF hfg hfc hG hn hn8 (by omega) hm hFi (by omega) hbig hTm ⟨_, _, rfl, p1, p2, p3⟩ (by rw [← hl]; exact ⟨_, _, rfl, a1, a2, a3, a4⟩) hl (one_of_cell a5) ⟨_, _, a5⟩
  rw [hcur] at h
  rw [hlen, hl]
  exact h
/-- TOGETHER, of wrong things. -/
theorem together_wrong (hF : FnsAll Tryd.prog fs) (hfc : fs.contains 36 = true) {pw : World} {v va vl : Value} {zs : List Int} {xs : List Nat} {L : List (List (List Int))} {W er : Int} {back : Bool} (her : (er != 0) = true)
    (hZ : IsZ pw v zs) (hA : IsU pw va xs) (hP : IsP 3 pw vl L)
    (hE : (er = 1 ∧ ∀ ds, ¬ Good zs ds) ∨ (er = 2 ∧ ∃ ds, Good zs ds ∧ 1024 < prd2 ds) ∨ ∃ ds, Good zs ds ∧ prd2 ds ≤ 1024 ∧ ((er = 5 ∧ ¬ Go.Proofs.YtckoipoejaafhaaDoor.Fine ds L) ∨ (er = 2 ∧ Go.Proofs.YtckoipoejaafhaaDoor.Fine ds L ∧ BigP L L.length) ∨ (er = 5 ∧ Go.Proofs.YtckoipoejaafhaaDoor.Fine ds L ∧ ¬ BigP L L.length ∧ ¬ xs.length = prd2 ds) ∨ (er = 1 ∧ Go.Proofs.YtckoipoejaafhaaDoor.Fine ds L ∧ ¬ BigP L L.length ∧ xs.length = prd2 ds ∧ (W < 1 ∨ 8 < W)))) :
    Leads Tryd.prog N0 (G (Frame.enter Tryd.prog 13 #[v, va, vl, .int .i64 W, .bool back] .normal) (c0 :: cs)) pw fun a' pw' => a' = G (c0.finish (.tuple #[.slice none 0 0, .int .i64 er])) cs ∧ Blw pw pw' := by
  refine together_err hF hfc her fun τ d => ?_
  rcases hE with ⟨rfl, h⟩ | ⟨rfl, ds, hG, h⟩ | ⟨ds, hG, hn, h⟩
  · exact exec_check_plan _ _ _ _ _ 1 her (plan_Check_bad _ _ _ zs (IsZ.tp hZ τ d) h)
  · exact exec_check_plan _ _ _ _ _ 2 her (plan_Check_large _ _ _ zs ds (IsZ.tp hZ τ d) hG h)
  · rcases h with ⟨rfl, h⟩ | ⟨rfl, h1, h2⟩ | ⟨rfl, h1, h2, h3⟩ | ⟨rfl, h1, h2, h3, h4⟩
    · refine exec_check_plan _ _ _ _ _ 5 her ((plan_Check_all _ _ _ zs ds L (IsZ.tp hZ τ d) hG hn (IsP.tp hP τ d)).mono fun e w' hh => ?_)
      obtain ⟨⟨e1, -⟩ | ⟨-, h5, -⟩ | ⟨-, h5, -⟩, hb⟩ := hh
      · exact ⟨e1, hb⟩
      · exact absurd h5 h
      · exact absurd h5 h
    · refine exec_check_plan _ _ _ _ _ 2 her ((plan_Check_all _ _ _ zs ds L (IsZ.tp hZ τ d) hG hn (IsP.tp hP τ d)).mono fun e w' hh => ?_)
      obtain ⟨⟨-, h5⟩ | ⟨e1, -, -⟩ | ⟨-, -, h5⟩, hb⟩ := hh
      · exact absurd h1 h5
      · exact ⟨e1, hb⟩
      · exact absurd h2 h5
    · exact exec_check_form _ _ _ _ zs ds xs L W (IsZ.tp hZ τ d) (IsU.tp hA τ d) (IsP.tp hP τ d) hG hn h1 h2 h3
    · exact exec_check_work _ _ _ _ zs ds xs L W (IsZ.tp hZ τ d) (IsU.tp hA τ d) (IsP.tp hP τ d) hG hn h1 h2 h3 h4
end
end Go.Proofs.YtckoipoejaafhaaDoor.Cc

/-! The law's end: true, and what was there is as it was; comparisons, as words. -/
namespace Go.Proofs.YtckoipoejaafhaaDoor.Cc
open Go Go.Conc Go.RowKit

/-- The end: true, and what was there is as it was. -/
def EndT (P : Program) (W : World) (N0 : Nat) : Goroutine → World → Prop := fun a' pw' => a'.status = .running ∧ ∃ v, (∀ w, ∃ es, stepG P true a' w = .ended (.done v) w es ∧ ∀ e ∈ es, e = ⟨.mark .noRoom, false, true⟩) ∧ ∀ w', w'.os = pw'.os → w'.output = pw'.output → (∀ b, b < N0 → w'.heap[b]? = pw'.heap[b]?) → w'.heap.size = pw'.heap.size → v = .bool true ∧ Blw W w'
theorem leads_true {W : World} {fn : FuncId} {n : Nat} {σ : Nat → Value} {td : List Item} {f : Func} {pw : World} (hf : Tryd.prog.funcs[fn]? = some f) (hi : Tryd.prog.inits.idxOf? fn = none) (hr : ∀ (w : World) es, (results f (arr n σ)).runT Tryd.prog w es = (.ok (.bool true) w, es)) (hb : Blw W pw) :
    Leads Tryd.prog W.heap.size (G (fdR false fn n [] σ td) []) pw (EndT Tryd.prog W W.heap.size) :=
  leads_done (Post := fun v w' => v = .bool true ∧ Blw W w') (.bool true) hf hi hr fun w' h1 h2 h3 h4 => ⟨rfl, h1.trans hb.os, h2.trans hb.output, by rw [h4]; exact hb.size, fun b hbb => (h3 b hbb).trans (hb.block b hbb)⟩
section
variable {w : World} {ρ : Operand → Value} {x y : Operand} {d : Option Tmp} {ty : TypeId} {pos : String} {af : Array Edge} {gd : Option (Nat × Bool)}
theorem eqE_run {e f : Int} (t : Bool) (ht : decide (e = f) = t) (hx : ρ x = .int .i64 e) (hy : ρ y = .int .i64 f) :
    (execOp ρ ⟨d, .binOp .eql 25 x y 25, ty, pos, af, gd⟩).runT Tryd.prog w #[] = (.ok (.value (.bool t)) w, #[]) := by
  subst ht
  apply run_ev
  · by_cases h : e = f <;> simp [execOp, go_sem, hx, hy, h]
  · simp [execOp, go_sem, hx, hy]
theorem neI_run {e f : Int} (t : Bool) (ht : decide (¬ e = f) = t) (hx : ρ x = .int .i64 e) (hy : ρ y = .int .i64 f) :
    (execOp ρ ⟨d, .binOp .neq 3 x y 3, ty, pos, af, gd⟩).runT Tryd.prog w #[] = (.ok (.value (.bool t)) w, #[]) := by
  subst ht
  apply run_ev
  · by_cases h : e = f <;> simp [execOp, go_sem, hx, hy, h]
  · simp [execOp, go_sem, hx, hy]
theorem gtr_run {e f : Int} (t : Bool) (ht : decide (f < e) = t) (hx : ρ x = .int .i64 e) (hy : ρ y = .int .i64 f) :
    (execOp ρ ⟨d, .binOp .gtr 3 x y 3, ty, pos, af, gd⟩).runT Tryd.prog w #[] = (.ok (.value (.bool t)) w, #[]) := by
  subst ht
  apply run_ev
  · simp [execOp, go_sem, hx, hy]
  · simp [execOp, go_sem, hx, hy]
theorem pick_run {z : Operand} {u : Value} (c : Bool) (hx : ρ x = .bool c) (hu : (if c then ρ y else ρ z) = u) :
    (execOp ρ ⟨d, .pick x y z, ty, pos, af, gd⟩).runT Tryd.prog w #[] = (.ok (.value u) w, #[]) := by
  subst hu
  apply run_ev
  · cases c <;> simp [execOp, go_sem, hx]
  · cases c <;> simp [execOp, go_sem, hx]
end

end Go.Proofs.YtckoipoejaafhaaDoor.Cc

/-! Blocks whose first cells hold a list of numbers of 64 bits, with room behind them. -/
namespace Go.Proofs.YtckoipoejaafhaaDoor
open Go.RowKit
set_option maxRecDepth 100000

/-- The first cells of block g, of c cells, hold the numbers xs. -/
def RowX (w : World) (g c : Nat) (xs : List Nat) : Prop := ∃ cur : Array Value, w.heap[g]? = some (.cells cur 34 (0, 0)) ∧ cur.size = c ∧ xs.length ≤ c ∧ cur.toList.take xs.length = cellsU xs
theorem RowX.lt {w : World} {g c : Nat} {xs : List Nat} (h : RowX w g c xs) : g < w.heap.size := by
  obtain ⟨cur, h, _⟩ := h
  obtain ⟨hlt, _⟩ := Array.getElem?_eq_some_iff.1 h
  exact hlt
theorem RowX.cell {w : World} {g c : Nat} {xs : List Nat} (h : RowX w g c xs) (i : Nat) (hi : i < xs.length) : w.cell? ⟨g, i, none⟩ = some (.int .u64 ((xs.getD i 0 : Nat) : Int)) := by
  obtain ⟨cur, hh, hs, hl, ht⟩ := h
  have hc := cellsU_get xs i hi
  rw [← ht, List.getElem?_take_of_lt hi, Array.getElem?_toList] at hc
  simp only [World.cell?, hh, hc]; rfl
theorem RowX.frozen {w : World} {g c : Nat} {xs : List Nat} (h : RowX w g c xs) (i : Nat) : w.frozen? ⟨g, i, none⟩ = false := by
  obtain ⟨cur, hh, _⟩ := h
  simp [World.frozen?, hh]
theorem RowX.set {w : World} {g c : Nat} {xs : List Nat} (h : RowX w g c xs) (i x : Nat) : RowX (w.setCell ⟨g, i, none⟩ (.int .u64 (x : Int))) g c (xs.set i x) := by
  obtain ⟨cur, hh, hs, hl, ht⟩ := h
  refine ⟨cur.setIfInBounds i (.int .u64 (x : Int)), ?_, ?_, ?_, ?_⟩
  · simp [World.setCell, Array.getElem?_modify, hh]
  · rw [Array.size_setIfInBounds]; exact hs
  · rw [List.length_set]; exact hl
  · rw [List.length_set, Array.toList_setIfInBounds, ← cellsU_set, ← ht, List.take_set]
theorem RowX.block {w w' : World} {g c : Nat} {xs : List Nat} (h : RowX w g c xs) (e : w'.heap[g]? = w.heap[g]?) : RowX w' g c xs := by
  obtain ⟨cur, hh, r⟩ := h
  exact ⟨cur, e.trans hh, r⟩
theorem RowX.below {w w' : World} {g c : Nat} {xs : List Nat} (h : RowX w g c xs) (hb : Below w.heap.size w w') : RowX w' g c xs := h.block (hb.block g h.lt)
theorem RowX.bar {w w' : World} {g g' c : Nat} {xs : List Nat} (h : RowX w g' c xs) (hne : g' ≠ g) (hb : Bar g w w') : RowX w' g' c xs := h.block (hb.block g' h.lt hne)
theorem RowX.drewN {w : World} {g c : Nat} {xs : List Nat} (h : RowX w g c xs) (n : Nat) : RowX (w.drewN n) g c xs := h
theorem RowX.cast {w : World} {g c : Nat} {xs ys : List Nat} (h : RowX w g c xs) (e : xs = ys) : RowX w g c ys := e ▸ h
theorem RowX.isUN {w : World} {g c n : Nat} {xs : List Nat} (h : RowX w g c xs) (hr : Rng xs) (hc : c ≤ maxLen) (hn : xs.length = n) : IsU w (.slice (some ⟨g, 0, none⟩) n c) xs := by
  subst hn
  exact ⟨some ⟨g, 0, none⟩, c, rfl, h.choose_spec.2.2.1, hc, fun i hi => ⟨g, 0, rfl, by rw [Nat.zero_add]; exact h.cell i hi⟩, hr⟩
theorem RowX.of_owns {w : World} {base n : Nat} {v : Value} {xs : List Nat} (h : w.ownsRow base 34 1 v n (cellsU xs)) (hn : 0 < n) : ∃ g c, v = .slice (some ⟨g, 0, none⟩) n c ∧ base ≤ g ∧ c ≤ maxLen ∧ RowX w g c xs := by
  have hlen := h.1
  rw [cellsU_length] at hlen
  rcases h.2 with ⟨rfl, h0⟩ | ⟨g, cap, cur, hv, hg, hh, h1, h2, h3, h4⟩
  · omega
  · refine ⟨g, cap, hv, hg, h2, cur, hh, by omega, by omega, ?_⟩
    rw [show xs.length = n * 1 by omega]; exact h4

/-- All numbers of a list appended to nothing. -/
theorem wp_appendAll {ops : Array Oper} {rest : List Oper} {o : Oper} {a : Act} {Q : Exit → Act → World → Prop} {w : World} (hgd : o.guard = none) (s x : Operand)
    (ho : o.op = .call { callee := .builtin .append, args := #[s, x], argTypes := #[23, 23] }) (v : Value) (xs : List Nat)
    (hs : a.eval s = .slice none 0 0) (hx : a.eval x = v) (hU : IsU w v xs) (hpos : 0 < xs.length) (hn : xs.length ≤ 1000000000)
    (h : ∀ g c w', w.heap.size ≤ g → c ≤ maxLen → RowX w' g c xs → Below w.heap.size w w' → wpList Tryd.prog ops Q rest (a.put o.dst (.slice (some ⟨g, 0, none⟩) xs.length c)) w') :
    wpList Tryd.prog ops Q (o :: rest) a w := by
  obtain ⟨p, cap, rfl, hcap, hmax, hc, hr⟩ := hU
  obtain ⟨i0, hi, hz0, hz1, hz2⟩ := info_parts info_u64
  obtain ⟨b, off, rfl, _⟩ := hc 0 hpos
  refine wpList_append_own _ hgd s x 23 ho w.heap.size 34 i0 (.int .u64 0) 1 8 Tryd.underlying23 hi hz0 hz1 hz2 rfl (by decide) (.slice none 0 0) 0 [] hs (World.ownsRow_nil _ _ _ _) ⟨b, off, none⟩ xs.length cap (cellsU xs) hx (by rw [cellsU_length]; omega) ?_ ?_ (by omega) (by omega) (Nat.le_refl _) ?_
  · intro j u hj
    have hjl : j < xs.length := by
      rcases Nat.lt_or_ge j xs.length with h5 | h5
      · exact h5
      · rw [List.getElem?_eq_none (by rw [cellsU_length]; exact h5)] at hj; cases hj
    rw [cellsU_get _ j hjl] at hj
    obtain ⟨b', off', e, hcell⟩ := hc j hjl
    simp only [Option.some.injEq, Addr.mk.injEq, and_true] at e
    obtain ⟨rfl, rfl⟩ := e
    have e3 : (Addr.mk b off none).add j = ⟨b, off + j, none⟩ := Go.WideShapes.add_plain b off j
    rw [e3, hcell, ← hj]
  · intro u hu
    obtain ⟨y, _, rfl⟩ := List.mem_map.mp hu
    rfl
  · intro v' w' hown hgrow _
    rw [Nat.zero_add, List.nil_append] at hown
    obtain ⟨g, c, rfl, hg, hc9, hrow⟩ := RowX.of_owns hown hpos
    exact h g c w' hg hc9 hrow ((Below.refl _ _).grown hgrow (Nat.le_refl _) (fun k hk => by cases hk))

end Go.Proofs.YtckoipoejaafhaaDoor

/-! What Norm of package goldref answers, for all numbers of 64 bits. -/
namespace Go.Proofs.YtckoipoejaafhaaDoor
open Go.RowKit
set_option maxRecDepth 100000

theorem rem_fN (a : Nat) : (a : Int) % 18446744069414584321 = ((fN a : Nat) : Int) := by
  rw [fN_eq]; unfold P; omega


end Go.Proofs.YtckoipoejaafhaaDoor

/-! What Add and Mul of package goldref answer, for all numbers of 64 bits: the same numbers as those of package field. -/
namespace Go.Proofs.YtckoipoejaafhaaDoor
open Go.RowKit
set_option maxRecDepth 100000

theorem ref_Add (a b : Nat) (w : World) :
    Calls Tryd.prog 52 #[.int .u64 (a : Int), .int .u64 (b : Int)] w fun e w' => e = .returned (.int .u64 ((fA a b : Nat) : Int)) ∧ w' = w := by
  have ba := fN_lt a
  have bb := fN_lt b
  have ea := rem_fN a
  have eb := rem_fN b
  by_cases h : 18446744069414584321 - (fN b : Int) ≤ (fN a : Int)
  · rw [add_ge a b h]
    go_enter Tryd.func52, Tryd.ntmps52
    go_wp2
    go_ret
    exact ⟨rfl, rfl⟩
  · rw [add_lt a b (by omega)]
    have h' : (fN a : Int) + (fN b : Int) < 18446744069414584321 := by omega
    replace h := decide_eq_false h
    go_enter Tryd.func52, Tryd.ntmps52
    go_wp2
    go_ret
    exact ⟨rfl, rfl⟩

/-! ### Mul: doubled, bit by bit -/
theorem half_step (y t : Nat) : y / 2 ^ t = 2 * (y / 2 ^ (t + 1)) + y / 2 ^ t % 2 := by
  rw [Nat.pow_succ, ← Nat.div_div_eq_div_mul]; omega

theorem mul_dbl (x y t : Nat) (h : y / 2 ^ t % 2 = 0) : fA (fM x (y / 2 ^ (t + 1))) (fM x (y / 2 ^ (t + 1))) = fM x (y / 2 ^ t) := by
  have e := half_step y t
  rw [h] at e
  rw [e, fA_eq, fM_eq, fM_eq, ← Nat.add_mod]
  congr 1
  grind
theorem mul_dbl1 (x y t : Nat) (h : y / 2 ^ t % 2 = 1) : fA (fA (fM x (y / 2 ^ (t + 1))) (fM x (y / 2 ^ (t + 1)))) x = fM x (y / 2 ^ t) := by
  have e := half_step y t
  rw [h] at e
  rw [e, fA_eq, fA_eq, fM_eq, fM_eq, ← Nat.add_mod, Nat.mod_add_mod]
  congr 1
  grind
theorem fM_fN (a b : Nat) : fM (fN a) (fN b) = fM a b := by
  rw [fM_eq, fM_eq, fN_eq, fN_eq, ← Nat.mul_mod]
theorem div_top (x y : Nat) (hy : (y : Int) < 18446744073709551616) : fM x (y / 2 ^ 64) = 0 := by
  have e : y / 2 ^ 64 = 0 := Nat.div_eq_of_lt (by omega)
  rw [e, fM_eq]; rfl
theorem bit_cast (y t : Nat) : ((y : Int) / 2 ^ t).tmod 2 = ((y / 2 ^ t % 2 : Nat) : Int) := by
  have e : (y : Int) / 2 ^ t = ((y / 2 ^ t : Nat) : Int) := by rw [Int.natCast_ediv, Int.natCast_pow]; rfl
  rw [e]
  generalize y / 2 ^ t = z
  rw [Int.tmod_eq_emod_of_nonneg (by omega)]; omega

set_option maxHeartbeats 1000000 in
theorem ref_Mul (a b : Nat) (w : World) :
    Calls Tryd.prog 53 #[.int .u64 (a : Int), .int .u64 (b : Int)] w fun e w' => e = .returned (.int .u64 ((fM a b : Nat) : Int)) ∧ w' = w := by
  have ea := rem_fN a
  have eb := rem_fN b
  have bx := fN_lt a
  have yb := fN_lt b
  have efin := fM_fN a b
  rw [← efin]
  clear efin
  generalize fN a = x at *
  generalize fN b = y at *
  go_enter Tryd.func53, Tryd.ntmps53
  go_wp2
  simp only [ea, eb]
  clear ea eb
  go_loop [5, 6] (fun vo vi => ∃ (j : Nat) (q : Int), vo = .int .u64 ((fM x (y / 2 ^ j) : Nat) : Int) ∧ vi = .int .i64 q ∧ q = (j : Int) - 1 ∧ j ≤ 64)
    (fun _ vi => (intOf vi + 1).toNat)
  case atStart => exact ⟨64, 63, by rw [div_top x y (by omega)]; rfl, rfl, rfl, by omega⟩
  case round =>
    obtain ⟨j, q, rfl, rfl, hq, hj⟩ := hrel
    have bo := fM_lt x (y / 2 ^ j)
    rcases j with _ | t
    · have e : q = -1 := by omega
      subst e
      clear hq hj bo
      rw [Nat.pow_zero, Nat.div_one]
      go_wp2
      go_ret
      exact ⟨rfl, rfl⟩
    · have e : q = (t : Int) := by omega
      subst e
      clear hq
      have b2 := fA_lt (fM x (y / 2 ^ (t + 1))) (fM x (y / 2 ^ (t + 1)))
      have hbit := bit_cast y t
      rcases Nat.mod_two_eq_zero_or_one (y / 2 ^ t) with h | h
      · rw [h, Int.natCast_zero] at hbit
        have hp := mul_dbl x y t h
        generalize fM x (y / 2 ^ (t + 1)) = o at *
        have hp2 : Hid (fA o o = fM x (y / 2 ^ t)) := hp
        clear hp h
        go_wp2_with (go_at_call 52; refine Calls.mono (ref_Add _ _ _) ?_; rintro e w' ⟨rfl, hw⟩; rw [hw]; clear hw)
        go_round
        case rel => exact ⟨t, (t : Int) - 1, by rw [← hp2.out], by go_num, rfl, by omega⟩
        case measure => simp only [intOf]; omega
      · rw [h, Int.natCast_one] at hbit
        have hp := mul_dbl1 x y t h
        generalize fM x (y / 2 ^ (t + 1)) = o at *
        have hp2 : Hid (fA (fA o o) x = fM x (y / 2 ^ t)) := hp
        clear hp h
        go_wp2_with (go_at_call 52; refine Calls.mono (ref_Add _ _ _) ?_; rintro e w' ⟨rfl, hw⟩; rw [hw]; clear hw)
        go_round
        case rel => exact ⟨t, (t : Int) - 1, by rw [← hp2.out], by go_num, rfl, by omega⟩
        case measure => simp only [intOf]; omega

end Go.Proofs.YtckoipoejaafhaaDoor

/-! What Eval of package goldref answers: the value of a polynomial at a place. -/
namespace Go.Proofs.YtckoipoejaafhaaDoor
open Go.RowKit
set_option maxRecDepth 100000

/-- The first k summands; the k-th power. -/
def evK (xs : List Nat) (x k : Nat) : Nat := (S k (fun i => gf (xs.map toF) i * pw (toF x) i)).val
def pwK (x k : Nat) : Nat := (pw (toF x) k).val
theorem evK_succ (xs : List Nat) (x k : Nat) : fA (evK xs x k) (fM (xs.getD k 0) (pwK x k)) = evK xs x (k + 1) := by
  unfold evK pwK
  rw [S_succ, fA_val, toF_val, toF_fM, toF_val, ← cf_gf]; rfl
theorem pwK_succ (x k : Nat) : fM (pwK x k) x = pwK x (k + 1) := by
  unfold pwK
  rw [fM_val, toF_val, pw_succ]
theorem evK_all (xs : List Nat) (x : Nat) : evK xs x xs.length = pE xs x := by
  unfold evK pE
  rw [evF_S, List.length_map]
set_option maxHeartbeats 1000000 in
theorem ref_Eval (w : World) (v : Value) (xs : List Nat) (x : Nat) (h : IsU w v xs) :
    Calls Tryd.prog 107 #[v, .int .u64 (x : Int)] w fun e w' => e = .returned (.int .u64 ((pE xs x : Nat) : Int)) ∧ w' = w := by
  obtain ⟨a, cap, rfl, hcap, hmax, hc, hr⟩ := h
  have hlen : (xs.length : Int) ≤ 9223372036854775807 := by unfold maxLen at hmax; omega
  clear hcap hmax hr
  go_enter Tryd.func107, Tryd.ntmps107
  go_wp2
  go_loop [5, 6, 7] (fun vo vp vi => ∃ k : Nat, k ≤ xs.length ∧ vi = .int .i64 (k : Int) ∧ vo = .int .u64 ((evK xs x k : Nat) : Int) ∧ vp = .int .u64 ((pwK x k : Nat) : Int))
    (fun _ _ vi => xs.length - (intOf vi).toNat)
  case atStart => exact ⟨0, Nat.zero_le _, rfl, rfl, rfl⟩
  case round =>
    obtain ⟨k, hk, rfl, rfl, rfl⟩ := hrel
    by_cases hlt : k < xs.length
    · obtain ⟨b, off, rfl, hcell⟩ := hc k hlt
      have c1 := ref_Mul (xs.getD k 0) (pwK x k)
      have c2 := ref_Add (evK xs x k) (fM (xs.getD k 0) (pwK x k))
      have c3 := ref_Mul (pwK x k) x
      rw [evK_succ] at c2
      rw [pwK_succ] at c3
      clear hc
      generalize fM (xs.getD k 0) (pwK x k) = m at *
      generalize xs.getD k 0 = y at *
      have tok : True := trivial
      go_wp2_with (first
        | (go_at_call 53; have _t := tok; refine Calls.mono (c1 _) ?_; rintro e w' ⟨rfl, hw⟩; rw [hw]; clear hw tok)
        | (go_at_call 52; refine Calls.mono (c2 _) ?_; rintro e w' ⟨rfl, hw⟩; rw [hw]; clear hw)
        | (go_at_call 53; refine Calls.mono (c3 _) ?_; rintro e w' ⟨rfl, hw⟩; rw [hw]; clear hw))
      go_round
      case rel => exact ⟨k + 1, by omega, by go_num, rfl, rfl⟩
      case measure => simp only [intOf]; omega
    · have e : k = xs.length := by omega
      have e2 := evK_all xs x
      rw [← e] at e2
      rw [e2]
      have hge : xs.length ≤ k := by omega
      clear hc e2 e
      go_wp2
      go_ret
      exact ⟨rfl, rfl⟩

end Go.Proofs.YtckoipoejaafhaaDoor

/-! What Pow of package goldref answers, for all numbers of 64 bits: the same number as that of package field. -/
namespace Go.Proofs.YtckoipoejaafhaaDoor
open Go.RowKit
set_option maxRecDepth 100000

/-! ### Pow: from the highest bit -/
theorem pow_dbl (x y t : Nat) (h : y / 2 ^ t % 2 = 0) : fM (fW x (y / 2 ^ (t + 1))) (fW x (y / 2 ^ (t + 1))) = fW x (y / 2 ^ t) := by
  have e := half_step y t
  rw [h] at e
  rw [e, fM_eq, fW_eq, fW_eq, ← Nat.mul_mod, ← Nat.pow_add]
  congr 2
  omega
theorem pow_dbl1 (x y t : Nat) (h : y / 2 ^ t % 2 = 1) : fM (fM (fW x (y / 2 ^ (t + 1))) (fW x (y / 2 ^ (t + 1)))) x = fW x (y / 2 ^ t) := by
  have e := half_step y t
  rw [h] at e
  rw [e, fM_eq, fM_eq, fW_eq, fW_eq, ← Nat.mul_mod, ← Nat.pow_add, Nat.mod_mul_mod, ← Nat.pow_succ]
  congr 2
  omega
theorem pow_top (x y : Nat) (hy : (y : Int) < 18446744073709551616) : fW x (y / 2 ^ 64) = 1 := by
  have e : y / 2 ^ 64 = 0 := Nat.div_eq_of_lt (by omega)
  rw [e, fW_eq, Nat.pow_zero]; rfl

set_option maxHeartbeats 1000000 in
theorem ref_Pow (x y : Nat) (hy : (y : Int) < 18446744073709551616) (w : World) :
    Calls Tryd.prog 142 #[.int .u64 (x : Int), .int .u64 (y : Int)] w fun e w' => e = .returned (.int .u64 ((fW x y : Nat) : Int)) ∧ w' = w := by
  go_enter Tryd.func142, Tryd.ntmps142
  go_wp2
  go_loop [5, 6] (fun vo vi => ∃ (j : Nat) (q : Int), vo = .int .u64 ((fW x (y / 2 ^ j) : Nat) : Int) ∧ vi = .int .i64 q ∧ q = (j : Int) - 1 ∧ j ≤ 64)
    (fun _ vi => (intOf vi + 1).toNat)
  case atStart => exact ⟨64, 63, by rw [pow_top x y hy]; rfl, rfl, rfl, by omega⟩
  case round =>
    obtain ⟨j, q, rfl, rfl, hq, hj⟩ := hrel
    rcases j with _ | t
    · have e : q = -1 := by omega
      subst e
      clear hq hj
      rw [Nat.pow_zero, Nat.div_one]
      go_wp2
      go_ret
      exact ⟨rfl, rfl⟩
    · have e : q = (t : Int) := by omega
      subst e
      clear hq
      have hbit := bit_cast y t
      rcases Nat.mod_two_eq_zero_or_one (y / 2 ^ t) with h | h
      · rw [h, Int.natCast_zero] at hbit
        have hp := pow_dbl x y t h
        generalize fW x (y / 2 ^ (t + 1)) = o at *
        have hp2 : Hid (fM o o = fW x (y / 2 ^ t)) := hp
        clear hp h
        go_wp2_with (go_at_call 53; refine Calls.mono (ref_Mul _ _ _) ?_; rintro e w' ⟨rfl, hw⟩; rw [hw]; clear hw)
        go_round
        case rel => exact ⟨t, (t : Int) - 1, by rw [← hp2.out], by go_num, rfl, by omega⟩
        case measure => simp only [intOf]; omega
      · rw [h, Int.natCast_one] at hbit
        have hp := pow_dbl1 x y t h
        generalize fW x (y / 2 ^ (t + 1)) = o at *
        have hp2 : Hid (fM (fM o o) x = fW x (y / 2 ^ t)) := hp
        clear hp h
        go_wp2_with (go_at_call 53; refine Calls.mono (ref_Mul _ _ _) ?_; rintro e w' ⟨rfl, hw⟩; rw [hw]; clear hw)
        go_round
        case rel => exact ⟨t, (t : Int) - 1, by rw [← hp2.out], by go_num, rfl, by omega⟩
        case measure => simp only [intOf]; omega

end Go.Proofs.YtckoipoejaafhaaDoor

/-! What Root and In of package goldref answer: a root is the power of 7; a number lies between two others or not. -/
namespace Go.Proofs.YtckoipoejaafhaaDoor
open Go.RowKit
set_option maxRecDepth 100000

theorem half_half (i : Nat) : 18446744069414584320 / 2 ^ (i + 1) = 18446744069414584320 / 2 ^ i / 2 := by
  rw [Nat.pow_succ, Nat.div_div_eq_div_mul]

set_option maxHeartbeats 1000000 in
theorem ref_Root (k : Nat) (hk : (k : Int) ≤ 32) (w : World) :
    Calls Tryd.prog 105 #[.int .i64 (k : Int)] w fun e w' => e = .returned (.int .u64 ((fW 7 (18446744069414584320 / 2 ^ k) : Nat) : Int)) ∧ w' = w := by
  go_enter Tryd.func105, Tryd.ntmps105
  go_wp2
  go_loop [3, 4] (fun vn vi => ∃ i m : Nat, vn = .int .u64 (m : Int) ∧ vi = .int .i64 (i : Int) ∧ (i : Int) ≤ (k : Int) ∧ (m : Int) < 18446744073709551616 ∧ Hid (m = 18446744069414584320 / 2 ^ i))
    (fun _ vi => (k - (intOf vi)).toNat)
  case atStart => exact ⟨0, 18446744069414584320, rfl, rfl, by omega, by omega, by show _ = _; rw [Nat.pow_zero, Nat.div_one]⟩
  case round =>
    obtain ⟨i, m, rfl, rfl, hi, hm, hM⟩ := hrel
    by_cases hlt : (i : Int) < (k : Int)
    · have hd : decide (i < k) = true := decide_eq_true (by omega)
      have hM' : Hid (m / 2 = 18446744069414584320 / 2 ^ (i + 1)) := by
        show m / 2 = _
        rw [half_half, ← hM.out]
      go_wp2
      go_round
      case rel => exact ⟨i + 1, m / 2, by go_num, by go_num, by omega, by omega, hM'⟩
      case measure => simp only [intOf]; omega
    · have e : i = k := by omega
      subst e
      have hd : decide (i < i) = false := decide_eq_false (by omega)
      clear hlt hi
      have hM' := hM.out
      have c := ref_Pow 7 m hm
      have c' : ∀ w, Calls Tryd.prog 142 #[.int .u64 7, .int .u64 (m : Int)] w fun e w' => e = .returned (.int .u64 ((fW 7 (18446744069414584320 / 2 ^ i) : Nat) : Int)) ∧ w' = w := by
        intro w
        rw [← hM']
        exact c w
      clear c hM' hM
      go_wp2_with (go_at_call 142; refine Calls.mono (c' _) ?_; rintro e w' ⟨rfl, hw⟩; rw [hw]; clear hw)
      go_ret
      exact ⟨rfl, rfl⟩

end Go.Proofs.YtckoipoejaafhaaDoor

/-! What Sub of package goldref answers, for all numbers of 64 bits: the same number as that of package field. -/
namespace Go.Proofs.YtckoipoejaafhaaDoor
open Go.RowKit
set_option maxRecDepth 100000

theorem sub_add (a b : Nat) : fA a (18446744069414584321 - fN b) = fS a b := by
  rw [fA_eq, fS_eq, fN_eq]; rfl

theorem ref_Sub (a b : Nat) (w : World) :
    Calls Tryd.prog 141 #[.int .u64 (a : Int), .int .u64 (b : Int)] w fun e w' => e = .returned (.int .u64 ((fS a b : Nat) : Int)) ∧ w' = w := by
  have bb := fN_lt b
  have eb := rem_fN b
  have c := ref_Add a (18446744069414584321 - fN b)
  rw [sub_add] at c
  have e : ((18446744069414584321 - fN b : Nat) : Int) = 18446744069414584321 - (fN b : Int) := by omega
  rw [e] at c
  clear e
  go_enter Tryd.func141, Tryd.ntmps141
  go_wp2_with (go_at_call 52; refine Calls.mono (c _) ?_; rintro e w' ⟨rfl, hw⟩; rw [hw]; clear hw)
  go_ret
  exact ⟨rfl, rfl⟩

end Go.Proofs.YtckoipoejaafhaaDoor
