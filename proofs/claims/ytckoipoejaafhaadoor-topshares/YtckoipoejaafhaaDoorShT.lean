/-
  Three rows of the call's own, each appended to: shares, numbers, numbers. What slices.Contains answers of ints.
-/
import Derived.Test.YtckoipoejaafhaaDoorShC3All
import Derived.Test.YtckoipoejaafhaaDoorShC3All
import Derived.Test.YtckoipoejaafhaaDoorShC3All
import Derived.Test.YtckoipoejaafhaaDoorSlAll
namespace Go.Proofs.YtckoipoejaafhaaDoor
open Go.RowKit
set_option maxRecDepth 100000
theorem OwS.grown {B : Nat} {w w' : World} {v : Value} {L : List (Int × Nat)} {row : Option Nat} (h : OwS B w v L) (hg : w.grownBy w' row) (hne : ∀ g, v.ownBlock = some g → some g ≠ row) : OwS B w' v L := by
  unfold OwS at h ⊢
  refine ⟨h.1, ?_⟩
  rcases h.2 with h2 | ⟨g, cap, cur, hv, hB, hh, r⟩
  · exact Or.inl h2
  · have hlt : g < w.heap.size := by
      rcases Nat.lt_or_ge g w.heap.size with hl | hl
      · exact hl
      · rw [Array.getElem?_eq_none hl] at hh; cases hh
    exact Or.inr ⟨g, cap, cur, hv, hB, (hg.block g hlt (hne g (by rw [hv]; rfl))).trans hh, r⟩
structure Thr (w0 w : World) (vl vx vy : Value) (L : List (Int × Nat)) (X Y : List Nat) : Prop where
  ol : OwS w0.heap.size w vl L
  two : Two w0 w vx vy X Y
  lx : ∀ g, vl.ownBlock = some g → vx.ownBlock ≠ some g ∧ vy.ownBlock ≠ some g
theorem Thr.start (w : World) : Thr w w (.slice none 0 0) (.slice none 0 0) (.slice none 0 0) [] [] [] := ⟨OwS.nil _ _, Two.start w, fun g e => by simp [Value.ownBlock] at e⟩
theorem Thr.below {w0 w w' : World} {vl vx vy : Value} {L : List (Int × Nat)} {X Y : List Nat} (h : Thr w0 w vl vx vy L X Y) (hb : Below w.heap.size w w') : Thr w0 w' vl vx vy L X Y := ⟨h.ol.below hb, h.two.below hb, h.lx⟩
theorem Thr.swap {w0 w : World} {vl vx vy : Value} {L : List (Int × Nat)} {X Y : List Nat} (h : Thr w0 w vl vx vy L X Y) : Thr w0 w vl vy vx L Y X := ⟨h.ol, h.two.swap, fun g e => ⟨(h.lx g e).2, (h.lx g e).1⟩⟩
theorem wp_appL {ops : Array Oper} {rest : List Oper} {o : Oper} {a : Act} {Q : Exit → Act → World → Prop} {w0 w : World} {vl vx vy : Value} {L : List (Int × Nat)} {X Y : List Nat} {g z : Nat} {p : Int} (hgd : o.guard = none) (s x : Operand)
    (ho : o.op = .call { callee := .builtin .append, args := #[s, x], argTypes := #[59, 59] }) (h : Thr w0 w vl vx vy L X Y) (hg : w.heap[g]? = some (.cells #[.int .i64 p, .int .u64 (z : Int)] 64 (0, 0)))
    (hs : a.eval s = vl) (hx : a.eval x = .slice (some ⟨g, 0, none⟩) 1 1) (hl : L.length ≤ 1000)
    (hK : ∀ v' w', Thr w0 w' v' vx vy (L ++ [(p, z)]) X Y → wpList Tryd.prog ops Q rest (a.put o.dst v') w') : wpList Tryd.prog ops Q (o :: rest) a w := by
  refine wpList_plain hgd fun K' hK' => ?_
  have := step_appS (ops := ops) (Q := Q) (K := K') (E := True) (w0 := w0) hgd s x ho h.ol hg rfl h.two.bl hs hx hl (fun v' w' h1 h2 h3 h4 => hK' _ _ (hK v' w' ⟨h1, ⟨h.two.ox.grown h3 (fun k e q => (h.lx k q.symm).1 e), h.two.oy.grown h3 (fun k e q => (h.lx k q.symm).2 e), h.two.ap, h2⟩, fun k e => by
    rcases h4 k e with q | q
    · exact h.lx k q
    · exact ⟨fun q' => by have := h.two.ox.lt q'; omega, fun q' => by have := h.two.oy.lt q'; omega⟩⟩))
  split at this
  · exact this
  · next hn => exact absurd (by unfold Region.wanted; rw [hgd]) hn
theorem wp_appX3 {ops : Array Oper} {rest : List Oper} {o : Oper} {a : Act} {Q : Exit → Act → World → Prop} {w0 w : World} {vl vx vy : Value} {L : List (Int × Nat)} {X Y : List Nat} {g z : Nat} (hgd : o.guard = none) (s x : Operand)
    (ho : o.op = .call { callee := .builtin .append, args := #[s, x], argTypes := #[23, 23] }) (h : Thr w0 w vl vx vy L X Y) (hL : Lt w g z)
    (hs : a.eval s = vx) (hx : a.eval x = .slice (some ⟨g, 0, none⟩) 1 1) (hl : X.length ≤ 1000)
    (hK : ∀ v' w', Thr w0 w' vl v' vy L (X ++ [z]) Y → wpList Tryd.prog ops Q rest (a.put o.dst v') w') : wpList Tryd.prog ops Q (o :: rest) a w := by
  refine wpList_plain hgd fun K' hK' => ?_
  obtain ⟨i0, hi, hz0, hz1, hz2⟩ := info_parts info_u64
  have := step_append_lies (E := True) (ops := ops) (Q := Q) (K := K') _ hgd s x 23 ho w0.heap.size 34 i0 (.int .u64 0) 1 8 Tryd.underlying23 hi hz0 hz1 hz2 rfl (by decide) vx X.length (cellsU X) hs h.two.ox ⟨g, 0, none⟩ 1 1 [.int .u64 (z : Int)] hx rfl (World.news_of_block (cs := #[.int .u64 (z : Int)]) hL) (by intro u hu; simp at hu; subst hu; rfl) (by decide) (by unfold maxLen; omega) (by omega) h.two.bl.size w.heap.size rfl (fun g' cap w' hown hgrow hlies hlt => hK' _ _ (hK _ w' ⟨h.ol.grown hgrow (fun k e q => (h.lx k e).1 q.symm), ⟨by unfold Ow; rw [List.length_append, cellsU_append]; exact hown, h.two.oy.grown hgrow (fun k e q => h.two.ap k q.symm e), fun k e q => by
      simp [Value.ownBlock] at e
      subst e
      rcases hlies with r | r
      · exact h.two.ap g' r q
      · have := h.two.oy.lt q; omega, h.two.bl.grown hgrow h.two.bl.size (owns_block h.two.ox)⟩, fun k e => ⟨fun q => by
      simp [Value.ownBlock] at q
      subst q
      rcases hlies with r | r
      · exact (h.lx g' e).1 r
      · have := h.ol.lt e; omega, (h.lx k e).2⟩⟩))
  split at this
  · exact this
  · next hn => exact absurd (by unfold Region.wanted; rw [hgd]) hn
theorem getZ_mem {zs : List Int} {k : Nat} (h : k < zs.length) : zs.getD k 0 ∈ zs := by
  rw [List.getD, List.getElem?_eq_getElem h]
  exact List.getElem_mem h
theorem mem_getZ {zs : List Int} {x : Int} (h : x ∈ zs) : ∃ k, k < zs.length ∧ zs.getD k 0 = x := by
  obtain ⟨k, hk, e⟩ := List.getElem_of_mem h
  exact ⟨k, hk, by rw [List.getD, List.getElem?_eq_getElem hk]; exact e⟩
set_option maxHeartbeats 1000000 in
theorem slices_IndexI (w : World) (v : Value) (zs : List Int) (h : IsZ w v zs) (x : Int) :
    Calls Tryd.prog 64 #[v, .int .i64 x] w fun e w' => ∃ r : Int, e = .returned (.int .i64 r) ∧ ((x ∈ zs ∧ 0 ≤ r) ∨ (x ∉ zs ∧ r = -1)) ∧ Below w.heap.size w w' := by
  obtain ⟨a, cap, rfl, hcap, hmax, hc, hr⟩ := h
  have hlen : (zs.length : Int) ≤ 9223372036854775807 := by unfold maxLen at hmax; omega
  have hc' : Hid (∀ i, i < zs.length → ∃ b off, a = some ⟨b, off, none⟩ ∧ w.cell? ⟨b, off + i, none⟩ = some (.int .i64 (zs.getD i 0))) := hc
  clear hr hmax hcap hc
  go_enter Tryd.func64, Tryd.ntmps64
  go_wp2
  go_loopw [8] (fun vi wr => ∃ k : Nat, k ≤ zs.length ∧ vi = .int .i64 (k : Int) ∧ Hid (∀ j, j < k → zs.getD j 0 ≠ x) ∧ Below w.heap.size w wr)
    (fun vi _ => zs.length - (intOf vi).toNat)
  case atStart => exact ⟨0, Nat.zero_le _, rfl, fun j hj => by omega, Below.refl _ _⟩
  case round =>
    obtain ⟨k, hk, rfl, hno, hnx⟩ := hrel
    by_cases hlt : k < zs.length
    · obtain ⟨b, off, rfl, hcell0⟩ := hc'.out k hlt
      have hcell := (hnx.cell (block_lt hcell0)).trans hcell0
      have hmem := getZ_mem hlt
      by_cases he : zs.getD k 0 = x
      · rw [he] at hcell hmem
        clear hcell0 hc' hno he
        go_wp2
        go_ret
        exact ⟨_, rfl, .inl ⟨hmem, by omega⟩, hnx⟩
      · have he' : ¬ x = zs.getD k 0 := fun q => he q.symm
        have hno' : Hid (∀ j, j < k + 1 → zs.getD j 0 ≠ x) := fun j hj => by
          rcases Nat.lt_or_ge j k with q | q
          · exact hno.out j q
          · have : j = k := by omega
            rw [this]
            exact he
        clear hcell0 hc' hno he hmem
        generalize zs.getD k 0 = z at *
        go_wp2
        go_roundw
        case rel => exact ⟨k + 1, by omega, by go_num, hno', hnx⟩
        case measure => simp only [intOf]; omega
    · have e : k = zs.length := by omega
      have hge : zs.length ≤ k := by omega
      have hnm : x ∉ zs := fun q => by
        obtain ⟨j, hj, hjx⟩ := mem_getZ q
        exact hno.out j (by omega) hjx
      clear hc' hno
      go_wp2
      go_ret
      exact ⟨_, rfl, .inr ⟨hnm, rfl⟩, hnx⟩
theorem slices_ContainsI (w : World) (v : Value) (zs : List Int) (h : IsZ w v zs) (x : Int) :
    Calls Tryd.prog 30 #[v, .int .i64 x] w fun e w' => e = .returned (.bool (decide (x ∈ zs))) ∧ Below w.heap.size w w' := by
  have c := slices_IndexI w v zs h x
  by_cases hx : x ∈ zs
  · rw [decide_eq_true hx]
    go_enter Tryd.func30, Tryd.ntmps30
    go_wp2_with (go_at_call 64; refine Calls.mono c ?_; rintro e w1 ⟨r, rfl, hr, hb⟩; have hr0 : 0 ≤ r := (hr.elim (fun q => q.2) (fun q => absurd hx q.1)); clear c hr)
    go_ret
    exact ⟨rfl, hb⟩
  · rw [decide_eq_false hx]
    go_enter Tryd.func30, Tryd.ntmps30
    go_wp2_with (go_at_call 64; refine Calls.mono c ?_; rintro e w1 ⟨r, rfl, hr, hb⟩; have hr0 : r = -1 := (hr.elim (fun q => absurd q.1 hx) (fun q => q.2)); subst hr0; clear c hr)
    go_ret
    exact ⟨rfl, hb⟩
end Go.Proofs.YtckoipoejaafhaaDoor
