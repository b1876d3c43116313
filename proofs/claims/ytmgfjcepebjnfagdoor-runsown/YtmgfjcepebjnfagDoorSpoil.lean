/-
  What spoil of package goldkeep does: it writes into the block of its list, and nowhere else. What slices.Equal answers of lists that read the same.
-/
import Derived.Test.YtmgfjcepebjnfagDoorExT
import Derived.Test.YtmgfjcepebjnfagDoorRefPlanAll
namespace Go.Proofs.YtmgfjcepebjnfagDoor
open Go.RowKit

set_option maxHeartbeats 1000000 in
theorem spoil_U (w : World) (g n cap : Nat) (x : Nat) (vs : List Value) (h : RowV 25 w g vs) (hl : vs.length = cap) (hn : n ≤ cap) (hc : cap ≤ maxLen) :
    Calls Tryd.prog 27 #[.slice (some ⟨g, 0, none⟩) n cap, .int .u64 (x : Int)] w fun e w' => e = .returned (.tuple #[]) ∧ (∃ vs', RowV 25 w' g vs' ∧ vs'.length = cap) ∧ Bar g w w' := by
  have hc9 : (cap : Int) ≤ 9223372036854775807 := by unfold maxLen at hc; omega
  have hn9 : (n : Int) ≤ (cap : Int) := by omega
  go_enter Tryd.func27, Tryd.ntmps27
  go_wp2
  go_loopw [11] (fun vi wr => ∃ (i : Nat) (vs' : List Value), i ≤ cap ∧ vi = .int .i64 (i : Int) ∧ Hid (RowV 25 wr g vs') ∧ Hid (vs'.length = cap) ∧ Hid (Bar g w wr))
    (fun vi _ => cap - (intOf vi).toNat)
  case atStart => exact ⟨0, vs, Nat.zero_le _, rfl, h, hl, Bar.refl _ _⟩
  case round =>
    clear h
    obtain ⟨i, vs', hi, rfl, hr, hl', hb⟩ := hrel
    by_cases hlt : i < cap
    · have hz := RowV.frozen hr.out i
      obtain ⟨u0, hu0⟩ : ∃ u, vs'[i]? = some u := ⟨_, List.getElem?_eq_getElem (by rw [hl'.out]; exact hlt)⟩
      have hcl := (RowV.cell hr.out i).trans hu0
      have hin : (i : Int) < (cap : Int) := by omega
      have h2 : Hid _ := RowV.set hr.out i (.int .u64 (x : Int))
      have hb2 : Hid _ := Bar.setCell hb.out i (.int .u64 (x : Int))
      have hl2 : Hid ((vs'.set i (.int .u64 (x : Int))).length = cap) := by show _ = _; rw [List.length_set]; exact hl'.out
      clear hr hb hu0
      go_wp2
      go_roundw
      case rel => exact ⟨i + 1, _, by omega, by go_num, h2, hl2, hb2⟩
      case measure => simp only [intOf]; omega
    · have hge : cap ≤ i := by omega
      go_wp2
      go_end0
      exact ⟨rfl, ⟨vs', hr.out, hl'.out⟩, hb.out⟩

set_option maxHeartbeats 1000000 in
theorem spoil_Z (w : World) (g n cap : Nat) (x : Int) (vs : List Value) (h : RowV 3 w g vs) (hl : vs.length = cap) (hn : n ≤ cap) (hc : cap ≤ maxLen) :
    Calls Tryd.prog 37 #[.slice (some ⟨g, 0, none⟩) n cap, .int .i64 x] w fun e w' => e = .returned (.tuple #[]) ∧ (∃ vs', RowV 3 w' g vs' ∧ vs'.length = cap) ∧ Bar g w w' := by
  have hc9 : (cap : Int) ≤ 9223372036854775807 := by unfold maxLen at hc; omega
  have hn9 : (n : Int) ≤ (cap : Int) := by omega
  go_enter Tryd.func37, Tryd.ntmps37
  go_wp2
  go_loopw [11] (fun vi wr => ∃ (i : Nat) (vs' : List Value), i ≤ cap ∧ vi = .int .i64 (i : Int) ∧ Hid (RowV 3 wr g vs') ∧ Hid (vs'.length = cap) ∧ Hid (Bar g w wr))
    (fun vi _ => cap - (intOf vi).toNat)
  case atStart => exact ⟨0, vs, Nat.zero_le _, rfl, h, hl, Bar.refl _ _⟩
  case round =>
    clear h
    obtain ⟨i, vs', hi, rfl, hr, hl', hb⟩ := hrel
    by_cases hlt : i < cap
    · have hz := RowV.frozen hr.out i
      obtain ⟨u0, hu0⟩ : ∃ u, vs'[i]? = some u := ⟨_, List.getElem?_eq_getElem (by rw [hl'.out]; exact hlt)⟩
      have hcl := (RowV.cell hr.out i).trans hu0
      have hin : (i : Int) < (cap : Int) := by omega
      have h2 : Hid _ := RowV.set hr.out i (.int .i64 x)
      have hb2 : Hid _ := Bar.setCell hb.out i (.int .i64 x)
      have hl2 : Hid ((vs'.set i (.int .i64 x)).length = cap) := by show _ = _; rw [List.length_set]; exact hl'.out
      clear hr hb hu0
      go_wp2
      go_roundw
      case rel => exact ⟨i + 1, _, by omega, by go_num, h2, hl2, hb2⟩
      case measure => simp only [intOf]; omega
    · have hge : cap ≤ i := by omega
      go_wp2
      go_end0
      exact ⟨rfl, ⟨vs', hr.out, hl'.out⟩, hb.out⟩

set_option maxHeartbeats 1000000 in
theorem spoil_P (w : World) (g n cap : Nat) (vs : List Value) (h : RowV 56 w g vs) (hl : vs.length = cap) (hn : n ≤ cap) (hc : cap ≤ maxLen) :
    Calls Tryd.prog 39 #[.slice (some ⟨g, 0, none⟩) n cap, .slice none 0 0] w fun e w' => e = .returned (.tuple #[]) ∧ (∃ vs', RowV 56 w' g vs' ∧ vs'.length = cap) ∧ Bar g w w' := by
  have hc9 : (cap : Int) ≤ 9223372036854775807 := by unfold maxLen at hc; omega
  have hn9 : (n : Int) ≤ (cap : Int) := by omega
  go_enter Tryd.func39, Tryd.ntmps39
  go_wp2
  go_loopw [11] (fun vi wr => ∃ (i : Nat) (vs' : List Value), i ≤ cap ∧ vi = .int .i64 (i : Int) ∧ Hid (RowV 56 wr g vs') ∧ Hid (vs'.length = cap) ∧ Hid (Bar g w wr))
    (fun vi _ => cap - (intOf vi).toNat)
  case atStart => exact ⟨0, vs, Nat.zero_le _, rfl, h, hl, Bar.refl _ _⟩
  case round =>
    clear h
    obtain ⟨i, vs', hi, rfl, hr, hl', hb⟩ := hrel
    by_cases hlt : i < cap
    · have hz := RowV.frozen hr.out i
      obtain ⟨u0, hu0⟩ : ∃ u, vs'[i]? = some u := ⟨_, List.getElem?_eq_getElem (by rw [hl'.out]; exact hlt)⟩
      have hcl := (RowV.cell hr.out i).trans hu0
      have hin : (i : Int) < (cap : Int) := by omega
      have h2 : Hid _ := RowV.set hr.out i (.slice none 0 0)
      have hb2 : Hid _ := Bar.setCell hb.out i (.slice none 0 0)
      have hl2 : Hid ((vs'.set i (.slice none 0 0)).length = cap) := by show _ = _; rw [List.length_set]; exact hl'.out
      clear hr hb hu0
      go_wp2
      go_roundw
      case rel => exact ⟨i + 1, _, by omega, by go_num, h2, hl2, hb2⟩
      case measure => simp only [intOf]; omega
    · have hge : cap ≤ i := by omega
      go_wp2
      go_end0
      exact ⟨rfl, ⟨vs', hr.out, hl'.out⟩, hb.out⟩

set_option maxHeartbeats 2000000 in
theorem spoil_T (w : World) (g n cap : Nat) (a b c : Int) (vs : List Value) (h : RowV 41 w g vs) (hl : vs.length = cap * 3) (hn : n ≤ cap) (hc : cap ≤ maxLen) :
    Calls Tryd.prog 38 #[.slice (some ⟨g, 0, none⟩) n cap, .agg #[.int .i64 a, .int .i64 b, .int .i64 c]] w fun e w' => e = .returned (.tuple #[]) ∧ (∃ vs', RowV 41 w' g vs' ∧ vs'.length = cap * 3) ∧ Bar g w w' := by
  have hc9 : (cap : Int) ≤ 9223372036854775807 := by unfold maxLen at hc; omega
  have hn9 : (n : Int) ≤ (cap : Int) := by omega
  have hX1 := new_row w 41 [.int .i64 a, .int .i64 b, .int .i64 c]
  change RowV 41 (w.alloc (.cells #[.int .i64 a, .int .i64 b, .int .i64 c] 41)) w.heap.size [.int .i64 a, .int .i64 b, .int .i64 c] at hX1
  have hg1 := h.below (below_alloc1 w (.cells #[.int .i64 a, .int .i64 b, .int .i64 c] 41))
  have hb1 : Bar g w (w.alloc (.cells #[.int .i64 a, .int .i64 b, .int .i64 c] 41)) := Bar.of_below (below_alloc1 w _)
  have hgl := h.lt
  clear h
  go_enter Tryd.func38, Tryd.ntmps38
  go_wp2
  generalize w.alloc (.cells #[.int .i64 a, .int .i64 b, .int .i64 c] 41) = w1 at *
  obtain ⟨B, hB⟩ : ∃ B, B = w.heap.size := ⟨_, rfl⟩
  rw [← hB] at hX1 ⊢
  have hBg : B ≠ g := by omega
  clear hB hgl
  go_loopw [11] (fun vi wr => ∃ (i : Nat) (vs' : List Value), i ≤ cap ∧ vi = .int .i64 (i : Int) ∧ Hid (RowV 41 wr g vs') ∧ Hid (vs'.length = cap * 3) ∧ Hid (Bar g w wr) ∧ Hid (RowV 41 wr B [.int .i64 a, .int .i64 b, .int .i64 c]))
    (fun vi _ => cap - (intOf vi).toNat)
  case atStart => exact ⟨0, vs, Nat.zero_le _, rfl, hg1, hl, hb1, hX1⟩
  case round =>
    clear hg1 hb1 hX1
    obtain ⟨i, vs', hi, rfl, hr, hl', hb, hX⟩ := hrel
    by_cases hlt : i < cap
    · have hl3 := hl'.out
      have z0 := RowV.frozen hr.out (i * 3)
      have z1 := RowV.frozen hr.out (i * 3 + 1)
      have z2 := RowV.frozen hr.out (i * 3 + 2)
      obtain ⟨u0, hu0⟩ : ∃ u, vs'[i * 3]? = some u := ⟨_, List.getElem?_eq_getElem (by omega)⟩
      obtain ⟨u1, hu1⟩ : ∃ u, vs'[i * 3 + 1]? = some u := ⟨_, List.getElem?_eq_getElem (by omega)⟩
      obtain ⟨u2, hu2⟩ : ∃ u, vs'[i * 3 + 2]? = some u := ⟨_, List.getElem?_eq_getElem (by omega)⟩
      have y0 := (RowV.cell hr.out (i * 3)).trans hu0
      have y1 := (RowV.cell hr.out (i * 3 + 1)).trans hu1
      have y2 := (RowV.cell hr.out (i * 3 + 2)).trans hu2
      have x0 : wr.cell? ⟨B, 0, none⟩ = some (.int .i64 a) := RowV.cell hX.out 0
      have x1 : wr.cell? ⟨B, 1, none⟩ = some (.int .i64 b) := RowV.cell hX.out 1
      have x2 : wr.cell? ⟨B, 2, none⟩ = some (.int .i64 c) := RowV.cell hX.out 2
      have hin : (i : Int) < (cap : Int) := by omega
      have h2 : Hid _ := ((RowV.set hr.out (i * 3) (.int .i64 a)).set (i * 3 + 1) (.int .i64 b)).set (i * 3 + 2) (.int .i64 c)
      have hb2 : Hid _ := ((Bar.setCell hb.out (i * 3) (.int .i64 a)).setCell (i * 3 + 1) (.int .i64 b)).setCell (i * 3 + 2) (.int .i64 c)
      have hX2 : Hid _ := ((RowV.aside (i := i * 3) hX.out (.int .i64 a) hBg).aside (i := i * 3 + 1) (.int .i64 b) hBg).aside (i := i * 3 + 2) (.int .i64 c) hBg
      have hl2 : Hid ((((vs'.set (i * 3) (.int .i64 a)).set (i * 3 + 1) (.int .i64 b)).set (i * 3 + 2) (.int .i64 c)).length = cap * 3) := by show _ = _; rw [List.length_set, List.length_set, List.length_set]; exact hl3
      clear hr hb hX hu0 hu1 hu2 hl3
      go_wp2
      go_roundw
      case rel => exact ⟨i + 1, _, by omega, by go_num, h2, hl2, hb2, hX2⟩
      case measure => simp only [intOf]; omega
    · have hge : cap ≤ i := by omega
      go_wp2
      go_end0
      exact ⟨rfl, ⟨vs', hr.out, hl'.out⟩, hb.out⟩
set_option maxHeartbeats 1000000 in
theorem spoil_T0 (w : World) (a b c : Int) :
    Calls Tryd.prog 38 #[.slice none 0 0, .agg #[.int .i64 a, .int .i64 b, .int .i64 c]] w fun e w' => e = .returned (.tuple #[]) ∧ Below w.heap.size w w' := by
  go_enter Tryd.func38, Tryd.ntmps38
  go_wp2
  go_loopw [11] (fun vi wr => vi = .int .i64 0 ∧ Below w.heap.size w wr) (fun _ _ => 0)
  case atStart => exact ⟨rfl, below_alloc1 _ _⟩
  case round =>
    obtain ⟨rfl, hb⟩ := hrel
    go_wp2
    go_end0
    exact ⟨rfl, hb⟩

set_option maxHeartbeats 1000000 in
theorem slices_EqualZ (w : World) (v v' : Value) (zs : List Int) (h : IsZ w v zs) (h' : IsZ w v' zs) :
    Calls Tryd.prog 36 #[v, v'] w fun e w' => e = .returned (.bool true) ∧ Below w.heap.size w w' := by
  obtain ⟨a, cap, rfl, hcap, hmax, hc, -⟩ := h
  obtain ⟨a', cap', rfl, hcap', hmax', hc', -⟩ := h'
  have hlen : (zs.length : Int) ≤ 9223372036854775807 := by unfold maxLen at hmax; omega
  clear hmax' hmax hcap hcap'
  generalize hn : zs.length = n at *
  clear hn
  go_enter Tryd.func36, Tryd.ntmps36
  go_wp2
  go_loopw [13] (fun vi wr => ∃ k : Nat, k ≤ n ∧ vi = .int .i64 (k : Int) ∧ Below w.heap.size w wr)
    (fun vi _ => n - (intOf vi).toNat)
  case atStart => exact ⟨0, Nat.zero_le _, rfl, Below.refl _ _⟩
  case round =>
    obtain ⟨k, hk, rfl, hnx⟩ := hrel
    by_cases hlt : k < n
    · obtain ⟨b, off, rfl, hcell0⟩ := hc k hlt
      have hcell := (hnx.cell (block_lt hcell0)).trans hcell0
      obtain ⟨b', off', rfl, hcell0'⟩ := hc' k hlt
      have hcell' := (hnx.cell (block_lt hcell0')).trans hcell0'
      clear hcell0 hcell0' hc hc'
      generalize zs.getD k 0 = x at *
      go_wp2
      go_quiet (fail)
      go_wp2
      go_roundw
      case rel => exact ⟨k + 1, by omega, by go_num, below_drewN hnx _⟩
      case measure => simp only [intOf]; omega
    · have e : k = n := by omega
      subst e
      clear hc hc'
      go_wp2
      go_ret
      exact ⟨rfl, hnx⟩
set_option maxHeartbeats 2000000 in
theorem slices_EqualQ (w : World) (v v' : Value) (T : List (List Int)) (h : IsR 3 w v T) (h' : IsR 3 w v' T) :
    Calls Tryd.prog 43 #[v, v'] w fun e w' => e = .returned (.bool true) ∧ Below w.heap.size w w' := by
  have hR := h
  obtain ⟨a, cap, rfl, hcap, hmax, hc, -⟩ := h
  obtain ⟨a', cap', rfl, hcap', hmax', hc', -⟩ := h'
  have hlen : (T.length : Int) ≤ 9223372036854775807 := by unfold maxLen at hmax; omega
  clear hmax' hmax hcap hcap'
  go_enter Tryd.func43, Tryd.ntmps43
  go_wp2
  go_loopw [13] (fun vi wr => ∃ k : Nat, k ≤ T.length ∧ vi = .int .i64 (k : Int) ∧ Below w.heap.size w wr)
    (fun vi _ => T.length - (intOf vi).toNat)
  case atStart => exact ⟨0, Nat.zero_le _, rfl, Below.refl _ _⟩
  case round =>
    obtain ⟨k, hk, rfl, hnx⟩ := hrel
    by_cases hlt : k < T.length
    · obtain ⟨t0, t1, t2, hTi, -, -, -⟩ := row3 hR k hlt
      obtain ⟨b, off, rfl, hce⟩ := hc k hlt
      obtain ⟨b', off', rfl, hce'⟩ := hc' k hlt
      rw [hTi] at hce hce'
      have q0 := (hnx.cell (block_lt (hce 0 (by decide)))).trans (hce 0 (by decide))
      have q1 := (hnx.cell (block_lt (hce 1 (by decide)))).trans (hce 1 (by decide))
      have q2 := (hnx.cell (block_lt (hce 2 (by decide)))).trans (hce 2 (by decide))
      have p0 := (hnx.cell (block_lt (hce' 0 (by decide)))).trans (hce' 0 (by decide))
      have p1 := (hnx.cell (block_lt (hce' 1 (by decide)))).trans (hce' 1 (by decide))
      have p2 := (hnx.cell (block_lt (hce' 2 (by decide)))).trans (hce' 2 (by decide))
      replace q0 : wr.cell? ⟨b, off + k * 3, none⟩ = some (.int .i64 t0) := q0
      replace q1 : wr.cell? ⟨b, off + k * 3 + 1, none⟩ = some (.int .i64 t1) := q1
      replace q2 : wr.cell? ⟨b, off + k * 3 + 2, none⟩ = some (.int .i64 t2) := q2
      replace p0 : wr.cell? ⟨b', off' + k * 3, none⟩ = some (.int .i64 t0) := p0
      replace p1 : wr.cell? ⟨b', off' + k * 3 + 1, none⟩ = some (.int .i64 t1) := p1
      replace p2 : wr.cell? ⟨b', off' + k * 3 + 2, none⟩ = some (.int .i64 t2) := p2
      clear hce hce' hc hc' hR hTi
      go_wp2
      go_quiet (fail)
      go_wp2
      go_roundw
      case rel => exact ⟨k + 1, by omega, by go_num, below_drewN hnx _⟩
      case measure => simp only [intOf]; omega
    · have e : T.length = k := by omega
      have hge : T.length ≤ k := by omega
      clear hc hc' hR
      go_wp2
      go_ret
      exact ⟨rfl, hnx⟩


end Go.Proofs.YtmgfjcepebjnfagDoor
