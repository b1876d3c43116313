/-
  What samePhases answers of two slices of phases that read the same: true; nothing that was there is written.
-/
import Derived.Test.YtcaepjmgnoeefabDoorRefPhases
import Derived.BigQuiet
namespace Go.Proofs.YtcaepjmgnoeefabDoor
open Go.RowKit

set_option maxHeartbeats 2000000 in
theorem slices_EqualT (w : World) (v v' : Value) (T : List (List Int)) (h : IsR 3 w v T) (h' : IsR 3 w v' T) :
    Calls Tryd.prog 56 #[v, v'] w fun e w' => e = .returned (.bool true) ∧ Below w.heap.size w w' := by
  have hR := h
  obtain ⟨a, cap, rfl, hcap, hmax, hc, -⟩ := h
  obtain ⟨a', cap', rfl, hcap', hmax', hc', -⟩ := h'
  have hlen : (T.length : Int) ≤ 9223372036854775807 := by unfold maxLen at hmax; omega
  clear hmax' hmax hcap hcap'
  go_enter Tryd.func56, Tryd.ntmps56
  go_wp2
  go_loopw [13] (fun vi wr => ∃ k : Nat, k ≤ T.length ∧ vi = .int .i64 (k : Int) ∧ Below w.heap.size w wr)
    (fun vi _ => T.length - (intOf vi).toNat)
  case atStart => exact ⟨0, Nat.zero_le _, rfl, Below.refl _ _⟩
  case round =>
    obtain ⟨k, hk, rfl, hnx⟩ := hrel
    by_cases hlt : k < T.length
    · obtain ⟨t0, t1, t2, hTi, -, -, -⟩ := row3 hR k hlt
      obtain ⟨b, off, rfl, hce⟩ := hc k hlt
      obtain ⟨b', off', rfl, hce'⟩ := hc' k hlt
      rw [hTi] at hce hce'
      have q0 := (hnx.cell (block_lt (hce 0 (by decide)))).trans (hce 0 (by decide))
      have q1 := (hnx.cell (block_lt (hce 1 (by decide)))).trans (hce 1 (by decide))
      have q2 := (hnx.cell (block_lt (hce 2 (by decide)))).trans (hce 2 (by decide))
      have p0 := (hnx.cell (block_lt (hce' 0 (by decide)))).trans (hce' 0 (by decide))
      have p1 := (hnx.cell (block_lt (hce' 1 (by decide)))).trans (hce' 1 (by decide))
      have p2 := (hnx.cell (block_lt (hce' 2 (by decide)))).trans (hce' 2 (by decide))
      replace q0 : wr.cell? ⟨b, off + k * 3, none⟩ = some (.int .i64 t0) := q0
      replace q1 : wr.cell? ⟨b, off + k * 3 + 1, none⟩ = some (.int .i64 t1) := q1
      replace q2 : wr.cell? ⟨b, off + k * 3 + 2, none⟩ = some (.int .i64 t2) := q2
      replace p0 : wr.cell? ⟨b', off' + k * 3, none⟩ = some (.int .i64 t0) := p0
      replace p1 : wr.cell? ⟨b', off' + k * 3 + 1, none⟩ = some (.int .i64 t1) := p1
      replace p2 : wr.cell? ⟨b', off' + k * 3 + 2, none⟩ = some (.int .i64 t2) := p2
      clear hce hce' hc hc' hR hTi
      go_wp2
      go_quiet (fail)
      go_wp2
      go_roundw
      case rel => exact ⟨k + 1, by omega, by go_num, below_drewN hnx _⟩
      case measure => simp only [intOf]; omega
    · have e : T.length = k := by omega
      have hge : T.length ≤ k := by omega
      clear hc hc' hR
      go_wp2
      go_ret
      exact ⟨rfl, hnx⟩

theorem same_phase (w : World) (v v' : Value) (T : List (List Int)) (h : IsR 3 w v T) (h' : IsR 3 w v' T) :
    Calls Tryd.prog 55 #[v, v'] w fun e w' => e = .returned (.bool true) ∧ Below w.heap.size w w' := by
  have c := slices_EqualT w v v' T h h'
  go_enter Tryd.func55, Tryd.ntmps55
  go_wp2_with (go_at_call 56; refine Calls.mono c ?_; rintro e w1 ⟨rfl, hb⟩)
  go_ret
  exact ⟨rfl, hb⟩

set_option maxHeartbeats 2000000 in
theorem slices_EqualFuncP (w : World) (v v' : Value) (L : List (List (List Int))) (h : IsP 3 w v L) (h' : IsP 3 w v' L) :
    Calls Tryd.prog 54 #[v, v', .func (.func 55) #[] #[]] w fun e w' => e = .returned (.bool true) ∧ Below w.heap.size w w' := by
  have hL := h
  have hL' := h'
  obtain ⟨a, cap, rfl, hcap, hmax, -⟩ := h
  obtain ⟨a', cap', rfl, -, -, -⟩ := h'
  have hlen : (L.length : Int) ≤ 9223372036854775807 := by unfold maxLen at hmax; omega
  clear hcap hmax
  have hget : ∀ (W : World) (hb : Below w.heap.size w W) (i : Nat), i < L.length → ∃ b off u b' off' u', a = some ⟨b, off, none⟩ ∧ a' = some ⟨b', off', none⟩ ∧ W.cell? ⟨b, off + i, none⟩ = some u ∧ W.cell? ⟨b', off' + i, none⟩ = some u' ∧ IsR 3 W u (L.getD i []) ∧ IsR 3 W u' (L.getD i []) := by
    intro W hb i hi
    obtain ⟨a1, c1, e1, _, _, hc⟩ := hL.below hb
    obtain ⟨a2, c2, e2, _, _, hc2⟩ := hL'.below hb
    simp only [Value.slice.injEq, true_and] at e1 e2
    obtain ⟨rfl, rfl⟩ := e1
    obtain ⟨rfl, rfl⟩ := e2
    obtain ⟨b, off, u, e3, h3, h4⟩ := hc i hi
    obtain ⟨b', off', u', e5, h5, h6⟩ := hc2 i hi
    exact ⟨b, off, u, b', off', u', e3, e5, h3, h5, h4, h6⟩
  clear hL hL'
  generalize hn : L.length = n at *
  clear hn
  go_enter Tryd.func54, Tryd.ntmps54
  go_wp2
  go_loopw [17] (fun vi wr => ∃ k : Nat, k ≤ n ∧ vi = .int .i64 (k : Int) ∧ Below w.heap.size w wr)
    (fun vi _ => n - (intOf vi).toNat)
  case atStart => exact ⟨0, Nat.zero_le _, rfl, Below.refl _ _⟩
  case round =>
    obtain ⟨k, hk, rfl, hnx⟩ := hrel
    by_cases hlt : k < n
    · obtain ⟨b, off, u, b', off', u', rfl, rfl, h1, h2, h3, h4⟩ := hget wr hnx k hlt
      have c := same_phase wr u u' _ h3 h4
      have h3' := h3
      have h4' := h4
      obtain ⟨au, cu, rfl, -⟩ := h3'
      obtain ⟨au', cu', rfl, -⟩ := h4'
      clear hget h3 h4
      go_wp2_with (go_at_call 55; refine Calls.mono c ?_; rintro e w1 ⟨rfl, hb⟩; clear h1 h2 c)
      replace hnx := hnx.trans (hb.mono hnx.size)
      clear hb
      go_roundw
      case rel => exact ⟨k + 1, by omega, by go_num, hnx⟩
      case measure => simp only [intOf]; omega
    · have e : k = n := by omega
      subst e
      clear hget
      go_wp2
      go_ret
      exact ⟨rfl, hnx⟩
theorem same_phases (w : World) (v v' : Value) (L : List (List (List Int))) (h : IsP 3 w v L) (h' : IsP 3 w v' L) :
    Calls Tryd.prog 25 #[v, v'] w fun e w' => e = .returned (.bool true) ∧ Below w.heap.size w w' := by
  have c := slices_EqualFuncP w v v' L h h'
  obtain ⟨a, cap, rfl, -⟩ := h
  obtain ⟨a', cap', rfl, -⟩ := h'
  go_enter Tryd.func25, Tryd.ntmps25
  go_wp2_with (go_at_call 54; refine Calls.mono c ?_; rintro e w1 ⟨rfl, hb⟩)
  go_ret
  exact ⟨rfl, hb⟩

end Go.Proofs.YtcaepjmgnoeefabDoor
