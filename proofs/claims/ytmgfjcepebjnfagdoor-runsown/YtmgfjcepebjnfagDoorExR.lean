/-
  What the calls of package exec that only read a run answer: Done, hasWorker, waiting, Left; and dealtTo.
-/
import Derived.Test.YtmgfjcepebjnfagDoorExW
import Derived.BigQuiet
import Derived.Deep.RegionWith
import Derived.Deep.Cut
namespace Go.Proofs.YtmgfjcepebjnfagDoor
open Go.RowKit

section
variable {r : Fx} {w : World} {ga : Nat} {vd : Value} {c : Crw}

theorem exec_Done (h : Rn r w ga vd c) :
    Calls Tryd.prog 66 #[.pointer (some ⟨r.g, 0, none⟩)] w fun e w' => e = .returned (.bool (decide (c.phase = r.L.length))) ∧ Below w.heap.size w w' := by
  have k3 := h.f3
  have k2 := h.f2
  clear h
  by_cases he : c.phase = r.L.length
  · rw [decide_eq_true he]
    have hq : ((c.phase : Nat) : Int) = ((r.L.length : Nat) : Int) := by omega
    go_enter Tryd.func66, Tryd.ntmps66
    go_wp2
    go_quiet (fail)
    go_wp2
    go_ret
    exact ⟨rfl, below_drewN (Below.refl _ _) nq⟩
  · rw [decide_eq_false he]
    have hq : (((c.phase : Nat) : Int) == ((r.L.length : Nat) : Int)) = false := by simp; omega
    go_enter Tryd.func66, Tryd.ntmps66
    go_wp2
    go_quiet (fail)
    go_wp2
    go_ret
    exact ⟨rfl, below_drewN (Below.refl _ _) nq⟩

theorem exec_hasWorker (h : Rn r w ga vd c) (z : Int) :
    Calls Tryd.prog 74 #[.pointer (some ⟨r.g, 0, none⟩), .int .i64 z] w fun e w' => e = .returned (.bool (decide (0 ≤ z ∧ z < (r.W : Int)))) ∧ w' = w := by
  have k4 := h.f4
  clear h
  by_cases h0 : 0 ≤ z
  · by_cases h1 : z < (r.W : Int)
    · rw [decide_eq_true ⟨h0, h1⟩]
      go_enter Tryd.func74, Tryd.ntmps74
      go_wp2
      go_ret
      exact ⟨rfl, rfl⟩
    · rw [decide_eq_false (fun q => h1 q.2)]
      go_enter Tryd.func74, Tryd.ntmps74
      go_wp2
      go_ret
      exact ⟨rfl, rfl⟩
  · rw [decide_eq_false (fun q => h0 q.1)]
    go_enter Tryd.func74, Tryd.ntmps74
    go_wp2
    go_ret
    exact ⟨rfl, rfl⟩

theorem exec_dealtTo (w : World) (k W : Nat) (hk : k ≤ 1000000) (hW : 1 ≤ W) (hW8 : W ≤ 8) :
    Calls Tryd.prog 95 #[.int .i64 (k : Int), .int .i64 (W : Int)] w fun e w' => e = .returned (.int .i64 ((k % W : Nat) : Int)) ∧ w' = w := by
  have hmod : Int.tmod (k : Int) (W : Int) = ((k % W : Nat) : Int) := by rw [Int.tmod_eq_emod_of_nonneg (by omega), Int.natCast_emod]
  have hml : k % W < W := Nat.mod_lt _ (by omega)
  have hWz : ¬ (W : Int) = 0 := by omega
  have hwr : IntKind.i64.wrap ((k % W : Nat) : Int) = ((k % W : Nat) : Int) := wraps_i64 _ (Int.natCast_nonneg _) (by omega)
  go_enter Tryd.func95, Tryd.ntmps95
  go_wp2
  go_ret
  exact ⟨rfl, rfl⟩

theorem deque_LenW (w : World) (p : Value) (r : Nat) (m : List (List Int)) (O : Nat → Prop) (h : Dq w p r m O) :
    Calls Tryd.prog 108 #[p] w fun e w' => e = .returned (.int .i64 (m.length : Int)) ∧ w' = w := by
  obtain ⟨g, f, cs, rfl, hO, hrow, hR⟩ := h
  have c4 : w.cell? ⟨g, 194, none⟩ = some (.int .i64 (m.length : Int)) := (hrow.cell _).trans hR.c194
  clear hR hO hrow
  go_enter Tryd.func108, Tryd.ntmps108
  go_wp2
  go_ret
  exact ⟨rfl, rfl⟩

theorem flat_take_succ {α : Type} (H : List (List α)) (i : Nat) (hi : i < H.length) : (H.take (i + 1)).flatten.length = (H.take i).flatten.length + (H.getD i []).length := by
  have e : H.getD i [] = H[i] := by simp [List.getD, List.getElem?_eq_getElem hi]
  rw [List.take_add_one, List.getElem?_eq_getElem hi, Option.toList_some, List.flatten_append, List.length_append, e, List.flatten_singleton]
set_option maxHeartbeats 1000000 in
theorem exec_waiting (h : Rn r w ga vd c) (hW : r.W ≤ 8) :
    Calls Tryd.prog 99 #[.pointer (some ⟨r.g, 0, none⟩)] w fun e w' => e = .returned (.int .i64 (c.hands.flatten.length : Int)) ∧ w' = w := by
  have k4 := h.f4
  have kq : Hid (∀ i, i < r.W → w.cell? ⟨r.gd, i, none⟩ = some (.pointer (some ⟨r.q i, 0, none⟩))) := h.qcell
  have cL : Hid (∀ i, i < r.W → Calls Tryd.prog 108 #[.pointer (some ⟨r.q i, 0, none⟩)] w fun e w' => e = .returned (.int .i64 ((c.hands.getD i []).length : Int)) ∧ w' = w) := fun i hi => deque_LenW w _ 64 _ _ (h.dq i hi)
  have hlen : Hid (∀ i, i < r.W → (c.hands.getD i []).length ≤ 64) := fun i hi => by
    obtain ⟨_, _, _, q, _⟩ := (h.dq i hi).ptr
    exact q
  have hc : Hid (c.hands.length = r.W) := h.hc
  clear h
  obtain ⟨n, hn⟩ : ∃ n, n = c.hands.flatten.length := ⟨_, rfl⟩
  rw [← hn]
  have hn' : Hid (n = c.hands.flatten.length) := hn
  clear hn
  go_enter Tryd.func99, Tryd.ntmps99
  go_wp2
  go_loopw [3, 11] (fun vc vi wr => ∃ (i s : Nat), i ≤ r.W ∧ vi = .int .i64 (i : Int) ∧ vc = .int .i64 (s : Int) ∧ Hid (s = (c.hands.take i).flatten.length) ∧ s ≤ 64 * i ∧ wr = w)
    (fun _ vi _ => r.W - (intOf vi).toNat)
  case atStart => exact ⟨0, 0, Nat.zero_le _, rfl, rfl, rfl, Nat.zero_le _, rfl⟩
  case round =>
    obtain ⟨i, s, hi, rfl, rfl, hs, hs9, hwr⟩ := hrel
    rw [hwr]
    by_cases hlt : i < r.W
    · have kq2 := kq.out i hlt
      have cL2 := cL.out i hlt
      have hl2 := hlen.out i hlt
      have hs2 : Hid (s + (c.hands.getD i []).length = (c.hands.take (i + 1)).flatten.length) := by
        show _ = _
        rw [flat_take_succ _ _ (by rw [hc.out]; exact hlt), ← hs.out]
      generalize (c.hands.getD i []).length = m at *
      go_wp2_with (go_at_call 108; refine Calls.mono cL2 ?_; rintro e w' ⟨rfl, hw⟩; rw [hw]; clear hw)
      go_roundw
      case rel => exact ⟨i + 1, s + m, by omega, by go_num, by go_num, hs2, by omega, by trivial⟩
      case measure => simp only [intOf]; omega
    · have he : i = r.W := by omega
      have hsn : s = n := by
        have h1 := hs.out
        rw [he, ← hc.out, List.take_length] at h1
        exact h1.trans hn'.out.symm
      subst hsn
      subst he
      clear hlt hi
      go_wp2
      go_ret
      exact ⟨rfl, rfl⟩

end

end Go.Proofs.YtmgfjcepebjnfagDoor
