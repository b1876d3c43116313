/-
  What Norm, Add, Mul and Eval of package poly answer.
-/
import Derived.Test.YtgkepflnnoociacDoorPolyH
namespace Go.Proofs.YtgkepflnnoociacDoor
open Go.RowKit

theorem cell_new (w : World) (c : Array Value) (t i : Nat) (v : Value) (h : c[i]? = some v) : (w.alloc (.cells c t)).cell? ⟨w.heap.size, i, none⟩ = some v := by
  have e : (w.alloc (.cells c t)).heap[w.heap.size]? = some (.cells c t) := by
    show (w.heap.push _)[w.heap.size]? = _
    simp
  simp only [World.cell?, e]
  rw [h]; rfl
theorem len_le {w : World} {v : Value} {xs : List Nat} (h : IsU w v xs) : xs.length ≤ 9223372036854775807 := by
  obtain ⟨a, cap, rfl, h1, h2, _⟩ := h
  unfold maxLen at h2; omega
theorem any1 {w : World} {v : Value} {xs : List Nat} (t : Nat) (h : IsU w v xs) (hl : xs.length ≤ 2048) :
    Calls Tryd.prog 102 #[.slice (some ⟨w.heap.size, 0, none⟩) 1 1] (w.alloc (.cells #[v] t)) fun e w' => e = .returned (.bool false) ∧ w' = w.alloc (.cells #[v] t) := by
  obtain ⟨a, cap, rfl, _⟩ := h
  refine poly_anyLarge _ _ 1 [xs.length] (fun i hi => ⟨a, cap, ?_⟩) (fun i hi => ?_) (by omega)
  · obtain rfl : i = 0 := by omega
    exact cell_new _ _ _ _ _ rfl
  · obtain rfl : i = 0 := by omega
    exact hl
theorem any1_yes {w : World} {v : Value} {xs : List Nat} (t : Nat) (h : IsU w v xs) (hl : 2048 < xs.length) :
    Calls Tryd.prog 102 #[.slice (some ⟨w.heap.size, 0, none⟩) 1 1] (w.alloc (.cells #[v] t)) fun e w' => e = .returned (.bool true) ∧ w' = w.alloc (.cells #[v] t) := by
  have hb := len_le h
  obtain ⟨a, cap, rfl, _⟩ := h
  refine poly_anyLarge_yes _ _ 1 [xs.length] (fun i hi => ⟨a, cap, ?_⟩) ⟨0, by omega, hl⟩ (by omega) (fun i => ?_)
  · obtain rfl : i = 0 := by omega
    exact cell_new _ _ _ _ _ rfl
  · match i with
    | 0 => exact hb
    | i + 1 => simp
theorem any2 {w : World} {v v' : Value} {xs ys : List Nat} (t : Nat) (h : IsU w v xs) (h' : IsU w v' ys) (hl : xs.length ≤ 2048) (hl' : ys.length ≤ 2048) :
    Calls Tryd.prog 102 #[.slice (some ⟨w.heap.size, 0, none⟩) 2 2] (w.alloc (.cells #[v, v'] t)) fun e w' => e = .returned (.bool false) ∧ w' = w.alloc (.cells #[v, v'] t) := by
  obtain ⟨a, cap, rfl, _⟩ := h
  obtain ⟨a', cap', rfl, _⟩ := h'
  refine poly_anyLarge _ _ 2 [xs.length, ys.length] (fun i hi => ?_) (fun i hi => ?_) (by omega)
  · match i, hi with
    | 0, _ => exact ⟨a, cap, cell_new _ _ _ _ _ rfl⟩
    | 1, _ => exact ⟨a', cap', cell_new _ _ _ _ _ rfl⟩
  · match i, hi with
    | 0, _ => exact hl
    | 1, _ => exact hl'
theorem any2_yes {w : World} {v v' : Value} {xs ys : List Nat} (t : Nat) (h : IsU w v xs) (h' : IsU w v' ys) (hl : 2048 < xs.length ∨ 2048 < ys.length) :
    Calls Tryd.prog 102 #[.slice (some ⟨w.heap.size, 0, none⟩) 2 2] (w.alloc (.cells #[v, v'] t)) fun e w' => e = .returned (.bool true) ∧ w' = w.alloc (.cells #[v, v'] t) := by
  have hb := len_le h
  have hb' := len_le h'
  obtain ⟨a, cap, rfl, _⟩ := h
  obtain ⟨a', cap', rfl, _⟩ := h'
  refine poly_anyLarge_yes _ _ 2 [xs.length, ys.length] (fun i hi => ?_) ?_ (by omega) (fun i => ?_)
  · match i, hi with
    | 0, _ => exact ⟨a, cap, cell_new _ _ _ _ _ rfl⟩
    | 1, _ => exact ⟨a', cap', cell_new _ _ _ _ _ rfl⟩
  · rcases hl with hl | hl
    · exact ⟨0, by omega, hl⟩
    · exact ⟨1, by omega, hl⟩
  · match i with
    | 0 => exact hb
    | 1 => exact hb'
    | i + 2 => simp
theorem pN_rng (xs : List Nat) : Rng (pN xs) := Rng_of_P (pN_lt xs)
set_option maxHeartbeats 1000000 in
theorem poly_Eval_ok (w : World) (v : Value) (xs : List Nat) (x : Nat) (h : IsU w v xs) (hl : xs.length ≤ 2048) (hx : (x : Int) < 18446744073709551616) :
    Calls Tryd.prog 67 #[v, .int .u64 (x : Int)] w fun e w' => e = .returned (.tuple #[.int .u64 ((pE xs x : Nat) : Int), .int .i64 0]) ∧ Below w.heap.size w w' := by
  have hl9 : xs.length ≤ 1000000000 := by omega
  have cV := fun (W : World) (hU : IsU W v xs) => poly_valueAt W v xs x hU hl9 hx
  clear hx
  have h0 := h
  obtain ⟨a, cap, rfl, -⟩ := h
  go_enter Tryd.func67, Tryd.ntmps67
  go_wp2_with (first
    | (go_at_call 102; refine Calls.mono (any1 _ h0 hl) ?_; rintro e w1 ⟨rfl, hw⟩; rw [hw]; clear hw)
    | (go_at_call 103; refine Calls.mono (cV _ (h0.below (below_alloc1 _ _))) ?_; rintro e w2 ⟨rfl, hw⟩))
  go_ret2
  obtain ⟨m, rfl⟩ := hw
  exact ⟨rfl, below_drewN (below_alloc1 _ _) _⟩

set_option maxHeartbeats 1000000 in
theorem poly_Eval_large (w : World) (v : Value) (xs : List Nat) (x : Nat) (h : IsU w v xs) (hl : 2048 < xs.length) :
    Calls Tryd.prog 67 #[v, .int .u64 (x : Int)] w fun e w' => e = .returned (.tuple #[.int .u64 0, .int .i64 2]) ∧ Below w.heap.size w w' := by
  have h0 := h
  obtain ⟨a, cap, rfl, -⟩ := h
  go_enter Tryd.func67, Tryd.ntmps67
  go_wp2_with (go_at_call 102; refine Calls.mono (any1_yes _ h0 hl) ?_; rintro e w1 ⟨rfl, hw⟩; rw [hw]; clear hw)
  go_ret2
  exact ⟨rfl, below_alloc1 _ _⟩

end Go.Proofs.YtgkepflnnoociacDoor
