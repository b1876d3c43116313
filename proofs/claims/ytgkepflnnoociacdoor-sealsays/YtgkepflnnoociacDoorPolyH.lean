/-
  What the helpers of package poly answer: a list too large, the normal form, a multiple added, a value.
-/
import Derived.Test.YtgkepflnnoociacDoorRowU
import Derived.Test.YtgkepflnnoociacDoorPure
import Derived.Test.YtgkepflnnoociacDoorFieldB
import Derived.BigQuiet
import Derived.Deep.RegionWith
namespace Go.Proofs.YtgkepflnnoociacDoor
open Go.RowKit

set_option maxHeartbeats 2000000 in
theorem poly_valueAt (w : World) (v : Value) (xs : List Nat) (x : Nat) (h : IsU w v xs) (hl : xs.length ≤ 1000000000) (hx : (x : Int) < 18446744073709551616) :
    Calls Tryd.prog 103 #[v, .int .u64 (x : Int)] w fun e w' => e = .returned (.int .u64 ((pE xs x : Nat) : Int)) ∧ ∃ m, w' = w.drewN m := by
  obtain ⟨a, cap, rfl, hcap, hmax, hc, hr⟩ := h
  clear hcap hmax
  go_enter Tryd.func103, Tryd.ntmps103
  go_wp2
  go_loopw [5, 6] (fun vo vi wr => ∃ (z : Int) (j : Nat), j ≤ xs.length ∧ z = (j : Int) - 1 ∧ vi = .int .i64 z ∧ vo = .int .u64 ((hv xs x j : Nat) : Int) ∧ Hid (∃ m, wr = w.drewN m))
    (fun _ vi _ => (intOf vi + 1).toNat)
  case atStart => exact ⟨_, xs.length, Nat.le_refl _, rfl, rfl, by rw [hv_end]; rfl, ⟨0, rfl⟩⟩
  case round =>
    obtain ⟨z, j, hj, hz, rfl, rfl, hq⟩ := hrel
    rcases Nat.eq_zero_or_pos j with hj0 | hj0
    · have e : z = -1 := by omega
      subst e
      subst hj0
      rw [hv_zero]
      clear hc hz
      go_wp2
      go_ret
      exact ⟨rfl, hq.out⟩
    · obtain ⟨i, rfl⟩ : ∃ i, j = i + 1 := ⟨j - 1, by omega⟩
      have e : z = (i : Int) := by omega
      subst e
      have hil : i < xs.length := by omega
      obtain ⟨b, off, rfl, hcell0⟩ := hc i hil
      have hcell : wr.cell? ⟨b, off + i, none⟩ = some (.int .u64 ((xs.getD i 0 : Nat) : Int)) := by obtain ⟨m, rfl⟩ := hq.out; exact hcell0
      clear hcell0
      have x1 := range_getD hr i
      have c1 := field_Mul (hv xs x (i + 1)) x (by have := hv_lt xs x (i + 1); omega) hx
      have c2 := field_Add (fM (hv xs x (i + 1)) x) (xs.getD i 0) (by have := fM_lt (hv xs x (i + 1)) x; omega) x1
      rw [hv_step xs x i hil] at c2
      clear hc hr x1 hx hz hj hj0
      generalize fM (hv xs x (i + 1)) x = p at *
      generalize xs.getD i 0 = y at *
      generalize hv xs x (i + 1) = q at *
      go_wp2
      go_quiet (first | (go_at_call 142; exact Calls.quiet_of_same (c1 _)) | (go_at_call 144; exact Calls.quiet_of_same (c2 _)))
      go_wp2
      go_roundw
      case rel => exact ⟨_, i, by omega, rfl, by go_num, rfl, by obtain ⟨m, rfl⟩ := hq.out; exact ⟨m + _, World.drewN_drewN _ _ _⟩⟩
      case measure => simp only [intOf]; omega

set_option maxHeartbeats 2000000 in
theorem poly_anyLarge (w : World) (g n : Nat) (lens : List Nat) (h : ∀ i, i < n → ∃ a c, w.cell? ⟨g, i, none⟩ = some (.slice a (lens.getD i 0) c)) (hm : ∀ i, i < n → lens.getD i 0 ≤ 2048) (hn9 : n ≤ 2) :
    Calls Tryd.prog 102 #[.slice (some ⟨g, 0, none⟩) n n] w fun e w' => e = .returned (.bool false) ∧ w' = w := by
  go_enter Tryd.func102, Tryd.ntmps102
  go_wp2
  go_loop [7] (fun vi => ∃ k : Nat, k ≤ n ∧ vi = .int .i64 (k : Int)) (fun vi => n - (intOf vi).toNat)
  case atStart => exact ⟨0, Nat.zero_le _, rfl⟩
  case round =>
    obtain ⟨k, hk, rfl⟩ := hrel
    by_cases hlt : k < n
    · obtain ⟨a, c, hcell⟩ := h k hlt
      have hle := hm k hlt
      clear h hm
      generalize lens.getD k 0 = l at *
      go_wp2
      go_round
      case rel => exact ⟨k + 1, by omega, by go_num⟩
      case measure => simp only [intOf]; omega
    · have e : k = n := by omega
      subst e
      clear h hm
      go_wp2
      go_ret
      exact ⟨rfl, rfl⟩
set_option maxHeartbeats 2000000 in
theorem poly_anyLarge_yes (w : World) (g n : Nat) (lens : List Nat) (h : ∀ i, i < n → ∃ a c, w.cell? ⟨g, i, none⟩ = some (.slice a (lens.getD i 0) c)) (hm : ∃ i, i < n ∧ 2048 < lens.getD i 0) (hn9 : n ≤ 2) (hb : ∀ i, lens.getD i 0 ≤ 9223372036854775807) :
    Calls Tryd.prog 102 #[.slice (some ⟨g, 0, none⟩) n n] w fun e w' => e = .returned (.bool true) ∧ w' = w := by
  obtain ⟨i0, hi0, hl0⟩ := hm
  go_enter Tryd.func102, Tryd.ntmps102
  go_wp2
  go_loop [7] (fun vi => ∃ k : Nat, k ≤ i0 ∧ vi = .int .i64 (k : Int)) (fun vi => n - (intOf vi).toNat)
  case atStart => exact ⟨0, Nat.zero_le _, rfl⟩
  case round =>
    obtain ⟨k, hk, rfl⟩ := hrel
    obtain ⟨a, c, hcell⟩ := h k (by omega)
    have hlt : k < n := by omega
    have hbk := hb k
    by_cases hle : lens.getD k 0 ≤ 2048
    · have hne : k ≠ i0 := fun e => by subst e; omega
      clear h hb hl0
      generalize lens.getD k 0 = l at *
      go_wp2
      go_round
      case rel => exact ⟨k + 1, by omega, by go_num⟩
      case measure => simp only [intOf]; omega
    · have hgt : 2048 < lens.getD k 0 := by omega
      clear h hb hl0 hle
      generalize lens.getD k 0 = l at *
      go_wp2
      go_ret
      exact ⟨rfl, rfl⟩

end Go.Proofs.YtgkepflnnoociacDoor
