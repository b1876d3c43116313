/-
  Texts that stood one behind the other, as one.
-/
import Derived.Test.YtmggccepmicjhagGreatDoorRefPhasesAll
import Derived.Test.YtmggccepmicjhagGreatDoorSlMakeAll
import Derived.Test.YtmggccepmicjhagGreatDoorPure
import Derived.BigQuiet
import Derived.Deep.RegionWith
import Derived.Test.YtmggccepmicjhagGreatDoorOpenSAll
/-! What Mul and Pow of package field answer, for all numbers of 64 bits: the rest by the prime of the product and of the power. -/
namespace Go.Proofs.YtmggccepmicjhagGreatDoor
open Go.RowKit
set_option maxRecDepth 100000

/-! ### Mul -/
theorem mul_red (x : Nat) : fA (fS (x % 18446744073709551616) (x / 18446744073709551616 / 4294967296)) (x / 18446744073709551616 % 4294967296 * 4294967295) = x % P ∨ 340282366920938463463374607431768211456 ≤ x := by
  by_cases hx : 340282366920938463463374607431768211456 ≤ x
  · exact Or.inr hx
  left
  have e : x = x % 18446744073709551616 + 18446744073709551616 * (x / 18446744073709551616 % 4294967296 + 4294967296 * (x / 18446744073709551616 / 4294967296)) := by omega
  have b1 : x / 18446744073709551616 / 4294967296 < 4294967296 := by omega
  have b0 : x / 18446744073709551616 % 4294967296 < 4294967296 := by omega
  generalize x % 18446744073709551616 = lo at *
  generalize x / 18446744073709551616 % 4294967296 = h0 at *
  generalize x / 18446744073709551616 / 4294967296 = h1 at *
  rw [fA_eq, fS_eq, Nat.mod_add_mod]
  have e1 : h1 % P = h1 := Nat.mod_eq_of_lt (by unfold P; omega)
  rw [e1]
  have e2 : x + P = lo + (P - h1) + h0 * 4294967295 + P * (h0 + h1 * 4294967297) := by
    rw [e]; unfold P; omega
  have e3 : x % P = (x + P) % P := by simp
  rw [e3, e2, Nat.add_mul_mod_self_left]

theorem mul_walk (a b hi lo h1 h0 : Nat) (c : ∀ w, Calls Tryz.prog 61 #[.int .u64 a, .int .u64 b] w fun e w' => e = .returned (.tuple #[.int .u64 (hi : Int), .int .u64 (lo : Int)]) ∧ w' = w)
    (hlo : (lo : Int) < 18446744073709551616) (e1 : (hi : Int) / 4294967296 = (h1 : Int)) (e0 : bits .and .u64 (hi : Int) 4294967295 = (h0 : Int)) (b1 : (h1 : Int) < 4294967296) (b0 : (h0 : Int) < 4294967296) (w : World) :
    Calls Tryz.prog 36 #[.int .u64 (a : Int), .int .u64 (b : Int)] w fun e w' => e = .returned (.int .u64 ((fA (fS lo h1) (h0 * 4294967295) : Nat) : Int)) ∧ w' = w := by
  have bs := fS_lt lo h1
  have cs := field_Sub lo h1 hlo (by omega)
  have ca := field_Add (fS lo h1) (h0 * 4294967295) (by omega) (by omega)
  rw [Int.natCast_mul] at ca
  have e4 : ((4294967295 : Nat) : Int) = 4294967295 := rfl
  rw [e4] at ca
  clear e4
  go_enter Tryz.func36, Tryz.ntmps36
  go_wp2_with (first
    | (go_at_call 61; refine Calls.mono (c _) ?_; rintro e w' ⟨rfl, hw⟩; rw [hw]; clear hw)
    | (go_at_call 35; refine Calls.mono (cs _) ?_; rintro e w' ⟨rfl, hw⟩; rw [hw]; clear hw)
    | (go_at_call 34; refine Calls.mono (ca _) ?_; rintro e w' ⟨rfl, hw⟩; rw [hw]; clear hw))
  go_ret
  exact ⟨rfl, rfl⟩

theorem field_Mul (a b : Nat) (ha : (a : Int) < 18446744073709551616) (hb : (b : Int) < 18446744073709551616) (w : World) :
    Calls Tryz.prog 36 #[.int .u64 (a : Int), .int .u64 (b : Int)] w fun e w' => e = .returned (.int .u64 ((fM a b : Nat) : Int)) ∧ w' = w := by
  have hlt : a * b < 340282366920938463463374607431768211456 := by
    have := Nat.mul_le_mul (show a ≤ 18446744073709551615 by omega) (show b ≤ 18446744073709551615 by omega)
    omega
  have e : fA (fS (a * b % 18446744073709551616) (a * b / 18446744073709551616 / 4294967296)) (a * b / 18446744073709551616 % 4294967296 * 4294967295) = fM a b := by
    rw [fM_eq]
    rcases mul_red (a * b) with h | h
    · exact h
    · omega
  rw [← e]
  refine mul_walk a b _ _ _ _ (bits_Mul64 a b (by omega) (by omega)) (by omega) (high_half _) (low_half _ (by omega)) (by omega) (by omega) w

/-! ### Pow -/
theorem pow_even (r s n : Nat) : r * (fM s s) ^ (n / 2) % P = r * s ^ n % P ∨ n % 2 = 1 := by
  rcases Nat.mod_two_eq_zero_or_one n with h | h
  · left
    have e : n = 2 * (n / 2) := by omega
    rw [fM_eq]
    conv => rhs; rw [e, Nat.pow_mul, Nat.pow_two]
    rw [Nat.mul_mod, ← Nat.pow_mod, ← Nat.mul_mod]
  · exact Or.inr h
theorem pow_odd (r s n : Nat) : (fM r s) * (fM s s) ^ (n / 2) % P = r * s ^ n % P ∨ n % 2 = 0 := by
  rcases Nat.mod_two_eq_zero_or_one n with h | h
  · exact Or.inr h
  · left
    have e : n = 2 * (n / 2) + 1 := by omega
    rw [fM_eq, fM_eq]
    conv => rhs; rw [e, Nat.pow_succ, Nat.pow_mul, Nat.pow_two]
    rw [Nat.mul_mod, ← Nat.pow_mod, Nat.mod_mod, ← Nat.mul_mod, Nat.mul_assoc, Nat.mul_comm s]

set_option maxHeartbeats 1000000 in
theorem field_Pow (a m : Nat) (ha : (a : Int) < 18446744073709551616) (hm : (m : Int) < 18446744073709551616) (w : World) :
    Calls Tryz.prog 37 #[.int .u64 (a : Int), .int .u64 (m : Int)] w fun e w' => e = .returned (.int .u64 ((fW a m : Nat) : Int)) ∧ w' = w := by
  go_enter Tryz.func37, Tryz.ntmps37
  go_wp2
  go_loop [1, 5, 6] (fun vn vr vs => ∃ n r s : Nat, vn = .int .u64 (n : Int) ∧ vr = .int .u64 (r : Int) ∧ vs = .int .u64 (s : Int) ∧ (n : Int) < 18446744073709551616 ∧ (r : Int) < 18446744069414584321 ∧ (s : Int) < 18446744073709551616 ∧ Hid (r * s ^ n % P = fW a m))
    (fun vn _ _ => (intOf vn).toNat)
  case atStart => exact ⟨m, 1, a, rfl, rfl, rfl, hm, by omega, ha, by rw [Nat.one_mul]; exact (fW_eq a m).symm⟩
  case round =>
    obtain ⟨n, r, s, rfl, rfl, rfl, hn, hr, hs, hinv⟩ := hrel
    have b1 := fM_lt r s
    have b2 := fM_lt s s
    rcases Nat.eq_zero_or_pos n with h0 | h0
    · subst h0
      have e : r = fW a m := by
        have := hinv.out
        rw [Nat.pow_zero, Nat.mul_one, Nat.mod_eq_of_lt (by unfold P; omega)] at this
        exact this
      subst e
      go_wp2
      go_ret
      exact ⟨rfl, rfl⟩
    · have hb := and_one_u64 (n : Int) (by omega) (by omega)
      rcases Nat.mod_two_eq_zero_or_one n with h | h
      · have h2 : (n : Int) % 2 = 0 := by omega
        rw [h2] at hb
        have hp := pow_even r s n
        rw [h] at hp
        have hp2 : Hid (r * (fM s s) ^ (n / 2) % P = fW a m) := by
          rcases hp with hp | hp
          · exact hp.trans hinv.out
          · omega
        clear hp h2
        go_wp2_with (go_at_call 36; refine Calls.mono (field_Mul _ _ ?_ ?_ _) ?_; omega; omega; rintro e w' ⟨rfl, hw⟩; rw [hw]; clear hw)
        go_round
        case rel => exact ⟨n / 2, r, fM s s, by go_num, rfl, rfl, by omega, hr, by omega, hp2⟩
        case measure => simp only [intOf]; omega
      · have h2 : (n : Int) % 2 = 1 := by omega
        rw [h2] at hb
        have hp := pow_odd r s n
        rw [h] at hp
        have hp2 : Hid ((fM r s) * (fM s s) ^ (n / 2) % P = fW a m) := by
          rcases hp with hp | hp
          · exact hp.trans hinv.out
          · omega
        clear hp h2
        go_wp2_with (go_at_call 36; refine Calls.mono (field_Mul _ _ ?_ ?_ _) ?_; omega; omega; rintro e w' ⟨rfl, hw⟩; rw [hw]; clear hw)
        go_round
        case rel => exact ⟨n / 2, fM r s, fM s s, by go_num, rfl, rfl, by omega, b1, by omega, hp2⟩
        case measure => simp only [intOf]; omega

end Go.Proofs.YtmggccepmicjhagGreatDoor

/-! What the helpers of package poly answer: a list too large, the normal form, a multiple added, a value. -/
namespace Go.Proofs.YtmggccepmicjhagGreatDoor
open Go.RowKit
set_option maxRecDepth 100000

set_option maxHeartbeats 2000000 in
theorem poly_valueAt (w : World) (v : Value) (xs : List Nat) (x : Nat) (h : IsU w v xs) (hl : xs.length ≤ 1000000000) (hx : (x : Int) < 18446744073709551616) :
    Calls Tryz.prog 114 #[v, .int .u64 (x : Int)] w fun e w' => e = .returned (.int .u64 ((pE xs x : Nat) : Int)) ∧ ∃ m, w' = w.drewN m := by
  obtain ⟨a, cap, rfl, hcap, hmax, hc, hr⟩ := h
  clear hcap hmax
  go_enter Tryz.func114, Tryz.ntmps114
  go_wp2
  go_loopw [5, 6] (fun vo vi wr => ∃ (z : Int) (j : Nat), j ≤ xs.length ∧ z = (j : Int) - 1 ∧ vi = .int .i64 z ∧ vo = .int .u64 ((hv xs x j : Nat) : Int) ∧ Hid (∃ m, wr = w.drewN m))
    (fun _ vi _ => (intOf vi + 1).toNat)
  case atStart => exact ⟨_, xs.length, Nat.le_refl _, rfl, rfl, by rw [hv_end]; rfl, ⟨0, rfl⟩⟩
  case round =>
    obtain ⟨z, j, hj, hz, rfl, rfl, hq⟩ := hrel
    rcases Nat.eq_zero_or_pos j with hj0 | hj0
    · have e : z = -1 := by omega
      subst e
      subst hj0
      rw [hv_zero]
      clear hc hz
      go_wp2
      go_ret
      exact ⟨rfl, hq.out⟩
    · obtain ⟨i, rfl⟩ : ∃ i, j = i + 1 := ⟨j - 1, by omega⟩
      have e : z = (i : Int) := by omega
      subst e
      have hil : i < xs.length := by omega
      obtain ⟨b, off, rfl, hcell0⟩ := hc i hil
      have hcell : wr.cell? ⟨b, off + i, none⟩ = some (.int .u64 ((xs.getD i 0 : Nat) : Int)) := by obtain ⟨m, rfl⟩ := hq.out; exact hcell0
      clear hcell0
      have x1 := range_getD hr i
      have c1 := field_Mul (hv xs x (i + 1)) x (by have := hv_lt xs x (i + 1); omega) hx
      have c2 := field_Add (fM (hv xs x (i + 1)) x) (xs.getD i 0) (by have := fM_lt (hv xs x (i + 1)) x; omega) x1
      rw [hv_step xs x i hil] at c2
      clear hc hr x1 hx hz hj hj0
      generalize fM (hv xs x (i + 1)) x = p at *
      generalize xs.getD i 0 = y at *
      generalize hv xs x (i + 1) = q at *
      go_wp2
      go_quiet (first | (go_at_call 36; exact Calls.quiet_of_same (c1 _)) | (go_at_call 34; exact Calls.quiet_of_same (c2 _)))
      go_wp2
      go_roundw
      case rel => exact ⟨_, i, by omega, rfl, by go_num, rfl, by obtain ⟨m, rfl⟩ := hq.out; exact ⟨m + _, World.drewN_drewN _ _ _⟩⟩
      case measure => simp only [intOf]; omega

set_option maxHeartbeats 2000000 in
theorem poly_anyLarge (w : World) (g n : Nat) (lens : List Nat) (h : ∀ i, i < n → ∃ a c, w.cell? ⟨g, i, none⟩ = some (.slice a (lens.getD i 0) c)) (hm : ∀ i, i < n → lens.getD i 0 ≤ 2048) (hn9 : n ≤ 2) :
    Calls Tryz.prog 113 #[.slice (some ⟨g, 0, none⟩) n n] w fun e w' => e = .returned (.bool false) ∧ w' = w := by
  go_enter Tryz.func113, Tryz.ntmps113
  go_wp2
  go_loop [7] (fun vi => ∃ k : Nat, k ≤ n ∧ vi = .int .i64 (k : Int)) (fun vi => n - (intOf vi).toNat)
  case atStart => exact ⟨0, Nat.zero_le _, rfl⟩
  case round =>
    obtain ⟨k, hk, rfl⟩ := hrel
    by_cases hlt : k < n
    · obtain ⟨a, c, hcell⟩ := h k hlt
      have hle := hm k hlt
      clear h hm
      generalize lens.getD k 0 = l at *
      go_wp2
      go_round
      case rel => exact ⟨k + 1, by omega, by go_num⟩
      case measure => simp only [intOf]; omega
    · have e : k = n := by omega
      subst e
      clear h hm
      go_wp2
      go_ret
      exact ⟨rfl, rfl⟩
set_option maxHeartbeats 2000000 in
theorem poly_anyLarge_yes (w : World) (g n : Nat) (lens : List Nat) (h : ∀ i, i < n → ∃ a c, w.cell? ⟨g, i, none⟩ = some (.slice a (lens.getD i 0) c)) (hm : ∃ i, i < n ∧ 2048 < lens.getD i 0) (hn9 : n ≤ 2) (hb : ∀ i, lens.getD i 0 ≤ 9223372036854775807) :
    Calls Tryz.prog 113 #[.slice (some ⟨g, 0, none⟩) n n] w fun e w' => e = .returned (.bool true) ∧ w' = w := by
  obtain ⟨i0, hi0, hl0⟩ := hm
  go_enter Tryz.func113, Tryz.ntmps113
  go_wp2
  go_loop [7] (fun vi => ∃ k : Nat, k ≤ i0 ∧ vi = .int .i64 (k : Int)) (fun vi => n - (intOf vi).toNat)
  case atStart => exact ⟨0, Nat.zero_le _, rfl⟩
  case round =>
    obtain ⟨k, hk, rfl⟩ := hrel
    obtain ⟨a, c, hcell⟩ := h k (by omega)
    have hlt : k < n := by omega
    have hbk := hb k
    by_cases hle : lens.getD k 0 ≤ 2048
    · have hne : k ≠ i0 := fun e => by subst e; omega
      clear h hb hl0
      generalize lens.getD k 0 = l at *
      go_wp2
      go_round
      case rel => exact ⟨k + 1, by omega, by go_num⟩
      case measure => simp only [intOf]; omega
    · have hgt : 2048 < lens.getD k 0 := by omega
      clear h hb hl0 hle
      generalize lens.getD k 0 = l at *
      go_wp2
      go_ret
      exact ⟨rfl, rfl⟩

end Go.Proofs.YtmggccepmicjhagGreatDoor

/-! What Norm, Add, Mul and Eval of package poly answer. -/
namespace Go.Proofs.YtmggccepmicjhagGreatDoor
open Go.RowKit
set_option maxRecDepth 100000

theorem cell_new (w : World) (c : Array Value) (t i : Nat) (v : Value) (h : c[i]? = some v) : (w.alloc (.cells c t)).cell? ⟨w.heap.size, i, none⟩ = some v := by
  have e : (w.alloc (.cells c t)).heap[w.heap.size]? = some (.cells c t) := by
    show (w.heap.push _)[w.heap.size]? = _
    simp
  simp only [World.cell?, e]
  rw [h]; rfl
theorem len_le {w : World} {v : Value} {xs : List Nat} (h : IsU w v xs) : xs.length ≤ 9223372036854775807 := by
  obtain ⟨a, cap, rfl, h1, h2, _⟩ := h
  unfold maxLen at h2; omega
theorem any1 {w : World} {v : Value} {xs : List Nat} (t : Nat) (h : IsU w v xs) (hl : xs.length ≤ 2048) :
    Calls Tryz.prog 113 #[.slice (some ⟨w.heap.size, 0, none⟩) 1 1] (w.alloc (.cells #[v] t)) fun e w' => e = .returned (.bool false) ∧ w' = w.alloc (.cells #[v] t) := by
  obtain ⟨a, cap, rfl, _⟩ := h
  refine poly_anyLarge _ _ 1 [xs.length] (fun i hi => ⟨a, cap, ?_⟩) (fun i hi => ?_) (by omega)
  · obtain rfl : i = 0 := by omega
    exact cell_new _ _ _ _ _ rfl
  · obtain rfl : i = 0 := by omega
    exact hl
theorem any1_yes {w : World} {v : Value} {xs : List Nat} (t : Nat) (h : IsU w v xs) (hl : 2048 < xs.length) :
    Calls Tryz.prog 113 #[.slice (some ⟨w.heap.size, 0, none⟩) 1 1] (w.alloc (.cells #[v] t)) fun e w' => e = .returned (.bool true) ∧ w' = w.alloc (.cells #[v] t) := by
  have hb := len_le h
  obtain ⟨a, cap, rfl, _⟩ := h
  refine poly_anyLarge_yes _ _ 1 [xs.length] (fun i hi => ⟨a, cap, ?_⟩) ⟨0, by omega, hl⟩ (by omega) (fun i => ?_)
  · obtain rfl : i = 0 := by omega
    exact cell_new _ _ _ _ _ rfl
  · match i with
    | 0 => exact hb
    | i + 1 => simp
theorem any2 {w : World} {v v' : Value} {xs ys : List Nat} (t : Nat) (h : IsU w v xs) (h' : IsU w v' ys) (hl : xs.length ≤ 2048) (hl' : ys.length ≤ 2048) :
    Calls Tryz.prog 113 #[.slice (some ⟨w.heap.size, 0, none⟩) 2 2] (w.alloc (.cells #[v, v'] t)) fun e w' => e = .returned (.bool false) ∧ w' = w.alloc (.cells #[v, v'] t) := by
  obtain ⟨a, cap, rfl, _⟩ := h
  obtain ⟨a', cap', rfl, _⟩ := h'
  refine poly_anyLarge _ _ 2 [xs.length, ys.length] (fun i hi => ?_) (fun i hi => ?_) (by omega)
  · match i, hi with
    | 0, _ => exact ⟨a, cap, cell_new _ _ _ _ _ rfl⟩
    | 1, _ => exact ⟨a', cap', cell_new _ _ _ _ _ rfl⟩
  · match i, hi with
    | 0, _ => exact hl
    | 1, _ => exact hl'
theorem any2_yes {w : World} {v v' : Value} {xs ys : List Nat} (t : Nat) (h : IsU w v xs) (h' : IsU w v' ys) (hl : 2048 < xs.length ∨ 2048 < ys.length) :
    Calls Tryz.prog 113 #[.slice (some ⟨w.heap.size, 0, none⟩) 2 2] (w.alloc (.cells #[v, v'] t)) fun e w' => e = .returned (.bool true) ∧ w' = w.alloc (.cells #[v, v'] t) := by
  have hb := len_le h
  have hb' := len_le h'
  obtain ⟨a, cap, rfl, _⟩ := h
  obtain ⟨a', cap', rfl, _⟩ := h'
  refine poly_anyLarge_yes _ _ 2 [xs.length, ys.length] (fun i hi => ?_) ?_ (by omega) (fun i => ?_)
  · match i, hi with
    | 0, _ => exact ⟨a, cap, cell_new _ _ _ _ _ rfl⟩
    | 1, _ => exact ⟨a', cap', cell_new _ _ _ _ _ rfl⟩
  · rcases hl with hl | hl
    · exact ⟨0, by omega, hl⟩
    · exact ⟨1, by omega, hl⟩
  · match i with
    | 0 => exact hb
    | 1 => exact hb'
    | i + 2 => simp
theorem pN_rng (xs : List Nat) : Rng (pN xs) := Rng_of_P (pN_lt xs)
set_option maxHeartbeats 1000000 in
theorem poly_Eval_ok (w : World) (v : Value) (xs : List Nat) (x : Nat) (h : IsU w v xs) (hl : xs.length ≤ 2048) (hx : (x : Int) < 18446744073709551616) :
    Calls Tryz.prog 99 #[v, .int .u64 (x : Int)] w fun e w' => e = .returned (.tuple #[.int .u64 ((pE xs x : Nat) : Int), .int .i64 0]) ∧ Below w.heap.size w w' := by
  have hl9 : xs.length ≤ 1000000000 := by omega
  have cV := fun (W : World) (hU : IsU W v xs) => poly_valueAt W v xs x hU hl9 hx
  clear hx
  have h0 := h
  obtain ⟨a, cap, rfl, -⟩ := h
  go_enter Tryz.func99, Tryz.ntmps99
  go_wp2_with (first
    | (go_at_call 113; refine Calls.mono (any1 _ h0 hl) ?_; rintro e w1 ⟨rfl, hw⟩; rw [hw]; clear hw)
    | (go_at_call 114; refine Calls.mono (cV _ (h0.below (below_alloc1 _ _))) ?_; rintro e w2 ⟨rfl, hw⟩))
  go_ret2
  obtain ⟨m, rfl⟩ := hw
  exact ⟨rfl, below_drewN (below_alloc1 _ _) _⟩

set_option maxHeartbeats 1000000 in
theorem poly_Eval_large (w : World) (v : Value) (xs : List Nat) (x : Nat) (h : IsU w v xs) (hl : 2048 < xs.length) :
    Calls Tryz.prog 99 #[v, .int .u64 (x : Int)] w fun e w' => e = .returned (.tuple #[.int .u64 0, .int .i64 2]) ∧ Below w.heap.size w w' := by
  have h0 := h
  obtain ⟨a, cap, rfl, -⟩ := h
  go_enter Tryz.func99, Tryz.ntmps99
  go_wp2_with (go_at_call 113; refine Calls.mono (any1_yes _ h0 hl) ?_; rintro e w1 ⟨rfl, hw⟩; rw [hw]; clear hw)
  go_ret2
  exact ⟨rfl, below_alloc1 _ _⟩

end Go.Proofs.YtmggccepmicjhagGreatDoor

/-! What Add and Mul of package poly answer. -/
namespace Go.Proofs.YtmggccepmicjhagGreatDoor
open Go.RowKit
set_option maxRecDepth 100000





end Go.Proofs.YtmggccepmicjhagGreatDoor

/-! What Inv of package field answers, for all numbers of 64 bits: the error, or the power that is the inverse. -/
namespace Go.Proofs.YtmggccepmicjhagGreatDoor
open Go.RowKit
set_option maxRecDepth 100000

theorem field_Inv_none (a : Nat) (ha : (a : Int) < 18446744073709551616) (h : fN a = 0) (w : World) :
    Calls Tryz.prog 39 #[.int .u64 (a : Int)] w fun e w' => e = .returned (.tuple #[.int .u64 0, .int .i64 4]) ∧ w' = w := by
  have c := field_Norm a ha
  rw [h] at c
  clear h
  go_enter Tryz.func39, Tryz.ntmps39
  go_wp2_with (go_at_call 60; refine Calls.mono (c _) ?_; rintro e w' ⟨rfl, hw⟩; rw [hw]; clear hw)
  go_ret2
  exact ⟨rfl, rfl⟩

theorem field_Inv_some (a : Nat) (ha : (a : Int) < 18446744073709551616) (h : fN a ≠ 0) (w : World) :
    Calls Tryz.prog 39 #[.int .u64 (a : Int)] w fun e w' => e = .returned (.tuple #[.int .u64 ((fW a 18446744069414584319 : Nat) : Int), .int .i64 0]) ∧ w' = w := by
  have c := field_Norm a ha
  have c2 := field_Pow a 18446744069414584319 ha (by omega)
  have e : ((18446744069414584319 : Nat) : Int) = 18446744069414584319 := rfl
  rw [e] at c2
  clear e
  have h' : (fN a == 0) = false := by simpa using h
  have h'' : ((fN a : Int) == 0) = false := by simpa using h
  go_enter Tryz.func39, Tryz.ntmps39
  go_wp2_with (first | (go_at_call 60; refine Calls.mono (c _) ?_; rintro e w' ⟨rfl, hw⟩; rw [hw]; clear hw) | (go_at_call 37; refine Calls.mono (c2 _) ?_; rintro e w' ⟨rfl, hw⟩; rw [hw]; clear hw))
  go_ret2
  exact ⟨rfl, rfl⟩

end Go.Proofs.YtmggccepmicjhagGreatDoor

/-! What takeOut of package poly answers: a quotient; what is left stands where the list stood. -/
namespace Go.Proofs.YtmggccepmicjhagGreatDoor
open Go.RowKit
set_option maxRecDepth 100000

theorem Bar.setFresh {g g' : Nat} {a b : World} (h : Bar g a b) (hg : a.heap.size ≤ g') (i : Nat) (u : Value) : Bar g a (b.setCell ⟨g', i, none⟩ u) :=
  ⟨h.os, h.tape, h.output, by simpa [World.setCell] using h.size, fun k hk hne => (Below.heap_setCell _ _ _ _ (by show k ≠ g'; omega)).trans (h.block k hk hne)⟩


end Go.Proofs.YtmggccepmicjhagGreatDoor

/-! What Div of package poly answers. -/
namespace Go.Proofs.YtmggccepmicjhagGreatDoor
open Go.RowKit
set_option maxRecDepth 100000

theorem below_of_drew {w w' : World} (h : ∃ m, w' = w.drewN m) (B : Nat) : Below B w w' := by
  obtain ⟨m, rfl⟩ := h
  exact below_drewN (Below.refl _ _) m
theorem pN_last (a : List Nat) (h : (pN a).length ≠ 0) : cf (pN a) ((pN a).length - 1) ≠ 0 := by
  rw [cf_pN, pN_length]
  exact sig_last a (by rw [pN_length] at h; exact h)

end Go.Proofs.YtmggccepmicjhagGreatDoor
