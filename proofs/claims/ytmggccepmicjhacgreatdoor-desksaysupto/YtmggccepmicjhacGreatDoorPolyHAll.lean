/-
  Texts that stood one behind the other, as one.
-/
import Derived.Test.YtmggccepmicjhacGreatDoorSlRowAll
import Derived.Test.YtmggccepmicjhacGreatDoorPure
import Derived.Test.YtmggccepmicjhacGreatDoorShDAll
import Derived.BigQuiet
import Derived.Deep.RegionWith
import Derived.Test.YtmggccepmicjhacGreatDoorOpenSAll
import Derived.Test.YtmggccepmicjhacGreatDoorSlAll
/-! What the helpers of package poly answer: a list too large, the normal form, a multiple added, a value. -/
namespace Go.Proofs.YtmggccepmicjhacGreatDoor
open Go.RowKit
set_option maxRecDepth 100000

set_option maxHeartbeats 2000000 in
theorem poly_valueAt (w : World) (v : Value) (xs : List Nat) (x : Nat) (h : IsU w v xs) (hl : xs.length ≤ 1000000000) (hx : (x : Int) < 18446744073709551616) :
    Calls Tryz.prog 142 #[v, .int .u64 (x : Int)] w fun e w' => e = .returned (.int .u64 ((pE xs x : Nat) : Int)) ∧ ∃ m, w' = w.drewN m := by
  obtain ⟨a, cap, rfl, hcap, hmax, hc, hr⟩ := h
  clear hcap hmax
  go_enter Tryz.func142, Tryz.ntmps142
  go_wp2
  go_loopw [5, 6] (fun vo vi wr => ∃ (z : Int) (j : Nat), j ≤ xs.length ∧ z = (j : Int) - 1 ∧ vi = .int .i64 z ∧ vo = .int .u64 ((hv xs x j : Nat) : Int) ∧ Hid (∃ m, wr = w.drewN m))
    (fun _ vi _ => (intOf vi + 1).toNat)
  case atStart => exact ⟨_, xs.length, Nat.le_refl _, rfl, rfl, by rw [hv_end]; rfl, ⟨0, rfl⟩⟩
  case round =>
    obtain ⟨z, j, hj, hz, rfl, rfl, hq⟩ := hrel
    rcases Nat.eq_zero_or_pos j with hj0 | hj0
    · have e : z = -1 := by omega
      subst e
      subst hj0
      rw [hv_zero]
      clear hc hz
      go_wp2
      go_ret
      exact ⟨rfl, hq.out⟩
    · obtain ⟨i, rfl⟩ : ∃ i, j = i + 1 := ⟨j - 1, by omega⟩
      have e : z = (i : Int) := by omega
      subst e
      have hil : i < xs.length := by omega
      obtain ⟨b, off, rfl, hcell0⟩ := hc i hil
      have hcell : wr.cell? ⟨b, off + i, none⟩ = some (.int .u64 ((xs.getD i 0 : Nat) : Int)) := by obtain ⟨m, rfl⟩ := hq.out; exact hcell0
      clear hcell0
      have x1 := range_getD hr i
      have c1 := field_Mul (hv xs x (i + 1)) x (by have := hv_lt xs x (i + 1); omega) hx
      have c2 := field_Add (fM (hv xs x (i + 1)) x) (xs.getD i 0) (by have := fM_lt (hv xs x (i + 1)) x; omega) x1
      rw [hv_step xs x i hil] at c2
      clear hc hr x1 hx hz hj hj0
      generalize fM (hv xs x (i + 1)) x = p at *
      generalize xs.getD i 0 = y at *
      generalize hv xs x (i + 1) = q at *
      go_wp2
      go_quiet (first | (go_at_call 44; exact Calls.quiet_of_same (c1 _)) | (go_at_call 42; exact Calls.quiet_of_same (c2 _)))
      go_wp2
      go_roundw
      case rel => exact ⟨_, i, by omega, rfl, by go_num, rfl, by obtain ⟨m, rfl⟩ := hq.out; exact ⟨m + _, World.drewN_drewN _ _ _⟩⟩
      case measure => simp only [intOf]; omega

set_option maxHeartbeats 2000000 in
theorem poly_anyLarge (w : World) (g n : Nat) (lens : List Nat) (h : ∀ i, i < n → ∃ a c, w.cell? ⟨g, i, none⟩ = some (.slice a (lens.getD i 0) c)) (hm : ∀ i, i < n → lens.getD i 0 ≤ 2048) (hn9 : n ≤ 2) :
    Calls Tryz.prog 141 #[.slice (some ⟨g, 0, none⟩) n n] w fun e w' => e = .returned (.bool false) ∧ w' = w := by
  go_enter Tryz.func141, Tryz.ntmps141
  go_wp2
  go_loop [7] (fun vi => ∃ k : Nat, k ≤ n ∧ vi = .int .i64 (k : Int)) (fun vi => n - (intOf vi).toNat)
  case atStart => exact ⟨0, Nat.zero_le _, rfl⟩
  case round =>
    obtain ⟨k, hk, rfl⟩ := hrel
    by_cases hlt : k < n
    · obtain ⟨a, c, hcell⟩ := h k hlt
      have hle := hm k hlt
      clear h hm
      generalize lens.getD k 0 = l at *
      go_wp2
      go_round
      case rel => exact ⟨k + 1, by omega, by go_num⟩
      case measure => simp only [intOf]; omega
    · have e : k = n := by omega
      subst e
      clear h hm
      go_wp2
      go_ret
      exact ⟨rfl, rfl⟩
set_option maxHeartbeats 2000000 in
theorem poly_anyLarge_yes (w : World) (g n : Nat) (lens : List Nat) (h : ∀ i, i < n → ∃ a c, w.cell? ⟨g, i, none⟩ = some (.slice a (lens.getD i 0) c)) (hm : ∃ i, i < n ∧ 2048 < lens.getD i 0) (hn9 : n ≤ 2) (hb : ∀ i, lens.getD i 0 ≤ 9223372036854775807) :
    Calls Tryz.prog 141 #[.slice (some ⟨g, 0, none⟩) n n] w fun e w' => e = .returned (.bool true) ∧ w' = w := by
  obtain ⟨i0, hi0, hl0⟩ := hm
  go_enter Tryz.func141, Tryz.ntmps141
  go_wp2
  go_loop [7] (fun vi => ∃ k : Nat, k ≤ i0 ∧ vi = .int .i64 (k : Int)) (fun vi => n - (intOf vi).toNat)
  case atStart => exact ⟨0, Nat.zero_le _, rfl⟩
  case round =>
    obtain ⟨k, hk, rfl⟩ := hrel
    obtain ⟨a, c, hcell⟩ := h k (by omega)
    have hlt : k < n := by omega
    have hbk := hb k
    by_cases hle : lens.getD k 0 ≤ 2048
    · have hne : k ≠ i0 := fun e => by subst e; omega
      clear h hb hl0
      generalize lens.getD k 0 = l at *
      go_wp2
      go_round
      case rel => exact ⟨k + 1, by omega, by go_num⟩
      case measure => simp only [intOf]; omega
    · have hgt : 2048 < lens.getD k 0 := by omega
      clear h hb hl0 hle
      generalize lens.getD k 0 = l at *
      go_wp2
      go_ret
      exact ⟨rfl, rfl⟩

end Go.Proofs.YtmggccepmicjhacGreatDoor

/-! What Norm, Add, Mul and Eval of package poly answer. -/
namespace Go.Proofs.YtmggccepmicjhacGreatDoor
open Go.RowKit
set_option maxRecDepth 100000

theorem cell_new (w : World) (c : Array Value) (t i : Nat) (v : Value) (h : c[i]? = some v) : (w.alloc (.cells c t)).cell? ⟨w.heap.size, i, none⟩ = some v := by
  have e : (w.alloc (.cells c t)).heap[w.heap.size]? = some (.cells c t) := by
    show (w.heap.push _)[w.heap.size]? = _
    simp
  simp only [World.cell?, e]
  rw [h]; rfl
theorem len_le {w : World} {v : Value} {xs : List Nat} (h : IsU w v xs) : xs.length ≤ 9223372036854775807 := by
  obtain ⟨a, cap, rfl, h1, h2, _⟩ := h
  unfold maxLen at h2; omega
theorem any1 {w : World} {v : Value} {xs : List Nat} (t : Nat) (h : IsU w v xs) (hl : xs.length ≤ 2048) :
    Calls Tryz.prog 141 #[.slice (some ⟨w.heap.size, 0, none⟩) 1 1] (w.alloc (.cells #[v] t)) fun e w' => e = .returned (.bool false) ∧ w' = w.alloc (.cells #[v] t) := by
  obtain ⟨a, cap, rfl, _⟩ := h
  refine poly_anyLarge _ _ 1 [xs.length] (fun i hi => ⟨a, cap, ?_⟩) (fun i hi => ?_) (by omega)
  · obtain rfl : i = 0 := by omega
    exact cell_new _ _ _ _ _ rfl
  · obtain rfl : i = 0 := by omega
    exact hl
theorem any1_yes {w : World} {v : Value} {xs : List Nat} (t : Nat) (h : IsU w v xs) (hl : 2048 < xs.length) :
    Calls Tryz.prog 141 #[.slice (some ⟨w.heap.size, 0, none⟩) 1 1] (w.alloc (.cells #[v] t)) fun e w' => e = .returned (.bool true) ∧ w' = w.alloc (.cells #[v] t) := by
  have hb := len_le h
  obtain ⟨a, cap, rfl, _⟩ := h
  refine poly_anyLarge_yes _ _ 1 [xs.length] (fun i hi => ⟨a, cap, ?_⟩) ⟨0, by omega, hl⟩ (by omega) (fun i => ?_)
  · obtain rfl : i = 0 := by omega
    exact cell_new _ _ _ _ _ rfl
  · match i with
    | 0 => exact hb
    | i + 1 => simp
theorem any2 {w : World} {v v' : Value} {xs ys : List Nat} (t : Nat) (h : IsU w v xs) (h' : IsU w v' ys) (hl : xs.length ≤ 2048) (hl' : ys.length ≤ 2048) :
    Calls Tryz.prog 141 #[.slice (some ⟨w.heap.size, 0, none⟩) 2 2] (w.alloc (.cells #[v, v'] t)) fun e w' => e = .returned (.bool false) ∧ w' = w.alloc (.cells #[v, v'] t) := by
  obtain ⟨a, cap, rfl, _⟩ := h
  obtain ⟨a', cap', rfl, _⟩ := h'
  refine poly_anyLarge _ _ 2 [xs.length, ys.length] (fun i hi => ?_) (fun i hi => ?_) (by omega)
  · match i, hi with
    | 0, _ => exact ⟨a, cap, cell_new _ _ _ _ _ rfl⟩
    | 1, _ => exact ⟨a', cap', cell_new _ _ _ _ _ rfl⟩
  · match i, hi with
    | 0, _ => exact hl
    | 1, _ => exact hl'
theorem any2_yes {w : World} {v v' : Value} {xs ys : List Nat} (t : Nat) (h : IsU w v xs) (h' : IsU w v' ys) (hl : 2048 < xs.length ∨ 2048 < ys.length) :
    Calls Tryz.prog 141 #[.slice (some ⟨w.heap.size, 0, none⟩) 2 2] (w.alloc (.cells #[v, v'] t)) fun e w' => e = .returned (.bool true) ∧ w' = w.alloc (.cells #[v, v'] t) := by
  have hb := len_le h
  have hb' := len_le h'
  obtain ⟨a, cap, rfl, _⟩ := h
  obtain ⟨a', cap', rfl, _⟩ := h'
  refine poly_anyLarge_yes _ _ 2 [xs.length, ys.length] (fun i hi => ?_) ?_ (by omega) (fun i => ?_)
  · match i, hi with
    | 0, _ => exact ⟨a, cap, cell_new _ _ _ _ _ rfl⟩
    | 1, _ => exact ⟨a', cap', cell_new _ _ _ _ _ rfl⟩
  · rcases hl with hl | hl
    · exact ⟨0, by omega, hl⟩
    · exact ⟨1, by omega, hl⟩
  · match i with
    | 0 => exact hb
    | 1 => exact hb'
    | i + 2 => simp
theorem pN_rng (xs : List Nat) : Rng (pN xs) := Rng_of_P (pN_lt xs)
set_option maxHeartbeats 1000000 in
theorem poly_Eval_ok (w : World) (v : Value) (xs : List Nat) (x : Nat) (h : IsU w v xs) (hl : xs.length ≤ 2048) (hx : (x : Int) < 18446744073709551616) :
    Calls Tryz.prog 124 #[v, .int .u64 (x : Int)] w fun e w' => e = .returned (.tuple #[.int .u64 ((pE xs x : Nat) : Int), .int .i64 0]) ∧ Below w.heap.size w w' := by
  have hl9 : xs.length ≤ 1000000000 := by omega
  have cV := fun (W : World) (hU : IsU W v xs) => poly_valueAt W v xs x hU hl9 hx
  clear hx
  have h0 := h
  obtain ⟨a, cap, rfl, -⟩ := h
  go_enter Tryz.func124, Tryz.ntmps124
  go_wp2_with (first
    | (go_at_call 141; refine Calls.mono (any1 _ h0 hl) ?_; rintro e w1 ⟨rfl, hw⟩; rw [hw]; clear hw)
    | (go_at_call 142; refine Calls.mono (cV _ (h0.below (below_alloc1 _ _))) ?_; rintro e w2 ⟨rfl, hw⟩))
  go_ret2
  obtain ⟨m, rfl⟩ := hw
  exact ⟨rfl, below_drewN (below_alloc1 _ _) _⟩

set_option maxHeartbeats 1000000 in
theorem poly_Eval_large (w : World) (v : Value) (xs : List Nat) (x : Nat) (h : IsU w v xs) (hl : 2048 < xs.length) :
    Calls Tryz.prog 124 #[v, .int .u64 (x : Int)] w fun e w' => e = .returned (.tuple #[.int .u64 0, .int .i64 2]) ∧ Below w.heap.size w w' := by
  have h0 := h
  obtain ⟨a, cap, rfl, -⟩ := h
  go_enter Tryz.func124, Tryz.ntmps124
  go_wp2_with (go_at_call 141; refine Calls.mono (any1_yes _ h0 hl) ?_; rintro e w1 ⟨rfl, hw⟩; rw [hw]; clear hw)
  go_ret2
  exact ⟨rfl, below_alloc1 _ _⟩

end Go.Proofs.YtmggccepmicjhacGreatDoor

/-! What Add and Mul of package poly answer. -/
namespace Go.Proofs.YtmggccepmicjhacGreatDoor
open Go.RowKit
set_option maxRecDepth 100000





end Go.Proofs.YtmggccepmicjhacGreatDoor

/-! What Inv of package field answers, for all numbers of 64 bits: the error, or the power that is the inverse. -/
namespace Go.Proofs.YtmggccepmicjhacGreatDoor
open Go.RowKit
set_option maxRecDepth 100000

theorem field_Inv_none (a : Nat) (ha : (a : Int) < 18446744073709551616) (h : fN a = 0) (w : World) :
    Calls Tryz.prog 47 #[.int .u64 (a : Int)] w fun e w' => e = .returned (.tuple #[.int .u64 0, .int .i64 4]) ∧ w' = w := by
  have c := field_Norm a ha
  rw [h] at c
  clear h
  go_enter Tryz.func47, Tryz.ntmps47
  go_wp2_with (go_at_call 83; refine Calls.mono (c _) ?_; rintro e w' ⟨rfl, hw⟩; rw [hw]; clear hw)
  go_ret2
  exact ⟨rfl, rfl⟩

theorem field_Inv_some (a : Nat) (ha : (a : Int) < 18446744073709551616) (h : fN a ≠ 0) (w : World) :
    Calls Tryz.prog 47 #[.int .u64 (a : Int)] w fun e w' => e = .returned (.tuple #[.int .u64 ((fW a 18446744069414584319 : Nat) : Int), .int .i64 0]) ∧ w' = w := by
  have c := field_Norm a ha
  have c2 := field_Pow a 18446744069414584319 ha (by omega)
  have e : ((18446744069414584319 : Nat) : Int) = 18446744069414584319 := rfl
  rw [e] at c2
  clear e
  have h' : (fN a == 0) = false := by simpa using h
  have h'' : ((fN a : Int) == 0) = false := by simpa using h
  go_enter Tryz.func47, Tryz.ntmps47
  go_wp2_with (first | (go_at_call 83; refine Calls.mono (c _) ?_; rintro e w' ⟨rfl, hw⟩; rw [hw]; clear hw) | (go_at_call 45; refine Calls.mono (c2 _) ?_; rintro e w' ⟨rfl, hw⟩; rw [hw]; clear hw))
  go_ret2
  exact ⟨rfl, rfl⟩

end Go.Proofs.YtmggccepmicjhacGreatDoor

/-! What takeOut of package poly answers: a quotient; what is left stands where the list stood. -/
namespace Go.Proofs.YtmggccepmicjhacGreatDoor
open Go.RowKit
set_option maxRecDepth 100000

theorem Bar.setFresh {g g' : Nat} {a b : World} (h : Bar g a b) (hg : a.heap.size ≤ g') (i : Nat) (u : Value) : Bar g a (b.setCell ⟨g', i, none⟩ u) :=
  ⟨h.os, h.tape, h.output, by simpa [World.setCell] using h.size, fun k hk hne => (Below.heap_setCell _ _ _ _ (by show k ≠ g'; omega)).trans (h.block k hk hne)⟩


end Go.Proofs.YtmggccepmicjhacGreatDoor

/-! What Div of package poly answers. -/
namespace Go.Proofs.YtmggccepmicjhacGreatDoor
open Go.RowKit
set_option maxRecDepth 100000

theorem below_of_drew {w w' : World} (h : ∃ m, w' = w.drewN m) (B : Nat) : Below B w w' := by
  obtain ⟨m, rfl⟩ := h
  exact below_drewN (Below.refl _ _) m
theorem pN_last (a : List Nat) (h : (pN a).length ≠ 0) : cf (pN a) ((pN a).length - 1) ≠ 0 := by
  rw [cf_pN, pN_length]
  exact sig_last a (by rw [pN_length] at h; exact h)

end Go.Proofs.YtmggccepmicjhacGreatDoor

/-! What Through of package poly answers; with what stands in the texts that are imported, all of the package. -/
namespace Go.Proofs.YtmggccepmicjhacGreatDoor
open Go.RowKit
set_option maxRecDepth 100000

/-- Points so far are distinct. -/
def Dst (xs : List Nat) (k : Nat) : Prop := ∀ i j, j < i → i < k → cf xs i ≠ cf xs j
theorem Pts_of {xs ys : List Nat} (h1 : xs.length = ys.length) (h2 : xs.length ≤ 128) (h : Dst xs xs.length) : Pts xs ys := by
  refine ⟨h1, h2, fun i k hi hk e => h i k hk hi ?_, fun k hk => by omega⟩
  rw [fN_val, fN_val] at e
  exact Fin.ext e
theorem Dst_of {xs ys : List Nat} (h : Pts xs ys) : Dst xs xs.length := by
  intro i j hj hi e
  refine h.2.2.1 i j hi hj ?_
  rw [fN_val, fN_val]
  exact congrArg Fin.val e
theorem Dst_step {xs : List Nat} {k : Nat} (h : Dst xs k) (hz : zp (cf xs) k (cf xs k) ≠ 0) : Dst xs (k + 1) := by
  intro i j hj hi e
  by_cases hik : i = k
  · subst hik
    exact hz (by rw [e]; exact zp_at _ _ _ hj)
  · exact h i j hj (by omega) e
theorem not_Pts {xs ys : List Nat} {k : Nat} (hk : k < xs.length) (hz : zp (cf xs) k (cf xs k) = 0) : ¬ Pts xs ys := fun h =>
  zp_ne (cf xs) k (cf xs k) (fun j hj => Dst_of h k j hj hk) hz

end Go.Proofs.YtmggccepmicjhacGreatDoor

/-! What Root of package field answers, for all numbers: a power of 7, or the error. -/
namespace Go.Proofs.YtmggccepmicjhacGreatDoor
open Go.RowKit
set_option maxRecDepth 100000

theorem half_cast (k : Nat) : ((18446744069414584320 / 2 ^ k : Nat) : Int) = 18446744069414584320 / 2 ^ k := by
  rw [Int.natCast_ediv, Int.natCast_pow]; rfl

theorem field_Root_in (k : Nat) (hk : (k : Int) ≤ 32) (w : World) :
    Calls Tryz.prog 85 #[.int .i64 (k : Int)] w fun e w' => e = .returned (.tuple #[.int .u64 ((fW 7 (18446744069414584320 / 2 ^ k) : Nat) : Int), .int .i64 0]) ∧ w' = w := by
  have hle : 18446744069414584320 / 2 ^ k ≤ 18446744069414584320 := Nat.div_le_self _ _
  have c := field_Pow 7 (18446744069414584320 / 2 ^ k) (by omega) (by omega)
  rw [half_cast] at c
  clear hle
  go_enter Tryz.func85, Tryz.ntmps85
  go_wp2_with (go_at_call 45; refine Calls.mono (c _) ?_; rintro e w' ⟨rfl, hw⟩; rw [hw]; clear hw)
  go_ret2
  exact ⟨rfl, rfl⟩

theorem field_Root_out (k : Int) (hk : k < 0 ∨ 32 < k) (w : World) :
    Calls Tryz.prog 85 #[.int .i64 k] w fun e w' => e = .returned (.tuple #[.int .u64 0, .int .i64 1]) ∧ w' = w := by
  by_cases h : k < 0
  · go_enter Tryz.func85, Tryz.ntmps85
    go_wp2
    go_ret2
    exact ⟨rfl, rfl⟩
  · have h' : 32 < k := by omega
    clear hk
    go_enter Tryz.func85, Tryz.ntmps85
    go_wp2
    go_ret2
    exact ⟨rfl, rfl⟩

end Go.Proofs.YtmggccepmicjhacGreatDoor

/-! Small functions of package share: what may be, and where a symbol is a value. -/
namespace Go.Proofs.YtmggccepmicjhacGreatDoor
open Go.RowKit
set_option maxRecDepth 100000

theorem share_isCount (n : Int) (w : World) :
    Calls Tryz.prog 123 #[.int .i64 n] w fun e w' => e = .returned (.bool (decide (1 ≤ n ∧ n ≤ 64))) ∧ w' = w := by
  by_cases h1 : 1 ≤ n
  · by_cases h2 : n ≤ 64
    · rw [decide_eq_true ⟨h1, h2⟩]
      go_enter Tryz.func123, Tryz.ntmps123
      go_wp2
      go_ret
      exact ⟨rfl, rfl⟩
    · rw [decide_eq_false (fun h => h2 h.2)]
      go_enter Tryz.func123, Tryz.ntmps123
      go_wp2
      go_ret
      exact ⟨rfl, rfl⟩
  · rw [decide_eq_false (fun h => h1 h.1)]
    go_enter Tryz.func123, Tryz.ntmps123
    go_wp2
    go_ret
    exact ⟨rfl, rfl⟩
theorem share_point (i : Nat) (hi : i ≤ 1000000) (w : World) :
    Calls Tryz.prog 125 #[.int .i64 (i : Int)] w fun e w' => e = .returned (.int .u64 ((fW (rt 6) i : Nat) : Int)) ∧ w' = w := by
  have cr : ∀ w, Calls Tryz.prog 85 #[.int .i64 6] w fun e w' => e = .returned (.tuple #[.int .u64 ((rt 6 : Nat) : Int), .int .i64 0]) ∧ w' = w := field_Root_in 6 (by decide)
  have cp := field_Pow (rt 6) i (by have : (rt 6 : Int) < 18446744069414584321 := fW_lt _ _
                                    omega) (by omega)
  generalize rt 6 = q at *
  generalize fW q i = p at *
  go_enter Tryz.func125, Tryz.ntmps125
  go_wp2_with (first
    | (go_at_call 85; refine Calls.mono (cr _) ?_; rintro e w' ⟨rfl, hw⟩; rw [hw]; clear hw)
    | (go_at_call 45; refine Calls.mono (cp _) ?_; rintro e w' ⟨rfl, hw⟩; rw [hw]; clear hw))
  go_ret
  exact ⟨rfl, rfl⟩

end Go.Proofs.YtmggccepmicjhacGreatDoor

/-! Slices of numbers that lie in new memory, with all that they have room for. -/
namespace Go.Proofs.YtmggccepmicjhacGreatDoor
open Go.RowKit
set_option maxRecDepth 100000

/-- The slice v is nil, or lies in a block from B on that may be written, with all that it has room for. -/
def NewU (B : Nat) (w : World) (v : Value) : Prop :=
  v = .slice none 0 0 ∨ ∃ (g off n cap : Nat) (cs : Array Value), v = .slice (some ⟨g, off, none⟩) n cap ∧ B ≤ g ∧ w.heap[g]? = some (.cells cs 78 (0, 0)) ∧ off + cap ≤ cs.size ∧ n ≤ cap ∧ cap ≤ maxLen
theorem NewU.nil (B : Nat) (w : World) : NewU B w (.slice none 0 0) := .inl rfl
theorem NewU.of_row {B g n : Nat} {w : World} {xs : List Nat} (h : RowU w g xs) (hl : xs.length = n) (h9 : n ≤ 1000000000) (hg : B ≤ g) : NewU B w (.slice (some ⟨g, 0, none⟩) n n) :=
  .inr ⟨g, 0, n, n, _, rfl, hg, h, by simp [cellsU_length, hl], Nat.le_refl _, by unfold maxLen; omega⟩
theorem NewU.mono {B B' : Nat} {w : World} {v : Value} (h : NewU B' w v) (hB : B ≤ B') : NewU B w v := by
  rcases h with h | ⟨g, off, n, cap, cs, e, hg, r⟩
  · exact .inl h
  · exact .inr ⟨g, off, n, cap, cs, e, Nat.le_trans hB hg, r⟩
theorem NewU.below {B : Nat} {w w' : World} {v : Value} (h : NewU B w v) (hb : Below w.heap.size w w') : NewU B w' v := by
  rcases h with h | ⟨g, off, n, cap, cs, e, hg, hh, r⟩
  · exact .inl h
  · have hlt : g < w.heap.size := by
      rcases Nat.lt_or_ge g w.heap.size with hl | hl
      · exact hl
      · rw [Array.getElem?_eq_none hl] at hh; cases hh
    exact .inr ⟨g, off, n, cap, cs, e, hg, (hb.block g hlt).trans hh, r⟩
theorem NewU.take {B : Nat} {w : World} {a : Option Addr} {l c n : Nat} (h : NewU B w (.slice a l c)) (hn : n ≤ l) : NewU B w (.slice a n c) := by
  rcases h with h | ⟨g, off, n', cap, cs, e, hg, hh, h1, h2, h3⟩
  · simp only [Value.slice.injEq] at h
    obtain ⟨rfl, rfl, rfl⟩ := h
    obtain rfl : n = 0 := by omega
    exact .inl rfl
  · simp only [Value.slice.injEq] at e
    obtain ⟨rfl, rfl, rfl⟩ := e
    exact .inr ⟨g, off, n, c, cs, rfl, hg, hh, h1, by omega, h3⟩
theorem NewU.cells {w : World} {g : Nat} {cs : Array Value} {t : Nat} {fr : Nat × Nat} (hh : w.heap[g]? = some (.cells cs t fr)) : g < w.heap.size := by
  rcases Nat.lt_or_ge g w.heap.size with hl | hl
  · exact hl
  · rw [Array.getElem?_eq_none hl] at hh; cases hh

end Go.Proofs.YtmggccepmicjhacGreatDoor
