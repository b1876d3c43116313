/-
  The walk of the law RootSquares: whatever number is handed in, each root is the square of the next one, the first one is 1, the second one -1, and the law returns true.
-/
import Derived.Test.YtiofpbfjnbjfladFieldR
import Derived.OpenShut
namespace Go.Proofs.Ytiofpbfjnbjflad
open Go.RowKit

theorem rest_neg {k m : Int} (hm : 0 < m) (h : k.tmod m < 0) : k.tmod m + m = k % m := by
  rw [Int.tmod_eq_emod] at *
  have hb := Int.emod_nonneg k (by omega : m ≠ 0)
  split at h
  · omega
  · rw [if_neg (by assumption)]; omega
theorem rest_pos {k m : Int} (hm : 0 < m) (h : ¬ k.tmod m < 0) : k.tmod m = k % m := by
  rw [Int.tmod_eq_emod] at *
  have hb := Int.emod_lt_of_pos k hm
  split at h
  · rw [if_pos (by assumption)]; omega
  · omega

theorem ref_Rest (k m : Int) (hm : 0 < m) (hm2 : m ≤ 9223372036854775807) (w : World) :
    Calls Try.prog 13 #[.int .i64 k, .int .i64 m] w fun e w' => e = .returned (.int .i64 (k % m)) ∧ w' = w := by
  have b1 := Int.emod_lt_of_pos k hm
  have b2 := Int.emod_nonneg k (by omega : m ≠ 0)
  have hne : (m == 0) = false := by simp; omega
  by_cases h : k.tmod m < 0
  · have e := rest_neg hm h
    have hd : decide (k.tmod m < 0) = true := decide_eq_true h
    rw [← e] at b1 b2 ⊢
    clear e
    go_enter Try.func13, Try.ntmps13
    go_wp2
    go_ret
    exact ⟨rfl, rfl⟩
  · have e := rest_pos hm h
    have hd : decide (k.tmod m < 0) = false := decide_eq_false h
    rw [← e] at b1 b2 ⊢
    clear e
    go_enter Try.func13, Try.ntmps13
    go_wp2
    go_ret
    exact ⟨rfl, rfl⟩

theorem k_root0 (w : World) : Calls Try.prog 12 #[.int .i64 0] w fun e w' => e = .returned (.tuple #[.int .u64 1, .int .i64 0]) ∧ w' = w := by
  have h := field_Root_in 0 (by omega) w
  have e := rt_zero
  unfold rt at e
  rw [e] at h
  exact h
theorem k_root1 (w : World) : Calls Try.prog 12 #[.int .i64 1] w fun e w' => e = .returned (.tuple #[.int .u64 18446744069414584320, .int .i64 0]) ∧ w' = w := by
  have h := field_Root_in 1 (by omega) w
  have e := rt_one
  unfold rt at e
  rw [e] at h
  exact h
theorem k_root (i : Nat) (hi : (i : Int) ≤ 32) (w : World) : Calls Try.prog 12 #[.int .i64 (i : Int)] w fun e w' => e = .returned (.tuple #[.int .u64 ((rt i : Nat) : Int), .int .i64 0]) ∧ w' = w :=
  field_Root_in i hi w
theorem k_rootS (i : Nat) (hi : (i : Int) ≤ 31) (w : World) : Calls Try.prog 12 #[.int .i64 ((i : Int) + 1)] w fun e w' => e = .returned (.tuple #[.int .u64 ((rt (i + 1) : Nat) : Int), .int .i64 0]) ∧ w' = w :=
  field_Root_in (i + 1) (by omega) w
theorem wrap_two_pow (j : Nat) (hj : j ≤ 63) : IntKind.u64.wrap (2 ^ j) = ((2 ^ j : Nat) : Int) := by
  have h : 2 ^ j ≤ 2 ^ 63 := Nat.pow_le_pow_right (by decide) hj
  have e : (2 : Int) ^ j = ((2 ^ j : Nat) : Int) := by rw [Int.natCast_pow]; rfl
  rw [e]
  exact fits_u64 _ (by omega)
theorem k_powj (x j : Nat) (hj : j ≤ 63) (hx : (x : Int) < 18446744073709551616) (h : fW x (2 ^ j) = 18446744069414584320) (w : World) :
    Calls Try.prog 11 #[.int .u64 (x : Int), .int .u64 (IntKind.u64.wrap (2 ^ j))] w fun e w' => e = .returned (.int .u64 18446744069414584320) ∧ w' = w := by
  have hle : 2 ^ j ≤ 2 ^ 63 := Nat.pow_le_pow_right (by decide) hj
  have c := field_Pow x (2 ^ j) hx (by omega) w
  rw [h] at c
  rw [wrap_two_pow j hj]
  exact c
theorem rt_lt (i : Nat) : (rt i : Int) < 18446744069414584321 := fW_lt _ _

set_option maxHeartbeats 1000000 in
theorem rootSquares_walk (a0 : Int) (_w0 : (Lit.int .i64 a0).wf = true) (w : World) :
    Calls Try.prog 5 #[.int .i64 a0] w fun e w' => e = .returned (.bool true) ∧ Grown w w' := by
  have cr := ref_Rest a0 32 (by omega) (by omega)
  obtain ⟨i, ei, hi⟩ : ∃ i : Nat, a0 % 32 = (i : Int) ∧ (i : Int) ≤ 31 := ⟨(a0 % 32).toNat, by omega, by omega⟩
  rw [ei] at cr
  clear ei _w0
  have c1 := k_root i (by omega)
  have c2 := k_rootS i hi
  have hsq := rt_sq i (by omega)
  have b1 := rt_lt i
  have b2 := rt_lt (i + 1)
  have tok1 : True := trivial
  have tok2 : True := trivial
  have tok3 : True := trivial
  rcases i with _ | j
  · go_enter Try.func5, Try.ntmps5
    generalize rt 0 = x at *
    generalize rt (0 + 1) = y at *
    have cm := field_Mul y y (by omega) (by omega)
    rw [hsq] at cm
    go_wp2_with (first
      | (go_at_call 12; have _t := tok1; refine Calls.mono (k_root0 _) ?_; rintro e w' ⟨rfl, hw⟩; rw [hw]; clear hw tok1)
      | (go_at_call 12; have _t := tok2; refine Calls.mono (k_root1 _) ?_; rintro e w' ⟨rfl, hw⟩; rw [hw]; clear hw tok2)
      | (go_at_call 13; refine Calls.mono (cr _) ?_; rintro e w' ⟨rfl, hw⟩; rw [hw]; clear hw)
      | (go_at_call 12; have _t := tok3; refine Calls.mono (c1 _) ?_; rintro e w' ⟨rfl, hw⟩; rw [hw]; clear hw tok3)
      | (go_at_call 12; refine Calls.mono (c2 _) ?_; rintro e w' ⟨rfl, hw⟩; rw [hw]; clear hw)
      | (go_at_call 6; refine Calls.mono (cm _) ?_; rintro e w' ⟨rfl, hw⟩; rw [hw]; clear hw))
    go_ret
    exact ⟨rfl, Grown.refl _⟩
  · have hp : Hid (fW (rt (j + 1)) (2 ^ j) = 18446744069414584320) := rt_half j (by omega)
    rw [Int.natCast_add, Int.natCast_one] at cr c1 c2 hi
    have hne : ((j : Int) + 1 == 0) = false := by simp; omega
    generalize rt (j + 1) = x at *
    generalize rt (j + 1 + 1) = y at *
    have cm := field_Mul y y (by omega) (by omega)
    rw [hsq] at cm
    go_enter Try.func5, Try.ntmps5
    go_wp2_with (first
      | (go_at_call 12; have _t := tok1; refine Calls.mono (k_root0 _) ?_; rintro e w' ⟨rfl, hw⟩; rw [hw]; clear hw tok1)
      | (go_at_call 12; have _t := tok2; refine Calls.mono (k_root1 _) ?_; rintro e w' ⟨rfl, hw⟩; rw [hw]; clear hw tok2)
      | (go_at_call 13; refine Calls.mono (cr _) ?_; rintro e w' ⟨rfl, hw⟩; rw [hw]; clear hw)
      | (go_at_call 12; have _t := tok3; refine Calls.mono (c1 _) ?_; rintro e w' ⟨rfl, hw⟩; rw [hw]; clear hw tok3)
      | (go_at_call 12; refine Calls.mono (c2 _) ?_; rintro e w' ⟨rfl, hw⟩; rw [hw]; clear hw)
      | (go_at_call 6; refine Calls.mono (cm _) ?_; rintro e w' ⟨rfl, hw⟩; rw [hw]; clear hw))
    refine Calls.mono (k_powj x j (by omega) (by omega) hp.out _) ?_
    rintro e w' ⟨rfl, hw⟩
    rw [hw]
    clear hw
    go_wp2
    go_ret
    exact ⟨rfl, Grown.refl _⟩

end Go.Proofs.Ytiofpbfjnbjflad
