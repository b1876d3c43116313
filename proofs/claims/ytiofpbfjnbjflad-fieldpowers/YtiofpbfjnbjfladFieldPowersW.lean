/-
  The walk of the law FieldPowers: whatever three numbers of 64 bits are handed in, powers of sums are products and the P-th power is the number itself (FERMAT), and the law returns true.
-/
import Derived.Test.YtiofpbfjnbjfladFieldB
import Derived.OpenShut
namespace Go.Proofs.Ytiofpbfjnbjflad
open Go.RowKit

theorem nat_u64 {a : Int} (h : (Lit.int .u64 a).wf = true) : ∃ n : Nat, a = (n : Int) ∧ (n : Int) < 18446744073709551616 := by
  have b := bounds_u64 h
  exact ⟨a.toNat, by omega, by omega⟩

theorem k_pow34 (w : World) : Calls Try.prog 11 #[.int .u64 3, .int .u64 4] w fun e w' => e = .returned (.int .u64 81) ∧ w' = w := by
  have h := field_Pow 3 4 (by omega) (by omega) w
  have e : fW 3 4 = 81 := by rw [fW_eq]; rfl
  rw [e] at h
  exact h
theorem k_pow00 (w : World) : Calls Try.prog 11 #[.int .u64 0, .int .u64 0] w fun e w' => e = .returned (.int .u64 1) ∧ w' = w := by
  have h := field_Pow 0 0 (by omega) (by omega) w
  have e : fW 0 0 = 1 := by rw [fW_eq]; rfl
  rw [e] at h
  exact h
theorem k_powP (a : Nat) (ha : (a : Int) < 18446744073709551616) (w : World) : Calls Try.prog 11 #[.int .u64 (a : Int), .int .u64 18446744069414584321] w fun e w' => e = .returned (.int .u64 ((fN a : Nat) : Int)) ∧ w' = w := by
  have h := field_Pow a P ha (by unfold P; omega) w
  rw [fW_P] at h
  exact h
theorem k_powS (a m n : Nat) (ha : (a : Int) < 18446744073709551616) (hm : (m : Int) < 9223372036854775808) (hn : (n : Int) < 9223372036854775808) (w : World) : Calls Try.prog 11 #[.int .u64 (a : Int), .int .u64 ((m : Int) + (n : Int))] w fun e w' => e = .returned (.int .u64 ((fM (fW a m) (fW a n) : Nat) : Int)) ∧ w' = w := by
  have h := field_Pow a (m + n) ha (by omega) w
  rw [fW_add, Int.natCast_add] at h
  exact h

set_option maxHeartbeats 1000000 in
theorem fieldPowers_walk (a0 : Int) (a1 : Int) (a2 : Int) (w0 : (Lit.int .u64 a0).wf = true) (w1 : (Lit.int .u64 a1).wf = true) (w2 : (Lit.int .u64 a2).wf = true) (w : World) :
    Calls Try.prog 4 #[.int .u64 a0, .int .u64 a1, .int .u64 a2] w fun e w' => e = .returned (.bool true) ∧ Grown w w' := by
  obtain ⟨a, rfl, ha⟩ := nat_u64 w0
  obtain ⟨m0, rfl, hm0⟩ := nat_u64 w1
  obtain ⟨n0, rfl, hn0⟩ := nat_u64 w2
  clear w0 w1 w2
  obtain ⟨m, em, hm⟩ : ∃ m : Nat, (m0 : Int) / 2 = (m : Int) ∧ (m : Int) < 9223372036854775808 := ⟨m0 / 2, by omega, by omega⟩
  obtain ⟨n, en, hn⟩ : ∃ n : Nat, (n0 : Int) / 2 = (n : Int) ∧ (n : Int) < 9223372036854775808 := ⟨n0 / 2, by omega, by omega⟩
  have b1 := fW_lt a m
  have b2 := fW_lt a n
  have cS := k_powS a m n ha hm hn
  have cM := field_Pow a m ha (by omega)
  have cN := field_Pow a n ha (by omega)
  have tok1 : True := trivial
  have tok2 : True := trivial
  have tok3 : True := trivial
  have tok4 : True := trivial
  have tok5 : True := trivial
  have tok6 : True := trivial
  go_enter Try.func4, Try.ntmps4
  go_wp2_with (first
    | (go_at_call 11; have _t := tok1; refine Calls.mono (k_pow34 _) ?_; rintro e w' ⟨rfl, hw⟩; rw [hw]; clear hw tok1)
    | (go_at_call 11; have _t := tok2; refine Calls.mono (k_pow00 _) ?_; rintro e w' ⟨rfl, hw⟩; rw [hw]; clear hw tok2)
    | (go_at_call 11; have _t := tok3; refine Calls.mono (cS _) ?_; rintro e w' ⟨rfl, hw⟩; rw [hw]; clear hw tok3)
    | (go_at_call 11; have _t := tok4; refine Calls.mono (cM _) ?_; rintro e w' ⟨rfl, hw⟩; rw [hw]; clear hw tok4)
    | (go_at_call 11; have _t := tok5; refine Calls.mono (cN _) ?_; rintro e w' ⟨rfl, hw⟩; rw [hw]; clear hw tok5)
    | (go_at_call 11; have _t := tok6; refine Calls.mono (k_powP a ha _) ?_; rintro e w' ⟨rfl, hw⟩; rw [hw]; clear hw tok6)
    | (go_at_call 9; refine Calls.mono (field_Norm _ ?_ _) ?_; omega; rintro e w' ⟨rfl, hw⟩; rw [hw]; clear hw)
    | (go_at_call 6; refine Calls.mono (field_Mul _ _ ?_ ?_ _) ?_; omega; omega; rintro e w' ⟨rfl, hw⟩; rw [hw]; clear hw))
  go_ret
  exact ⟨rfl, Grown.refl _⟩

end Go.Proofs.Ytiofpbfjnbjflad
