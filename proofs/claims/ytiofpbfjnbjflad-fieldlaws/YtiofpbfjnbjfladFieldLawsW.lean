/-
  The walk of the law FieldLaws: whatever three numbers of 64 bits are handed in, sums and products of package field are those of a field, and the law returns true.
-/
import Derived.Test.YtiofpbfjnbjfladFieldI
import Derived.OpenShut
namespace Go.Proofs.Ytiofpbfjnbjflad
open Go.RowKit

theorem nat_of_u64 {a : Int} (h : (Lit.int .u64 a).wf = true) : ∃ n : Nat, a = (n : Int) ∧ (n : Int) < 18446744073709551616 := by
  have b := bounds_u64 h
  exact ⟨a.toNat, by omega, by omega⟩

theorem k_mul (w : World) : Calls Try.prog 6 #[.int .u64 4294967296, .int .u64 4294967296] w fun e w' => e = .returned (.int .u64 4294967295) ∧ w' = w := by
  have h := field_Mul 4294967296 4294967296 (by omega) (by omega) w
  have e : fM 4294967296 4294967296 = 4294967295 := by rw [fM_eq]; rfl
  rw [e] at h
  exact h
theorem k_add (w : World) : Calls Try.prog 7 #[.int .u64 18446744069414584320, .int .u64 2] w fun e w' => e = .returned (.int .u64 1) ∧ w' = w := by
  have h := field_Add 18446744069414584320 2 (by omega) (by omega) w
  have e : fA 18446744069414584320 2 = 1 := by rw [fA_eq]; rfl
  rw [e] at h
  exact h
theorem k_one (a : Nat) (ha : (a : Int) < 18446744073709551616) (w : World) : Calls Try.prog 6 #[.int .u64 (a : Int), .int .u64 1] w fun e w' => e = .returned (.int .u64 ((fN a : Nat) : Int)) ∧ w' = w := by
  have h := field_Mul a 1 ha (by omega) w
  rw [fM_one] at h
  exact h

set_option maxHeartbeats 1000000 in
theorem fieldLaws_walk (a0 : Int) (a1 : Int) (a2 : Int) (w0 : (Lit.int .u64 a0).wf = true) (w1 : (Lit.int .u64 a1).wf = true) (w2 : (Lit.int .u64 a2).wf = true) (w : World) :
    Calls Try.prog 3 #[.int .u64 a0, .int .u64 a1, .int .u64 a2] w fun e w' => e = .returned (.bool true) ∧ Grown w w' := by
  obtain ⟨a, rfl, ha⟩ := nat_of_u64 w0
  obtain ⟨b, rfl, hb⟩ := nat_of_u64 w1
  obtain ⟨c, rfl, hc⟩ := nat_of_u64 w2
  clear w0 w1 w2
  have l1 := fA_comm a b
  have l2 := fM_comm a b
  have l3 := fA_fS a b
  have l4 := fM_assoc a b c
  have l5 := fM_fA a b c
  have b1 := fM_lt b c
  have b2 := fM_lt a b
  have b3 := fA_lt b c
  have b4 := fS_lt a b
  have b5 := fM_lt a c
  have tok1 : True := trivial
  have tok2 : True := trivial
  by_cases h : fN a = 0
  · have ci := field_Inv_none a ha h
    go_enter Try.func3, Try.ntmps3
    go_wp2_with (first
      | (go_at_call 6; have _t := tok1; refine Calls.mono (k_mul _) ?_; rintro e w' ⟨rfl, hw⟩; rw [hw]; clear hw tok1)
      | (go_at_call 7; have _t := tok2; refine Calls.mono (k_add _) ?_; rintro e w' ⟨rfl, hw⟩; rw [hw]; clear hw tok2)
      | (go_at_call 7; refine Calls.mono (field_Add _ _ ?_ ?_ _) ?_; omega; omega; rintro e w' ⟨rfl, hw⟩; rw [hw]; clear hw)
      | (go_at_call 9; refine Calls.mono (field_Norm _ ?_ _) ?_; omega; rintro e w' ⟨rfl, hw⟩; rw [hw]; clear hw)
      | (go_at_call 8; refine Calls.mono (field_Sub _ _ ?_ ?_ _) ?_; omega; omega; rintro e w' ⟨rfl, hw⟩; rw [hw]; clear hw)
      | (go_at_call 6; refine Calls.mono (field_Mul _ _ ?_ ?_ _) ?_; omega; omega; rintro e w' ⟨rfl, hw⟩; rw [hw]; clear hw))
    refine Calls.mono (k_one a ha _) ?_
    rintro e w' ⟨rfl, hw⟩
    rw [hw]
    clear hw
    go_wp2_with (first
      | (go_at_call 10; refine Calls.mono (ci _) ?_; rintro e w' ⟨rfl, hw⟩; rw [hw]; clear hw)
      | (go_at_call 7; refine Calls.mono (field_Add _ _ ?_ ?_ _) ?_; omega; omega; rintro e w' ⟨rfl, hw⟩; rw [hw]; clear hw)
      | (go_at_call 9; refine Calls.mono (field_Norm _ ?_ _) ?_; omega; rintro e w' ⟨rfl, hw⟩; rw [hw]; clear hw)
      | (go_at_call 8; refine Calls.mono (field_Sub _ _ ?_ ?_ _) ?_; omega; omega; rintro e w' ⟨rfl, hw⟩; rw [hw]; clear hw)
      | (go_at_call 6; refine Calls.mono (field_Mul _ _ ?_ ?_ _) ?_; omega; omega; rintro e w' ⟨rfl, hw⟩; rw [hw]; clear hw))
    go_ret
    exact ⟨rfl, Grown.refl _⟩
  · have ci := field_Inv_some a ha h
    have li := inv_pow a h
    have bz := fW_lt a 18446744069414584319
    generalize fW a 18446744069414584319 = z at *
    clear h
    go_enter Try.func3, Try.ntmps3
    go_wp2_with (first
      | (go_at_call 6; have _t := tok1; refine Calls.mono (k_mul _) ?_; rintro e w' ⟨rfl, hw⟩; rw [hw]; clear hw tok1)
      | (go_at_call 7; have _t := tok2; refine Calls.mono (k_add _) ?_; rintro e w' ⟨rfl, hw⟩; rw [hw]; clear hw tok2)
      | (go_at_call 7; refine Calls.mono (field_Add _ _ ?_ ?_ _) ?_; omega; omega; rintro e w' ⟨rfl, hw⟩; rw [hw]; clear hw)
      | (go_at_call 9; refine Calls.mono (field_Norm _ ?_ _) ?_; omega; rintro e w' ⟨rfl, hw⟩; rw [hw]; clear hw)
      | (go_at_call 8; refine Calls.mono (field_Sub _ _ ?_ ?_ _) ?_; omega; omega; rintro e w' ⟨rfl, hw⟩; rw [hw]; clear hw)
      | (go_at_call 6; refine Calls.mono (field_Mul _ _ ?_ ?_ _) ?_; omega; omega; rintro e w' ⟨rfl, hw⟩; rw [hw]; clear hw))
    refine Calls.mono (k_one a ha _) ?_
    rintro e w' ⟨rfl, hw⟩
    rw [hw]
    clear hw
    go_wp2_with (first
      | (go_at_call 10; refine Calls.mono (ci _) ?_; rintro e w' ⟨rfl, hw⟩; rw [hw]; clear hw)
      | (go_at_call 7; refine Calls.mono (field_Add _ _ ?_ ?_ _) ?_; omega; omega; rintro e w' ⟨rfl, hw⟩; rw [hw]; clear hw)
      | (go_at_call 9; refine Calls.mono (field_Norm _ ?_ _) ?_; omega; rintro e w' ⟨rfl, hw⟩; rw [hw]; clear hw)
      | (go_at_call 8; refine Calls.mono (field_Sub _ _ ?_ ?_ _) ?_; omega; omega; rintro e w' ⟨rfl, hw⟩; rw [hw]; clear hw)
      | (go_at_call 6; refine Calls.mono (field_Mul _ _ ?_ ?_ _) ?_; omega; omega; rintro e w' ⟨rfl, hw⟩; rw [hw]; clear hw))
    go_ret
    exact ⟨rfl, Grown.refl _⟩

end Go.Proofs.Ytiofpbfjnbjflad
