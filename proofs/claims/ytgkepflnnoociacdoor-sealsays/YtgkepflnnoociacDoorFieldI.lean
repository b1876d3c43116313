/-
  What Inv of package field answers, for all numbers of 64 bits: the error, or the power that is the inverse.
-/
import Derived.Test.YtgkepflnnoociacDoorFieldB
namespace Go.Proofs.YtgkepflnnoociacDoor
open Go.RowKit

theorem field_Inv_none (a : Nat) (ha : (a : Int) < 18446744073709551616) (h : fN a = 0) (w : World) :
    Calls Tryd.prog 163 #[.int .u64 (a : Int)] w fun e w' => e = .returned (.tuple #[.int .u64 0, .int .i64 4]) ∧ w' = w := by
  have c := field_Norm a ha
  rw [h] at c
  clear h
  go_enter Tryd.func163, Tryd.ntmps163
  go_wp2_with (go_at_call 74; refine Calls.mono (c _) ?_; rintro e w' ⟨rfl, hw⟩; rw [hw]; clear hw)
  go_ret2
  exact ⟨rfl, rfl⟩

theorem field_Inv_some (a : Nat) (ha : (a : Int) < 18446744073709551616) (h : fN a ≠ 0) (w : World) :
    Calls Tryd.prog 163 #[.int .u64 (a : Int)] w fun e w' => e = .returned (.tuple #[.int .u64 ((fW a 18446744069414584319 : Nat) : Int), .int .i64 0]) ∧ w' = w := by
  have c := field_Norm a ha
  have c2 := field_Pow a 18446744069414584319 ha (by omega)
  have e : ((18446744069414584319 : Nat) : Int) = 18446744069414584319 := rfl
  rw [e] at c2
  clear e
  have h' : (fN a == 0) = false := by simpa using h
  have h'' : ((fN a : Int) == 0) = false := by simpa using h
  go_enter Tryd.func163, Tryd.ntmps163
  go_wp2_with (first | (go_at_call 74; refine Calls.mono (c _) ?_; rintro e w' ⟨rfl, hw⟩; rw [hw]; clear hw) | (go_at_call 168; refine Calls.mono (c2 _) ?_; rintro e w' ⟨rfl, hw⟩; rw [hw]; clear hw))
  go_ret2
  exact ⟨rfl, rfl⟩

end Go.Proofs.YtgkepflnnoociacDoor
