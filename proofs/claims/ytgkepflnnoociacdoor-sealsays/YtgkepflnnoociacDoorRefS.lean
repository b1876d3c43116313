/-
  What Sub of package goldref answers, for all numbers of 64 bits: the same number as that of package field.
-/
import Derived.Test.YtgkepflnnoociacDoorRef
namespace Go.Proofs.YtgkepflnnoociacDoor
open Go.RowKit

theorem sub_add (a b : Nat) : fA a (18446744069414584321 - fN b) = fS a b := by
  rw [fA_eq, fS_eq, fN_eq]; rfl

theorem ref_Sub (a b : Nat) (w : World) :
    Calls Tryd.prog 146 #[.int .u64 (a : Int), .int .u64 (b : Int)] w fun e w' => e = .returned (.int .u64 ((fS a b : Nat) : Int)) ∧ w' = w := by
  have bb := fN_lt b
  have eb := rem_fN b
  have c := ref_Add a (18446744069414584321 - fN b)
  rw [sub_add] at c
  have e : ((18446744069414584321 - fN b : Nat) : Int) = 18446744069414584321 - (fN b : Int) := by omega
  rw [e] at c
  clear e
  go_enter Tryd.func146, Tryd.ntmps146
  go_wp2_with (go_at_call 60; refine Calls.mono (c _) ?_; rintro e w' ⟨rfl, hw⟩; rw [hw]; clear hw)
  go_ret
  exact ⟨rfl, rfl⟩

end Go.Proofs.YtgkepflnnoociacDoor
