/-
  What Root of package field answers, for all numbers: a power of 7, or the error.
-/
import Derived.Test.YtgkepflnnoociagDoorFieldAll
namespace Go.Proofs.YtgkepflnnoociagDoor
open Go.RowKit

theorem half_cast (k : Nat) : ((18446744069414584320 / 2 ^ k : Nat) : Int) = 18446744069414584320 / 2 ^ k := by
  rw [Int.natCast_ediv, Int.natCast_pow]; rfl

theorem field_Root_in (k : Nat) (hk : (k : Int) ≤ 32) (w : World) :
    Calls Tryd.prog 63 #[.int .i64 (k : Int)] w fun e w' => e = .returned (.tuple #[.int .u64 ((fW 7 (18446744069414584320 / 2 ^ k) : Nat) : Int), .int .i64 0]) ∧ w' = w := by
  have hle : 18446744069414584320 / 2 ^ k ≤ 18446744069414584320 := Nat.div_le_self _ _
  have c := field_Pow 7 (18446744069414584320 / 2 ^ k) (by omega) (by omega)
  rw [half_cast] at c
  clear hle
  go_enter Tryd.func63, Tryd.ntmps63
  go_wp2_with (go_at_call 95; refine Calls.mono (c _) ?_; rintro e w' ⟨rfl, hw⟩; rw [hw]; clear hw)
  go_ret2
  exact ⟨rfl, rfl⟩

theorem field_Root_out (k : Int) (hk : k < 0 ∨ 32 < k) (w : World) :
    Calls Tryd.prog 63 #[.int .i64 k] w fun e w' => e = .returned (.tuple #[.int .u64 0, .int .i64 1]) ∧ w' = w := by
  by_cases h : k < 0
  · go_enter Tryd.func63, Tryd.ntmps63
    go_wp2
    go_ret2
    exact ⟨rfl, rfl⟩
  · have h' : 32 < k := by omega
    clear hk
    go_enter Tryd.func63, Tryd.ntmps63
    go_wp2
    go_ret2
    exact ⟨rfl, rfl⟩

end Go.Proofs.YtgkepflnnoociagDoor
