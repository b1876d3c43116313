/-
  Small functions of package share: what may be, and where a symbol is a value.
-/
import Derived.Test.YtgkepflnnoociagDoorOpenSAll
import Derived.Test.YtgkepflnnoociagDoorOpenSAll
import Derived.Test.YtgkepflnnoociagDoorTabD
import Derived.Test.YtgkepflnnoociagDoorPolyC
import Derived.Test.YtgkepflnnoociagDoorFieldR
namespace Go.Proofs.YtgkepflnnoociagDoor
open Go.RowKit

theorem share_isCount (n : Int) (w : World) :
    Calls Tryd.prog 76 #[.int .i64 n] w fun e w' => e = .returned (.bool (decide (1 ≤ n ∧ n ≤ 64))) ∧ w' = w := by
  by_cases h1 : 1 ≤ n
  · by_cases h2 : n ≤ 64
    · rw [decide_eq_true ⟨h1, h2⟩]
      go_enter Tryd.func76, Tryd.ntmps76
      go_wp2
      go_ret
      exact ⟨rfl, rfl⟩
    · rw [decide_eq_false (fun h => h2 h.2)]
      go_enter Tryd.func76, Tryd.ntmps76
      go_wp2
      go_ret
      exact ⟨rfl, rfl⟩
  · rw [decide_eq_false (fun h => h1 h.1)]
    go_enter Tryd.func76, Tryd.ntmps76
    go_wp2
    go_ret
    exact ⟨rfl, rfl⟩
theorem share_point (i : Nat) (hi : i ≤ 1000000) (w : World) :
    Calls Tryd.prog 77 #[.int .i64 (i : Int)] w fun e w' => e = .returned (.int .u64 ((fW (rt 6) i : Nat) : Int)) ∧ w' = w := by
  have cr : ∀ w, Calls Tryd.prog 63 #[.int .i64 6] w fun e w' => e = .returned (.tuple #[.int .u64 ((rt 6 : Nat) : Int), .int .i64 0]) ∧ w' = w := field_Root_in 6 (by decide)
  have cp := field_Pow (rt 6) i (by have : (rt 6 : Int) < 18446744069414584321 := fW_lt _ _
                                    omega) (by omega)
  generalize rt 6 = q at *
  generalize fW q i = p at *
  go_enter Tryd.func77, Tryd.ntmps77
  go_wp2_with (first
    | (go_at_call 63; refine Calls.mono (cr _) ?_; rintro e w' ⟨rfl, hw⟩; rw [hw]; clear hw)
    | (go_at_call 95; refine Calls.mono (cp _) ?_; rintro e w' ⟨rfl, hw⟩; rw [hw]; clear hw))
  go_ret
  exact ⟨rfl, rfl⟩

end Go.Proofs.YtgkepflnnoociagDoor
