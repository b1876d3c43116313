/-
  Small functions of package share: what may be, and where a symbol is a value.
-/
import Derived.Test.YtjbdpjbcibhflacShN
import Derived.Test.YtjbdpjbcibhflacShMp
import Derived.Test.YtjbdpjbcibhflacTabD
import Derived.Test.YtjbdpjbcibhflacPolyC
import Derived.Test.YtjbdpjbcibhflacFieldR
namespace Go.Proofs.Ytjbdpjbcibhflac
open Go.RowKit

theorem share_isCount (n : Int) (w : World) :
    Calls Try.prog 12 #[.int .i64 n] w fun e w' => e = .returned (.bool (decide (1 ≤ n ∧ n ≤ 64))) ∧ w' = w := by
  by_cases h1 : 1 ≤ n
  · by_cases h2 : n ≤ 64
    · rw [decide_eq_true ⟨h1, h2⟩]
      go_enter Try.func12, Try.ntmps12
      go_wp2
      go_ret
      exact ⟨rfl, rfl⟩
    · rw [decide_eq_false (fun h => h2 h.2)]
      go_enter Try.func12, Try.ntmps12
      go_wp2
      go_ret
      exact ⟨rfl, rfl⟩
  · rw [decide_eq_false (fun h => h1 h.1)]
    go_enter Try.func12, Try.ntmps12
    go_wp2
    go_ret
    exact ⟨rfl, rfl⟩
theorem share_isPlace (n : Int) (w : World) :
    Calls Try.prog 28 #[.int .i64 n] w fun e w' => e = .returned (.bool (decide (0 ≤ n ∧ n ≤ 63))) ∧ w' = w := by
  by_cases h1 : 0 ≤ n
  · by_cases h2 : n ≤ 63
    · rw [decide_eq_true ⟨h1, h2⟩]
      have h3 : n < 64 := by omega
      go_enter Try.func28, Try.ntmps28
      go_wp2
      go_ret
      exact ⟨rfl, rfl⟩
    · rw [decide_eq_false (fun h => h2 h.2)]
      have h3 : ¬ n < 64 := by omega
      go_enter Try.func28, Try.ntmps28
      go_wp2
      go_ret
      exact ⟨rfl, rfl⟩
  · rw [decide_eq_false (fun h => h1 h.1)]
    go_enter Try.func28, Try.ntmps28
    go_wp2
    go_ret
    exact ⟨rfl, rfl⟩
theorem share_point (i : Nat) (hi : i ≤ 1000000) (w : World) :
    Calls Try.prog 14 #[.int .i64 (i : Int)] w fun e w' => e = .returned (.int .u64 ((fW (rt 6) i : Nat) : Int)) ∧ w' = w := by
  have cr : ∀ w, Calls Try.prog 24 #[.int .i64 6] w fun e w' => e = .returned (.tuple #[.int .u64 ((rt 6 : Nat) : Int), .int .i64 0]) ∧ w' = w := field_Root_in 6 (by decide)
  have cp := field_Pow (rt 6) i (by have : (rt 6 : Int) < 18446744069414584321 := fW_lt _ _
                                    omega) (by omega)
  generalize rt 6 = q at *
  generalize fW q i = p at *
  go_enter Try.func14, Try.ntmps14
  go_wp2_with (first
    | (go_at_call 24; refine Calls.mono (cr _) ?_; rintro e w' ⟨rfl, hw⟩; rw [hw]; clear hw)
    | (go_at_call 25; refine Calls.mono (cp _) ?_; rintro e w' ⟨rfl, hw⟩; rw [hw]; clear hw))
  go_ret
  exact ⟨rfl, rfl⟩

end Go.Proofs.Ytjbdpjbcibhflac
