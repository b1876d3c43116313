/-
  The walk of the law FieldRoots: whatever number is handed in, Root of package field and of package goldref answer the same, and the law returns true.
-/
import Derived.Test.YtiofpbfjnbjflaaFieldR
import Derived.Test.YtiofpbfjnbjflaaRefR
import Derived.OpenShut
namespace Go.Proofs.Ytiofpbfjnbjflaa
open Go.RowKit

set_option maxHeartbeats 1000000 in
theorem fieldRoots_walk (a0 : Int) (_w0 : (Lit.int .i64 a0).wf = true) (w : World) :
    Calls Try.prog 4 #[.int .i64 a0] w fun e w' => e = .returned (.bool true) ∧ Grown w w' := by
  by_cases h1 : a0 < 0
  · go_enter Try.func4, Try.ntmps4
    have c := field_Root_out a0 (Or.inl h1)
    have c2 := ref_In_low a0 0 32 h1
    go_wp2_with (first
      | (go_at_call 17; refine Calls.mono (c _) ?_; rintro e w' ⟨rfl, hw⟩; rw [hw]; clear hw)
      | (go_at_call 18; refine Calls.mono (c2 _) ?_; rintro e w' ⟨rfl, hw⟩; rw [hw]; clear hw))
    go_ret
    exact ⟨rfl, Grown.refl _⟩
  by_cases h2 : 32 < a0
  · go_enter Try.func4, Try.ntmps4
    have c := field_Root_out a0 (Or.inr h2)
    have c2 := ref_In_high a0 0 32 (by omega) h2
    go_wp2_with (first
      | (go_at_call 17; refine Calls.mono (c _) ?_; rintro e w' ⟨rfl, hw⟩; rw [hw]; clear hw)
      | (go_at_call 18; refine Calls.mono (c2 _) ?_; rintro e w' ⟨rfl, hw⟩; rw [hw]; clear hw))
    go_ret
    exact ⟨rfl, Grown.refl _⟩
  obtain ⟨k, rfl⟩ : ∃ k : Nat, a0 = (k : Int) := ⟨a0.toNat, by omega⟩
  have c := field_Root_in k (by omega)
  have c2 := ref_In_true (k : Int) 0 32 (by omega) (by omega)
  have c3 := ref_Root k (by omega)
  generalize fW 7 (18446744069414584320 / 2 ^ k) = z at *
  go_enter Try.func4, Try.ntmps4
  go_wp2_with (first
    | (go_at_call 17; refine Calls.mono (c _) ?_; rintro e w' ⟨rfl, hw⟩; rw [hw]; clear hw)
    | (go_at_call 18; refine Calls.mono (c2 _) ?_; rintro e w' ⟨rfl, hw⟩; rw [hw]; clear hw)
    | (go_at_call 19; refine Calls.mono (c3 _) ?_; rintro e w' ⟨rfl, hw⟩; rw [hw]; clear hw))
  go_ret
  exact ⟨rfl, Grown.refl _⟩

end Go.Proofs.Ytiofpbfjnbjflaa
