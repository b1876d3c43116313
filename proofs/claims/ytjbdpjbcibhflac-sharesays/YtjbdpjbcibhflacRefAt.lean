/-
  What at of package goldref answers: a number of a list by the prime; 0 behind it.
-/
import Derived.Test.YtjbdpjbcibhflacRef
import Derived.Test.YtjbdpjbcibhflacSl
namespace Go.Proofs.Ytjbdpjbcibhflac
open Go.RowKit

theorem ref_at (w : World) (v : Value) (xs : List Nat) (i : Nat) (h : IsU w v xs) (hi : (i : Int) ≤ 9223372036854775807) :
    Calls Try.prog 41 #[v, .int .i64 (i : Int)] w fun e w' => e = .returned (.int .u64 ((fN (xs.getD i 0) : Nat) : Int)) ∧ w' = w := by
  obtain ⟨a, cap, rfl, hcap, hmax, hc, hr⟩ := h
  by_cases hlt : i < xs.length
  · obtain ⟨b, off, rfl, hcell⟩ := hc i hlt
    clear hc hr
    generalize xs.getD i 0 = x at *
    generalize xs.length = n at *
    go_enter Try.func41, Try.ntmps41
    go_wp2_with (go_at_call 21; refine Calls.mono (ref_Norm _ _) ?_; rintro e w' ⟨rfl, hw⟩; rw [hw]; clear hw)
    go_ret
    exact ⟨rfl, rfl⟩
  · have e : fN (xs.getD i 0) = 0 := by
      have : xs.getD i 0 = 0 := by simp [List.getD, List.getElem?_eq_none (show xs.length ≤ i by omega)]
      rw [this]; rfl
    rw [e]
    clear hc hr e
    have hge : xs.length ≤ i := by omega
    generalize xs.length = n at *
    go_enter Try.func41, Try.ntmps41
    go_wp2
    go_ret
    exact ⟨rfl, rfl⟩

end Go.Proofs.Ytjbdpjbcibhflac
