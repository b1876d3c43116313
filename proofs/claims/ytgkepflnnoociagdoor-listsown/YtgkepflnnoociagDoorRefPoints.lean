/-
  What Points of package goldref answers: whether two lists are of one length, of at most 128 numbers, and the first one's numbers differ by the prime.
-/
import Derived.Test.YtgkepflnnoociagDoorRefN
import Derived.Test.YtgkepflnnoociagDoorSl
import Derived.BigQuiet
namespace Go.Proofs.YtgkepflnnoociagDoor
open Go.RowKit

/-- The numbers of a list differ by the prime, each from all ahead of it, up to number i, and of number i up to k. -/
def Dif (xs : List Nat) (i k : Nat) : Prop := (∀ i' k', i' < i → k' < i' → fN (xs.getD i' 0) ≠ fN (xs.getD k' 0)) ∧ ∀ k', k' < k → fN (xs.getD i 0) ≠ fN (xs.getD k' 0)
def Pts (xs ys : List Nat) : Prop := xs.length = ys.length ∧ xs.length ≤ 128 ∧ Dif xs xs.length 0
theorem Dif_zero (xs : List Nat) : Dif xs 0 0 := ⟨fun _ _ h => absurd h (by omega), fun _ h => absurd h (by omega)⟩
theorem Dif_next {xs : List Nat} {i : Nat} (h : Dif xs i i) : Dif xs (i + 1) 0 := by
  refine ⟨fun i' k' h1 h2 => ?_, fun _ h0 => absurd h0 (by omega)⟩
  by_cases e : i' = i
  · subst e; exact h.2 k' h2
  · exact h.1 i' k' (by omega) h2
theorem Dif_step {xs : List Nat} {i k : Nat} (h : Dif xs i k) (hne : fN (xs.getD i 0) ≠ fN (xs.getD k 0)) : Dif xs i (k + 1) := by
  refine ⟨h.1, fun k' hk' => ?_⟩
  by_cases e : k' = k
  · subst e; exact hne
  · exact h.2 k' (by omega)


end Go.Proofs.YtgkepflnnoociagDoor
