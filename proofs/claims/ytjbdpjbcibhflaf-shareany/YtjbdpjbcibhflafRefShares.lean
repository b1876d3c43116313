/-
  What Shares of package goldref answers: what is wrong with shares.
-/
import Derived.Test.YtjbdpjbcibhflafOpenS
import Derived.Test.YtjbdpjbcibhflafRefIn
import Derived.BigQuiet
namespace Go.Proofs.Ytjbdpjbcibhflaf
open Go.RowKit

/-- Where share i stands. -/
def atS (L : List (Int × Nat)) (i : Nat) : Int := (L.getD i (0, 0)).1
/-- The first i shares stand where they may, no two at one place. -/
def ShK (L : List (Int × Nat)) (i : Nat) : Prop := (∀ p, p < i → 0 ≤ atS L p ∧ atS L p ≤ 63) ∧ ∀ p q, q < p → p < i → atS L q ≠ atS L p
theorem ShK.zero (L : List (Int × Nat)) : ShK L 0 := ⟨fun p hp => by omega, fun p q _ hp => by omega⟩
theorem ShK.succ {L : List (Int × Nat)} {i : Nat} (h : ShK L i) (h1 : 0 ≤ atS L i ∧ atS L i ≤ 63) (h2 : ∀ q, q < i → atS L q ≠ atS L i) : ShK L (i + 1) := by
  refine ⟨fun p hp => ?_, fun p q hq hp => ?_⟩
  · rcases Nat.lt_or_ge p i with r | r
    · exact h.1 p r
    · obtain rfl : p = i := by omega
      exact h1
  · rcases Nat.lt_or_ge p i with r | r
    · exact h.2 p q hq r
    · obtain rfl : p = i := by omega
      exact h2 q hq
open Classical in
/-- The error of shares. -/
noncomputable def shE (k : Int) (L : List (Int × Nat)) : Int := if 1 ≤ k ∧ k ≤ 64 then (if ShK L L.length then 0 else 5) else 1
theorem shE_arg {k : Int} {L : List (Int × Nat)} (h : ¬ (1 ≤ k ∧ k ≤ 64)) : shE k L = 1 := by unfold shE; rw [if_neg h]
theorem shE_ok {k : Int} {L : List (Int × Nat)} (h : 1 ≤ k ∧ k ≤ 64) (h2 : ShK L L.length) : shE k L = 0 := by unfold shE; rw [if_pos h, if_pos h2]
theorem shE_form {k : Int} {L : List (Int × Nat)} (h : 1 ≤ k ∧ k ≤ 64) (h2 : ¬ ShK L L.length) : shE k L = 5 := by unfold shE; rw [if_pos h, if_neg h2]

end Go.Proofs.Ytjbdpjbcibhflaf
