/-
  A list of calls (a kind and a task each) that came in reads as rows of four integers.
-/
import Derived.Test.YtfnmcohilnijoabRows
import Derived.Test.YtfnmcohilnijoabOpenT
namespace Go.Proofs.Ytfnmcohilnijoab
open Go.RowKit

theorem fld_task : IntFields Try.prog 40 3 := ⟨_, Try.underlying40, by kernel_rfl, rfl, fun i f hf => by
  rcases i with _ | _ | _ | i
  · obtain rfl := Option.some.inj hf
    exact ⟨rfl, by kernel_rfl, Try.underlying3⟩
  · obtain rfl := Option.some.inj hf
    exact ⟨rfl, by kernel_rfl, Try.underlying3⟩
  · obtain rfl := Option.some.inj hf
    exact ⟨rfl, by kernel_rfl, Try.underlying3⟩
  · cases hf⟩
theorem all_call : IntAll Try.prog 42 4 := by
  refine IntAll.nest Try.underlying42 (by kernel_rfl) fun i hi => ?_
  rcases Nat.eq_zero_or_pos i with h | h
  · exact ⟨0, _, 1, rfl, IntAll.int Try.underlying3 (by kernel_rfl), by show 0 ≤ i; omega, by show i < 0 + 1; omega⟩
  · exact ⟨1, _, 3, rfl, fld_task.all, by show 1 ≤ i; omega, by show i < 1 + 3; omega⟩

end Go.Proofs.Ytfnmcohilnijoab
