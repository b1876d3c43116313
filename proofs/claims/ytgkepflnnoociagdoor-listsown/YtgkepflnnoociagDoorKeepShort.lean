/-
  What short of package goldkeep answers: the first so many numbers of a list.
-/
import Derived.Test.YtgkepflnnoociagDoorRows
import Derived.Test.YtgkepflnnoociagDoorSl
namespace Go.Proofs.YtgkepflnnoociagDoor
open Go.RowKit

theorem keep_short (w : World) (v : Value) (xs : List Nat) (n : Nat) (h : IsU w v xs) (hn : (n : Int) ≤ 9223372036854775807) :
    Calls Tryd.prog 33 #[v, .int .i64 (n : Int)] w fun e w' => (∃ u, e = .returned u ∧ IsU w u (xs.take n)) ∧ w' = w := by
  have h0 := h
  obtain ⟨a, cap, rfl, hcap, hmax, hc, hr⟩ := h
  have hlen : (xs.length : Int) ≤ 9223372036854775807 := by unfold maxLen at hmax; omega
  clear hc hr
  by_cases hlt : n ≤ xs.length
  · have hU := h0.take hlt
    clear h0
    go_enter Tryd.func33, Tryd.ntmps33
    go_wp2
    all_goals
      go_ret
      refine ⟨⟨_, rfl, ?_⟩, rfl⟩
      first | exact hU | (have e : n = xs.length := by omega
                          subst e
                          exact hU)
  · have e : xs.take n = xs := List.take_of_length_le (by omega)
    rw [e]
    clear e
    go_enter Tryd.func33, Tryd.ntmps33
    go_wp2
    go_ret
    exact ⟨⟨_, rfl, h0⟩, rfl⟩

end Go.Proofs.YtgkepflnnoociagDoor
