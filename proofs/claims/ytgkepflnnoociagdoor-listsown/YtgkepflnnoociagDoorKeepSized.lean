/-
  What sized of package goldkeep answers: a list of 2^k numbers, k from 0 to 6, the first ones those of a list, noughts behind them, in new memory.
-/
import Derived.Test.YtgkepflnnoociagDoorSlAppAll
import Derived.Test.YtgkepflnnoociagDoorRefRest
namespace Go.Proofs.YtgkepflnnoociagDoor
open Go.RowKit

theorem two_pow_six (j : Nat) (hj : j ≤ 6) : ((2 : Int) ^ j) = ((2 ^ j : Nat) : Int) ∧ 2 ^ j ≤ 64 := by
  refine ⟨by rw [Int.natCast_pow]; rfl, ?_⟩
  exact Nat.le_trans (Nat.pow_le_pow_right (by decide) hj) (by decide)

set_option maxHeartbeats 1000000 in
theorem keep_sized (w : World) (v : Value) (xs : List Nat) (k : Int) (j : Nat) (h : IsU w v xs) (hj : k % 7 = (j : Int)) (hj6 : j ≤ 6) :
    Calls Tryd.prog 17 #[v, .int .i64 k] w fun e w' => ∃ g, e = .returned (.slice (some ⟨g, 0, none⟩) (2 ^ j) (2 ^ j)) ∧ w'.ownsRow w.heap.size 27 1 (.slice (some ⟨g, 0, none⟩) (2 ^ j) (2 ^ j)) (2 ^ j) (cellsU (szd xs (2 ^ j))) ∧ Below w.heap.size w w' := by
  have cR := ref_Rest k 7 (by omega) (by omega)
  rw [hj] at cR
  clear hj
  obtain ⟨e2, h2⟩ := two_pow_six j hj6
  obtain ⟨n, hn⟩ : ∃ n : Nat, n = 2 ^ j := ⟨_, rfl⟩
  rw [← hn] at e2 h2 ⊢
  clear hn
  have hj6' : (j : Int) ≤ 6 := by omega
  have hn9 : n ≤ 1000000000 := by omega
  have hW := Below.refl w.heap.size w
  go_enter Tryd.func17, Tryd.ntmps17
  go_wp2_with (first
    | (go_at_call 13; refine Calls.mono (cR _) ?_; rintro e w' ⟨rfl, hw⟩; rw [hw]; clear hw)
    | (at_make; refine wp_make rfl _ _ rfl n rfl rfl hn9 hW ?_; intro w1 hown hb1)
    | (refine wp_copy rfl _ _ rfl _ n _ xs rfl rfl (h.below hb1) hown hb1 ?_; intro w2 z hown2 hb2; clear hown))
  go_ret
  exact ⟨_, rfl, hown2, hb2⟩

theorem szd_range {xs : List Nat} {n : Nat} (h : ∀ x ∈ xs, (x : Int) < 18446744073709551616) : ∀ x ∈ szd xs n, (x : Int) < 18446744073709551616 := by
  intro x hx
  rcases List.mem_append.mp hx with h1 | h1
  · exact h x (List.mem_of_mem_take h1)
  · have := List.eq_of_mem_replicate h1
    subst this; decide

theorem keep_sizedU (w : World) (v : Value) (xs : List Nat) (k : Int) (j n : Nat) (h : IsU w v xs) (hj : k % 7 = (j : Int)) (hj6 : j ≤ 6) (hn : n = 2 ^ j) :
    Calls Tryd.prog 17 #[v, .int .i64 k] w fun e w' => ∃ g, e = .returned (.slice (some ⟨g, 0, none⟩) n n) ∧ IsU w' (.slice (some ⟨g, 0, none⟩) n n) (szd xs n) ∧ Below w.heap.size w w' := by
  subst hn
  refine (keep_sized w v xs k j h hj hj6).mono ?_
  rintro e w' ⟨g, rfl, hown, hb⟩
  exact ⟨g, rfl, IsU.of_owns hown (szd_range h.range), hb⟩

end Go.Proofs.YtgkepflnnoociagDoor
