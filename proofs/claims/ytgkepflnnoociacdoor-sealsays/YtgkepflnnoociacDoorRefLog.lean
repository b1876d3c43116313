/-
  What Log of package goldref answers: of 2^k, k from 0 to 10, k; of other numbers -1.
-/
import Derived.Test.YtgkepflnnoociacDoorRows
import Derived.WalkKit
import Derived.WalkSpells
import Derived.WalkLawsBesides
namespace Go.Proofs.YtgkepflnnoociacDoor
open Go.RowKit

theorem two_pow_bound (j : Nat) (hj : j ≤ 10) : ((2 : Int) ^ j) = ((2 ^ j : Nat) : Int) ∧ 2 ^ j ≤ 1024 := by
  refine ⟨by rw [Int.natCast_pow]; rfl, ?_⟩
  exact Nat.le_trans (Nat.pow_le_pow_right (by decide) hj) (by decide)

set_option maxHeartbeats 1000000 in
theorem ref_Log_ok (k : Nat) (hk : k ≤ 10) (w : World) :
    Calls Tryd.prog 114 #[.int .i64 ((2 ^ k : Nat) : Int)] w fun e w' => e = .returned (.int .i64 (k : Int)) ∧ w' = w := by
  obtain ⟨n, hn⟩ : ∃ n : Nat, n = 2 ^ k := ⟨_, rfl⟩
  rw [← hn]
  have hn' : Hid (n = 2 ^ k) := hn
  clear hn
  go_enter Tryd.func114, Tryd.ntmps114
  go_wp2
  go_loop [3] (fun vj => ∃ j : Nat, j ≤ k ∧ vj = .int .i64 (j : Int))
    (fun vj => k - (intOf vj).toNat)
  case atStart => exact ⟨0, Nat.zero_le _, rfl⟩
  case round =>
    obtain ⟨j, hj, rfl⟩ := hrel
    obtain ⟨q, hq⟩ : ∃ q : Nat, q = 2 ^ j := ⟨_, rfl⟩
    obtain ⟨e2, h2⟩ := two_pow_bound j (by omega)
    rw [← hq] at e2 h2
    have hq' : Hid (q = 2 ^ j) := hq
    clear hq
    by_cases hjk : j = k
    · subst hjk
      have e : n = q := hn'.out.trans hq'.out.symm
      subst e
      go_wp2
      go_ret
      exact ⟨rfl, rfl⟩
    · have hne : ((n : Int) == (q : Int)) = false := by
        rw [beq_eq_false_iff_ne]
        intro h
        have h3 : 2 ^ k = 2 ^ j := by rw [← hn'.out, ← hq'.out]; omega
        exact hjk ((Nat.pow_right_inj (show 1 < 2 by decide)).mp h3).symm
      go_wp2
      go_round
      case rel => exact ⟨j + 1, by omega, by go_num⟩
      case measure => simp only [intOf]; omega

set_option maxHeartbeats 1000000 in
theorem ref_Log_none (n : Nat) (hn : ∀ j, j ≤ 10 → n ≠ 2 ^ j) (w : World) :
    Calls Tryd.prog 114 #[.int .i64 (n : Int)] w fun e w' => e = .returned (.int .i64 (-1)) ∧ w' = w := by
  have hn' : Hid (∀ j, j ≤ 10 → n ≠ 2 ^ j) := hn
  clear hn
  go_enter Tryd.func114, Tryd.ntmps114
  go_wp2
  go_loop [3] (fun vj => ∃ j : Nat, j ≤ 11 ∧ vj = .int .i64 (j : Int))
    (fun vj => 11 - (intOf vj).toNat)
  case atStart => exact ⟨0, Nat.zero_le _, rfl⟩
  case round =>
    obtain ⟨j, hj, rfl⟩ := hrel
    by_cases hj10 : j ≤ 10
    · obtain ⟨q, hq⟩ : ∃ q : Nat, q = 2 ^ j := ⟨_, rfl⟩
      obtain ⟨e2, h2⟩ := two_pow_bound j (by omega)
      have hne : ((n : Int) == (q : Int)) = false := by
        rw [beq_eq_false_iff_ne]
        intro h
        exact hn'.out j hj10 (by rw [← hq]; omega)
      rw [← hq] at e2 h2
      clear hq
      go_wp2
      go_round
      case rel => exact ⟨j + 1, by omega, by go_num⟩
      case measure => simp only [intOf]; omega
    · have e : j = 11 := by omega
      subst e
      clear hj hj10
      go_wp2
      go_ret
      exact ⟨rfl, rfl⟩

end Go.Proofs.YtgkepflnnoociacDoor
