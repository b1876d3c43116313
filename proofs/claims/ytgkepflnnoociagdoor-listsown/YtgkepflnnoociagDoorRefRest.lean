/-
  What Rest of package goldref answers: the rest by a number above 0, from 0 on.
-/
import Derived.Test.YtgkepflnnoociagDoorRows
import Derived.WalkKit
import Derived.WalkSpells
import Derived.WalkLawsBesides
namespace Go.Proofs.YtgkepflnnoociagDoor
open Go.RowKit

theorem rest_neg {k m : Int} (hm : 0 < m) (h : k.tmod m < 0) : k.tmod m + m = k % m := by
  rw [Int.tmod_eq_emod] at *
  have hb := Int.emod_nonneg k (by omega : m ≠ 0)
  split at h
  · omega
  · rw [if_neg (by assumption)]; omega
theorem rest_pos {k m : Int} (hm : 0 < m) (h : ¬ k.tmod m < 0) : k.tmod m = k % m := by
  rw [Int.tmod_eq_emod] at *
  have hb := Int.emod_lt_of_pos k hm
  split at h
  · rw [if_pos (by assumption)]; omega
  · omega

theorem ref_Rest (k m : Int) (hm : 0 < m) (hm2 : m ≤ 9223372036854775807) (w : World) :
    Calls Tryd.prog 13 #[.int .i64 k, .int .i64 m] w fun e w' => e = .returned (.int .i64 (k % m)) ∧ w' = w := by
  have b1 := Int.emod_lt_of_pos k hm
  have b2 := Int.emod_nonneg k (by omega : m ≠ 0)
  have hne : (m == 0) = false := by simp; omega
  by_cases h : k.tmod m < 0
  · have e := rest_neg hm h
    have hd : decide (k.tmod m < 0) = true := decide_eq_true h
    rw [← e] at b1 b2 ⊢
    clear e
    go_enter Tryd.func13, Tryd.ntmps13
    go_wp2
    go_ret
    exact ⟨rfl, rfl⟩
  · have e := rest_pos hm h
    have hd : decide (k.tmod m < 0) = false := decide_eq_false h
    rw [← e] at b1 b2 ⊢
    clear e
    go_enter Tryd.func13, Tryd.ntmps13
    go_wp2
    go_ret
    exact ⟨rfl, rfl⟩

end Go.Proofs.YtgkepflnnoociagDoor
