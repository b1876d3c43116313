/-
  What Rest of package goldref answers: the rest by a number above 0, from 0 on.
-/
import Derived.Test.YtjbdpjbcibhflacRows
import Derived.WalkKit
import Derived.WalkSpells
import Derived.WalkLawsBesides
namespace Go.Proofs.Ytjbdpjbcibhflac
open Go.RowKit

theorem rest_neg {k m : Int} (hm : 0 < m) (h : k.tmod m < 0) : k.tmod m + m = k % m := by
  rw [Int.tmod_eq_emod] at *
  have hb := Int.emod_nonneg k (by omega : m ≠ 0)
  split at h
  · omega
  · rw [if_neg (by assumption)]; omega
theorem rest_pos {k m : Int} (hm : 0 < m) (h : ¬ k.tmod m < 0) : k.tmod m = k % m := by
  rw [Int.tmod_eq_emod] at *
  have hb := Int.emod_lt_of_pos k hm
  split at h
  · rw [if_pos (by assumption)]; omega
  · omega

end Go.Proofs.Ytjbdpjbcibhflac
