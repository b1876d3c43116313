/-
  What four of package goldkeep answers: true: the transform of 1 and three noughts is four times 1.
-/
import Derived.Test.YtgkepflnnoociagDoorNttC
import Derived.Test.YtgkepflnnoociagDoorSlEq
namespace Go.Proofs.YtgkepflnnoociagDoor
open Go.RowKit

set_option maxHeartbeats 1000000 in
theorem keep_four (w : World) (hTb : Tab w) : Calls Tryd.prog 15 #[] w fun e w' => e = .returned (.bool true) ∧ Below w.heap.size w w' := by
  have hL : IsU (w.alloc (.cells #[.int .u64 1, .int .u64 0, .int .u64 0, .int .u64 0] 27)) (.slice (some ⟨w.heap.size, 0, none⟩) 4 4) [1, 0, 0, 0] := IsU.lit4 w 27 1 0 0 0 (by decide) (by decide) (by decide) (by decide)
  have cF := ntt_Forward_ok _ _ [1, 0, 0, 0] 2 hL (hTb.below (below_alloc1 _ _)) rfl (by decide)
  have hW := Below.refl w.heap.size w
  clear hL
  go_enter Tryd.func15, Tryd.ntmps15
  go_wp2_with (first
    | (go_at_call 24; refine Calls.mono cF ?_; rintro e w1 ⟨u, rfl, hU, hb⟩; replace hb := below_alloc hb; replace hW := hW.trans (hb.mono hW.size); clear hb)
    | (go_at_call 8; refine Calls.mono (slices_Equal _ _ _ [1, 1, 1, 1] ((hU.cast four_ones).below (below_alloc1 _ _)) (IsU.lit4 _ 27 1 1 1 1 (by decide) (by decide) (by decide) (by decide))) ?_; rintro e w2 ⟨rfl, hb⟩; replace hb := below_alloc hb; replace hW := hW.trans (hb.mono hW.size); clear hb))
  go_ret
  exact ⟨rfl, hW⟩

end Go.Proofs.YtgkepflnnoociagDoor
