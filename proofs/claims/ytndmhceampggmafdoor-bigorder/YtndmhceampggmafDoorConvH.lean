/-
  What the helpers of package conv answer: a list weighed by the powers of a number, a list among zeros.
-/
import Derived.Test.YtndmhceampggmafDoorConvW
import Derived.Test.YtndmhceampggmafDoorRowW
import Derived.Test.YtndmhceampggmafDoorFieldB
import Derived.Test.YtndmhceampggmafDoorSlI
namespace Go.Proofs.YtndmhceampggmafDoor
open Go.RowKit


theorem conv_widened (w : World) (v : Value) (xs : List Nat) (n : Nat) (h : IsU w v xs) (hl : xs.length ≤ n) (hn : n ≤ 1000000000) :
    Calls Tryd.prog 68 #[v, .int .i64 (n : Int)] w fun e w' => ∃ g, e = .returned (.slice (some ⟨g, 0, none⟩) n n) ∧ w.heap.size ≤ g ∧ RowU w' g (lay (List.replicate n 0) 0 xs) ∧ Below w.heap.size w w' := by
  have h0 := h
  obtain ⟨a, cap, rfl, -⟩ := h
  have hof : 0 + n ≤ (List.replicate n 0).length := by simp
  go_enter Tryd.func68, Tryd.ntmps68
  go_wp2_with (first
    | (at_make; refine wp_makeG rfl _ _ rfl n rfl rfl hn ?_; intro g w2 hg hrow hb; replace hg : w.heap.size ≤ g := (by rw [hg.out]; exact Nat.le_refl _); replace h0 := h0.below hb)
    | (refine wp_copyR rfl _ _ rfl g 0 n n _ (List.replicate n 0) xs rfl rfl h0 hrow hof hl hb hg ?_; intro w3 z hrow3 hb3))
  go_ret
  exact ⟨g, rfl, hg, hrow3, hb3⟩

end Go.Proofs.YtndmhceampggmafDoor
