/-
  What Div of package poly answers.
-/
import Derived.Test.YtjbdpjbcibhflacPolyC2
import Derived.Test.YtjbdpjbcibhflacPolyQ
import Derived.Test.YtjbdpjbcibhflacRefPoints
namespace Go.Proofs.Ytjbdpjbcibhflac
open Go.RowKit

theorem below_of_drew {w w' : World} (h : ∃ m, w' = w.drewN m) (B : Nat) : Below B w w' := by
  obtain ⟨m, rfl⟩ := h
  exact below_drewN (Below.refl _ _) m
theorem normal_R (w : World) (v : Value) (xs : List Nat) (h : IsU w v xs) (hl : xs.length ≤ 1000000000) :
    Calls Try.prog 40 #[v] w fun e w' => ∃ g, e = .returned (.slice (some ⟨g, 0, none⟩) (pN xs).length (pN xs).length) ∧ Hid (g = w.heap.size) ∧ RowU w' g (pN xs) ∧ Below w.heap.size w w' := by
  refine (poly_normal w v xs h hl).mono ?_
  rintro e w' ⟨rfl, hrow, hb⟩
  exact ⟨_, by rw [pN_length], rfl, hrow, hb⟩
theorem pN_last (a : List Nat) (h : (pN a).length ≠ 0) : cf (pN a) ((pN a).length - 1) ≠ 0 := by
  rw [cf_pN, pN_length]
  exact sig_last a (by rw [pN_length] at h; exact h)

end Go.Proofs.Ytjbdpjbcibhflac
