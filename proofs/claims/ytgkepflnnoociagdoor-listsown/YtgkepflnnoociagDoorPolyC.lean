/-
  What Through of package poly answers; with what stands in the texts that are imported, all of the package.
-/
import Derived.Test.YtgkepflnnoociagDoorPolyV
namespace Go.Proofs.YtgkepflnnoociagDoor
open Go.RowKit

/-- Points so far are distinct. -/
def Dst (xs : List Nat) (k : Nat) : Prop := ∀ i j, j < i → i < k → cf xs i ≠ cf xs j
theorem Pts_of {xs ys : List Nat} (h1 : xs.length = ys.length) (h2 : xs.length ≤ 128) (h : Dst xs xs.length) : Pts xs ys := by
  refine ⟨h1, h2, fun i k hi hk e => h i k hk hi ?_, fun k hk => by omega⟩
  rw [fN_val, fN_val] at e
  exact Fin.ext e
theorem Dst_of {xs ys : List Nat} (h : Pts xs ys) : Dst xs xs.length := by
  intro i j hj hi e
  refine h.2.2.1 i j hi hj ?_
  rw [fN_val, fN_val]
  exact congrArg Fin.val e
theorem Dst_step {xs : List Nat} {k : Nat} (h : Dst xs k) (hz : zp (cf xs) k (cf xs k) ≠ 0) : Dst xs (k + 1) := by
  intro i j hj hi e
  by_cases hik : i = k
  · subst hik
    exact hz (by rw [e]; exact zp_at _ _ _ hj)
  · exact h i j hj (by omega) e
theorem not_Pts {xs ys : List Nat} {k : Nat} (hk : k < xs.length) (hz : zp (cf xs) k (cf xs k) = 0) : ¬ Pts xs ys := fun h =>
  zp_ne (cf xs) k (cf xs k) (fun j hj => Dst_of h k j hj hk) hz

end Go.Proofs.YtgkepflnnoociagDoor
