/-
  What share.Encode answers lies in new memory.
-/
import Derived.Test.YtgkepflnnoociagDoorRefInAll
import Derived.Test.YtgkepflnnoociagDoorShC3
namespace Go.Proofs.YtgkepflnnoociagDoor
open Go.RowKit

theorem share_Tells (W : World) (u : Value) (X : List Nat) (n : Int) (h : IsU W u X) : Calls Tryd.prog 32 #[u, .int .i64 n] W (Tells W) := by
  refine (share_EncodeN W u X n h).mono ?_
  rintro e w' ⟨u', rfl, _, hN, hb⟩
  obtain ⟨p, l, c, rfl⟩ := hN.slice
  exact ⟨p, l, c, _, rfl, hN, hb⟩

end Go.Proofs.YtgkepflnnoociagDoor
