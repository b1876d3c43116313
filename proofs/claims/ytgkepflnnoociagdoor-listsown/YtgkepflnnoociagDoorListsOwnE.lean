/-
  ListsOwn's walk, share.Encode's contract handed in: two premises are left.
-/
import Derived.Test.YtgkepflnnoociagDoorListsOwnW
import Derived.Test.YtgkepflnnoociagDoorEncNw
namespace Go.Proofs.YtgkepflnnoociagDoor
open Go.RowKit

theorem listsOwn_two (w : World) (v v' : Value) (xs ys : List Nat) (k : Int) (j n : Nat) (h : IsU w v xs) (h' : IsU w v' ys) (hkj : k % 7 = (j : Int)) (hj6 : j ≤ 6) (hn0 : n = 2 ^ j) (hTb : Tab w)
    (hSh : ∀ (w0 W : World) (n ga ca gb cb gz g1 : Nat) (A B : List Nat), Hand w0 n ga ca gb cb gz A B → Below w0.heap.size w0 W → IsZ W (.slice (some ⟨g1, 0, none⟩) 1 1) [1] → Calls Tryd.prog 11 #[.slice (some ⟨gz, 0, none⟩) 1 1, .slice (some ⟨ga, 0, none⟩) n ca, .slice (some ⟨g1, 0, none⟩) 1 1] W (Tells W))
    (hCo : ∀ (w0 W : World) (n ga ca gb cb gz : Nat) (A B : List Nat), Hand w0 n ga ca gb cb gz A B → Below w0.heap.size w0 W → Calls Tryd.prog 7 #[.slice (some ⟨gz, 0, none⟩) 1 1, .slice (some ⟨ga, 0, none⟩) n ca] W (Tells W)) :
    Calls Tryd.prog 4 #[v, v', .int .i64 k] w fun e w' => e = .returned (.bool true) ∧ Below w.heap.size w w' :=
  listsOwn_nat w v v' xs ys k j n h h' hkj hj6 hn0 hTb hSh hCo (fun W u X hU _ _ => share_Tells W u X 5 hU)

end Go.Proofs.YtgkepflnnoociagDoor
