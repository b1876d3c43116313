/-
  ListsOwn returns true for all that is handed in: its walk, with what seal.Shift and seal.Corners tell in new memory.
-/
import Derived.Test.YtgkepflnnoociagDoorListsOwnE
import Derived.Test.YtgkepflnnoociagDoorSealC
namespace Go.Proofs.YtgkepflnnoociagDoor
open Go.RowKit

theorem seal_Shift_tells (w0 W : World) (n ga ca gb cb gz g1 : Nat) (A B : List Nat) (h : Hand w0 n ga ca gb cb gz A B) (hb : Below w0.heap.size w0 W) (hz : IsZ W (.slice (some ⟨g1, 0, none⟩) 1 1) [1]) :
    Calls Tryd.prog 11 #[.slice (some ⟨gz, 0, none⟩) 1 1, .slice (some ⟨ga, 0, none⟩) n ca, .slice (some ⟨g1, 0, none⟩) 1 1] W (Tells W) := by
  refine (seal_Shift_ok W _ _ _ _ [1] [n] A (h.z.below hb) (h.a.below hb) hz h.good (by rw [h.prd]; have := h.n64; omega) (by rw [h.prd, h.la]) rfl).mono ?_
  rintro e w' ⟨g, m, rfl, hm, hm9, hg, hr, hB⟩
  exact ⟨_, _, _, _, rfl, NewU.of_row hr hm.symm (by omega) hg, hB⟩
theorem seal_Corners_tells (w0 W : World) (n ga ca gb cb gz : Nat) (A B : List Nat) (h : Hand w0 n ga ca gb cb gz A B) (hb : Below w0.heap.size w0 W) :
    Calls Tryd.prog 7 #[.slice (some ⟨gz, 0, none⟩) 1 1, .slice (some ⟨ga, 0, none⟩) n ca] W (Tells W) := by
  refine (seal_Corners_ok W _ _ _ [n] A (h.z.below hb) (h.a.below hb) (h.t.below hb) h.good (by rw [h.prd]; have := h.n64; omega) (by rw [h.prd, h.la])).mono ?_
  rintro e w' ⟨g, m, rfl, hm, hm9, hg, hr, hB⟩
  exact ⟨_, _, _, _, rfl, NewU.of_row hr hm.symm (by omega) hg, hB⟩
theorem listsOwn_walk (w : World) (v : Value) (xs : List Nat) (h : IsU w v xs) (v' : Value) (ys : List Nat) (h' : IsU w v' ys) (a2 : Int) (_w2 : (Lit.int .i64 a2).wf = true) (hTb : Tab w) :
    Calls Tryd.prog 4 #[v, v', .int .i64 a2] w fun e w' => e = .returned (.bool true) ∧ Below w.heap.size w w' := by
  obtain ⟨j, hj, hj6⟩ : ∃ j : Nat, a2 % 7 = (j : Int) ∧ j ≤ 6 := ⟨(a2 % 7).toNat, by omega, by omega⟩
  exact listsOwn_two w v v' xs ys a2 j (2 ^ j) h h' hj hj6 rfl hTb seal_Shift_tells seal_Corners_tells

end Go.Proofs.YtgkepflnnoociagDoor
