/-
  What the program's text lays in the tables of package math/bits is what the walks ask of a world, and the heap that its start leaves has it.
-/
import Derived.Test.YtgkepflnnoociagDoorTabD
import Derived.Test.YtgkepflnnoociagDoorRows
import Derived.LaidMore
import Derived.Stop.LaidErr
import Derived.Lib.LaidTab
namespace Go.Proofs.YtgkepflnnoociagDoor
open Go.RowKit

def laids : List (String × DataW Unit) := [("math/bits.deBruijn32tab", Rows.laid_math_bits_deBruijn32tab), ("math/bits.deBruijn64tab", Rows.laid_math_bits_deBruijn64tab)]
theorem gTab : Tryd.prog.globalNamed "math/bits.deBruijn64tab" = some 1 := by kernel_rfl
theorem tTab : (Tryd.prog.globals[1]?).map (·.type) = some 157 := by kernel_rfl
theorem cTab : Tryd.prog.cellsOf 157 = 64 := by kernel_rfl
theorem cU8 : Tryd.prog.cellsOf 5 = 1 := by kernel_rfl
def zTab : List Int := tz64.map fun (x : Nat) => (x : Int)

theorem tabZ_of {W : World} {rest : List (String × DataW Unit)} (h2 : laidMet Tryd.prog (("math/bits.deBruijn64tab", Lib.tabData .u8 zTab) :: rest) W) : TabZ W := by
  have hT := Lib.tabIs_of_head gTab tTab Tryd.underlying157 Tryd.underlying5 cU8 cTab h2
  intro j hj
  have hc := hT.cell gTab j (by unfold zTab; rw [List.length_map]; exact hj)
  rw [hc]
  have e : zTab.getD j 0 = ((tz64.getD j 0 : Nat) : Int) := by
    unfold zTab
    rw [List.getD, List.getElem?_map, List.getD]
    cases tz64[j]? <;> rfl
  rw [e]
theorem tab_of_laid {W : World} (h : laidMetH Tryd.prog laids W) : Tab W := by
  rw [MakeChecks.laidMetH_plain _ _ _ (by kernel_rfl)] at h
  have h2 : laidMet Tryd.prog [("math/bits.deBruijn64tab", Lib.tabData .u8 zTab)] W := laidMet.tail h
  exact ⟨tabZ_of h2, TabP.any W⟩
theorem door_met (os : Os) (args : Array Value) : laidMetH Tryd.prog laids ((World.doorLaid Tryd.prog 400 os).forCall (fun _ _ => 0) ⟨#[], args, []⟩).memory :=
  laidMetH_of_parts3 (fuel := 8) (laidMet_of_run' 8 (by kernel_rfl) (by kernel_rfl)) (by kernel_rfl) (by kernel_rfl)

end Go.Proofs.YtgkepflnnoociagDoor
