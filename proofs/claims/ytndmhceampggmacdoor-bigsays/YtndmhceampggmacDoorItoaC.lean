/-
  What strconv.Itoa answers, and texts as lists of bytes.
-/
import Derived.Test.YtndmhceampggmacDoorTabD
import Derived.Test.YtndmhceampggmacDoorItoa
import Derived.Laws.Concat
namespace Go.Proofs.YtndmhceampggmacDoor
open Go.RowKit

theorem itoa_ok (w : World) (n : Int) (h0 : -9223372036854775808 ≤ n) (h1 : n ≤ 9223372036854775807) (ht : Tab w) :
    Calls Tryd.prog 45 #[.int .i64 n] w fun e w' => e = .returned (.string ⟨(Lib.itoa n).toArray⟩) ∧ Below w.heap.size w w' := by
  refine (Tryd.strconv_Itoa n h0 h1 w ht.2).mono ?_
  rintro e w' ⟨rfl, k, os, rfl⟩
  refine ⟨rfl, rfl, rfl, rfl, ?_, fun j hj => ?_⟩
  · simp [Go.Sort.grow]
  · show ((w.drewN k).heap ++ os)[j]? = w.heap[j]?
    exact Array.getElem?_append_left hj
/-- A text by its bytes. -/
def bs (l : List UInt8) : ByteArray := ⟨l.toArray⟩
theorem bs_append (a b : List UInt8) : bs a ++ bs b = bs (a ++ b) := ByteArray.mk_append_mk a b
theorem bs_size (l : List UInt8) : (bs l).size = l.length := by simp [bs, ByteArray.size]
theorem itoa_bs (w : World) (n : Int) (h0 : -9223372036854775808 ≤ n) (h1 : n ≤ 9223372036854775807) (ht : Tab w) :
    Calls Tryd.prog 45 #[.int .i64 n] w fun e w' => e = .returned (.string (bs (Lib.itoa n))) ∧ Below w.heap.size w w' := itoa_ok w n h0 h1 ht
theorem itoa_gr (w : World) (n : Int) (h0 : -9223372036854775808 ≤ n) (h1 : n ≤ 9223372036854775807) (ht : Tab w) :
    Calls Tryd.prog 45 #[.int .i64 n] w fun e w' => e = .returned (.string (bs (Lib.itoa n))) ∧ ∃ k os, w' = Go.Sort.grow (w.drewN k) os := Tryd.strconv_Itoa n h0 h1 w ht.2
theorem below_grow (w : World) (n : Nat) (os : Array Obj) : Below w.heap.size w (Go.Sort.grow (w.drewN n) os) := by
  refine ⟨rfl, rfl, rfl, ?_, fun j hj => ?_⟩
  · simp [Go.Sort.grow]
  · show ((w.drewN n).heap ++ os)[j]? = w.heap[j]?
    exact Array.getElem?_append_left hj
theorem Tab.grown {w : World} (h : Tab w) (n : Nat) (os : Array Obj) : Tab (Go.Sort.grow (w.drewN n) os) := h.below (below_grow w n os)

end Go.Proofs.YtndmhceampggmacDoor
