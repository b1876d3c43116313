/-
  What takeOut of package poly answers: a quotient; what is left stands where the list stood.
-/
import Derived.Test.YtjbdpjbcibhflacPolyC1
import Derived.Test.YtjbdpjbcibhflacFieldI
namespace Go.Proofs.Ytjbdpjbcibhflac
open Go.RowKit

theorem Bar.setFresh {g g' : Nat} {a b : World} (h : Bar g a b) (hg : a.heap.size ≤ g') (i : Nat) (u : Value) : Bar g a (b.setCell ⟨g', i, none⟩ u) :=
  ⟨h.os, h.tape, h.output, by simpa [World.setCell] using h.size, fun k hk hne => (Below.heap_setCell _ _ _ _ (by show k ≠ g'; omega)).trans (h.block k hk hne)⟩


end Go.Proofs.Ytjbdpjbcibhflac
