/-
  A call that writes into some blocks of its own and into new ones alone.
-/
import Derived.Test.YtfnmcohilnijoafOpenT
namespace Go.Proofs.Ytfnmcohilnijoaf
open Go.RowKit

/-- Outside the blocks O, and what is new, the world is as it was. -/
structure But (O : Nat → Prop) (w w' : World) : Prop where
  os : w'.os = w.os
  tape : w'.tape = w.tape
  output : w'.output = w.output
  size : w.heap.size ≤ w'.heap.size
  block : ∀ k, k < w.heap.size → ¬ O k → w'.heap[k]? = w.heap[k]?
theorem But.refl (O : Nat → Prop) (w : World) : But O w w := ⟨rfl, rfl, rfl, Nat.le_refl _, fun _ _ _ => rfl⟩
theorem But.trans {O O' : Nat → Prop} {a b c : World} (h : But O a b) (k : But O' b c) (hO : ∀ i, O' i → O i ∨ a.heap.size ≤ i) : But O a c :=
  ⟨k.os.trans h.os, k.tape.trans h.tape, k.output.trans h.output, Nat.le_trans h.size k.size, fun i hi hn =>
    (k.block i (Nat.lt_of_lt_of_le hi h.size) fun q => by
      rcases hO i q with q | q
      · exact hn q
      · omega).trans (h.block i hi hn)⟩
theorem But.of_below {O : Nat → Prop} {w w' : World} (h : Below w.heap.size w w') : But O w w' := ⟨h.os, h.tape, h.output, h.size, fun k hk _ => h.block k hk⟩
theorem But.below {O : Nat → Prop} {B : Nat} {w w' : World} (h : But O w w') (hB : B ≤ w.heap.size) (hO : ∀ k, O k → B ≤ k) : Below B w w' :=
  ⟨h.os, h.tape, h.output, h.size, fun k hk => h.block k (by omega) fun q => by have := hO k q; omega⟩

end Go.Proofs.Ytfnmcohilnijoaf
