/-
  Worlds of which one block alone has changed; slices that lie elsewhere.
-/
import Derived.Test.YtgkepflnnoociagDoorSl
namespace Go.Proofs.YtgkepflnnoociagDoor
open Go.RowKit

/-- Of what was there, block g alone may have changed. -/
structure Bar (g : Nat) (w w' : World) : Prop where
  os : w'.os = w.os
  tape : w'.tape = w.tape
  output : w'.output = w.output
  size : w.heap.size ≤ w'.heap.size
  block : ∀ k, k < w.heap.size → k ≠ g → w'.heap[k]? = w.heap[k]?

theorem Bar.refl (g : Nat) (w : World) : Bar g w w := ⟨rfl, rfl, rfl, Nat.le_refl _, fun _ _ _ => rfl⟩
theorem Bar.trans {g : Nat} {a b c : World} (h : Bar g a b) (k : Bar g b c) : Bar g a c :=
  ⟨k.os.trans h.os, k.tape.trans h.tape, k.output.trans h.output, Nat.le_trans h.size k.size, fun i hi hg => (k.block i (Nat.lt_of_lt_of_le hi h.size) hg).trans (h.block i hi hg)⟩
theorem Bar.drewN {g : Nat} {a b : World} (h : Bar g a b) (n : Nat) : Bar g a (b.drewN n) := ⟨h.os, h.tape, h.output, h.size, h.block⟩
theorem Bar.setCell {g : Nat} {a b : World} (h : Bar g a b) (i : Nat) (u : Value) : Bar g a (b.setCell ⟨g, i, none⟩ u) :=
  h.trans ⟨rfl, rfl, rfl, by simp [World.setCell], fun k _ hg => Below.heap_setCell _ _ _ _ hg⟩
theorem Bar.of_below {g : Nat} {a b : World} (h : Below a.heap.size a b) : Bar g a b := ⟨h.os, h.tape, h.output, h.size, fun k hk _ => h.block k hk⟩
theorem Bar.below {g B : Nat} {a b : World} (h : Bar g a b) (hg : B ≤ g) (hB : B ≤ a.heap.size) : Below B a b := ⟨h.os, h.tape, h.output, h.size, fun k hk => h.block k (by omega) (by omega)⟩
/-- A block that was not there when a call began may change. -/
theorem Bar.fresh {g : Nat} {a b c : World} (h : Below a.heap.size a b) (hg : a.heap.size ≤ g) (k : Bar g b c) : Below a.heap.size a c :=
  h.trans (k.below hg h.size)

/-- The slice value v lies not in block g. -/
def Apart (v : Value) (g : Nat) : Prop := ∀ b off s l c, v = .slice (some ⟨b, off, s⟩) l c → 0 < l → b ≠ g
theorem IsU.bar {w w' : World} {v : Value} {xs : List Nat} {g : Nat} (h : IsU w v xs) (ha : Apart v g) (hb : Bar g w w') : IsU w' v xs := by
  obtain ⟨a, cap, rfl, h1, h2, hc, hr⟩ := h
  refine ⟨a, cap, rfl, h1, h2, fun i hi => ?_, hr⟩
  obtain ⟨b, off, rfl, hcell⟩ := hc i hi
  exact ⟨b, off, rfl, (World.cell?_of_block (w := w) (hb.block b (block_lt hcell) (ha b off none _ _ rfl (by omega)))).trans hcell⟩
theorem IsU.apart {w : World} {v : Value} {xs : List Nat} {g : Nat} (h : IsU w v xs) (hg : w.heap.size ≤ g) : Apart v g := by
  obtain ⟨a, cap, rfl, h1, h2, hc, hr⟩ := h
  intro b off s l c e hl
  simp only [Value.slice.injEq] at e
  obtain ⟨rfl, rfl, rfl⟩ := e
  obtain ⟨b', off', e2, hcell⟩ := hc 0 hl
  simp only [Option.some.injEq, Addr.mk.injEq] at e2
  obtain ⟨rfl, rfl, _⟩ := e2
  have := block_lt hcell
  omega
theorem apart_of {b off l c g : Nat} (h : b ≠ g) : Apart (.slice (some ⟨b, off, none⟩) l c) g := by
  intro b' off' s l' c' e _
  simp only [Value.slice.injEq, Option.some.injEq, Addr.mk.injEq] at e
  omega

end Go.Proofs.YtgkepflnnoociagDoor
