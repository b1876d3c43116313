/-
  Slices of numbers that lie in new memory, with all that they have room for.
-/
import Derived.Test.YtjbdpjbcibhflacRowU
namespace Go.Proofs.Ytjbdpjbcibhflac
open Go.RowKit

/-- The slice v is nil, or lies in a block from B on that may be written, with all that it has room for. -/
def NewU (B : Nat) (w : World) (v : Value) : Prop :=
  v = .slice none 0 0 ∨ ∃ (g off n cap : Nat) (cs : Array Value), v = .slice (some ⟨g, off, none⟩) n cap ∧ B ≤ g ∧ w.heap[g]? = some (.cells cs 30 (0, 0)) ∧ off + cap ≤ cs.size ∧ n ≤ cap ∧ cap ≤ maxLen
theorem NewU.nil (B : Nat) (w : World) : NewU B w (.slice none 0 0) := .inl rfl
theorem NewU.of_row {B g n : Nat} {w : World} {xs : List Nat} (h : RowU w g xs) (hl : xs.length = n) (h9 : n ≤ 1000000000) (hg : B ≤ g) : NewU B w (.slice (some ⟨g, 0, none⟩) n n) :=
  .inr ⟨g, 0, n, n, _, rfl, hg, h, by simp [cellsU_length, hl], Nat.le_refl _, by unfold maxLen; omega⟩
theorem NewU.mono {B B' : Nat} {w : World} {v : Value} (h : NewU B' w v) (hB : B ≤ B') : NewU B w v := by
  rcases h with h | ⟨g, off, n, cap, cs, e, hg, r⟩
  · exact .inl h
  · exact .inr ⟨g, off, n, cap, cs, e, Nat.le_trans hB hg, r⟩
theorem NewU.below {B : Nat} {w w' : World} {v : Value} (h : NewU B w v) (hb : Below w.heap.size w w') : NewU B w' v := by
  rcases h with h | ⟨g, off, n, cap, cs, e, hg, hh, r⟩
  · exact .inl h
  · have hlt : g < w.heap.size := by
      rcases Nat.lt_or_ge g w.heap.size with hl | hl
      · exact hl
      · rw [Array.getElem?_eq_none hl] at hh; cases hh
    exact .inr ⟨g, off, n, cap, cs, e, hg, (hb.block g hlt).trans hh, r⟩
theorem NewU.take {B : Nat} {w : World} {a : Option Addr} {l c n : Nat} (h : NewU B w (.slice a l c)) (hn : n ≤ l) : NewU B w (.slice a n c) := by
  rcases h with h | ⟨g, off, n', cap, cs, e, hg, hh, h1, h2, h3⟩
  · simp only [Value.slice.injEq] at h
    obtain ⟨rfl, rfl, rfl⟩ := h
    obtain rfl : n = 0 := by omega
    exact .inl rfl
  · simp only [Value.slice.injEq] at e
    obtain ⟨rfl, rfl, rfl⟩ := e
    exact .inr ⟨g, off, n, c, cs, rfl, hg, hh, h1, by omega, h3⟩
theorem NewU.cells {w : World} {g : Nat} {cs : Array Value} {t : Nat} {fr : Nat × Nat} (hh : w.heap[g]? = some (.cells cs t fr)) : g < w.heap.size := by
  rcases Nat.lt_or_ge g w.heap.size with hl | hl
  · exact hl
  · rw [Array.getElem?_eq_none hl] at hh; cases hh

end Go.Proofs.Ytjbdpjbcibhflac
