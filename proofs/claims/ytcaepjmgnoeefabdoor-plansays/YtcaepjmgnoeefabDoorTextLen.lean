/-
  How long the text of phases is at the most: so many bytes a task.
-/
import Derived.Test.YtcaepjmgnoeefabDoorRefPlanText
import Derived.Lib.ItoaLen
namespace Go.Proofs.YtcaepjmgnoeefabDoor
open Go.RowKit

def tot (L : List (List (List Int))) : Nat → Nat
  | 0 => 0
  | i + 1 => tot L i + (L.getD i []).length
theorem tot_le (L : List (List (List Int))) (i j : Nat) (h : i ≤ j) : tot L i ≤ tot L j := by
  induction j with
  | zero => rw [show i = 0 by omega]; exact Nat.le_refl _
  | succ j ih =>
    rcases Nat.lt_or_ge i (j + 1) with q | q
    · have := ih (by omega); rw [tot]; omega
    · rw [show i = j + 1 by omega]; exact Nat.le_refl _
def B3 (r : List Int) : Prop := (-9223372036854775808 ≤ r.getD 0 0 ∧ r.getD 0 0 ≤ 9223372036854775807) ∧ (-9223372036854775808 ≤ r.getD 1 0 ∧ r.getD 1 0 ≤ 9223372036854775807) ∧ (-9223372036854775808 ≤ r.getD 2 0 ∧ r.getD 2 0 ≤ 9223372036854775807)
theorem tkx_le (r : List Int) (h : B3 r) : (tkx r).length ≤ 65 := by
  have h0 := Lib.itoa_length_le (r.getD 0 0) h.1.1 h.1.2
  have h1 := Lib.itoa_length_le (r.getD 1 0) h.2.1.1 h.2.1.2
  have h2 := Lib.itoa_length_le (r.getD 2 0) h.2.2.1 h.2.2.2
  unfold tkx
  simp only [List.length_append, List.length_cons, List.length_nil]
  omega
theorem lnx_le (T : List (List Int)) (h : ∀ i, i < T.length → B3 (T.getD i [])) (k : Nat) (hk : k ≤ T.length) : (lnx T k).length ≤ 66 * k := by
  induction k with
  | zero => simp [lnx]
  | succ k ih =>
    have h1 := ih (by omega)
    have h2 := tkx_le _ (h k (by omega))
    rw [lnx, List.length_append]
    split
    · rw [List.length_append]; simp only [List.length_cons, List.length_nil]; omega
    · omega
theorem ptx_le (L : List (List (List Int))) (h : ∀ y, y < L.length → ∀ i, i < (L.getD y []).length → B3 ((L.getD y []).getD i [])) (i : Nat) (hi : i ≤ L.length) : (ptx L i).length ≤ 66 * tot L i + i := by
  induction i with
  | zero => simp [ptx]
  | succ i ih =>
    have h1 := ih (by omega)
    have h2 := lnx_le _ (h i (by omega)) _ (Nat.le_refl _)
    rw [ptx, tot, List.length_append, List.length_append]
    simp only [List.length_cons, List.length_nil]
    omega
theorem IsP.b3 {w : World} {v : Value} {L : List (List (List Int))} (h : IsP 3 w v L) : ∀ y, y < L.length → ∀ i, i < (L.getD y []).length → B3 ((L.getD y []).getD i []) := by
  intro y hy i hi
  obtain ⟨_, _, _, _, _, hph⟩ := h
  obtain ⟨_, _, _, _, _, hR⟩ := hph y hy
  obtain ⟨a, b, c, e, ha, hb, hc⟩ := row3 hR i hi
  rw [e]
  exact ⟨ha, hb, hc⟩
theorem text_size {w : World} {v : Value} {L : List (List (List Int))} (h : IsP 3 w v L) (hn : L.length + tot L L.length ≤ 1048576) : ∀ i k, i < L.length → k ≤ (L.getD i []).length → (ptx L i ++ lnx (L.getD i []) k).length ≤ 1099511627776 := by
  intro i k hi hk
  have h1 := ptx_le L h.b3 i (by omega)
  have h2 := lnx_le _ (h.b3 i hi) k hk
  have h3 := tot_le L (i + 1) L.length (by omega)
  rw [tot] at h3
  rw [List.length_append]
  omega

end Go.Proofs.YtcaepjmgnoeefabDoor
