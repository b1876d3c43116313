/-
  What the bound on the bulk gives of phases that came in: so many phases and tasks.
-/
import Derived.Test.YtcaepjmgnoeefabDoorRows
import Derived.Test.YtcaepjmgnoeefabDoorTextLen
namespace Go.Proofs.YtcaepjmgnoeefabDoor
open Go.RowKit

theorem bulk_one {H : Type} (d : DataW H) : 1 ≤ Rows.uptoBulk d := by
  cases d with
  | lit l => cases l <;> simp [Rows.uptoBulk]
  | nil => simp [Rows.uptoBulk]
  | ptr d => simp [Rows.uptoBulk]
  | slice elems spare => simp [Rows.uptoBulk]
  | agg parts => simp [Rows.uptoBulk]
  | iface t d => simp [Rows.uptoBulk]
  | map entries => simp [Rows.uptoBulk]
  | held h => simp [Rows.uptoBulk]
theorem bulk_len {H : Type} (l : List (DataW H)) : l.length ≤ Rows.uptoBulkAll l := by
  induction l with
  | nil => simp [Rows.uptoBulkAll]
  | cons x r ih => have := bulk_one x; simp only [Rows.uptoBulkAll, List.length_cons]; omega
theorem bulk_cnt {H : Type} (d : DataW H) : cntD d + 1 ≤ Rows.uptoBulk d := by
  cases d with
  | slice elems spare =>
    have := bulk_len elems
    simp only [cntD, Rows.uptoBulk]; omega
  | lit l => exact bulk_one _
  | nil => exact bulk_one _
  | ptr d => exact bulk_one _
  | agg parts => exact bulk_one _
  | iface t d => exact bulk_one _
  | map entries => exact bulk_one _
  | held h => exact bulk_one _
theorem bulk_take {H : Type} (D : List (DataW H)) (L : List (List (List Int))) (h : ∀ i, i < D.length → cntD (D.getD i .nil) = (L.getD i []).length) (i : Nat) (hi : i ≤ D.length) : i + tot L i ≤ Rows.uptoBulkAll (D.take i) := by
  induction i with
  | zero => simp [tot]
  | succ i ih =>
    have h1 := ih (by omega)
    have hi' : i < D.length := by omega
    have h2 := h i hi'
    have e : D.getD i .nil = D[i] := by simp [List.getD, List.getElem?_eq_getElem hi']
    have h3 := bulk_cnt D[i]
    have h4 : Rows.uptoBulkAll (D.take (i + 1)) = Rows.uptoBulkAll (D.take i) + Rows.uptoBulk D[i] := by
      rw [List.take_add_one, List.getElem?_eq_getElem hi']
      generalize D.take i = A
      induction A with
      | nil => simp [Rows.uptoBulkAll]
      | cons x A ih2 => simp only [List.cons_append, Rows.uptoBulkAll, ih2]; omega
    rw [h4, tot, ← h2, e]
    omega
theorem bulk_dat {H : Type} {d : DataW H} {L : List (List (List Int))} (h : Dat d L) (hb : Rows.uptoBulk d ≤ 1048576) : L.length + tot L L.length ≤ 1048576 := by
  rcases h with ⟨rfl, rfl⟩ | ⟨D, sp, rfl, hl, hc⟩
  · simp [tot]
  · have h1 := bulk_take D L (fun i hi => hc i (by omega)) D.length (Nat.le_refl _)
    rw [List.take_length, hl] at h1
    simp only [Rows.uptoBulk] at hb
    omega

end Go.Proofs.YtcaepjmgnoeefabDoor
