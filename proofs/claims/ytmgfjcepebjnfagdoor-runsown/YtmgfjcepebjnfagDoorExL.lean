/-
  What the laws on runs share: what a run of a plan that is made is made of; the cells of a list of picks; where the phases lie.
-/
import Derived.Test.YtmgfjcepebjnfagDoorKeepRuns
import Derived.Test.YtmgfjcepebjnfagDoorKeepShaped
import Derived.Test.YtmgfjcepebjnfagDoorRefRest
namespace Go.Proofs.YtmgfjcepebjnfagDoor
open Go.RowKit

theorem stc_of {zs : List Int} {ds : List Nat} (hG : Good zs ds) (hds : prd2 ds ≤ 64) (c : Nat) (hc : 1 ≤ c) (xs : List Nat) (hl : xs.length = prd2 ds) (W : Nat) (h1 : 1 ≤ W) (h8 : W ≤ 8) : Stc ds (pls ds c ds.length) (nmL xs) W := by
  have h1' : 1 ≤ ds.length := by have := hG.1; rw [hG.2.2.1, List.length_map] at this; exact this
  have h3 : ds.length ≤ 3 := by have := hG.2.1; rw [hG.2.2.1, List.length_map] at this; exact this
  have hF := few_small hG.2.2.2 hds c
  refine ⟨by omega, pls_fine ds c hc, fun i => ?_, h1, h8, by rw [nmL_length]; exact hl, h1', h3, nmL_below _⟩
  rcases Nat.lt_or_ge i ds.length with q | q
  · rw [pls_get ds c _ i q]; exact hF i q
  · rw [List.getD, List.getElem?_eq_none (by rw [pls_length]; exact q)]; simp
/-- Cells of a list of picks. -/
theorem pick_cells {w wr : World} {v : Value} {K : List (List Int)} (h : IsR 2 w v K) (hb : Below w.heap.size w wr) (i : Nat) (hi : i < K.length) : ∃ b off cap a d, v = .slice (some ⟨b, off, none⟩) K.length cap ∧ wr.cell? ⟨b, off + i * 2, none⟩ = some (.int .i64 a) ∧ wr.cell? ⟨b, off + i * 2 + 1, none⟩ = some (.int .i64 d) := by
  obtain ⟨a, cap, rfl, -, -, hc, hr⟩ := h
  obtain ⟨b, off, rfl, hce⟩ := hc i hi
  refine ⟨b, off, cap, (K.getD i []).getD 0 0, (K.getD i []).getD 1 0, rfl, ?_, ?_⟩
  · exact (hb.cell (block_lt (hce 0 (by omega)))).trans (hce 0 (by omega))
  · have := (hb.cell (block_lt (hce 1 (by omega)))).trans (hce 1 (by omega))
    rw [← Nat.add_assoc] at this
    exact this

theorem phase_cells {w wr : World} {al : Option Addr} {nl cl : Nat} {L : List (List (List Int))} (h : IsP 3 w (.slice al nl cl) L) (hb : Below w.heap.size w wr) (x : Nat) (hx : x < L.length) : ∃ b off u n q, al = some ⟨b, off, none⟩ ∧ u = .slice q (L.getD x []).length n ∧ wr.cell? ⟨b, off + x, none⟩ = some u ∧ IsR 3 wr u (L.getD x []) := by
  obtain ⟨a', cap', e, -, -, hc⟩ := h.below hb
  simp only [Value.slice.injEq] at e
  obtain ⟨rfl, -, rfl⟩ := e
  obtain ⟨b, off, u, rfl, hcell, hR⟩ := hc x hx
  obtain ⟨q, n, rfl, -⟩ := id hR
  exact ⟨b, off, _, n, q, rfl, rfl, hcell, hR⟩
theorem IsR.taken {k : Nat} {w : World} {a : Option Addr} {cap : Nat} {T : List (List Int)} (h : IsR k w (.slice a T.length cap) T) (n : Nat) (hn : n ≤ T.length) : IsR k w (.slice a n cap) (T.take n) := by
  obtain ⟨a', cap', e, h1, h2, hc, hr⟩ := h
  simp only [Value.slice.injEq] at e
  obtain ⟨rfl, -, rfl⟩ := e
  have hl : (T.take n).length = n := by rw [List.length_take]; omega
  refine ⟨a, cap, by rw [hl], by omega, h2, fun i hi => ?_, fun r hr' => hr r (List.mem_of_mem_take hr')⟩
  rw [hl] at hi
  obtain ⟨b, off, e, hce⟩ := hc i (by omega)
  refine ⟨b, off, e, fun j hj => ?_⟩
  rw [hce j hj]
  have e2 : (T.take n).getD i [] = T.getD i [] := by simp [List.getD, hi]
  rw [e2]

end Go.Proofs.YtmgfjcepebjnfagDoor
