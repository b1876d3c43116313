/-
  Slices of ints as lists of integers; products of sizes; powers of two.
-/
import Derived.Test.YtgkepflnnoociacDoorSl
namespace Go.Proofs.YtgkepflnnoociacDoor
open Go.RowKit

/-- The slice value v reads in the world w as the integers zs. -/
def IsZ (w : World) (v : Value) (zs : List Int) : Prop :=
  ∃ (a : Option Addr) (cap : Nat), v = .slice a zs.length cap ∧ zs.length ≤ cap ∧ cap ≤ maxLen ∧
    (∀ i, i < zs.length → ∃ b off, a = some ⟨b, off, none⟩ ∧ w.cell? ⟨b, off + i, none⟩ = some (.int .i64 (zs.getD i 0))) ∧
    (∀ z ∈ zs, -9223372036854775808 ≤ z ∧ z ≤ 9223372036854775807)
theorem IsZ.below {w w' : World} {v : Value} {xs : List Int} (h : IsZ w v xs) (hb : Below w.heap.size w w') : IsZ w' v xs := by
  obtain ⟨a, cap, rfl, h1, h2, hc, hr⟩ := h
  refine ⟨a, cap, rfl, h1, h2, fun i hi => ?_, hr⟩
  obtain ⟨b, off, rfl, hcell⟩ := hc i hi
  exact ⟨b, off, rfl, (hb.cell (block_lt hcell)).trans hcell⟩
theorem IsZ.nil (w : World) : IsZ w (.slice none 0 0) [] :=
  ⟨none, 0, rfl, by simp, by simp [maxLen], fun i hi => by simp at hi, fun x hx => by cases hx⟩
theorem rangeZ_getD {zs : List Int} (h : ∀ z ∈ zs, -9223372036854775808 ≤ z ∧ z ≤ 9223372036854775807) (i : Nat) : -9223372036854775808 ≤ zs.getD i 0 ∧ zs.getD i 0 ≤ 9223372036854775807 := by
  rcases Nat.lt_or_ge i zs.length with hi | hi
  · simp only [List.getD, List.getElem?_eq_getElem hi, Option.getD_some]
    exact h _ (List.getElem_mem hi)
  · simp [List.getD, List.getElem?_eq_none hi]

/-- A slice of ints that came in reads as a list. -/
theorem isZ_of_row {w : World} {a : Option Addr} {len cap : Nat} {zs : List Int}
    (h : (a = none ∧ len = 0 ∧ cap = 0 ∧ zs = []) ∨ ∃ x, a = some x ∧ len ≤ cap ∧ cap ≤ maxLen ∧ zs.length = cap ∧ (∀ i, i < zs.length → w.cell? (x.add i) = some (.int .i64 (zs.getD i 0))) ∧ ∀ n ∈ zs, (Lit.int .i64 n).wf = true) :
    ∃ xs, IsZ w (.slice a len cap) xs := by
  rcases h with ⟨rfl, rfl, rfl, _⟩ | ⟨x, rfl, hl, hm, hz, hc, hw⟩
  · exact ⟨[], IsZ.nil w⟩
  · have hlen : (zs.take len).length = len := by simp; omega
    refine ⟨zs.take len, some x, cap, by rw [hlen], by omega, hm, fun i hi => ?_, fun y hy => ?_⟩
    · rw [hlen] at hi
      obtain ⟨b, off, rfl, hc2⟩ := ints_at hc (by omega)
      refine ⟨b, off, rfl, ?_⟩
      have hi2 : i < zs.length := by omega
      rw [hc2 i hi2]
      simp only [List.getD, List.getElem?_take_of_lt hi]
    · have hb := bounds_i64 (hw _ (List.mem_of_mem_take hy))
      omega

/-- A power of two. -/
def P2 (q : Nat) : Prop := ∃ k, q = 2 ^ k
theorem P2_one : P2 1 := ⟨0, rfl⟩
theorem P2_pos {q : Nat} (h : P2 q) : 0 < q := by
  obtain ⟨k, rfl⟩ := h
  exact Nat.pow_pos (by decide)
theorem P2_half {q : Nat} (h2 : q % 2 = 0) : P2 (q / 2) ↔ P2 q := by
  constructor
  · rintro ⟨k, e⟩
    exact ⟨k + 1, by rw [Nat.pow_succ, ← e]; omega⟩
  · rintro ⟨k, e⟩
    cases k with
    | zero => simp at e; omega
    | succ k => exact ⟨k, by rw [e, Nat.pow_succ]; omega⟩
theorem P2_odd {q : Nat} (h1 : 1 < q) (h2 : q % 2 = 1) : ¬ P2 q := by
  rintro ⟨k, e⟩
  cases k with
  | zero => simp at e; omega
  | succ k => rw [Nat.pow_succ] at e; omega

/-- The product of sizes. -/
def prd2 : List Nat → Nat
  | [] => 1
  | d :: ds => d * prd2 ds
theorem prd2_append (a b : List Nat) : prd2 (a ++ b) = prd2 a * prd2 b := by
  induction a with
  | nil => simp [prd2]
  | cons d a ih => simp only [List.cons_append, prd2, ih, Nat.mul_assoc]
theorem prd2_take (ds : List Nat) (i : Nat) (h : i < ds.length) : prd2 (ds.take (i + 1)) = prd2 (ds.take i) * ds.getD i 0 := by
  rw [List.take_add_one, prd2_append]
  congr 1
  simp [List.getD, h, prd2]
theorem prd2_pos {ds : List Nat} (h : ∀ d ∈ ds, 0 < d) : 0 < prd2 ds := by
  induction ds with
  | nil => decide
  | cons d ds ih => exact Nat.mul_pos (h d (by simp)) (ih fun x hx => h x (by simp [hx]))
theorem prd2_split (ds : List Nat) (i : Nat) : prd2 ds = prd2 (ds.take i) * prd2 (ds.drop i) := by
  rw [← prd2_append, List.take_append_drop]
theorem prd2_take_le {ds : List Nat} (h : ∀ d ∈ ds, 0 < d) (i : Nat) : prd2 (ds.take i) ≤ prd2 ds := by
  rw [prd2_split ds i]
  exact Nat.le_mul_of_pos_right _ (prd2_pos fun d hd => h d (List.mem_of_mem_drop hd))

/-- A list of sizes that may be a shape, but for how many numbers it has. -/
def Good (zs : List Int) (ds : List Nat) : Prop := 1 ≤ zs.length ∧ zs.length ≤ 3 ∧ zs = ds.map (fun (d : Nat) => (d : Int)) ∧ ∀ d ∈ ds, P2 d

end Go.Proofs.YtgkepflnnoociacDoor
