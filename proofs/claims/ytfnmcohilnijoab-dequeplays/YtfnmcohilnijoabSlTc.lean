/-
  The cells of a list of tasks.
-/
import Derived.Test.YtfnmcohilnijoabOpenT
namespace Go.Proofs.Ytfnmcohilnijoab
open Go.RowKit

/-- The cells of a list of tasks. -/
def tc (T : List (List Int)) : List Value := T.flatMap fun r => r.map fun z => Value.int .i64 z
def T3 (T : List (List Int)) : Prop := ∀ r ∈ T, r.length = 3 ∧ ∀ z ∈ r, -9223372036854775808 ≤ z ∧ z ≤ 9223372036854775807
theorem T3.nil : T3 [] := fun r hr => by cases hr
theorem T3.append {A B : List (List Int)} (hA : T3 A) (hB : T3 B) : T3 (A ++ B) := fun r hr => by
  rcases List.mem_append.mp hr with h | h
  · exact hA r h
  · exact hB r h
theorem T3.one {a b c : Int} (ha : -9223372036854775808 ≤ a ∧ a ≤ 9223372036854775807) (hb : -9223372036854775808 ≤ b ∧ b ≤ 9223372036854775807) (hc : -9223372036854775808 ≤ c ∧ c ≤ 9223372036854775807) : T3 [[a, b, c]] := fun r hr => by
  simp only [List.mem_singleton] at hr
  subst hr
  refine ⟨rfl, fun z hz => ?_⟩
  simp only [List.mem_cons, List.not_mem_nil, or_false] at hz
  rcases hz with rfl | rfl | rfl
  · exact ha
  · exact hb
  · exact hc
theorem tc_append (A B : List (List Int)) : tc (A ++ B) = tc A ++ tc B := by simp [tc]
theorem tc_one (a b c : Int) : tc [[a, b, c]] = [.int .i64 a, .int .i64 b, .int .i64 c] := rfl
theorem tc_cons (r : List Int) (T : List (List Int)) : tc (r :: T) = (r.map fun z => Value.int .i64 z) ++ tc T := by simp [tc]
theorem tc_length {T : List (List Int)} (h : T3 T) : (tc T).length = T.length * 3 := by
  induction T with
  | nil => rfl
  | cons r T ih =>
    have h1 := (h r (List.mem_cons_self)).1
    rw [tc_cons, List.length_append, List.length_map, h1, ih (fun q hq => h q (List.mem_cons_of_mem _ hq)), List.length_cons]; omega
theorem tc_get {T : List (List Int)} (h : T3 T) (i j : Nat) (hi : i < T.length) (hj : j < 3) : (tc T)[i * 3 + j]? = some (.int .i64 ((T.getD i []).getD j 0)) := by
  induction T generalizing i with
  | nil => simp at hi
  | cons r T ih =>
    have h1 := (h r (List.mem_cons_self)).1
    rw [tc_cons]
    cases i with
    | zero =>
      rw [List.getElem?_append_left (by rw [List.length_map]; omega), List.getElem?_map]
      simp only [Nat.zero_mul, Nat.zero_add, List.getD_cons_zero]
      rw [List.getD, List.getElem?_eq_getElem (by omega)]; rfl
    | succ i =>
      rw [List.getElem?_append_right (by rw [List.length_map]; omega), List.length_map, h1, show (i + 1) * 3 + j - 3 = i * 3 + j by omega, ih (fun q hq => h q (List.mem_cons_of_mem _ hq)) i (by simp at hi; omega)]
      simp
theorem tc_set {A : List (List Int)} (h : T3 A) (a b c c' : Int) : (tc (A ++ [[a, b, c]])).set (A.length * 3 + 2) (.int .i64 c') = tc (A ++ [[a, b, c']]) := by
  have hl := tc_length h
  rw [tc_append, tc_append, List.set_append_right _ _ (by omega), hl, show A.length * 3 + 2 - A.length * 3 = 2 by omega]; rfl

end Go.Proofs.Ytfnmcohilnijoab
