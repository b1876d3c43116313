/-
  The normal form of a list of numbers by the prime: how many numbers of it count, and what is told; no program in sight.
-/
import Derived.Test.YtgfnjbkhncjhhaeDoorNum
namespace Go.Proofs.YtgfnjbkhncjhhaeDoor

/-- How many numbers of a list count: all behind are 0 by the prime. -/
def sig : List Nat → Nat
  | [] => 0
  | x :: xs => if sig xs = 0 then (if fN x = 0 then 0 else 1) else sig xs + 1
/-- The normal form. -/
def pN (xs : List Nat) : List Nat := (xs.take (sig xs)).map fN

theorem sig_le : ∀ xs, sig xs ≤ xs.length := by
  intro xs
  induction xs with
  | nil => simp [sig]
  | cons x xs ih => simp only [sig, List.length_cons]; split <;> (try split) <;> omega

theorem sig_snoc : ∀ (xs : List Nat) (x : Nat), sig (xs ++ [x]) = if fN x = 0 then sig xs else xs.length + 1 := by
  intro xs
  induction xs with
  | nil => intro x; simp [sig]
  | cons y ys ih =>
    intro x
    simp only [List.cons_append, sig, ih, List.length_cons]
    by_cases h : fN x = 0 <;> simp [h]

theorem take_succ_getD (xs : List Nat) (k : Nat) (h : k < xs.length) : xs.take (k + 1) = xs.take k ++ [xs.getD k 0] := by
  rw [List.take_add_one]
  simp [List.getD, h]

theorem sig_step (xs : List Nat) (k : Nat) (h : k < xs.length) : sig (xs.take (k + 1)) = if fN (xs.getD k 0) = 0 then sig (xs.take k) else k + 1 := by
  rw [take_succ_getD xs k h, sig_snoc, List.length_take, Nat.min_eq_left (by omega)]

end Go.Proofs.YtgfnjbkhncjhhaeDoor
