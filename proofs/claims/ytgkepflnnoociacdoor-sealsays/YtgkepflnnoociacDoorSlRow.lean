/-
  Rows of numbers that a call makes: the first numbers of a polynomial, owned.
-/
import Derived.Test.YtgkepflnnoociacDoorSlApp
import Derived.Test.YtgkepflnnoociacDoorPure
namespace Go.Proofs.YtgkepflnnoociacDoor
open Go.RowKit

theorem owns_drewN {w : World} {base e size n : Nat} {v : Value} {xs : List Value} (h : w.ownsRow base e size v n xs) (m : Nat) : (w.drewN m).ownsRow base e size v n xs := h

def rowK (n : Nat) (f : Nat → F) : List Value := cellsU (mk n f)
theorem rowK_succ (n : Nat) (f : Nat → F) : rowK (n + 1) f = rowK n f ++ [.int .u64 (((f n).val : Nat) : Int)] := by
  unfold rowK; rw [mk_succ, cellsU_append]; rfl
theorem rowK_isU {w : World} {base n : Nat} {v : Value} {f : Nat → F} (h : w.ownsRow base 47 1 v n (rowK n f)) : IsU w v (mk n f) :=
  IsU.of_owns h (fun x hx => by have := mk_lt n f x hx; unfold P at this; omega)

/-- A row of n numbers that is filled: the first m are there, noughts behind them. -/
def SL (n m : Nat) (f : Nat → F) : List Nat := mk m f ++ List.replicate (n - m) 0
theorem SL_zero (n : Nat) (f : Nat → F) : SL n 0 f = List.replicate n 0 := by simp [SL, mk]
theorem SL_length {n m : Nat} (f : Nat → F) (h : m ≤ n) : (SL n m f).length = n := by
  unfold SL
  rw [List.length_append, mk_length, List.length_replicate]; omega
theorem SL_set {n m : Nat} (f : Nat → F) (h : m < n) : (SL n m f).set m (f m).val = SL n (m + 1) f := by
  unfold SL
  obtain ⟨r, hr⟩ : ∃ r, n - m = r + 1 := ⟨n - m - 1, by omega⟩
  rw [hr, show n - (m + 1) = r by omega, List.set_append_right _ _ (by rw [mk_length]; exact Nat.le_refl m), mk_length, Nat.sub_self, List.replicate_succ, List.set_cons_zero, mk_succ, List.append_assoc]; rfl
theorem SL_full (n : Nat) (f : Nat → F) : SL n n f = mk n f := by simp [SL]
theorem SL_range {n m : Nat} (f : Nat → F) : ∀ x ∈ SL n m f, (x : Int) < 18446744073709551616 := by
  intro x hx
  rcases List.mem_append.mp hx with h1 | h1
  · have := mk_lt m f x h1
    unfold P at this; omega
  · have := List.eq_of_mem_replicate h1
    subst this; decide

end Go.Proofs.YtgkepflnnoociacDoor
