/-
  What each call of package field answers, for all numbers of 64 bits: the rest by the prime of the sum, the difference, the product, the power.
-/
import Derived.Test.YtgkepflnnoociacDoorRows
import Derived.Test.YtgkepflnnoociacDoorPure
import Derived.WalkKit
import Derived.WalkSpells
import Derived.WalkLawsBesides
import Derived.Laws.Bits64b
namespace Go.Proofs.YtgkepflnnoociacDoor
open Go.RowKit

theorem norm_ge (a : Nat) (ha : (a : Int) < 18446744073709551616) (h : (18446744069414584321 : Int) ≤ a) : ((fN a : Nat) : Int) = (a : Int) - 18446744069414584321 := by
  rw [fN_eq]; unfold P; omega
theorem norm_lt (a : Nat) (h : (a : Int) < 18446744069414584321) : ((fN a : Nat) : Int) = (a : Int) := by
  rw [fN_eq]; unfold P; omega

theorem field_Norm (a : Nat) (ha : (a : Int) < 18446744073709551616) (w : World) :
    Calls Tryd.prog 74 #[.int .u64 (a : Int)] w fun e w' => e = .returned (.int .u64 ((fN a : Nat) : Int)) ∧ w' = w := by
  by_cases h : (18446744069414584321 : Int) ≤ a
  · rw [norm_ge a ha h]
    go_enter Tryd.func74, Tryd.ntmps74
    go_wp2
    go_ret
    exact ⟨rfl, rfl⟩
  · have h' : (a : Int) < 18446744069414584321 := by omega
    rw [norm_lt a h']
    go_enter Tryd.func74, Tryd.ntmps74
    go_wp2
    go_ret
    exact ⟨rfl, rfl⟩

theorem add_ge (a b : Nat) (h : 18446744069414584321 - (fN b : Int) ≤ (fN a : Int)) : ((fA a b : Nat) : Int) = (fN a : Int) - (18446744069414584321 - (fN b : Int)) := by
  simp only [fA_eq, fN_eq] at *; unfold P at *; omega
theorem add_lt (a b : Nat) (h : (fN a : Int) < 18446744069414584321 - (fN b : Int)) : ((fA a b : Nat) : Int) = (fN a : Int) + (fN b : Int) := by
  simp only [fA_eq, fN_eq] at *; unfold P at *; omega

theorem field_Add (a b : Nat) (ha : (a : Int) < 18446744073709551616) (hb : (b : Int) < 18446744073709551616) (w : World) :
    Calls Tryd.prog 144 #[.int .u64 (a : Int), .int .u64 (b : Int)] w fun e w' => e = .returned (.int .u64 ((fA a b : Nat) : Int)) ∧ w' = w := by
  have ba := fN_lt a
  have bb := fN_lt b
  by_cases h : 18446744069414584321 - (fN b : Int) ≤ (fN a : Int)
  · rw [add_ge a b h]
    go_enter Tryd.func144, Tryd.ntmps144
    go_wp2_with (go_at_call 74; refine Calls.mono (field_Norm _ ?_ _) ?_; omega; rintro e w' ⟨rfl, hw⟩; rw [hw]; clear hw)
    go_ret
    exact ⟨rfl, rfl⟩
  · rw [add_lt a b (by omega)]
    have h' : (fN a : Int) + (fN b : Int) < 18446744069414584321 := by omega
    replace h := decide_eq_false h
    go_enter Tryd.func144, Tryd.ntmps144
    go_wp2_with (go_at_call 74; refine Calls.mono (field_Norm _ ?_ _) ?_; omega; rintro e w' ⟨rfl, hw⟩; rw [hw]; clear hw)
    go_ret
    exact ⟨rfl, rfl⟩

theorem sub_ge (a b : Nat) (h : (fN b : Int) ≤ (fN a : Int)) : ((fS a b : Nat) : Int) = (fN a : Int) - (fN b : Int) := by
  simp only [fS_eq, fN_eq] at *; unfold P at *; omega
theorem sub_lt (a b : Nat) (h : (fN a : Int) < (fN b : Int)) : ((fS a b : Nat) : Int) = 18446744069414584321 - ((fN b : Int) - (fN a : Int)) := by
  simp only [fS_eq, fN_eq] at *; unfold P at *; omega

theorem field_Sub (a b : Nat) (ha : (a : Int) < 18446744073709551616) (hb : (b : Int) < 18446744073709551616) (w : World) :
    Calls Tryd.prog 162 #[.int .u64 (a : Int), .int .u64 (b : Int)] w fun e w' => e = .returned (.int .u64 ((fS a b : Nat) : Int)) ∧ w' = w := by
  have ba := fN_lt a
  have bb := fN_lt b
  by_cases h : (fN b : Int) ≤ (fN a : Int)
  · rw [sub_ge a b h]
    go_enter Tryd.func162, Tryd.ntmps162
    go_wp2_with (go_at_call 74; refine Calls.mono (field_Norm _ ?_ _) ?_; omega; rintro e w' ⟨rfl, hw⟩; rw [hw]; clear hw)
    go_ret
    exact ⟨rfl, rfl⟩
  · have h' : (fN a : Int) < (fN b : Int) := by omega
    rw [sub_lt a b h']
    replace h : decide (fN b ≤ fN a) = false := decide_eq_false (by omega)
    go_enter Tryd.func162, Tryd.ntmps162
    go_wp2_with (go_at_call 74; refine Calls.mono (field_Norm _ ?_ _) ?_; omega; rintro e w' ⟨rfl, hw⟩; rw [hw]; clear hw)
    go_ret
    exact ⟨rfl, rfl⟩

/-! ### The product of two words, as two words: each number of the walk under a name of its own -/
theorem low_half (a : Nat) (ha : (a : Int) < 18446744073709551616) : bits .and .u64 (a : Int) 4294967295 = ((a % 4294967296 : Nat) : Int) := by
  rw [← Nat.and_two_pow_sub_one_eq_mod a 32]
  exact bits_and_u64_nat a 4294967295 (by omega) (by omega)
theorem high_half (a : Nat) : (a : Int) / 4294967296 = ((a / 4294967296 : Nat) : Int) := by omega
theorem fits_u64 (a : Nat) (ha : (a : Int) < 18446744073709551616) : IntKind.u64.wrap (a : Int) = (a : Int) := by
  rw [IntKind.wrap_u64]; omega

theorem mul64_walk (x y x0 x1 y0 y1 p q r s t m l : Nat) (ex : bits .and .u64 (x : Int) 4294967295 = (x0 : Int)) (ey : bits .and .u64 (y : Int) 4294967295 = (y0 : Int))
    (fx : (x : Int) / 4294967296 = (x1 : Int)) (fy : (y : Int) / 4294967296 = (y1 : Int))
    (ep : (x0 : Int) * (y0 : Int) = (p : Int)) (eq : (x1 : Int) * (y0 : Int) = (q : Int)) (er : (x0 : Int) * (y1 : Int) = (r : Int)) (es : (x1 : Int) * (y1 : Int) = (s : Int))
    (bp : (p : Int) ≤ 18446744065119617025) (bq : (q : Int) ≤ 18446744065119617025) (br : (r : Int) ≤ 18446744065119617025) (bs : (s : Int) ≤ 18446744065119617025)
    (et : (q : Int) + (p : Int) / 4294967296 = (t : Int)) (bt : (t : Int) < 18446744073709551616) (em : bits .and .u64 (t : Int) 4294967295 = (m : Int)) (bm : (m : Int) < 4294967296)
    (el : IntKind.u64.wrap ((x : Int) * (y : Int)) = (l : Int)) (w : World) :
    Calls Tryd.prog 161 #[.int .u64 (x : Int), .int .u64 (y : Int)] w fun e w' => e = .returned (.tuple #[.int .u64 ((s : Int) + (t : Int) / 4294967296 + ((m : Int) + (r : Int)) / 4294967296), .int .u64 (l : Int)]) ∧ w' = w := by
  go_enter Tryd.func161, Tryd.ntmps161
  go_wp2
  go_ret2
  exact ⟨rfl, rfl⟩

theorem school (x1 x0 y1 y0 : Nat) : (4294967296 * x1 + x0) * (4294967296 * y1 + y0) = 18446744073709551616 * (x1 * y1) + 4294967296 * (x1 * y0 + x0 * y1) + x0 * y0 := by
  grind
theorem halves_le {a b : Nat} (ha : a < 4294967296) (hb : b < 4294967296) : ((a * b : Nat) : Int) ≤ 18446744065119617025 := by
  have := Nat.mul_le_mul (show a ≤ 4294967295 by omega) (show b ≤ 4294967295 by omega)
  omega

theorem bits_Mul64 (x y : Nat) (hx : (x : Int) < 18446744073709551616) (hy : (y : Int) < 18446744073709551616) (w : World) :
    Calls Tryd.prog 161 #[.int .u64 (x : Int), .int .u64 (y : Int)] w fun e w' => e = .returned (.tuple #[.int .u64 ((x * y / 18446744073709551616 : Nat) : Int), .int .u64 ((x * y % 18446744073709551616 : Nat) : Int)]) ∧ w' = w := by
  have hp := school (x / 4294967296) (x % 4294967296) (y / 4294967296) (y % 4294967296)
  rw [Nat.div_add_mod, Nat.div_add_mod] at hp
  have bp := halves_le (a := x % 4294967296) (b := y % 4294967296) (by omega) (by omega)
  have bq := halves_le (a := x / 4294967296) (b := y % 4294967296) (by omega) (by omega)
  have br := halves_le (a := x % 4294967296) (b := y / 4294967296) (by omega) (by omega)
  have bs := halves_le (a := x / 4294967296) (b := y / 4294967296) (by omega) (by omega)
  have ep := (Int.natCast_mul (x % 4294967296) (y % 4294967296)).symm
  have eq := (Int.natCast_mul (x / 4294967296) (y % 4294967296)).symm
  have er := (Int.natCast_mul (x % 4294967296) (y / 4294967296)).symm
  have es := (Int.natCast_mul (x / 4294967296) (y / 4294967296)).symm
  have el : IntKind.u64.wrap ((x : Int) * (y : Int)) = ((x * y % 18446744073709551616 : Nat) : Int) := by
    rw [IntKind.wrap_u64, ← Int.natCast_mul]; omega
  have h := fun t m ht hb hm hb2 => mul64_walk x y _ _ _ _ _ _ _ _ t m _ (low_half x hx) (low_half y hy) (high_half x) (high_half y) ep eq er es bp bq br bs ht hb hm hb2 el w
  clear ep eq er es el
  generalize x % 4294967296 * (y % 4294967296) = p at *
  generalize x / 4294967296 * (y % 4294967296) = q at *
  generalize x % 4294967296 * (y / 4294967296) = r at *
  generalize x / 4294967296 * (y / 4294967296) = s at *
  generalize x * y = z at *
  have e : ((z / 18446744073709551616 : Nat) : Int) = (s : Int) + ((q + p / 4294967296 : Nat) : Int) / 4294967296 + (((((q + p / 4294967296) % 4294967296 : Nat) : Int)) + (r : Int)) / 4294967296 := by omega
  rw [e]
  exact h (q + p / 4294967296) ((q + p / 4294967296) % 4294967296) (by omega) (by omega) (low_half _ (by omega)) (by omega)

end Go.Proofs.YtgkepflnnoociacDoor
