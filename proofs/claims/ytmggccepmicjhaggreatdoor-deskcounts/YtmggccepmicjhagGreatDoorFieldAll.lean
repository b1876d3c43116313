/-
  Texts that stood one behind the other, as one.
-/
import Derived.Test.YtmggccepmicjhagGreatDoorRows
import Derived.Test.YtmggccepmicjhagGreatDoorPure
import Derived.WalkKit
import Derived.WalkSpells
import Derived.WalkLawsBesides
import Derived.Laws.Bits64b
import Derived.Test.YtmggccepmicjhagGreatDoorSlAll
import Derived.Test.YtmggccepmicjhagGreatDoorRowUAll
import Derived.Test.YtmggccepmicjhagGreatDoorDkC1All
import Derived.Test.YtmggccepmicjhagGreatDoorItoaAll
import Derived.Test.YtmggccepmicjhagGreatDoorRefPhasesAll
import Derived.Shelf.SlSortCmp.QuietGrown
/-! What each call of package field answers, for all numbers of 64 bits: the rest by the prime of the sum, the difference, the product, the power. -/
namespace Go.Proofs.YtmggccepmicjhagGreatDoor
open Go.RowKit

theorem norm_ge (a : Nat) (ha : (a : Int) < 18446744073709551616) (h : (18446744069414584321 : Int) ≤ a) : ((fN a : Nat) : Int) = (a : Int) - 18446744069414584321 := by
  rw [fN_eq]; unfold P; omega
theorem norm_lt (a : Nat) (h : (a : Int) < 18446744069414584321) : ((fN a : Nat) : Int) = (a : Int) := by
  rw [fN_eq]; unfold P; omega

theorem field_Norm (a : Nat) (ha : (a : Int) < 18446744073709551616) (w : World) :
    Calls Tryz.prog 60 #[.int .u64 (a : Int)] w fun e w' => e = .returned (.int .u64 ((fN a : Nat) : Int)) ∧ w' = w := by
  by_cases h : (18446744069414584321 : Int) ≤ a
  · rw [norm_ge a ha h]
    go_enter Tryz.func60, Tryz.ntmps60
    go_wp2
    go_ret
    exact ⟨rfl, rfl⟩
  · have h' : (a : Int) < 18446744069414584321 := by omega
    rw [norm_lt a h']
    go_enter Tryz.func60, Tryz.ntmps60
    go_wp2
    go_ret
    exact ⟨rfl, rfl⟩

theorem add_ge (a b : Nat) (h : 18446744069414584321 - (fN b : Int) ≤ (fN a : Int)) : ((fA a b : Nat) : Int) = (fN a : Int) - (18446744069414584321 - (fN b : Int)) := by
  simp only [fA_eq, fN_eq] at *; unfold P at *; omega
theorem add_lt (a b : Nat) (h : (fN a : Int) < 18446744069414584321 - (fN b : Int)) : ((fA a b : Nat) : Int) = (fN a : Int) + (fN b : Int) := by
  simp only [fA_eq, fN_eq] at *; unfold P at *; omega

theorem field_Add (a b : Nat) (ha : (a : Int) < 18446744073709551616) (hb : (b : Int) < 18446744073709551616) (w : World) :
    Calls Tryz.prog 34 #[.int .u64 (a : Int), .int .u64 (b : Int)] w fun e w' => e = .returned (.int .u64 ((fA a b : Nat) : Int)) ∧ w' = w := by
  have ba := fN_lt a
  have bb := fN_lt b
  by_cases h : 18446744069414584321 - (fN b : Int) ≤ (fN a : Int)
  · rw [add_ge a b h]
    go_enter Tryz.func34, Tryz.ntmps34
    go_wp2_with (go_at_call 60; refine Calls.mono (field_Norm _ ?_ _) ?_; omega; rintro e w' ⟨rfl, hw⟩; rw [hw]; clear hw)
    go_ret
    exact ⟨rfl, rfl⟩
  · rw [add_lt a b (by omega)]
    have h' : (fN a : Int) + (fN b : Int) < 18446744069414584321 := by omega
    replace h := decide_eq_false h
    go_enter Tryz.func34, Tryz.ntmps34
    go_wp2_with (go_at_call 60; refine Calls.mono (field_Norm _ ?_ _) ?_; omega; rintro e w' ⟨rfl, hw⟩; rw [hw]; clear hw)
    go_ret
    exact ⟨rfl, rfl⟩

theorem sub_ge (a b : Nat) (h : (fN b : Int) ≤ (fN a : Int)) : ((fS a b : Nat) : Int) = (fN a : Int) - (fN b : Int) := by
  simp only [fS_eq, fN_eq] at *; unfold P at *; omega
theorem sub_lt (a b : Nat) (h : (fN a : Int) < (fN b : Int)) : ((fS a b : Nat) : Int) = 18446744069414584321 - ((fN b : Int) - (fN a : Int)) := by
  simp only [fS_eq, fN_eq] at *; unfold P at *; omega

theorem field_Sub (a b : Nat) (ha : (a : Int) < 18446744073709551616) (hb : (b : Int) < 18446744073709551616) (w : World) :
    Calls Tryz.prog 35 #[.int .u64 (a : Int), .int .u64 (b : Int)] w fun e w' => e = .returned (.int .u64 ((fS a b : Nat) : Int)) ∧ w' = w := by
  have ba := fN_lt a
  have bb := fN_lt b
  by_cases h : (fN b : Int) ≤ (fN a : Int)
  · rw [sub_ge a b h]
    go_enter Tryz.func35, Tryz.ntmps35
    go_wp2_with (go_at_call 60; refine Calls.mono (field_Norm _ ?_ _) ?_; omega; rintro e w' ⟨rfl, hw⟩; rw [hw]; clear hw)
    go_ret
    exact ⟨rfl, rfl⟩
  · have h' : (fN a : Int) < (fN b : Int) := by omega
    rw [sub_lt a b h']
    replace h : decide (fN b ≤ fN a) = false := decide_eq_false (by omega)
    go_enter Tryz.func35, Tryz.ntmps35
    go_wp2_with (go_at_call 60; refine Calls.mono (field_Norm _ ?_ _) ?_; omega; rintro e w' ⟨rfl, hw⟩; rw [hw]; clear hw)
    go_ret
    exact ⟨rfl, rfl⟩

/-! ### The product of two words, as two words: each number of the walk under a name of its own -/
theorem low_half (a : Nat) (ha : (a : Int) < 18446744073709551616) : bits .and .u64 (a : Int) 4294967295 = ((a % 4294967296 : Nat) : Int) := by
  rw [← Nat.and_two_pow_sub_one_eq_mod a 32]
  exact bits_and_u64_nat a 4294967295 (by omega) (by omega)
theorem high_half (a : Nat) : (a : Int) / 4294967296 = ((a / 4294967296 : Nat) : Int) := by omega
theorem fits_u64 (a : Nat) (ha : (a : Int) < 18446744073709551616) : IntKind.u64.wrap (a : Int) = (a : Int) := by
  rw [IntKind.wrap_u64]; omega

theorem mul64_walk (x y x0 x1 y0 y1 p q r s t m l : Nat) (ex : bits .and .u64 (x : Int) 4294967295 = (x0 : Int)) (ey : bits .and .u64 (y : Int) 4294967295 = (y0 : Int))
    (fx : (x : Int) / 4294967296 = (x1 : Int)) (fy : (y : Int) / 4294967296 = (y1 : Int))
    (ep : (x0 : Int) * (y0 : Int) = (p : Int)) (eq : (x1 : Int) * (y0 : Int) = (q : Int)) (er : (x0 : Int) * (y1 : Int) = (r : Int)) (es : (x1 : Int) * (y1 : Int) = (s : Int))
    (bp : (p : Int) ≤ 18446744065119617025) (bq : (q : Int) ≤ 18446744065119617025) (br : (r : Int) ≤ 18446744065119617025) (bs : (s : Int) ≤ 18446744065119617025)
    (et : (q : Int) + (p : Int) / 4294967296 = (t : Int)) (bt : (t : Int) < 18446744073709551616) (em : bits .and .u64 (t : Int) 4294967295 = (m : Int)) (bm : (m : Int) < 4294967296)
    (el : IntKind.u64.wrap ((x : Int) * (y : Int)) = (l : Int)) (w : World) :
    Calls Tryz.prog 61 #[.int .u64 (x : Int), .int .u64 (y : Int)] w fun e w' => e = .returned (.tuple #[.int .u64 ((s : Int) + (t : Int) / 4294967296 + ((m : Int) + (r : Int)) / 4294967296), .int .u64 (l : Int)]) ∧ w' = w := by
  go_enter Tryz.func61, Tryz.ntmps61
  go_wp2
  go_ret2
  exact ⟨rfl, rfl⟩

theorem school (x1 x0 y1 y0 : Nat) : (4294967296 * x1 + x0) * (4294967296 * y1 + y0) = 18446744073709551616 * (x1 * y1) + 4294967296 * (x1 * y0 + x0 * y1) + x0 * y0 := by
  grind
theorem halves_le {a b : Nat} (ha : a < 4294967296) (hb : b < 4294967296) : ((a * b : Nat) : Int) ≤ 18446744065119617025 := by
  have := Nat.mul_le_mul (show a ≤ 4294967295 by omega) (show b ≤ 4294967295 by omega)
  omega

theorem bits_Mul64 (x y : Nat) (hx : (x : Int) < 18446744073709551616) (hy : (y : Int) < 18446744073709551616) (w : World) :
    Calls Tryz.prog 61 #[.int .u64 (x : Int), .int .u64 (y : Int)] w fun e w' => e = .returned (.tuple #[.int .u64 ((x * y / 18446744073709551616 : Nat) : Int), .int .u64 ((x * y % 18446744073709551616 : Nat) : Int)]) ∧ w' = w := by
  have hp := school (x / 4294967296) (x % 4294967296) (y / 4294967296) (y % 4294967296)
  rw [Nat.div_add_mod, Nat.div_add_mod] at hp
  have bp := halves_le (a := x % 4294967296) (b := y % 4294967296) (by omega) (by omega)
  have bq := halves_le (a := x / 4294967296) (b := y % 4294967296) (by omega) (by omega)
  have br := halves_le (a := x % 4294967296) (b := y / 4294967296) (by omega) (by omega)
  have bs := halves_le (a := x / 4294967296) (b := y / 4294967296) (by omega) (by omega)
  have ep := (Int.natCast_mul (x % 4294967296) (y % 4294967296)).symm
  have eq := (Int.natCast_mul (x / 4294967296) (y % 4294967296)).symm
  have er := (Int.natCast_mul (x % 4294967296) (y / 4294967296)).symm
  have es := (Int.natCast_mul (x / 4294967296) (y / 4294967296)).symm
  have el : IntKind.u64.wrap ((x : Int) * (y : Int)) = ((x * y % 18446744073709551616 : Nat) : Int) := by
    rw [IntKind.wrap_u64, ← Int.natCast_mul]; omega
  have h := fun t m ht hb hm hb2 => mul64_walk x y _ _ _ _ _ _ _ _ t m _ (low_half x hx) (low_half y hy) (high_half x) (high_half y) ep eq er es bp bq br bs ht hb hm hb2 el w
  clear ep eq er es el
  generalize x % 4294967296 * (y % 4294967296) = p at *
  generalize x / 4294967296 * (y % 4294967296) = q at *
  generalize x % 4294967296 * (y / 4294967296) = r at *
  generalize x / 4294967296 * (y / 4294967296) = s at *
  generalize x * y = z at *
  have e : ((z / 18446744073709551616 : Nat) : Int) = (s : Int) + ((q + p / 4294967296 : Nat) : Int) / 4294967296 + (((((q + p / 4294967296) % 4294967296 : Nat) : Int)) + (r : Int)) / 4294967296 := by omega
  rw [e]
  exact h (q + p / 4294967296) ((q + p / 4294967296) % 4294967296) (by omega) (by omega) (low_half _ (by omega)) (by omega)

end Go.Proofs.YtmggccepmicjhagGreatDoor

/-! What Norm of package goldref answers, for all numbers of 64 bits. -/
namespace Go.Proofs.YtmggccepmicjhagGreatDoor
open Go.RowKit

theorem rem_fN (a : Nat) : (a : Int) % 18446744069414584321 = ((fN a : Nat) : Int) := by
  rw [fN_eq]; unfold P; omega


end Go.Proofs.YtmggccepmicjhagGreatDoor

/-! What Add and Mul of package goldref answer, for all numbers of 64 bits: the same numbers as those of package field. -/
namespace Go.Proofs.YtmggccepmicjhagGreatDoor
open Go.RowKit

/-! ### Mul: doubled, bit by bit -/
theorem half_step (y t : Nat) : y / 2 ^ t = 2 * (y / 2 ^ (t + 1)) + y / 2 ^ t % 2 := by
  rw [Nat.pow_succ, ← Nat.div_div_eq_div_mul]; omega

theorem mul_dbl (x y t : Nat) (h : y / 2 ^ t % 2 = 0) : fA (fM x (y / 2 ^ (t + 1))) (fM x (y / 2 ^ (t + 1))) = fM x (y / 2 ^ t) := by
  have e := half_step y t
  rw [h] at e
  rw [e, fA_eq, fM_eq, fM_eq, ← Nat.add_mod]
  congr 1
  grind
theorem mul_dbl1 (x y t : Nat) (h : y / 2 ^ t % 2 = 1) : fA (fA (fM x (y / 2 ^ (t + 1))) (fM x (y / 2 ^ (t + 1)))) x = fM x (y / 2 ^ t) := by
  have e := half_step y t
  rw [h] at e
  rw [e, fA_eq, fA_eq, fM_eq, fM_eq, ← Nat.add_mod, Nat.mod_add_mod]
  congr 1
  grind
theorem fM_fN (a b : Nat) : fM (fN a) (fN b) = fM a b := by
  rw [fM_eq, fM_eq, fN_eq, fN_eq, ← Nat.mul_mod]
theorem div_top (x y : Nat) (hy : (y : Int) < 18446744073709551616) : fM x (y / 2 ^ 64) = 0 := by
  have e : y / 2 ^ 64 = 0 := Nat.div_eq_of_lt (by omega)
  rw [e, fM_eq]; rfl
theorem bit_cast (y t : Nat) : ((y : Int) / 2 ^ t).tmod 2 = ((y / 2 ^ t % 2 : Nat) : Int) := by
  have e : (y : Int) / 2 ^ t = ((y / 2 ^ t : Nat) : Int) := by rw [Int.natCast_ediv, Int.natCast_pow]; rfl
  rw [e]
  generalize y / 2 ^ t = z
  rw [Int.tmod_eq_emod_of_nonneg (by omega)]; omega

end Go.Proofs.YtmggccepmicjhagGreatDoor

/-! What Eval of package goldref answers: the value of a polynomial at a place. -/
namespace Go.Proofs.YtmggccepmicjhagGreatDoor
open Go.RowKit

/-- The first k summands; the k-th power. -/
def evK (xs : List Nat) (x k : Nat) : Nat := (S k (fun i => gf (xs.map toF) i * pw (toF x) i)).val
def pwK (x k : Nat) : Nat := (pw (toF x) k).val
theorem evK_succ (xs : List Nat) (x k : Nat) : fA (evK xs x k) (fM (xs.getD k 0) (pwK x k)) = evK xs x (k + 1) := by
  unfold evK pwK
  rw [S_succ, fA_val, toF_val, toF_fM, toF_val, ← cf_gf]; rfl
theorem pwK_succ (x k : Nat) : fM (pwK x k) x = pwK x (k + 1) := by
  unfold pwK
  rw [fM_val, toF_val, pw_succ]
theorem evK_all (xs : List Nat) (x : Nat) : evK xs x xs.length = pE xs x := by
  unfold evK pE
  rw [evF_S, List.length_map]
theorem evK_lt (xs : List Nat) (x k : Nat) : (evK xs x k : Int) < 18446744069414584321 := lt_int (val_lt _)
theorem pwK_lt (x k : Nat) : (pwK x k : Int) < 18446744069414584321 := lt_int (val_lt _)
theorem pE_lt (xs : List Nat) (x : Nat) : (pE xs x : Int) < 18446744069414584321 := lt_int (val_lt _)

end Go.Proofs.YtmggccepmicjhagGreatDoor

/-! What Pow of package goldref answers, for all numbers of 64 bits: the same number as that of package field. -/
namespace Go.Proofs.YtmggccepmicjhagGreatDoor
open Go.RowKit

/-! ### Pow: from the highest bit -/
theorem pow_dbl (x y t : Nat) (h : y / 2 ^ t % 2 = 0) : fM (fW x (y / 2 ^ (t + 1))) (fW x (y / 2 ^ (t + 1))) = fW x (y / 2 ^ t) := by
  have e := half_step y t
  rw [h] at e
  rw [e, fM_eq, fW_eq, fW_eq, ← Nat.mul_mod, ← Nat.pow_add]
  congr 2
  omega
theorem pow_dbl1 (x y t : Nat) (h : y / 2 ^ t % 2 = 1) : fM (fM (fW x (y / 2 ^ (t + 1))) (fW x (y / 2 ^ (t + 1)))) x = fW x (y / 2 ^ t) := by
  have e := half_step y t
  rw [h] at e
  rw [e, fM_eq, fM_eq, fW_eq, fW_eq, ← Nat.mul_mod, ← Nat.pow_add, Nat.mod_mul_mod, ← Nat.pow_succ]
  congr 2
  omega
theorem pow_top (x y : Nat) (hy : (y : Int) < 18446744073709551616) : fW x (y / 2 ^ 64) = 1 := by
  have e : y / 2 ^ 64 = 0 := Nat.div_eq_of_lt (by omega)
  rw [e, fW_eq, Nat.pow_zero]; rfl

end Go.Proofs.YtmggccepmicjhagGreatDoor

/-! What Root and In of package goldref answer: a root is the power of 7; a number lies between two others or not. -/
namespace Go.Proofs.YtmggccepmicjhagGreatDoor
open Go.RowKit

theorem half_half (i : Nat) : 18446744069414584320 / 2 ^ (i + 1) = 18446744069414584320 / 2 ^ i / 2 := by
  rw [Nat.pow_succ, Nat.div_div_eq_div_mul]

end Go.Proofs.YtmggccepmicjhagGreatDoor

/-! What Symbols of package goldref answers: the values of a polynomial at powers of the root. -/
namespace Go.Proofs.YtmggccepmicjhagGreatDoor
open Go.RowKit

/-- Symbol i of data. -/
def symF (xs : List Nat) (i : Nat) : F := evF (xs.map toF) (pw (toF (rt 6)) i)
theorem symF_val (xs : List Nat) (i : Nat) : (symF xs i).val = pE xs (fW (rt 6) i) := by unfold symF pE; rw [toF_fW]
end Go.Proofs.YtmggccepmicjhagGreatDoor

/-! What PlanText of package goldref answers: the text of phases. -/
namespace Go.Proofs.YtmggccepmicjhagGreatDoor
open Go.RowKit Go.Sort

/-- The text of a task, of the first k tasks of a phase, of the first i phases. -/
def tkx (r : List Int) : List UInt8 := Lib.itoa (r.getD 0 0) ++ [58] ++ Lib.itoa (r.getD 1 0) ++ [45] ++ Lib.itoa (r.getD 2 0)
def lnx (T : List (List Int)) : Nat → List UInt8
  | 0 => []
  | k + 1 => (if 0 < k then lnx T k ++ [32] else lnx T k) ++ tkx (T.getD k [])
def ptx (L : List (List (List Int))) : Nat → List UInt8
  | 0 => []
  | i + 1 => ptx L i ++ lnx (L.getD i []) (L.getD i []).length ++ [10]

end Go.Proofs.YtmggccepmicjhagGreatDoor
