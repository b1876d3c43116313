/-
  What each call of package field answers, for all numbers of 64 bits: the rest by the prime of the sum, the difference, the product, the power.
-/
import Derived.Test.YtiofpbfjnbjfladRows
import Derived.Test.YtiofpbfjnbjfladNum
import Derived.WalkKit
import Derived.WalkSpells
import Derived.WalkLawsBesides
import Derived.Lib.Mul64
import Derived.Laws.Bits64b
namespace Go.Proofs.Ytiofpbfjnbjflad
open Go.RowKit

theorem norm_ge (a : Nat) (ha : (a : Int) < 18446744073709551616) (h : (18446744069414584321 : Int) ≤ a) : ((fN a : Nat) : Int) = (a : Int) - 18446744069414584321 := by
  rw [fN_eq]; unfold P; omega
theorem norm_lt (a : Nat) (h : (a : Int) < 18446744069414584321) : ((fN a : Nat) : Int) = (a : Int) := by
  rw [fN_eq]; unfold P; omega

theorem field_Norm (a : Nat) (ha : (a : Int) < 18446744073709551616) (w : World) :
    Calls Try.prog 9 #[.int .u64 (a : Int)] w fun e w' => e = .returned (.int .u64 ((fN a : Nat) : Int)) ∧ w' = w := by
  by_cases h : (18446744069414584321 : Int) ≤ a
  · rw [norm_ge a ha h]
    go_enter Try.func9, Try.ntmps9
    go_wp2
    go_ret
    exact ⟨rfl, rfl⟩
  · have h' : (a : Int) < 18446744069414584321 := by omega
    rw [norm_lt a h']
    go_enter Try.func9, Try.ntmps9
    go_wp2
    go_ret
    exact ⟨rfl, rfl⟩

theorem add_ge (a b : Nat) (h : 18446744069414584321 - (fN b : Int) ≤ (fN a : Int)) : ((fA a b : Nat) : Int) = (fN a : Int) - (18446744069414584321 - (fN b : Int)) := by
  simp only [fA_eq, fN_eq] at *; unfold P at *; omega
theorem add_lt (a b : Nat) (h : (fN a : Int) < 18446744069414584321 - (fN b : Int)) : ((fA a b : Nat) : Int) = (fN a : Int) + (fN b : Int) := by
  simp only [fA_eq, fN_eq] at *; unfold P at *; omega

theorem field_Add (a b : Nat) (ha : (a : Int) < 18446744073709551616) (hb : (b : Int) < 18446744073709551616) (w : World) :
    Calls Try.prog 7 #[.int .u64 (a : Int), .int .u64 (b : Int)] w fun e w' => e = .returned (.int .u64 ((fA a b : Nat) : Int)) ∧ w' = w := by
  have ba := fN_lt a
  have bb := fN_lt b
  by_cases h : 18446744069414584321 - (fN b : Int) ≤ (fN a : Int)
  · rw [add_ge a b h]
    go_enter Try.func7, Try.ntmps7
    go_wp2_with (go_at_call 9; refine Calls.mono (field_Norm _ ?_ _) ?_; omega; rintro e w' ⟨rfl, hw⟩; rw [hw]; clear hw)
    go_ret
    exact ⟨rfl, rfl⟩
  · rw [add_lt a b (by omega)]
    have h' : (fN a : Int) + (fN b : Int) < 18446744069414584321 := by omega
    replace h := decide_eq_false h
    go_enter Try.func7, Try.ntmps7
    go_wp2_with (go_at_call 9; refine Calls.mono (field_Norm _ ?_ _) ?_; omega; rintro e w' ⟨rfl, hw⟩; rw [hw]; clear hw)
    go_ret
    exact ⟨rfl, rfl⟩

theorem sub_ge (a b : Nat) (h : (fN b : Int) ≤ (fN a : Int)) : ((fS a b : Nat) : Int) = (fN a : Int) - (fN b : Int) := by
  simp only [fS_eq, fN_eq] at *; unfold P at *; omega
theorem sub_lt (a b : Nat) (h : (fN a : Int) < (fN b : Int)) : ((fS a b : Nat) : Int) = 18446744069414584321 - ((fN b : Int) - (fN a : Int)) := by
  simp only [fS_eq, fN_eq] at *; unfold P at *; omega

theorem field_Sub (a b : Nat) (ha : (a : Int) < 18446744073709551616) (hb : (b : Int) < 18446744073709551616) (w : World) :
    Calls Try.prog 8 #[.int .u64 (a : Int), .int .u64 (b : Int)] w fun e w' => e = .returned (.int .u64 ((fS a b : Nat) : Int)) ∧ w' = w := by
  have ba := fN_lt a
  have bb := fN_lt b
  by_cases h : (fN b : Int) ≤ (fN a : Int)
  · rw [sub_ge a b h]
    go_enter Try.func8, Try.ntmps8
    go_wp2_with (go_at_call 9; refine Calls.mono (field_Norm _ ?_ _) ?_; omega; rintro e w' ⟨rfl, hw⟩; rw [hw]; clear hw)
    go_ret
    exact ⟨rfl, rfl⟩
  · have h' : (fN a : Int) < (fN b : Int) := by omega
    rw [sub_lt a b h']
    replace h : decide (fN b ≤ fN a) = false := decide_eq_false (by omega)
    go_enter Try.func8, Try.ntmps8
    go_wp2_with (go_at_call 9; refine Calls.mono (field_Norm _ ?_ _) ?_; omega; rintro e w' ⟨rfl, hw⟩; rw [hw]; clear hw)
    go_ret
    exact ⟨rfl, rfl⟩

/-! ### The product of two words, as two words -/
namespace Wide
theorem maskN (a : Nat) (ha : a < 18446744073709551616) : bits .and .u64 (a : Int) 4294967295 = ((a % 4294967296 : Nat) : Int) := by
  have h := bits_and_u64_nat a 4294967295 ha (by omega)
  have e : a &&& 4294967295 = a % 4294967296 := Nat.and_two_pow_sub_one_eq_mod a 32
  rw [e] at h
  exact h
theorem divN (a : Nat) : (a : Int) / 4294967296 = ((a / 4294967296 : Nat) : Int) := by omega
theorem mulN (a b : Nat) : (a : Int) * (b : Int) = ((a * b : Nat) : Int) := (Int.natCast_mul a b).symm
theorem addN (a b : Nat) : (a : Int) + (b : Int) = ((a + b : Nat) : Int) := (Int.natCast_add a b).symm
theorem wrapN (a : Nat) (ha : a < 18446744073709551616) : IntKind.u64.wrap (a : Int) = (a : Int) := by rw [IntKind.wrap_u64]; omega
theorem wrapM (a : Nat) : IntKind.u64.wrap (a : Int) = ((a % 18446744073709551616 : Nat) : Int) := by rw [IntKind.wrap_u64]; omega
end Wide

set_option maxHeartbeats 1000000 in
theorem bits_Mul64 (x y : Nat) (hx : x < 18446744073709551616) (hy : y < 18446744073709551616) (w : World) :
    Calls Try.prog 14 #[.int .u64 x, .int .u64 y] w fun e w' => e = .returned (.tuple #[.int .u64 ((x * y / 18446744073709551616 : Nat) : Int), .int .u64 ((x * y % 18446744073709551616 : Nat) : Int)]) ∧ w' = w := by
  obtain ⟨bd, bt, bw, hhi⟩ := Lib.mul64_hi x y hx hy
  have ba := Lib.half_mul_le (a := x / 4294967296) (b := y / 4294967296) (by omega) (by omega)
  have bb := Lib.half_mul_le (a := x / 4294967296) (b := y % 4294967296) (by omega) (by omega)
  have bc := Lib.half_mul_le (a := x % 4294967296) (b := y / 4294967296) (by omega) (by omega)
  have ba' : x / 4294967296 * (y / 4294967296) < 18446744073709551616 := by omega
  have bb' : x / 4294967296 * (y % 4294967296) < 18446744073709551616 := by omega
  have bc' : x % 4294967296 * (y / 4294967296) < 18446744073709551616 := by omega
  have bh1 : x / 4294967296 * (y / 4294967296) + (x / 4294967296 * (y % 4294967296) + x % 4294967296 * (y % 4294967296) / 4294967296) / 4294967296 < 18446744073709551616 := by omega
  have bh : x / 4294967296 * (y / 4294967296) + (x / 4294967296 * (y % 4294967296) + x % 4294967296 * (y % 4294967296) / 4294967296) / 4294967296 + ((x / 4294967296 * (y % 4294967296) + x % 4294967296 * (y % 4294967296) / 4294967296) % 4294967296 + x % 4294967296 * (y / 4294967296)) / 4294967296 < 18446744073709551616 := by omega
  go_enter Try.func14, Try.ntmps14
  go_wp2
  simp only [Wide.maskN x hx, Wide.maskN y hy, Wide.divN, Wide.mulN, Wide.addN, Wide.wrapN _ bd, Wide.wrapN _ bb', Wide.wrapN _ bt, Wide.maskN _ bt, Wide.wrapN _ bc', Wide.wrapN _ bw, Wide.wrapN _ ba', Wide.wrapN _ bh1, Wide.wrapN _ bh, Wide.wrapM (x * y)]
  rw [hhi]
  go_ret2
  exact ⟨rfl, rfl⟩

end Go.Proofs.Ytiofpbfjnbjflad
