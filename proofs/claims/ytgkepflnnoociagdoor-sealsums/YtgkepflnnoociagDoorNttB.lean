/-
  What Reverse64 and TrailingZeros of package math/bits answer, as far as package ntt asks them: bits read from the other end; the place of the one bit of a power of two.
-/
import Derived.Test.YtgkepflnnoociagDoorSlI
import Derived.Test.YtgkepflnnoociagDoorRefLog
import Derived.Test.YtgkepflnnoociagDoorTabD
import Derived.Laws.Bits64b
namespace Go.Proofs.YtgkepflnnoociagDoor
open Go.RowKit

/-- Neighbours of s bits change places: those of the mask m and those beside them. -/
def swp (s m x : Nat) : Nat := (x / s &&& m) ||| ((x &&& m) * s % 18446744073709551616)
def swL (x : Nat) : Nat := x / 4294967296 ||| (x * 4294967296 % 18446744073709551616)
def rev64 (x : Nat) : Nat := swL (swp 65536 281470681808895 (swp 256 71777214294589695 (swp 16 1085102592571150095 (swp 4 3689348814741910323 (swp 2 6148914691236517205 x)))))
theorem swp_lt (s m x : Nat) (hm : m < 18446744073709551616) : swp s m x < 18446744073709551616 := by
  have h1 : x / s &&& m < 2 ^ 64 := Nat.and_lt_two_pow _ (by omega)
  have h2 : (x &&& m) * s % 18446744073709551616 < 2 ^ 64 := by omega
  have := Nat.or_lt_two_pow h1 h2
  unfold swp; omega
theorem swp_bits (s m x : Nat) (S M : Int) (hS : (s : Int) = S) (hM : (m : Int) = M) (hx : x < 18446744073709551616) (hm : m < 18446744073709551616) :
    bits .or .u64 (bits .and .u64 ((x : Int) / S) M) (IntKind.u64.wrap (bits .and .u64 (x : Int) M * S)) = ((swp s m x : Nat) : Int) := by
  subst hS hM
  have hd : x / s < 18446744073709551616 := Nat.lt_of_le_of_lt (Nat.div_le_self _ _) hx
  have h1 : x / s &&& m < 2 ^ 64 := Nat.and_lt_two_pow _ (by omega)
  rw [← Int.natCast_ediv, bits_and_u64_nat _ m hd hm, bits_and_u64_nat x m hx hm, ← Int.natCast_mul, IntKind.wrap_u64]
  have e : (((x &&& m) * s : Nat) : Int) % 18446744073709551616 = (((x &&& m) * s % 18446744073709551616 : Nat) : Int) := by omega
  rw [e, bits_or_u64_nat _ _ (by omega) (by omega)]; rfl
theorem swL_bits (x : Nat) (hx : x < 18446744073709551616) :
    bits .or .u64 ((x : Int) / 4294967296) (IntKind.u64.wrap ((x : Int) * 4294967296)) = ((swL x : Nat) : Int) := by
  rw [IntKind.wrap_u64, show (x : Int) / 4294967296 = ((x / 4294967296 : Nat) : Int) by omega, show (x : Int) * 4294967296 % 18446744073709551616 = ((x * 4294967296 % 18446744073709551616 : Nat) : Int) by omega,
    bits_or_u64_nat _ _ (by omega) (by omega)]; rfl

theorem bits_ReverseBytes64 (x : Nat) (hx : x < 18446744073709551616) (w : World) :
    Calls Tryd.prog 125 #[.int .u64 (x : Int)] w fun e w' => e = .returned (.int .u64 ((swL (swp 65536 281470681808895 (swp 256 71777214294589695 x)) : Nat) : Int)) ∧ w' = w := by
  have e1 := swp_bits 256 71777214294589695 x 256 71777214294589695 rfl rfl hx (by decide)
  have l1 := swp_lt 256 71777214294589695 x (by decide)
  generalize swp 256 71777214294589695 x = y at *
  have e2 := swp_bits 65536 281470681808895 y 65536 281470681808895 rfl rfl l1 (by decide)
  have l2 := swp_lt 65536 281470681808895 y (by decide)
  generalize swp 65536 281470681808895 y = z at *
  have e3 := swL_bits z l2
  generalize swL z = u at *
  clear l1 l2 hx
  go_enter Tryd.func125, Tryd.ntmps125
  go_wp2
  go_ret
  exact ⟨rfl, rfl⟩

theorem bits_Reverse64 (x : Nat) (hx : x < 18446744073709551616) (w : World) :
    Calls Tryd.prog 115 #[.int .u64 (x : Int)] w fun e w' => e = .returned (.int .u64 ((rev64 x : Nat) : Int)) ∧ w' = w := by
  unfold rev64
  have e1 := swp_bits 2 6148914691236517205 x 2 6148914691236517205 rfl rfl hx (by decide)
  have l1 := swp_lt 2 6148914691236517205 x (by decide)
  generalize swp 2 6148914691236517205 x = y at *
  have e2 := swp_bits 4 3689348814741910323 y 4 3689348814741910323 rfl rfl l1 (by decide)
  have l2 := swp_lt 4 3689348814741910323 y (by decide)
  generalize swp 4 3689348814741910323 y = z at *
  have e3 := swp_bits 16 1085102592571150095 z 16 1085102592571150095 rfl rfl l2 (by decide)
  have l3 := swp_lt 16 1085102592571150095 z (by decide)
  generalize swp 16 1085102592571150095 z = u at *
  have c := bits_ReverseBytes64 u l3
  generalize swL (swp 65536 281470681808895 (swp 256 71777214294589695 u)) = v at *
  clear l1 l2 l3 hx
  go_enter Tryd.func115, Tryd.ntmps115
  go_wp2_with (go_at_call 125; refine Calls.mono (c _) ?_; rintro e w' ⟨rfl, hw⟩; rw [hw]; clear hw)
  go_ret
  exact ⟨rfl, rfl⟩

/-- Of numbers of few bits. -/
theorem rev64_all : ((List.range 11).all fun k => (List.range (2 ^ k)).all fun i => rev64 i / 2 ^ (64 - k) == rv k i) = true := by decide +kernel
theorem rev64_rv (k i : Nat) (hk : k ≤ 10) (hi : i < 2 ^ k) : rev64 i / 2 ^ (64 - k) = rv k i := by
  have h1 := List.all_eq_true.mp rev64_all k (List.mem_range.mpr (by omega))
  have h2 := List.all_eq_true.mp h1 i (List.mem_range.mpr hi)
  exact beq_iff_eq.mp h2

def tzI (k : Nat) : Nat := 2 ^ k * 285870213051353865 % 18446744073709551616 / 288230376151711744
theorem tz_all : ((List.range 11).all fun k => decide (tzI k < 64) && (tz64.getD (tzI k) 0 == k) && ((2 ^ k &&& (18446744073709551616 - 2 ^ k)) == 2 ^ k)) = true := by decide +kernel

theorem tz_key (x a : Nat) (hx : x < 18446744073709551616) (hx0 : x ≠ 0) (hlow : x &&& (18446744073709551616 - x) = a) :
    IntKind.u64.wrap (bits .and .u64 (x : Int) (IntKind.u64.wrap (-(x : Int))) * 285870213051353865) / 288230376151711744 = ((a * 285870213051353865 % 18446744073709551616 / 288230376151711744 : Nat) : Int) := by
  have e1 : IntKind.u64.wrap (-(x : Int)) = ((18446744073709551616 - x : Nat) : Int) := by rw [IntKind.wrap_u64]; omega
  rw [e1, bits_and_u64_nat x _ hx (by omega), hlow, IntKind.wrap_u64]
  omega
set_option maxHeartbeats 1000000 in
theorem tz_core (x k q : Nat) (w : World) (hx0 : ((x : Int) == 0) = false)
    (key : IntKind.u64.wrap (bits .and .u64 (x : Int) (IntKind.u64.wrap (-(x : Int))) * 285870213051353865) / 288230376151711744 = (q : Int)) (hi : q < 64) (hk : k ≤ 10)
    (hcell : w.cell? ⟨1, q, none⟩ = some (.int .u8 (k : Int))) :
    Calls Tryd.prog 114 #[.int .u64 (x : Int)] w fun e w' => e = .returned (.int .i64 (k : Int)) ∧ w' = w := by
  go_enter Tryd.func114, Tryd.ntmps114
  go_wp2_with (simp only [key])
  go_ret
  exact ⟨rfl, rfl⟩
theorem bits_TrailingZeros (k : Nat) (hk : k ≤ 10) (w : World) (ht : Tab w) :
    Calls Tryd.prog 94 #[.int .u64 ((2 ^ k : Nat) : Int)] w fun e w' => e = .returned (.int .i64 (k : Int)) ∧ w' = w := by
  have h1 := List.all_eq_true.mp tz_all k (List.mem_range.mpr (by omega))
  simp only [Bool.and_eq_true, decide_eq_true_eq, beq_iff_eq] at h1
  obtain ⟨⟨hi, hv⟩, hand⟩ := h1
  have hcell := ht.1 _ hi
  rw [hv] at hcell
  have hx := (two_pow_bound k hk).2
  have hp : 0 < 2 ^ k := Nat.pow_pos (by decide)
  have key := tz_key (2 ^ k) (2 ^ k) (by omega) (by omega) hand
  have hx0 : (((2 ^ k : Nat) : Int) == 0) = false := by rw [beq_eq_false_iff_ne]; omega
  have c64 := tz_core (2 ^ k) k (tzI k) w hx0 key hi hk hcell
  clear key hcell hx0 hand hv ht hi hp
  generalize 2 ^ k = x at *
  go_enter Tryd.func94, Tryd.ntmps94
  go_wp2_with (go_at_call 114; refine Calls.mono c64 ?_; rintro e w' ⟨rfl, hw⟩; rw [hw]; clear hw)
  go_ret
  exact ⟨rfl, rfl⟩

end Go.Proofs.YtgkepflnnoociagDoor
