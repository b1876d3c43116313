/-
  Texts that stood one behind the other, as one.
-/
import Derived.Test.YtmggccepmicjhagGreatDoorSlZAll
import Derived.Test.YtmggccepmicjhagGreatDoorRefIAll
import Derived.Test.YtmggccepmicjhagGreatDoorSlAll
import Derived.Laws.Bits64b
import Derived.Test.YtmggccepmicjhagGreatDoorRefPlacesAll
/-! What Reverse64 and TrailingZeros of package math/bits answer, as far as package ntt asks them: bits read from the other end; the place of the one bit of a power of two. -/
namespace Go.Proofs.YtmggccepmicjhagGreatDoor
open Go.RowKit
set_option maxRecDepth 100000

/-- Neighbours of s bits change places: those of the mask m and those beside them. -/
def swp (s m x : Nat) : Nat := (x / s &&& m) ||| ((x &&& m) * s % 18446744073709551616)
def swL (x : Nat) : Nat := x / 4294967296 ||| (x * 4294967296 % 18446744073709551616)
def rev64 (x : Nat) : Nat := swL (swp 65536 281470681808895 (swp 256 71777214294589695 (swp 16 1085102592571150095 (swp 4 3689348814741910323 (swp 2 6148914691236517205 x)))))
theorem swp_lt (s m x : Nat) (hm : m < 18446744073709551616) : swp s m x < 18446744073709551616 := by
  have h1 : x / s &&& m < 2 ^ 64 := Nat.and_lt_two_pow _ (by omega)
  have h2 : (x &&& m) * s % 18446744073709551616 < 2 ^ 64 := by omega
  have := Nat.or_lt_two_pow h1 h2
  unfold swp; omega
theorem swp_bits (s m x : Nat) (S M : Int) (hS : (s : Int) = S) (hM : (m : Int) = M) (hx : x < 18446744073709551616) (hm : m < 18446744073709551616) :
    bits .or .u64 (bits .and .u64 ((x : Int) / S) M) (IntKind.u64.wrap (bits .and .u64 (x : Int) M * S)) = ((swp s m x : Nat) : Int) := by
  subst hS hM
  have hd : x / s < 18446744073709551616 := Nat.lt_of_le_of_lt (Nat.div_le_self _ _) hx
  have h1 : x / s &&& m < 2 ^ 64 := Nat.and_lt_two_pow _ (by omega)
  rw [← Int.natCast_ediv, bits_and_u64_nat _ m hd hm, bits_and_u64_nat x m hx hm, ← Int.natCast_mul, IntKind.wrap_u64]
  have e : (((x &&& m) * s : Nat) : Int) % 18446744073709551616 = (((x &&& m) * s % 18446744073709551616 : Nat) : Int) := by omega
  rw [e, bits_or_u64_nat _ _ (by omega) (by omega)]; rfl
theorem swL_bits (x : Nat) (hx : x < 18446744073709551616) :
    bits .or .u64 ((x : Int) / 4294967296) (IntKind.u64.wrap ((x : Int) * 4294967296)) = ((swL x : Nat) : Int) := by
  rw [IntKind.wrap_u64, show (x : Int) / 4294967296 = ((x / 4294967296 : Nat) : Int) by omega, show (x : Int) * 4294967296 % 18446744073709551616 = ((x * 4294967296 % 18446744073709551616 : Nat) : Int) by omega,
    bits_or_u64_nat _ _ (by omega) (by omega)]; rfl

theorem bits_ReverseBytes64 (x : Nat) (hx : x < 18446744073709551616) (w : World) :
    Calls Tryz.prog 122 #[.int .u64 (x : Int)] w fun e w' => e = .returned (.int .u64 ((swL (swp 65536 281470681808895 (swp 256 71777214294589695 x)) : Nat) : Int)) ∧ w' = w := by
  have e1 := swp_bits 256 71777214294589695 x 256 71777214294589695 rfl rfl hx (by decide)
  have l1 := swp_lt 256 71777214294589695 x (by decide)
  generalize swp 256 71777214294589695 x = y at *
  have e2 := swp_bits 65536 281470681808895 y 65536 281470681808895 rfl rfl l1 (by decide)
  have l2 := swp_lt 65536 281470681808895 y (by decide)
  generalize swp 65536 281470681808895 y = z at *
  have e3 := swL_bits z l2
  generalize swL z = u at *
  clear l1 l2 hx
  go_enter Tryz.func122, Tryz.ntmps122
  go_wp2
  go_ret
  exact ⟨rfl, rfl⟩

theorem bits_Reverse64 (x : Nat) (hx : x < 18446744073709551616) (w : World) :
    Calls Tryz.prog 111 #[.int .u64 (x : Int)] w fun e w' => e = .returned (.int .u64 ((rev64 x : Nat) : Int)) ∧ w' = w := by
  unfold rev64
  have e1 := swp_bits 2 6148914691236517205 x 2 6148914691236517205 rfl rfl hx (by decide)
  have l1 := swp_lt 2 6148914691236517205 x (by decide)
  generalize swp 2 6148914691236517205 x = y at *
  have e2 := swp_bits 4 3689348814741910323 y 4 3689348814741910323 rfl rfl l1 (by decide)
  have l2 := swp_lt 4 3689348814741910323 y (by decide)
  generalize swp 4 3689348814741910323 y = z at *
  have e3 := swp_bits 16 1085102592571150095 z 16 1085102592571150095 rfl rfl l2 (by decide)
  have l3 := swp_lt 16 1085102592571150095 z (by decide)
  generalize swp 16 1085102592571150095 z = u at *
  have c := bits_ReverseBytes64 u l3
  generalize swL (swp 65536 281470681808895 (swp 256 71777214294589695 u)) = v at *
  clear l1 l2 l3 hx
  go_enter Tryz.func111, Tryz.ntmps111
  go_wp2_with (go_at_call 122; refine Calls.mono (c _) ?_; rintro e w' ⟨rfl, hw⟩; rw [hw]; clear hw)
  go_ret
  exact ⟨rfl, rfl⟩

/-- Of numbers of few bits. -/
theorem rev64_all : ((List.range 11).all fun k => (List.range (2 ^ k)).all fun i => rev64 i / 2 ^ (64 - k) == rv k i) = true := by decide +kernel
theorem rev64_rv (k i : Nat) (hk : k ≤ 10) (hi : i < 2 ^ k) : rev64 i / 2 ^ (64 - k) = rv k i := by
  have h1 := List.all_eq_true.mp rev64_all k (List.mem_range.mpr (by omega))
  have h2 := List.all_eq_true.mp h1 i (List.mem_range.mpr hi)
  exact beq_iff_eq.mp h2

def tzI (k : Nat) : Nat := 2 ^ k * 285870213051353865 % 18446744073709551616 / 288230376151711744
theorem tz_all : ((List.range 11).all fun k => decide (tzI k < 64) && (tz64.getD (tzI k) 0 == k) && ((2 ^ k &&& (18446744073709551616 - 2 ^ k)) == 2 ^ k)) = true := by decide +kernel

theorem tz_key (x a : Nat) (hx : x < 18446744073709551616) (hx0 : x ≠ 0) (hlow : x &&& (18446744073709551616 - x) = a) :
    IntKind.u64.wrap (bits .and .u64 (x : Int) (IntKind.u64.wrap (-(x : Int))) * 285870213051353865) / 288230376151711744 = ((a * 285870213051353865 % 18446744073709551616 / 288230376151711744 : Nat) : Int) := by
  have e1 : IntKind.u64.wrap (-(x : Int)) = ((18446744073709551616 - x : Nat) : Int) := by rw [IntKind.wrap_u64]; omega
  rw [e1, bits_and_u64_nat x _ hx (by omega), hlow, IntKind.wrap_u64]
  omega
set_option maxHeartbeats 1000000 in
theorem tz_core (x k q : Nat) (w : World) (hx0 : ((x : Int) == 0) = false)
    (key : IntKind.u64.wrap (bits .and .u64 (x : Int) (IntKind.u64.wrap (-(x : Int))) * 285870213051353865) / 288230376151711744 = (q : Int)) (hi : q < 64) (hk : k ≤ 10)
    (hcell : w.cell? ⟨5, q, none⟩ = some (.int .u8 (k : Int))) :
    Calls Tryz.prog 110 #[.int .u64 (x : Int)] w fun e w' => e = .returned (.int .i64 (k : Int)) ∧ w' = w := by
  go_enter Tryz.func110, Tryz.ntmps110
  go_wp2_with (simp only [key])
  go_ret
  exact ⟨rfl, rfl⟩
theorem bits_TrailingZeros (k : Nat) (hk : k ≤ 10) (w : World) (ht : Tab w) :
    Calls Tryz.prog 88 #[.int .u64 ((2 ^ k : Nat) : Int)] w fun e w' => e = .returned (.int .i64 (k : Int)) ∧ w' = w := by
  have h1 := List.all_eq_true.mp tz_all k (List.mem_range.mpr (by omega))
  simp only [Bool.and_eq_true, decide_eq_true_eq, beq_iff_eq] at h1
  obtain ⟨⟨hi, hv⟩, hand⟩ := h1
  have hcell := ht.1 _ hi
  rw [hv] at hcell
  have hx := (two_pow_bound k hk).2
  have hp : 0 < 2 ^ k := Nat.pow_pos (by decide)
  have key := tz_key (2 ^ k) (2 ^ k) (by omega) (by omega) hand
  have hx0 : (((2 ^ k : Nat) : Int) == 0) = false := by rw [beq_eq_false_iff_ne]; omega
  have c64 := tz_core (2 ^ k) k (tzI k) w hx0 key hi hk hcell
  clear key hcell hx0 hand hv ht hi hp
  generalize 2 ^ k = x at *
  go_enter Tryz.func88, Tryz.ntmps88
  go_wp2_with (go_at_call 110; refine Calls.mono c64 ?_; rintro e w' ⟨rfl, hw⟩; rw [hw]; clear hw)
  go_ret
  exact ⟨rfl, rfl⟩

end Go.Proofs.YtmggccepmicjhagGreatDoor

/-! What turned and Order of package ntt answer. -/
namespace Go.Proofs.YtmggccepmicjhagGreatDoor
open Go.RowKit
set_option maxRecDepth 100000

/-- The first m of n ints, noughts behind them. -/
def SI (n m : Nat) (f : Nat → Nat) : List Nat := (List.range m).map f ++ List.replicate (n - m) 0
theorem SI_zero (n : Nat) (f : Nat → Nat) : SI n 0 f = List.replicate n 0 := by simp [SI]
theorem SI_length {n m : Nat} (f : Nat → Nat) (h : m ≤ n) : (SI n m f).length = n := by
  unfold SI
  simp; omega
theorem SI_set {n m : Nat} (f : Nat → Nat) (h : m < n) : (SI n m f).set m (f m) = SI n (m + 1) f := by
  unfold SI
  obtain ⟨r, hr⟩ : ∃ r, n - m = r + 1 := ⟨n - m - 1, by omega⟩
  rw [hr, show n - (m + 1) = r by omega, List.set_append_right _ _ (by simp), List.length_map, List.length_range, Nat.sub_self, List.replicate_succ, List.set_cons_zero, List.range_succ, List.map_append, List.append_assoc]; rfl
theorem SI_full (n : Nat) (f : Nat → Nat) : SI n n f = (List.range n).map f := by simp [SI]

set_option maxHeartbeats 2000000 in
theorem ntt_turned (w : World) (k : Nat) (hk : k ≤ 10) :
    Calls Tryz.prog 89 #[.int .i64 (k : Int)] w fun e w' => ∃ g, e = .returned (.slice (some ⟨g, 0, none⟩) (2 ^ k) (2 ^ k)) ∧ w.heap.size ≤ g ∧ RowI w' g (ord k) ∧ Below w.heap.size w w' := by
  obtain ⟨hpow, hN9⟩ := two_pow_bound k hk
  have hrev : Hid (∀ i, i < 2 ^ k → rev64 i / 2 ^ (64 - k) = rv k i) := fun i hi => rev64_rv k i hk hi
  have hord : Hid (SI (2 ^ k) (2 ^ k) (rv k) = ord k) := SI_full _ _
  have hsub : (64 : Int) - (k : Int) = ((64 - k : Nat) : Int) := by omega
  have hlt : ∀ i, rv k i < 2 ^ k := fun i => by
    have := rvK_le k i k (Nat.le_refl _)
    rw [Nat.sub_self, Nat.pow_zero] at this
    unfold rv; omega
  generalize 2 ^ k = N at *
  have hn9 : N ≤ 1000000000 := by omega
  go_enter Tryz.func89, Tryz.ntmps89
  go_wp2_with (at_make; refine wp_makeI rfl _ _ rfl N rfl rfl hn9 ?_; intro g w2 hg hrow hb)
  have hgw : w.heap.size ≤ g := Nat.le_of_eq hg.out.symm
  clear hg
  go_loopw [10] (fun vi wr => ∃ i : Nat, i ≤ N ∧ vi = .int .i64 (i : Int) ∧ RowI wr g (SI N i (rv k)) ∧ Below w.heap.size w wr)
    (fun vi _ => N - (intOf vi).toNat)
  case atStart => exact ⟨0, Nat.zero_le _, rfl, hrow.cast (SI_zero _ _).symm, hb⟩
  case round =>
    clear hrow hb
    obtain ⟨i, hi, rfl, hrow, hnx⟩ := hrel
    by_cases hlti : i < N
    · have hc := hrow.cell i (by rw [SI_length _ hi]; exact hlti)
      have hfr := hrow.frozen i
      have hset := hrow.set i (rv k i)
      rw [SI_set _ hlti] at hset
      have hB2 := fun (u : Value) => hnx.setCell (p := ⟨g, i, none⟩) hgw u
      have cR := bits_Reverse64 i (by omega)
      have hq := hrev.out i hlti
      have hrl := hlt i
      have hsh : ((rev64 i : Nat) : Int) / 2 ^ (64 - k) = ((rv k i : Nat) : Int) := by
        rw [← hq, Int.natCast_ediv, Int.natCast_pow]; rfl
      clear hq hrev hlt
      generalize (SI N i (rv k)).getD i 0 = old at *
      generalize rev64 i = r at *
      generalize rv k i = z at *
      go_wp2_with (go_at_call 111; refine Calls.mono (cR _) ?_; rintro e w' ⟨rfl, hw⟩; rw [hw]; clear hw)
      go_roundw
      case rel => exact ⟨i + 1, by omega, by go_num, hset, hB2 _⟩
      case measure => simp only [intOf]; omega
    · have e : i = N := by omega
      subst e
      rw [hord.out] at hrow
      have hge : i ≤ i := Nat.le_refl _
      clear hrev hlt hpow hord
      go_wp2
      go_ret
      exact ⟨g, rfl, hgw, hrow, hnx⟩


end Go.Proofs.YtmggccepmicjhagGreatDoor
