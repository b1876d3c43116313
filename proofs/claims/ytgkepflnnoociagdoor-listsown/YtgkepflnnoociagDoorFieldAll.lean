/-
  Texts that stood one behind the other, as one.
-/
import Derived.Test.YtgkepflnnoociagDoorRows
import Derived.Test.YtgkepflnnoociagDoorPure
import Derived.WalkKit
import Derived.WalkSpells
import Derived.WalkLawsBesides
import Derived.Laws.Bits64b
import Derived.Test.YtgkepflnnoociagDoorSlAppAll
import Derived.BigQuiet
import Derived.Deep.RegionWith
/-! What each call of package field answers, for all numbers of 64 bits: the rest by the prime of the sum, the difference, the product, the power. -/
namespace Go.Proofs.YtgkepflnnoociagDoor
open Go.RowKit

theorem norm_ge (a : Nat) (ha : (a : Int) < 18446744073709551616) (h : (18446744069414584321 : Int) ≤ a) : ((fN a : Nat) : Int) = (a : Int) - 18446744069414584321 := by
  rw [fN_eq]; unfold P; omega
theorem norm_lt (a : Nat) (h : (a : Int) < 18446744069414584321) : ((fN a : Nat) : Int) = (a : Int) := by
  rw [fN_eq]; unfold P; omega

theorem field_Norm (a : Nat) (ha : (a : Int) < 18446744073709551616) (w : World) :
    Calls Tryd.prog 14 #[.int .u64 (a : Int)] w fun e w' => e = .returned (.int .u64 ((fN a : Nat) : Int)) ∧ w' = w := by
  by_cases h : (18446744069414584321 : Int) ≤ a
  · rw [norm_ge a ha h]
    go_enter Tryd.func14, Tryd.ntmps14
    go_wp2
    go_ret
    exact ⟨rfl, rfl⟩
  · have h' : (a : Int) < 18446744069414584321 := by omega
    rw [norm_lt a h']
    go_enter Tryd.func14, Tryd.ntmps14
    go_wp2
    go_ret
    exact ⟨rfl, rfl⟩

theorem add_ge (a b : Nat) (h : 18446744069414584321 - (fN b : Int) ≤ (fN a : Int)) : ((fA a b : Nat) : Int) = (fN a : Int) - (18446744069414584321 - (fN b : Int)) := by
  simp only [fA_eq, fN_eq] at *; unfold P at *; omega
theorem add_lt (a b : Nat) (h : (fN a : Int) < 18446744069414584321 - (fN b : Int)) : ((fA a b : Nat) : Int) = (fN a : Int) + (fN b : Int) := by
  simp only [fA_eq, fN_eq] at *; unfold P at *; omega

theorem field_Add (a b : Nat) (ha : (a : Int) < 18446744073709551616) (hb : (b : Int) < 18446744073709551616) (w : World) :
    Calls Tryd.prog 93 #[.int .u64 (a : Int), .int .u64 (b : Int)] w fun e w' => e = .returned (.int .u64 ((fA a b : Nat) : Int)) ∧ w' = w := by
  have ba := fN_lt a
  have bb := fN_lt b
  by_cases h : 18446744069414584321 - (fN b : Int) ≤ (fN a : Int)
  · rw [add_ge a b h]
    go_enter Tryd.func93, Tryd.ntmps93
    go_wp2_with (go_at_call 14; refine Calls.mono (field_Norm _ ?_ _) ?_; omega; rintro e w' ⟨rfl, hw⟩; rw [hw]; clear hw)
    go_ret
    exact ⟨rfl, rfl⟩
  · rw [add_lt a b (by omega)]
    have h' : (fN a : Int) + (fN b : Int) < 18446744069414584321 := by omega
    replace h := decide_eq_false h
    go_enter Tryd.func93, Tryd.ntmps93
    go_wp2_with (go_at_call 14; refine Calls.mono (field_Norm _ ?_ _) ?_; omega; rintro e w' ⟨rfl, hw⟩; rw [hw]; clear hw)
    go_ret
    exact ⟨rfl, rfl⟩

theorem sub_ge (a b : Nat) (h : (fN b : Int) ≤ (fN a : Int)) : ((fS a b : Nat) : Int) = (fN a : Int) - (fN b : Int) := by
  simp only [fS_eq, fN_eq] at *; unfold P at *; omega
theorem sub_lt (a b : Nat) (h : (fN a : Int) < (fN b : Int)) : ((fS a b : Nat) : Int) = 18446744069414584321 - ((fN b : Int) - (fN a : Int)) := by
  simp only [fS_eq, fN_eq] at *; unfold P at *; omega

theorem field_Sub (a b : Nat) (ha : (a : Int) < 18446744073709551616) (hb : (b : Int) < 18446744073709551616) (w : World) :
    Calls Tryd.prog 12 #[.int .u64 (a : Int), .int .u64 (b : Int)] w fun e w' => e = .returned (.int .u64 ((fS a b : Nat) : Int)) ∧ w' = w := by
  have ba := fN_lt a
  have bb := fN_lt b
  by_cases h : (fN b : Int) ≤ (fN a : Int)
  · rw [sub_ge a b h]
    go_enter Tryd.func12, Tryd.ntmps12
    go_wp2_with (go_at_call 14; refine Calls.mono (field_Norm _ ?_ _) ?_; omega; rintro e w' ⟨rfl, hw⟩; rw [hw]; clear hw)
    go_ret
    exact ⟨rfl, rfl⟩
  · have h' : (fN a : Int) < (fN b : Int) := by omega
    rw [sub_lt a b h']
    replace h : decide (fN b ≤ fN a) = false := decide_eq_false (by omega)
    go_enter Tryd.func12, Tryd.ntmps12
    go_wp2_with (go_at_call 14; refine Calls.mono (field_Norm _ ?_ _) ?_; omega; rintro e w' ⟨rfl, hw⟩; rw [hw]; clear hw)
    go_ret
    exact ⟨rfl, rfl⟩

/-! ### The product of two words, as two words: each number of the walk under a name of its own -/
theorem low_half (a : Nat) (ha : (a : Int) < 18446744073709551616) : bits .and .u64 (a : Int) 4294967295 = ((a % 4294967296 : Nat) : Int) := by
  rw [← Nat.and_two_pow_sub_one_eq_mod a 32]
  exact bits_and_u64_nat a 4294967295 (by omega) (by omega)
theorem high_half (a : Nat) : (a : Int) / 4294967296 = ((a / 4294967296 : Nat) : Int) := by omega
theorem fits_u64 (a : Nat) (ha : (a : Int) < 18446744073709551616) : IntKind.u64.wrap (a : Int) = (a : Int) := by
  rw [IntKind.wrap_u64]; omega

theorem mul64_walk (x y x0 x1 y0 y1 p q r s t m l : Nat) (ex : bits .and .u64 (x : Int) 4294967295 = (x0 : Int)) (ey : bits .and .u64 (y : Int) 4294967295 = (y0 : Int))
    (fx : (x : Int) / 4294967296 = (x1 : Int)) (fy : (y : Int) / 4294967296 = (y1 : Int))
    (ep : (x0 : Int) * (y0 : Int) = (p : Int)) (eq : (x1 : Int) * (y0 : Int) = (q : Int)) (er : (x0 : Int) * (y1 : Int) = (r : Int)) (es : (x1 : Int) * (y1 : Int) = (s : Int))
    (bp : (p : Int) ≤ 18446744065119617025) (bq : (q : Int) ≤ 18446744065119617025) (br : (r : Int) ≤ 18446744065119617025) (bs : (s : Int) ≤ 18446744065119617025)
    (et : (q : Int) + (p : Int) / 4294967296 = (t : Int)) (bt : (t : Int) < 18446744073709551616) (em : bits .and .u64 (t : Int) 4294967295 = (m : Int)) (bm : (m : Int) < 4294967296)
    (el : IntKind.u64.wrap ((x : Int) * (y : Int)) = (l : Int)) (w : World) :
    Calls Tryd.prog 98 #[.int .u64 (x : Int), .int .u64 (y : Int)] w fun e w' => e = .returned (.tuple #[.int .u64 ((s : Int) + (t : Int) / 4294967296 + ((m : Int) + (r : Int)) / 4294967296), .int .u64 (l : Int)]) ∧ w' = w := by
  go_enter Tryd.func98, Tryd.ntmps98
  go_wp2
  go_ret2
  exact ⟨rfl, rfl⟩

theorem school (x1 x0 y1 y0 : Nat) : (4294967296 * x1 + x0) * (4294967296 * y1 + y0) = 18446744073709551616 * (x1 * y1) + 4294967296 * (x1 * y0 + x0 * y1) + x0 * y0 := by
  grind
theorem halves_le {a b : Nat} (ha : a < 4294967296) (hb : b < 4294967296) : ((a * b : Nat) : Int) ≤ 18446744065119617025 := by
  have := Nat.mul_le_mul (show a ≤ 4294967295 by omega) (show b ≤ 4294967295 by omega)
  omega

theorem bits_Mul64 (x y : Nat) (hx : (x : Int) < 18446744073709551616) (hy : (y : Int) < 18446744073709551616) (w : World) :
    Calls Tryd.prog 98 #[.int .u64 (x : Int), .int .u64 (y : Int)] w fun e w' => e = .returned (.tuple #[.int .u64 ((x * y / 18446744073709551616 : Nat) : Int), .int .u64 ((x * y % 18446744073709551616 : Nat) : Int)]) ∧ w' = w := by
  have hp := school (x / 4294967296) (x % 4294967296) (y / 4294967296) (y % 4294967296)
  rw [Nat.div_add_mod, Nat.div_add_mod] at hp
  have bp := halves_le (a := x % 4294967296) (b := y % 4294967296) (by omega) (by omega)
  have bq := halves_le (a := x / 4294967296) (b := y % 4294967296) (by omega) (by omega)
  have br := halves_le (a := x % 4294967296) (b := y / 4294967296) (by omega) (by omega)
  have bs := halves_le (a := x / 4294967296) (b := y / 4294967296) (by omega) (by omega)
  have ep := (Int.natCast_mul (x % 4294967296) (y % 4294967296)).symm
  have eq := (Int.natCast_mul (x / 4294967296) (y % 4294967296)).symm
  have er := (Int.natCast_mul (x % 4294967296) (y / 4294967296)).symm
  have es := (Int.natCast_mul (x / 4294967296) (y / 4294967296)).symm
  have el : IntKind.u64.wrap ((x : Int) * (y : Int)) = ((x * y % 18446744073709551616 : Nat) : Int) := by
    rw [IntKind.wrap_u64, ← Int.natCast_mul]; omega
  have h := fun t m ht hb hm hb2 => mul64_walk x y _ _ _ _ _ _ _ _ t m _ (low_half x hx) (low_half y hy) (high_half x) (high_half y) ep eq er es bp bq br bs ht hb hm hb2 el w
  clear ep eq er es el
  generalize x % 4294967296 * (y % 4294967296) = p at *
  generalize x / 4294967296 * (y % 4294967296) = q at *
  generalize x % 4294967296 * (y / 4294967296) = r at *
  generalize x / 4294967296 * (y / 4294967296) = s at *
  generalize x * y = z at *
  have e : ((z / 18446744073709551616 : Nat) : Int) = (s : Int) + ((q + p / 4294967296 : Nat) : Int) / 4294967296 + (((((q + p / 4294967296) % 4294967296 : Nat) : Int)) + (r : Int)) / 4294967296 := by omega
  rw [e]
  exact h (q + p / 4294967296) ((q + p / 4294967296) % 4294967296) (by omega) (by omega) (low_half _ (by omega)) (by omega)

end Go.Proofs.YtgkepflnnoociagDoor

/-! What Mul and Pow of package field answer, for all numbers of 64 bits: the rest by the prime of the product and of the power. -/
namespace Go.Proofs.YtgkepflnnoociagDoor
open Go.RowKit

/-! ### Mul -/
theorem mul_red (x : Nat) : fA (fS (x % 18446744073709551616) (x / 18446744073709551616 / 4294967296)) (x / 18446744073709551616 % 4294967296 * 4294967295) = x % P ∨ 340282366920938463463374607431768211456 ≤ x := by
  by_cases hx : 340282366920938463463374607431768211456 ≤ x
  · exact Or.inr hx
  left
  have e : x = x % 18446744073709551616 + 18446744073709551616 * (x / 18446744073709551616 % 4294967296 + 4294967296 * (x / 18446744073709551616 / 4294967296)) := by omega
  have b1 : x / 18446744073709551616 / 4294967296 < 4294967296 := by omega
  have b0 : x / 18446744073709551616 % 4294967296 < 4294967296 := by omega
  generalize x % 18446744073709551616 = lo at *
  generalize x / 18446744073709551616 % 4294967296 = h0 at *
  generalize x / 18446744073709551616 / 4294967296 = h1 at *
  rw [fA_eq, fS_eq, Nat.mod_add_mod]
  have e1 : h1 % P = h1 := Nat.mod_eq_of_lt (by unfold P; omega)
  rw [e1]
  have e2 : x + P = lo + (P - h1) + h0 * 4294967295 + P * (h0 + h1 * 4294967297) := by
    rw [e]; unfold P; omega
  have e3 : x % P = (x + P) % P := by simp
  rw [e3, e2, Nat.add_mul_mod_self_left]

theorem mul_walk (a b hi lo h1 h0 : Nat) (c : ∀ w, Calls Tryd.prog 98 #[.int .u64 a, .int .u64 b] w fun e w' => e = .returned (.tuple #[.int .u64 (hi : Int), .int .u64 (lo : Int)]) ∧ w' = w)
    (hlo : (lo : Int) < 18446744073709551616) (e1 : (hi : Int) / 4294967296 = (h1 : Int)) (e0 : bits .and .u64 (hi : Int) 4294967295 = (h0 : Int)) (b1 : (h1 : Int) < 4294967296) (b0 : (h0 : Int) < 4294967296) (w : World) :
    Calls Tryd.prog 66 #[.int .u64 (a : Int), .int .u64 (b : Int)] w fun e w' => e = .returned (.int .u64 ((fA (fS lo h1) (h0 * 4294967295) : Nat) : Int)) ∧ w' = w := by
  have bs := fS_lt lo h1
  have cs := field_Sub lo h1 hlo (by omega)
  have ca := field_Add (fS lo h1) (h0 * 4294967295) (by omega) (by omega)
  rw [Int.natCast_mul] at ca
  have e4 : ((4294967295 : Nat) : Int) = 4294967295 := rfl
  rw [e4] at ca
  clear e4
  go_enter Tryd.func66, Tryd.ntmps66
  go_wp2_with (first
    | (go_at_call 98; refine Calls.mono (c _) ?_; rintro e w' ⟨rfl, hw⟩; rw [hw]; clear hw)
    | (go_at_call 12; refine Calls.mono (cs _) ?_; rintro e w' ⟨rfl, hw⟩; rw [hw]; clear hw)
    | (go_at_call 93; refine Calls.mono (ca _) ?_; rintro e w' ⟨rfl, hw⟩; rw [hw]; clear hw))
  go_ret
  exact ⟨rfl, rfl⟩

theorem field_Mul (a b : Nat) (ha : (a : Int) < 18446744073709551616) (hb : (b : Int) < 18446744073709551616) (w : World) :
    Calls Tryd.prog 66 #[.int .u64 (a : Int), .int .u64 (b : Int)] w fun e w' => e = .returned (.int .u64 ((fM a b : Nat) : Int)) ∧ w' = w := by
  have hlt : a * b < 340282366920938463463374607431768211456 := by
    have := Nat.mul_le_mul (show a ≤ 18446744073709551615 by omega) (show b ≤ 18446744073709551615 by omega)
    omega
  have e : fA (fS (a * b % 18446744073709551616) (a * b / 18446744073709551616 / 4294967296)) (a * b / 18446744073709551616 % 4294967296 * 4294967295) = fM a b := by
    rw [fM_eq]
    rcases mul_red (a * b) with h | h
    · exact h
    · omega
  rw [← e]
  refine mul_walk a b _ _ _ _ (bits_Mul64 a b (by omega) (by omega)) (by omega) (high_half _) (low_half _ (by omega)) (by omega) (by omega) w

/-! ### Pow -/
theorem pow_even (r s n : Nat) : r * (fM s s) ^ (n / 2) % P = r * s ^ n % P ∨ n % 2 = 1 := by
  rcases Nat.mod_two_eq_zero_or_one n with h | h
  · left
    have e : n = 2 * (n / 2) := by omega
    rw [fM_eq]
    conv => rhs; rw [e, Nat.pow_mul, Nat.pow_two]
    rw [Nat.mul_mod, ← Nat.pow_mod, ← Nat.mul_mod]
  · exact Or.inr h
theorem pow_odd (r s n : Nat) : (fM r s) * (fM s s) ^ (n / 2) % P = r * s ^ n % P ∨ n % 2 = 0 := by
  rcases Nat.mod_two_eq_zero_or_one n with h | h
  · exact Or.inr h
  · left
    have e : n = 2 * (n / 2) + 1 := by omega
    rw [fM_eq, fM_eq]
    conv => rhs; rw [e, Nat.pow_succ, Nat.pow_mul, Nat.pow_two]
    rw [Nat.mul_mod, ← Nat.pow_mod, Nat.mod_mod, ← Nat.mul_mod, Nat.mul_assoc, Nat.mul_comm s]

set_option maxHeartbeats 1000000 in
theorem field_Pow (a m : Nat) (ha : (a : Int) < 18446744073709551616) (hm : (m : Int) < 18446744073709551616) (w : World) :
    Calls Tryd.prog 95 #[.int .u64 (a : Int), .int .u64 (m : Int)] w fun e w' => e = .returned (.int .u64 ((fW a m : Nat) : Int)) ∧ w' = w := by
  go_enter Tryd.func95, Tryd.ntmps95
  go_wp2
  go_loop [1, 5, 6] (fun vn vr vs => ∃ n r s : Nat, vn = .int .u64 (n : Int) ∧ vr = .int .u64 (r : Int) ∧ vs = .int .u64 (s : Int) ∧ (n : Int) < 18446744073709551616 ∧ (r : Int) < 18446744069414584321 ∧ (s : Int) < 18446744073709551616 ∧ Hid (r * s ^ n % P = fW a m))
    (fun vn _ _ => (intOf vn).toNat)
  case atStart => exact ⟨m, 1, a, rfl, rfl, rfl, hm, by omega, ha, by rw [Nat.one_mul]; exact (fW_eq a m).symm⟩
  case round =>
    obtain ⟨n, r, s, rfl, rfl, rfl, hn, hr, hs, hinv⟩ := hrel
    have b1 := fM_lt r s
    have b2 := fM_lt s s
    rcases Nat.eq_zero_or_pos n with h0 | h0
    · subst h0
      have e : r = fW a m := by
        have := hinv.out
        rw [Nat.pow_zero, Nat.mul_one, Nat.mod_eq_of_lt (by unfold P; omega)] at this
        exact this
      subst e
      go_wp2
      go_ret
      exact ⟨rfl, rfl⟩
    · have hb := and_one_u64 (n : Int) (by omega) (by omega)
      rcases Nat.mod_two_eq_zero_or_one n with h | h
      · have h2 : (n : Int) % 2 = 0 := by omega
        rw [h2] at hb
        have hp := pow_even r s n
        rw [h] at hp
        have hp2 : Hid (r * (fM s s) ^ (n / 2) % P = fW a m) := by
          rcases hp with hp | hp
          · exact hp.trans hinv.out
          · omega
        clear hp h2
        go_wp2_with (go_at_call 66; refine Calls.mono (field_Mul _ _ ?_ ?_ _) ?_; omega; omega; rintro e w' ⟨rfl, hw⟩; rw [hw]; clear hw)
        go_round
        case rel => exact ⟨n / 2, r, fM s s, by go_num, rfl, rfl, by omega, hr, by omega, hp2⟩
        case measure => simp only [intOf]; omega
      · have h2 : (n : Int) % 2 = 1 := by omega
        rw [h2] at hb
        have hp := pow_odd r s n
        rw [h] at hp
        have hp2 : Hid ((fM r s) * (fM s s) ^ (n / 2) % P = fW a m) := by
          rcases hp with hp | hp
          · exact hp.trans hinv.out
          · omega
        clear hp h2
        go_wp2_with (go_at_call 66; refine Calls.mono (field_Mul _ _ ?_ ?_ _) ?_; omega; omega; rintro e w' ⟨rfl, hw⟩; rw [hw]; clear hw)
        go_round
        case rel => exact ⟨n / 2, fM r s, fM s s, by go_num, rfl, rfl, by omega, b1, by omega, hp2⟩
        case measure => simp only [intOf]; omega

end Go.Proofs.YtgkepflnnoociagDoor

/-! What the helpers of package poly answer: a list too large, the normal form, a multiple added, a value. -/
namespace Go.Proofs.YtgkepflnnoociagDoor
open Go.RowKit

set_option maxHeartbeats 2000000 in
theorem poly_addTimes (w : World) (g off n : Nat) (v : Value) (zs ys : List Nat) (c : Nat) (hrow : RowU w g zs) (hz : Rng zs) (h : IsU w v ys) (ha : Apart v g) (hl : off + ys.length ≤ zs.length) (hn : n = zs.length - off) (hm : zs.length ≤ 1000000000) (hc64 : (c : Int) < 18446744073709551616) :
    Calls Tryd.prog 60 #[.slice (some ⟨g, off, none⟩) n n, v, .int .u64 (c : Int)] w fun e w' => e = .returned (.tuple #[]) ∧ RowU w' g (addT zs off ys c) ∧ Bar g w w' := by
  have h0 := h
  obtain ⟨a, cap, rfl, hcap, hmax, hc, hr⟩ := h
  clear hcap hmax
  have hyn : ys.length ≤ n := by omega
  have hy9 : ys.length ≤ 1000000000 := by omega
  have hln : off + n ≤ 1000000000 := by omega
  clear hn
  go_enter Tryd.func60, Tryd.ntmps60
  go_wp2
  go_loopw [10] (fun vi wr => ∃ k : Nat, k ≤ ys.length ∧ vi = .int .i64 (k : Int) ∧ RowU wr g (addK zs off ys c k) ∧ Bar g w wr)
    (fun vi _ => ys.length - (intOf vi).toNat)
  case atStart => exact ⟨0, Nat.zero_le _, rfl, hrow, Bar.refl _ _⟩
  case round =>
    clear hrow
    obtain ⟨k, hk, rfl, hrow, hbar⟩ := hrel
    by_cases hlt : k < ys.length
    · obtain ⟨b, o', rfl, _⟩ := hc k hlt
      have hcell := (h0.bar ha hbar).cell k hlt
      have hlz : off + k < (addK zs off ys c k).length := by rw [addK_length]; omega
      have hcS := hrow.cell (off + k) hlz
      have hfr := hrow.frozen (off + k)
      have hset : Hid (∀ m : Nat, RowU ((wr.drewN m).setCell ⟨g, off + k, none⟩ (.int .u64 ((fA ((addK zs off ys c k).getD (off + k) 0) (fM (ys.getD k 0) c) : Nat) : Int))) g (addK zs off ys c (k + 1))) := fun m => (hrow.drewN m).set (off + k) _
      have x1 := range_getD hr k
      have x2 := range_getD (addK_rng zs off ys c k hz) (off + k)
      have c1 := field_Mul (ys.getD k 0) c x1 hc64
      have c2 := field_Add ((addK zs off ys c k).getD (off + k) 0) (fM (ys.getD k 0) c) x2 (by have := fM_lt (ys.getD k 0) c; omega)
      have hkn : k < n := by omega
      clear x1 x2 hlz hc hr h0 ha hz hc64
      generalize fA ((addK zs off ys c k).getD (off + k) 0) (fM (ys.getD k 0) c) = z at *
      generalize fM (ys.getD k 0) c = p at *
      generalize (addK zs off ys c k).getD (off + k) 0 = old at *
      generalize ys.getD k 0 = y at *
      go_wp2
      go_region_with (first
        | (go_at_call 66; refine Calls.mono (c1 _) ?_; rintro e w' ⟨rfl, hw⟩; rw [hw]; clear hw)
        | (go_at_call 93; refine Calls.mono (c2 _) ?_; rintro e w' ⟨rfl, hw⟩; rw [hw]; clear hw))
      all_goals
        clear hcell hcS hfr hrow
        go_wp2
        go_roundw
        case rel => exact ⟨k + 1, by omega, by go_num, hset.out 1, (hbar.drewN 1).setCell _ _⟩
        case measure => simp only [intOf]; omega
    · have e : k = ys.length := by omega
      subst e
      have hge : ys.length ≤ ys.length := Nat.le_refl _
      clear hc hr h0
      go_wp2
      go_end0
      exact ⟨rfl, hrow, hbar⟩

set_option maxHeartbeats 2000000 in
theorem poly_valueAt (w : World) (v : Value) (xs : List Nat) (x : Nat) (h : IsU w v xs) (hl : xs.length ≤ 1000000000) (hx : (x : Int) < 18446744073709551616) :
    Calls Tryd.prog 92 #[v, .int .u64 (x : Int)] w fun e w' => e = .returned (.int .u64 ((pE xs x : Nat) : Int)) ∧ ∃ m, w' = w.drewN m := by
  obtain ⟨a, cap, rfl, hcap, hmax, hc, hr⟩ := h
  clear hcap hmax
  go_enter Tryd.func92, Tryd.ntmps92
  go_wp2
  go_loopw [5, 6] (fun vo vi wr => ∃ (z : Int) (j : Nat), j ≤ xs.length ∧ z = (j : Int) - 1 ∧ vi = .int .i64 z ∧ vo = .int .u64 ((hv xs x j : Nat) : Int) ∧ Hid (∃ m, wr = w.drewN m))
    (fun _ vi _ => (intOf vi + 1).toNat)
  case atStart => exact ⟨_, xs.length, Nat.le_refl _, rfl, rfl, by rw [hv_end]; rfl, ⟨0, rfl⟩⟩
  case round =>
    obtain ⟨z, j, hj, hz, rfl, rfl, hq⟩ := hrel
    rcases Nat.eq_zero_or_pos j with hj0 | hj0
    · have e : z = -1 := by omega
      subst e
      subst hj0
      rw [hv_zero]
      clear hc hz
      go_wp2
      go_ret
      exact ⟨rfl, hq.out⟩
    · obtain ⟨i, rfl⟩ : ∃ i, j = i + 1 := ⟨j - 1, by omega⟩
      have e : z = (i : Int) := by omega
      subst e
      have hil : i < xs.length := by omega
      obtain ⟨b, off, rfl, hcell0⟩ := hc i hil
      have hcell : wr.cell? ⟨b, off + i, none⟩ = some (.int .u64 ((xs.getD i 0 : Nat) : Int)) := by obtain ⟨m, rfl⟩ := hq.out; exact hcell0
      clear hcell0
      have x1 := range_getD hr i
      have c1 := field_Mul (hv xs x (i + 1)) x (by have := hv_lt xs x (i + 1); omega) hx
      have c2 := field_Add (fM (hv xs x (i + 1)) x) (xs.getD i 0) (by have := fM_lt (hv xs x (i + 1)) x; omega) x1
      rw [hv_step xs x i hil] at c2
      clear hc hr x1 hx hz hj hj0
      generalize fM (hv xs x (i + 1)) x = p at *
      generalize xs.getD i 0 = y at *
      generalize hv xs x (i + 1) = q at *
      go_wp2
      go_quiet (first | (go_at_call 66; exact Calls.quiet_of_same (c1 _)) | (go_at_call 93; exact Calls.quiet_of_same (c2 _)))
      go_wp2
      go_roundw
      case rel => exact ⟨_, i, by omega, rfl, by go_num, rfl, by obtain ⟨m, rfl⟩ := hq.out; exact ⟨m + _, World.drewN_drewN _ _ _⟩⟩
      case measure => simp only [intOf]; omega

set_option maxHeartbeats 2000000 in
theorem poly_normal (w : World) (v : Value) (xs : List Nat) (h : IsU w v xs) (hl : xs.length ≤ 1000000000) :
    Calls Tryd.prog 59 #[v] w fun e w' => e = .returned (.slice (some ⟨w.heap.size, 0, none⟩) (sig xs) (sig xs)) ∧ RowU w' w.heap.size (pN xs) ∧ Below w.heap.size w w' := by
  obtain ⟨a, cap, rfl, hcap, hmax, hc, hr⟩ := h
  clear hcap hmax
  go_enter Tryd.func59, Tryd.ntmps59
  go_wp2
  go_loop [3] (fun vi => ∃ s : Nat, s ≤ xs.length ∧ vi = .int .i64 (s : Int) ∧ Hid (sig (xs.take s) = sig xs))
    (fun vi => (intOf vi).toNat)
  case atStart => exact ⟨xs.length, Nat.le_refl _, rfl, by show sig (xs.take xs.length) = sig xs; rw [List.take_length]⟩
  case round =>
    obtain ⟨s, hs, rfl, hsig⟩ := hrel
    by_cases hend : s = sig xs
    · have hst : s = 0 ∨ ∃ t, s = t + 1 ∧ t < xs.length ∧ fN (xs.getD t 0) ≠ 0 := by
        rcases Nat.eq_zero_or_pos s with h0 | h0
        · exact .inl h0
        · refine .inr ⟨s - 1, by omega, by omega, fun h => ?_⟩
          have := sig_step xs (s - 1) (by omega)
          rw [show s - 1 + 1 = s by omega, hsig.out, if_pos h] at this
          have h2 := sig_le (xs.take (s - 1))
          rw [List.length_take] at h2
          omega
      have hpn : Hid (∀ n, n = s → mk n (cf xs) = pN xs) := fun n hn => by rw [pN_mk, hn, hend]
      have hsg : Hid (sig xs = s) := hend.symm
      clear hsig hend
      have hs9 : s ≤ 1000000000 := by omega
      rcases hst with hs0 | ⟨t, hst, htl, hne⟩
      · subst hs0
        go_wp2_with (at_make; refine wp_makeR rfl _ _ rfl 0 rfl rfl hs9 ?_; intro w1 hrow hb1)
        go_loopw [25] (fun vi wr => ∃ k : Nat, k ≤ 0 ∧ vi = .int .i64 (k : Int) ∧ RowU wr w.heap.size (SL (0) k (cf xs)) ∧ Below w.heap.size w wr)
          (fun vi _ => 0 - (intOf vi).toNat)
        case atStart => exact ⟨0, Nat.zero_le _, rfl, hrow.cast (SL_zero _ _).symm, hb1⟩
        case round =>
          clear hrow hb1
          obtain ⟨k, hk, rfl, hrow, hnx⟩ := hrel
          have hsz := hnx.size
          obtain rfl : k = 0 := by omega
          rw [SL_full, hpn.out _ rfl] at hrow
          clear hc hr
          go_wp2
          go_ret
          exact ⟨by rw [hsg.out]; rfl, hrow, hnx⟩
      · subst hst
        obtain ⟨b, off, rfl, hcell⟩ := hc t htl
        have c1 := field_Norm (xs.getD t 0) (range_getD hr t)
        have hd : ((fN (xs.getD t 0) : Int) == 0) = false := by rw [beq_eq_false_iff_ne]; omega
        have hs9' : (t + 1 : Nat) ≤ 1000000000 := by omega
        clear hne
        generalize xs.getD t 0 = y at *
        go_wp2_with (first
          | (go_at_call 14; refine Calls.mono (c1 _) ?_; rintro e w' ⟨rfl, hw⟩; rw [hw]; clear hw)
          | (at_make; refine wp_makeR rfl _ _ rfl (t + 1) rfl rfl hs9' ?_; intro w1 hrow hb1))
        go_loopw [25] (fun vi wr => ∃ k : Nat, k ≤ t + 1 ∧ vi = .int .i64 (k : Int) ∧ RowU wr w.heap.size (SL (t + 1) k (cf xs)) ∧ Below w.heap.size w wr)
          (fun vi _ => t + 1 - (intOf vi).toNat)
        case atStart => exact ⟨0, Nat.zero_le _, rfl, hrow.cast (SL_zero _ _).symm, hb1⟩
        case round =>
          clear hrow hb1
          obtain ⟨k, hk, rfl, hrow, hnx⟩ := hrel
          have hsz := hnx.size
          by_cases hlt : k < t + 1
          · obtain ⟨b2, off2, he2, hcell2⟩ := hc k (by omega)
            simp only [Option.some.injEq, Addr.mk.injEq, and_true] at he2
            obtain ⟨rfl, rfl⟩ := he2
            have hcellk := (hnx.cell (block_lt hcell2)).trans hcell2
            have hlz : k < (SL (t + 1) k (cf xs)).length := by rw [SL_length _ hk]; exact hlt
            have hcS := hrow.cell k hlz
            have hfr := hrow.frozen k
            have hset := hrow.set k (cf xs k).val
            rw [SL_set _ hlt] at hset
            have c2 := field_Norm (xs.getD k 0) (range_getD hr k)
            rw [fN_val, show toF (xs.getD k 0) = cf xs k from rfl] at c2
            have hB2 := fun (u : Value) => hnx.setCell (p := ⟨w.heap.size, k, none⟩) (Nat.le_refl _) u
            clear hcell2 hlz hc hr hcell c1 hd
            generalize (SL (t + 1) k (cf xs)).getD k 0 = old at *
            generalize (cf xs k).val = z at *
            generalize xs.getD k 0 = y2 at *
            go_wp2_with (go_at_call 14; refine Calls.mono (c2 _) ?_; rintro e w' ⟨rfl, hw⟩; rw [hw]; clear hw)
            clear hcellk hcS hfr hrow
            go_roundw
            case rel => exact ⟨k + 1, by omega, by go_num, hset, hB2 _⟩
            case measure => simp only [intOf]; omega
          · have e : k = t + 1 := by omega
            rw [e, SL_full, hpn.out _ rfl] at hrow
            have hge : t + 1 ≤ k := by omega
            clear e hc hr hcell c1 hd
            go_wp2
            go_ret
            exact ⟨by rw [hsg.out]; rfl, hrow, hnx⟩
    · have hpos : s ≠ 0 := fun e => by
        subst e
        have := hsig.out
        simp [sig] at this
        exact hend this
      obtain ⟨t, rfl⟩ : ∃ t, s = t + 1 := ⟨s - 1, by omega⟩
      obtain ⟨b, off, rfl, hcell⟩ := hc t (by omega)
      have hst := sig_step xs t (by omega)
      rw [hsig.out] at hst
      by_cases hy : fN (xs.getD t 0) = 0
      · rw [if_pos hy] at hst
        have hst' : Hid (sig (xs.take t) = sig xs) := hst.symm
        have c1 := field_Norm (xs.getD t 0) (range_getD hr t)
        have hd : ((fN (xs.getD t 0) : Int) == 0) = true := by rw [beq_iff_eq]; omega
        clear hst hsig hend hpos hy hc hr
        generalize xs.getD t 0 = y at *
        go_wp2_with (go_at_call 14; refine Calls.mono (c1 _) ?_; rintro e w' ⟨rfl, hw⟩; rw [hw]; clear hw)
        go_round
        case rel => exact ⟨t, by omega, by go_num, hst'⟩
        case measure => simp only [intOf]; omega
      · rw [if_neg hy] at hst
        omega

set_option maxHeartbeats 2000000 in
theorem poly_anyLarge (w : World) (g n : Nat) (lens : List Nat) (h : ∀ i, i < n → ∃ a c, w.cell? ⟨g, i, none⟩ = some (.slice a (lens.getD i 0) c)) (hm : ∀ i, i < n → lens.getD i 0 ≤ 2048) (hn9 : n ≤ 2) :
    Calls Tryd.prog 58 #[.slice (some ⟨g, 0, none⟩) n n] w fun e w' => e = .returned (.bool false) ∧ w' = w := by
  go_enter Tryd.func58, Tryd.ntmps58
  go_wp2
  go_loop [7] (fun vi => ∃ k : Nat, k ≤ n ∧ vi = .int .i64 (k : Int)) (fun vi => n - (intOf vi).toNat)
  case atStart => exact ⟨0, Nat.zero_le _, rfl⟩
  case round =>
    obtain ⟨k, hk, rfl⟩ := hrel
    by_cases hlt : k < n
    · obtain ⟨a, c, hcell⟩ := h k hlt
      have hle := hm k hlt
      clear h hm
      generalize lens.getD k 0 = l at *
      go_wp2
      go_round
      case rel => exact ⟨k + 1, by omega, by go_num⟩
      case measure => simp only [intOf]; omega
    · have e : k = n := by omega
      subst e
      clear h hm
      go_wp2
      go_ret
      exact ⟨rfl, rfl⟩
set_option maxHeartbeats 2000000 in
theorem poly_anyLarge_yes (w : World) (g n : Nat) (lens : List Nat) (h : ∀ i, i < n → ∃ a c, w.cell? ⟨g, i, none⟩ = some (.slice a (lens.getD i 0) c)) (hm : ∃ i, i < n ∧ 2048 < lens.getD i 0) (hn9 : n ≤ 2) (hb : ∀ i, lens.getD i 0 ≤ 9223372036854775807) :
    Calls Tryd.prog 58 #[.slice (some ⟨g, 0, none⟩) n n] w fun e w' => e = .returned (.bool true) ∧ w' = w := by
  obtain ⟨i0, hi0, hl0⟩ := hm
  go_enter Tryd.func58, Tryd.ntmps58
  go_wp2
  go_loop [7] (fun vi => ∃ k : Nat, k ≤ i0 ∧ vi = .int .i64 (k : Int)) (fun vi => n - (intOf vi).toNat)
  case atStart => exact ⟨0, Nat.zero_le _, rfl⟩
  case round =>
    obtain ⟨k, hk, rfl⟩ := hrel
    obtain ⟨a, c, hcell⟩ := h k (by omega)
    have hlt : k < n := by omega
    have hbk := hb k
    by_cases hle : lens.getD k 0 ≤ 2048
    · have hne : k ≠ i0 := fun e => by subst e; omega
      clear h hb hl0
      generalize lens.getD k 0 = l at *
      go_wp2
      go_round
      case rel => exact ⟨k + 1, by omega, by go_num⟩
      case measure => simp only [intOf]; omega
    · have hgt : 2048 < lens.getD k 0 := by omega
      clear h hb hl0 hle
      generalize lens.getD k 0 = l at *
      go_wp2
      go_ret
      exact ⟨rfl, rfl⟩

end Go.Proofs.YtgkepflnnoociagDoor

/-! What Norm, Add, Mul and Eval of package poly answer. -/
namespace Go.Proofs.YtgkepflnnoociagDoor
open Go.RowKit

theorem cell_new (w : World) (c : Array Value) (t i : Nat) (v : Value) (h : c[i]? = some v) : (w.alloc (.cells c t)).cell? ⟨w.heap.size, i, none⟩ = some v := by
  have e : (w.alloc (.cells c t)).heap[w.heap.size]? = some (.cells c t) := by
    show (w.heap.push _)[w.heap.size]? = _
    simp
  simp only [World.cell?, e]
  rw [h]; rfl
theorem len_le {w : World} {v : Value} {xs : List Nat} (h : IsU w v xs) : xs.length ≤ 9223372036854775807 := by
  obtain ⟨a, cap, rfl, h1, h2, _⟩ := h
  unfold maxLen at h2; omega
theorem any1 {w : World} {v : Value} {xs : List Nat} (t : Nat) (h : IsU w v xs) (hl : xs.length ≤ 2048) :
    Calls Tryd.prog 58 #[.slice (some ⟨w.heap.size, 0, none⟩) 1 1] (w.alloc (.cells #[v] t)) fun e w' => e = .returned (.bool false) ∧ w' = w.alloc (.cells #[v] t) := by
  obtain ⟨a, cap, rfl, _⟩ := h
  refine poly_anyLarge _ _ 1 [xs.length] (fun i hi => ⟨a, cap, ?_⟩) (fun i hi => ?_) (by omega)
  · obtain rfl : i = 0 := by omega
    exact cell_new _ _ _ _ _ rfl
  · obtain rfl : i = 0 := by omega
    exact hl
theorem any1_yes {w : World} {v : Value} {xs : List Nat} (t : Nat) (h : IsU w v xs) (hl : 2048 < xs.length) :
    Calls Tryd.prog 58 #[.slice (some ⟨w.heap.size, 0, none⟩) 1 1] (w.alloc (.cells #[v] t)) fun e w' => e = .returned (.bool true) ∧ w' = w.alloc (.cells #[v] t) := by
  have hb := len_le h
  obtain ⟨a, cap, rfl, _⟩ := h
  refine poly_anyLarge_yes _ _ 1 [xs.length] (fun i hi => ⟨a, cap, ?_⟩) ⟨0, by omega, hl⟩ (by omega) (fun i => ?_)
  · obtain rfl : i = 0 := by omega
    exact cell_new _ _ _ _ _ rfl
  · match i with
    | 0 => exact hb
    | i + 1 => simp
theorem any2 {w : World} {v v' : Value} {xs ys : List Nat} (t : Nat) (h : IsU w v xs) (h' : IsU w v' ys) (hl : xs.length ≤ 2048) (hl' : ys.length ≤ 2048) :
    Calls Tryd.prog 58 #[.slice (some ⟨w.heap.size, 0, none⟩) 2 2] (w.alloc (.cells #[v, v'] t)) fun e w' => e = .returned (.bool false) ∧ w' = w.alloc (.cells #[v, v'] t) := by
  obtain ⟨a, cap, rfl, _⟩ := h
  obtain ⟨a', cap', rfl, _⟩ := h'
  refine poly_anyLarge _ _ 2 [xs.length, ys.length] (fun i hi => ?_) (fun i hi => ?_) (by omega)
  · match i, hi with
    | 0, _ => exact ⟨a, cap, cell_new _ _ _ _ _ rfl⟩
    | 1, _ => exact ⟨a', cap', cell_new _ _ _ _ _ rfl⟩
  · match i, hi with
    | 0, _ => exact hl
    | 1, _ => exact hl'
theorem any2_yes {w : World} {v v' : Value} {xs ys : List Nat} (t : Nat) (h : IsU w v xs) (h' : IsU w v' ys) (hl : 2048 < xs.length ∨ 2048 < ys.length) :
    Calls Tryd.prog 58 #[.slice (some ⟨w.heap.size, 0, none⟩) 2 2] (w.alloc (.cells #[v, v'] t)) fun e w' => e = .returned (.bool true) ∧ w' = w.alloc (.cells #[v, v'] t) := by
  have hb := len_le h
  have hb' := len_le h'
  obtain ⟨a, cap, rfl, _⟩ := h
  obtain ⟨a', cap', rfl, _⟩ := h'
  refine poly_anyLarge_yes _ _ 2 [xs.length, ys.length] (fun i hi => ?_) ?_ (by omega) (fun i => ?_)
  · match i, hi with
    | 0, _ => exact ⟨a, cap, cell_new _ _ _ _ _ rfl⟩
    | 1, _ => exact ⟨a', cap', cell_new _ _ _ _ _ rfl⟩
  · rcases hl with hl | hl
    · exact ⟨0, by omega, hl⟩
    · exact ⟨1, by omega, hl⟩
  · match i with
    | 0 => exact hb
    | 1 => exact hb'
    | i + 2 => simp
theorem pN_rng (xs : List Nat) : Rng (pN xs) := Rng_of_P (pN_lt xs)
theorem normal_U (w : World) (v : Value) (xs : List Nat) (h : IsU w v xs) (hl : xs.length ≤ 1000000000) :
    Calls Tryd.prog 59 #[v] w fun e w' => ∃ u, e = .returned u ∧ IsU w' u (pN xs) ∧ Below w.heap.size w w' := by
  refine (poly_normal w v xs h hl).mono ?_
  rintro e w' ⟨rfl, hrow, hb⟩
  exact ⟨_, rfl, hrow.isUN (pN_rng xs) (by rw [pN_length]; have := sig_le xs; omega) (pN_length xs), hb⟩

set_option maxHeartbeats 1000000 in
theorem poly_Norm_ok (w : World) (v : Value) (xs : List Nat) (h : IsU w v xs) (hl : xs.length ≤ 2048) :
    Calls Tryd.prog 20 #[v] w fun e w' => ∃ u0, e = .returned (.tuple #[u0, .int .i64 0]) ∧ IsU w' u0 (pN xs) ∧ Below w.heap.size w w' := by
  have hl9 : xs.length ≤ 1000000000 := by omega
  have h0 := h
  obtain ⟨a, cap, rfl, -⟩ := h
  go_enter Tryd.func20, Tryd.ntmps20
  go_wp2_with (first
    | (go_at_call 58; refine Calls.mono (any1 _ h0 hl) ?_; rintro e w1 ⟨rfl, hw⟩; rw [hw]; clear hw)
    | (go_at_call 59; refine Calls.mono (normal_U _ _ xs (h0.below (below_alloc1 _ _)) hl9) ?_; rintro e w2 ⟨u, rfl, hU, hb⟩))
  go_ret2
  exact ⟨_, rfl, hU, below_alloc hb⟩

set_option maxHeartbeats 1000000 in
theorem poly_Norm_large (w : World) (v : Value) (xs : List Nat) (h : IsU w v xs) (hl : 2048 < xs.length) :
    Calls Tryd.prog 20 #[v] w fun e w' => ∃ u0, e = .returned (.tuple #[u0, .int .i64 2]) ∧ IsU w' u0 [] ∧ Below w.heap.size w w' := by
  have h0 := h
  obtain ⟨a, cap, rfl, -⟩ := h
  go_enter Tryd.func20, Tryd.ntmps20
  go_wp2_with (go_at_call 58; refine Calls.mono (any1_yes _ h0 hl) ?_; rintro e w1 ⟨rfl, hw⟩; rw [hw]; clear hw)
  go_ret2
  exact ⟨_, rfl, IsU.nil _, below_alloc1 _ _⟩

set_option maxHeartbeats 1000000 in
theorem poly_Eval_ok (w : World) (v : Value) (xs : List Nat) (x : Nat) (h : IsU w v xs) (hl : xs.length ≤ 2048) (hx : (x : Int) < 18446744073709551616) :
    Calls Tryd.prog 56 #[v, .int .u64 (x : Int)] w fun e w' => e = .returned (.tuple #[.int .u64 ((pE xs x : Nat) : Int), .int .i64 0]) ∧ Below w.heap.size w w' := by
  have hl9 : xs.length ≤ 1000000000 := by omega
  have cV := fun (W : World) (hU : IsU W v xs) => poly_valueAt W v xs x hU hl9 hx
  clear hx
  have h0 := h
  obtain ⟨a, cap, rfl, -⟩ := h
  go_enter Tryd.func56, Tryd.ntmps56
  go_wp2_with (first
    | (go_at_call 58; refine Calls.mono (any1 _ h0 hl) ?_; rintro e w1 ⟨rfl, hw⟩; rw [hw]; clear hw)
    | (go_at_call 92; refine Calls.mono (cV _ (h0.below (below_alloc1 _ _))) ?_; rintro e w2 ⟨rfl, hw⟩))
  go_ret2
  obtain ⟨m, rfl⟩ := hw
  exact ⟨rfl, below_drewN (below_alloc1 _ _) _⟩

set_option maxHeartbeats 1000000 in
theorem poly_Eval_large (w : World) (v : Value) (xs : List Nat) (x : Nat) (h : IsU w v xs) (hl : 2048 < xs.length) :
    Calls Tryd.prog 56 #[v, .int .u64 (x : Int)] w fun e w' => e = .returned (.tuple #[.int .u64 0, .int .i64 2]) ∧ Below w.heap.size w w' := by
  have h0 := h
  obtain ⟨a, cap, rfl, -⟩ := h
  go_enter Tryd.func56, Tryd.ntmps56
  go_wp2_with (go_at_call 58; refine Calls.mono (any1_yes _ h0 hl) ?_; rintro e w1 ⟨rfl, hw⟩; rw [hw]; clear hw)
  go_ret2
  exact ⟨rfl, below_alloc1 _ _⟩

end Go.Proofs.YtgkepflnnoociagDoor

/-! What Add and Mul of package poly answer. -/
namespace Go.Proofs.YtgkepflnnoociagDoor
open Go.RowKit

set_option maxHeartbeats 1000000 in
theorem poly_Add_large (w : World) (v v' : Value) (xs ys : List Nat) (h : IsU w v xs) (h' : IsU w v' ys) (hl : 2048 < xs.length ∨ 2048 < ys.length) :
    Calls Tryd.prog 21 #[v, v'] w fun e w' => ∃ u0, e = .returned (.tuple #[u0, .int .i64 2]) ∧ IsU w' u0 [] ∧ Below w.heap.size w w' := by
  have h0 := h
  obtain ⟨a, cap, rfl, -⟩ := h
  have h0' := h'
  obtain ⟨a', cap', rfl, -⟩ := h'
  go_enter Tryd.func21, Tryd.ntmps21
  go_wp2_with (go_at_call 58; refine Calls.mono (any2_yes _ h0 h0' hl) ?_; rintro e w1 ⟨rfl, hw⟩; rw [hw]; clear hw)
  go_ret2
  exact ⟨_, rfl, IsU.nil _, below_alloc1 _ _⟩

set_option maxHeartbeats 1000000 in
theorem poly_Mul_large (w : World) (v v' : Value) (xs ys : List Nat) (h : IsU w v xs) (h' : IsU w v' ys) (hl : 2048 < xs.length ∨ 2048 < ys.length) :
    Calls Tryd.prog 22 #[v, v'] w fun e w' => ∃ u0, e = .returned (.tuple #[u0, .int .i64 2]) ∧ IsU w' u0 [] ∧ Below w.heap.size w w' := by
  have h0 := h
  obtain ⟨a, cap, rfl, -⟩ := h
  have h0' := h'
  obtain ⟨a', cap', rfl, -⟩ := h'
  go_enter Tryd.func22, Tryd.ntmps22
  go_wp2_with (go_at_call 58; refine Calls.mono (any2_yes _ h0 h0' hl) ?_; rintro e w1 ⟨rfl, hw⟩; rw [hw]; clear hw)
  go_ret2
  exact ⟨_, rfl, IsU.nil _, below_alloc1 _ _⟩

set_option maxHeartbeats 1000000 in
theorem poly_Add_ok (w : World) (v v' : Value) (xs ys : List Nat) (h : IsU w v xs) (h' : IsU w v' ys) (hl : xs.length ≤ 2048) (hl' : ys.length ≤ 2048) :
    Calls Tryd.prog 21 #[v, v'] w fun e w' => ∃ u0, e = .returned (.tuple #[u0, .int .i64 0]) ∧ IsU w' u0 (pN (pS xs ys)) ∧ Below w.heap.size w w' := by
  have h0 := h
  obtain ⟨a, cap, rfl, -⟩ := h
  have h0' := h'
  obtain ⟨a', cap', rfl, -⟩ := h'
  by_cases hmx : xs.length < ys.length
  · have hY := h0'
    have hn9 : ys.length ≤ 1000000000 := by omega
    have hxn : xs.length ≤ ys.length := by omega
    have hyn : ys.length ≤ ys.length := by omega
    have hll : (lay (List.replicate ys.length 0) 0 xs).length = ys.length := by rw [lay_length (by rw [List.length_replicate]; omega), List.length_replicate]
    have hrg : Rng (lay (List.replicate ys.length 0) 0 xs) := lay_rng (Rng_replicate _) h0.range
    have hres : Hid (pN (addT (lay (List.replicate ys.length 0) 0 xs) 0 ys 1) = pN (pS xs ys)) := pN_ext fun i => by
      rw [cf_pS, cf_addT _ _ _ _ (by rw [hll]; omega), if_pos (Nat.zero_le _), lay_zeros _ _ hxn, Nat.sub_zero, toF_one]; grind
    have cT : ∀ (W : World) (g : Nat), RowU W g (lay (List.replicate ys.length 0) 0 xs) → IsU W (.slice a' ys.length cap') ys → Apart (.slice a' ys.length cap') g → Calls Tryd.prog 60 #[.slice (some ⟨g, 0, none⟩) ys.length ys.length, .slice a' ys.length cap', .int .u64 1] W fun e w' => e = .returned (.tuple #[]) ∧ RowU w' g (addT (lay (List.replicate ys.length 0) 0 xs) 0 ys 1) ∧ Bar g W w' :=
      fun W g h1 h2 h3 => poly_addTimes W g 0 ys.length _ _ ys 1 h1 hrg h2 h3 (by rw [hll]; omega) (by rw [hll]; rfl) (by rw [hll]; omega) (by decide)
    have hll2 : (addT (lay (List.replicate ys.length 0) 0 xs) 0 ys 1).length = ys.length := by rw [addT_length, hll]
    have hrg2 : Rng (addT (lay (List.replicate ys.length 0) 0 xs) 0 ys 1) := addK_rng _ _ _ _ _ hrg
    have cN : ∀ (W : World) (g : Nat), RowU W g (addT (lay (List.replicate ys.length 0) 0 xs) 0 ys 1) → Calls Tryd.prog 59 #[.slice (some ⟨g, 0, none⟩) ys.length ys.length] W fun e w' => ∃ u, e = .returned u ∧ IsU w' u (pN (addT (lay (List.replicate ys.length 0) 0 xs) 0 ys 1)) ∧ Below W.heap.size W w' :=
      fun W g h1 => normal_U W _ _ (h1.isUN hrg2 (by omega) hll2) (by omega)
    have hof : 0 + ys.length ≤ (List.replicate ys.length 0).length := by simp
    clear hll hrg hll2 hrg2
    go_enter Tryd.func21, Tryd.ntmps21
    go_wp2_with (first
      | (go_at_call 58; refine Calls.mono (any2 _ h0 h0' hl hl') ?_; rintro e w1 ⟨rfl, hw⟩; have hW : Below w.heap.size w w1 := (by rw [hw]; exact below_alloc1 _ _); clear hw; replace h0 := h0.below hW; replace h0' := h0'.below hW)
      | (at_make; refine wp_makeG rfl _ _ rfl ys.length rfl rfl hn9 ?_; intro g w2 hg hrow hb; have hA := h0'.apart (Nat.le_of_eq hg.out.symm); have hgw : w.heap.size ≤ g := (by rw [hg.out]; exact hW.size); clear hg; replace h0 := h0.below hb; replace h0' := h0'.below hb; replace hW := hW.trans (hb.mono hW.size); clear hb)
      | (refine wp_copyR rfl _ _ rfl g 0 ys.length ys.length _ (List.replicate ys.length 0) xs rfl rfl h0 hrow hof hxn hW hgw ?_; intro w3 z hrow3 hb; clear hrow; replace hW := hb; replace h0' := hY.below hb; clear hb h0)
      | (go_at_call 60; refine Calls.mono (cT _ g hrow3 h0' hA) ?_; rintro e w4 ⟨rfl, hrow4, hbar⟩; replace hW := Bar.fresh hW hgw hbar; clear hbar hrow3)
      | (go_at_call 59; refine Calls.mono (cN _ g hrow4) ?_; rintro e w5 ⟨u, rfl, hU, hb⟩; replace hW := hW.trans (hb.mono hW.size); clear hb hrow4))
    go_ret2
    exact ⟨_, rfl, hU.cast hres.out, hW⟩
  · have hY := h0'
    have hn9 : xs.length ≤ 1000000000 := by omega
    have hxn : xs.length ≤ xs.length := by omega
    have hyn : ys.length ≤ xs.length := by omega
    have hll : (lay (List.replicate xs.length 0) 0 xs).length = xs.length := by rw [lay_length (by rw [List.length_replicate]; omega), List.length_replicate]
    have hrg : Rng (lay (List.replicate xs.length 0) 0 xs) := lay_rng (Rng_replicate _) h0.range
    have hres : Hid (pN (addT (lay (List.replicate xs.length 0) 0 xs) 0 ys 1) = pN (pS xs ys)) := pN_ext fun i => by
      rw [cf_pS, cf_addT _ _ _ _ (by rw [hll]; omega), if_pos (Nat.zero_le _), lay_zeros _ _ hxn, Nat.sub_zero, toF_one]; grind
    have cT : ∀ (W : World) (g : Nat), RowU W g (lay (List.replicate xs.length 0) 0 xs) → IsU W (.slice a' ys.length cap') ys → Apart (.slice a' ys.length cap') g → Calls Tryd.prog 60 #[.slice (some ⟨g, 0, none⟩) xs.length xs.length, .slice a' ys.length cap', .int .u64 1] W fun e w' => e = .returned (.tuple #[]) ∧ RowU w' g (addT (lay (List.replicate xs.length 0) 0 xs) 0 ys 1) ∧ Bar g W w' :=
      fun W g h1 h2 h3 => poly_addTimes W g 0 xs.length _ _ ys 1 h1 hrg h2 h3 (by rw [hll]; omega) (by rw [hll]; rfl) (by rw [hll]; omega) (by decide)
    have hll2 : (addT (lay (List.replicate xs.length 0) 0 xs) 0 ys 1).length = xs.length := by rw [addT_length, hll]
    have hrg2 : Rng (addT (lay (List.replicate xs.length 0) 0 xs) 0 ys 1) := addK_rng _ _ _ _ _ hrg
    have cN : ∀ (W : World) (g : Nat), RowU W g (addT (lay (List.replicate xs.length 0) 0 xs) 0 ys 1) → Calls Tryd.prog 59 #[.slice (some ⟨g, 0, none⟩) xs.length xs.length] W fun e w' => ∃ u, e = .returned u ∧ IsU w' u (pN (addT (lay (List.replicate xs.length 0) 0 xs) 0 ys 1)) ∧ Below W.heap.size W w' :=
      fun W g h1 => normal_U W _ _ (h1.isUN hrg2 (by omega) hll2) (by omega)
    have hof : 0 + xs.length ≤ (List.replicate xs.length 0).length := by simp
    clear hll hrg hll2 hrg2
    go_enter Tryd.func21, Tryd.ntmps21
    go_wp2_with (first
      | (go_at_call 58; refine Calls.mono (any2 _ h0 h0' hl hl') ?_; rintro e w1 ⟨rfl, hw⟩; have hW : Below w.heap.size w w1 := (by rw [hw]; exact below_alloc1 _ _); clear hw; replace h0 := h0.below hW; replace h0' := h0'.below hW)
      | (at_make; refine wp_makeG rfl _ _ rfl xs.length rfl rfl hn9 ?_; intro g w2 hg hrow hb; have hA := h0'.apart (Nat.le_of_eq hg.out.symm); have hgw : w.heap.size ≤ g := (by rw [hg.out]; exact hW.size); clear hg; replace h0 := h0.below hb; replace h0' := h0'.below hb; replace hW := hW.trans (hb.mono hW.size); clear hb)
      | (refine wp_copyR rfl _ _ rfl g 0 xs.length xs.length _ (List.replicate xs.length 0) xs rfl rfl h0 hrow hof hxn hW hgw ?_; intro w3 z hrow3 hb; clear hrow; replace hW := hb; replace h0' := hY.below hb; clear hb h0)
      | (go_at_call 60; refine Calls.mono (cT _ g hrow3 h0' hA) ?_; rintro e w4 ⟨rfl, hrow4, hbar⟩; replace hW := Bar.fresh hW hgw hbar; clear hbar hrow3)
      | (go_at_call 59; refine Calls.mono (cN _ g hrow4) ?_; rintro e w5 ⟨u, rfl, hU, hb⟩; replace hW := hW.trans (hb.mono hW.size); clear hb hrow4))
    go_ret2
    exact ⟨_, rfl, hU.cast hres.out, hW⟩

set_option maxHeartbeats 1000000 in
theorem poly_Mul_ok (w : World) (v v' : Value) (xs ys : List Nat) (h : IsU w v xs) (h' : IsU w v' ys) (hl : xs.length ≤ 2048) (hl' : ys.length ≤ 2048) (hp : (pM (pN xs) (pN ys)).length ≤ 2048) :
    Calls Tryd.prog 22 #[v, v'] w fun e w' => ∃ u0, e = .returned (.tuple #[u0, .int .i64 0]) ∧ IsU w' u0 (pM (pN xs) (pN ys)) ∧ Below w.heap.size w w' := by
  have h0 := h
  obtain ⟨a, cap, rfl, -⟩ := h
  have h0' := h'
  obtain ⟨a', cap', rfl, -⟩ := h'
  have hl9 : xs.length ≤ 1000000000 := by omega
  have hl9' : ys.length ≤ 1000000000 := by omega
  by_cases hx0 : (pN xs).length = 0
  · have e : pM (pN xs) (pN ys) = [] := by unfold pM; rw [if_pos (.inl hx0)]
    rw [e]
    have hb1 : (((pN xs).length : Int) == 0) = true := by rw [beq_iff_eq]; omega
    clear e hx0 hp
    go_enter Tryd.func22, Tryd.ntmps22
    have tk1 : True := trivial
    go_wp2_with (first
      | (go_at_call 58; refine Calls.mono (any2 _ h0 h0' hl hl') ?_; rintro e w1 ⟨rfl, hw⟩; have hW : Below w.heap.size w w1 := (by rw [hw]; exact below_alloc1 _ _); clear hw; replace h0 := h0.below hW; replace h0' := h0'.below hW)
      | (go_at_call 59; have _t := tk1; refine Calls.mono (normal_U _ _ xs h0 hl9) ?_; rintro e w2 ⟨u, rfl, hU, hb⟩; clear tk1; replace hW := hW.trans (hb.mono hW.size); replace h0' := h0'.below hb; clear hb; obtain ⟨ax, cx, rfl, -⟩ := hU)
      | (go_at_call 59; refine Calls.mono (normal_U _ _ ys h0' hl9') ?_; rintro e w3 ⟨u, rfl, hU', hb⟩; replace hW := hW.trans (hb.mono hW.size); clear hb; obtain ⟨ay, cy, rfl, -⟩ := hU'))
    go_ret2
    exact ⟨_, rfl, IsU.nil _, hW⟩
  · by_cases hy0 : (pN ys).length = 0
    · have e : pM (pN xs) (pN ys) = [] := by unfold pM; rw [if_pos (.inr hy0)]
      rw [e]
      have hb1 : (((pN xs).length : Int) == 0) = false := by rw [beq_eq_false_iff_ne]; omega
      have hb2 : (((pN ys).length : Int) == 0) = true := by rw [beq_iff_eq]; omega
      clear e hx0 hy0 hp
      go_enter Tryd.func22, Tryd.ntmps22
      have tk1 : True := trivial
      go_wp2_with (first
        | (go_at_call 58; refine Calls.mono (any2 _ h0 h0' hl hl') ?_; rintro e w1 ⟨rfl, hw⟩; have hW : Below w.heap.size w w1 := (by rw [hw]; exact below_alloc1 _ _); clear hw; replace h0 := h0.below hW; replace h0' := h0'.below hW)
        | (go_at_call 59; have _t := tk1; refine Calls.mono (normal_U _ _ xs h0 hl9) ?_; rintro e w2 ⟨u, rfl, hU, hb⟩; clear tk1; replace hW := hW.trans (hb.mono hW.size); replace h0' := h0'.below hb; clear hb; obtain ⟨ax, cx, rfl, -⟩ := hU)
        | (go_at_call 59; refine Calls.mono (normal_U _ _ ys h0' hl9') ?_; rintro e w3 ⟨u, rfl, hU', hb⟩; replace hW := hW.trans (hb.mono hW.size); clear hb; obtain ⟨ay, cy, rfl, -⟩ := hU'))
      go_ret2
      exact ⟨_, rfl, IsU.nil _, hW⟩
    · have hb1 : (((pN xs).length : Int) == 0) = false := by rw [beq_eq_false_iff_ne]; omega
      have hb2 : (((pN ys).length : Int) == 0) = false := by rw [beq_eq_false_iff_ne]; omega
      obtain ⟨n, hn⟩ : ∃ n : Nat, n = (pN xs).length + (pN ys).length - 1 := ⟨_, rfl⟩
      have hpl : (pM (pN xs) (pN ys)).length = n := by rw [hn]; unfold pM; rw [if_neg (by omega), mk_length]
      have hn2 : n ≤ 2048 := by omega
      have hadd : ((pN xs).length : Int) + ((pN ys).length : Int) - 1 = (n : Int) := by omega
      have hall : Hid (mulK (pN xs) (pN ys) (pN xs).length = pM (pN xs) (pN ys)) := mulK_all _ _ hx0 hy0
      have hlen := fun k => (mulK_length (pN xs) (pN ys) k).trans hn.symm
      have hnx : (pN xs).length ≤ n := by omega
      have cT : ∀ (W : World) (g k : Nat) (v : Value), k < (pN xs).length → RowU W g (mulK (pN xs) (pN ys) k) → IsU W v (pN ys) → Apart v g → Calls Tryd.prog 60 #[.slice (some ⟨g, k, none⟩) (n - k) (n - k), v, .int .u64 (((pN xs).getD k 0 : Nat) : Int)] W fun e w' => e = .returned (.tuple #[]) ∧ RowU w' g (mulK (pN xs) (pN ys) (k + 1)) ∧ Bar g W w' :=
        fun W g k v hk h1 h2 h3 => poly_addTimes W g k (n - k) v _ _ _ h1 (Rng_of_P (mulK_P _ _ k)) h2 h3 (by rw [hlen]; omega) (by rw [hlen]) (by rw [hlen]; omega) (range_getD (pN_rng xs) k)
      have hn9 : n ≤ 1000000000 := by omega
      have hres : ∀ (W : World) (g : Nat), RowU W g (mulK (pN xs) (pN ys) (pN xs).length) → IsU W (.slice (some ⟨g, 0, none⟩) n n) (pM (pN xs) (pN ys)) := fun W g h => by
        rw [hall.out] at h
        exact h.isUN (by rw [← hall.out]; exact Rng_of_P (mulK_P _ _ _)) (by omega) hpl
      have hst : List.replicate n 0 = mulK (pN xs) (pN ys) 0 := by rw [hn]; rfl
      have hst' : Hid (List.replicate n 0 = mulK (pN xs) (pN ys) 0) := hst
      clear hst hpl hp hlen hn hall hx0 hy0
      go_enter Tryd.func22, Tryd.ntmps22
      have tk1 : True := trivial
      go_wp2_with (first
        | (go_at_call 58; refine Calls.mono (any2 _ h0 h0' hl hl') ?_; rintro e w1 ⟨rfl, hw⟩; have hW : Below w.heap.size w w1 := (by rw [hw]; exact below_alloc1 _ _); clear hw; replace h0 := h0.below hW; replace h0' := h0'.below hW)
        | (go_at_call 59; have _t := tk1; refine Calls.mono (normal_U _ _ xs h0 hl9) ?_; rintro e w2 ⟨u, rfl, hU, hb⟩; clear tk1; replace hW := hW.trans (hb.mono hW.size); replace h0' := h0'.below hb; clear hb; have hX := hU; obtain ⟨ax, cx, rfl, -⟩ := hU)
        | (go_at_call 59; refine Calls.mono (normal_U _ _ ys h0' hl9') ?_; rintro e w3 ⟨u, rfl, hU', hb⟩; replace hW := hW.trans (hb.mono hW.size); replace hX := hX.below hb; clear hb; have hY := hU'; obtain ⟨ay, cy, rfl, -⟩ := hU')
        | (at_make; refine wp_makeG rfl _ _ rfl n rfl rfl hn9 ?_; intro g w4 hg hrow hb; have hA := hX.apart (Nat.le_of_eq hg.out.symm); have hA' := hY.apart (Nat.le_of_eq hg.out.symm); have hgw : w.heap.size ≤ g := (by rw [hg.out]; exact hW.size); clear hg; replace hX := hX.below hb; replace hY := hY.below hb; replace hW := hW.trans (hb.mono hW.size); clear hb))
      have hX0 := hX
      have hrow0 := hrow.cast hst'.out
      clear hrow hst' h0 h0' hb1 hb2 hadd
      go_loopw [40] (fun vi wr => ∃ k : Nat, k ≤ (pN xs).length ∧ vi = .int .i64 (k : Int) ∧ RowU wr g (mulK (pN xs) (pN ys) k) ∧ Bar g w4 wr)
        (fun vi _ => (pN xs).length - (intOf vi).toNat)
      case atStart => exact ⟨0, Nat.zero_le _, rfl, hrow0, Bar.refl _ _⟩
      case round =>
        clear hrow0
        obtain ⟨k, hk, rfl, hrow, hbar⟩ := hrel
        by_cases hlt : k < (pN xs).length
        · obtain ⟨b, o', cx', hv⟩ := hX0.place (by omega)
          simp only [Value.slice.injEq, true_and] at hv
          obtain ⟨rfl, rfl⟩ := hv
          have hcell := (hX.bar hA hbar).cell k hlt
          have c1 := fun W h1 h2 => cT W g k _ hlt h1 h2 hA'
          have hYr := hY.bar hA' hbar
          have hkn : k ≤ n := by omega
          clear cT hres hX hX0 hA
          generalize (pN xs).getD k 0 = y at *
          go_wp2_with (go_at_call 60; refine Calls.mono (c1 _ hrow hYr) ?_; rintro e w5 ⟨rfl, hrow5, hbar5⟩; clear hcell)
          replace hbar := hbar.trans hbar5
          clear hbar5 hrow hYr
          go_roundw
          case rel => exact ⟨k + 1, by omega, by go_num, hrow5, hbar⟩
          case measure => simp only [intOf]; omega
        · have e : k = (pN xs).length := by omega
          rw [e] at hrow
          have hR := hres _ _ hrow
          have hge : (pN xs).length ≤ k := by omega
          have hW2 := Bar.fresh hW hgw hbar
          clear e hres cT hX hX0 hY hrow
          go_wp2
          go_ret2
          exact ⟨_, rfl, hR, hW2⟩

end Go.Proofs.YtgkepflnnoociagDoor

/-! What Inv of package field answers, for all numbers of 64 bits: the error, or the power that is the inverse. -/
namespace Go.Proofs.YtgkepflnnoociagDoor
open Go.RowKit

theorem field_Inv_none (a : Nat) (ha : (a : Int) < 18446744073709551616) (h : fN a = 0) (w : World) :
    Calls Tryd.prog 65 #[.int .u64 (a : Int)] w fun e w' => e = .returned (.tuple #[.int .u64 0, .int .i64 4]) ∧ w' = w := by
  have c := field_Norm a ha
  rw [h] at c
  clear h
  go_enter Tryd.func65, Tryd.ntmps65
  go_wp2_with (go_at_call 14; refine Calls.mono (c _) ?_; rintro e w' ⟨rfl, hw⟩; rw [hw]; clear hw)
  go_ret2
  exact ⟨rfl, rfl⟩

theorem field_Inv_some (a : Nat) (ha : (a : Int) < 18446744073709551616) (h : fN a ≠ 0) (w : World) :
    Calls Tryd.prog 65 #[.int .u64 (a : Int)] w fun e w' => e = .returned (.tuple #[.int .u64 ((fW a 18446744069414584319 : Nat) : Int), .int .i64 0]) ∧ w' = w := by
  have c := field_Norm a ha
  have c2 := field_Pow a 18446744069414584319 ha (by omega)
  have e : ((18446744069414584319 : Nat) : Int) = 18446744069414584319 := rfl
  rw [e] at c2
  clear e
  have h' : (fN a == 0) = false := by simpa using h
  have h'' : ((fN a : Int) == 0) = false := by simpa using h
  go_enter Tryd.func65, Tryd.ntmps65
  go_wp2_with (first | (go_at_call 14; refine Calls.mono (c _) ?_; rintro e w' ⟨rfl, hw⟩; rw [hw]; clear hw) | (go_at_call 95; refine Calls.mono (c2 _) ?_; rintro e w' ⟨rfl, hw⟩; rw [hw]; clear hw))
  go_ret2
  exact ⟨rfl, rfl⟩

end Go.Proofs.YtgkepflnnoociagDoor

/-! What takeOut of package poly answers: a quotient; what is left stands where the list stood. -/
namespace Go.Proofs.YtgkepflnnoociagDoor
open Go.RowKit

theorem Bar.setFresh {g g' : Nat} {a b : World} (h : Bar g a b) (hg : a.heap.size ≤ g') (i : Nat) (u : Value) : Bar g a (b.setCell ⟨g', i, none⟩ u) :=
  ⟨h.os, h.tape, h.output, by simpa [World.setCell] using h.size, fun k hk hne => (Below.heap_setCell _ _ _ _ (by show k ≠ g'; omega)).trans (h.block k hk hne)⟩

set_option maxHeartbeats 1000000 in
theorem poly_takeOut_none (w : World) (gr gd : Nat) (rs ds : List Nat) (hl : rs.length ≤ ds.length - 1) (h9' : ds.length ≤ 2048) (hd0 : ds.length ≠ 0) :
    Calls Tryd.prog 61 #[.slice (some ⟨gr, 0, none⟩) rs.length rs.length, .slice (some ⟨gd, 0, none⟩) ds.length ds.length] w fun e w' => e = .returned (.slice none 0 0) ∧ w' = w := by
  obtain ⟨L, hL⟩ : ∃ L, ds.length = L + 1 := ⟨ds.length - 1, by omega⟩
  rw [hL]
  have hle : (rs.length : Int) ≤ (L : Int) := by omega
  have hL9 : L ≤ 2048 := by omega
  have hd : decide ((rs.length : Int) ≤ (L : Int)) = true := decide_eq_true hle
  clear hL hl hd0 h9'
  go_enter Tryd.func61, Tryd.ntmps61
  go_wp2
  go_ret
  exact ⟨rfl, rfl⟩

set_option maxHeartbeats 4000000 in
theorem poly_takeOut_nat (w : World) (gr gd L n lq v : Nat) (rs ds : List Nat) (hr : RowU w gr rs) (hd : RowU w gd ds) (hne : gd ≠ gr) (hrP : ∀ x ∈ rs, x < P) (hdP : ∀ x ∈ ds, x < P) (hL : ds.length = L + 1) (hn : rs.length = n) (hLn : L < n) (hlq : n - L = lq) (h9 : n ≤ 2048) (h9' : L ≤ 2048)
    (hrl : cf rs (n - 1) ≠ 0) (hv : v = fW (ds.getD L 0) 18446744069414584319) (hdl : fN (ds.getD L 0) ≠ 0) :
    Calls Tryd.prog 61 #[.slice (some ⟨gr, 0, none⟩) n n, .slice (some ⟨gd, 0, none⟩) (L + 1) (L + 1)] w fun e w' => ∃ u qs rs', e = .returned u ∧ IsU w' u qs ∧ RowU w' gr rs' ∧ Quo rs ds qs rs' 0 ∧ Bar gr w w' := by
  have hcL := hd.cell L (by omega)
  have hd1 : decide ((n : Int) ≤ (L : Int)) = false := decide_eq_false (by omega)
  have hsub : (n : Int) - (L : Int) = (lq : Int) := by omega
  have hq9 : lq ≤ 1000000000 := by omega
  have cI := field_Inv_some (ds.getD L 0) (range_getD (Rng_of_P hdP) L) hdl
  rw [← hv] at cI
  have hvv : Hid (v = fW (ds.getD L 0) 18446744069414584319) := hv
  have hdl' : Hid (fN (ds.getD L 0) ≠ 0) := hdl
  have hL' : Hid (ds.length = L + 1) := hL
  have hn' : Hid (rs.length = n) := hn
  have hlq' : Hid (n - L = lq) := hlq
  have hrl' : Hid (cf rs (n - 1) ≠ 0) := hrl
  have hrlt := hr.lt
  have hdlt := hd.lt
  clear hv hdl hL hn hlq hrl
  go_enter Tryd.func61, Tryd.ntmps61
  go_wp2_with (first
    | (go_at_call 65; refine Calls.mono (cI _) ?_; rintro e w1 ⟨rfl, hw⟩; rw [hw]; clear hw cI)
    | (at_make; refine wp_makeG rfl _ _ rfl lq rfl rfl hq9 ?_; intro gq w2 hg hrowq hb))
  have hlt1 : gr < gq := by rw [hg.out]; exact hrlt
  have hlt2 : gd < gq := by rw [hg.out]; exact hdlt
  have hgq : w.heap.size ≤ gq := Nat.le_of_eq hg.out.symm
  have hn := hn'.out
  have hL := hL'.out
  have hrow0 : RowU w2 gr rs := hr.below hb
  have hq0 : Quo rs ds (List.replicate lq 0) rs lq := by
    have := Quo_start (ds := ds) hrP (by rw [hL, hn]; omega)
    rw [hn, hL, Nat.add_sub_cancel, hlq'.out] at this
    exact this
  have hbar0 : Bar gr w w2 := Bar.of_below hb
  have hvi : Hid (toF v * cf ds (ds.length - 1) = 1) := by
    have h1 : cf ds L ≠ 0 := fun h => hdl'.out ((fN_zero _).mpr h)
    have h2 := mul_inv h1
    show toF v * cf ds (ds.length - 1) = 1
    rw [hL, Nat.add_sub_cancel, hvv.out, toF_inv]
    show inv (cf ds L) * cf ds L = 1
    grind
  have hv64 : (v : Int) < 18446744073709551616 := by rw [hvv.out]; have := fW_lt (ds.getD L 0) 18446744069414584319; omega
  have hrl2 : rs.length ≠ 0 → cf rs (rs.length - 1) ≠ 0 := fun _ => by rw [hn]; exact hrl'.out
  have hD0 : ∀ W : World, Bar gr w W → IsU W (.slice (some ⟨gd, 0, none⟩) (L + 1) (L + 1)) ds := fun W hB => (hd.bar hne hB).isUN (Rng_of_P hdP) (by omega) hL
  have hsteps : Hid (∀ (qs rs' : List Nat) (i : Nat), Quo rs ds qs rs' (i + 1) → i + 1 ≤ lq → Quo rs ds (qs.set i (fM (rs'.getD (i + L) 0) v)) (addT rs' i ds (fS 0 (fM (rs'.getD (i + L) 0) v))) i) := by
    intro qs rs' i hq hi
    have h1 : qs.length = lq := by rw [hq.1, hn, hL, Nat.add_sub_cancel, hlq'.out]
    have := Quo_step (v := v) hq (by omega) (by omega) (by omega) hrl2 hvi.out
    rw [hL, Nat.add_sub_cancel] at this
    exact this
  have hsizes : Hid (∀ (qs rs' : List Nat) (i : Nat), Quo rs ds qs rs' i → qs.length = lq ∧ rs'.length = n ∧ (∀ x ∈ qs, x < P) ∧ (∀ x ∈ rs', x < P)) := by
    intro qs rs' i hq
    exact ⟨by rw [hq.1, hn, hL, Nat.add_sub_cancel, hlq'.out], by rw [hq.2.1, hn], hq.2.2.1, hq.2.2.2.1⟩
  have hLn' : lq + L = n := by have := hlq'.out; omega
  have hsum : Hid (lq + L = n) := hLn'
  clear hrl2 hvi hrlt hdlt hr hd hb hg hL hn hLn' hdl' hvv hcL hd1 hsub
  generalize ds.getD L 0 = dl at *
  go_loopw [9] (fun vi wr => ∃ (z : Int) (j : Nat) (qs rs' : List Nat), j ≤ lq ∧ z = (j : Int) - 1 ∧ vi = .int .i64 z ∧ RowU wr gq qs ∧ RowU wr gr rs' ∧ Hid (Quo rs ds qs rs' j) ∧ Bar gr w wr)
    (fun vi _ => (intOf vi + 1).toNat)
  case atStart => exact ⟨_, lq, _, _, Nat.le_refl _, rfl, rfl, hrowq, hrow0, hq0, hbar0⟩
  case round =>
    clear hrowq hrow0 hq0 hbar0
    obtain ⟨z, j, qs, rs', hj, hz, rfl, hrowq, hrowr, hq, hbar⟩ := hrel
    obtain ⟨hs1, hs2, hs3, hs4⟩ := hsizes.out _ _ _ hq.out
    rcases Nat.eq_zero_or_pos j with hj0 | hj0
    · have e : z = -1 := by omega
      subst e
      subst hj0
      have hU := hrowq.isUN (Rng_of_P hs3) (by omega) hs1
      clear hz hs1 hs2 hD0
      go_wp2
      go_ret
      exact ⟨_, qs, rs', rfl, hU, hrowr, hq.out, hbar⟩
    · obtain ⟨i, rfl⟩ : ∃ i, j = i + 1 := ⟨j - 1, by omega⟩
      have e : z = (i : Int) := by omega
      subst e
      have hsm := hsum.out
      have hil : i < lq := by omega
      have hiL : i + L < n := by omega
      have hst : Hid (Quo rs ds (qs.set i (fM (rs'.getD (i + L) 0) v)) (addT rs' i ds (fS 0 (fM (rs'.getD (i + L) 0) v))) i) := hsteps.out _ _ _ hq.out hj
      have hcr := hrowr.cell (i + L) (by omega)
      have hcq := hrowq.cell i (by omega)
      have hfq := hrowq.frozen i
      have cM := field_Mul (rs'.getD (i + L) 0) v (range_getD (Rng_of_P hs4) _) hv64
      have hc64 : ((fM (rs'.getD (i + L) 0) v : Nat) : Int) < 18446744073709551616 := by have := fM_lt (rs'.getD (i + L) 0) v; omega
      have cS : ∀ W : World, Calls Tryd.prog 12 #[.int .u64 0, .int .u64 ((fM (rs'.getD (i + L) 0) v : Nat) : Int)] W fun e w' => e = .returned (.int .u64 ((fS 0 (fM (rs'.getD (i + L) 0) v) : Nat) : Int)) ∧ w' = W := fun W => field_Sub 0 _ (by decide) hc64 W
      have hqr : ∀ c : Nat, RowU (wr.setCell ⟨gq, i, none⟩ (.int .u64 (c : Int))) gq (qs.set i c) := fun c => hrowq.set i c
      have hrr : ∀ c : Nat, RowU (wr.setCell ⟨gq, i, none⟩ (.int .u64 (c : Int))) gr rs' := fun c => hrowr.block (Below.heap_setCell _ _ _ _ (by show gr ≠ gq; omega))
      have hbb : ∀ c : Nat, Bar gr w (wr.setCell ⟨gq, i, none⟩ (.int .u64 (c : Int))) := fun c => hbar.setFresh hgq _ _
      have hsl : ∀ c : Nat, (qs.set i c).getD i 0 = c := fun c => by simp [List.getD, hs1, hil]
      have cA : ∀ (W : World) (c : Nat), RowU W gr rs' → IsU W (.slice (some ⟨gd, 0, none⟩) (L + 1) (L + 1)) ds → Calls Tryd.prog 60 #[.slice (some ⟨gr, i, none⟩) (n - i) (n - i), .slice (some ⟨gd, 0, none⟩) (L + 1) (L + 1), .int .u64 ((fS 0 c : Nat) : Int)] W fun e w' => e = .returned (.tuple #[]) ∧ RowU w' gr (addT rs' i ds (fS 0 c)) ∧ Bar gr W w' := fun W c h1 h2 =>
        poly_addTimes W gr i (n - i) _ rs' ds (fS 0 c) h1 (Rng_of_P hs4) h2 (apart_of hne) (by rw [hL'.out]; omega) (by rw [hs2]) (by omega) (by have := fS_lt 0 c; omega)
      have hin : i ≤ n := by omega
      clear hrowq hrowr hbar hz hj hj0 hsm hc64 hs3 hs4
      generalize fM (rs'.getD (i + L) 0) v = c at *
      generalize rs'.getD (i + L) 0 = r at *
      generalize qs.getD i 0 = old at *
      go_wp2_with (go_at_call 66; refine Calls.mono (cM _) ?_; rintro e w' ⟨rfl, hw⟩; rw [hw]; clear hw)
      obtain ⟨W, hWe⟩ : ∃ W : World, W = wr.setCell ⟨gq, i, none⟩ (.int .u64 (c : Int)) := ⟨_, rfl⟩
      have h1 := hqr c
      have h2 := hrr c
      have h3 := hbb c
      rw [← hWe] at h1 h2 h3 ⊢
      clear hWe hqr hrr hbb hcr hcq hfq
      have hcq := h1.cell i (by rw [List.length_set]; omega)
      rw [hsl c] at hcq
      have cA2 : ∀ W' : World, (∃ m, W' = W.drewN m) → Calls Tryd.prog 60 #[.slice (some ⟨gr, i, none⟩) (n - i) (n - i), .slice (some ⟨gd, 0, none⟩) (L + 1) (L + 1), .int .u64 ((fS 0 c : Nat) : Int)] W' fun e w' => e = .returned (.tuple #[]) ∧ RowU w' gq (qs.set i c) ∧ RowU w' gr (addT rs' i ds (fS 0 c)) ∧ Bar gr w w' := by
        rintro W' ⟨m, rfl⟩
        refine (cA _ c (h2.drewN m) (hD0 _ (h3.drewN m))).mono ?_
        rintro e w' ⟨rfl, h4, h5⟩
        exact ⟨rfl, (h1.drewN m).bar (by omega) h5, h4, (h3.drewN m).trans h5⟩
      clear cA hD0 hsl h1 h2 h3 hv64 hdP hrP cM
      generalize fS 0 c = d at *
      go_region_with (first
        | (go_at_call 12; refine Calls.mono (cS _) ?_; rintro e w' ⟨rfl, hw⟩; rw [hw]; clear hw)
        | (go_at_call 60; refine Calls.mono (cA2 _ ?_) ?_; exact ⟨1, rfl⟩; rintro e w5 ⟨rfl, h4, h5, h6⟩))
      all_goals
        clear hcq
        go_wp2
        go_roundw
        case rel => exact ⟨_, i, _, _, by omega, rfl, by go_num, h4, h5, hst, h6⟩
        case measure => simp only [intOf]; omega

end Go.Proofs.YtgkepflnnoociagDoor
