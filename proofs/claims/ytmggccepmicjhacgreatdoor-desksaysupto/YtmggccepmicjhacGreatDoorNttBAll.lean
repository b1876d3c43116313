/-
  Texts that stood one behind the other, as one.
-/
import Derived.Test.YtmggccepmicjhacGreatDoorRefShapeAll
import Derived.Test.YtmggccepmicjhacGreatDoorRefSAll
import Derived.Test.YtmggccepmicjhacGreatDoorSlAll
import Derived.Laws.Bits64b
import Derived.Test.YtmggccepmicjhacGreatDoorRefPlacesAll
import Derived.Test.YtmggccepmicjhacGreatDoorPure
/-! What Reverse64 and TrailingZeros of package math/bits answer, as far as package ntt asks them: bits read from the other end; the place of the one bit of a power of two. -/
namespace Go.Proofs.YtmggccepmicjhacGreatDoor
open Go.RowKit

/-- Neighbours of s bits change places: those of the mask m and those beside them. -/
def swp (s m x : Nat) : Nat := (x / s &&& m) ||| ((x &&& m) * s % 18446744073709551616)
def swL (x : Nat) : Nat := x / 4294967296 ||| (x * 4294967296 % 18446744073709551616)
def rev64 (x : Nat) : Nat := swL (swp 65536 281470681808895 (swp 256 71777214294589695 (swp 16 1085102592571150095 (swp 4 3689348814741910323 (swp 2 6148914691236517205 x)))))
theorem swp_lt (s m x : Nat) (hm : m < 18446744073709551616) : swp s m x < 18446744073709551616 := by
  have h1 : x / s &&& m < 2 ^ 64 := Nat.and_lt_two_pow _ (by omega)
  have h2 : (x &&& m) * s % 18446744073709551616 < 2 ^ 64 := by omega
  have := Nat.or_lt_two_pow h1 h2
  unfold swp; omega
theorem swp_bits (s m x : Nat) (S M : Int) (hS : (s : Int) = S) (hM : (m : Int) = M) (hx : x < 18446744073709551616) (hm : m < 18446744073709551616) :
    bits .or .u64 (bits .and .u64 ((x : Int) / S) M) (IntKind.u64.wrap (bits .and .u64 (x : Int) M * S)) = ((swp s m x : Nat) : Int) := by
  subst hS hM
  have hd : x / s < 18446744073709551616 := Nat.lt_of_le_of_lt (Nat.div_le_self _ _) hx
  have h1 : x / s &&& m < 2 ^ 64 := Nat.and_lt_two_pow _ (by omega)
  rw [← Int.natCast_ediv, bits_and_u64_nat _ m hd hm, bits_and_u64_nat x m hx hm, ← Int.natCast_mul, IntKind.wrap_u64]
  have e : (((x &&& m) * s : Nat) : Int) % 18446744073709551616 = (((x &&& m) * s % 18446744073709551616 : Nat) : Int) := by omega
  rw [e, bits_or_u64_nat _ _ (by omega) (by omega)]; rfl
theorem swL_bits (x : Nat) (hx : x < 18446744073709551616) :
    bits .or .u64 ((x : Int) / 4294967296) (IntKind.u64.wrap ((x : Int) * 4294967296)) = ((swL x : Nat) : Int) := by
  rw [IntKind.wrap_u64, show (x : Int) / 4294967296 = ((x / 4294967296 : Nat) : Int) by omega, show (x : Int) * 4294967296 % 18446744073709551616 = ((x * 4294967296 % 18446744073709551616 : Nat) : Int) by omega,
    bits_or_u64_nat _ _ (by omega) (by omega)]; rfl

theorem bits_ReverseBytes64 (x : Nat) (hx : x < 18446744073709551616) (w : World) :
    Calls Tryz.prog 152 #[.int .u64 (x : Int)] w fun e w' => e = .returned (.int .u64 ((swL (swp 65536 281470681808895 (swp 256 71777214294589695 x)) : Nat) : Int)) ∧ w' = w := by
  have e1 := swp_bits 256 71777214294589695 x 256 71777214294589695 rfl rfl hx (by decide)
  have l1 := swp_lt 256 71777214294589695 x (by decide)
  generalize swp 256 71777214294589695 x = y at *
  have e2 := swp_bits 65536 281470681808895 y 65536 281470681808895 rfl rfl l1 (by decide)
  have l2 := swp_lt 65536 281470681808895 y (by decide)
  generalize swp 65536 281470681808895 y = z at *
  have e3 := swL_bits z l2
  generalize swL z = u at *
  clear l1 l2 hx
  go_enter Tryz.func152, Tryz.ntmps152
  go_wp2
  go_ret
  exact ⟨rfl, rfl⟩

theorem bits_Reverse64 (x : Nat) (hx : x < 18446744073709551616) (w : World) :
    Calls Tryz.prog 139 #[.int .u64 (x : Int)] w fun e w' => e = .returned (.int .u64 ((rev64 x : Nat) : Int)) ∧ w' = w := by
  unfold rev64
  have e1 := swp_bits 2 6148914691236517205 x 2 6148914691236517205 rfl rfl hx (by decide)
  have l1 := swp_lt 2 6148914691236517205 x (by decide)
  generalize swp 2 6148914691236517205 x = y at *
  have e2 := swp_bits 4 3689348814741910323 y 4 3689348814741910323 rfl rfl l1 (by decide)
  have l2 := swp_lt 4 3689348814741910323 y (by decide)
  generalize swp 4 3689348814741910323 y = z at *
  have e3 := swp_bits 16 1085102592571150095 z 16 1085102592571150095 rfl rfl l2 (by decide)
  have l3 := swp_lt 16 1085102592571150095 z (by decide)
  generalize swp 16 1085102592571150095 z = u at *
  have c := bits_ReverseBytes64 u l3
  generalize swL (swp 65536 281470681808895 (swp 256 71777214294589695 u)) = v at *
  clear l1 l2 l3 hx
  go_enter Tryz.func139, Tryz.ntmps139
  go_wp2_with (go_at_call 152; refine Calls.mono (c _) ?_; rintro e w' ⟨rfl, hw⟩; rw [hw]; clear hw)
  go_ret
  exact ⟨rfl, rfl⟩

/-- Of numbers of few bits. -/
theorem rev64_all : ((List.range 11).all fun k => (List.range (2 ^ k)).all fun i => rev64 i / 2 ^ (64 - k) == rv k i) = true := by decide +kernel
theorem rev64_rv (k i : Nat) (hk : k ≤ 10) (hi : i < 2 ^ k) : rev64 i / 2 ^ (64 - k) = rv k i := by
  have h1 := List.all_eq_true.mp rev64_all k (List.mem_range.mpr (by omega))
  have h2 := List.all_eq_true.mp h1 i (List.mem_range.mpr hi)
  exact beq_iff_eq.mp h2

def tzI (k : Nat) : Nat := 2 ^ k * 285870213051353865 % 18446744073709551616 / 288230376151711744
theorem tz_all : ((List.range 11).all fun k => decide (tzI k < 64) && (tz64.getD (tzI k) 0 == k) && ((2 ^ k &&& (18446744073709551616 - 2 ^ k)) == 2 ^ k)) = true := by decide +kernel

theorem tz_key (x a : Nat) (hx : x < 18446744073709551616) (hx0 : x ≠ 0) (hlow : x &&& (18446744073709551616 - x) = a) :
    IntKind.u64.wrap (bits .and .u64 (x : Int) (IntKind.u64.wrap (-(x : Int))) * 285870213051353865) / 288230376151711744 = ((a * 285870213051353865 % 18446744073709551616 / 288230376151711744 : Nat) : Int) := by
  have e1 : IntKind.u64.wrap (-(x : Int)) = ((18446744073709551616 - x : Nat) : Int) := by rw [IntKind.wrap_u64]; omega
  rw [e1, bits_and_u64_nat x _ hx (by omega), hlow, IntKind.wrap_u64]
  omega
set_option maxHeartbeats 1000000 in
theorem tz_core (x k q : Nat) (w : World) (hx0 : ((x : Int) == 0) = false)
    (key : IntKind.u64.wrap (bits .and .u64 (x : Int) (IntKind.u64.wrap (-(x : Int))) * 285870213051353865) / 288230376151711744 = (q : Int)) (hi : q < 64) (hk : k ≤ 10)
    (hcell : w.cell? ⟨5, q, none⟩ = some (.int .u8 (k : Int))) :
    Calls Tryz.prog 138 #[.int .u64 (x : Int)] w fun e w' => e = .returned (.int .i64 (k : Int)) ∧ w' = w := by
  go_enter Tryz.func138, Tryz.ntmps138
  go_wp2_with (simp only [key])
  go_ret
  exact ⟨rfl, rfl⟩
theorem bits_TrailingZeros (k : Nat) (hk : k ≤ 10) (w : World) (ht : Tab w) :
    Calls Tryz.prog 113 #[.int .u64 ((2 ^ k : Nat) : Int)] w fun e w' => e = .returned (.int .i64 (k : Int)) ∧ w' = w := by
  have h1 := List.all_eq_true.mp tz_all k (List.mem_range.mpr (by omega))
  simp only [Bool.and_eq_true, decide_eq_true_eq, beq_iff_eq] at h1
  obtain ⟨⟨hi, hv⟩, hand⟩ := h1
  have hcell := ht.1 _ hi
  rw [hv] at hcell
  have hx := (two_pow_bound k hk).2
  have hp : 0 < 2 ^ k := Nat.pow_pos (by decide)
  have key := tz_key (2 ^ k) (2 ^ k) (by omega) (by omega) hand
  have hx0 : (((2 ^ k : Nat) : Int) == 0) = false := by rw [beq_eq_false_iff_ne]; omega
  have c64 := tz_core (2 ^ k) k (tzI k) w hx0 key hi hk hcell
  clear key hcell hx0 hand hv ht hi hp
  generalize 2 ^ k = x at *
  go_enter Tryz.func113, Tryz.ntmps113
  go_wp2_with (go_at_call 138; refine Calls.mono c64 ?_; rintro e w' ⟨rfl, hw⟩; rw [hw]; clear hw)
  go_ret
  exact ⟨rfl, rfl⟩

end Go.Proofs.YtmggccepmicjhacGreatDoor

/-! What turned and Order of package ntt answer. -/
namespace Go.Proofs.YtmggccepmicjhacGreatDoor
open Go.RowKit

/-- The first m of n ints, noughts behind them. -/
def SI (n m : Nat) (f : Nat → Nat) : List Nat := (List.range m).map f ++ List.replicate (n - m) 0
theorem SI_zero (n : Nat) (f : Nat → Nat) : SI n 0 f = List.replicate n 0 := by simp [SI]
theorem SI_length {n m : Nat} (f : Nat → Nat) (h : m ≤ n) : (SI n m f).length = n := by
  unfold SI
  simp; omega
theorem SI_set {n m : Nat} (f : Nat → Nat) (h : m < n) : (SI n m f).set m (f m) = SI n (m + 1) f := by
  unfold SI
  obtain ⟨r, hr⟩ : ∃ r, n - m = r + 1 := ⟨n - m - 1, by omega⟩
  rw [hr, show n - (m + 1) = r by omega, List.set_append_right _ _ (by simp), List.length_map, List.length_range, Nat.sub_self, List.replicate_succ, List.set_cons_zero, List.range_succ, List.map_append, List.append_assoc]; rfl
theorem SI_full (n : Nat) (f : Nat → Nat) : SI n n f = (List.range n).map f := by simp [SI]

set_option maxHeartbeats 2000000 in
theorem ntt_turned (w : World) (k : Nat) (hk : k ≤ 10) :
    Calls Tryz.prog 114 #[.int .i64 (k : Int)] w fun e w' => ∃ g, e = .returned (.slice (some ⟨g, 0, none⟩) (2 ^ k) (2 ^ k)) ∧ w.heap.size ≤ g ∧ RowI w' g (ord k) ∧ Below w.heap.size w w' := by
  obtain ⟨hpow, hN9⟩ := two_pow_bound k hk
  have hrev : Hid (∀ i, i < 2 ^ k → rev64 i / 2 ^ (64 - k) = rv k i) := fun i hi => rev64_rv k i hk hi
  have hord : Hid (SI (2 ^ k) (2 ^ k) (rv k) = ord k) := SI_full _ _
  have hsub : (64 : Int) - (k : Int) = ((64 - k : Nat) : Int) := by omega
  have hlt : ∀ i, rv k i < 2 ^ k := fun i => by
    have := rvK_le k i k (Nat.le_refl _)
    rw [Nat.sub_self, Nat.pow_zero] at this
    unfold rv; omega
  generalize 2 ^ k = N at *
  have hn9 : N ≤ 1000000000 := by omega
  go_enter Tryz.func114, Tryz.ntmps114
  go_wp2_with (at_make; refine wp_makeI rfl _ _ rfl N rfl rfl hn9 ?_; intro g w2 hg hrow hb)
  have hgw : w.heap.size ≤ g := Nat.le_of_eq hg.out.symm
  clear hg
  go_loopw [10] (fun vi wr => ∃ i : Nat, i ≤ N ∧ vi = .int .i64 (i : Int) ∧ RowI wr g (SI N i (rv k)) ∧ Below w.heap.size w wr)
    (fun vi _ => N - (intOf vi).toNat)
  case atStart => exact ⟨0, Nat.zero_le _, rfl, hrow.cast (SI_zero _ _).symm, hb⟩
  case round =>
    clear hrow hb
    obtain ⟨i, hi, rfl, hrow, hnx⟩ := hrel
    by_cases hlti : i < N
    · have hc := hrow.cell i (by rw [SI_length _ hi]; exact hlti)
      have hfr := hrow.frozen i
      have hset := hrow.set i (rv k i)
      rw [SI_set _ hlti] at hset
      have hB2 := fun (u : Value) => hnx.setCell (p := ⟨g, i, none⟩) hgw u
      have cR := bits_Reverse64 i (by omega)
      have hq := hrev.out i hlti
      have hrl := hlt i
      have hsh : ((rev64 i : Nat) : Int) / 2 ^ (64 - k) = ((rv k i : Nat) : Int) := by
        rw [← hq, Int.natCast_ediv, Int.natCast_pow]; rfl
      clear hq hrev hlt
      generalize (SI N i (rv k)).getD i 0 = old at *
      generalize rev64 i = r at *
      generalize rv k i = z at *
      go_wp2_with (go_at_call 139; refine Calls.mono (cR _) ?_; rintro e w' ⟨rfl, hw⟩; rw [hw]; clear hw)
      go_roundw
      case rel => exact ⟨i + 1, by omega, by go_num, hset, hB2 _⟩
      case measure => simp only [intOf]; omega
    · have e : i = N := by omega
      subst e
      rw [hord.out] at hrow
      have hge : i ≤ i := Nat.le_refl _
      clear hrev hlt hpow hord
      go_wp2
      go_ret
      exact ⟨g, rfl, hgw, hrow, hnx⟩


end Go.Proofs.YtmggccepmicjhacGreatDoor

/-! Transforms by halves, in the order of turned bits: what the steps of package ntt do to lists; no program in sight. -/
namespace Go.Proofs.YtmggccepmicjhacGreatDoor

theorem rvK_step (m b c j : Nat) (hc : c < 2) : rvK (m + 1) (2 * b + c) (j + 1) = c * 2 ^ m + rvK m b j := by
  induction j with
  | zero =>
    show 0 + (2 * b + c) / 2 ^ 0 % 2 * 2 ^ (m + 1 - 1 - 0) = c * 2 ^ m + 0
    rw [Nat.pow_zero, Nat.div_one, show (2 * b + c) % 2 = c by omega, show m + 1 - 1 - 0 = m by omega]; omega
  | succ j ih =>
    rw [rvK, ih, show rvK m b (j + 1) = rvK m b j + b / 2 ^ j % 2 * 2 ^ (m - 1 - j) from rfl]
    have e : (2 * b + c) / 2 ^ (j + 1) = b / 2 ^ j := by
      rw [show 2 ^ (j + 1) = 2 * 2 ^ j by rw [Nat.pow_succ]; omega, ← Nat.div_div_eq_div_mul, show (2 * b + c) / 2 = b by omega]
    rw [e, show m + 1 - 1 - (j + 1) = m - 1 - j by omega]; omega
theorem rv_even (m b : Nat) : rv (m + 1) (2 * b) = rv m b := by
  have := rvK_step m b 0 m (by decide)
  unfold rv
  rw [show 2 * b + 0 = 2 * b from rfl] at this
  rw [this]; omega
theorem rv_odd (m b : Nat) : rv (m + 1) (2 * b + 1) = rv m b + 2 ^ m := by
  have := rvK_step m b 1 m (by decide)
  unfold rv
  rw [this]; omega
theorem rv_lt (k i : Nat) : rv k i < 2 ^ k := by
  have := rvK_le k i k (Nat.le_refl _)
  rw [Nat.sub_self, Nat.pow_zero] at this
  unfold rv; omega

/-- Of 2^k numbers f: the transform of part b of those that step s has, each 2^(k-s)-th of them. -/
def Dk (w : F) (k : Nat) (f : Nat → F) (s b t : Nat) : F := dft (pw w (2 ^ (k - s))) (2 ^ s) (fun i => f (rv (k - s) b + i * 2 ^ (k - s))) t

theorem Dk_zero (w : F) (k : Nat) (f : Nat → F) (b : Nat) : Dk w k f 0 b 0 = f (rv k b) := by
  unfold Dk dft
  rw [Nat.pow_zero, S_succ, S_zero, Nat.mul_zero, pw_zero, Nat.sub_zero]
  show 0 + f (rv k b + 0 * 2 ^ k) * 1 = f (rv k b)
  rw [Nat.zero_mul, Nat.add_zero]; grind
theorem Dk_end (w : F) (k : Nat) (f : Nat → F) (t : Nat) : Dk w k f k 0 t = dft w (2 ^ k) f t := by
  unfold Dk
  have e : pw w 1 = w := by rw [show (1 : Nat) = 0 + 1 from rfl, pw_succ, pw_zero]; grind
  rw [Nat.sub_self, Nat.pow_zero, e]
  refine dft_congr (fun i _ => ?_) t
  rw [show rv 0 0 = 0 from rfl, Nat.mul_one, Nat.zero_add]
theorem Ord.pow {w : F} {k m s : Nat} (h : Ord w k) (e : m + s = k) : Ord (pw w (2 ^ m)) s := by
  refine ⟨?_, fun j hj => ?_⟩
  · rw [← pw_mul, ← Nat.pow_add, e]; exact h.one
  · rw [← pw_mul, ← Nat.pow_add]; exact h.half (m + j) (by omega)
theorem pw_double (w : F) (m : Nat) : pw w (2 ^ m) * pw w (2 ^ m) = pw w (2 ^ (m + 1)) := by
  rw [← pw_add]; congr 1; rw [Nat.pow_succ]; omega
theorem Dk_parts (w : F) (f : Nat → F) (m s b t : Nat) : dft (pw w (2 ^ m) * pw w (2 ^ m)) (2 ^ s) (fun i => f (rv m b + 2 * i * 2 ^ m)) t = Dk w (s + 1 + m) f s (2 * b) t ∧
    dft (pw w (2 ^ m) * pw w (2 ^ m)) (2 ^ s) (fun i => f (rv m b + (2 * i + 1) * 2 ^ m)) t = Dk w (s + 1 + m) f s (2 * b + 1) t := by
  unfold Dk
  rw [pw_double, show s + 1 + m - s = m + 1 by omega, rv_even, rv_odd]
  refine ⟨dft_congr (fun i _ => ?_) t, dft_congr (fun i _ => ?_) t⟩
  · congr 1; rw [Nat.pow_succ]; grind
  · congr 1; rw [Nat.pow_succ]; grind
theorem Dk_low (w : F) (f : Nat → F) (m s b t : Nat) : Dk w (s + 1 + m) f (s + 1) b t = Dk w (s + 1 + m) f s (2 * b) t + Dk w (s + 1 + m) f s (2 * b + 1) t * pw (pw w (2 ^ m)) t := by
  obtain ⟨h1, h2⟩ := Dk_parts w f m s b t
  rw [← h1, ← h2]
  conv => lhs; unfold Dk
  rw [show s + 1 + m - (s + 1) = m by omega, Nat.pow_succ, Nat.mul_comm (2 ^ s) 2, dft_halves]
  grind
theorem Dk_high {w : F} {m s : Nat} (h : Ord w (s + 1 + m)) (f : Nat → F) (b t : Nat) : Dk w (s + 1 + m) f (s + 1) b (t + 2 ^ s) = Dk w (s + 1 + m) f s (2 * b) t - Dk w (s + 1 + m) f s (2 * b + 1) t * pw (pw w (2 ^ m)) t := by
  obtain ⟨h1, h2⟩ := Dk_parts w f m s b t
  rw [← h1, ← h2]
  conv => lhs; unfold Dk
  rw [show s + 1 + m - (s + 1) = m by omega, Nat.pow_succ, Nat.mul_comm (2 ^ s) 2, dft_upper (h.pow (m := m) (s := s + 1) (by omega))]
  grind

/-- Powers, one by one. -/
def pwJ (r : Nat) : Nat → Nat
  | 0 => 1
  | i + 1 => fM (pwJ r i) r
theorem pwJ_F (r i : Nat) : toF (pwJ r i) = pw (toF r) i := by
  induction i with
  | zero => rw [pwJ, pw_zero, toF_one]
  | succ i ih => rw [pwJ, toF_fM, ih, pw_succ]
theorem pwJ_lt (r i : Nat) : ((pwJ r i : Nat) : Int) < 18446744073709551616 := by
  cases i with
  | zero => show ((1 : Nat) : Int) < _; decide
  | succ i => rw [pwJ]; have := fM_lt (pwJ r i) r; omega

theorem cf_setN (l : List Nat) (i x t : Nat) (hi : i < l.length) : cf (l.set i x) t = if t = i then toF x else cf l t := by
  unfold cf
  by_cases h : t = i
  · subst h; simp [List.getD, hi]
  · rw [if_neg h]; simp [List.getD, Ne.symm h]

/-- The halves of 2h numbers from the place o on, i of each joined by the powers of r. -/
def joinK (zs : List Nat) (o h r : Nat) : Nat → List Nat
  | 0 => zs
  | i + 1 => ((joinK zs o h r i).set (o + i) (fA ((joinK zs o h r i).getD (o + i) 0) (fM ((joinK zs o h r i).getD (o + (i + h)) 0) (pwJ r i)))).set (o + (i + h)) (fS ((joinK zs o h r i).getD (o + i) 0) (fM ((joinK zs o h r i).getD (o + (i + h)) 0) (pwJ r i)))
theorem joinK_length (zs : List Nat) (o h r i : Nat) : (joinK zs o h r i).length = zs.length := by
  induction i with
  | zero => rfl
  | succ i ih => rw [joinK, List.length_set, List.length_set, ih]
theorem joinK_P (zs : List Nat) (o h r i : Nat) (hz : ∀ x ∈ zs, x < P) : ∀ x ∈ joinK zs o h r i, x < P := by
  induction i with
  | zero => exact hz
  | succ i ih =>
    intro x hx
    rw [joinK] at hx
    rcases List.mem_or_eq_of_mem_set hx with h1 | h1
    · rcases List.mem_or_eq_of_mem_set h1 with h2 | h2
      · exact ih x h2
      · rw [h2]; have := fA_lt ((joinK zs o h r i).getD (o + i) 0) (fM ((joinK zs o h r i).getD (o + (i + h)) 0) (pwJ r i)); unfold P; omega
    · rw [h1]; have := fS_lt ((joinK zs o h r i).getD (o + i) 0) (fM ((joinK zs o h r i).getD (o + (i + h)) 0) (pwJ r i)); unfold P; omega
theorem cf_joinK (zs : List Nat) (o h r i : Nat) (hi : i ≤ h) (hl : o + 2 * h ≤ zs.length) (j : Nat) : cf (joinK zs o h r i) j =
    if o ≤ j ∧ j < o + i then cf zs j + cf zs (j + h) * pw (toF r) (j - o)
    else if o + h ≤ j ∧ j < o + h + i then cf zs (j - h) - cf zs j * pw (toF r) (j - h - o) else cf zs j := by
  induction i generalizing j with
  | zero => rw [if_neg (by omega), if_neg (by omega)]; rfl
  | succ i ih =>
    have h1 := ih (by omega) (o + i)
    have h2 := ih (by omega) (o + (i + h))
    rw [if_neg (by omega), if_neg (by omega)] at h1 h2
    rw [joinK, cf_setN _ _ _ _ (by rw [List.length_set, joinK_length]; omega), cf_setN _ _ _ _ (by rw [joinK_length]; omega), toF_fA, toF_fS, toF_fM, pwJ_F]
    show (if j = o + (i + h) then cf (joinK zs o h r i) (o + i) - cf (joinK zs o h r i) (o + (i + h)) * pw (toF r) i else if j = o + i then cf (joinK zs o h r i) (o + i) + cf (joinK zs o h r i) (o + (i + h)) * pw (toF r) i else cf (joinK zs o h r i) j) = _
    rw [h1, h2]
    by_cases e1 : j = o + (i + h)
    · rw [if_pos e1, if_neg (by omega), if_pos (by omega), show j - h = o + i by omega, show o + i - o = i by omega, e1]
    · rw [if_neg e1]
      by_cases e2 : j = o + i
      · rw [if_pos e2, if_pos (by omega), show j - o = i by omega, e2, show o + i + h = o + (i + h) by omega]
      · rw [if_neg e2, ih (by omega) j]
        by_cases e3 : o ≤ j ∧ j < o + i
        · rw [if_pos e3, if_pos (by omega)]
        · rw [if_neg e3, if_neg (show ¬(o ≤ j ∧ j < o + (i + 1)) by omega)]
          by_cases e4 : o + h ≤ j ∧ j < o + h + i
          · rw [if_pos e4, if_pos (by omega)]
          · rw [if_neg e4, if_neg (by omega)]

/-- Step s is done. -/
structure Alls (w : F) (k : Nat) (f : Nat → F) (s : Nat) (zs : List Nat) : Prop where
  len : zs.length = 2 ^ k
  low : ∀ x ∈ zs, x < P
  all : ∀ b t, b < 2 ^ (k - s) → t < 2 ^ s → cf zs (b * 2 ^ s + t) = Dk w k f s b t
/-- Step s is done, and of the next one the first B parts. -/
structure Halfs (w : F) (k : Nat) (f : Nat → F) (s B : Nat) (zs : List Nat) : Prop where
  len : zs.length = 2 ^ k
  low : ∀ x ∈ zs, x < P
  done : ∀ b t, b < B → t < 2 ^ (s + 1) → cf zs (b * 2 ^ (s + 1) + t) = Dk w k f (s + 1) b t
  left : ∀ b t, 2 * B ≤ b → b < 2 ^ (k - s) → t < 2 ^ s → cf zs (b * 2 ^ s + t) = Dk w k f s b t
theorem Alls.start {w : F} {k s : Nat} {f : Nat → F} {zs : List Nat} (h : Alls w k f s zs) : Halfs w k f s 0 zs :=
  ⟨h.len, h.low, fun _ _ hb _ => absurd hb (Nat.not_lt_zero _), fun b t _ hb ht => h.all b t hb ht⟩
theorem Halfs.stop {w : F} {k s B : Nat} {f : Nat → F} {zs : List Nat} (h : Halfs w k f s B zs) (hB : B = 2 ^ (k - (s + 1))) : Alls w k f (s + 1) zs :=
  ⟨h.len, h.low, fun b t hb ht => h.done b t (hB ▸ hb) ht⟩
theorem Halfs.step {w : F} {k s B r : Nat} {f : Nat → F} {zs : List Nat} (h : Halfs w k f s B zs) (hw : Ord w k) (hs : s + 1 ≤ k) (hB : B < 2 ^ (k - (s + 1))) (hr : toF r = pw w (2 ^ (k - (s + 1)))) :
    Halfs w k f s (B + 1) (joinK zs (B * 2 ^ (s + 1)) (2 ^ s) r (2 ^ s)) := by
  obtain ⟨m, rfl⟩ : ∃ m, k = s + 1 + m := ⟨k - (s + 1), by omega⟩
  rw [show s + 1 + m - (s + 1) = m by omega] at hB hr
  have hlen := h.len
  have hleft := h.left
  have hdone := h.done
  have hlow := Dk_low w f m s
  have hhigh := Dk_high hw f
  have e1 : 2 ^ (s + 1) = 2 * 2 ^ s := by rw [Nat.pow_succ]; omega
  have e2 : 2 ^ (s + 1 + m) = 2 ^ m * (2 * 2 ^ s) := by rw [Nat.pow_add, e1, Nat.mul_comm]
  have e3 : 2 ^ (s + 1 + m - s) = 2 ^ m * 2 := by rw [show s + 1 + m - s = m + 1 by omega, Nat.pow_succ]
  rw [e2] at hlen
  rw [e3] at hleft
  rw [e1] at hdone ⊢
  rw [← hr] at hlow hhigh
  have hp : 0 < 2 ^ s := Nat.pow_pos (by decide)
  have hfit : (B + 1) * (2 * 2 ^ s) ≤ zs.length := by rw [hlen]; exact Nat.mul_le_mul_right _ hB
  rw [Nat.add_mul, Nat.one_mul] at hfit
  have hcf := cf_joinK zs (B * (2 * 2 ^ s)) (2 ^ s) r (2 ^ s) (Nat.le_refl _) hfit
  refine ⟨by rw [joinK_length]; exact h.len, joinK_P _ _ _ _ _ h.low, ?_, ?_⟩
  · intro b t hb ht
    rw [e1] at ht ⊢
    rw [hcf]
    rcases Nat.lt_or_ge b B with hb1 | hb1
    · have h3 : (b + 1) * (2 * 2 ^ s) ≤ B * (2 * 2 ^ s) := Nat.mul_le_mul_right _ hb1
      rw [Nat.add_mul, Nat.one_mul] at h3
      rw [if_neg (by omega), if_neg (by omega)]
      exact hdone b t hb1 ht
    · have hbB : b = B := by omega
      subst hbB
      have a1 : ∀ u, b * (2 * 2 ^ s) + u = 2 * b * 2 ^ s + u := fun u => by grind
      have a2 : ∀ u, b * (2 * 2 ^ s) + u + 2 ^ s = (2 * b + 1) * 2 ^ s + u := fun u => by grind
      rcases Nat.lt_or_ge t (2 ^ s) with ht1 | ht1
      · rw [if_pos (by omega), show b * (2 * 2 ^ s) + t - b * (2 * 2 ^ s) = t by omega, a2, a1, hleft (2 * b) t (by omega) (by omega) ht1, hleft (2 * b + 1) t (by omega) (by omega) ht1, hlow]
      · obtain ⟨u, rfl⟩ : ∃ u, t = u + 2 ^ s := ⟨t - 2 ^ s, by omega⟩
        rw [if_neg (by omega), if_pos (by omega), show b * (2 * 2 ^ s) + (u + 2 ^ s) - 2 ^ s = b * (2 * 2 ^ s) + u by omega, show b * (2 * 2 ^ s) + u - b * (2 * 2 ^ s) = u by omega,
          show b * (2 * 2 ^ s) + (u + 2 ^ s) = b * (2 * 2 ^ s) + u + 2 ^ s by omega, a2, a1, hleft (2 * b) u (by omega) (by omega) (by omega), hleft (2 * b + 1) u (by omega) (by omega) (by omega), hhigh]
  · intro b t hb1 hb2 ht
    rw [e3] at hb2
    have h3 : (2 * (B + 1)) * 2 ^ s ≤ b * 2 ^ s := Nat.mul_le_mul_right _ hb1
    have h4 : (2 * (B + 1)) * 2 ^ s = B * (2 * 2 ^ s) + 2 * 2 ^ s := by grind
    rw [hcf, if_neg (by omega), if_neg (by omega)]
    exact hleft b t (by omega) hb2 ht

end Go.Proofs.YtmggccepmicjhacGreatDoor
