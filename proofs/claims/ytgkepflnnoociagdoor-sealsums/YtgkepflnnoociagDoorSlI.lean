/-
  Slices of ints that hold natural numbers, as lists; bits read from the other end.
-/
import Derived.Test.YtgkepflnnoociagDoorSl
import Derived.Laws.BitsLemmas
namespace Go.Proofs.YtgkepflnnoociagDoor
open Go.RowKit

/-- The slice value v reads in the world w as the numbers xs, of type int. -/
def IsI (w : World) (v : Value) (xs : List Nat) : Prop :=
  ∃ (a : Option Addr) (cap : Nat), v = .slice a xs.length cap ∧ xs.length ≤ cap ∧ cap ≤ maxLen ∧
    (∀ i, i < xs.length → ∃ b off, a = some ⟨b, off, none⟩ ∧ w.cell? ⟨b, off + i, none⟩ = some (.int .i64 ((xs.getD i 0 : Nat) : Int)))
theorem IsI.below {w w' : World} {v : Value} {xs : List Nat} (h : IsI w v xs) (hb : Below w.heap.size w w') : IsI w' v xs := by
  obtain ⟨a, cap, rfl, h1, h2, hc⟩ := h
  refine ⟨a, cap, rfl, h1, h2, fun i hi => ?_⟩
  obtain ⟨b, off, rfl, hcell⟩ := hc i hi
  exact ⟨b, off, rfl, (hb.cell (block_lt hcell)).trans hcell⟩
theorem IsI.nil (w : World) : IsI w (.slice none 0 0) [] :=
  ⟨none, 0, rfl, by simp, by simp [maxLen], fun i hi => by simp at hi⟩
theorem IsI.cast {w : World} {v : Value} {l l' : List Nat} (h : IsI w v l) (e : l = l') : IsI w v l' := e ▸ h

/-- The first b of i's bits, read into k bits from the other end. -/
def rvK (k i : Nat) : Nat → Nat
  | 0 => 0
  | b + 1 => rvK k i b + i / 2 ^ b % 2 * 2 ^ (k - 1 - b)
/-- All k of them. -/
def rv (k i : Nat) : Nat := rvK k i k
/-- The numbers from 0 to 2^k - 1, each read from the other end. -/
def ord (k : Nat) : List Nat := (List.range (2 ^ k)).map (rv k)
theorem ord_length (k : Nat) : (ord k).length = 2 ^ k := by simp [ord]
theorem ord_get (k i : Nat) (h : i < 2 ^ k) : (ord k).getD i 0 = rv k i := by simp [ord, List.getD, h]

theorem rvK_dvd (k i b : Nat) (hb : b ≤ k) : 2 ^ (k - b) ∣ rvK k i b := by
  induction b with
  | zero => exact Nat.dvd_zero _
  | succ b ih =>
    rw [rvK]
    have h1 : 2 ^ (k - (b + 1)) ∣ rvK k i b := Nat.dvd_trans (Nat.pow_dvd_pow 2 (by omega)) (ih (by omega))
    have h2 : 2 ^ (k - (b + 1)) ∣ i / 2 ^ b % 2 * 2 ^ (k - 1 - b) := by
      rw [show k - (b + 1) = k - 1 - b by omega]
      exact Nat.dvd_mul_left _ _
    exact Nat.dvd_add h1 h2
theorem rvK_le (k i b : Nat) (hb : b ≤ k) : rvK k i b + 2 ^ (k - b) ≤ 2 ^ k := by
  induction b with
  | zero => simp [rvK]
  | succ b ih =>
    rw [rvK]
    have ih' := ih (by omega)
    have e : 2 ^ (k - b) = 2 ^ (k - 1 - b) + 2 ^ (k - 1 - b) := by
      rw [show k - b = k - 1 - b + 1 by omega, Nat.pow_succ]; omega
    rw [show k - (b + 1) = k - 1 - b by omega]
    have h2 : i / 2 ^ b % 2 * 2 ^ (k - 1 - b) ≤ 2 ^ (k - 1 - b) := by
      generalize 2 ^ (k - 1 - b) = q
      rcases Nat.mod_two_eq_zero_or_one (i / 2 ^ b) with h | h <;> rw [h] <;> omega
    omega
theorem bit_lt (k i b : Nat) (hb : b < k) : i / 2 ^ b % 2 * 2 ^ (k - 1 - b) < 2 ^ (k - b) := by
  have e : 2 ^ (k - b) = 2 ^ (k - 1 - b) + 2 ^ (k - 1 - b) := by
    rw [show k - b = k - 1 - b + 1 by omega, Nat.pow_succ]; omega
  have hp : 0 < 2 ^ (k - 1 - b) := Nat.pow_pos (by decide)
  rcases Nat.mod_two_eq_zero_or_one (i / 2 ^ b) with h | h <;> rw [h] <;> omega

theorem wraps_i64 (n : Int) (h1 : 0 ≤ n) (h2 : n < 2 ^ 62) : IntKind.i64.wrap n = n := by rw [IntKind.wrap_i64]; omega
theorem and_one (x : Nat) (hx : x ≤ 1024) : bits .and .i64 (x : Int) 1 = ((x % 2 : Nat) : Int) := by
  have := (bits_nat .i64 62 (by decide) wraps_i64 x 1 (by omega) (by decide)).1
  rw [Nat.and_one_is_mod] at this
  exact this
theorem or_join (r y s : Nat) (hd : 2 ^ s ∣ r) (hy : y < 2 ^ s) (hr : r < 2 ^ 62) (hy2 : y < 2 ^ 62) : bits .or .i64 (r : Int) (y : Int) = ((r + y : Nat) : Int) := by
  rw [(bits_nat .i64 62 (by decide) wraps_i64 r y hr hy2).2]
  obtain ⟨c, rfl⟩ := hd
  rw [← Nat.two_pow_add_eq_or_of_lt hy c]
theorem rv_or (k i b : Nat) (hb : b < k) (hk : 2 ^ k ≤ 1024) (hi : i ≤ 1024) :
    bits .or .i64 ((rvK k i b : Nat) : Int) (wrap64 (bits .and .i64 ((i : Int) / 2 ^ b) 1 * 2 ^ (k - 1 - b))) = ((rvK k i (b + 1) : Nat) : Int) := by
  have hp2 : ∀ t : Nat, (2 : Int) ^ t = ((2 ^ t : Nat) : Int) := fun t => by rw [Int.natCast_pow]; rfl
  have hdiv : (i : Int) / 2 ^ b = ((i / 2 ^ b : Nat) : Int) := by rw [hp2, ← Int.natCast_ediv]
  have hdl : i / 2 ^ b ≤ 1024 := Nat.le_trans (Nat.div_le_self _ _) hi
  have h3 := bit_lt k i b hb
  have h4 := rvK_le k i b (by omega)
  have h5 := rvK_dvd k i b (by omega)
  have h7 : 2 ^ (k - b) ≤ 2 ^ k := Nat.pow_le_pow_right (by decide) (by omega)
  have e2 : ((i / 2 ^ b % 2 : Nat) : Int) * 2 ^ (k - 1 - b) = ((i / 2 ^ b % 2 * 2 ^ (k - 1 - b) : Nat) : Int) := by
    rw [hp2, ← Int.natCast_mul]
  rw [hdiv, and_one _ hdl, e2, show rvK k i (b + 1) = rvK k i b + i / 2 ^ b % 2 * 2 ^ (k - 1 - b) from rfl]
  clear hdiv e2
  generalize i / 2 ^ b % 2 * 2 ^ (k - 1 - b) = y at *
  have e3 : wrap64 (y : Int) = (y : Int) := by unfold wrap64; omega
  rw [e3]
  generalize rvK k i b = r at *
  have hr : r < 2 ^ 62 := by omega
  have hy : y < 2 ^ 62 := by omega
  exact or_join r y (k - b) h5 h3 hr hy

end Go.Proofs.YtgkepflnnoociagDoor
