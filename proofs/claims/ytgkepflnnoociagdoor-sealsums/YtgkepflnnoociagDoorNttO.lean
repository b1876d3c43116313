/-
  What turned and Order of package ntt answer.
-/
import Derived.Test.YtgkepflnnoociagDoorRowI
import Derived.Test.YtgkepflnnoociagDoorNttB
namespace Go.Proofs.YtgkepflnnoociagDoor
open Go.RowKit

/-- The first m of n ints, noughts behind them. -/
def SI (n m : Nat) (f : Nat → Nat) : List Nat := (List.range m).map f ++ List.replicate (n - m) 0
theorem SI_zero (n : Nat) (f : Nat → Nat) : SI n 0 f = List.replicate n 0 := by simp [SI]
theorem SI_length {n m : Nat} (f : Nat → Nat) (h : m ≤ n) : (SI n m f).length = n := by
  unfold SI
  simp; omega
theorem SI_set {n m : Nat} (f : Nat → Nat) (h : m < n) : (SI n m f).set m (f m) = SI n (m + 1) f := by
  unfold SI
  obtain ⟨r, hr⟩ : ∃ r, n - m = r + 1 := ⟨n - m - 1, by omega⟩
  rw [hr, show n - (m + 1) = r by omega, List.set_append_right _ _ (by simp), List.length_map, List.length_range, Nat.sub_self, List.replicate_succ, List.set_cons_zero, List.range_succ, List.map_append, List.append_assoc]; rfl
theorem SI_full (n : Nat) (f : Nat → Nat) : SI n n f = (List.range n).map f := by simp [SI]

set_option maxHeartbeats 2000000 in
theorem ntt_turned (w : World) (k : Nat) (hk : k ≤ 10) :
    Calls Tryd.prog 96 #[.int .i64 (k : Int)] w fun e w' => ∃ g, e = .returned (.slice (some ⟨g, 0, none⟩) (2 ^ k) (2 ^ k)) ∧ w.heap.size ≤ g ∧ RowI w' g (ord k) ∧ Below w.heap.size w w' := by
  obtain ⟨hpow, hN9⟩ := two_pow_bound k hk
  have hrev : Hid (∀ i, i < 2 ^ k → rev64 i / 2 ^ (64 - k) = rv k i) := fun i hi => rev64_rv k i hk hi
  have hord : Hid (SI (2 ^ k) (2 ^ k) (rv k) = ord k) := SI_full _ _
  have hsub : (64 : Int) - (k : Int) = ((64 - k : Nat) : Int) := by omega
  have hlt : ∀ i, rv k i < 2 ^ k := fun i => by
    have := rvK_le k i k (Nat.le_refl _)
    rw [Nat.sub_self, Nat.pow_zero] at this
    unfold rv; omega
  generalize 2 ^ k = N at *
  have hn9 : N ≤ 1000000000 := by omega
  go_enter Tryd.func96, Tryd.ntmps96
  go_wp2_with (at_make; refine wp_makeI rfl _ _ rfl N rfl rfl hn9 ?_; intro g w2 hg hrow hb)
  have hgw : w.heap.size ≤ g := Nat.le_of_eq hg.out.symm
  clear hg
  go_loopw [10] (fun vi wr => ∃ i : Nat, i ≤ N ∧ vi = .int .i64 (i : Int) ∧ RowI wr g (SI N i (rv k)) ∧ Below w.heap.size w wr)
    (fun vi _ => N - (intOf vi).toNat)
  case atStart => exact ⟨0, Nat.zero_le _, rfl, hrow.cast (SI_zero _ _).symm, hb⟩
  case round =>
    clear hrow hb
    obtain ⟨i, hi, rfl, hrow, hnx⟩ := hrel
    by_cases hlti : i < N
    · have hc := hrow.cell i (by rw [SI_length _ hi]; exact hlti)
      have hfr := hrow.frozen i
      have hset := hrow.set i (rv k i)
      rw [SI_set _ hlti] at hset
      have hB2 := fun (u : Value) => hnx.setCell (p := ⟨g, i, none⟩) hgw u
      have cR := bits_Reverse64 i (by omega)
      have hq := hrev.out i hlti
      have hrl := hlt i
      have hsh : ((rev64 i : Nat) : Int) / 2 ^ (64 - k) = ((rv k i : Nat) : Int) := by
        rw [← hq, Int.natCast_ediv, Int.natCast_pow]; rfl
      clear hq hrev hlt
      generalize (SI N i (rv k)).getD i 0 = old at *
      generalize rev64 i = r at *
      generalize rv k i = z at *
      go_wp2_with (go_at_call 115; refine Calls.mono (cR _) ?_; rintro e w' ⟨rfl, hw⟩; rw [hw]; clear hw)
      go_roundw
      case rel => exact ⟨i + 1, by omega, by go_num, hset, hB2 _⟩
      case measure => simp only [intOf]; omega
    · have e : i = N := by omega
      subst e
      rw [hord.out] at hrow
      have hge : i ≤ i := Nat.le_refl _
      clear hrev hlt hpow hord
      go_wp2
      go_ret
      exact ⟨g, rfl, hgw, hrow, hnx⟩


end Go.Proofs.YtgkepflnnoociagDoor
