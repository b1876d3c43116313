/-
  What Inv of package goldref answers: the inverse by EUCLID's steps is the power below the last one.
-/
import Derived.Test.YtgkepflnnoociacDoorRefS
namespace Go.Proofs.YtgkepflnnoociacDoor
open Go.RowKit

theorem cancel {A B C D : Nat} (h1 : (A + B) % P = (C + D) % P) (h2 : B % P = D % P) : A % P = C % P := by
  unfold P at *; omega
theorem fS_add (x y : Nat) : (fS x y + y) % P = x % P := by
  rw [fS_eq]; unfold P; omega

theorem euclid_step (a r n x t : Nat) (hx : x * a % P = r % P) (ht : t * a % P = n % P) : fS x (fM (r / n) t) * a % P = (r % n) % P := by
  have h1 : (fS x (fM (r / n) t) * a + fM (r / n) t * a) % P = (r % n + r / n * n) % P := by
    rw [← Nat.add_mul, Nat.mul_mod, fS_add, ← Nat.mul_mod, hx, Nat.mod_add_div']
  refine cancel h1 ?_
  rw [fM_eq, Nat.mod_mul_mod, Nat.mul_assoc, Nat.mul_mod, ht, ← Nat.mul_mod]

theorem gcd_step {r n : Nat} (h : Nat.gcd r n = 1) : Nat.gcd n (r % n) = 1 := by
  rw [Nat.gcd_comm, ← Nat.gcd_rec, Nat.gcd_comm]; exact h

set_option maxHeartbeats 1000000 in
theorem ref_Inv (a : Nat) (h0 : fN a ≠ 0) (w : World) :
    Calls Tryd.prog 112 #[.int .u64 (a : Int)] w fun e w' => e = .returned (.int .u64 ((fW a 18446744069414584319 : Nat) : Int)) ∧ w' = w := by
  have ea := rem_fN a
  have bn := fN_lt a
  have hg : Hid (Nat.gcd P (fN a) = 1) := by
    show Nat.gcd P (fN a) = 1
    rcases prime_P.2 _ (Nat.gcd_dvd_left P (fN a)) with h | h
    · exact h
    · exfalso
      have h2 : P ∣ fN a := by rw [← h]; exact Nat.gcd_dvd_right P (fN a)
      have h3 := Nat.le_of_dvd (by omega) h2
      unfold P at h3; omega
  have hta : Hid (1 * a % P = fN a % P) := by
    show 1 * a % P = fN a % P
    rw [fN_eq, Nat.mod_mod, Nat.one_mul]
  have hfin : Hid (∀ x : Nat, (x : Int) < 18446744069414584321 → x * a % P = 1 → x = fW a 18446744069414584319) := fun x hx h => inv_unique a x h0 (by unfold P; omega) h
  clear h0
  generalize fW a 18446744069414584319 = z at *
  generalize fN a = n0 at *
  go_enter Tryd.func112, Tryd.ntmps112
  go_wp2
  simp only [ea]
  clear ea
  go_loop [3, 4, 5, 6] (fun vr vn vx vt => ∃ r n x t : Nat, vr = .int .u64 (r : Int) ∧ vn = .int .u64 (n : Int) ∧ vx = .int .u64 (x : Int) ∧ vt = .int .u64 (t : Int) ∧ (r : Int) < 18446744073709551616 ∧ (n : Int) < 18446744073709551616 ∧ (x : Int) < 18446744069414584321 ∧ (t : Int) < 18446744069414584321 ∧ Hid (Nat.gcd r n = 1) ∧ Hid (x * a % P = r % P) ∧ Hid (t * a % P = n % P))
    (fun _ vn _ _ => (intOf vn).toNat)
  case atStart => exact ⟨P, n0, 0, 1, rfl, rfl, rfl, rfl, by unfold P; omega, by omega, by omega, by omega, hg, by show 0 * a % P = P % P; rw [Nat.zero_mul, Nat.zero_mod, Nat.mod_self], hta⟩
  case round =>
    obtain ⟨r, n, x, t, rfl, rfl, rfl, rfl, hr, hn, hx, ht, hG, hX, hT⟩ := hrel
    rcases Nat.eq_zero_or_pos n with h | h
    · subst h
      have e : x = z := by
        have g : r = 1 := by rw [← hG.out, Nat.gcd_zero_right]
        have hX' := hX.out
        rw [g] at hX'
        exact hfin.out x hx (hX'.trans (by decide))
      subst e
      clear hfin hG hX hT hg hta
      go_wp2
      go_ret
      exact ⟨rfl, rfl⟩
    · have hne : ((n : Int) != 0) = true := by simp; omega
      have hle : (r / n * n : Nat) ≤ r := Nat.div_mul_le_self r n
      have eq1 : (r : Int) / (n : Int) = ((r / n : Nat) : Int) := (Int.natCast_ediv r n).symm
      have hmod : r - r / n * n = r % n := by
        have := Nat.mod_add_div' r n
        omega
      have hlt : r % n < n := Nat.mod_lt r h
      have hX' : Hid (fS x (fM (r / n) t) * a % P = (r % n) % P) := euclid_step a r n x t hX.out hT.out
      have hG' : Hid (Nat.gcd n (r % n) = 1) := gcd_step hG.out
      have hq : r / n ≤ r := Nat.div_le_self r n
      generalize r / n = q at *
      generalize r % n = m at *
      have hle' : (q : Int) * (n : Int) ≤ (r : Int) := by rw [← Int.natCast_mul]; omega
      have hmod' : Hid ((r : Int) - (q : Int) * (n : Int) = (m : Int)) := by
        show (r : Int) - (q : Int) * (n : Int) = (m : Int)
        rw [← Int.natCast_mul]; omega
      have hq0 : 0 ≤ (q : Int) * (n : Int) := by rw [← Int.natCast_mul]; omega
      clear hle hmod
      have b1 := fM_lt q t
      have b2 := fS_lt x (fM q t)
      go_wp2_with (first
        | (go_at_call 61; refine Calls.mono (ref_Mul _ _ _) ?_; rintro e w' ⟨rfl, hw⟩; rw [hw]; clear hw)
        | (go_at_call 146; refine Calls.mono (ref_Sub _ _ _) ?_; rintro e w' ⟨rfl, hw⟩; rw [hw]; clear hw))
      go_round
      case rel => exact ⟨n, m, t, fS x (fM q t), rfl, by rw [← hmod'.out], rfl, rfl, hn, by omega, ht, b2, hG', hT, hX'⟩
      case measure => simp only [intOf]; rw [hmod'.out]; omega

end Go.Proofs.YtgkepflnnoociacDoor
