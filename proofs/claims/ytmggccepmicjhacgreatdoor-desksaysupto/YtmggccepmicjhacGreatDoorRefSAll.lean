/-
  Texts that stood one behind the other, as one.
-/
import Derived.Test.YtmggccepmicjhacGreatDoorFieldAll
import Derived.Test.YtmggccepmicjhacGreatDoorRows
import Derived.WalkKit
import Derived.WalkSpells
import Derived.WalkLawsBesides
import Derived.Test.YtmggccepmicjhacGreatDoorDkC1All
import Derived.Test.YtmggccepmicjhacGreatDoorPure
/-! What Sub of package goldref answers, for all numbers of 64 bits: the same number as that of package field. -/
namespace Go.Proofs.YtmggccepmicjhacGreatDoor
open Go.RowKit

theorem sub_add (a b : Nat) : fA a (18446744069414584321 - fN b) = fS a b := by
  rw [fA_eq, fS_eq, fN_eq]; rfl

theorem ref_Sub (a b : Nat) (w : World) :
    Calls Tryz.prog 65 #[.int .u64 (a : Int), .int .u64 (b : Int)] w fun e w' => e = .returned (.int .u64 ((fS a b : Nat) : Int)) ∧ w' = w := by
  have bb := fN_lt b
  have eb := rem_fN b
  have c := ref_Add a (18446744069414584321 - fN b)
  rw [sub_add] at c
  have e : ((18446744069414584321 - fN b : Nat) : Int) = 18446744069414584321 - (fN b : Int) := by omega
  rw [e] at c
  clear e
  go_enter Tryz.func65, Tryz.ntmps65
  go_wp2_with (go_at_call 62; refine Calls.mono (c _) ?_; rintro e w' ⟨rfl, hw⟩; rw [hw]; clear hw)
  go_ret
  exact ⟨rfl, rfl⟩

end Go.Proofs.YtmggccepmicjhacGreatDoor

/-! What Inv of package goldref answers: the inverse by EUCLID's steps is the power below the last one. -/
namespace Go.Proofs.YtmggccepmicjhacGreatDoor
open Go.RowKit

theorem cancel {A B C D : Nat} (h1 : (A + B) % P = (C + D) % P) (h2 : B % P = D % P) : A % P = C % P := by
  unfold P at *; omega
theorem fS_add (x y : Nat) : (fS x y + y) % P = x % P := by
  rw [fS_eq]; unfold P; omega

theorem euclid_step (a r n x t : Nat) (hx : x * a % P = r % P) (ht : t * a % P = n % P) : fS x (fM (r / n) t) * a % P = (r % n) % P := by
  have h1 : (fS x (fM (r / n) t) * a + fM (r / n) t * a) % P = (r % n + r / n * n) % P := by
    rw [← Nat.add_mul, Nat.mul_mod, fS_add, ← Nat.mul_mod, hx, Nat.mod_add_div']
  refine cancel h1 ?_
  rw [fM_eq, Nat.mod_mul_mod, Nat.mul_assoc, Nat.mul_mod, ht, ← Nat.mul_mod]

theorem gcd_step {r n : Nat} (h : Nat.gcd r n = 1) : Nat.gcd n (r % n) = 1 := by
  rw [Nat.gcd_comm, ← Nat.gcd_rec, Nat.gcd_comm]; exact h

set_option maxHeartbeats 1000000 in
theorem ref_Inv (a : Nat) (h0 : fN a ≠ 0) (w : World) :
    Calls Tryz.prog 68 #[.int .u64 (a : Int)] w fun e w' => e = .returned (.int .u64 ((fW a 18446744069414584319 : Nat) : Int)) ∧ w' = w := by
  have ea := rem_fN a
  have bn := fN_lt a
  have hg : Hid (Nat.gcd P (fN a) = 1) := by
    show Nat.gcd P (fN a) = 1
    rcases prime_P.2 _ (Nat.gcd_dvd_left P (fN a)) with h | h
    · exact h
    · exfalso
      have h2 : P ∣ fN a := by rw [← h]; exact Nat.gcd_dvd_right P (fN a)
      have h3 := Nat.le_of_dvd (by omega) h2
      unfold P at h3; omega
  have hta : Hid (1 * a % P = fN a % P) := by
    show 1 * a % P = fN a % P
    rw [fN_eq, Nat.mod_mod, Nat.one_mul]
  have hfin : Hid (∀ x : Nat, (x : Int) < 18446744069414584321 → x * a % P = 1 → x = fW a 18446744069414584319) := fun x hx h => inv_unique a x h0 (by unfold P; omega) h
  clear h0
  generalize fW a 18446744069414584319 = z at *
  generalize fN a = n0 at *
  go_enter Tryz.func68, Tryz.ntmps68
  go_wp2
  simp only [ea]
  clear ea
  go_loop [3, 4, 5, 6] (fun vr vn vx vt => ∃ r n x t : Nat, vr = .int .u64 (r : Int) ∧ vn = .int .u64 (n : Int) ∧ vx = .int .u64 (x : Int) ∧ vt = .int .u64 (t : Int) ∧ (r : Int) < 18446744073709551616 ∧ (n : Int) < 18446744073709551616 ∧ (x : Int) < 18446744069414584321 ∧ (t : Int) < 18446744069414584321 ∧ Hid (Nat.gcd r n = 1) ∧ Hid (x * a % P = r % P) ∧ Hid (t * a % P = n % P))
    (fun _ vn _ _ => (intOf vn).toNat)
  case atStart => exact ⟨P, n0, 0, 1, rfl, rfl, rfl, rfl, by unfold P; omega, by omega, by omega, by omega, hg, by show 0 * a % P = P % P; rw [Nat.zero_mul, Nat.zero_mod, Nat.mod_self], hta⟩
  case round =>
    obtain ⟨r, n, x, t, rfl, rfl, rfl, rfl, hr, hn, hx, ht, hG, hX, hT⟩ := hrel
    rcases Nat.eq_zero_or_pos n with h | h
    · subst h
      have e : x = z := by
        have g : r = 1 := by rw [← hG.out, Nat.gcd_zero_right]
        have hX' := hX.out
        rw [g] at hX'
        exact hfin.out x hx (hX'.trans (by decide))
      subst e
      clear hfin hG hX hT hg hta
      go_wp2
      go_ret
      exact ⟨rfl, rfl⟩
    · have hne : ((n : Int) != 0) = true := by simp; omega
      have hle : (r / n * n : Nat) ≤ r := Nat.div_mul_le_self r n
      have eq1 : (r : Int) / (n : Int) = ((r / n : Nat) : Int) := (Int.natCast_ediv r n).symm
      have hmod : r - r / n * n = r % n := by
        have := Nat.mod_add_div' r n
        omega
      have hlt : r % n < n := Nat.mod_lt r h
      have hX' : Hid (fS x (fM (r / n) t) * a % P = (r % n) % P) := euclid_step a r n x t hX.out hT.out
      have hG' : Hid (Nat.gcd n (r % n) = 1) := gcd_step hG.out
      have hq : r / n ≤ r := Nat.div_le_self r n
      generalize r / n = q at *
      generalize r % n = m at *
      have hle' : (q : Int) * (n : Int) ≤ (r : Int) := by rw [← Int.natCast_mul]; omega
      have hmod' : Hid ((r : Int) - (q : Int) * (n : Int) = (m : Int)) := by
        show (r : Int) - (q : Int) * (n : Int) = (m : Int)
        rw [← Int.natCast_mul]; omega
      have hq0 : 0 ≤ (q : Int) * (n : Int) := by rw [← Int.natCast_mul]; omega
      clear hle hmod
      have b1 := fM_lt q t
      have b2 := fS_lt x (fM q t)
      go_wp2_with (first
        | (go_at_call 63; refine Calls.mono (ref_Mul _ _ _) ?_; rintro e w' ⟨rfl, hw⟩; rw [hw]; clear hw)
        | (go_at_call 65; refine Calls.mono (ref_Sub _ _ _) ?_; rintro e w' ⟨rfl, hw⟩; rw [hw]; clear hw))
      go_round
      case rel => exact ⟨n, m, t, fS x (fM q t), rfl, by rw [← hmod'.out], rfl, rfl, hn, by omega, ht, b2, hG', hT, hX'⟩
      case measure => simp only [intOf]; rw [hmod'.out]; omega

end Go.Proofs.YtmggccepmicjhacGreatDoor

/-! What Log of package goldref answers: of 2^k, k from 0 to 10, k; of other numbers -1. -/
namespace Go.Proofs.YtmggccepmicjhacGreatDoor
open Go.RowKit

theorem two_pow_bound (j : Nat) (hj : j ≤ 10) : ((2 : Int) ^ j) = ((2 ^ j : Nat) : Int) ∧ 2 ^ j ≤ 1024 := by
  refine ⟨by rw [Int.natCast_pow]; rfl, ?_⟩
  exact Nat.le_trans (Nat.pow_le_pow_right (by decide) hj) (by decide)

set_option maxHeartbeats 1000000 in
theorem ref_Log_ok (k : Nat) (hk : k ≤ 10) (w : World) :
    Calls Tryz.prog 30 #[.int .i64 ((2 ^ k : Nat) : Int)] w fun e w' => e = .returned (.int .i64 (k : Int)) ∧ w' = w := by
  obtain ⟨n, hn⟩ : ∃ n : Nat, n = 2 ^ k := ⟨_, rfl⟩
  rw [← hn]
  have hn' : Hid (n = 2 ^ k) := hn
  clear hn
  go_enter Tryz.func30, Tryz.ntmps30
  go_wp2
  go_loop [3] (fun vj => ∃ j : Nat, j ≤ k ∧ vj = .int .i64 (j : Int))
    (fun vj => k - (intOf vj).toNat)
  case atStart => exact ⟨0, Nat.zero_le _, rfl⟩
  case round =>
    obtain ⟨j, hj, rfl⟩ := hrel
    obtain ⟨q, hq⟩ : ∃ q : Nat, q = 2 ^ j := ⟨_, rfl⟩
    obtain ⟨e2, h2⟩ := two_pow_bound j (by omega)
    rw [← hq] at e2 h2
    have hq' : Hid (q = 2 ^ j) := hq
    clear hq
    by_cases hjk : j = k
    · subst hjk
      have e : n = q := hn'.out.trans hq'.out.symm
      subst e
      go_wp2
      go_ret
      exact ⟨rfl, rfl⟩
    · have hne : ((n : Int) == (q : Int)) = false := by
        rw [beq_eq_false_iff_ne]
        intro h
        have h3 : 2 ^ k = 2 ^ j := by rw [← hn'.out, ← hq'.out]; omega
        exact hjk ((Nat.pow_right_inj (show 1 < 2 by decide)).mp h3).symm
      go_wp2
      go_round
      case rel => exact ⟨j + 1, by omega, by go_num⟩
      case measure => simp only [intOf]; omega

set_option maxHeartbeats 1000000 in
theorem ref_Log_none (n : Nat) (hn : ∀ j, j ≤ 10 → n ≠ 2 ^ j) (w : World) :
    Calls Tryz.prog 30 #[.int .i64 (n : Int)] w fun e w' => e = .returned (.int .i64 (-1)) ∧ w' = w := by
  have hn' : Hid (∀ j, j ≤ 10 → n ≠ 2 ^ j) := hn
  clear hn
  go_enter Tryz.func30, Tryz.ntmps30
  go_wp2
  go_loop [3] (fun vj => ∃ j : Nat, j ≤ 11 ∧ vj = .int .i64 (j : Int))
    (fun vj => 11 - (intOf vj).toNat)
  case atStart => exact ⟨0, Nat.zero_le _, rfl⟩
  case round =>
    obtain ⟨j, hj, rfl⟩ := hrel
    by_cases hj10 : j ≤ 10
    · obtain ⟨q, hq⟩ : ∃ q : Nat, q = 2 ^ j := ⟨_, rfl⟩
      obtain ⟨e2, h2⟩ := two_pow_bound j (by omega)
      have hne : ((n : Int) == (q : Int)) = false := by
        rw [beq_eq_false_iff_ne]
        intro h
        exact hn'.out j hj10 (by rw [← hq]; omega)
      rw [← hq] at e2 h2
      clear hq
      go_wp2
      go_round
      case rel => exact ⟨j + 1, by omega, by go_num⟩
      case measure => simp only [intOf]; omega
    · have e : j = 11 := by omega
      subst e
      clear hj hj10
      go_wp2
      go_ret
      exact ⟨rfl, rfl⟩

end Go.Proofs.YtmggccepmicjhacGreatDoor

/-! What Forward and Inverse of package goldref answer, of a list of 2^k numbers, k from 0 to 10: the transform, sum by sum; that by the inverse root, by how many there are. -/
namespace Go.Proofs.YtmggccepmicjhacGreatDoor
open Go.RowKit

theorem pE_fw (xs : List Nat) (k j : Nat) (h : xs.length = 2 ^ k) : pE xs (pwK (rt k) j) = (fw xs k j).val := by
  unfold pE pwK fw
  rw [toF_val, dft_cf _ xs k j h]
theorem ref_Root_rt (k : Nat) (hk : (k : Int) ≤ 32) (w : World) : Calls Tryz.prog 69 #[.int .i64 (k : Int)] w fun e w' => e = .returned (.int .u64 ((rt k : Nat) : Int)) ∧ w' = w := ref_Root k hk w

set_option maxHeartbeats 2000000 in
theorem ref_ForwardO (w : World) (v : Value) (xs : List Nat) (k : Nat) (h : IsU w v xs) (hl : xs.length = 2 ^ k) (hk : k ≤ 10) :
    Calls Tryz.prog 71 #[v] w fun e w' => ∃ u, e = .returned u ∧ w'.ownsRow w.heap.size 78 1 u (2 ^ k) (rowK (2 ^ k) (fw xs k)) ∧ Below w.heap.size w w' := by
  have h0 := h
  obtain ⟨a, cap, rfl, hcap, hmax, hc, hr⟩ := h
  clear hcap hmax hc hr
  have hb := (two_pow_bound k hk).2
  have cL := ref_Log_ok k hk
  have cR := ref_Root_rt k (by omega)
  have hE : Hid (∀ j, pE xs (pwK (rt k) j) = (fw xs k j).val) := fun j => pE_fw xs k j hl
  rw [← hl] at cL ⊢
  have hb' : xs.length ≤ 1024 := by omega
  clear hb hl
  go_enter Tryz.func71, Tryz.ntmps71
  go_wp2_with (first
    | (go_at_call 30; refine Calls.mono (cL _) ?_; rintro e w' ⟨rfl, hw⟩; rw [hw]; clear hw)
    | (go_at_call 69; refine Calls.mono (cR _) ?_; rintro e w' ⟨rfl, hw⟩; rw [hw]; clear hw))
  go_loopw [4, 5, 6] (fun u vs vi wr => ∃ j : Nat, j ≤ xs.length ∧ vi = .int .i64 (j : Int) ∧ vs = .int .u64 ((pwK (rt k) j : Nat) : Int) ∧ wr.ownsRow w.heap.size 78 1 u j (rowK j (fw xs k)) ∧ Below w.heap.size w wr)
    (fun _ _ vi _ => xs.length - (intOf vi).toNat)
  case atStart => exact ⟨0, Nat.zero_le _, rfl, rfl, World.ownsRow_nil _ _ _ _, Below.refl _ _⟩
  case round =>
    obtain ⟨j, hj, rfl, rfl, hown, hnx⟩ := hrel
    by_cases hlt : j < xs.length
    · have hd : decide (j < xs.length) = true := decide_eq_true hlt
      have cE := ref_Eval wr _ xs (pwK (rt k) j) (h0.below hnx)
      rw [hE.out j] at cE
      have cM := ref_Mul (pwK (rt k) j) (rt k)
      rw [pwK_succ] at cM
      have hnew := rowK_succ j (fw xs k)
      have hrow : Hid (∀ (w1 : World) (u : Value), w1.ownsRow w.heap.size 78 1 u (j + 1) (rowK j (fw xs k) ++ [.int .u64 (((fw xs k j).val : Nat) : Int)]) → w1.ownsRow w.heap.size 78 1 u (j + 1) (rowK (j + 1) (fw xs k))) := fun w1 u h => by rw [hnew]; exact h
      clear hnew h0
      generalize (fw xs k j).val = z at *
      go_wp2_with (first
        | (go_at_call 101; refine Calls.mono cE ?_; rintro e w' ⟨rfl, hw⟩; rw [hw]; clear hw)
        | (go_at_call 63; refine Calls.mono (cM _) ?_; rintro e w' ⟨rfl, hw⟩; rw [hw]; clear hw)
        | (at_builtin; refine wp_append1 rfl _ _ rfl _ _ _ _ rfl hown rfl ?c3 hnx ?_; rotate_right; intro u' w1 hown' hnx'))
      case c3 => omega
      · have hown2 := hrow.out _ _ hown'
        clear hown' hown hrow hnx
        go_roundw
        case rel => exact ⟨j + 1, by omega, by go_num, rfl, hown2, hnx'⟩
        case measure => simp only [intOf]; omega
    · have e : j = xs.length := by omega
      subst e
      have hU : Hid (wr.ownsRow w.heap.size 78 1 u4 xs.length (rowK xs.length (fw xs k))) := hown
      clear hown h0
      go_wp2
      go_ret
      exact ⟨_, rfl, hU.out, hnx⟩

theorem pE_bw (xs : List Nat) (k j : Nat) (h : xs.length = 2 ^ k) : fM (fW (2 ^ k) 18446744069414584319) (pE xs (pwK (fW (rt k) 18446744069414584319) j)) = (bw xs k j).val := by
  rw [fM_val, toF_inv, toF_pE]
  unfold pwK bw
  rw [toF_val, toF_inv, dft_cf _ xs k j h]

set_option maxHeartbeats 2000000 in
theorem ref_InverseO (w : World) (v : Value) (xs : List Nat) (k : Nat) (h : IsU w v xs) (hl : xs.length = 2 ^ k) (hk : k ≤ 10) :
    Calls Tryz.prog 70 #[v] w fun e w' => ∃ u, e = .returned u ∧ w'.ownsRow w.heap.size 78 1 u (2 ^ k) (rowK (2 ^ k) (bw xs k)) ∧ Below w.heap.size w w' := by
  have h0 := h
  obtain ⟨a, cap, rfl, hcap, hmax, hc, hr⟩ := h
  clear hcap hmax hc hr
  have hb := (two_pow_bound k hk).2
  have cL := ref_Log_ok k hk
  have cR := ref_Root_rt k (by omega)
  have cI := ref_Inv (rt k) (rt_ne k (by omega))
  have cN := ref_Inv (2 ^ k) (len_ne k (by omega))
  have hE : Hid (∀ j, fM (fW (2 ^ k) 18446744069414584319) (pE xs (pwK (fW (rt k) 18446744069414584319) j)) = (bw xs k j).val) := fun j => pE_bw xs k j hl
  rw [← hl] at cL cN hE ⊢
  have hb' : xs.length ≤ 1024 := by omega
  clear hb hl
  generalize fW (rt k) 18446744069414584319 = iw at *
  generalize fW xs.length 18446744069414584319 = il at *
  have tk1 : True := trivial
  go_enter Tryz.func70, Tryz.ntmps70
  go_wp2_with (first
    | (go_at_call 30; refine Calls.mono (cL _) ?_; rintro e w' ⟨rfl, hw⟩; rw [hw]; clear hw)
    | (go_at_call 69; refine Calls.mono (cR _) ?_; rintro e w' ⟨rfl, hw⟩; rw [hw]; clear hw)
    | (go_at_call 68; have _t := tk1; refine Calls.mono (cI _) ?_; rintro e w' ⟨rfl, hw⟩; rw [hw]; clear hw tk1)
    | (go_at_call 68; refine Calls.mono (cN _) ?_; rintro e w' ⟨rfl, hw⟩; rw [hw]; clear hw))
  go_loopw [5, 6, 7] (fun u vs vi wr => ∃ j : Nat, j ≤ xs.length ∧ vi = .int .i64 (j : Int) ∧ vs = .int .u64 ((pwK iw j : Nat) : Int) ∧ wr.ownsRow w.heap.size 78 1 u j (rowK j (bw xs k)) ∧ Below w.heap.size w wr)
    (fun _ _ vi _ => xs.length - (intOf vi).toNat)
  case atStart => exact ⟨0, Nat.zero_le _, rfl, rfl, World.ownsRow_nil _ _ _ _, Below.refl _ _⟩
  case round =>
    obtain ⟨j, hj, rfl, rfl, hown, hnx⟩ := hrel
    by_cases hlt : j < xs.length
    · have hd : decide (j < xs.length) = true := decide_eq_true hlt
      have cE := ref_Eval wr _ xs (pwK iw j) (h0.below hnx)
      have cQ := ref_Mul il (pE xs (pwK iw j))
      rw [hE.out j] at cQ
      have cM := ref_Mul (pwK iw j) iw
      rw [pwK_succ] at cM
      have hnew := rowK_succ j (bw xs k)
      have hrow : Hid (∀ (w1 : World) (u : Value), w1.ownsRow w.heap.size 78 1 u (j + 1) (rowK j (bw xs k) ++ [.int .u64 (((bw xs k j).val : Nat) : Int)]) → w1.ownsRow w.heap.size 78 1 u (j + 1) (rowK (j + 1) (bw xs k))) := fun w1 u h => by rw [hnew]; exact h
      clear hnew h0
      generalize (bw xs k j).val = z at *
      generalize pE xs (pwK iw j) = y at *
      have tk2 : True := trivial
      go_wp2_with (first
        | (go_at_call 101; refine Calls.mono cE ?_; rintro e w' ⟨rfl, hw⟩; rw [hw]; clear hw)
        | (go_at_call 63; have _t := tk2; refine Calls.mono (cQ _) ?_; rintro e w' ⟨rfl, hw⟩; rw [hw]; clear hw tk2)
        | (go_at_call 63; refine Calls.mono (cM _) ?_; rintro e w' ⟨rfl, hw⟩; rw [hw]; clear hw)
        | (at_builtin; refine wp_append1 rfl _ _ rfl _ _ _ _ rfl hown rfl ?c3 hnx ?_; rotate_right; intro u' w1 hown' hnx'))
      case c3 => omega
      · have hown2 := hrow.out _ _ hown'
        clear hown' hown hrow hnx
        go_roundw
        case rel => exact ⟨j + 1, by omega, by go_num, rfl, hown2, hnx'⟩
        case measure => simp only [intOf]; omega
    · have e : j = xs.length := by omega
      subst e
      have hU : Hid (wr.ownsRow w.heap.size 78 1 u5 xs.length (rowK xs.length (bw xs k))) := hown
      clear hown h0
      go_wp2
      go_ret
      exact ⟨_, rfl, hU.out, hnx⟩
theorem ref_Forward (w : World) (v : Value) (xs : List Nat) (k : Nat) (h : IsU w v xs) (hl : xs.length = 2 ^ k) (hk : k ≤ 10) :
    Calls Tryz.prog 71 #[v] w fun e w' => ∃ u, e = .returned u ∧ IsU w' u (mk (2 ^ k) (fw xs k)) ∧ Below w.heap.size w w' := by
  refine (ref_ForwardO w v xs k h hl hk).mono ?_
  rintro e w' ⟨u, rfl, hO, hb⟩
  exact ⟨u, rfl, rowK_isU hO, hb⟩
theorem ref_Inverse (w : World) (v : Value) (xs : List Nat) (k : Nat) (h : IsU w v xs) (hl : xs.length = 2 ^ k) (hk : k ≤ 10) :
    Calls Tryz.prog 70 #[v] w fun e w' => ∃ u, e = .returned u ∧ IsU w' u (mk (2 ^ k) (bw xs k)) ∧ Below w.heap.size w w' := by
  refine (ref_InverseO w v xs k h hl hk).mono ?_
  rintro e w' ⟨u, rfl, hO, hb⟩
  exact ⟨u, rfl, rowK_isU hO, hb⟩

end Go.Proofs.YtmggccepmicjhacGreatDoor
