/-
  What Forward and Inverse of package goldref answer, of a list of 2^k numbers, k from 0 to 10: the transform, sum by sum; that by the inverse root, by how many there are.
-/
import Derived.Test.YtgkepflnnoociacDoorRefLog
import Derived.Test.YtgkepflnnoociacDoorRefEval
import Derived.Test.YtgkepflnnoociacDoorRefR
import Derived.Test.YtgkepflnnoociacDoorRefI
import Derived.Test.YtgkepflnnoociacDoorSlRow
import Derived.Test.YtgkepflnnoociacDoorPure
namespace Go.Proofs.YtgkepflnnoociacDoor
open Go.RowKit

theorem pE_fw (xs : List Nat) (k j : Nat) (h : xs.length = 2 ^ k) : pE xs (pwK (rt k) j) = (fw xs k j).val := by
  unfold pE pwK fw
  rw [toF_val, dft_cf _ xs k j h]
theorem ref_Root_rt (k : Nat) (hk : (k : Int) ≤ 32) (w : World) : Calls Tryd.prog 113 #[.int .i64 (k : Int)] w fun e w' => e = .returned (.int .u64 ((rt k : Nat) : Int)) ∧ w' = w := ref_Root k hk w

set_option maxHeartbeats 2000000 in
theorem ref_ForwardO (w : World) (v : Value) (xs : List Nat) (k : Nat) (h : IsU w v xs) (hl : xs.length = 2 ^ k) (hk : k ≤ 10) :
    Calls Tryd.prog 84 #[v] w fun e w' => ∃ u, e = .returned u ∧ w'.ownsRow w.heap.size 47 1 u (2 ^ k) (rowK (2 ^ k) (fw xs k)) ∧ Below w.heap.size w w' := by
  have h0 := h
  obtain ⟨a, cap, rfl, hcap, hmax, hc, hr⟩ := h
  clear hcap hmax hc hr
  have hb := (two_pow_bound k hk).2
  have cL := ref_Log_ok k hk
  have cR := ref_Root_rt k (by omega)
  have hE : Hid (∀ j, pE xs (pwK (rt k) j) = (fw xs k j).val) := fun j => pE_fw xs k j hl
  rw [← hl] at cL ⊢
  have hb' : xs.length ≤ 1024 := by omega
  clear hb hl
  go_enter Tryd.func84, Tryd.ntmps84
  go_wp2_with (first
    | (go_at_call 114; refine Calls.mono (cL _) ?_; rintro e w' ⟨rfl, hw⟩; rw [hw]; clear hw)
    | (go_at_call 113; refine Calls.mono (cR _) ?_; rintro e w' ⟨rfl, hw⟩; rw [hw]; clear hw))
  go_loopw [4, 5, 6] (fun u vs vi wr => ∃ j : Nat, j ≤ xs.length ∧ vi = .int .i64 (j : Int) ∧ vs = .int .u64 ((pwK (rt k) j : Nat) : Int) ∧ wr.ownsRow w.heap.size 47 1 u j (rowK j (fw xs k)) ∧ Below w.heap.size w wr)
    (fun _ _ vi _ => xs.length - (intOf vi).toNat)
  case atStart => exact ⟨0, Nat.zero_le _, rfl, rfl, World.ownsRow_nil _ _ _ _, Below.refl _ _⟩
  case round =>
    obtain ⟨j, hj, rfl, rfl, hown, hnx⟩ := hrel
    by_cases hlt : j < xs.length
    · have hd : decide (j < xs.length) = true := decide_eq_true hlt
      have cE := ref_Eval wr _ xs (pwK (rt k) j) (h0.below hnx)
      rw [hE.out j] at cE
      have cM := ref_Mul (pwK (rt k) j) (rt k)
      rw [pwK_succ] at cM
      have hnew := rowK_succ j (fw xs k)
      have hrow : Hid (∀ (w1 : World) (u : Value), w1.ownsRow w.heap.size 47 1 u (j + 1) (rowK j (fw xs k) ++ [.int .u64 (((fw xs k j).val : Nat) : Int)]) → w1.ownsRow w.heap.size 47 1 u (j + 1) (rowK (j + 1) (fw xs k))) := fun w1 u h => by rw [hnew]; exact h
      clear hnew h0
      generalize (fw xs k j).val = z at *
      go_wp2_with (first
        | (go_at_call 29; refine Calls.mono cE ?_; rintro e w' ⟨rfl, hw⟩; rw [hw]; clear hw)
        | (go_at_call 61; refine Calls.mono (cM _) ?_; rintro e w' ⟨rfl, hw⟩; rw [hw]; clear hw)
        | (at_builtin; refine wp_append1 rfl _ _ rfl _ _ _ _ rfl hown rfl ?c3 hnx ?_; rotate_right; intro u' w1 hown' hnx'))
      case c3 => omega
      · have hown2 := hrow.out _ _ hown'
        clear hown' hown hrow hnx
        go_roundw
        case rel => exact ⟨j + 1, by omega, by go_num, rfl, hown2, hnx'⟩
        case measure => simp only [intOf]; omega
    · have e : j = xs.length := by omega
      subst e
      have hU : Hid (wr.ownsRow w.heap.size 47 1 u4 xs.length (rowK xs.length (fw xs k))) := hown
      clear hown h0
      go_wp2
      go_ret
      exact ⟨_, rfl, hU.out, hnx⟩

theorem pE_bw (xs : List Nat) (k j : Nat) (h : xs.length = 2 ^ k) : fM (fW (2 ^ k) 18446744069414584319) (pE xs (pwK (fW (rt k) 18446744069414584319) j)) = (bw xs k j).val := by
  rw [fM_val, toF_inv, toF_pE]
  unfold pwK bw
  rw [toF_val, toF_inv, dft_cf _ xs k j h]

set_option maxHeartbeats 2000000 in
theorem ref_InverseO (w : World) (v : Value) (xs : List Nat) (k : Nat) (h : IsU w v xs) (hl : xs.length = 2 ^ k) (hk : k ≤ 10) :
    Calls Tryd.prog 83 #[v] w fun e w' => ∃ u, e = .returned u ∧ w'.ownsRow w.heap.size 47 1 u (2 ^ k) (rowK (2 ^ k) (bw xs k)) ∧ Below w.heap.size w w' := by
  have h0 := h
  obtain ⟨a, cap, rfl, hcap, hmax, hc, hr⟩ := h
  clear hcap hmax hc hr
  have hb := (two_pow_bound k hk).2
  have cL := ref_Log_ok k hk
  have cR := ref_Root_rt k (by omega)
  have cI := ref_Inv (rt k) (rt_ne k (by omega))
  have cN := ref_Inv (2 ^ k) (len_ne k (by omega))
  have hE : Hid (∀ j, fM (fW (2 ^ k) 18446744069414584319) (pE xs (pwK (fW (rt k) 18446744069414584319) j)) = (bw xs k j).val) := fun j => pE_bw xs k j hl
  rw [← hl] at cL cN hE ⊢
  have hb' : xs.length ≤ 1024 := by omega
  clear hb hl
  generalize fW (rt k) 18446744069414584319 = iw at *
  generalize fW xs.length 18446744069414584319 = il at *
  have tk1 : True := trivial
  go_enter Tryd.func83, Tryd.ntmps83
  go_wp2_with (first
    | (go_at_call 114; refine Calls.mono (cL _) ?_; rintro e w' ⟨rfl, hw⟩; rw [hw]; clear hw)
    | (go_at_call 113; refine Calls.mono (cR _) ?_; rintro e w' ⟨rfl, hw⟩; rw [hw]; clear hw)
    | (go_at_call 112; have _t := tk1; refine Calls.mono (cI _) ?_; rintro e w' ⟨rfl, hw⟩; rw [hw]; clear hw tk1)
    | (go_at_call 112; refine Calls.mono (cN _) ?_; rintro e w' ⟨rfl, hw⟩; rw [hw]; clear hw))
  go_loopw [5, 6, 7] (fun u vs vi wr => ∃ j : Nat, j ≤ xs.length ∧ vi = .int .i64 (j : Int) ∧ vs = .int .u64 ((pwK iw j : Nat) : Int) ∧ wr.ownsRow w.heap.size 47 1 u j (rowK j (bw xs k)) ∧ Below w.heap.size w wr)
    (fun _ _ vi _ => xs.length - (intOf vi).toNat)
  case atStart => exact ⟨0, Nat.zero_le _, rfl, rfl, World.ownsRow_nil _ _ _ _, Below.refl _ _⟩
  case round =>
    obtain ⟨j, hj, rfl, rfl, hown, hnx⟩ := hrel
    by_cases hlt : j < xs.length
    · have hd : decide (j < xs.length) = true := decide_eq_true hlt
      have cE := ref_Eval wr _ xs (pwK iw j) (h0.below hnx)
      have cQ := ref_Mul il (pE xs (pwK iw j))
      rw [hE.out j] at cQ
      have cM := ref_Mul (pwK iw j) iw
      rw [pwK_succ] at cM
      have hnew := rowK_succ j (bw xs k)
      have hrow : Hid (∀ (w1 : World) (u : Value), w1.ownsRow w.heap.size 47 1 u (j + 1) (rowK j (bw xs k) ++ [.int .u64 (((bw xs k j).val : Nat) : Int)]) → w1.ownsRow w.heap.size 47 1 u (j + 1) (rowK (j + 1) (bw xs k))) := fun w1 u h => by rw [hnew]; exact h
      clear hnew h0
      generalize (bw xs k j).val = z at *
      generalize pE xs (pwK iw j) = y at *
      have tk2 : True := trivial
      go_wp2_with (first
        | (go_at_call 29; refine Calls.mono cE ?_; rintro e w' ⟨rfl, hw⟩; rw [hw]; clear hw)
        | (go_at_call 61; have _t := tk2; refine Calls.mono (cQ _) ?_; rintro e w' ⟨rfl, hw⟩; rw [hw]; clear hw tk2)
        | (go_at_call 61; refine Calls.mono (cM _) ?_; rintro e w' ⟨rfl, hw⟩; rw [hw]; clear hw)
        | (at_builtin; refine wp_append1 rfl _ _ rfl _ _ _ _ rfl hown rfl ?c3 hnx ?_; rotate_right; intro u' w1 hown' hnx'))
      case c3 => omega
      · have hown2 := hrow.out _ _ hown'
        clear hown' hown hrow hnx
        go_roundw
        case rel => exact ⟨j + 1, by omega, by go_num, rfl, hown2, hnx'⟩
        case measure => simp only [intOf]; omega
    · have e : j = xs.length := by omega
      subst e
      have hU : Hid (wr.ownsRow w.heap.size 47 1 u5 xs.length (rowK xs.length (bw xs k))) := hown
      clear hown h0
      go_wp2
      go_ret
      exact ⟨_, rfl, hU.out, hnx⟩
theorem ref_Forward (w : World) (v : Value) (xs : List Nat) (k : Nat) (h : IsU w v xs) (hl : xs.length = 2 ^ k) (hk : k ≤ 10) :
    Calls Tryd.prog 84 #[v] w fun e w' => ∃ u, e = .returned u ∧ IsU w' u (mk (2 ^ k) (fw xs k)) ∧ Below w.heap.size w w' := by
  refine (ref_ForwardO w v xs k h hl hk).mono ?_
  rintro e w' ⟨u, rfl, hO, hb⟩
  exact ⟨u, rfl, rowK_isU hO, hb⟩
theorem ref_Inverse (w : World) (v : Value) (xs : List Nat) (k : Nat) (h : IsU w v xs) (hl : xs.length = 2 ^ k) (hk : k ≤ 10) :
    Calls Tryd.prog 83 #[v] w fun e w' => ∃ u, e = .returned u ∧ IsU w' u (mk (2 ^ k) (bw xs k)) ∧ Below w.heap.size w w' := by
  refine (ref_InverseO w v xs k h hl hk).mono ?_
  rintro e w' ⟨u, rfl, hO, hb⟩
  exact ⟨u, rfl, rowK_isU hO, hb⟩

end Go.Proofs.YtgkepflnnoociacDoor
