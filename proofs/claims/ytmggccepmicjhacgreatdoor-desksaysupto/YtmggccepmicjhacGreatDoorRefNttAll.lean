/-
  Texts that stood one behind the other, as one.
-/
import Derived.Test.YtmggccepmicjhacGreatDoorDkNAll
import Derived.Test.YtmggccepmicjhacGreatDoorRefEvalAll
import Derived.Test.YtmggccepmicjhacGreatDoorRefEvalAll
import Derived.Test.YtmggccepmicjhacGreatDoorDkNAll
import Derived.Test.YtmggccepmicjhacGreatDoorSlRowAll
import Derived.Test.YtmggccepmicjhacGreatDoorPure
import Derived.Test.YtmggccepmicjhacGreatDoorDkAAll
import Derived.Test.YtmggccepmicjhacGreatDoorRefNumAll
import Derived.Test.YtmggccepmicjhacGreatDoorPlanVAll
import Derived.Test.YtmggccepmicjhacGreatDoorPlanVAll
import Derived.Deep.RegionWith
/-! What Forward and Inverse of package goldref answer, of a list of 2^k numbers, k from 0 to 10: the transform, sum by sum; that by the inverse root, by how many there are. -/
namespace Go.Proofs.YtmggccepmicjhacGreatDoor
open Go.RowKit
set_option maxRecDepth 100000

theorem pE_fw (xs : List Nat) (k j : Nat) (h : xs.length = 2 ^ k) : pE xs (pwK (rt k) j) = (fw xs k j).val := by
  unfold pE pwK fw
  rw [toF_val, dft_cf _ xs k j h]
theorem ref_Root_rt (k : Nat) (hk : (k : Int) ≤ 32) (w : World) : Calls Tryz.prog 69 #[.int .i64 (k : Int)] w fun e w' => e = .returned (.int .u64 ((rt k : Nat) : Int)) ∧ w' = w := ref_Root k hk w

set_option maxHeartbeats 2000000 in
theorem ref_ForwardO (w : World) (v : Value) (xs : List Nat) (k : Nat) (h : IsU w v xs) (hl : xs.length = 2 ^ k) (hk : k ≤ 10) :
    Calls Tryz.prog 71 #[v] w fun e w' => ∃ u, e = .returned u ∧ w'.ownsRow w.heap.size 78 1 u (2 ^ k) (rowK (2 ^ k) (fw xs k)) ∧ Below w.heap.size w w' := by
  have h0 := h
  obtain ⟨a, cap, rfl, hcap, hmax, hc, hr⟩ := h
  clear hcap hmax hc hr
  have hb := (two_pow_bound k hk).2
  have cL := ref_Log_ok k hk
  have cR := ref_Root_rt k (by omega)
  have hE : Hid (∀ j, pE xs (pwK (rt k) j) = (fw xs k j).val) := fun j => pE_fw xs k j hl
  rw [← hl] at cL ⊢
  have hb' : xs.length ≤ 1024 := by omega
  clear hb hl
  go_enter Tryz.func71, Tryz.ntmps71
  go_wp2_with (first
    | (go_at_call 30; refine Calls.mono (cL _) ?_; rintro e w' ⟨rfl, hw⟩; rw [hw]; clear hw)
    | (go_at_call 69; refine Calls.mono (cR _) ?_; rintro e w' ⟨rfl, hw⟩; rw [hw]; clear hw))
  go_loopw [4, 5, 6] (fun u vs vi wr => ∃ j : Nat, j ≤ xs.length ∧ vi = .int .i64 (j : Int) ∧ vs = .int .u64 ((pwK (rt k) j : Nat) : Int) ∧ wr.ownsRow w.heap.size 78 1 u j (rowK j (fw xs k)) ∧ Below w.heap.size w wr)
    (fun _ _ vi _ => xs.length - (intOf vi).toNat)
  case atStart => exact ⟨0, Nat.zero_le _, rfl, rfl, World.ownsRow_nil _ _ _ _, Below.refl _ _⟩
  case round =>
    obtain ⟨j, hj, rfl, rfl, hown, hnx⟩ := hrel
    by_cases hlt : j < xs.length
    · have hd : decide (j < xs.length) = true := decide_eq_true hlt
      have cE := ref_Eval wr _ xs (pwK (rt k) j) (h0.below hnx)
      rw [hE.out j] at cE
      have cM := ref_Mul (pwK (rt k) j) (rt k)
      rw [pwK_succ] at cM
      have hnew := rowK_succ j (fw xs k)
      have hrow : Hid (∀ (w1 : World) (u : Value), w1.ownsRow w.heap.size 78 1 u (j + 1) (rowK j (fw xs k) ++ [.int .u64 (((fw xs k j).val : Nat) : Int)]) → w1.ownsRow w.heap.size 78 1 u (j + 1) (rowK (j + 1) (fw xs k))) := fun w1 u h => by rw [hnew]; exact h
      clear hnew h0
      generalize (fw xs k j).val = z at *
      go_wp2_with (first
        | (go_at_call 101; refine Calls.mono cE ?_; rintro e w' ⟨rfl, hw⟩; rw [hw]; clear hw)
        | (go_at_call 63; refine Calls.mono (cM _) ?_; rintro e w' ⟨rfl, hw⟩; rw [hw]; clear hw)
        | (at_builtin; refine wp_append1 rfl _ _ rfl _ _ _ _ rfl hown rfl ?c3 hnx ?_; rotate_right; intro u' w1 hown' hnx'))
      case c3 => omega
      · have hown2 := hrow.out _ _ hown'
        clear hown' hown hrow hnx
        go_roundw
        case rel => exact ⟨j + 1, by omega, by go_num, rfl, hown2, hnx'⟩
        case measure => simp only [intOf]; omega
    · have e : j = xs.length := by omega
      subst e
      have hU : Hid (wr.ownsRow w.heap.size 78 1 u4 xs.length (rowK xs.length (fw xs k))) := hown
      clear hown h0
      go_wp2
      go_ret
      exact ⟨_, rfl, hU.out, hnx⟩

theorem pE_bw (xs : List Nat) (k j : Nat) (h : xs.length = 2 ^ k) : fM (fW (2 ^ k) 18446744069414584319) (pE xs (pwK (fW (rt k) 18446744069414584319) j)) = (bw xs k j).val := by
  rw [fM_val, toF_inv, toF_pE]
  unfold pwK bw
  rw [toF_val, toF_inv, dft_cf _ xs k j h]

set_option maxHeartbeats 2000000 in
theorem ref_InverseO (w : World) (v : Value) (xs : List Nat) (k : Nat) (h : IsU w v xs) (hl : xs.length = 2 ^ k) (hk : k ≤ 10) :
    Calls Tryz.prog 70 #[v] w fun e w' => ∃ u, e = .returned u ∧ w'.ownsRow w.heap.size 78 1 u (2 ^ k) (rowK (2 ^ k) (bw xs k)) ∧ Below w.heap.size w w' := by
  have h0 := h
  obtain ⟨a, cap, rfl, hcap, hmax, hc, hr⟩ := h
  clear hcap hmax hc hr
  have hb := (two_pow_bound k hk).2
  have cL := ref_Log_ok k hk
  have cR := ref_Root_rt k (by omega)
  have cI := ref_Inv (rt k) (rt_ne k (by omega))
  have cN := ref_Inv (2 ^ k) (len_ne k (by omega))
  have hE : Hid (∀ j, fM (fW (2 ^ k) 18446744069414584319) (pE xs (pwK (fW (rt k) 18446744069414584319) j)) = (bw xs k j).val) := fun j => pE_bw xs k j hl
  rw [← hl] at cL cN hE ⊢
  have hb' : xs.length ≤ 1024 := by omega
  clear hb hl
  generalize fW (rt k) 18446744069414584319 = iw at *
  generalize fW xs.length 18446744069414584319 = il at *
  have tk1 : True := trivial
  go_enter Tryz.func70, Tryz.ntmps70
  go_wp2_with (first
    | (go_at_call 30; refine Calls.mono (cL _) ?_; rintro e w' ⟨rfl, hw⟩; rw [hw]; clear hw)
    | (go_at_call 69; refine Calls.mono (cR _) ?_; rintro e w' ⟨rfl, hw⟩; rw [hw]; clear hw)
    | (go_at_call 68; have _t := tk1; refine Calls.mono (cI _) ?_; rintro e w' ⟨rfl, hw⟩; rw [hw]; clear hw tk1)
    | (go_at_call 68; refine Calls.mono (cN _) ?_; rintro e w' ⟨rfl, hw⟩; rw [hw]; clear hw))
  go_loopw [5, 6, 7] (fun u vs vi wr => ∃ j : Nat, j ≤ xs.length ∧ vi = .int .i64 (j : Int) ∧ vs = .int .u64 ((pwK iw j : Nat) : Int) ∧ wr.ownsRow w.heap.size 78 1 u j (rowK j (bw xs k)) ∧ Below w.heap.size w wr)
    (fun _ _ vi _ => xs.length - (intOf vi).toNat)
  case atStart => exact ⟨0, Nat.zero_le _, rfl, rfl, World.ownsRow_nil _ _ _ _, Below.refl _ _⟩
  case round =>
    obtain ⟨j, hj, rfl, rfl, hown, hnx⟩ := hrel
    by_cases hlt : j < xs.length
    · have hd : decide (j < xs.length) = true := decide_eq_true hlt
      have cE := ref_Eval wr _ xs (pwK iw j) (h0.below hnx)
      have cQ := ref_Mul il (pE xs (pwK iw j))
      rw [hE.out j] at cQ
      have cM := ref_Mul (pwK iw j) iw
      rw [pwK_succ] at cM
      have hnew := rowK_succ j (bw xs k)
      have hrow : Hid (∀ (w1 : World) (u : Value), w1.ownsRow w.heap.size 78 1 u (j + 1) (rowK j (bw xs k) ++ [.int .u64 (((bw xs k j).val : Nat) : Int)]) → w1.ownsRow w.heap.size 78 1 u (j + 1) (rowK (j + 1) (bw xs k))) := fun w1 u h => by rw [hnew]; exact h
      clear hnew h0
      generalize (bw xs k j).val = z at *
      generalize pE xs (pwK iw j) = y at *
      have tk2 : True := trivial
      go_wp2_with (first
        | (go_at_call 101; refine Calls.mono cE ?_; rintro e w' ⟨rfl, hw⟩; rw [hw]; clear hw)
        | (go_at_call 63; have _t := tk2; refine Calls.mono (cQ _) ?_; rintro e w' ⟨rfl, hw⟩; rw [hw]; clear hw tk2)
        | (go_at_call 63; refine Calls.mono (cM _) ?_; rintro e w' ⟨rfl, hw⟩; rw [hw]; clear hw)
        | (at_builtin; refine wp_append1 rfl _ _ rfl _ _ _ _ rfl hown rfl ?c3 hnx ?_; rotate_right; intro u' w1 hown' hnx'))
      case c3 => omega
      · have hown2 := hrow.out _ _ hown'
        clear hown' hown hrow hnx
        go_roundw
        case rel => exact ⟨j + 1, by omega, by go_num, rfl, hown2, hnx'⟩
        case measure => simp only [intOf]; omega
    · have e : j = xs.length := by omega
      subst e
      have hU : Hid (wr.ownsRow w.heap.size 78 1 u5 xs.length (rowK xs.length (bw xs k))) := hown
      clear hown h0
      go_wp2
      go_ret
      exact ⟨_, rfl, hU.out, hnx⟩
theorem ref_Forward (w : World) (v : Value) (xs : List Nat) (k : Nat) (h : IsU w v xs) (hl : xs.length = 2 ^ k) (hk : k ≤ 10) :
    Calls Tryz.prog 71 #[v] w fun e w' => ∃ u, e = .returned u ∧ IsU w' u (mk (2 ^ k) (fw xs k)) ∧ Below w.heap.size w w' := by
  refine (ref_ForwardO w v xs k h hl hk).mono ?_
  rintro e w' ⟨u, rfl, hO, hb⟩
  exact ⟨u, rfl, rowK_isU hO, hb⟩
theorem ref_Inverse (w : World) (v : Value) (xs : List Nat) (k : Nat) (h : IsU w v xs) (hl : xs.length = 2 ^ k) (hk : k ≤ 10) :
    Calls Tryz.prog 70 #[v] w fun e w' => ∃ u, e = .returned u ∧ IsU w' u (mk (2 ^ k) (bw xs k)) ∧ Below w.heap.size w w' := by
  refine (ref_InverseO w v xs k h hl hk).mono ?_
  rintro e w' ⟨u, rfl, hO, hb⟩
  exact ⟨u, rfl, rowK_isU hO, hb⟩

end Go.Proofs.YtmggccepmicjhacGreatDoor

/-! What answer of package goldref answers, verb by verb. -/
namespace Go.Proofs.YtmggccepmicjhacGreatDoor
open Go.RowKit
set_option maxRecDepth 100000

theorem two_cells {w : World} {v : Value} {n : List Nat} (h : IsU w v n) (h2 : n.length = 2) : ∃ b off cap, v = .slice (some ⟨b, off, none⟩) 2 cap ∧ w.cell? ⟨b, off, none⟩ = some (.int .u64 ((n.getD 0 0 : Nat) : Int)) ∧ w.cell? ⟨b, off + 1, none⟩ = some (.int .u64 ((n.getD 1 0 : Nat) : Int)) := by
  obtain ⟨b, off, cap, e⟩ := h.placeN h2 (by decide)
  subst e
  exact ⟨b, off, cap, rfl, h.cell 0 (by omega), h.cell 1 (by omega)⟩
theorem one_cell {w : World} {v : Value} {n : List Nat} (h : IsU w v n) (h2 : 0 < n.length) : ∃ b off cap, v = .slice (some ⟨b, off, none⟩) n.length cap ∧ w.cell? ⟨b, off, none⟩ = some (.int .u64 ((n.getD 0 0 : Nat) : Int)) := by
  obtain ⟨b, off, cap, e⟩ := h.place h2
  subst e
  exact ⟨b, off, cap, rfl, h.cell 0 h2⟩
/-- said, asked of one number that was just made. -/
theorem ref_said1 (w : World) (x : Nat) (hx : (x : Int) < 18446744073709551616) (ht : Tab w) :
    Calls Tryz.prog 28 #[.slice (some ⟨w.heap.size, 0, none⟩) 1 1] (w.alloc (.cells #[.int .u64 (x : Int)] 78)) fun e w' => e = .returned (.string (bs (sayN [x]))) ∧ Below w.heap.size w w' := by
  refine (ref_said _ _ [x] (IsU.lit1 w 78 x hx) (by simp) (ht.below (below_alloc1 _ _))).mono ?_
  rintro e w' ⟨rfl, hb⟩
  exact ⟨rfl, below_alloc hb⟩
theorem ref_said1d (w : World) (x : Nat) (hx : (x : Int) < 18446744073709551616) (ht : Tab w) :
    Calls Tryz.prog 28 #[.slice (some ⟨w.heap.size, 0, none⟩) 1 1] (w.alloc (.cells #[.int .u64 (x : Int)] 78)).drew fun e w' => e = .returned (.string (bs (sayN [x]))) ∧ Below w.heap.size w w' := by
  refine (ref_said1 w.drew x hx (ht.below (below_drewN (Below.refl _ _) 1))).mono ?_
  rintro e w' ⟨rfl, hb⟩
  exact ⟨rfl, (below_drewN (Below.refl _ _) 1).trans hb⟩
theorem bs_list (l : List UInt8) : (bs l).toList = l := by rw [ByteArray.toList_eq]; rfl
set_option maxRecDepth 100000 in
set_option maxHeartbeats 4000000 in
theorem ref_answer_add (w : World) (v : Value) (n : List Nat) (h : IsU w v n) (h2 : n.length = 2) (ht : Tab w) :
    Calls Tryz.prog 36 #[.string { data := #[97, 100, 100] }, v] w fun e w' => e = .returned (.string (bs (ansV [97, 100, 100] n))) ∧ Below w.heap.size w w' := by
  rw [ansV_add]
  obtain ⟨b, off, cap, rfl, hc0, hc1⟩ := two_cells h h2
  have c1 := ref_Add (n.getD 0 0) (n.getD 1 0)
  have c2 := ref_said1d w (fA (n.getD 0 0) (n.getD 1 0)) (by have := fA_lt (n.getD 0 0) (n.getD 1 0); omega) ht
  clear h h2
  generalize fA (n.getD 0 0) (n.getD 1 0) = r at *
  generalize sayN [r] = R at *
  generalize n.getD 0 0 = x at *
  generalize n.getD 1 0 = y at *
  go_enter Tryz.func36, Tryz.ntmps36
  go_wp2
  go_region_with (first
    | (go_at_call 62; refine Calls.mono (c1 _) ?_; rintro e w' ⟨rfl, hw⟩; rw [hw]; clear hw)
    | (go_at_call 28; refine Calls.mono c2 ?_; rintro e w1 ⟨rfl, hB⟩))
  all_goals
    go_wp2
    go_ret
    exact ⟨rfl, hB⟩
set_option maxRecDepth 100000 in
set_option maxHeartbeats 4000000 in
theorem ref_answer_sub (w : World) (v : Value) (n : List Nat) (h : IsU w v n) (h2 : n.length = 2) (ht : Tab w) :
    Calls Tryz.prog 36 #[.string { data := #[115, 117, 98] }, v] w fun e w' => e = .returned (.string (bs (ansV [115, 117, 98] n))) ∧ Below w.heap.size w w' := by
  rw [ansV_sub]
  obtain ⟨b, off, cap, rfl, hc0, hc1⟩ := two_cells h h2
  have c1 := ref_Sub (n.getD 0 0) (n.getD 1 0)
  have c2 := ref_said1d w (fS (n.getD 0 0) (n.getD 1 0)) (by have := fS_lt (n.getD 0 0) (n.getD 1 0); omega) ht
  clear h h2
  generalize fS (n.getD 0 0) (n.getD 1 0) = r at *
  generalize sayN [r] = R at *
  generalize n.getD 0 0 = x at *
  generalize n.getD 1 0 = y at *
  go_enter Tryz.func36, Tryz.ntmps36
  go_wp2
  go_region_with (first
    | (go_at_call 65; refine Calls.mono (c1 _) ?_; rintro e w' ⟨rfl, hw⟩; rw [hw]; clear hw)
    | (go_at_call 28; refine Calls.mono c2 ?_; rintro e w1 ⟨rfl, hB⟩))
  all_goals
    go_wp2
    go_ret
    exact ⟨rfl, hB⟩
set_option maxRecDepth 100000 in
set_option maxHeartbeats 4000000 in
theorem ref_answer_mul (w : World) (v : Value) (n : List Nat) (h : IsU w v n) (h2 : n.length = 2) (ht : Tab w) :
    Calls Tryz.prog 36 #[.string { data := #[109, 117, 108] }, v] w fun e w' => e = .returned (.string (bs (ansV [109, 117, 108] n))) ∧ Below w.heap.size w w' := by
  rw [ansV_mul]
  obtain ⟨b, off, cap, rfl, hc0, hc1⟩ := two_cells h h2
  have c1 := ref_Mul (n.getD 0 0) (n.getD 1 0)
  have c2 := ref_said1d w (fM (n.getD 0 0) (n.getD 1 0)) (by have := fM_lt (n.getD 0 0) (n.getD 1 0); omega) ht
  clear h h2
  generalize fM (n.getD 0 0) (n.getD 1 0) = r at *
  generalize sayN [r] = R at *
  generalize n.getD 0 0 = x at *
  generalize n.getD 1 0 = y at *
  go_enter Tryz.func36, Tryz.ntmps36
  go_wp2
  go_region_with (first
    | (go_at_call 63; refine Calls.mono (c1 _) ?_; rintro e w' ⟨rfl, hw⟩; rw [hw]; clear hw)
    | (go_at_call 28; refine Calls.mono c2 ?_; rintro e w1 ⟨rfl, hB⟩))
  all_goals
    go_wp2
    go_ret
    exact ⟨rfl, hB⟩
set_option maxRecDepth 100000 in
set_option maxHeartbeats 4000000 in
theorem ref_answer_pow (w : World) (v : Value) (n : List Nat) (h : IsU w v n) (h2 : n.length = 2) (ht : Tab w) :
    Calls Tryz.prog 36 #[.string { data := #[112, 111, 119] }, v] w fun e w' => e = .returned (.string (bs (ansV [112, 111, 119] n))) ∧ Below w.heap.size w w' := by
  rw [ansV_pow]
  have hy : ((n.getD 1 0 : Nat) : Int) < 18446744073709551616 := range_getD h.range 1
  obtain ⟨b, off, cap, rfl, hc0, hc1⟩ := two_cells h h2
  have c1 := ref_Pow (n.getD 0 0) (n.getD 1 0) hy
  have c2 := ref_said1d w (fW (n.getD 0 0) (n.getD 1 0)) (by have := fW_lt (n.getD 0 0) (n.getD 1 0); omega) ht
  clear h h2 hy
  generalize fW (n.getD 0 0) (n.getD 1 0) = r at *
  generalize sayN [r] = R at *
  generalize n.getD 0 0 = x at *
  generalize n.getD 1 0 = y at *
  go_enter Tryz.func36, Tryz.ntmps36
  go_wp2
  go_region_with (first
    | (go_at_call 66; refine Calls.mono (c1 _) ?_; rintro e w' ⟨rfl, hw⟩; rw [hw]; clear hw)
    | (go_at_call 28; refine Calls.mono c2 ?_; rintro e w1 ⟨rfl, hB⟩))
  all_goals
    go_wp2
    go_ret
    exact ⟨rfl, hB⟩
set_option maxRecDepth 100000 in
set_option maxHeartbeats 4000000 in
theorem ref_answer_inv (w : World) (v : Value) (n : List Nat) (h : IsU w v n) (h1 : n.length = 1) (ht : Tab w) :
    Calls Tryz.prog 36 #[.string { data := #[105, 110, 118] }, v] w fun e w' => e = .returned (.string (bs (ansV [105, 110, 118] n))) ∧ Below w.heap.size w w' := by
  rw [ansV_inv]
  obtain ⟨b, off, cap, e, hc0⟩ := one_cell h (by omega)
  rw [h1] at e
  subst e
  have cN := ref_Norm (n.getD 0 0)
  by_cases hz : fN (n.getD 0 0) = 0
  · rw [if_pos hz]
    rw [hz] at cN
    have cW := ref_wrong 4 (by decide) (by decide) w ht
    clear h h1 hz
    generalize wrg 4 = R at *
    generalize n.getD 0 0 = x at *
    go_enter Tryz.func36, Tryz.ntmps36
    go_wp2_with (first
      | (go_at_call 67; refine Calls.mono (cN _) ?_; rintro e w' ⟨rfl, hw⟩; rw [hw]; clear hw)
      | (go_at_call 26; refine Calls.mono cW ?_; rintro e w1 ⟨rfl, hB⟩))
    go_ret
    exact ⟨rfl, hB⟩
  · rw [if_neg hz]
    have cI := ref_Inv (n.getD 0 0) hz
    have c2 := ref_said1 w (fW (n.getD 0 0) 18446744069414584319) (by have := fW_lt (n.getD 0 0) 18446744069414584319; omega) ht
    have hzi : (((fN (n.getD 0 0) : Nat) : Int) == 0) = false := by rw [beq_eq_false_iff_ne]; omega
    clear h h1 hz
    generalize fW (n.getD 0 0) 18446744069414584319 = r at *
    generalize sayN [r] = R at *
    generalize fN (n.getD 0 0) = z at *
    generalize n.getD 0 0 = x at *
    go_enter Tryz.func36, Tryz.ntmps36
    go_wp2_with (first
      | (go_at_call 67; refine Calls.mono (cN _) ?_; rintro e w' ⟨rfl, hw⟩; rw [hw]; clear hw)
      | (go_at_call 68; refine Calls.mono (cI _) ?_; rintro e w' ⟨rfl, hw⟩; rw [hw]; clear hw)
      | (go_at_call 28; refine Calls.mono c2 ?_; rintro e w1 ⟨rfl, hB⟩))
    go_ret
    exact ⟨rfl, hB⟩
set_option maxRecDepth 100000 in
set_option maxHeartbeats 4000000 in
theorem ref_answer_root (w : World) (v : Value) (n : List Nat) (h : IsU w v n) (h1 : n.length = 1) (ht : Tab w) :
    Calls Tryz.prog 36 #[.string { data := #[114, 111, 111, 116] }, v] w fun e w' => e = .returned (.string (bs (ansV [114, 111, 111, 116] n))) ∧ Below w.heap.size w w' := by
  rw [ansV_root]
  obtain ⟨b, off, cap, e, hc0⟩ := one_cell h (by omega)
  rw [h1] at e
  subst e
  by_cases hz : 32 < n.getD 0 0
  · rw [if_pos hz]
    have cW := ref_wrong 1 (by decide) (by decide) w ht
    have hzi : (32 : Int) < ((n.getD 0 0 : Nat) : Int) := by omega
    clear h h1 hz
    generalize wrg 1 = R at *
    generalize n.getD 0 0 = x at *
    go_enter Tryz.func36, Tryz.ntmps36
    go_wp2_with (first
      | (go_at_call 26; refine Calls.mono cW ?_; rintro e w1 ⟨rfl, hB⟩))
    go_ret
    exact ⟨rfl, hB⟩
  · rw [if_neg hz]
    have cI := ref_Root_rt (n.getD 0 0) (by omega)
    have c2 := ref_said1 w (rt (n.getD 0 0)) (by have : (rt (n.getD 0 0) : Int) < 18446744069414584321 := fW_lt _ _
                                                 omega) ht
    have hzi : ((n.getD 0 0 : Nat) : Int) ≤ 32 := by omega
    clear h h1 hz
    generalize rt (n.getD 0 0) = r at *
    generalize sayN [r] = R at *
    generalize n.getD 0 0 = x at *
    go_enter Tryz.func36, Tryz.ntmps36
    go_wp2_with (first
      | (go_at_call 69; refine Calls.mono (cI _) ?_; rintro e w' ⟨rfl, hw⟩; rw [hw]; clear hw)
      | (go_at_call 28; refine Calls.mono c2 ?_; rintro e w1 ⟨rfl, hB⟩))
    go_ret
    exact ⟨rfl, hB⟩
set_option maxRecDepth 100000 in
set_option maxHeartbeats 4000000 in
theorem ref_answer_ntt (w : World) (v : Value) (n : List Nat) (h : IsU w v n) (h9 : n.length ≤ 1000000) (ht : Tab w) :
    Calls Tryz.prog 36 #[.string { data := #[110, 116, 116] }, v] w fun e w' => e = .returned (.string (bs (ansV [110, 116, 116] n))) ∧ Below w.heap.size w w' := by
  rw [ansV_ntt]
  have h0 := h
  obtain ⟨a, cap, rfl, -⟩ := h0
  by_cases hp : IsPw n.length
  · obtain ⟨k, hk, hl⟩ := hp
    rw [nttV_ok hk hl]
    have cL : ∀ W, Calls Tryz.prog 30 #[.int .i64 (n.length : Int)] W fun e w' => e = .returned (.int .i64 (k : Int)) ∧ w' = W := fun W => by rw [hl]; exact ref_Log_ok k hk W
    have cF := ref_Forward w _ n k h hl hk
    have hp2 : 2 ^ k ≤ 1000000 := by omega
    have cS : ∀ (W : World) (u : Value), Below w.heap.size w W → IsU W u (mk (2 ^ k) (fw n k)) → Calls Tryz.prog 28 #[u] W fun e w' => e = .returned (.string (bs (sayN (mk (2 ^ k) (fw n k))))) ∧ Below W.heap.size W w' := fun W u hb hU => ref_said W u _ hU (by rw [mk_length]; exact hp2) (ht.below hb)
    have hkn : ¬ ((k : Int) < 0) := by omega
    have hn9 : n.length ≤ 9223372036854775807 := by omega
    clear h hl hk hp2 h9
    generalize sayN (mk (2 ^ k) (fw n k)) = R at *
    generalize mk (2 ^ k) (fw n k) = ys at *
    generalize n.length = m at *
    go_enter Tryz.func36, Tryz.ntmps36
    go_wp2_with (first
      | (go_at_call 30; refine Calls.mono (cL _) ?_; rintro e w' ⟨rfl, hw⟩; rw [hw]; clear hw)
      | (go_at_call 71; refine Calls.mono cF ?_; rintro e w1 ⟨u, rfl, hU, hB1⟩)
      | (go_at_call 28; refine Calls.mono (cS _ _ hB1 hU) ?_; rintro e w2 ⟨rfl, hB2⟩; have hB := hB1.trans (hB2.mono hB1.size)))
    go_ret
    exact ⟨rfl, hB⟩
  · have e : nttV n = wrg 5 := by unfold nttV; rw [if_neg hp]
    rw [e]
    have cL : ∀ W, Calls Tryz.prog 30 #[.int .i64 (n.length : Int)] W fun e w' => e = .returned (.int .i64 (-1)) ∧ w' = W := fun W => ref_Log_none n.length (fun j hj q => hp ⟨j, hj, q⟩) W
    have cW := ref_wrong 5 (by decide) (by decide) w ht
    have hn9 : n.length ≤ 9223372036854775807 := by omega
    clear h hp h9 e
    generalize wrg 5 = R at *
    generalize n.length = m at *
    go_enter Tryz.func36, Tryz.ntmps36
    go_wp2_with (first
      | (go_at_call 30; refine Calls.mono (cL _) ?_; rintro e w' ⟨rfl, hw⟩; rw [hw]; clear hw)
      | (go_at_call 26; refine Calls.mono cW ?_; rintro e w1 ⟨rfl, hB⟩))
    go_ret
    exact ⟨rfl, hB⟩
set_option maxRecDepth 100000 in
set_option maxHeartbeats 4000000 in
theorem ref_answer_back (w : World) (v : Value) (n : List Nat) (h : IsU w v n) (h9 : n.length ≤ 1000000) (ht : Tab w) :
    Calls Tryz.prog 36 #[.string { data := #[98, 97, 99, 107] }, v] w fun e w' => e = .returned (.string (bs (ansV [98, 97, 99, 107] n))) ∧ Below w.heap.size w w' := by
  rw [ansV_back]
  have h0 := h
  obtain ⟨a, cap, rfl, -⟩ := h0
  by_cases hp : IsPw n.length
  · obtain ⟨k, hk, hl⟩ := hp
    rw [bckV_ok hk hl]
    have cL : ∀ W, Calls Tryz.prog 30 #[.int .i64 (n.length : Int)] W fun e w' => e = .returned (.int .i64 (k : Int)) ∧ w' = W := fun W => by rw [hl]; exact ref_Log_ok k hk W
    have cF := ref_Inverse w _ n k h hl hk
    have hp2 : 2 ^ k ≤ 1000000 := by omega
    have cS : ∀ (W : World) (u : Value), Below w.heap.size w W → IsU W u (mk (2 ^ k) (bw n k)) → Calls Tryz.prog 28 #[u] W fun e w' => e = .returned (.string (bs (sayN (mk (2 ^ k) (bw n k))))) ∧ Below W.heap.size W w' := fun W u hb hU => ref_said W u _ hU (by rw [mk_length]; exact hp2) (ht.below hb)
    have hkn : ¬ ((k : Int) < 0) := by omega
    have hn9 : n.length ≤ 9223372036854775807 := by omega
    clear h hl hk hp2 h9
    generalize sayN (mk (2 ^ k) (bw n k)) = R at *
    generalize mk (2 ^ k) (bw n k) = ys at *
    generalize n.length = m at *
    go_enter Tryz.func36, Tryz.ntmps36
    go_wp2_with (first
      | (go_at_call 30; refine Calls.mono (cL _) ?_; rintro e w' ⟨rfl, hw⟩; rw [hw]; clear hw)
      | (go_at_call 70; refine Calls.mono cF ?_; rintro e w1 ⟨u, rfl, hU, hB1⟩)
      | (go_at_call 28; refine Calls.mono (cS _ _ hB1 hU) ?_; rintro e w2 ⟨rfl, hB2⟩; have hB := hB1.trans (hB2.mono hB1.size)))
    go_ret
    exact ⟨rfl, hB⟩
  · have e : bckV n = wrg 5 := by unfold bckV; rw [if_neg hp]
    rw [e]
    have cL : ∀ W, Calls Tryz.prog 30 #[.int .i64 (n.length : Int)] W fun e w' => e = .returned (.int .i64 (-1)) ∧ w' = W := fun W => ref_Log_none n.length (fun j hj q => hp ⟨j, hj, q⟩) W
    have cW := ref_wrong 5 (by decide) (by decide) w ht
    have hn9 : n.length ≤ 9223372036854775807 := by omega
    clear h hp h9 e
    generalize wrg 5 = R at *
    generalize n.length = m at *
    go_enter Tryz.func36, Tryz.ntmps36
    go_wp2_with (first
      | (go_at_call 30; refine Calls.mono (cL _) ?_; rintro e w' ⟨rfl, hw⟩; rw [hw]; clear hw)
      | (go_at_call 26; refine Calls.mono cW ?_; rintro e w1 ⟨rfl, hB⟩))
    go_ret
    exact ⟨rfl, hB⟩
set_option maxRecDepth 100000 in
set_option maxHeartbeats 4000000 in
theorem ref_answer_no (w : World) (v : Value) (verb : List UInt8) (n : List Nat) (h : IsU w v n) (hno : NoV verb) (ht : Tab w) :
    Calls Tryz.prog 36 #[.string (bs verb), v] w fun e w' => e = .returned (.string (bs (ansV verb n))) ∧ Below w.heap.size w w' := by
  rw [ansV_no hno]
  have cW := ref_wrong 3 (by decide) (by decide) w ht
  obtain ⟨k0, k1, k2, k3, k4, k5, k6, k7, k8, k9⟩ := hno
  have hb := bs_list verb
  have g0 : ((bs verb).toList == [97, 100, 100]) = false := by rw [hb, beq_eq_false_iff_ne]; exact k0
  have g1 : ((bs verb).toList == [115, 117, 98]) = false := by rw [hb, beq_eq_false_iff_ne]; exact k1
  have g2 : ((bs verb).toList == [109, 117, 108]) = false := by rw [hb, beq_eq_false_iff_ne]; exact k2
  have g3 : ((bs verb).toList == [112, 111, 119]) = false := by rw [hb, beq_eq_false_iff_ne]; exact k3
  have g4 : ((bs verb).toList == [105, 110, 118]) = false := by rw [hb, beq_eq_false_iff_ne]; exact k4
  have g5 : ((bs verb).toList == [114, 111, 111, 116]) = false := by rw [hb, beq_eq_false_iff_ne]; exact k5
  have g6 : ((bs verb).toList == [110, 116, 116]) = false := by rw [hb, beq_eq_false_iff_ne]; exact k6
  have g7 : ((bs verb).toList == [98, 97, 99, 107]) = false := by rw [hb, beq_eq_false_iff_ne]; exact k7
  have g8 : ((bs verb).toList == [112, 108, 97, 110]) = false := by rw [hb, beq_eq_false_iff_ne]; exact k8
  have g9 : ((bs verb).toList == [115, 104, 97, 114, 101]) = false := by rw [hb, beq_eq_false_iff_ne]; exact k9
  obtain ⟨a, cap, rfl, -⟩ := h
  clear hb k0 k1 k2 k3 k4 k5 k6 k7 k8 k9
  generalize wrg 3 = R at *
  generalize bs verb = S at *
  go_enter Tryz.func36, Tryz.ntmps36
  go_wp2_with (first
    | (go_at_call 26; refine Calls.mono cW ?_; rintro e w1 ⟨rfl, hB⟩))
  go_ret
  exact ⟨rfl, hB⟩

end Go.Proofs.YtmggccepmicjhacGreatDoor
