/-
  Texts that stood one behind the other, as one.
-/
import Derived.Test.YtmggccepmicjhacGreatDoorFieldAll
import Derived.Test.YtmggccepmicjhacGreatDoorDkC1All
import Derived.BigQuiet
import Derived.Test.YtmggccepmicjhacGreatDoorSlAll
import Derived.Test.YtmggccepmicjhacGreatDoorRefSAll
import Derived.Test.YtmggccepmicjhacGreatDoorPure
/-! What Product of package goldref answers: the product of two polynomials, number by number, in new memory. -/
namespace Go.Proofs.YtmggccepmicjhacGreatDoor
open Go.RowKit

/-- The first i summands of number k of a product. -/
def cvK (xs ys : List Nat) (k i : Nat) : Nat := (S i (fun j => cf xs j * cf ys (k - j))).val
theorem cvK_succ (xs ys : List Nat) (k i : Nat) : fA (cvK xs ys k i) (fM (xs.getD i 0) (ys.getD (k - i) 0)) = cvK xs ys k (i + 1) := by
  unfold cvK
  rw [S_succ, fA_val, toF_val, toF_fM]; rfl
theorem cvK_start (xs ys : List Nat) (k : Nat) : cvK xs ys k (k + 1 - ys.length) = 0 := by
  unfold cvK
  rw [S_zeros]
  · rfl
  · intro i hi
    rw [cf_ge (a := ys) (by omega)]; grind
theorem cvK_end (xs ys : List Nat) (k : Nat) : cvK xs ys k (min xs.length (k + 1)) = (conv (cf xs) (cf ys) k).val := by
  unfold cvK conv
  rw [S_more (m := min xs.length (k + 1)) (n := k + 1) (by omega)]
  intro i h1 h2
  rw [cf_ge (a := xs) (by omega)]; grind

set_option maxHeartbeats 2000000 in
theorem ref_Product (w : World) (v v' : Value) (xs ys : List Nat) (h : IsU w v xs) (h' : IsU w v' ys) (hl : xs.length ≤ 30000) (hl' : ys.length ≤ 30000) :
    Calls Tryz.prog 29 #[v, v'] w fun e w' => ∃ u, e = .returned u ∧ IsU w' u (pM xs ys) ∧ Below w.heap.size w w' := by
  obtain ⟨a, cap, rfl, hcap, hmax, hc, hr⟩ := h
  obtain ⟨a', cap', rfl, hcap', hmax', hc', hr'⟩ := h'
  clear hcap hcap' hmax hmax'
  by_cases hz : xs.length = 0 ∨ ys.length = 0
  · have e : pM xs ys = [] := by unfold pM; rw [if_pos hz]
    rw [e]
    clear hc hc' hr hr' e
    by_cases hx : xs.length = 0
    · have hx0' : ((xs.length : Int) == 0) = true := by rw [beq_iff_eq]; omega
      go_enter Tryz.func29, Tryz.ntmps29
      go_wp2
      go_ret
      exact ⟨_, rfl, IsU.nil _, Below.refl _ _⟩
    · have hx0' : ((xs.length : Int) == 0) = false := by rw [beq_eq_false_iff_ne]; omega
      have hy0' : ((ys.length : Int) == 0) = true := by rw [beq_iff_eq]; omega
      go_enter Tryz.func29, Tryz.ntmps29
      go_wp2
      go_ret
      exact ⟨_, rfl, IsU.nil _, Below.refl _ _⟩
  · have e : pM xs ys = mk (xs.length + ys.length - 1) (conv (cf xs) (cf ys)) := by unfold pM; rw [if_neg hz]
    rw [e]
    clear e hr hr'
    have hx0 : 0 < xs.length := by omega
    have hy0 : 0 < ys.length := by omega
    have hx0' : ((xs.length : Int) == 0) = false := by rw [beq_eq_false_iff_ne]; omega
    have hy0' : ((ys.length : Int) == 0) = false := by rw [beq_eq_false_iff_ne]; omega
    go_enter Tryz.func29, Tryz.ntmps29
    go_wp2
    go_loopw [5, 6] (fun u vi wr => ∃ k : Nat, k ≤ xs.length + ys.length - 1 ∧ vi = .int .i64 (k : Int) ∧ wr.ownsRow w.heap.size 78 1 u k (rowK k (conv (cf xs) (cf ys))) ∧ Below w.heap.size w wr)
      (fun _ vi _ => xs.length + ys.length - 1 - (intOf vi).toNat)
    case atStart => exact ⟨0, Nat.zero_le _, rfl, World.ownsRow_nil _ _ _ _, Below.refl _ _⟩
    case round =>
      obtain ⟨k, hk, rfl, hown, hnx⟩ := hrel
      have hsz := hnx.size
      by_cases hlt : k < xs.length + ys.length - 1
      · have hd24 : decide ((k : Int) < (xs.length : Int) + (ys.length : Int) - 1) = true := decide_eq_true (by omega)
        by_cases hkb : k + 1 ≤ ys.length
        · have e0 : k + 1 - ys.length = 0 := by omega
          go_wp2
          obtain ⟨wo, hwo⟩ : ∃ wo : World, wo = wr := ⟨_, rfl⟩
          rw [← hwo] at hown hnx hsz ⊢
          clear hwo
          go_loopw [7, 8] (fun vn vi wi => ∃ i : Nat, i ≤ min xs.length (k + 1) ∧ k + 1 - ys.length ≤ i ∧ vi = .int .i64 (i : Int) ∧ vn = .int .u64 ((cvK xs ys k i : Nat) : Int) ∧ wi.ownsRow w.heap.size 78 1 u5 k (rowK k (conv (cf xs) (cf ys))) ∧ Below w.heap.size w wi)
            (fun _ vi _ => min xs.length (k + 1) - (intOf vi).toNat)
          case atStart => exact ⟨k + 1 - ys.length, by omega, Nat.le_refl _, by rw [e0]; rfl, by rw [cvK_start]; rfl, hown, hnx⟩
          case round =>
            clear hown hnx hsz
            obtain ⟨i, hi1, hi2, rfl, rfl, hown, hnx⟩ := hrel
            by_cases hin : i < min xs.length (k + 1)
            · obtain ⟨b, off, rfl, hcell0⟩ := hc i (by omega)
              have hcell := (hnx.cell (block_lt hcell0)).trans hcell0
              obtain ⟨b', off', rfl, hcell0'⟩ := hc' (k - i) (by omega)
              have hcell' := (hnx.cell (block_lt hcell0')).trans hcell0'
              have c1 := ref_Mul (xs.getD i 0) (ys.getD (k - i) 0)
              have c2 := ref_Add (cvK xs ys k i) (fM (xs.getD i 0) (ys.getD (k - i) 0))
              rw [cvK_succ] at c2
              clear hcell0 hcell0' hc hc'
              generalize fM (xs.getD i 0) (ys.getD (k - i) 0) = m at *
              generalize xs.getD i 0 = x at *
              generalize ys.getD (k - i) 0 = y at *
              go_wp2
              go_quiet (first | (go_at_call 63; exact Calls.quiet_of_same (c1 _)) | (go_at_call 62; exact Calls.quiet_of_same (c2 _)))
              go_wp2
              go_roundw
              case rel => exact ⟨i + 1, by omega, by omega, by go_num, rfl, owns_drewN hown _, below_drewN hnx _⟩
              case measure => simp only [intOf]; omega
            · have e : i = min xs.length (k + 1) := by omega
              have hv := cvK_end xs ys k
              rw [← e] at hv
              have hnew := rowK_succ k (conv (cf xs) (cf ys))
              rw [← hv] at hnew
              have hrow : Hid (∀ (w1 : World) (u : Value), w1.ownsRow w.heap.size 78 1 u (k + 1) (rowK k (conv (cf xs) (cf ys)) ++ [.int .u64 ((cvK xs ys k i : Nat) : Int)]) → w1.ownsRow w.heap.size 78 1 u (k + 1) (rowK (k + 1) (conv (cf xs) (cf ys)))) := fun w1 u h => by rw [hnew]; exact h
              clear hnew hv hc hc'
              generalize cvK xs ys k i = z at *
              by_cases hix : i < xs.length
              · have hik : k < i := by omega
                have hd : decide (i ≤ k) = false := decide_eq_false (by omega)
                clear e hin
                go_wp2_with (at_builtin; refine wp_append1 rfl _ _ rfl _ _ _ _ rfl hown rfl ?c1a hnx ?_)
                case c1a => omega
                · intro u' w1 hown' hnx'
                  have hown2 := hrow.out _ _ hown'
                  clear hown' hown hrow hnx
                  go_wp2
                  go_roundw
                  case rel => exact ⟨k + 1, by omega, by go_num, hown2, hnx'⟩
                  case measure => simp only [intOf]; omega
              · have hix' : xs.length ≤ i := by omega
                clear e hin
                go_wp2_with (at_builtin; refine wp_append1 rfl _ _ rfl _ _ _ _ rfl hown rfl ?d1a hnx ?_)
                case d1a => omega
                · intro u' w1 hown' hnx'
                  have hown2 := hrow.out _ _ hown'
                  clear hown' hown hrow hnx
                  go_wp2
                  go_roundw
                  case rel => exact ⟨k + 1, by omega, by go_num, hown2, hnx'⟩
                  case measure => simp only [intOf]; omega
        · have e0 : ((k + 1 - ys.length : Nat) : Int) = (k : Int) - (ys.length : Int) + 1 := by omega
          go_wp2
          obtain ⟨wo, hwo⟩ : ∃ wo : World, wo = wr := ⟨_, rfl⟩
          rw [← hwo] at hown hnx hsz ⊢
          clear hwo
          go_loopw [7, 8] (fun vn vi wi => ∃ i : Nat, i ≤ min xs.length (k + 1) ∧ k + 1 - ys.length ≤ i ∧ vi = .int .i64 (i : Int) ∧ vn = .int .u64 ((cvK xs ys k i : Nat) : Int) ∧ wi.ownsRow w.heap.size 78 1 u5 k (rowK k (conv (cf xs) (cf ys))) ∧ Below w.heap.size w wi)
            (fun _ vi _ => min xs.length (k + 1) - (intOf vi).toNat)
          case atStart => exact ⟨k + 1 - ys.length, by omega, Nat.le_refl _, by rw [e0], by rw [cvK_start]; rfl, hown, hnx⟩
          case round =>
            clear hown hnx hsz
            obtain ⟨i, hi1, hi2, rfl, rfl, hown, hnx⟩ := hrel
            by_cases hin : i < min xs.length (k + 1)
            · obtain ⟨b, off, rfl, hcell0⟩ := hc i (by omega)
              have hcell := (hnx.cell (block_lt hcell0)).trans hcell0
              obtain ⟨b', off', rfl, hcell0'⟩ := hc' (k - i) (by omega)
              have hcell' := (hnx.cell (block_lt hcell0')).trans hcell0'
              have c1 := ref_Mul (xs.getD i 0) (ys.getD (k - i) 0)
              have c2 := ref_Add (cvK xs ys k i) (fM (xs.getD i 0) (ys.getD (k - i) 0))
              rw [cvK_succ] at c2
              clear hcell0 hcell0' hc hc'
              generalize fM (xs.getD i 0) (ys.getD (k - i) 0) = m at *
              generalize xs.getD i 0 = x at *
              generalize ys.getD (k - i) 0 = y at *
              go_wp2
              go_quiet (first | (go_at_call 63; exact Calls.quiet_of_same (c1 _)) | (go_at_call 62; exact Calls.quiet_of_same (c2 _)))
              go_wp2
              go_roundw
              case rel => exact ⟨i + 1, by omega, by omega, by go_num, rfl, owns_drewN hown _, below_drewN hnx _⟩
              case measure => simp only [intOf]; omega
            · have e : i = min xs.length (k + 1) := by omega
              have hv := cvK_end xs ys k
              rw [← e] at hv
              have hnew := rowK_succ k (conv (cf xs) (cf ys))
              rw [← hv] at hnew
              have hrow : Hid (∀ (w1 : World) (u : Value), w1.ownsRow w.heap.size 78 1 u (k + 1) (rowK k (conv (cf xs) (cf ys)) ++ [.int .u64 ((cvK xs ys k i : Nat) : Int)]) → w1.ownsRow w.heap.size 78 1 u (k + 1) (rowK (k + 1) (conv (cf xs) (cf ys)))) := fun w1 u h => by rw [hnew]; exact h
              clear hnew hv hc hc'
              generalize cvK xs ys k i = z at *
              by_cases hix : i < xs.length
              · have hik : k < i := by omega
                have hd : decide (i ≤ k) = false := decide_eq_false (by omega)
                clear e hin
                go_wp2_with (at_builtin; refine wp_append1 rfl _ _ rfl _ _ _ _ rfl hown rfl ?c1b hnx ?_)
                case c1b => omega
                · intro u' w1 hown' hnx'
                  have hown2 := hrow.out _ _ hown'
                  clear hown' hown hrow hnx
                  go_wp2
                  go_roundw
                  case rel => exact ⟨k + 1, by omega, by go_num, hown2, hnx'⟩
                  case measure => simp only [intOf]; omega
              · have hix' : xs.length ≤ i := by omega
                clear e hin
                go_wp2_with (at_builtin; refine wp_append1 rfl _ _ rfl _ _ _ _ rfl hown rfl ?d1b hnx ?_)
                case d1b => omega
                · intro u' w1 hown' hnx'
                  have hown2 := hrow.out _ _ hown'
                  clear hown' hown hrow hnx
                  go_wp2
                  go_roundw
                  case rel => exact ⟨k + 1, by omega, by go_num, hown2, hnx'⟩
                  case measure => simp only [intOf]; omega
      · have e : k = xs.length + ys.length - 1 := by omega
        have hU := rowK_isU hown
        rw [e] at hU
        clear hown hc hc'
        go_wp2
        go_ret
        exact ⟨_, rfl, hU, hnx⟩

end Go.Proofs.YtmggccepmicjhacGreatDoor

/-! What at of package goldref answers: a number of a list by the prime; 0 behind it. -/
namespace Go.Proofs.YtmggccepmicjhacGreatDoor
open Go.RowKit

theorem ref_at (w : World) (v : Value) (xs : List Nat) (i : Nat) (h : IsU w v xs) (hi : (i : Int) ≤ 9223372036854775807) :
    Calls Tryz.prog 64 #[v, .int .i64 (i : Int)] w fun e w' => e = .returned (.int .u64 ((fN (xs.getD i 0) : Nat) : Int)) ∧ w' = w := by
  obtain ⟨a, cap, rfl, hcap, hmax, hc, hr⟩ := h
  by_cases hlt : i < xs.length
  · obtain ⟨b, off, rfl, hcell⟩ := hc i hlt
    clear hc hr
    generalize xs.getD i 0 = x at *
    generalize xs.length = n at *
    go_enter Tryz.func64, Tryz.ntmps64
    go_wp2_with (go_at_call 67; refine Calls.mono (ref_Norm _ _) ?_; rintro e w' ⟨rfl, hw⟩; rw [hw]; clear hw)
    go_ret
    exact ⟨rfl, rfl⟩
  · have e : fN (xs.getD i 0) = 0 := by
      have : xs.getD i 0 = 0 := by simp [List.getD, List.getElem?_eq_none (show xs.length ≤ i by omega)]
      rw [this]; rfl
    rw [e]
    clear hc hr e
    have hge : xs.length ≤ i := by omega
    generalize xs.length = n at *
    go_enter Tryz.func64, Tryz.ntmps64
    go_wp2
    go_ret
    exact ⟨rfl, rfl⟩

end Go.Proofs.YtmggccepmicjhacGreatDoor

/-! What Round of package goldref answers, of two lists of one length: the product round the end, and skew. -/
namespace Go.Proofs.YtmggccepmicjhacGreatDoor
open Go.RowKit

theorem fN_cf (l : List Nat) (i : Nat) : fN (l.getD i 0) = (cf l i).val := fN_val _
theorem k_rsub0 (x : Nat) (w : World) : Calls Tryz.prog 65 #[.int .u64 0, .int .u64 (x : Int)] w fun e w' => e = .returned (.int .u64 ((fS 0 x : Nat) : Int)) ∧ w' = w := ref_Sub 0 x w
theorem rnd_cyc (xs ys : List Nat) (k : Nat) : fA (fN ((pM xs ys).getD k 0)) (fN ((pM xs ys).getD (k + xs.length) 0)) = (rnd xs ys false k).val := by
  rw [fN_cf, fN_cf, fA_val, toF_val, toF_val, cf_pM, cf_pM]; rfl
theorem rnd_skew (xs ys : List Nat) (k : Nat) : fA (fN ((pM xs ys).getD k 0)) (fS 0 (fN ((pM xs ys).getD (k + xs.length) 0))) = (rnd xs ys true k).val := by
  rw [fN_cf, fN_cf, fA_val, toF_fS, toF_val, toF_val, cf_pM, cf_pM, toF_zero]
  show _ = (conv (cf xs) (cf ys) k - conv (cf xs) (cf ys) (k + xs.length)).val
  congr 1
  grind

set_option maxHeartbeats 2000000 in
theorem ref_Round (w : World) (v v' : Value) (xs ys : List Nat) (skew : Bool) (h : IsU w v xs) (h' : IsU w v' ys) (hx : xs.length ≤ 10000) (hy : ys.length ≤ 10000) :
    Calls Tryz.prog 31 #[v, v', .bool skew] w fun e w' => ∃ u, e = .returned u ∧ IsU w' u (mk xs.length (rnd xs ys skew)) ∧ Below w.heap.size w w' := by
  have h0 := h
  obtain ⟨a, cap, rfl, hcap, hmax, hc, hr⟩ := h
  clear hcap hmax hc hr
  have cP := ref_Product w _ v' xs ys h0 h' (by omega) (by omega)
  clear h0 h'
  go_enter Tryz.func31, Tryz.ntmps31
  go_wp2_with (go_at_call 29; refine Calls.mono cP ?_; rintro e wP ⟨l, rfl, hL, hW⟩)
  have hszP := hW.size
  go_loopw [8, 9] (fun u vi wr => ∃ j : Nat, j ≤ xs.length ∧ vi = .int .i64 (j : Int) ∧ wr.ownsRow wP.heap.size 78 1 u j (rowK j (rnd xs ys skew)) ∧ Below wP.heap.size wP wr)
    (fun _ vi _ => xs.length - (intOf vi).toNat)
  case atStart => exact ⟨0, Nat.zero_le _, rfl, World.ownsRow_nil _ _ _ _, Below.refl _ _⟩
  case round =>
    obtain ⟨j, hj, rfl, hown, hnx⟩ := hrel
    by_cases hlt : j < xs.length
    · have hd : decide (j < xs.length) = true := decide_eq_true hlt
      have hLr := hL.below hnx
      have cA := ref_at wr l (pM xs ys) (j + xs.length) hLr (by omega)
      rw [Int.natCast_add] at cA
      have cB := ref_at wr l (pM xs ys) j hLr (by omega)
      have hnew := rowK_succ j (rnd xs ys skew)
      have hrow : Hid (∀ (w1 : World) (u : Value), w1.ownsRow wP.heap.size 78 1 u (j + 1) (rowK j (rnd xs ys skew) ++ [.int .u64 (((rnd xs ys skew j).val : Nat) : Int)]) → w1.ownsRow wP.heap.size 78 1 u (j + 1) (rowK (j + 1) (rnd xs ys skew))) := fun w1 u h => by rw [hnew]; exact h
      clear hnew hLr
      have tk1 : True := trivial
      cases skew with
      | false =>
        have cS := ref_Add (fN ((pM xs ys).getD j 0)) (fN ((pM xs ys).getD (j + xs.length) 0))
        rw [rnd_cyc] at cS
        generalize (rnd xs ys false j).val = z at *
        generalize fN ((pM xs ys).getD j 0) = p at *
        generalize fN ((pM xs ys).getD (j + xs.length) 0) = q at *
        go_wp2_with (first
          | (go_at_call 64; have _t := tk1; refine Calls.mono cA ?_; rintro e w' ⟨rfl, hw⟩; rw [hw]; clear hw tk1)
          | (go_at_call 64; refine Calls.mono cB ?_; rintro e w' ⟨rfl, hw⟩; rw [hw]; clear hw)
          | (go_at_call 62; refine Calls.mono (cS _) ?_; rintro e w' ⟨rfl, hw⟩; rw [hw]; clear hw)
          | (at_builtin; refine wp_append1 rfl _ _ rfl _ _ _ _ rfl hown rfl ?c3 hnx ?_; rotate_right; intro u' w1 hown' hnx'))
        case c3 => omega
        · have hown2 := hrow.out _ _ hown'
          clear hown' hown hrow hnx
          go_roundw
          case rel => exact ⟨j + 1, by omega, by go_num, hown2, hnx'⟩
          case measure => simp only [intOf]; omega
      | true =>
        have cS := ref_Add (fN ((pM xs ys).getD j 0)) (fS 0 (fN ((pM xs ys).getD (j + xs.length) 0)))
        rw [rnd_skew] at cS
        have cZ := k_rsub0 (fN ((pM xs ys).getD (j + xs.length) 0))
        generalize (rnd xs ys true j).val = z at *
        generalize fN ((pM xs ys).getD j 0) = p at *
        generalize fS 0 (fN ((pM xs ys).getD (j + xs.length) 0)) = q2 at *
        generalize fN ((pM xs ys).getD (j + xs.length) 0) = q at *
        go_wp2_with (first
          | (go_at_call 64; have _t := tk1; refine Calls.mono cA ?_; rintro e w' ⟨rfl, hw⟩; rw [hw]; clear hw tk1)
          | (go_at_call 64; refine Calls.mono cB ?_; rintro e w' ⟨rfl, hw⟩; rw [hw]; clear hw)
          | (go_at_call 65; refine Calls.mono (cZ _) ?_; rintro e w' ⟨rfl, hw⟩; rw [hw]; clear hw)
          | (go_at_call 62; refine Calls.mono (cS _) ?_; rintro e w' ⟨rfl, hw⟩; rw [hw]; clear hw)
          | (at_builtin; refine wp_append1 rfl _ _ rfl _ _ _ _ rfl hown rfl ?c4 hnx ?_; rotate_right; intro u' w1 hown' hnx'))
        case c4 => omega
        · have hown2 := hrow.out _ _ hown'
          clear hown' hown hrow hnx
          go_roundw
          case rel => exact ⟨j + 1, by omega, by go_num, hown2, hnx'⟩
          case measure => simp only [intOf]; omega
    · have e : j = xs.length := by omega
      subst e
      have hU := rowK_isU hown
      clear hown hL
      go_wp2
      go_ret
      exact ⟨_, rfl, hU, hW.trans (hnx.mono hszP)⟩

end Go.Proofs.YtmggccepmicjhacGreatDoor
