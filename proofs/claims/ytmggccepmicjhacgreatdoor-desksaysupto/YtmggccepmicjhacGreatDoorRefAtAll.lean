/-
  Texts that stood one behind the other, as one.
-/
import Derived.Test.YtmggccepmicjhacGreatDoorPlanVAll
import Derived.Test.YtmggccepmicjhacGreatDoorSlAll
import Derived.Test.YtmggccepmicjhacGreatDoorRefLineAll
import Derived.Test.YtmggccepmicjhacGreatDoorDkNAll
import Derived.Test.YtmggccepmicjhacGreatDoorSlRowAll
import Derived.Test.YtmggccepmicjhacGreatDoorPure
/-! What at of package goldref answers: a number of a list by the prime; 0 behind it. -/
namespace Go.Proofs.YtmggccepmicjhacGreatDoor
open Go.RowKit
set_option maxRecDepth 100000

theorem ref_at (w : World) (v : Value) (xs : List Nat) (i : Nat) (h : IsU w v xs) (hi : (i : Int) ≤ 9223372036854775807) :
    Calls Tryz.prog 64 #[v, .int .i64 (i : Int)] w fun e w' => e = .returned (.int .u64 ((fN (xs.getD i 0) : Nat) : Int)) ∧ w' = w := by
  obtain ⟨a, cap, rfl, hcap, hmax, hc, hr⟩ := h
  by_cases hlt : i < xs.length
  · obtain ⟨b, off, rfl, hcell⟩ := hc i hlt
    clear hc hr
    generalize xs.getD i 0 = x at *
    generalize xs.length = n at *
    go_enter Tryz.func64, Tryz.ntmps64
    go_wp2_with (go_at_call 67; refine Calls.mono (ref_Norm _ _) ?_; rintro e w' ⟨rfl, hw⟩; rw [hw]; clear hw)
    go_ret
    exact ⟨rfl, rfl⟩
  · have e : fN (xs.getD i 0) = 0 := by
      have : xs.getD i 0 = 0 := by simp [List.getD, List.getElem?_eq_none (show xs.length ≤ i by omega)]
      rw [this]; rfl
    rw [e]
    clear hc hr e
    have hge : xs.length ≤ i := by omega
    generalize xs.length = n at *
    go_enter Tryz.func64, Tryz.ntmps64
    go_wp2
    go_ret
    exact ⟨rfl, rfl⟩

end Go.Proofs.YtmggccepmicjhacGreatDoor

/-! What Round of package goldref answers, of two lists of one length: the product round the end, and skew. -/
namespace Go.Proofs.YtmggccepmicjhacGreatDoor
open Go.RowKit
set_option maxRecDepth 100000

theorem fN_cf (l : List Nat) (i : Nat) : fN (l.getD i 0) = (cf l i).val := fN_val _
theorem k_rsub0 (x : Nat) (w : World) : Calls Tryz.prog 65 #[.int .u64 0, .int .u64 (x : Int)] w fun e w' => e = .returned (.int .u64 ((fS 0 x : Nat) : Int)) ∧ w' = w := ref_Sub 0 x w
theorem rnd_cyc (xs ys : List Nat) (k : Nat) : fA (fN ((pM xs ys).getD k 0)) (fN ((pM xs ys).getD (k + xs.length) 0)) = (rnd xs ys false k).val := by
  rw [fN_cf, fN_cf, fA_val, toF_val, toF_val, cf_pM, cf_pM]; rfl
theorem rnd_skew (xs ys : List Nat) (k : Nat) : fA (fN ((pM xs ys).getD k 0)) (fS 0 (fN ((pM xs ys).getD (k + xs.length) 0))) = (rnd xs ys true k).val := by
  rw [fN_cf, fN_cf, fA_val, toF_fS, toF_val, toF_val, cf_pM, cf_pM, toF_zero]
  show _ = (conv (cf xs) (cf ys) k - conv (cf xs) (cf ys) (k + xs.length)).val
  congr 1
  grind

set_option maxHeartbeats 2000000 in
theorem ref_Round (w : World) (v v' : Value) (xs ys : List Nat) (skew : Bool) (h : IsU w v xs) (h' : IsU w v' ys) (hx : xs.length ≤ 10000) (hy : ys.length ≤ 10000) :
    Calls Tryz.prog 31 #[v, v', .bool skew] w fun e w' => ∃ u, e = .returned u ∧ IsU w' u (mk xs.length (rnd xs ys skew)) ∧ Below w.heap.size w w' := by
  have h0 := h
  obtain ⟨a, cap, rfl, hcap, hmax, hc, hr⟩ := h
  clear hcap hmax hc hr
  have cP := ref_Product w _ v' xs ys h0 h' (by omega) (by omega)
  clear h0 h'
  go_enter Tryz.func31, Tryz.ntmps31
  go_wp2_with (go_at_call 29; refine Calls.mono cP ?_; rintro e wP ⟨l, rfl, hL, hW⟩)
  have hszP := hW.size
  go_loopw [8, 9] (fun u vi wr => ∃ j : Nat, j ≤ xs.length ∧ vi = .int .i64 (j : Int) ∧ wr.ownsRow wP.heap.size 78 1 u j (rowK j (rnd xs ys skew)) ∧ Below wP.heap.size wP wr)
    (fun _ vi _ => xs.length - (intOf vi).toNat)
  case atStart => exact ⟨0, Nat.zero_le _, rfl, World.ownsRow_nil _ _ _ _, Below.refl _ _⟩
  case round =>
    obtain ⟨j, hj, rfl, hown, hnx⟩ := hrel
    by_cases hlt : j < xs.length
    · have hd : decide (j < xs.length) = true := decide_eq_true hlt
      have hLr := hL.below hnx
      have cA := ref_at wr l (pM xs ys) (j + xs.length) hLr (by omega)
      rw [Int.natCast_add] at cA
      have cB := ref_at wr l (pM xs ys) j hLr (by omega)
      have hnew := rowK_succ j (rnd xs ys skew)
      have hrow : Hid (∀ (w1 : World) (u : Value), w1.ownsRow wP.heap.size 78 1 u (j + 1) (rowK j (rnd xs ys skew) ++ [.int .u64 (((rnd xs ys skew j).val : Nat) : Int)]) → w1.ownsRow wP.heap.size 78 1 u (j + 1) (rowK (j + 1) (rnd xs ys skew))) := fun w1 u h => by rw [hnew]; exact h
      clear hnew hLr
      have tk1 : True := trivial
      cases skew with
      | false =>
        have cS := ref_Add (fN ((pM xs ys).getD j 0)) (fN ((pM xs ys).getD (j + xs.length) 0))
        rw [rnd_cyc] at cS
        generalize (rnd xs ys false j).val = z at *
        generalize fN ((pM xs ys).getD j 0) = p at *
        generalize fN ((pM xs ys).getD (j + xs.length) 0) = q at *
        go_wp2_with (first
          | (go_at_call 64; have _t := tk1; refine Calls.mono cA ?_; rintro e w' ⟨rfl, hw⟩; rw [hw]; clear hw tk1)
          | (go_at_call 64; refine Calls.mono cB ?_; rintro e w' ⟨rfl, hw⟩; rw [hw]; clear hw)
          | (go_at_call 62; refine Calls.mono (cS _) ?_; rintro e w' ⟨rfl, hw⟩; rw [hw]; clear hw)
          | (at_builtin; refine wp_append1 rfl _ _ rfl _ _ _ _ rfl hown rfl ?c3 hnx ?_; rotate_right; intro u' w1 hown' hnx'))
        case c3 => omega
        · have hown2 := hrow.out _ _ hown'
          clear hown' hown hrow hnx
          go_roundw
          case rel => exact ⟨j + 1, by omega, by go_num, hown2, hnx'⟩
          case measure => simp only [intOf]; omega
      | true =>
        have cS := ref_Add (fN ((pM xs ys).getD j 0)) (fS 0 (fN ((pM xs ys).getD (j + xs.length) 0)))
        rw [rnd_skew] at cS
        have cZ := k_rsub0 (fN ((pM xs ys).getD (j + xs.length) 0))
        generalize (rnd xs ys true j).val = z at *
        generalize fN ((pM xs ys).getD j 0) = p at *
        generalize fS 0 (fN ((pM xs ys).getD (j + xs.length) 0)) = q2 at *
        generalize fN ((pM xs ys).getD (j + xs.length) 0) = q at *
        go_wp2_with (first
          | (go_at_call 64; have _t := tk1; refine Calls.mono cA ?_; rintro e w' ⟨rfl, hw⟩; rw [hw]; clear hw tk1)
          | (go_at_call 64; refine Calls.mono cB ?_; rintro e w' ⟨rfl, hw⟩; rw [hw]; clear hw)
          | (go_at_call 65; refine Calls.mono (cZ _) ?_; rintro e w' ⟨rfl, hw⟩; rw [hw]; clear hw)
          | (go_at_call 62; refine Calls.mono (cS _) ?_; rintro e w' ⟨rfl, hw⟩; rw [hw]; clear hw)
          | (at_builtin; refine wp_append1 rfl _ _ rfl _ _ _ _ rfl hown rfl ?c4 hnx ?_; rotate_right; intro u' w1 hown' hnx'))
        case c4 => omega
        · have hown2 := hrow.out _ _ hown'
          clear hown' hown hrow hnx
          go_roundw
          case rel => exact ⟨j + 1, by omega, by go_num, hown2, hnx'⟩
          case measure => simp only [intOf]; omega
    · have e : j = xs.length := by omega
      subst e
      have hU := rowK_isU hown
      clear hown hL
      go_wp2
      go_ret
      exact ⟨_, rfl, hU, hW.trans (hnx.mono hszP)⟩

end Go.Proofs.YtmggccepmicjhacGreatDoor
