/-
  What Sum of package goldref answers: the sum of two polynomials in normal form.
-/
import Derived.Test.YtjbdpjbcibhflacRefNormal
import Derived.Test.YtjbdpjbcibhflacRefAt
import Derived.Test.YtjbdpjbcibhflacSlRow
namespace Go.Proofs.Ytjbdpjbcibhflac
open Go.RowKit

set_option maxHeartbeats 2000000 in
theorem ref_SumF (w : World) (v v' : Value) (xs ys : List Nat) (h : IsU w v xs) (h' : IsU w v' ys) (hl : xs.length ≤ 30000) (hl' : ys.length ≤ 30000) :
    Calls Try.prog 32 #[v, v'] w fun e w' => ∃ u, e = .returned u ∧ IsU w' u (pN (pS xs ys)) ∧ Ow w.heap.size w' u (pN (pS xs ys)) ∧ Below w.heap.size w w' := by
  have h0 := h
  have h0' := h'
  obtain ⟨a, cap, rfl, hcap, hmax, hc, hr⟩ := h
  obtain ⟨a', cap', rfl, hcap', hmax', hc', hr'⟩ := h'
  clear hc hc' hr hr' hcap hcap' hmax hmax'
  have hm : Hid (pS xs ys = mk (max xs.length ys.length) (fun i => cf xs i + cf ys i)) := rfl
  go_enter Try.func32, Try.ntmps32
  go_wp2
  go_loopw [5, 6] (fun u vi wr => ∃ k : Nat, k ≤ max xs.length ys.length ∧ vi = .int .i64 (k : Int) ∧ wr.ownsRow w.heap.size 30 1 u k (rowK k (fun i => cf xs i + cf ys i)) ∧ Below w.heap.size w wr)
    (fun _ vi _ => max xs.length ys.length - (intOf vi).toNat)
  case atStart => exact ⟨0, Nat.zero_le _, rfl, World.ownsRow_nil _ _ _ _, Below.refl _ _⟩
  case round =>
    obtain ⟨k, hk, rfl, hown, hnx⟩ := hrel
    have hsz := hnx.size
    by_cases hlt : k < max xs.length ys.length
    · have ca := ref_at wr _ xs k (h0.below hnx) (by omega)
      have cb := ref_at wr _ ys k (h0'.below hnx) (by omega)
      have e : fA (fN (xs.getD k 0)) (fN (ys.getD k 0)) = (cf xs k + cf ys k).val := by
        rw [fA_val, toF_fN, toF_fN]; rfl
      have cs := ref_Add (fN (xs.getD k 0)) (fN (ys.getD k 0))
      rw [e] at cs
      have hnew := rowK_succ k (fun i => cf xs i + cf ys i)
      clear e h0 h0'
      generalize fN (xs.getD k 0) = p at *
      generalize fN (ys.getD k 0) = q at *
      generalize (cf xs k + cf ys k).val = z at *
      have hrow : Hid (∀ (w1 : World) (u : Value), w1.ownsRow w.heap.size 30 1 u (k + 1) (rowK k (fun i => cf xs i + cf ys i) ++ [.int .u64 (z : Int)]) → w1.ownsRow w.heap.size 30 1 u (k + 1) (rowK (k + 1) (fun i => cf xs i + cf ys i))) := fun w1 u h => by rw [hnew]; exact h
      clear hnew
      by_cases hkx : k < xs.length
      · go_wp2_with (first
          | (go_at_call 41; refine Calls.mono ca ?_; rintro e w' ⟨rfl, hw⟩; rw [hw]; clear hw ca)
          | (go_at_call 41; refine Calls.mono cb ?_; rintro e w' ⟨rfl, hw⟩; rw [hw]; clear hw)
          | (go_at_call 26; refine Calls.mono (cs _) ?_; rintro e w' ⟨rfl, hw⟩; rw [hw]; clear hw)
          | (at_builtin; refine wp_append1 rfl _ _ rfl _ _ _ _ rfl hown rfl ?c3 hnx ?_))
        case c3 => omega
        · intro u' w1 hown' hnx'
          have hown2 := hrow.out _ _ hown'
          clear hown' hown hrow hnx
          go_wp2
          go_roundw
          case rel => exact ⟨k + 1, by omega, by go_num, hown2, hnx'⟩
          case measure => simp only [intOf]; omega
      · have hky : k < ys.length := by omega
        go_wp2_with (first
          | (go_at_call 41; refine Calls.mono ca ?_; rintro e w' ⟨rfl, hw⟩; rw [hw]; clear hw ca)
          | (go_at_call 41; refine Calls.mono cb ?_; rintro e w' ⟨rfl, hw⟩; rw [hw]; clear hw)
          | (go_at_call 26; refine Calls.mono (cs _) ?_; rintro e w' ⟨rfl, hw⟩; rw [hw]; clear hw)
          | (at_builtin; refine wp_append1 rfl _ _ rfl _ _ _ _ rfl hown rfl ?c4 hnx ?_))
        case c4 => omega
        · intro u' w1 hown' hnx'
          have hown2 := hrow.out _ _ hown'
          clear hown' hown hrow hnx
          go_wp2
          go_roundw
          case rel => exact ⟨k + 1, by omega, by go_num, hown2, hnx'⟩
          case measure => simp only [intOf]; omega
    · have e : k = max xs.length ys.length := by omega
      have hU := rowK_isU hown
      rw [e, ← hm.out] at hU
      have cn := ref_NormalF wr u5 (pS xs ys) hU (by unfold pS; rw [mk_length]; omega)
      have hkx : xs.length ≤ k := by omega
      have hky : ys.length ≤ k := by omega
      clear e hown hm hU h0 h0'
      go_wp2_with (go_at_call 42; refine Calls.mono cn ?_; rintro e w' ⟨u, rfl, hU, hO, hnx'⟩)
      go_ret
      exact ⟨_, rfl, hU, hO.mono hsz, hnx.trans (hnx'.mono hsz)⟩
theorem ref_Sum (w : World) (v v' : Value) (xs ys : List Nat) (h : IsU w v xs) (h' : IsU w v' ys) (hl : xs.length ≤ 30000) (hl' : ys.length ≤ 30000) :
    Calls Try.prog 32 #[v, v'] w fun e w' => ∃ u, e = .returned u ∧ IsU w' u (pN (pS xs ys)) ∧ Below w.heap.size w w' := by
  refine (ref_SumF w v v' xs ys h h' hl hl').mono ?_
  rintro e w' ⟨u, rfl, h1, -, h3⟩
  exact ⟨u, rfl, h1, h3⟩

end Go.Proofs.Ytjbdpjbcibhflac
