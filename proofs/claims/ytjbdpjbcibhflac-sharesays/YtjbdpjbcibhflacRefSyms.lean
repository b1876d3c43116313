/-
  What Symbols of package goldref answers: the values of a polynomial at powers of the root.
-/
import Derived.Test.YtjbdpjbcibhflacRefEval
import Derived.Test.YtjbdpjbcibhflacRefR
import Derived.Test.YtjbdpjbcibhflacSlRow
namespace Go.Proofs.Ytjbdpjbcibhflac
open Go.RowKit

/-- Symbol i of data. -/
def symF (xs : List Nat) (i : Nat) : F := evF (xs.map toF) (pw (toF (rt 6)) i)
theorem symF_val (xs : List Nat) (i : Nat) : (symF xs i).val = pE xs (fW (rt 6) i) := by unfold symF pE; rw [toF_fW]
theorem ref_Root6 (w : World) : Calls Try.prog 17 #[.int .i64 6] w fun e w' => e = .returned (.int .u64 ((rt 6 : Nat) : Int)) ∧ w' = w := ref_Root 6 (by decide) w
set_option maxHeartbeats 2000000 in
theorem ref_Symbols (w : World) (v : Value) (xs : List Nat) (n : Nat) (h : IsU w v xs) (hn : n ≤ 1000000) :
    Calls Try.prog 6 #[v, .int .i64 (n : Int)] w fun e w' => ∃ u, e = .returned u ∧ IsU w' u (mk n (symF xs)) ∧ Below w.heap.size w w' := by
  have h0 := h
  obtain ⟨a, cap, rfl, hcap, hmax, hc, hr⟩ := h
  clear hc hr hcap hmax
  go_enter Try.func6, Try.ntmps6
  go_wp2
  go_loopw [5, 6] (fun u vi wr => ∃ k : Nat, k ≤ n ∧ vi = .int .i64 (k : Int) ∧ wr.ownsRow w.heap.size 30 1 u k (rowK k (symF xs)) ∧ Below w.heap.size w wr)
    (fun _ vi _ => n - (intOf vi).toNat)
  case atStart => exact ⟨0, Nat.zero_le _, rfl, World.ownsRow_nil _ _ _ _, Below.refl _ _⟩
  case round =>
    obtain ⟨k, hk, rfl, hown, hnx⟩ := hrel
    have hsz := hnx.size
    by_cases hlt : k < n
    · have cr := ref_Root6
      have cp := ref_Pow (rt 6) k (by omega)
      have ce := ref_Eval wr _ xs (fW (rt 6) k) (h0.below hnx)
      have e : (symF xs k).val = pE xs (fW (rt 6) k) := symF_val xs k
      have hnew := rowK_succ k (symF xs)
      rw [e] at hnew
      clear e h0
      generalize fW (rt 6) k = p at *
      generalize rt 6 = q at *
      generalize pE xs p = z at *
      have hrow : Hid (∀ (w1 : World) (u : Value), w1.ownsRow w.heap.size 30 1 u (k + 1) (rowK k (symF xs) ++ [.int .u64 (z : Int)]) → w1.ownsRow w.heap.size 30 1 u (k + 1) (rowK (k + 1) (symF xs))) := fun w1 u h => by rw [hnew]; exact h
      clear hnew
      go_wp2_with (first
        | (go_at_call 17; refine Calls.mono (cr _) ?_; rintro e w' ⟨rfl, hw⟩; rw [hw]; clear hw)
        | (go_at_call 16; refine Calls.mono (cp _) ?_; rintro e w' ⟨rfl, hw⟩; rw [hw]; clear hw)
        | (go_at_call 15; refine Calls.mono ce ?_; rintro e w' ⟨rfl, hw⟩; rw [hw]; clear hw)
        | (at_builtin; refine wp_append1 rfl _ _ rfl _ _ _ _ rfl hown rfl ?c3 hnx ?_))
      case c3 => omega
      · intro u' w1 hown' hnx'
        have hown2 := hrow.out _ _ hown'
        clear hown' hown hrow hnx
        go_wp2
        go_roundw
        case rel => exact ⟨k + 1, by omega, by go_num, hown2, hnx'⟩
        case measure => simp only [intOf]; omega
    · have e : k = n := by omega
      have hU := rowK_isU hown
      subst e
      have hge : ¬ k < k := Nat.lt_irrefl _
      clear hown h0
      go_wp2
      go_ret
      exact ⟨_, rfl, hU, hnx⟩

end Go.Proofs.Ytjbdpjbcibhflac
