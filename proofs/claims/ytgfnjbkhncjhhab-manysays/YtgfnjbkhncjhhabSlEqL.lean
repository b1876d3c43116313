/-
  What slices.EqualFunc answers of two slices of slices of ints that read as one list of lists: true; nothing that was there is written.
-/
import Derived.Test.YtgfnjbkhncjhhabRefLines
import Derived.Test.YtgfnjbkhncjhhabSlEqI
namespace Go.Proofs.Ytgfnjbkhncjhhab
open Go.RowKit

theorem same_ints (w : World) (v v' : Value) (xs : List Nat) (h : IsI w v xs) (h' : IsI w v' xs) :
    Calls Try.prog 10 #[v, v'] w fun e w' => e = .returned (.bool true) ∧ Below w.heap.size w w' := by
  have c := slices_EqualI w v v' xs h h'
  go_enter Try.func10, Try.ntmps10
  go_wp2_with (go_at_call 11; refine Calls.mono c ?_; rintro e w1 ⟨rfl, hb⟩)
  go_ret
  exact ⟨rfl, hb⟩

set_option maxHeartbeats 2000000 in
theorem slices_EqualFunc (w : World) (v v' : Value) (L : List (List Nat)) (h : IsL w v L) (h' : IsL w v' L) :
    Calls Try.prog 9 #[v, v', .func (.func 10) #[] #[]] w fun e w' => e = .returned (.bool true) ∧ Below w.heap.size w w' := by
  have hL := h
  have hL' := h'
  obtain ⟨a, cap, rfl, hcap, hmax, -⟩ := h
  obtain ⟨a', cap', rfl, -, -, -⟩ := h'
  have hlen : (L.length : Int) ≤ 9223372036854775807 := by unfold maxLen at hmax; omega
  clear hcap hmax
  have hget : ∀ (W : World) (hb : Below w.heap.size w W) (i : Nat), i < L.length → ∃ b off u b' off' u', a = some ⟨b, off, none⟩ ∧ a' = some ⟨b', off', none⟩ ∧ W.cell? ⟨b, off + i, none⟩ = some u ∧ W.cell? ⟨b', off' + i, none⟩ = some u' ∧ IsI W u (L.getD i []) ∧ IsI W u' (L.getD i []) := by
    intro W hb i hi
    obtain ⟨a1, c1, e1, _, _, hc⟩ := hL.below hb
    obtain ⟨a2, c2, e2, _, _, hc2⟩ := hL'.below hb
    simp only [Value.slice.injEq, true_and] at e1 e2
    obtain ⟨rfl, rfl⟩ := e1
    obtain ⟨rfl, rfl⟩ := e2
    obtain ⟨b, off, u, e3, h3, h4⟩ := hc i hi
    obtain ⟨b', off', u', e5, h5, h6⟩ := hc2 i hi
    exact ⟨b, off, u, b', off', u', e3, e5, h3, h5, h4, h6⟩
  clear hL hL'
  generalize hn : L.length = n at *
  clear hn
  go_enter Try.func9, Try.ntmps9
  go_wp2
  go_loopw [17] (fun vi wr => ∃ k : Nat, k ≤ n ∧ vi = .int .i64 (k : Int) ∧ Below w.heap.size w wr)
    (fun vi _ => n - (intOf vi).toNat)
  case atStart => exact ⟨0, Nat.zero_le _, rfl, Below.refl _ _⟩
  case round =>
    obtain ⟨k, hk, rfl, hnx⟩ := hrel
    by_cases hlt : k < n
    · obtain ⟨b, off, u, b', off', u', rfl, rfl, h1, h2, h3, h4⟩ := hget wr hnx k hlt
      have c := same_ints wr u u' _ h3 h4
      have h3' := h3
      have h4' := h4
      obtain ⟨au, cu, rfl, -⟩ := h3'
      obtain ⟨au', cu', rfl, -⟩ := h4'
      clear hget h3 h4
      go_wp2_with (go_at_call 10; refine Calls.mono c ?_; rintro e w1 ⟨rfl, hb⟩; clear h1 h2 c)
      replace hnx := hnx.trans (hb.mono hnx.size)
      clear hb
      go_roundw
      case rel => exact ⟨k + 1, by omega, by go_num, hnx⟩
      case measure => simp only [intOf]; omega
    · have e : k = n := by omega
      subst e
      clear hget
      go_wp2
      go_ret
      exact ⟨rfl, hnx⟩

end Go.Proofs.Ytgfnjbkhncjhhab
