/-
  What Normal of package goldref answers: the normal form of a list, in new memory.
-/
import Derived.Test.YtjbdpjbcibhflacRef
import Derived.Test.YtjbdpjbcibhflacSlApp
import Derived.Test.YtjbdpjbcibhflacPure
namespace Go.Proofs.Ytjbdpjbcibhflac
open Go.RowKit

def rowN (xs : List Nat) (k : Nat) : List Value := cellsU ((xs.take k).map fN)
theorem rowN_succ (xs : List Nat) (k : Nat) (h : k < xs.length) : rowN xs (k + 1) = rowN xs k ++ [.int .u64 ((fN (xs.getD k 0) : Nat) : Int)] := by
  unfold rowN; rw [take_succ_getD xs k h]; simp [cellsU]

set_option maxHeartbeats 1000000 in
theorem ref_NormalF (w : World) (v : Value) (xs : List Nat) (h : IsU w v xs) (hl : xs.length ≤ 65536) :
    Calls Try.prog 42 #[v] w fun e w' => ∃ v', e = .returned v' ∧ IsU w' v' (pN xs) ∧ Ow w.heap.size w' v' (pN xs) ∧ Below w.heap.size w w' := by
  obtain ⟨a, cap, rfl, hcap, hmax, hc, hr⟩ := h
  go_enter Try.func42, Try.ntmps42
  go_wp2
  go_loop [3, 4] (fun vl vi => ∃ k : Nat, k ≤ xs.length ∧ vi = .int .i64 (k : Int) ∧ vl = .int .i64 ((sig (xs.take k) : Int) - 1))
    (fun _ vi => xs.length - (intOf vi).toNat)
  case atStart => exact ⟨0, Nat.zero_le _, rfl, rfl⟩
  case round =>
    obtain ⟨k, hk, rfl, rfl⟩ := hrel
    by_cases hlt : k < xs.length
    · obtain ⟨b, off, rfl, hcell⟩ := hc k hlt
      have hs : Hid (sig (xs.take (k + 1)) = if fN (xs.getD k 0) = 0 then sig (xs.take k) else k + 1) := sig_step xs k hlt
      generalize xs.getD k 0 = x at *
      by_cases hx : fN x = 0
      · have hd : ((fN x : Int) != 0) = false := by simp [hx]
        rw [Hid, if_pos hx] at hs
        have hs2 : Hid (sig (xs.take (k + 1)) = sig (xs.take k)) := hs
        clear hs hx
        go_wp2_with (go_at_call 21; refine Calls.mono (ref_Norm _ _) ?_; rintro e w' ⟨rfl, hw⟩; rw [hw]; clear hw)
        go_round
        case rel => exact ⟨k + 1, by omega, by go_num, by rw [hs2.out]⟩
        case measure => simp only [intOf]; omega
      · have hd : ((fN x : Int) != 0) = true := by simp [hx]
        rw [Hid, if_neg hx] at hs
        have hs2 : Hid (sig (xs.take (k + 1)) = k + 1) := hs
        clear hs hx
        go_wp2_with (go_at_call 21; refine Calls.mono (ref_Norm _ _) ?_; rintro e w' ⟨rfl, hw⟩; rw [hw]; clear hw)
        go_round
        case rel => exact ⟨k + 1, by omega, by go_num, by rw [hs2.out]; go_num⟩
        case measure => simp only [intOf]; omega
    · have e : xs.take k = xs := List.take_of_length_le (by omega)
      rw [e]
      clear e
      have hsl := sig_le xs
      have hp : Hid (pN xs = (xs.take (sig xs)).map fN) := rfl
      generalize sig xs = n at *
      go_wp2
      go_loopw [5, 6] (fun v vi wr => ∃ j : Nat, j ≤ n ∧ vi = .int .i64 (j : Int) ∧ wr.ownsRow w.heap.size 30 1 v j (rowN xs j) ∧ Below w.heap.size w wr)
        (fun _ vi _ => n - (intOf vi).toNat)
      case atStart => exact ⟨0, Nat.zero_le _, rfl, World.ownsRow_nil _ _ _ _, Below.refl _ _⟩
      case round =>
        obtain ⟨j, hj, rfl, hown, hnx⟩ := hrel
        have hsz := hnx.size
        by_cases hjn : j < n
        · obtain ⟨b, off, rfl, hcell0⟩ := hc j (by omega)
          have hcell := (hnx.cell (block_lt hcell0)).trans hcell0
          have hnew := rowN_succ xs j (by omega)
          have hrow : Hid (∀ (w1 : World) (v' : Value), w1.ownsRow w.heap.size 30 1 v' (j + 1) (rowN xs j ++ [.int .u64 ((fN (xs.getD j 0) : Nat) : Int)]) → w1.ownsRow w.heap.size 30 1 v' (j + 1) (rowN xs (j + 1))) := fun w1 v' h => by rw [hnew]; exact h
          clear hcell0 hnew hc
          generalize xs.getD j 0 = x at *
          go_wp2_with (first
            | (go_at_call 21; refine Calls.mono (ref_Norm _ _) ?_; rintro e w' ⟨rfl, hw⟩; rw [hw]; clear hw)
            | (at_builtin; refine wp_append1 rfl _ _ rfl _ _ _ _ rfl hown rfl ?c3 hnx ?_))
          case c3 => omega
          · intro v' w1 hown' hnx'
            have hown2 := hrow.out _ _ hown'
            clear hown' hown hcell hrow hnx
            go_wp2
            go_roundw
            case rel => exact ⟨j + 1, by omega, by go_num, hown2, hnx'⟩
            case measure => simp only [intOf]; omega
        · have e : j = n := by omega
          subst e
          have hres : IsU wr u5 (pN xs) := by
            rw [hp.out]
            exact IsU.of_owns hown (fun x hx => by
              obtain ⟨y, _, rfl⟩ := List.mem_map.mp hx
              have := fN_lt y
              omega)
          have how : Ow w.heap.size wr u5 (pN xs) := by
            unfold Ow
            rw [hp.out, List.length_map, List.length_take, show min j xs.length = j by omega]
            exact hown
          clear hown hp hc hr
          go_wp2
          go_ret
          exact ⟨_, rfl, hres, how, hnx⟩
theorem ref_Normal (w : World) (v : Value) (xs : List Nat) (h : IsU w v xs) (hl : xs.length ≤ 65536) :
    Calls Try.prog 42 #[v] w fun e w' => ∃ v', e = .returned v' ∧ IsU w' v' (pN xs) ∧ Below w.heap.size w w' := by
  refine (ref_NormalF w v xs h hl).mono ?_
  rintro e w' ⟨v', rfl, h1, -, h3⟩
  exact ⟨v', rfl, h1, h3⟩

end Go.Proofs.Ytjbdpjbcibhflac
