/-
  What Product of package goldref answers: the product of two polynomials, number by number, in new memory.
-/
import Derived.Test.YtjbdpjbcibhflacRef
import Derived.Test.YtjbdpjbcibhflacSlRow
import Derived.BigQuiet
namespace Go.Proofs.Ytjbdpjbcibhflac
open Go.RowKit

/-- The first i summands of number k of a product. -/
def cvK (xs ys : List Nat) (k i : Nat) : Nat := (S i (fun j => cf xs j * cf ys (k - j))).val
theorem cvK_succ (xs ys : List Nat) (k i : Nat) : fA (cvK xs ys k i) (fM (xs.getD i 0) (ys.getD (k - i) 0)) = cvK xs ys k (i + 1) := by
  unfold cvK
  rw [S_succ, fA_val, toF_val, toF_fM]; rfl
theorem cvK_start (xs ys : List Nat) (k : Nat) : cvK xs ys k (k + 1 - ys.length) = 0 := by
  unfold cvK
  rw [S_zeros]
  · rfl
  · intro i hi
    rw [cf_ge (a := ys) (by omega)]; grind
theorem cvK_end (xs ys : List Nat) (k : Nat) : cvK xs ys k (min xs.length (k + 1)) = (conv (cf xs) (cf ys) k).val := by
  unfold cvK conv
  rw [S_more (m := min xs.length (k + 1)) (n := k + 1) (by omega)]
  intro i h1 h2
  rw [cf_ge (a := xs) (by omega)]; grind

set_option maxHeartbeats 2000000 in
theorem ref_Product (w : World) (v v' : Value) (xs ys : List Nat) (h : IsU w v xs) (h' : IsU w v' ys) (hl : xs.length ≤ 30000) (hl' : ys.length ≤ 30000) :
    Calls Try.prog 30 #[v, v'] w fun e w' => ∃ u, e = .returned u ∧ IsU w' u (pM xs ys) ∧ Below w.heap.size w w' := by
  obtain ⟨a, cap, rfl, hcap, hmax, hc, hr⟩ := h
  obtain ⟨a', cap', rfl, hcap', hmax', hc', hr'⟩ := h'
  clear hcap hcap' hmax hmax'
  by_cases hz : xs.length = 0 ∨ ys.length = 0
  · have e : pM xs ys = [] := by unfold pM; rw [if_pos hz]
    rw [e]
    clear hc hc' hr hr' e
    by_cases hx : xs.length = 0
    · have hx0' : ((xs.length : Int) == 0) = true := by rw [beq_iff_eq]; omega
      go_enter Try.func30, Try.ntmps30
      go_wp2
      go_ret
      exact ⟨_, rfl, IsU.nil _, Below.refl _ _⟩
    · have hx0' : ((xs.length : Int) == 0) = false := by rw [beq_eq_false_iff_ne]; omega
      have hy0' : ((ys.length : Int) == 0) = true := by rw [beq_iff_eq]; omega
      go_enter Try.func30, Try.ntmps30
      go_wp2
      go_ret
      exact ⟨_, rfl, IsU.nil _, Below.refl _ _⟩
  · have e : pM xs ys = mk (xs.length + ys.length - 1) (conv (cf xs) (cf ys)) := by unfold pM; rw [if_neg hz]
    rw [e]
    clear e hr hr'
    have hx0 : 0 < xs.length := by omega
    have hy0 : 0 < ys.length := by omega
    have hx0' : ((xs.length : Int) == 0) = false := by rw [beq_eq_false_iff_ne]; omega
    have hy0' : ((ys.length : Int) == 0) = false := by rw [beq_eq_false_iff_ne]; omega
    go_enter Try.func30, Try.ntmps30
    go_wp2
    go_loopw [5, 6] (fun u vi wr => ∃ k : Nat, k ≤ xs.length + ys.length - 1 ∧ vi = .int .i64 (k : Int) ∧ wr.ownsRow w.heap.size 30 1 u k (rowK k (conv (cf xs) (cf ys))) ∧ Below w.heap.size w wr)
      (fun _ vi _ => xs.length + ys.length - 1 - (intOf vi).toNat)
    case atStart => exact ⟨0, Nat.zero_le _, rfl, World.ownsRow_nil _ _ _ _, Below.refl _ _⟩
    case round =>
      obtain ⟨k, hk, rfl, hown, hnx⟩ := hrel
      have hsz := hnx.size
      by_cases hlt : k < xs.length + ys.length - 1
      · have hd24 : decide ((k : Int) < (xs.length : Int) + (ys.length : Int) - 1) = true := decide_eq_true (by omega)
        by_cases hkb : k + 1 ≤ ys.length
        · have e0 : k + 1 - ys.length = 0 := by omega
          go_wp2
          obtain ⟨wo, hwo⟩ : ∃ wo : World, wo = wr := ⟨_, rfl⟩
          rw [← hwo] at hown hnx hsz ⊢
          clear hwo
          go_loopw [7, 8] (fun vn vi wi => ∃ i : Nat, i ≤ min xs.length (k + 1) ∧ k + 1 - ys.length ≤ i ∧ vi = .int .i64 (i : Int) ∧ vn = .int .u64 ((cvK xs ys k i : Nat) : Int) ∧ wi.ownsRow w.heap.size 30 1 u5 k (rowK k (conv (cf xs) (cf ys))) ∧ Below w.heap.size w wi)
            (fun _ vi _ => min xs.length (k + 1) - (intOf vi).toNat)
          case atStart => exact ⟨k + 1 - ys.length, by omega, Nat.le_refl _, by rw [e0]; rfl, by rw [cvK_start]; rfl, hown, hnx⟩
          case round =>
            clear hown hnx hsz
            obtain ⟨i, hi1, hi2, rfl, rfl, hown, hnx⟩ := hrel
            by_cases hin : i < min xs.length (k + 1)
            · obtain ⟨b, off, rfl, hcell0⟩ := hc i (by omega)
              have hcell := (hnx.cell (block_lt hcell0)).trans hcell0
              obtain ⟨b', off', rfl, hcell0'⟩ := hc' (k - i) (by omega)
              have hcell' := (hnx.cell (block_lt hcell0')).trans hcell0'
              have c1 := ref_Mul (xs.getD i 0) (ys.getD (k - i) 0)
              have c2 := ref_Add (cvK xs ys k i) (fM (xs.getD i 0) (ys.getD (k - i) 0))
              rw [cvK_succ] at c2
              clear hcell0 hcell0' hc hc'
              generalize fM (xs.getD i 0) (ys.getD (k - i) 0) = m at *
              generalize xs.getD i 0 = x at *
              generalize ys.getD (k - i) 0 = y at *
              go_wp2
              go_quiet (first | (go_at_call 27; exact Calls.quiet_of_same (c1 _)) | (go_at_call 26; exact Calls.quiet_of_same (c2 _)))
              go_wp2
              go_roundw
              case rel => exact ⟨i + 1, by omega, by omega, by go_num, rfl, owns_drewN hown _, below_drewN hnx _⟩
              case measure => simp only [intOf]; omega
            · have e : i = min xs.length (k + 1) := by omega
              have hv := cvK_end xs ys k
              rw [← e] at hv
              have hnew := rowK_succ k (conv (cf xs) (cf ys))
              rw [← hv] at hnew
              have hrow : Hid (∀ (w1 : World) (u : Value), w1.ownsRow w.heap.size 30 1 u (k + 1) (rowK k (conv (cf xs) (cf ys)) ++ [.int .u64 ((cvK xs ys k i : Nat) : Int)]) → w1.ownsRow w.heap.size 30 1 u (k + 1) (rowK (k + 1) (conv (cf xs) (cf ys)))) := fun w1 u h => by rw [hnew]; exact h
              clear hnew hv hc hc'
              generalize cvK xs ys k i = z at *
              by_cases hix : i < xs.length
              · have hik : k < i := by omega
                have hd : decide (i ≤ k) = false := decide_eq_false (by omega)
                clear e hin
                go_wp2_with (at_builtin; refine wp_append1 rfl _ _ rfl _ _ _ _ rfl hown rfl ?c1a hnx ?_)
                case c1a => omega
                · intro u' w1 hown' hnx'
                  have hown2 := hrow.out _ _ hown'
                  clear hown' hown hrow hnx
                  go_wp2
                  go_roundw
                  case rel => exact ⟨k + 1, by omega, by go_num, hown2, hnx'⟩
                  case measure => simp only [intOf]; omega
              · have hix' : xs.length ≤ i := by omega
                clear e hin
                go_wp2_with (at_builtin; refine wp_append1 rfl _ _ rfl _ _ _ _ rfl hown rfl ?d1a hnx ?_)
                case d1a => omega
                · intro u' w1 hown' hnx'
                  have hown2 := hrow.out _ _ hown'
                  clear hown' hown hrow hnx
                  go_wp2
                  go_roundw
                  case rel => exact ⟨k + 1, by omega, by go_num, hown2, hnx'⟩
                  case measure => simp only [intOf]; omega
        · have e0 : ((k + 1 - ys.length : Nat) : Int) = (k : Int) - (ys.length : Int) + 1 := by omega
          go_wp2
          obtain ⟨wo, hwo⟩ : ∃ wo : World, wo = wr := ⟨_, rfl⟩
          rw [← hwo] at hown hnx hsz ⊢
          clear hwo
          go_loopw [7, 8] (fun vn vi wi => ∃ i : Nat, i ≤ min xs.length (k + 1) ∧ k + 1 - ys.length ≤ i ∧ vi = .int .i64 (i : Int) ∧ vn = .int .u64 ((cvK xs ys k i : Nat) : Int) ∧ wi.ownsRow w.heap.size 30 1 u5 k (rowK k (conv (cf xs) (cf ys))) ∧ Below w.heap.size w wi)
            (fun _ vi _ => min xs.length (k + 1) - (intOf vi).toNat)
          case atStart => exact ⟨k + 1 - ys.length, by omega, Nat.le_refl _, by rw [e0], by rw [cvK_start]; rfl, hown, hnx⟩
          case round =>
            clear hown hnx hsz
            obtain ⟨i, hi1, hi2, rfl, rfl, hown, hnx⟩ := hrel
            by_cases hin : i < min xs.length (k + 1)
            · obtain ⟨b, off, rfl, hcell0⟩ := hc i (by omega)
              have hcell := (hnx.cell (block_lt hcell0)).trans hcell0
              obtain ⟨b', off', rfl, hcell0'⟩ := hc' (k - i) (by omega)
              have hcell' := (hnx.cell (block_lt hcell0')).trans hcell0'
              have c1 := ref_Mul (xs.getD i 0) (ys.getD (k - i) 0)
              have c2 := ref_Add (cvK xs ys k i) (fM (xs.getD i 0) (ys.getD (k - i) 0))
              rw [cvK_succ] at c2
              clear hcell0 hcell0' hc hc'
              generalize fM (xs.getD i 0) (ys.getD (k - i) 0) = m at *
              generalize xs.getD i 0 = x at *
              generalize ys.getD (k - i) 0 = y at *
              go_wp2
              go_quiet (first | (go_at_call 27; exact Calls.quiet_of_same (c1 _)) | (go_at_call 26; exact Calls.quiet_of_same (c2 _)))
              go_wp2
              go_roundw
              case rel => exact ⟨i + 1, by omega, by omega, by go_num, rfl, owns_drewN hown _, below_drewN hnx _⟩
              case measure => simp only [intOf]; omega
            · have e : i = min xs.length (k + 1) := by omega
              have hv := cvK_end xs ys k
              rw [← e] at hv
              have hnew := rowK_succ k (conv (cf xs) (cf ys))
              rw [← hv] at hnew
              have hrow : Hid (∀ (w1 : World) (u : Value), w1.ownsRow w.heap.size 30 1 u (k + 1) (rowK k (conv (cf xs) (cf ys)) ++ [.int .u64 ((cvK xs ys k i : Nat) : Int)]) → w1.ownsRow w.heap.size 30 1 u (k + 1) (rowK (k + 1) (conv (cf xs) (cf ys)))) := fun w1 u h => by rw [hnew]; exact h
              clear hnew hv hc hc'
              generalize cvK xs ys k i = z at *
              by_cases hix : i < xs.length
              · have hik : k < i := by omega
                have hd : decide (i ≤ k) = false := decide_eq_false (by omega)
                clear e hin
                go_wp2_with (at_builtin; refine wp_append1 rfl _ _ rfl _ _ _ _ rfl hown rfl ?c1b hnx ?_)
                case c1b => omega
                · intro u' w1 hown' hnx'
                  have hown2 := hrow.out _ _ hown'
                  clear hown' hown hrow hnx
                  go_wp2
                  go_roundw
                  case rel => exact ⟨k + 1, by omega, by go_num, hown2, hnx'⟩
                  case measure => simp only [intOf]; omega
              · have hix' : xs.length ≤ i := by omega
                clear e hin
                go_wp2_with (at_builtin; refine wp_append1 rfl _ _ rfl _ _ _ _ rfl hown rfl ?d1b hnx ?_)
                case d1b => omega
                · intro u' w1 hown' hnx'
                  have hown2 := hrow.out _ _ hown'
                  clear hown' hown hrow hnx
                  go_wp2
                  go_roundw
                  case rel => exact ⟨k + 1, by omega, by go_num, hown2, hnx'⟩
                  case measure => simp only [intOf]; omega
      · have e : k = xs.length + ys.length - 1 := by omega
        have hU := rowK_isU hown
        rw [e] at hU
        clear hown hc hc'
        go_wp2
        go_ret
        exact ⟨_, rfl, hU, hnx⟩

end Go.Proofs.Ytjbdpjbcibhflac
