/-
  What the helpers of package conv answer: a list weighed by the powers of a number, a list among zeros.
-/
import Derived.Test.YtjhlaacgbgidhaeDoorConvW
import Derived.Test.YtjhlaacgbgidhaeDoorRowW
import Derived.Test.YtjhlaacgbgidhaeDoorFieldB
import Derived.Test.YtjhlaacgbgidhaeDoorSlI
namespace Go.Proofs.YtjhlaacgbgidhaeDoor
open Go.RowKit

set_option maxHeartbeats 2000000 in
theorem conv_weighed (w : World) (v : Value) (xs : List Nat) (r : Nat) (h : IsU w v xs) (hr64 : (r : Int) < 18446744073709551616) (hn : xs.length ≤ 35184372088832) :
    Calls Tryd.prog 30 #[v, .int .u64 (r : Int)] w fun e w' => ∃ g, e = .returned (.slice (some ⟨g, 0, none⟩) xs.length xs.length) ∧ w.heap.size ≤ g ∧ RowU w' g (wg xs r) ∧ Below w.heap.size w w' := by
  have h0 := h
  obtain ⟨a, cap, rfl, hcap, hmax, hc, hr⟩ := h
  clear hcap hmax
  go_enter Tryd.func30, Tryd.ntmps30
  go_wp2_with (at_make; refine wp_makeW rfl _ _ rfl xs.length rfl rfl hn ?_; intro g w2 hg hrow hb; replace hg : w.heap.size ≤ g := (by rw [hg.out]; exact Nat.le_refl _))
  go_loopw [6, 14] (fun vp vi wr => ∃ i : Nat, i ≤ xs.length ∧ vi = .int .i64 (i : Int) ∧ vp = .int .u64 ((pwN r i : Nat) : Int) ∧ RowU wr g (wgK xs r i) ∧ Below w.heap.size w wr)
    (fun _ vi _ => xs.length - (intOf vi).toNat)
  case atStart => exact ⟨0, Nat.zero_le _, rfl, rfl, hrow, hb⟩
  case round =>
    clear hrow hb
    obtain ⟨i, hi, rfl, rfl, hrow, hnx⟩ := hrel
    by_cases hlt : i < xs.length
    · obtain ⟨b, o', rfl, -⟩ := hc i hlt
      have hcell := (h0.below hnx).cell i hlt
      have hcS := hrow.cell i (by rw [wgK_length]; exact hlt)
      have hfr := hrow.frozen i
      have hset : Hid (RowU (wr.setCell ⟨g, i, none⟩ (.int .u64 ((fM (xs.getD i 0) (pwN r i) : Nat) : Int))) g (wgK xs r (i + 1))) := hrow.set i _
      have hp2 : Hid (pwN r (i + 1) = fM (pwN r i) r) := rfl
      have c1 := field_Mul (xs.getD i 0) (pwN r i) (range_getD hr i) (pwN_lt r i)
      have c2 := field_Mul (pwN r i) r (pwN_lt r i) hr64
      have hB2 := fun (u : Value) => hnx.setCell (p := ⟨g, i, none⟩) hg u
      have hi9 : i ≤ 35184372088832 := by omega
      clear hrow hc hr h0 hr64 hn
      generalize fM (xs.getD i 0) (pwN r i) = z at *
      generalize fM (pwN r i) r = p2 at *
      generalize (wgK xs r i).getD i 0 = old at *
      generalize pwN r i = p at *
      generalize xs.getD i 0 = x at *
      go_wp2_with (first
        | (go_at_call 13; refine Calls.mono (c1 _) ?_; rintro e w' ⟨rfl, hw⟩; rw [hw]; clear hw c1)
        | (go_at_call 13; refine Calls.mono (c2 _) ?_; rintro e w' ⟨rfl, hw⟩; rw [hw]; clear hw))
      go_roundw
      case rel => exact ⟨i + 1, by omega, by go_num, by rw [hp2.out], hset.out, hB2 _⟩
      case measure => simp only [intOf]; omega
    · have e : i = xs.length := by omega
      subst e
      have hge : xs.length ≤ xs.length := Nat.le_refl _
      clear hc hr h0
      go_wp2
      go_ret
      exact ⟨g, rfl, hg, hrow, hnx⟩

theorem conv_widened (w : World) (v : Value) (xs : List Nat) (n : Nat) (h : IsU w v xs) (hl : xs.length ≤ n) (hn : n ≤ 1000000000) :
    Calls Tryd.prog 29 #[v, .int .i64 (n : Int)] w fun e w' => ∃ g, e = .returned (.slice (some ⟨g, 0, none⟩) n n) ∧ w.heap.size ≤ g ∧ RowU w' g (lay (List.replicate n 0) 0 xs) ∧ Below w.heap.size w w' := by
  have h0 := h
  obtain ⟨a, cap, rfl, -⟩ := h
  have hof : 0 + n ≤ (List.replicate n 0).length := by simp
  go_enter Tryd.func29, Tryd.ntmps29
  go_wp2_with (first
    | (at_make; refine wp_makeG rfl _ _ rfl n rfl rfl hn ?_; intro g w2 hg hrow hb; replace hg : w.heap.size ≤ g := (by rw [hg.out]; exact Nat.le_refl _); replace h0 := h0.below hb)
    | (refine wp_copyR rfl _ _ rfl g 0 n n _ (List.replicate n 0) xs rfl rfl h0 hrow hof hl hb hg ?_; intro w3 z hrow3 hb3))
  go_ret
  exact ⟨g, rfl, hg, hrow3, hb3⟩

end Go.Proofs.YtjhlaacgbgidhaeDoor
