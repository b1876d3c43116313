/-
  What Points of package goldref answers: whether two lists are of one length, of at most 128 numbers, and the first one's numbers differ by the prime.
-/
import Derived.Test.YtpoekkbofhdnnaaRefN
import Derived.Test.YtpoekkbofhdnnaaSl
import Derived.BigQuiet
namespace Go.Proofs.Ytpoekkbofhdnnaa
open Go.RowKit

/-- The numbers of a list differ by the prime, each from all ahead of it, up to number i, and of number i up to k. -/
def Dif (xs : List Nat) (i k : Nat) : Prop := (∀ i' k', i' < i → k' < i' → fN (xs.getD i' 0) ≠ fN (xs.getD k' 0)) ∧ ∀ k', k' < k → fN (xs.getD i 0) ≠ fN (xs.getD k' 0)
def Pts (xs ys : List Nat) : Prop := xs.length = ys.length ∧ xs.length ≤ 128 ∧ Dif xs xs.length 0
theorem Dif_zero (xs : List Nat) : Dif xs 0 0 := ⟨fun _ _ h => absurd h (by omega), fun _ h => absurd h (by omega)⟩
theorem Dif_next {xs : List Nat} {i : Nat} (h : Dif xs i i) : Dif xs (i + 1) 0 := by
  refine ⟨fun i' k' h1 h2 => ?_, fun _ h0 => absurd h0 (by omega)⟩
  by_cases e : i' = i
  · subst e; exact h.2 k' h2
  · exact h.1 i' k' (by omega) h2
theorem Dif_step {xs : List Nat} {i k : Nat} (h : Dif xs i k) (hne : fN (xs.getD i 0) ≠ fN (xs.getD k 0)) : Dif xs i (k + 1) := by
  refine ⟨h.1, fun k' hk' => ?_⟩
  by_cases e : k' = k
  · subst e; exact hne
  · exact h.2 k' (by omega)

set_option maxHeartbeats 2000000 in
theorem ref_Points (w : World) (v v' : Value) (xs ys : List Nat) (h : IsU w v xs) (h' : IsU w v' ys) :
    Calls Try.prog 35 #[v, v'] w fun e w' => ∃ b : Bool, e = .returned (.bool b) ∧ (b = true ↔ Pts xs ys) ∧ Below w.heap.size w w' := by
  obtain ⟨a, cap, rfl, hcap, hmax, hc, hr⟩ := h
  obtain ⟨a', cap', rfl, hcap', hmax', hc', hr'⟩ := h'
  clear hcap hcap' hc' hr hr'
  by_cases hle : xs.length = ys.length
  · by_cases h128 : xs.length ≤ 128
    · have hP : Hid (Pts xs ys ↔ Dif xs xs.length 0) := ⟨fun h => h.2.2, fun h => ⟨hle, h128, h⟩⟩
      rw [← hle]
      have hq : ((xs.length : Int) != (xs.length : Int)) = false := by simp
      clear hle hmax hmax'
      go_enter Try.func35, Try.ntmps35
      go_wp2
      go_loopw [5] (fun vi wr => ∃ i : Nat, i ≤ xs.length ∧ vi = .int .i64 (i : Int) ∧ Hid (Dif xs i 0) ∧ Below w.heap.size w wr)
        (fun vi _ => xs.length - (intOf vi).toNat)
      case atStart => exact ⟨0, Nat.zero_le _, rfl, Dif_zero xs, Below.refl _ _⟩
      case round =>
        obtain ⟨i, hi, rfl, hD, hnx⟩ := hrel
        by_cases hlt : i < xs.length
        · have hd20 : decide (i < xs.length) = true := decide_eq_true hlt
          go_wp2
          obtain ⟨wo, hwo⟩ : ∃ wo : World, wo = wr := ⟨_, rfl⟩
          rw [← hwo] at hnx ⊢
          clear hwo
          go_loopw [6] (fun vk wi => ∃ k : Nat, k ≤ i ∧ vk = .int .i64 (k : Int) ∧ Hid (Dif xs i k) ∧ Below w.heap.size w wi)
            (fun vk _ => i - (intOf vk).toNat)
          case atStart => exact ⟨0, Nat.zero_le _, rfl, hD, hnx⟩
          case round =>
            clear hD hnx
            obtain ⟨k, hk, rfl, hD, hnx⟩ := hrel
            by_cases hki : k < i
            · obtain ⟨b, off, rfl, hcell0⟩ := hc i hlt
              have hcell := (hnx.cell (block_lt hcell0)).trans hcell0
              obtain ⟨b', off', hbo, hcell0'⟩ := hc k (by omega)
              simp only [Option.some.injEq, Addr.mk.injEq, and_true] at hbo
              obtain ⟨rfl, rfl⟩ := hbo
              have hcell' := (hnx.cell (block_lt hcell0')).trans hcell0'
              have c1 := ref_Norm (xs.getD i 0)
              have c2 := ref_Norm (xs.getD k 0)
              have hstep := fun hne => Dif_step hD.out (k := k) hne
              have hfalse : fN (xs.getD i 0) = fN (xs.getD k 0) → ¬ Dif xs xs.length 0 := fun e h => h.1 i k hlt hki e
              clear hcell0 hcell0' hc
              generalize xs.getD i 0 = x at *
              generalize xs.getD k 0 = y at *
              by_cases hxy : fN x = fN y
              · have hF := hfalse hxy
                have hP' : Hid (¬ Pts xs ys) := fun h => hF (hP.out.mp h)
                rw [hxy] at c1
                clear hfalse hstep hxy hF hP hD
                go_wp2
                go_quiet (first | (go_at_call 9; exact Calls.quiet_of_same (c1 _)) | (go_at_call 9; exact Calls.quiet_of_same (c2 _)))
                go_wp2
                go_ret
                exact ⟨false, rfl, ⟨fun h => absurd h (by simp), fun h => absurd h hP'.out⟩, below_drewN hnx _⟩
              · have hS : Hid (Dif xs i (k + 1)) := hstep hxy
                have hq2 : ((fN x : Int) == (fN y : Int)) = false := by rw [beq_eq_false_iff_ne]; omega
                clear hfalse hstep hxy hD
                go_wp2
                go_quiet (first | (go_at_call 9; exact Calls.quiet_of_same (c1 _)) | (go_at_call 9; exact Calls.quiet_of_same (c2 _)))
                go_wp2
                go_roundw
                case rel => exact ⟨k + 1, by omega, by go_num, hS, below_drewN hnx _⟩
                case measure => simp only [intOf]; omega
            · have e : k = i := by omega
              subst e
              have hS : Hid (Dif xs (k + 1) 0) := Dif_next hD.out
              clear hD hc
              go_wp2
              go_roundw
              case rel => exact ⟨k + 1, by omega, by go_num, hS, hnx⟩
              case measure => simp only [intOf]; omega
        · have e : i = xs.length := by omega
          have hD' := hD.out
          rw [e] at hD'
          have hP' : Hid (Pts xs ys) := hP.out.mpr hD'
          have hge : xs.length ≤ i := by omega
          clear hD hD' hP hc e
          go_wp2
          go_ret
          exact ⟨true, rfl, ⟨fun _ => hP'.out, fun _ => rfl⟩, hnx⟩
    · have hn : ¬ Pts xs ys := fun h => h128 h.2.1
      have hq : ((xs.length : Int) != (ys.length : Int)) = false := by simp; omega
      have h129 : (128 : Int) < (xs.length : Int) := by omega
      have hn' : Hid (¬ Pts xs ys) := hn
      clear hc hn h128
      go_enter Try.func35, Try.ntmps35
      go_wp2
      go_ret
      exact ⟨false, rfl, ⟨fun h => absurd h (by simp), fun h => absurd h hn'.out⟩, Below.refl _ _⟩
  · have hn' : Hid (¬ Pts xs ys) := fun h => hle h.1
    have hq : ((xs.length : Int) != (ys.length : Int)) = true := by simp; omega
    clear hc
    go_enter Try.func35, Try.ntmps35
    go_wp2
    go_ret
    exact ⟨false, rfl, ⟨fun h => absurd h (by simp), fun h => absurd h hn'.out⟩, Below.refl _ _⟩

end Go.Proofs.Ytpoekkbofhdnnaa
