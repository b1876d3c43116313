/-
  What Eval of package goldref answers: the value of a polynomial at a place.
-/
import Derived.Test.YtgkepflnnoociacDoorRef
import Derived.Test.YtgkepflnnoociacDoorSl
import Derived.Test.YtgkepflnnoociacDoorPure
namespace Go.Proofs.YtgkepflnnoociacDoor
open Go.RowKit

/-- The first k summands; the k-th power. -/
def evK (xs : List Nat) (x k : Nat) : Nat := (S k (fun i => gf (xs.map toF) i * pw (toF x) i)).val
def pwK (x k : Nat) : Nat := (pw (toF x) k).val
theorem evK_succ (xs : List Nat) (x k : Nat) : fA (evK xs x k) (fM (xs.getD k 0) (pwK x k)) = evK xs x (k + 1) := by
  unfold evK pwK
  rw [S_succ, fA_val, toF_val, toF_fM, toF_val, ← cf_gf]; rfl
theorem pwK_succ (x k : Nat) : fM (pwK x k) x = pwK x (k + 1) := by
  unfold pwK
  rw [fM_val, toF_val, pw_succ]
theorem evK_all (xs : List Nat) (x : Nat) : evK xs x xs.length = pE xs x := by
  unfold evK pE
  rw [evF_S, List.length_map]
theorem evK_lt (xs : List Nat) (x k : Nat) : (evK xs x k : Int) < 18446744069414584321 := lt_int (val_lt _)
theorem pwK_lt (x k : Nat) : (pwK x k : Int) < 18446744069414584321 := lt_int (val_lt _)
theorem pE_lt (xs : List Nat) (x : Nat) : (pE xs x : Int) < 18446744069414584321 := lt_int (val_lt _)

set_option maxHeartbeats 1000000 in
theorem ref_Eval (w : World) (v : Value) (xs : List Nat) (x : Nat) (h : IsU w v xs) :
    Calls Tryd.prog 29 #[v, .int .u64 (x : Int)] w fun e w' => e = .returned (.int .u64 ((pE xs x : Nat) : Int)) ∧ w' = w := by
  obtain ⟨a, cap, rfl, hcap, hmax, hc, hr⟩ := h
  have hlen : (xs.length : Int) ≤ 9223372036854775807 := by unfold maxLen at hmax; omega
  clear hcap hmax hr
  go_enter Tryd.func29, Tryd.ntmps29
  go_wp2
  go_loop [5, 6, 7] (fun vo vp vi => ∃ k : Nat, k ≤ xs.length ∧ vi = .int .i64 (k : Int) ∧ vo = .int .u64 ((evK xs x k : Nat) : Int) ∧ vp = .int .u64 ((pwK x k : Nat) : Int))
    (fun _ _ vi => xs.length - (intOf vi).toNat)
  case atStart => exact ⟨0, Nat.zero_le _, rfl, rfl, rfl⟩
  case round =>
    obtain ⟨k, hk, rfl, rfl, rfl⟩ := hrel
    by_cases hlt : k < xs.length
    · obtain ⟨b, off, rfl, hcell⟩ := hc k hlt
      have c1 := ref_Mul (xs.getD k 0) (pwK x k)
      have c2 := ref_Add (evK xs x k) (fM (xs.getD k 0) (pwK x k))
      have c3 := ref_Mul (pwK x k) x
      rw [evK_succ] at c2
      rw [pwK_succ] at c3
      clear hc
      generalize fM (xs.getD k 0) (pwK x k) = m at *
      generalize xs.getD k 0 = y at *
      have tok : True := trivial
      go_wp2_with (first
        | (go_at_call 61; have _t := tok; refine Calls.mono (c1 _) ?_; rintro e w' ⟨rfl, hw⟩; rw [hw]; clear hw tok)
        | (go_at_call 60; refine Calls.mono (c2 _) ?_; rintro e w' ⟨rfl, hw⟩; rw [hw]; clear hw)
        | (go_at_call 61; refine Calls.mono (c3 _) ?_; rintro e w' ⟨rfl, hw⟩; rw [hw]; clear hw))
      go_round
      case rel => exact ⟨k + 1, by omega, by go_num, rfl, rfl⟩
      case measure => simp only [intOf]; omega
    · have e : k = xs.length := by omega
      have e2 := evK_all xs x
      rw [← e] at e2
      rw [e2]
      have hge : xs.length ≤ k := by omega
      clear hc e2 e
      go_wp2
      go_ret
      exact ⟨rfl, rfl⟩

end Go.Proofs.YtgkepflnnoociacDoor
