/-
  What Many of package goldref answers: whether a list has more than 2048 numbers.
-/
import Derived.Test.YtpoekkbofhdnnaaRows
import Derived.Test.YtpoekkbofhdnnaaSl
namespace Go.Proofs.Ytpoekkbofhdnnaa
open Go.RowKit

theorem ref_Many_true (w : World) (v : Value) (xs : List Nat) (h : IsU w v xs) (hl : 2048 < xs.length) :
    Calls Try.prog 23 #[v] w fun e w' => e = .returned (.bool true) ∧ w' = w := by
  obtain ⟨a, cap, rfl, hcap, hmax, hc, hr⟩ := h
  clear hc hr hcap hmax
  have hd : decide ((2048 : Int) < (xs.length : Int)) = true := decide_eq_true (by omega)
  go_enter Try.func23, Try.ntmps23
  go_wp2
  go_ret
  exact ⟨rfl, rfl⟩
theorem ref_Many_false (w : World) (v : Value) (xs : List Nat) (h : IsU w v xs) (hl : xs.length ≤ 2048) :
    Calls Try.prog 23 #[v] w fun e w' => e = .returned (.bool false) ∧ w' = w := by
  obtain ⟨a, cap, rfl, hcap, hmax, hc, hr⟩ := h
  clear hc hr hcap hmax
  have hd : decide ((2048 : Int) < (xs.length : Int)) = false := decide_eq_false (by omega)
  go_enter Try.func23, Try.ntmps23
  go_wp2
  go_ret
  exact ⟨rfl, rfl⟩

end Go.Proofs.Ytpoekkbofhdnnaa
