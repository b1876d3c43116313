/-
  The walk of the law FieldSays: whatever numbers of 64 bits are handed in, package field and package goldref answer the same, and the law returns true.
-/
import Derived.Test.YtiofpbfjnbjflaaFieldI
import Derived.Test.YtiofpbfjnbjflaaRefI
import Derived.Test.YtiofpbfjnbjflaaRefP
import Derived.OpenShut
namespace Go.Proofs.Ytiofpbfjnbjflaa
open Go.RowKit

theorem nat_of_u64 {a : Int} (h : (Lit.int .u64 a).wf = true) : ∃ n : Nat, a = (n : Int) ∧ (n : Int) < 18446744073709551616 := by
  have b := bounds_u64 h
  exact ⟨a.toNat, by omega, by omega⟩

set_option maxHeartbeats 1000000 in
theorem fieldSays_walk (a0 : Int) (a1 : Int) (a2 : Int) (w0 : (Lit.int .u64 a0).wf = true) (w1 : (Lit.int .u64 a1).wf = true) (w2 : (Lit.int .u64 a2).wf = true) (w : World) :
    Calls Try.prog 3 #[.int .u64 a0, .int .u64 a1, .int .u64 a2] w fun e w' => e = .returned (.bool true) ∧ Grown w w' := by
  obtain ⟨a, rfl, ha⟩ := nat_of_u64 w0
  obtain ⟨b, rfl, hb⟩ := nat_of_u64 w1
  obtain ⟨n, rfl, hn⟩ := nat_of_u64 w2
  clear w0 w1 w2
  by_cases h : fN a = 0
  · have c1 := field_Inv_none a ha h
    have c2 := field_Norm a ha
    have c3 := ref_Norm a
    rw [h] at c2 c3
    clear h
    go_enter Try.func3, Try.ntmps3
    go_wp2_with (first
      | (go_at_call 5; refine Calls.mono (c1 _) ?_; rintro e w' ⟨rfl, hw⟩; rw [hw]; clear hw)
      | (go_at_call 8; refine Calls.mono (c2 _) ?_; rintro e w' ⟨rfl, hw⟩; rw [hw]; clear hw)
      | (go_at_call 6; refine Calls.mono (c3 _) ?_; rintro e w' ⟨rfl, hw⟩; rw [hw]; clear hw)
      | (go_at_call 9; refine Calls.mono (field_Add a b ha hb _) ?_; rintro e w' ⟨rfl, hw⟩; rw [hw]; clear hw)
      | (go_at_call 10; refine Calls.mono (ref_Add a b _) ?_; rintro e w' ⟨rfl, hw⟩; rw [hw]; clear hw)
      | (go_at_call 11; refine Calls.mono (field_Sub a b ha hb _) ?_; rintro e w' ⟨rfl, hw⟩; rw [hw]; clear hw)
      | (go_at_call 12; refine Calls.mono (ref_Sub a b _) ?_; rintro e w' ⟨rfl, hw⟩; rw [hw]; clear hw)
      | (go_at_call 13; refine Calls.mono (field_Mul a b ha hb _) ?_; rintro e w' ⟨rfl, hw⟩; rw [hw]; clear hw)
      | (go_at_call 14; refine Calls.mono (ref_Mul a b _) ?_; rintro e w' ⟨rfl, hw⟩; rw [hw]; clear hw)
      | (go_at_call 15; refine Calls.mono (field_Pow a n ha hn _) ?_; rintro e w' ⟨rfl, hw⟩; rw [hw]; clear hw)
      | (go_at_call 16; refine Calls.mono (ref_Pow a n hn _) ?_; rintro e w' ⟨rfl, hw⟩; rw [hw]; clear hw))
    go_ret
    exact ⟨rfl, Grown.refl _⟩
  · have c1 := field_Inv_some a ha h
    have c2 := field_Norm a ha
    have c3 := ref_Norm a
    have c4 := ref_Inv a h
    generalize fW a 18446744069414584319 = z at *
    have h' : ((fN a : Int) != 0) = true := by simp; omega
    have h'' : (fN a != 0) = true := by simpa using h
    go_enter Try.func3, Try.ntmps3
    go_wp2_with (first
      | (go_at_call 5; refine Calls.mono (c1 _) ?_; rintro e w' ⟨rfl, hw⟩; rw [hw]; clear hw)
      | (go_at_call 8; refine Calls.mono (c2 _) ?_; rintro e w' ⟨rfl, hw⟩; rw [hw]; clear hw)
      | (go_at_call 6; refine Calls.mono (c3 _) ?_; rintro e w' ⟨rfl, hw⟩; rw [hw]; clear hw)
      | (go_at_call 7; refine Calls.mono (c4 _) ?_; rintro e w' ⟨rfl, hw⟩; rw [hw]; clear hw)
      | (go_at_call 9; refine Calls.mono (field_Add a b ha hb _) ?_; rintro e w' ⟨rfl, hw⟩; rw [hw]; clear hw)
      | (go_at_call 10; refine Calls.mono (ref_Add a b _) ?_; rintro e w' ⟨rfl, hw⟩; rw [hw]; clear hw)
      | (go_at_call 11; refine Calls.mono (field_Sub a b ha hb _) ?_; rintro e w' ⟨rfl, hw⟩; rw [hw]; clear hw)
      | (go_at_call 12; refine Calls.mono (ref_Sub a b _) ?_; rintro e w' ⟨rfl, hw⟩; rw [hw]; clear hw)
      | (go_at_call 13; refine Calls.mono (field_Mul a b ha hb _) ?_; rintro e w' ⟨rfl, hw⟩; rw [hw]; clear hw)
      | (go_at_call 14; refine Calls.mono (ref_Mul a b _) ?_; rintro e w' ⟨rfl, hw⟩; rw [hw]; clear hw)
      | (go_at_call 15; refine Calls.mono (field_Pow a n ha hn _) ?_; rintro e w' ⟨rfl, hw⟩; rw [hw]; clear hw)
      | (go_at_call 16; refine Calls.mono (ref_Pow a n hn _) ?_; rintro e w' ⟨rfl, hw⟩; rw [hw]; clear hw))
    go_ret
    exact ⟨rfl, Grown.refl _⟩

end Go.Proofs.Ytiofpbfjnbjflaa
