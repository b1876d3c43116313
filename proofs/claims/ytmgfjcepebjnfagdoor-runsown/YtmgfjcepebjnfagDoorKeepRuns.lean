/-
  What runs of package goldkeep answers: true: a run of two workers comes to its end.
-/
import Derived.Test.YtmgfjcepebjnfagDoorExN
import Derived.Test.YtmgfjcepebjnfagDoorSlEqAll
namespace Go.Proofs.YtmgfjcepebjnfagDoor
open Go.RowKit

/-- The phases of that run. -/
def L22 : List (List (List Int)) := [[[0, 0, 1], [0, 1, 2]], [[1, 0, 1], [1, 1, 2]]]
theorem pls22 : pls [2, 2] 1 2 = L22 := by decide +kernel
/-- The run when the second worker went on k times. -/
def runK (A : List Nat) : Nat → Crw
  | 0 => crew0 L22 A 2
  | k + 1 => pickC [2, 2] false L22 (runK A k) 1 0
theorem runK_goes (A : List Nat) (k : Nat) (h : k < 4) : pickE (runK A k) 1 0 = 0 := by
  match k, h with
  | 0, _ => show pickE (runK A 0) 1 0 = 0; kernel_rfl
  | 1, _ => show pickE (runK A 1) 1 0 = 0; kernel_rfl
  | 2, _ => show pickE (runK A 2) 1 0 = 0; kernel_rfl
  | 3, _ => show pickE (runK A 3) 1 0 = 0; kernel_rfl
theorem runK_first (A : List Nat) : (runK A 0).fin = false := by kernel_rfl
theorem runK_last (A : List Nat) : (runK A 4).fin = true ∧ (runK A 4).phase = 2 := ⟨by kernel_rfl, by kernel_rfl⟩
theorem good22 : Good [(2 : Int), 2] [2, 2] := ⟨by decide, by decide, rfl, fun d hd => by simp at hd; subst hd; exact ⟨1, rfl⟩⟩
theorem fine22 : Fine [2, 2] L22 := by rw [← pls22]; exact pls_fine [2, 2] 1 (by decide)
theorem big22 : ¬ BigP L22 L22.length := by
  have h := pls_notbig (few_small good22.2.2.2 (by decide) 1)
  have e : pls [2, 2] 1 [2, 2].length = L22 := pls22
  rw [e] at h
  exact h
theorem few22 : ∀ i, (L22.getD i []).length ≤ 64 := fun i => by
  match i with
  | 0 => decide
  | 1 => decide
  | i + 2 => simp [L22]
theorem stc22 : Stc [2, 2] L22 (nmL [1, 2, 3, 4]) 2 := ⟨by decide, fine22, few22, by decide, by decide, rfl, by decide, by decide, nmL_below _⟩
theorem make22 (w : World) : Calls Tryd.prog 32 #[.slice (some ⟨w.heap.size, 0, none⟩) 2 2, .int .i64 1] (w.alloc (.cells #[.int .i64 2, .int .i64 2] 3)) fun e w' => ∃ u, e = .returned (.tuple #[u, .int .i64 0]) ∧ IsP 3 w' u L22 ∧ Below w.heap.size w w' := by
  have hb := below_alloc1 w (.cells #[.int .i64 2, .int .i64 2] 3)
  refine (plan_Make_ok _ _ [2, 2] [2, 2] 1 (IsZ.lit2 w 3 2 2 (by decide) (by decide)) good22 (by decide) (by decide) (by decide) (few_small good22.2.2.2 (by decide) 1)).mono ?_
  rintro e w' ⟨u, rfl, hU, hbb⟩
  rw [show ([2, 2] : List Nat).length = 2 from rfl, pls22] at hU
  exact ⟨u, rfl, hU, hb.trans (hbb.mono hb.size)⟩
/-- What is new stays new. -/
theorem but_next {w W W' : World} {O O' : Nat → Prop} (hB : Below w.heap.size w W) (hn : ∀ k, O k → w.heap.size ≤ k) (hO : ∀ k, O' k → O k ∨ W.heap.size ≤ k) (hb : But O W W') : Below w.heap.size w W' ∧ ∀ k, O' k → w.heap.size ≤ k := by
  have hs := hB.size
  refine ⟨hB.trans (hb.below hs hn), fun k q => ?_⟩
  rcases hO k q with q | q
  · exact hn k q
  · omega
set_option maxHeartbeats 2000000 in
theorem keep_runs (w : World) (hTb : Tab w) : Calls Tryd.prog 30 #[] w fun e w' => e = .returned (.bool true) ∧ Below w.heap.size w w' := by
  have cM := make22 w
  have cN : Hid (∀ (W : World) (u : Value), IsP 3 W u L22 → Below w.heap.size w W → Calls Tryd.prog 35 #[.slice (some ⟨W.heap.size, 0, none⟩) 2 2, .slice (some ⟨W.heap.size + 1, 0, none⟩) 4 4, u, .int .i64 2, .bool false] ((W.alloc (.cells #[.int .i64 2, .int .i64 2] 3)).alloc (.cells #[.int .u64 1, .int .u64 2, .int .u64 3, .int .u64 4] 25)) fun e w' => ∃ p O, e = .returned (.tuple #[p, .int .i64 0]) ∧ Run w' p [2, 2] L22 (nmL [1, 2, 3, 4]) 2 false (runK (nmL [1, 2, 3, 4]) 0) O ∧ (∀ k, O k → w.heap.size ≤ k) ∧ Below w.heap.size w w') := fun W u hP hb => by
    have hZ := IsZ.lit2 W 3 2 2 (by decide) (by decide)
    have e1 : (W.alloc (.cells #[.int .i64 2, .int .i64 2] 3)).heap.size = W.heap.size + 1 := by simp
    have hL := IsU.lit4 (W.alloc (.cells #[.int .i64 2, .int .i64 2] 3)) 25 1 2 3 4 (by decide) (by decide) (by decide) (by decide)
    rw [e1] at hL
    have b1 := below_alloc1 W (.cells #[.int .i64 2, .int .i64 2] 3)
    have b2 := below_alloc1 (W.alloc (.cells #[.int .i64 2, .int .i64 2] 3)) (.cells #[.int .u64 1, .int .u64 2, .int .u64 3, .int .u64 4] 25)
    have b3 := b1.trans (b2.mono b1.size)
    refine (exec_New _ _ _ _ [2, 2] [2, 2] [1, 2, 3, 4] L22 2 false (hZ.below b2) hL (hP.below b3) good22 (by decide) fine22 few22 big22 rfl (by decide) (by decide)).mono ?_
    rintro e w' ⟨p, O, rfl, hR, hO, hb4⟩
    have hB3 := hb.trans (b3.mono hb.size)
    exact ⟨p, O, rfl, hR, fun k q => Nat.le_trans hB3.size (hO k q), hB3.trans (hb4.mono hB3.size)⟩
  have cD : Hid (∀ (W : World) (p : Value) (c : Crw) (O : Nat → Prop), Run W p [2, 2] L22 (nmL [1, 2, 3, 4]) 2 false c O → Calls Tryd.prog 66 #[p] W fun e w' => e = .returned (.bool c.fin) ∧ Below W.heap.size W w') := fun W p c O h => run_Done h
  have cS : Hid (∀ (W : World) (p : Value) (c : Crw) (O : Nat → Prop), Run W p [2, 2] L22 (nmL [1, 2, 3, 4]) 2 false c O → Below w.heap.size w W → (∀ k, O k → w.heap.size ≤ k) → Calls Tryd.prog 40 #[p, .agg #[.int .i64 1, .int .i64 0]] W fun e w' => e = .returned (.int .i64 (pickE c 1 0)) ∧ ∃ O', Run w' p [2, 2] L22 (nmL [1, 2, 3, 4]) 2 false (pickC [2, 2] false L22 c 1 0) O' ∧ (∀ k, O' k → O k ∨ W.heap.size ≤ k) ∧ But O W w') := fun W p c O h hb hn => run_Step w hTb hb h hn stc22 good22.2.2.2 1 0
  have cA : Hid (∀ (W : World) (p : Value) (c : Crw) (O : Nat → Prop), Run W p [2, 2] L22 (nmL [1, 2, 3, 4]) 2 false c O → Calls Tryd.prog 41 #[p] W fun e w' => ∃ g cap, e = .returned (.slice (some ⟨g, 0, none⟩) 4 cap) ∧ w'.ownsRow W.heap.size 25 1 (.slice (some ⟨g, 0, none⟩) 4 cap) 4 (cellsU c.A) ∧ Below W.heap.size W w') := fun W p c O h => run_Array h stc22 good22.2.2.2
  have hgo : Hid (∀ k, k < 4 → pickE (runK (nmL [1, 2, 3, 4]) k) 1 0 = 0) := runK_goes _
  have hf0 := runK_first (nmL [1, 2, 3, 4])
  have hf4 := (runK_last (nmL [1, 2, 3, 4])).1
  have hA4 : Hid (∀ (W : World) (p : Value) (O : Nat → Prop), Run W p [2, 2] L22 (nmL [1, 2, 3, 4]) 2 false (runK (nmL [1, 2, 3, 4]) 4) O → (runK (nmL [1, 2, 3, 4]) 4).A = [10, 18446744069414584319, 18446744069414584317, 0]) := fun W p O h => by
    obtain ⟨P, dn, hI⟩ := h.inv
    rw [hI.whole fine22 (by decide) ((runK_last _).2.trans rfl), cf_nmL]
    exact flat_all
  have hstep : Hid (∀ k, pickC [2, 2] false L22 (runK (nmL [1, 2, 3, 4]) k) 1 0 = runK (nmL [1, 2, 3, 4]) (k + 1)) := fun k => rfl
  generalize runK (nmL [1, 2, 3, 4]) = cK at *
  generalize nmL [1, 2, 3, 4] = xs at *
  have hW := Below.refl w.heap.size w
  have tk1 : True := trivial
  go_enter Tryd.func30, Tryd.ntmps30
  go_wp2_with (first
    | (go_at_call 32; refine Calls.mono cM ?_; rintro e w1 ⟨u1, rfl, hP1, hb1⟩; clear cM; replace cN := cN.out w1 u1 hP1 hb1; clear hP1)
    | (go_at_call 35; refine Calls.mono cN ?_; rintro e w2 ⟨p, O, rfl, hR2, hO2, hb2⟩; clear cN; have cD2 := cD.out _ _ _ _ hR2; rw [hf0] at cD2)
    | (go_at_call 66; have _t := tk1; refine Calls.mono cD2 ?_; rintro e w3 ⟨rfl, hb3⟩; clear tk1 cD2; replace hR2 := hR2.below hb3; replace hb2 := hb2.trans (hb3.mono hb2.size); clear hb3))
  have hR2' : Hid _ := hR2
  clear hR2
  go_loopw [23] (fun vi wr => ∃ (i : Nat) (O : Nat → Prop), i ≤ 4 ∧ vi = .int .i64 (i : Int) ∧ Hid (Run wr p [2, 2] L22 xs 2 false (cK i) O) ∧ (∀ k, O k → w.heap.size ≤ k) ∧ Below w.heap.size w wr)
    (fun vi _ => 4 - (intOf vi).toNat)
  case atStart => exact ⟨0, O, Nat.zero_le _, rfl, hR2', hO2, hb2⟩
  case round =>
    clear hR2' hO2 hb2
    obtain ⟨i, Oi, hi, rfl, hR, hO, hb⟩ := hrel
    by_cases hlt : i < 4
    · have cSi := cS.out wr p _ Oi hR.out hb hO
      rw [hgo.out i hlt, hstep.out i] at cSi
      have hlt' : (i : Int) < 4 := by omega
      have hR' : Hid _ := hR
      clear hR
      go_wp2_with (go_at_call 40; refine Calls.mono cSi ?_; rintro e w5 ⟨rfl, O5, hR5, hO5, hb5⟩; clear cSi; obtain ⟨hb6, hn6⟩ := but_next hb hO hO5 hb5; replace hR5 : Hid _ := hR5)
      go_roundw
      case rel => exact ⟨i + 1, O5, by omega, by go_num, hR5, hn6, hb6⟩
      case measure => simp only [intOf]; omega
    · have he : i = 4 := by omega
      subst he
      have cDe := cD.out wr p _ Oi hR.out
      rw [hf4] at cDe
      have cAe : Hid (∀ W, Below wr.heap.size wr W → Calls Tryd.prog 41 #[p] W fun e w' => ∃ g cap, e = .returned (.slice (some ⟨g, 0, none⟩) 4 cap) ∧ w'.ownsRow W.heap.size 25 1 (.slice (some ⟨g, 0, none⟩) 4 cap) 4 (cellsU [10, 18446744069414584319, 18446744069414584317, 0]) ∧ Below W.heap.size W w') := fun W hbW => by
        have q := cA.out W p _ Oi (hR.out.below hbW)
        rw [hA4.out wr p Oi hR.out] at q
        exact q
      clear hR cS cA cD hgo hA4 hstep hlt hi
      go_wp2_with (first
        | (go_at_call 66; refine Calls.mono cDe ?_; rintro e w7 ⟨rfl, hb7⟩; clear cDe; have hb8 := hb.trans (hb7.mono hb.size))
        | (go_at_call 41; refine Calls.mono (cAe.out _ hb7) ?_; rintro e w9 ⟨g9, c9, rfl, hown, hb9⟩; clear cAe; have hU9 := IsU.of_owns hown (show ∀ x ∈ [10, 18446744069414584319, 18446744069414584317, 0], ((x : Nat) : Int) < 18446744073709551616 by decide); have hb10 := hb8.trans (hb9.mono hb8.size))
        | (go_at_call 28; refine Calls.mono (slices_Equal _ _ _ [10, 18446744069414584319, 18446744069414584317, 0] (hU9.below (below_alloc1 _ _)) (IsU.lit4 _ 25 10 18446744069414584319 18446744069414584317 0 (by decide) (by decide) (by decide) (by decide))) ?_; rintro e w11 ⟨rfl, hb11⟩; have hb12 := below_alloc hb11))
      go_ret
      exact ⟨rfl, hb10.trans (hb12.mono hb10.size)⟩

end Go.Proofs.YtmgfjcepebjnfagDoor
