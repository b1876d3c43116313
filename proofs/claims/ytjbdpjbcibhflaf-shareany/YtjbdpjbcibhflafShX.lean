/-
  What package share answers, as functions of what it is handed.
-/
import Derived.Test.YtjbdpjbcibhflafShM
namespace Go.Proofs.Ytjbdpjbcibhflaf

def EnOk (xs : List Nat) (n : Int) : Prop := 0 < xs.length ∧ (1 ≤ n ∧ n ≤ 64) ∧ (xs.length : Int) ≤ n
open Classical in
/-- Encode's error, and its symbols. -/
noncomputable def enE (xs : List Nat) (n : Int) : Int := if EnOk xs n then 0 else 1
open Classical in
noncomputable def enL (xs : List Nat) (n : Int) : List Nat := if EnOk xs n then mk n.toNat (symF xs) else []
open Classical in
/-- Recover's error, and its data. -/
noncomputable def rcE (k : Int) (L : List (Int × Nat)) : Int := if shE k L = 0 then (if (L.length : Int) < k then 4 else if FitK k.toNat L then 0 else 5) else shE k L
open Classical in
noncomputable def rcL (k : Int) (L : List (Int × Nat)) : List Nat := if h : shE k L = 0 ∧ ¬ (L.length : Int) < k ∧ FitK k.toNat L then mk k.toNat (cf (Classical.choose h.2.2)) else []
open Classical in
/-- What Fits tells. -/
noncomputable def ftB (k : Int) (L : List (Int × Nat)) : Bool := decide (shE k L = 0 ∧ FitK k.toNat L)
theorem shE_zero {k : Int} {L : List (Int × Nat)} (h : shE k L = 0) : (1 ≤ k ∧ k ≤ 64) ∧ ShK L L.length := by
  unfold shE at h
  split at h
  · next h1 =>
    split at h
    · next h2 => exact ⟨h1, h2⟩
    · cases h
  · cases h
theorem rcE_bad {k : Int} {L : List (Int × Nat)} (h : shE k L ≠ 0) : rcE k L = shE k L ∧ rcL k L = [] ∧ ftB k L = false := by
  refine ⟨by unfold rcE; rw [if_neg h], by unfold rcL; rw [dif_neg (fun q => h q.1)], by unfold ftB; rw [decide_eq_false_iff_not]; exact fun q => h q.1⟩
theorem rcE_few {k : Int} {L : List (Int × Nat)} (h : shE k L = 0) (hl : (L.length : Int) < k) : rcE k L = 4 ∧ rcL k L = [] ∧ ftB k L = true := by
  refine ⟨by unfold rcE; rw [if_pos h, if_pos hl], by unfold rcL; rw [dif_neg (fun q => q.2.1 hl)], by unfold ftB; simp only [decide_eq_true_eq]; exact ⟨h, FitK.few (shE_zero h).2 (by omega)⟩⟩
theorem rcE_form {k : Int} {L : List (Int × Nat)} (h : shE k L = 0) (hl : ¬ (L.length : Int) < k) (hf : ¬ FitK k.toNat L) : rcE k L = 5 ∧ rcL k L = [] ∧ ftB k L = false := by
  refine ⟨by unfold rcE; rw [if_pos h, if_neg hl, if_neg hf], by unfold rcL; rw [dif_neg (fun q => hf q.2.2)], by unfold ftB; rw [decide_eq_false_iff_not]; exact fun q => hf q.2⟩
theorem rcE_ok {k : Int} {L : List (Int × Nat)} {d : List Nat} (h : shE k L = 0) (hl : ¬ (L.length : Int) < k) (hd : d.length = k.toNat) (hh : Has d L L.length) : rcE k L = 0 ∧ rcL k L = mk k.toNat (cf d) ∧ ftB k L = true := by
  have hf : FitK k.toNat L := ⟨d, hd, hh⟩
  refine ⟨by unfold rcE; rw [if_pos h, if_neg hl, if_pos hf], ?_, by unfold ftB; simp only [decide_eq_true_eq]; exact ⟨h, hf⟩⟩
  have hS := (shE_zero h).2
  have hk : k.toNat ≤ L.length := by omega
  unfold rcL
  rw [dif_pos ⟨h, hl, hf⟩]
  have hc := Classical.choose_spec hf
  have hSk : ShK L k.toNat := ⟨fun p hp => hS.1 p (by omega), fun p q hq hp => hS.2 p q hq (by omega)⟩
  have e := Has.one hSk (by omega) (by omega) (fun i hi => hc.2 i (by omega)) (fun i hi => hh i (by omega))
  refine mk_congr fun i _ => ?_
  rw [← cf_pN, e, cf_pN]
theorem rcE_cases (k : Int) (L : List (Int × Nat)) (h : shE k L = 0) : ((L.length : Int) < k ∧ rcE k L = 4 ∧ rcL k L = [] ∧ ftB k L = true) ∨ (¬ (L.length : Int) < k ∧ rcE k L = 5 ∧ rcL k L = [] ∧ ftB k L = false) ∨ (¬ (L.length : Int) < k ∧ rcE k L = 0 ∧ ftB k L = true) := by
  by_cases hl : (L.length : Int) < k
  · exact .inl ⟨hl, rcE_few h hl⟩
  · by_cases hf : FitK k.toNat L
    · obtain ⟨d, hd, hh⟩ := hf
      obtain ⟨h1, _, h3⟩ := rcE_ok h hl hd hh
      exact .inr (.inr ⟨hl, h1, h3⟩)
    · exact .inr (.inl ⟨hl, rcE_form h hl hf⟩)

end Go.Proofs.Ytjbdpjbcibhflaf
