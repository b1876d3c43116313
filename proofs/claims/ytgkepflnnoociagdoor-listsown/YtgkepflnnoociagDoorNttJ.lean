/-
  What join of package ntt does to a list: two transforms become one.
-/
import Derived.Test.YtgkepflnnoociagDoorSlAppAll
import Derived.Test.YtgkepflnnoociagDoorNttKAll
import Derived.Test.YtgkepflnnoociagDoorFieldAll
import Derived.BigQuiet
import Derived.Deep.RegionWith
namespace Go.Proofs.YtgkepflnnoociagDoor
open Go.RowKit

set_option maxHeartbeats 2000000 in
theorem ntt_join (w : World) (g o h n c r : Nat) (zs : List Nat) (hrow : RowU w g zs) (hz : ∀ x ∈ zs, x < P) (hl : o + 2 * h ≤ zs.length) (hm : zs.length ≤ 1024) (hn : n = 2 * h) (hr : (r : Int) < 18446744073709551616) :
    Calls Tryd.prog 97 #[.slice (some ⟨g, o, none⟩) n c, .int .u64 (r : Int)] w fun e w' => e = .returned (.tuple #[]) ∧ RowU w' g (joinK zs o h r h) ∧ Bar g w w' := by
  have hq : Int.tdiv (n : Int) 2 = (h : Int) := by rw [Int.tdiv_eq_ediv_of_nonneg (by omega)]; omega
  have hh9 : h ≤ 1024 := by omega
  have hw : IntKind.i64.wrap (h : Int) = (h : Int) := by rw [IntKind.wrap_i64]; omega
  have hn' : Hid (n = 2 * h) := hn
  have hn9 : n ≤ 1024 := by omega
  clear hn
  go_enter Tryd.func97, Tryd.ntmps97
  go_wp2
  go_loopw [5, 13] (fun vp vi wr => ∃ i : Nat, i ≤ h ∧ vi = .int .i64 (i : Int) ∧ vp = .int .u64 ((pwJ r i : Nat) : Int) ∧ RowU wr g (joinK zs o h r i) ∧ Bar g w wr)
    (fun _ vi _ => h - (intOf vi).toNat)
  case atStart => exact ⟨0, Nat.zero_le _, rfl, rfl, hrow, Bar.refl _ _⟩
  case round =>
    clear hrow
    obtain ⟨i, hi, rfl, rfl, hrow, hbar⟩ := hrel
    by_cases hlt : i < h
    · have hlz := joinK_length zs o h r i
      have hnn := hn'.out
      have hcA := hrow.cell (o + i) (by omega)
      have hcB := hrow.cell (o + (i + h)) (by omega)
      have hfA := hrow.frozen (o + i)
      have hr0 := Rng_of_P (joinK_P zs o h r i hz)
      have c1 := field_Mul ((joinK zs o h r i).getD (o + (i + h)) 0) (pwJ r i) (range_getD hr0 _) (pwJ_lt r i)
      have hod : ((fM ((joinK zs o h r i).getD (o + (i + h)) 0) (pwJ r i) : Nat) : Int) < 18446744073709551616 := by have := fM_lt ((joinK zs o h r i).getD (o + (i + h)) 0) (pwJ r i); omega
      have c2 := field_Add ((joinK zs o h r i).getD (o + i) 0) (fM ((joinK zs o h r i).getD (o + (i + h)) 0) (pwJ r i)) (range_getD hr0 _) hod
      have c3 := field_Sub ((joinK zs o h r i).getD (o + i) 0) (fM ((joinK zs o h r i).getD (o + (i + h)) 0) (pwJ r i)) (range_getD hr0 _) hod
      have c4 := field_Mul (pwJ r i) r (pwJ_lt r i) hr
      rw [show fM (pwJ r i) r = pwJ r (i + 1) from rfl] at c4
      have hW1 : Hid (∀ m : Nat, ∀ x : Nat, RowU ((wr.drewN m).setCell ⟨g, o + i, none⟩ (.int .u64 (x : Int))) g ((joinK zs o h r i).set (o + i) x)) := fun m x => (hrow.drewN m).set _ _
      have hc2 : ∀ m : Nat, ∀ x : Nat, ((wr.drewN m).setCell ⟨g, o + i, none⟩ (.int .u64 (x : Int))).cell? ⟨g, o + (i + h), none⟩ = some (.int .u64 ((((joinK zs o h r i).set (o + i) x).getD (o + (i + h)) 0 : Nat) : Int)) := fun m x => (hW1.out m x).cell _ (by rw [List.length_set]; omega)
      have hf2 : ∀ m : Nat, ∀ x : Nat, ((wr.drewN m).setCell ⟨g, o + i, none⟩ (.int .u64 (x : Int))).frozen? ⟨g, o + (i + h), none⟩ = false := fun m x => (hW1.out m x).frozen _
      have hfin : Hid (∀ m : Nat, RowU (((wr.drewN m).setCell ⟨g, o + i, none⟩ (.int .u64 ((fA ((joinK zs o h r i).getD (o + i) 0) (fM ((joinK zs o h r i).getD (o + (i + h)) 0) (pwJ r i)) : Nat) : Int))).setCell ⟨g, o + (i + h), none⟩ (.int .u64 ((fS ((joinK zs o h r i).getD (o + i) 0) (fM ((joinK zs o h r i).getD (o + (i + h)) 0) (pwJ r i)) : Nat) : Int))) g (joinK zs o h r (i + 1))) := fun m => (hW1.out m _).set _ _
      have hin : i < n := by omega
      have hwr : IntKind.i64.wrap ((i : Int) + (h : Int)) = ((i + h : Nat) : Int) := by rw [IntKind.wrap_i64]; omega
      have hihn : i + h < n := by omega
      clear hlz hr0 hod hnn hz hr hW1
      generalize fA ((joinK zs o h r i).getD (o + i) 0) (fM ((joinK zs o h r i).getD (o + (i + h)) 0) (pwJ r i)) = y1 at *
      generalize fS ((joinK zs o h r i).getD (o + i) 0) (fM ((joinK zs o h r i).getD (o + (i + h)) 0) (pwJ r i)) = y2 at *
      generalize fM ((joinK zs o h r i).getD (o + (i + h)) 0) (pwJ r i) = od at *
      generalize (joinK zs o h r i).getD (o + (i + h)) 0 = vb at *
      generalize (joinK zs o h r i).getD (o + i) 0 = va at *
      generalize pwJ r i = p1 at *
      go_wp2
      go_quiet (first | (go_at_call 66; exact Calls.quiet_of_same (c1 _)))
      have k1 := hc2 nq y1
      have k2 := hf2 nq y1
      have k3 := hfin.out nq
      have k4 : Bar g w (wr.drewN nq) := hbar.drewN nq
      have k5 : (wr.drewN nq).cell? ⟨g, o + i, none⟩ = some (.int .u64 (va : Int)) := hcA
      have k6 : (wr.drewN nq).frozen? ⟨g, o + i, none⟩ = false := hfA
      have k7 : Hid (RowU (((wr.drewN nq).setCell ⟨g, o + i, none⟩ (.int .u64 (y1 : Int))).setCell ⟨g, o + (i + h), none⟩ (.int .u64 (y2 : Int))) g (joinK zs o h r (i + 1))) := k3
      clear hc2 hf2 hfin hcA hfA hcB hbar hrow c1 k3
      generalize wr.drewN nq = W at *
      generalize ((joinK zs o h r i).set (o + i) y1).getD (o + (i + h)) 0 = vc at *
      go_wp2_with (first
        | (go_at_call 93; refine Calls.mono (c2 _) ?_; rintro e w' ⟨rfl, hw⟩; rw [hw]; clear hw)
        | (go_at_call 12; refine Calls.mono (c3 _) ?_; rintro e w' ⟨rfl, hw⟩; rw [hw]; clear hw)
        | (go_at_call 66; refine Calls.mono (c4 _) ?_; rintro e w' ⟨rfl, hw⟩; rw [hw]; clear hw))
      go_roundw
      case rel => exact ⟨i + 1, by omega, by go_num, rfl, k7.out, (k4.setCell _ _).setCell _ _⟩
      case measure => simp only [intOf]; omega
    · have e : i = h := by omega
      subst e
      have hge : i ≤ i := Nat.le_refl _
      go_wp2
      go_end0
      exact ⟨rfl, hrow, hbar⟩

end Go.Proofs.YtgkepflnnoociagDoor
