/-
  BigOrder returns true for all texts.
-/
import Derived.Test.YtndmhceampggmafDoorBigU
namespace Go.Proofs.YtndmhceampggmafDoor
open Go.RowKit

theorem gd99 : Gd (⟨#[57, 57]⟩ : ByteArray) [9, 9] := ⟨Gs.txt (ds := [9, 9]) ⟨by unfold Dg; decide, by decide, by decide⟩, by decide⟩
theorem gd100 : Gd (⟨#[49, 48, 48]⟩ : ByteArray) [1, 0, 0] := ⟨Gs.txt (ds := [1, 0, 0]) ⟨by unfold Dg; decide, by decide, by decide⟩, by decide⟩
theorem cmp_99 : cmpX ⟨#[57, 57]⟩ ⟨#[49, 48, 48]⟩ = -1 := by
  unfold cmpX
  rw [if_pos (gchk2_ok gd99 gd100), num_of gd99.1, num_of gd100.1]
  rfl
theorem ok_99 : gchk2 ⟨#[57, 57]⟩ ⟨#[49, 48, 48]⟩ = 0 := gchk2_ok gd99 gd100
set_option maxRecDepth 100000 in
set_option maxHeartbeats 4000000 in
theorem bigOrder_walk (s t u : ByteArray) (_w0 : s.size ≤ maxLen) (_w1 : t.size ≤ maxLen) (_w2 : u.size ≤ maxLen) (w : World) (hTb : Tab w) :
    Calls Tryd.prog 6 #[.string s, .string t, .string u] w fun e w' => e = .returned (.bool true) ∧ Below w.heap.size w w' := by
  by_cases h : gchk2 s t = 0
  · obtain ⟨⟨a, ha⟩, b, hb⟩ := gchk2_zero h
    have h' : gchk2 t s = 0 := gchk2_ok hb ha
    have heq := eqT ha hb
    have k1 : cmpX s t = cmpN (num s) (num t) := by unfold cmpX; rw [if_pos h]
    have k2 : cmpX t s = cmpN (num t) (num s) := by unfold cmpX; rw [if_pos h']
    have hz1 : s.size ≤ 2000 := by rw [ha.1.size]; exact ha.2
    have hz2 : t.size ≤ 2000 := by rw [hb.1.size]; exact hb.2
    obtain ⟨n, m, kn, hn, hm, hnm⟩ : ∃ (n m : Int) (kn : Bool), cmpN (num s) (num t) = n ∧ cmpN (num t) (num s) = m ∧ ((n = -1 ∧ m = 1 ∧ kn = false) ∨ (n = 0 ∧ m = 0 ∧ kn = true) ∨ (n = 1 ∧ m = -1 ∧ kn = false)) ∧ decide (num s = num t) = kn := by
      unfold cmpN
      rcases Nat.lt_trichotomy (num s) (num t) with q | q | q
      · exact ⟨-1, 1, false, if_pos q, by rw [if_neg (by omega), if_neg (by omega)], .inl ⟨rfl, rfl, rfl⟩, by rw [decide_eq_false_iff_not]; omega⟩
      · exact ⟨0, 0, true, by rw [if_neg (by omega), if_pos q], by rw [if_neg (by omega), if_pos q.symm], .inr (.inl ⟨rfl, rfl, rfl⟩), by rw [decide_eq_true_eq]; exact q⟩
      · exact ⟨1, -1, false, by rw [if_neg (by omega), if_neg (by omega)], if_pos q, .inr (.inr ⟨rfl, rfl, rfl⟩), by rw [decide_eq_false_iff_not]; omega⟩
    rw [hn] at k1
    rw [hm] at k2
    rw [hnm.2] at heq
    have hdis := hnm.1
    clear hnm hm
    by_cases hlen : s.size ≤ 1990 ∧ t.size ≤ 1990 ∧ u.size ≤ 1990
    · obtain ⟨l1, l2, l3⟩ := hlen
      rcases gchk_cases u with ⟨hu, -⟩ | ⟨hu, c, hc⟩
      · have g1 : gchk2 s u = gchk u := by unfold gchk2; rw [if_pos (gchk_ok ha)]
        have g2 : gchk2 t u = gchk u := by unfold gchk2; rw [if_pos (gchk_ok hb)]
        have hne : (gchk u == 0) = false := by rw [beq_eq_false_iff_ne]; exact hu
        have hne2 : (gchk u != 0) = true := by unfold bne; rw [hne]; rfl
        clear hz1 hz2 ha hb hn
        rcases hdis with ⟨rfl, rfl, rfl⟩ | ⟨rfl, rfl, rfl⟩ | ⟨rfl, rfl, rfl⟩
        all_goals
          have hB := Below.refl w.heap.size w
          go_enter Tryd.func6, Tryd.ntmps6
          go_wp2_with (first
            | (go_at_call 23; refine Calls.mono (big_Check _ _ (hTb.below hB)) ?_; rintro e w2 ⟨rfl, hb⟩; replace hB := hB.trans (hb.mono hB.size); clear hb; (try rw [cmp_99]); (try rw [ok_99]); (try rw [k1]); (try rw [k2]); (try rw [h]); (try rw [h']); (try rw [g1]); (try rw [g2]))
            | (go_at_call 26; refine Calls.mono (big_Cmp _ _ _ (hTb.below hB)) ?_; rintro e w2 ⟨rfl, hb⟩; replace hB := hB.trans (hb.mono hB.size); clear hb; (try rw [cmp_99]); (try rw [ok_99]); (try rw [k1]); (try rw [k2]); (try rw [h]); (try rw [h']); (try rw [g1]); (try rw [g2]))
            | (go_at_call 24; refine Calls.mono (big_Add _ _ _ (hTb.below hB)) ?_; rintro e w2 ⟨rfl, hb⟩; replace hB := hB.trans (hb.mono hB.size); clear hb; (try rw [cmp_99]); (try rw [ok_99]); (try rw [k1]); (try rw [k2]); (try rw [h]); (try rw [h']); (try rw [g1]); (try rw [g2])))
          go_ret
          exact ⟨rfl, hB⟩
      · have g1 : gchk2 s u = 0 := gchk2_ok ha hc
        have g2 : gchk2 t u = 0 := gchk2_ok hb hc
        have a1 : addX s u = txtN (num s + num u) := by unfold addX; rw [if_pos g1]
        have a2 : addX t u = txtN (num t + num u) := by unfold addX; rw [if_pos g2]
        have d1 := gd_sum ha hc l1 l3 (by omega)
        have d2 := gd_sum hb hc l2 l3 (by omega)
        have g3 : gchk2 (txtN (num s + num u)) (txtN (num t + num u)) = 0 := gchk2_ok d1 d2
        have k3 : cmpX (txtN (num s + num u)) (txtN (num t + num u)) = n := by
          unfold cmpX
          rw [if_pos g3, num_txt, num_txt, cmpN_add, hn]
        clear d1 d2 ha hb hc hz1 hz2 hn
        generalize txtN (num s + num u) = X at *
        generalize txtN (num t + num u) = Y at *
        rcases hdis with ⟨rfl, rfl, rfl⟩ | ⟨rfl, rfl, rfl⟩ | ⟨rfl, rfl, rfl⟩
        all_goals
          have hB := Below.refl w.heap.size w
          go_enter Tryd.func6, Tryd.ntmps6
          go_wp2_with (first
            | (go_at_call 23; refine Calls.mono (big_Check _ _ (hTb.below hB)) ?_; rintro e w2 ⟨rfl, hb⟩; replace hB := hB.trans (hb.mono hB.size); clear hb; (try rw [cmp_99]); (try rw [ok_99]); (try rw [k1]); (try rw [k2]); (try rw [h]); (try rw [h']); (try rw [g1]); (try rw [g2]); (try rw [a1]); (try rw [a2]); (try rw [k3]); (try rw [g3]))
            | (go_at_call 26; refine Calls.mono (big_Cmp _ _ _ (hTb.below hB)) ?_; rintro e w2 ⟨rfl, hb⟩; replace hB := hB.trans (hb.mono hB.size); clear hb; (try rw [cmp_99]); (try rw [ok_99]); (try rw [k1]); (try rw [k2]); (try rw [h]); (try rw [h']); (try rw [g1]); (try rw [g2]); (try rw [a1]); (try rw [a2]); (try rw [k3]); (try rw [g3]))
            | (go_at_call 24; refine Calls.mono (big_Add _ _ _ (hTb.below hB)) ?_; rintro e w2 ⟨rfl, hb⟩; replace hB := hB.trans (hb.mono hB.size); clear hb; (try rw [cmp_99]); (try rw [ok_99]); (try rw [k1]); (try rw [k2]); (try rw [h]); (try rw [h']); (try rw [g1]); (try rw [g2]); (try rw [a1]); (try rw [a2]); (try rw [k3]); (try rw [g3])))
          go_ret
          exact ⟨rfl, hB⟩
    · have hlen2 : 1990 < s.size ∨ (s.size ≤ 1990 ∧ 1990 < t.size) ∨ (s.size ≤ 1990 ∧ t.size ≤ 1990 ∧ 1990 < u.size) := by omega
      clear hlen ha hb hn hz1 hz2
      rcases hdis with ⟨rfl, rfl, rfl⟩ | ⟨rfl, rfl, rfl⟩ | ⟨rfl, rfl, rfl⟩
      all_goals rcases hlen2 with l1 | ⟨l1, l2⟩ | ⟨l1, l2, l3⟩
      all_goals
        have hB := Below.refl w.heap.size w
        go_enter Tryd.func6, Tryd.ntmps6
        go_wp2_with (first
          | (go_at_call 23; refine Calls.mono (big_Check _ _ (hTb.below hB)) ?_; rintro e w2 ⟨rfl, hb⟩; replace hB := hB.trans (hb.mono hB.size); clear hb; (try rw [cmp_99]); (try rw [ok_99]); (try rw [k1]); (try rw [k2]); (try rw [h]); (try rw [h']))
          | (go_at_call 26; refine Calls.mono (big_Cmp _ _ _ (hTb.below hB)) ?_; rintro e w2 ⟨rfl, hb⟩; replace hB := hB.trans (hb.mono hB.size); clear hb; (try rw [cmp_99]); (try rw [ok_99]); (try rw [k1]); (try rw [k2]); (try rw [h]); (try rw [h']))
          | (go_at_call 24; refine Calls.mono (big_Add _ _ _ (hTb.below hB)) ?_; rintro e w2 ⟨rfl, hb⟩; replace hB := hB.trans (hb.mono hB.size); clear hb; (try rw [cmp_99]); (try rw [ok_99]); (try rw [k1]); (try rw [k2]); (try rw [h]); (try rw [h'])))
        go_ret
        exact ⟨rfl, hB⟩
  · have h' : gchk2 t s ≠ 0 := fun q => by
      obtain ⟨⟨b, hb⟩, a, ha⟩ := gchk2_zero q
      exact h (gchk2_ok ha hb)
    have k1 : cmpX s t = 0 := by unfold cmpX; rw [if_neg h]
    have k2 : cmpX t s = 0 := by unfold cmpX; rw [if_neg h']
    have n1 : (gchk2 s t == 0) = false := by rw [beq_eq_false_iff_ne]; exact h
    have n2 : (gchk2 t s == 0) = false := by rw [beq_eq_false_iff_ne]; exact h'
    have hB := Below.refl w.heap.size w
    go_enter Tryd.func6, Tryd.ntmps6
    go_wp2_with (first
      | (go_at_call 23; refine Calls.mono (big_Check _ _ (hTb.below hB)) ?_; rintro e w2 ⟨rfl, hb⟩; replace hB := hB.trans (hb.mono hB.size); clear hb; (try rw [cmp_99]); (try rw [ok_99]); (try rw [k1]); (try rw [k2]))
      | (go_at_call 26; refine Calls.mono (big_Cmp _ _ _ (hTb.below hB)) ?_; rintro e w2 ⟨rfl, hb⟩; replace hB := hB.trans (hb.mono hB.size); clear hb; (try rw [cmp_99]); (try rw [ok_99]); (try rw [k1]); (try rw [k2]))
      | (go_at_call 24; refine Calls.mono (big_Add _ _ _ (hTb.below hB)) ?_; rintro e w2 ⟨rfl, hb⟩; replace hB := hB.trans (hb.mono hB.size); clear hb; (try rw [cmp_99]); (try rw [ok_99]); (try rw [k1]); (try rw [k2])))
    go_ret
    exact ⟨rfl, hB⟩

end Go.Proofs.YtndmhceampggmafDoor
