/-
  BigLaws returns true for all texts.
-/
import Derived.Test.YtndmhceampggmafDoorBigU
import Derived.Test.YtndmhceampggmafDoorKeepRest
namespace Go.Proofs.YtndmhceampggmafDoor
open Go.RowKit

theorem gd_99 : Gd (⟨#[57, 57]⟩ : ByteArray) [9, 9] := ⟨Gs.txt (ds := [9, 9]) ⟨by unfold Dg; decide, by decide, by decide⟩, by decide⟩
theorem gs_9801 : Gs (⟨#[57, 56, 48, 49]⟩ : ByteArray) [9, 8, 0, 1] := Gs.txt (ds := [9, 8, 0, 1]) ⟨by unfold Dg; decide, by decide, by decide⟩
theorem gd_1 : Gd (⟨#[49]⟩ : ByteArray) [1] := ⟨Gs.txt (ds := [1]) ⟨by unfold Dg; decide, by decide, by decide⟩, by decide⟩
theorem gd_0 : Gd (⟨#[48]⟩ : ByteArray) [0] := ⟨Gs.txt (ds := [0]) ⟨by unfold Dg; decide, by decide, by decide⟩, by decide⟩
theorem ok_9999 : gchk2 ⟨#[57, 57]⟩ ⟨#[57, 57]⟩ = 0 := gchk2_ok gd_99 gd_99
theorem mul_9999 : mulX ⟨#[57, 57]⟩ ⟨#[57, 57]⟩ = ⟨#[57, 56, 48, 49]⟩ := by
  unfold mulX
  rw [if_pos ok_9999, num_of gd_99.1]
  exact ((txt_gs _).same gs_9801 (by rw [dgs_val]; rfl))
theorem keep_restN (w : World) (v : ByteArray) (h : ∃ a, Gd v a) (m : Nat) (h1 : 1 ≤ m) (hm : m ≤ 1000003) :
    Calls Tryd.prog 25 #[.string v, .int .i64 (m : Int)] w fun e w' => e = .returned (.int .i64 ((num v % m : Nat) : Int)) ∧ w' = w := by
  obtain ⟨a, ha⟩ := h
  rw [num_of ha.1]
  exact keep_rest w v a ha.1 (by have := ha.2; omega) m h1 hm
set_option maxRecDepth 100000 in
set_option maxHeartbeats 4000000 in
theorem bigLaws_no (s t u : ByteArray) (w : World) (hTb : Tab w)
    (h : 400 < s.size ∨ (s.size ≤ 400 ∧ 400 < t.size) ∨ (s.size ≤ 400 ∧ t.size ≤ 400 ∧ 400 < u.size) ∨ (s.size ≤ 400 ∧ t.size ≤ 400 ∧ u.size ≤ 400 ∧ ((gchk s == 0) = false ∨ (gchk s = 0 ∧ (gchk t == 0) = false) ∨ (gchk s = 0 ∧ gchk t = 0 ∧ (gchk u == 0) = false)))) :
    Calls Tryd.prog 5 #[.string s, .string t, .string u] w fun e w' => e = .returned (.bool true) ∧ Below w.heap.size w w' := by
  rcases h with l1 | ⟨l1, l2⟩ | ⟨l1, l2, l3⟩ | ⟨l1, l2, l3, n1 | ⟨g1, n1⟩ | ⟨g1, g2, n1⟩⟩
  case' inr.inr.inr.inl => have n2 : (gchk s != 0) = true := by unfold bne; rw [n1]; rfl
  case' inr.inr.inr.inr.inl => have n2 : (gchk t != 0) = true := by unfold bne; rw [n1]; rfl
  case' inr.inr.inr.inr.inr => have n2 : (gchk u != 0) = true := by unfold bne; rw [n1]; rfl
  all_goals
    have hB := Below.refl w.heap.size w
    go_enter Tryd.func5, Tryd.ntmps5
    go_wp2_with (first
      | (go_at_call 23; refine Calls.mono (big_Check _ _ (hTb.below hB)) ?_; rintro e w2 ⟨rfl, hb⟩; replace hB := hB.trans (hb.mono hB.size); clear hb; (try rw [ok_9999]); (try rw [mul_9999]); (try rw [g1]); (try rw [g2]))
      | (go_at_call 24; refine Calls.mono (big_Add _ _ _ (hTb.below hB)) ?_; rintro e w2 ⟨rfl, hb⟩; replace hB := hB.trans (hb.mono hB.size); clear hb; (try rw [ok_9999]); (try rw [mul_9999]); (try rw [g1]); (try rw [g2]))
      | (go_at_call 22; refine Calls.mono (big_Mul _ _ _ (hTb.below hB)) ?_; rintro e w2 ⟨rfl, hb⟩; replace hB := hB.trans (hb.mono hB.size); clear hb; (try rw [ok_9999]); (try rw [mul_9999]); (try rw [g1]); (try rw [g2])))
    go_ret
    exact ⟨rfl, hB⟩
set_option maxRecDepth 100000 in
set_option maxHeartbeats 4000000 in
theorem bigLaws_yes (s t u : ByteArray) (a b c : List Nat) (ha : Gd s a) (hb : Gd t b) (hc : Gd u c) (l1 : s.size ≤ 400) (l2 : t.size ≤ 400) (l3 : u.size ≤ 400) (w : World) (hTb : Tab w) :
    Calls Tryd.prog 5 #[.string s, .string t, .string u] w fun e w' => e = .returned (.bool true) ∧ Below w.heap.size w w' := by
  have c1 := gchk_ok ha
  have c2 := gchk_ok hb
  have c3 := gchk_ok hc
  have g1 : gchk2 s t = 0 := gchk2_ok ha hb
  have g2 : gchk2 t s = 0 := gchk2_ok hb ha
  have g3 : gchk2 t u = 0 := gchk2_ok hb hc
  have g4 : gchk2 s u = 0 := gchk2_ok ha hc
  have dP := gd_prod ha hb l1 l2 (by omega) (by omega)
  have dQ := gd_prod ha hc l1 l3 (by omega) (by omega)
  have dS := gd_sum hb hc l2 l3 (by omega)
  have m1 : mulX s t = txtN (num s * num t) := by unfold mulX; rw [if_pos g1]
  have m2 : mulX t s = txtN (num s * num t) := by unfold mulX; rw [if_pos g2, Nat.mul_comm]
  have m3 : addX t u = txtN (num t + num u) := by unfold addX; rw [if_pos g3]
  have m4 : mulX s u = txtN (num s * num u) := by unfold mulX; rw [if_pos g4]
  have g5 : gchk2 s (txtN (num t + num u)) = 0 := gchk2_ok ha dS
  have m5 : mulX s (txtN (num t + num u)) = txtN (num s * (num t + num u)) := by unfold mulX; rw [if_pos g5, num_txt]
  have g6 : gchk2 (txtN (num s * num t)) (txtN (num s * num u)) = 0 := gchk2_ok dP dQ
  have m6 : addX (txtN (num s * num t)) (txtN (num s * num u)) = txtN (num s * (num t + num u)) := by unfold addX; rw [if_pos g6, num_txt, num_txt, Nat.mul_add]
  have g7 : gchk2 s ⟨#[49]⟩ = 0 := gchk2_ok ha gd_1
  have m7 : mulX s ⟨#[49]⟩ = s := by
    unfold mulX; rw [if_pos g7, num_of gd_1.1, show val [1] = 1 from rfl, Nat.mul_one, num_of ha.1]; exact ha.1.txt_eq.symm
  have g8 : gchk2 s ⟨#[48]⟩ = 0 := gchk2_ok ha gd_0
  have m8 : addX s ⟨#[48]⟩ = s := by
    unfold addX; rw [if_pos g8, num_of gd_0.1, show val [0] = 0 from rfl, Nat.add_zero, num_of ha.1]; exact ha.1.txt_eq.symm
  have c4 := gchk_ok dP
  have eP : ∃ a, Gd (txtN (num s * num t)) a := ⟨_, dP⟩
  have eS : ∃ a, Gd (txtN (num t + num u)) a := ⟨_, dS⟩
  have es : ∃ a, Gd s a := ⟨_, ha⟩
  have et : ∃ a, Gd t a := ⟨_, hb⟩
  have eu : ∃ a, Gd u a := ⟨_, hc⟩
  have nP : num (txtN (num s * num t)) = num s * num t := num_txt _
  have nS : num (txtN (num t + num u)) = num t + num u := num_txt _
  clear ha hb hc dP dQ dS
  generalize txtN (num s * (num t + num u)) = R at *
  generalize txtN (num s * num t) = P at *
  generalize txtN (num t + num u) = S at *
  generalize txtN (num s * num u) = Q at *
  have hB := Below.refl w.heap.size w
  go_enter Tryd.func5, Tryd.ntmps5
  go_wp2_with (first
    | (go_at_call 23; refine Calls.mono (big_Check _ _ (hTb.below hB)) ?_; rintro e w2 ⟨rfl, hb⟩; replace hB := hB.trans (hb.mono hB.size); clear hb; (try rw [ok_9999]); (try rw [mul_9999]); (try rw [c1]); (try rw [c2]); (try rw [c3]); (try rw [c4]); (try rw [g1]); (try rw [g2]); (try rw [g3]); (try rw [g4]); (try rw [g5]); (try rw [g6]); (try rw [g7]); (try rw [g8]); (try rw [m1]); (try rw [m2]); (try rw [m3]); (try rw [m4]); (try rw [m5]); (try rw [m6]); (try rw [m7]); (try rw [m8]))
    | (go_at_call 24; refine Calls.mono (big_Add _ _ _ (hTb.below hB)) ?_; rintro e w2 ⟨rfl, hb⟩; replace hB := hB.trans (hb.mono hB.size); clear hb; (try rw [ok_9999]); (try rw [mul_9999]); (try rw [c1]); (try rw [c2]); (try rw [c3]); (try rw [c4]); (try rw [g1]); (try rw [g2]); (try rw [g3]); (try rw [g4]); (try rw [g5]); (try rw [g6]); (try rw [g7]); (try rw [g8]); (try rw [m1]); (try rw [m2]); (try rw [m3]); (try rw [m4]); (try rw [m5]); (try rw [m6]); (try rw [m7]); (try rw [m8]))
    | (go_at_call 22; refine Calls.mono (big_Mul _ _ _ (hTb.below hB)) ?_; rintro e w2 ⟨rfl, hb⟩; replace hB := hB.trans (hb.mono hB.size); clear hb; (try rw [ok_9999]); (try rw [mul_9999]); (try rw [c1]); (try rw [c2]); (try rw [c3]); (try rw [c4]); (try rw [g1]); (try rw [g2]); (try rw [g3]); (try rw [g4]); (try rw [g5]); (try rw [g6]); (try rw [g7]); (try rw [g8]); (try rw [m1]); (try rw [m2]); (try rw [m3]); (try rw [m4]); (try rw [m5]); (try rw [m6]); (try rw [m7]); (try rw [m8])))
  have hB6 := hB.trans ((below_alloc1 w2 (.cells #[.int .i64 9, .int .i64 11, .int .i64 7, .int .i64 1000003] 3)).mono hB.size)
  have hcs : Hid (∀ i, i < 4 → ∃ m : Nat, 1 ≤ m ∧ m ≤ 1000003 ∧ (w2.alloc (.cells #[.int .i64 9, .int .i64 11, .int .i64 7, .int .i64 1000003] 3)).cell? ⟨w2.heap.size, i, none⟩ = some (.int .i64 (m : Int))) := fun i hi => by
    have hc : ∀ i, (w2.alloc (.cells #[.int .i64 9, .int .i64 11, .int .i64 7, .int .i64 1000003] 3)).cell? ⟨w2.heap.size, i, none⟩ = (#[Value.int .i64 9, .int .i64 11, .int .i64 7, .int .i64 1000003] : Array Value)[i]? := fun i => World.cell?_alloc_mark w2 _ _ _ i
    rw [hc]
    rcases i with _ | _ | _ | _ | i
    · exact ⟨9, by omega, by omega, rfl⟩
    · exact ⟨11, by omega, by omega, rfl⟩
    · exact ⟨7, by omega, by omega, rfl⟩
    · exact ⟨1000003, by omega, by omega, rfl⟩
    · omega
  clear hB
  generalize (w2.alloc (.cells #[.int .i64 9, .int .i64 11, .int .i64 7, .int .i64 1000003] 3)) = W at *
  generalize w2.heap.size = B at *
  go_loopw [135] (fun vi wr => ∃ i : Nat, i ≤ 4 ∧ vi = .int .i64 (i : Int) ∧ wr = W)
    (fun vi _ => 4 - (intOf vi).toNat)
  case atStart => exact ⟨0, by omega, rfl, rfl⟩
  case round =>
    obtain ⟨i, hi, rfl, hwr⟩ := hrel
    rw [hwr]
    by_cases hlt : i < 4
    · obtain ⟨m, hm1, hm9, hcell⟩ := hcs.out i hlt
      obtain ⟨rs, hrs⟩ : ∃ rs : ByteArray → Nat, ∀ v, rs v = num v % m := ⟨fun v => num v % m, fun _ => rfl⟩
      have cR : ∀ (W : World) (v : ByteArray), (∃ a, Gd v a) → Calls Tryd.prog 25 #[.string v, .int .i64 (m : Int)] W fun e w' => e = .returned (.int .i64 ((rs v : Nat) : Int)) ∧ w' = W := fun W v h => by
        rw [hrs]; exact keep_restN W v h m hm1 hm9
      have hb1 : rs s < m := by rw [hrs]; exact Nat.mod_lt _ (by omega)
      have hb2 : rs t < m := by rw [hrs]; exact Nat.mod_lt _ (by omega)
      have hb3 : rs u < m := by rw [hrs]; exact Nat.mod_lt _ (by omega)
      have hwr2 : wrap64 ((rs s : Int) * (rs t : Int)) = (rs s : Int) * (rs t : Int) := by
        have : rs s * rs t ≤ 1000003 * 1000003 := Nat.mul_le_mul (by omega) (by omega)
        have e : (rs s : Int) * (rs t : Int) = ((rs s * rs t : Nat) : Int) := (Int.natCast_mul _ _).symm
        rw [e]
        unfold wrap64
        omega
      have hf1 : (rs s : Int) * (rs t : Int) % (m : Int) = (rs P : Int) := by
        have : rs s * rs t % m = rs P := by rw [hrs, hrs, hrs, nP, ← Nat.mul_mod]
        rw [← this]; simp
      have hf3 : ((rs s : Int) * (rs t : Int)).tmod (m : Int) = (rs P : Int) := by
        rw [Int.tmod_eq_emod_of_nonneg (Int.mul_nonneg (Int.natCast_nonneg _) (Int.natCast_nonneg _))]; exact hf1
      clear hf1
      have hf2 : ((rs t : Int) + (rs u : Int)) % (m : Int) = (rs S : Int) := by
        have : (rs t + rs u) % m = rs S := by rw [hrs, hrs, hrs, nS, ← Nat.add_mod]
        rw [← this]; simp
      have hb4 : rs P < m := by rw [hrs]; exact Nat.mod_lt _ (by omega)
      have hb5 : rs S < m := by rw [hrs]; exact Nat.mod_lt _ (by omega)
      have hm0 : (m : Int) ≠ 0 := by omega
      clear hrs nP nS
      go_wp2_with (go_at_call 25; refine Calls.mono (cR _ _ (by assumption)) ?_; rintro e w7 ⟨rfl, hw⟩; rw [hw]; clear hw)
      go_roundw
      case rel => exact ⟨i + 1, by omega, by go_num, by trivial⟩
      case measure => simp only [intOf]; omega
    · have e : i = 4 := by omega
      subst e
      clear hcs hlt hi
      have hB := hB6
      clear hB6
      go_wp2_with (first
        | (go_at_call 23; refine Calls.mono (big_Check _ _ (hTb.below hB)) ?_; rintro e w2 ⟨rfl, hb⟩; replace hB := hB.trans (hb.mono hB.size); clear hb; (try rw [c1]); (try rw [c2]); (try rw [c3]); (try rw [c4]); (try rw [g7]); (try rw [g8]); (try rw [m7]); (try rw [m8]))
        | (go_at_call 24; refine Calls.mono (big_Add _ _ _ (hTb.below hB)) ?_; rintro e w2 ⟨rfl, hb⟩; replace hB := hB.trans (hb.mono hB.size); clear hb; (try rw [c1]); (try rw [c2]); (try rw [c3]); (try rw [c4]); (try rw [g7]); (try rw [g8]); (try rw [m7]); (try rw [m8]))
        | (go_at_call 22; refine Calls.mono (big_Mul _ _ _ (hTb.below hB)) ?_; rintro e w2 ⟨rfl, hb⟩; replace hB := hB.trans (hb.mono hB.size); clear hb; (try rw [c1]); (try rw [c2]); (try rw [c3]); (try rw [c4]); (try rw [g7]); (try rw [g8]); (try rw [m7]); (try rw [m8])))
      go_ret
      exact ⟨rfl, hB⟩

theorem bigLaws_walk (s t u : ByteArray) (_w0 : s.size ≤ maxLen) (_w1 : t.size ≤ maxLen) (_w2 : u.size ≤ maxLen) (w : World) (hTb : Tab w) :
    Calls Tryd.prog 5 #[.string s, .string t, .string u] w fun e w' => e = .returned (.bool true) ∧ Below w.heap.size w w' := by
  have hn : ∀ {v : ByteArray}, gchk v ≠ 0 → (gchk v == 0) = false := fun h => by rw [beq_eq_false_iff_ne]; exact h
  by_cases l1 : s.size ≤ 400
  · by_cases l2 : t.size ≤ 400
    · by_cases l3 : u.size ≤ 400
      · by_cases c1 : gchk s = 0
        · by_cases c2 : gchk t = 0
          · by_cases c3 : gchk u = 0
            · obtain ⟨a, ha⟩ := gchk_zero c1
              obtain ⟨b, hb⟩ := gchk_zero c2
              obtain ⟨c, hc⟩ := gchk_zero c3
              exact bigLaws_yes s t u a b c ha hb hc l1 l2 l3 w hTb
            · exact bigLaws_no s t u w hTb (.inr (.inr (.inr ⟨l1, l2, l3, .inr (.inr ⟨c1, c2, hn c3⟩)⟩)))
          · exact bigLaws_no s t u w hTb (.inr (.inr (.inr ⟨l1, l2, l3, .inr (.inl ⟨c1, hn c2⟩)⟩)))
        · exact bigLaws_no s t u w hTb (.inr (.inr (.inr ⟨l1, l2, l3, .inl (hn c1)⟩)))
      · exact bigLaws_no s t u w hTb (.inr (.inr (.inl ⟨l1, l2, by omega⟩)))
    · exact bigLaws_no s t u w hTb (.inr (.inl ⟨l1, by omega⟩))
  · exact bigLaws_no s t u w hTb (.inl (by omega))

end Go.Proofs.YtndmhceampggmafDoor
