/-
  What printError, printNumber, count, wordsOf and isSilent of package desk answer.
-/
import Derived.Test.YtmggccepmicjhagGreatDoorFldsAll
import Derived.Test.YtmggccepmicjhagGreatDoorFldsAll
import Derived.Test.YtmggccepmicjhagGreatDoorDkB
import Derived.Test.YtmggccepmicjhagGreatDoorRefGreatAll
import Derived.Test.YtmggccepmicjhagGreatDoorRefGreatAll
import Derived.Test.YtmggccepmicjhagGreatDoorRefPcsAll
import Derived.Test.YtmggccepmicjhagGreatDoorRefGreatAll
namespace Go.Proofs.YtmggccepmicjhagGreatDoor
open Go.RowKit
set_option maxRecDepth 100000

theorem desk_printError (n : Int) (h0 : 0 ≤ n) (h1 : n ≤ 100) (w : World) (ht : Tab w) :
    Calls Tryz.prog 10 #[.int .i64 n] w fun e w' => e = .returned (.string (bs (wrg n))) ∧ Below w.heap.size w w' := by
  have c := itoa_bs w n (by omega) (by omega) ht
  have hl := Lib.itoa_length_le n (by omega) (by omega)
  have hs : ({ data := #[101, 114, 114, 111, 114, 32] } : ByteArray) ++ bs (Lib.itoa n) = bs (wrg n) := bs_append [101, 114, 114, 111, 114, 32] _
  have hz : (bs (Lib.itoa n)).size ≤ 1000 := by rw [bs_size]; omega
  clear hl
  generalize bs (wrg n) = R at *
  generalize bs (Lib.itoa n) = S at *
  go_enter Tryz.func10, Tryz.ntmps10
  go_wp2_with (go_at_call 23; refine Calls.mono c ?_; rintro e w1 ⟨rfl, hb⟩; clear c)
  go_ret
  exact ⟨by simp, hb⟩
theorem desk_printNumber (u : Nat) (hu : u < 18446744073709551616) (w : World) (ht : Tab w) :
    Calls Tryz.prog 59 #[.int .u64 u] w fun e w' => e = .returned (.string (bs (Lib.decDigits u))) ∧ Below w.heap.size w w' := by
  have c := fmtu_bs u hu w ht
  generalize bs (Lib.decDigits u) = R at *
  clear hu
  go_enter Tryz.func59, Tryz.ntmps59
  go_wp2_with (go_at_call 86; refine Calls.mono c ?_; rintro e w1 ⟨rfl, hb⟩; clear c)
  go_ret
  exact ⟨rfl, hb⟩
theorem desk_count (n : Nat) (hn : (n : Int) < 18446744073709551616) (w : World) :
    Calls Tryz.prog 63 #[.int .u64 (n : Int)] w fun e w' => e = .returned (.int .i64 ((smN n : Nat) : Int)) ∧ w' = w := by
  have h1 : Hid (min (n : Int) 1000000000 = ((smN n : Nat) : Int)) := by
    show _ = _
    unfold smN
    split <;> omega
  have h2 := smN_le n
  generalize smN n = m at *
  go_enter Tryz.func63, Tryz.ntmps63
  go_wp2
  go_ret
  refine ⟨?_, rfl⟩
  show Ending.returned (.int .i64 (min (n : Int) 1000000000)) = _
  rw [h1.out]
theorem desk_blank (w : World) : PredAtRunes Tryz.prog 26 #[] (fun r => decide (r = 32)) w := fun W r _ _ => by
  unfold FnGives
  have hd : decide (r = 32) = ((r : Int) == 32) := by
    by_cases h : r = 32
    · subst h; rfl
    · rw [decide_eq_false h]
      symm
      rw [beq_eq_false_iff_ne]
      omega
  show Calls Tryz.prog 26 #[.int .i32 (r : Int)] W fun e w' => e = .returned (.bool (decide (r = 32))) ∧ ∃ q, w' = W.drewN q
  rw [hd]
  go_enter Tryz.func26, Tryz.ntmps26
  go_wp2
  go_ret
  exact ⟨rfl, 0, rfl⟩
theorem desk_wordsOf (w : World) (s : List UInt8) (h9 : s.length ≤ 4294967296) :
    Calls Tryz.prog 12 #[.string (bs s)] w fun e w' => ∃ u, e = .returned u ∧ OwB w.heap.size w' u (wds s) ∧ Below w.heap.size w w' := by
  have c := Tryz.strings_FieldsFunc_runes 26 #[] (enters_of Tryz.func26 (by kernel_rfl) rfl) (fun r => decide (r = 32)) (bs s) w (by rw [bs_size]; exact h9) (desk_blank w)
  have hf : Lib.goFieldsP (fun r => decide (r = 32)) (bs s) = (wds s).map fun l => bs l := fields_wds s
  rw [hf, List.length_map, List.map_map] at c
  have c' : Calls Tryz.prog 25 #[.string (bs s), .func (.func 26) #[] #[]] w fun e w' => ∃ u, e = .returned u ∧ OwB w.heap.size w' u (wds s) ∧ Below w.heap.size w w' := by
    refine c.mono ?_
    rintro e w' ⟨A, rfl, _, h1, h2⟩
    exact ⟨_, rfl, h1, h2⟩
  clear c hf
  generalize wds s = L at *
  generalize bs s = S at *
  go_enter Tryz.func12, Tryz.ntmps12
  go_wp2_with (go_at_call 25; refine Calls.mono c' ?_; rintro e w1 ⟨u, rfl, hO, hb⟩; clear c'; obtain ⟨a, cap, e⟩ := hO.isB.len; subst e)
  go_ret
  exact ⟨_, rfl, hO, hb⟩
/-- A line of these words is not answered. -/
def silB : List (List UInt8) → Bool
  | [] => true
  | v :: _ => decide (v.headD 0 = 35)
theorem hash_in (w : World) (c : UInt8) (r : List UInt8) :
    Calls Tryz.prog 19 #[.string (bs (c :: r)), .string { data := #[35] }] w fun e w' => e = .returned (.bool (decide (c = 35))) ∧ w' = w := by
  have h1 : (bs (c :: r)).size = r.length + 1 := by rw [bs_size, List.length_cons]
  have h2 : ({ data := #[35] } : ByteArray).size = 1 := rfl
  have h3 : (bs (c :: r)).extract 0 1 = bs [c] := bs_front [c] r
  have h4 : (bs [c]).toList = [c] := by rw [ByteArray.toList_eq]; rfl
  have h5 : ({ data := #[35] } : ByteArray).toList = [35] := by rw [ByteArray.toList_eq]
  have h6 : (([c] : List UInt8) == [35]) = decide (c = 35) := by
    by_cases h : c = 35
    · subst h; rfl
    · rw [decide_eq_false h, beq_eq_false_iff_ne]
      simpa using h
  have h7 : ((bs [c]).toList == [35]) = decide (c = 35) := by rw [h4]; exact h6
  have h8 : ((1 : Nat) : Int) ≤ ((r.length + 1 : Nat) : Int) := by omega
  have h9 : 1 ≤ r.length + 1 := by omega
  generalize decide (c = 35) = B at *
  generalize r.length + 1 = n at *
  generalize bs (c :: r) = S at *
  go_enter Tryz.func19, Tryz.ntmps19
  go_wp2
  go_ret
  exact ⟨by simp, rfl⟩
theorem hash_has (w : World) (c : UInt8) (r : List UInt8) :
    Calls Tryz.prog 7 #[.string (bs (c :: r)), .string { data := #[35] }] w fun e w' => e = .returned (.bool (decide (c = 35))) ∧ w' = w := by
  have c1 := hash_in w c r
  generalize bs (c :: r) = S at *
  generalize decide (c = 35) = B at *
  go_enter Tryz.func7, Tryz.ntmps7
  go_wp2_with (go_at_call 19; refine Calls.mono c1 ?_; rintro e w' ⟨rfl, hw⟩; rw [hw]; clear hw)
  go_ret
  exact ⟨rfl, rfl⟩
set_option maxHeartbeats 1000000 in
theorem desk_isSilent (w : World) (v : Value) (L : List (List UInt8)) (h : IsB w v L) (hne : ∀ l ∈ L, l ≠ []) :
    Calls Tryz.prog 13 #[v] w fun e w' => e = .returned (.bool (silB L)) ∧ w' = w := by
  obtain ⟨a, cap, rfl, h1, h2, hc⟩ := h
  cases L with
  | nil =>
    clear hc hne h1
    show Calls Tryz.prog 13 #[.slice a 0 cap] w fun e w' => e = .returned (.bool true) ∧ w' = w
    go_enter Tryz.func13, Tryz.ntmps13
    go_wp2
    go_ret
    exact ⟨rfl, rfl⟩
  | cons l L =>
    obtain ⟨b, off, rfl, hcell⟩ := hc 0 (by simp)
    have hl := hne l List.mem_cons_self
    obtain ⟨c, r, rfl⟩ : ∃ c r, l = c :: r := by
      cases l with
      | nil => exact absurd rfl hl
      | cons c r => exact ⟨c, r, rfl⟩
    have c1 := hash_has w c r
    have hz : (((L.length + 1 : Nat) : Int) == 0) = false := by rw [beq_eq_false_iff_ne]; omega
    have hlt : 0 < L.length + 1 := by omega
    replace hcell : w.cell? ⟨b, off, none⟩ = some (.string (bs (c :: r))) := hcell
    show Calls Tryz.prog 13 #[.slice (some ⟨b, off, none⟩) (L.length + 1) cap] w fun e w' => e = .returned (.bool (decide (c = 35))) ∧ w' = w
    clear hc hne h1 hl
    generalize L.length + 1 = n at *
    generalize bs (c :: r) = S at *
    generalize decide (c = 35) = B at *
    go_enter Tryz.func13, Tryz.ntmps13
    go_wp2_with (go_at_call 7; refine Calls.mono c1 ?_; rintro e w' ⟨rfl, hw⟩; rw [hw]; clear hw)
    go_ret
    exact ⟨rfl, rfl⟩

end Go.Proofs.YtmggccepmicjhagGreatDoor
