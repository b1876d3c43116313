/-
  What slices.Contains answers of tasks: whether a task is among them.
-/
import Derived.Test.YtmgfjcepebjnfafDoorExD
import Derived.Laws.StructEq
namespace Go.Proofs.YtmgfjcepebjnfafDoor
open Go.RowKit

theorem eqTask (a b c d e f : Int) (w : World) : (Op.equalIn 10000 45 (.agg #[.int .i64 a, .int .i64 b, .int .i64 c]) (.agg #[.int .i64 d, .int .i64 e, .int .i64 f])).run Tryd.prog w = .ok (a == d && b == e && c == f) w := by
  have u3 := Tryd.underlying3
  have hS : Tryd.prog.underlying 45 = some (.struct (Tryd.prog.fieldsOf 45)) := by kernel_rfl
  rw [show (10000 : Nat) = 9999 + 1 from rfl, run_equalIn_agg w 9999 45 _ _ hS (by kernel_rfl)]
  simp only [Program.fieldsOf, Tryd.underlying45]
  go_simp
  by_cases h1 : a = d <;> by_cases h2 : b = e <;> by_cases h3 : c = f <;> simp [h1, h2, h3]

set_option maxHeartbeats 2000000 in
theorem slices_IndexQ (w : World) (v : Value) (T : List (List Int)) (a b c : Int) (h : IsR 3 w v T) (h9 : T.length ≤ 1000000) :
    Calls Tryd.prog 34 #[v, .agg #[.int .i64 a, .int .i64 b, .int .i64 c]] w fun e w' => ∃ z : Int, e = .returned (.int .i64 z) ∧ (0 ≤ z ↔ [a, b, c] ∈ T) ∧ Below w.heap.size w w' := by
  have hr3 : T3 T := by obtain ⟨_, _, _, _, _, _, q⟩ := h; exact q
  have hR : Hid _ := h
  obtain ⟨av, cv, rfl, -⟩ := h
  have hb1 := below_alloc1 w (.cells #[.int .i64 a, .int .i64 b, .int .i64 c] 45)
  have hX1 := new_row w 45 [.int .i64 a, .int .i64 b, .int .i64 c]
  change RowV 45 (w.alloc (.cells #[.int .i64 a, .int .i64 b, .int .i64 c] 45)) w.heap.size [.int .i64 a, .int .i64 b, .int .i64 c] at hX1
  go_enter Tryd.func34, Tryd.ntmps34
  go_wp2
  generalize w.alloc (.cells #[.int .i64 a, .int .i64 b, .int .i64 c] 45) = w1 at *
  obtain ⟨B, hB⟩ : ∃ B, B = w.heap.size := ⟨_, rfl⟩
  rw [← hB] at hX1 ⊢
  replace hB : Hid _ := hB
  go_loopw [8] (fun vi wr => ∃ (i : Nat), i ≤ T.length ∧ vi = .int .i64 (i : Int) ∧ Hid (∀ j, j < i → T.getD j [] ≠ [a, b, c]) ∧ Hid (RowV 45 wr B [.int .i64 a, .int .i64 b, .int .i64 c]) ∧ Below w.heap.size w wr)
    (fun vi _ => T.length - (intOf vi).toNat)
  case atStart => exact ⟨0, Nat.zero_le _, rfl, fun j hj => absurd hj (by omega), hX1, hb1⟩
  case round =>
    clear hX1 hb1
    obtain ⟨i, hi, rfl, hno, hX, hb⟩ := hrel
    by_cases hlt : i < T.length
    · obtain ⟨a3, c3, e3, -, -, hrows, -⟩ := IsR.below hR.out hb
      simp only [Value.slice.injEq] at e3
      obtain ⟨rfl, -, rfl⟩ := e3
      obtain ⟨b2, o2, rfl, hcell0⟩ := hrows i hlt
      obtain ⟨ta, tb, tcc, ht4⟩ := len_3 (hr3 _ (getD_mem hlt)).1
      rw [ht4] at hcell0
      have c0 : wr.cell? ⟨b2, o2 + i * 3, none⟩ = some (.int .i64 ta) := hcell0 0 (by omega)
      have c1 : wr.cell? ⟨b2, o2 + i * 3 + 1, none⟩ = some (.int .i64 tb) := by rw [Nat.add_assoc]; exact hcell0 1 (by omega)
      have c2 : wr.cell? ⟨b2, o2 + i * 3 + 2, none⟩ = some (.int .i64 tcc) := by rw [Nat.add_assoc]; exact hcell0 2 (by omega)
      have x0 : wr.cell? ⟨B, 0, none⟩ = some (.int .i64 a) := RowV.cell hX.out 0
      have x1 : wr.cell? ⟨B, 1, none⟩ = some (.int .i64 b) := RowV.cell hX.out 1
      have x2 : wr.cell? ⟨B, 2, none⟩ = some (.int .i64 c) := RowV.cell hX.out 2
      have hmem : Hid (T.getD i [] ∈ T) := getD_mem hlt
      rw [ht4] at hmem
      clear hcell0 hrows
      by_cases he : [ta, tb, tcc] = [a, b, c]
      · simp only [List.cons.injEq, and_true] at he
        obtain ⟨rfl, rfl, rfl⟩ := he
        go_wp2
        go_quiet (fail)
        go_wp2
        go_ret
        exact ⟨_, rfl, ⟨fun _ => hmem.out, fun _ => Int.natCast_nonneg _⟩, below_drewN hb nq⟩
      · have hne : (a == ta && (b == tb && c == tcc)) = false := by
          simp only [List.cons.injEq, and_true, not_and] at he
          rw [Bool.and_eq_false_iff, Bool.and_eq_false_iff]
          simp only [beq_eq_false_iff_ne]
          by_cases e1 : a = ta
          · by_cases e2 : b = tb
            · exact .inr (.inr fun e3 => he e1.symm e2.symm e3.symm)
            · exact .inr (.inl e2)
          · exact .inl e1
        have hne2 : (a == ta && b == tb && c == tcc) = false := by rw [Bool.and_assoc]; exact hne
        have hno2 : Hid (∀ j, j < i + 1 → T.getD j [] ≠ [a, b, c]) := fun j hj => by
          rcases Nat.lt_or_ge j i with q | q
          · exact hno.out j q
          · obtain rfl : j = i := by omega
            rw [ht4]; exact he
        have hE := eqTask a b c ta tb tcc
        rw [hne2] at hE
        clear he
        go_wp2
        go_quiet (fail)
        have hb6 : Below w.heap.size w (wr.drewN nq) := below_drewN hb nq
        have hX6 : Hid (RowV 45 (wr.drewN nq) B [.int .i64 a, .int .i64 b, .int .i64 c]) := hX.out
        go_wp2
        go_roundw
        case rel => exact ⟨i + 1, by omega, by go_num, hno2, hX6, hb6⟩
        case measure => simp only [intOf]; omega
    · have hge : T.length ≤ i := by omega
      go_wp2
      go_ret
      refine ⟨_, rfl, ⟨fun q => absurd q (by decide), fun q => ?_⟩, hb⟩
      obtain ⟨j, hj, e⟩ := List.mem_iff_getElem.mp q
      exact absurd (by simp [List.getD, hj, e]) (hno.out j (by omega))
theorem slices_ContainsQ (w : World) (v : Value) (T : List (List Int)) (a b c : Int) (f : Bool) (h : IsR 3 w v T) (h9 : T.length ≤ 1000000) (hf : f = true ↔ [a, b, c] ∈ T) :
    Calls Tryd.prog 14 #[v, .agg #[.int .i64 a, .int .i64 b, .int .i64 c]] w fun e w' => e = .returned (.bool f) ∧ Below w.heap.size w w' := by
  have hb1 := below_alloc1 w (.cells #[.int .i64 a, .int .i64 b, .int .i64 c] 45)
  replace hf : Hid _ := hf
  have cI := slices_IndexQ (w.alloc (.cells #[.int .i64 a, .int .i64 b, .int .i64 c] 45)) v T a b c (h.below hb1) h9
  clear h
  go_enter Tryd.func14, Tryd.ntmps14
  go_wp2_with (go_at_call 34; refine Calls.mono cI ?_; rintro e w1 ⟨z, rfl, hz, hb2⟩; clear cI; replace hz : Hid _ := hz)
  go_ret
  refine ⟨?_, below_alloc hb2⟩
  have : f = decide (0 ≤ z) := by
    rw [Bool.eq_iff_iff, hf.out, ← hz.out, decide_eq_true_iff]
  rw [this]; rfl

set_option maxHeartbeats 2000000 in
theorem slices_IndexP (w : World) (v : Value) (T : List (List Int)) (a b c : Int) (h : IsR 3 w v T) (h9 : T.length ≤ 1000000) :
    Calls Tryd.prog 35 #[v, .agg #[.int .i64 a, .int .i64 b, .int .i64 c]] w fun e w' => ∃ z : Int, e = .returned (.int .i64 z) ∧ (0 ≤ z ↔ [a, b, c] ∈ T) ∧ Below w.heap.size w w' := by
  have hr3 : T3 T := by obtain ⟨_, _, _, _, _, _, q⟩ := h; exact q
  have hR : Hid _ := h
  obtain ⟨av, cv, rfl, -⟩ := h
  have hb1 := below_alloc1 w (.cells #[.int .i64 a, .int .i64 b, .int .i64 c] 45)
  have hX1 := new_row w 45 [.int .i64 a, .int .i64 b, .int .i64 c]
  change RowV 45 (w.alloc (.cells #[.int .i64 a, .int .i64 b, .int .i64 c] 45)) w.heap.size [.int .i64 a, .int .i64 b, .int .i64 c] at hX1
  go_enter Tryd.func35, Tryd.ntmps35
  go_wp2
  generalize w.alloc (.cells #[.int .i64 a, .int .i64 b, .int .i64 c] 45) = w1 at *
  obtain ⟨B, hB⟩ : ∃ B, B = w.heap.size := ⟨_, rfl⟩
  rw [← hB] at hX1 ⊢
  replace hB : Hid _ := hB
  go_loopw [8] (fun vi wr => ∃ (i : Nat), i ≤ T.length ∧ vi = .int .i64 (i : Int) ∧ Hid (∀ j, j < i → T.getD j [] ≠ [a, b, c]) ∧ Hid (RowV 45 wr B [.int .i64 a, .int .i64 b, .int .i64 c]) ∧ Below w.heap.size w wr)
    (fun vi _ => T.length - (intOf vi).toNat)
  case atStart => exact ⟨0, Nat.zero_le _, rfl, fun j hj => absurd hj (by omega), hX1, hb1⟩
  case round =>
    clear hX1 hb1
    obtain ⟨i, hi, rfl, hno, hX, hb⟩ := hrel
    by_cases hlt : i < T.length
    · obtain ⟨a3, c3, e3, -, -, hrows, -⟩ := IsR.below hR.out hb
      simp only [Value.slice.injEq] at e3
      obtain ⟨rfl, -, rfl⟩ := e3
      obtain ⟨b2, o2, rfl, hcell0⟩ := hrows i hlt
      obtain ⟨ta, tb, tcc, ht4⟩ := len_3 (hr3 _ (getD_mem hlt)).1
      rw [ht4] at hcell0
      have c0 : wr.cell? ⟨b2, o2 + i * 3, none⟩ = some (.int .i64 ta) := hcell0 0 (by omega)
      have c1 : wr.cell? ⟨b2, o2 + i * 3 + 1, none⟩ = some (.int .i64 tb) := by rw [Nat.add_assoc]; exact hcell0 1 (by omega)
      have c2 : wr.cell? ⟨b2, o2 + i * 3 + 2, none⟩ = some (.int .i64 tcc) := by rw [Nat.add_assoc]; exact hcell0 2 (by omega)
      have x0 : wr.cell? ⟨B, 0, none⟩ = some (.int .i64 a) := RowV.cell hX.out 0
      have x1 : wr.cell? ⟨B, 1, none⟩ = some (.int .i64 b) := RowV.cell hX.out 1
      have x2 : wr.cell? ⟨B, 2, none⟩ = some (.int .i64 c) := RowV.cell hX.out 2
      have hmem : Hid (T.getD i [] ∈ T) := getD_mem hlt
      rw [ht4] at hmem
      clear hcell0 hrows
      by_cases he : [ta, tb, tcc] = [a, b, c]
      · simp only [List.cons.injEq, and_true] at he
        obtain ⟨rfl, rfl, rfl⟩ := he
        go_wp2
        go_quiet (fail)
        go_wp2
        go_ret
        exact ⟨_, rfl, ⟨fun _ => hmem.out, fun _ => Int.natCast_nonneg _⟩, below_drewN hb nq⟩
      · have hne : (a == ta && (b == tb && c == tcc)) = false := by
          simp only [List.cons.injEq, and_true, not_and] at he
          rw [Bool.and_eq_false_iff, Bool.and_eq_false_iff]
          simp only [beq_eq_false_iff_ne]
          by_cases e1 : a = ta
          · by_cases e2 : b = tb
            · exact .inr (.inr fun e3 => he e1.symm e2.symm e3.symm)
            · exact .inr (.inl e2)
          · exact .inl e1
        have hne2 : (a == ta && b == tb && c == tcc) = false := by rw [Bool.and_assoc]; exact hne
        have hno2 : Hid (∀ j, j < i + 1 → T.getD j [] ≠ [a, b, c]) := fun j hj => by
          rcases Nat.lt_or_ge j i with q | q
          · exact hno.out j q
          · obtain rfl : j = i := by omega
            rw [ht4]; exact he
        have hE := eqTask a b c ta tb tcc
        rw [hne2] at hE
        clear he
        go_wp2
        go_quiet (fail)
        have hb6 : Below w.heap.size w (wr.drewN nq) := below_drewN hb nq
        have hX6 : Hid (RowV 45 (wr.drewN nq) B [.int .i64 a, .int .i64 b, .int .i64 c]) := hX.out
        go_wp2
        go_roundw
        case rel => exact ⟨i + 1, by omega, by go_num, hno2, hX6, hb6⟩
        case measure => simp only [intOf]; omega
    · have hge : T.length ≤ i := by omega
      go_wp2
      go_ret
      refine ⟨_, rfl, ⟨fun q => absurd q (by decide), fun q => ?_⟩, hb⟩
      obtain ⟨j, hj, e⟩ := List.mem_iff_getElem.mp q
      exact absurd (by simp [List.getD, hj, e]) (hno.out j (by omega))
theorem slices_ContainsP (w : World) (v : Value) (T : List (List Int)) (a b c : Int) (f : Bool) (h : IsR 3 w v T) (h9 : T.length ≤ 1000000) (hf : f = true ↔ [a, b, c] ∈ T) :
    Calls Tryd.prog 15 #[v, .agg #[.int .i64 a, .int .i64 b, .int .i64 c]] w fun e w' => e = .returned (.bool f) ∧ Below w.heap.size w w' := by
  have hb1 := below_alloc1 w (.cells #[.int .i64 a, .int .i64 b, .int .i64 c] 45)
  replace hf : Hid _ := hf
  have cI := slices_IndexP (w.alloc (.cells #[.int .i64 a, .int .i64 b, .int .i64 c] 45)) v T a b c (h.below hb1) h9
  clear h
  go_enter Tryd.func15, Tryd.ntmps15
  go_wp2_with (go_at_call 35; refine Calls.mono cI ?_; rintro e w1 ⟨z, rfl, hz, hb2⟩; clear cI; replace hz : Hid _ := hz)
  go_ret
  refine ⟨?_, below_alloc hb2⟩
  have : f = decide (0 ≤ z) := by
    rw [Bool.eq_iff_iff, hf.out, ← hz.out, decide_eq_true_iff]
  rw [this]; rfl

end Go.Proofs.YtmgfjcepebjnfafDoor
