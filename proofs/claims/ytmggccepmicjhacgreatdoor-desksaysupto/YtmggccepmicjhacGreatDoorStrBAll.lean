/-
  Texts that stood one behind the other, as one.
-/
import Derived.Test.YtmggccepmicjhacGreatDoorPlanDAll
import Derived.Test.YtmggccepmicjhacGreatDoorRows
import Derived.Test.YtmggccepmicjhacGreatDoorSlAll
import Derived.Lib.OthersKept
import Derived.Test.YtmggccepmicjhacGreatDoorRefEvalAll
import Derived.Test.YtmggccepmicjhacGreatDoorDkAAll
/-! What copyCheck, WriteByte, WriteString and String of strings.Builder do: a builder that the call itself made, and the bytes that it holds. -/
namespace Go.Proofs.YtmggccepmicjhacGreatDoor
open Go.RowKit
set_option maxRecDepth 100000

/-- A builder in block b (from B on) that holds these bytes. -/
def Bld (B b : Nat) (l : List UInt8) (w : World) : Prop := Lib.IsBuilder 31 5 B b (Lib.byteCells l) w
theorem bld_size : (Tryz.prog.info? 31).map (·.size) = some 2 := by kernel_rfl
theorem bld_lies : liesAt Tryz.prog Tryz.prog.depth 31 (2 / Tryz.prog.cellsOf 31) 0 31 1 = true := by kernel_rfl
theorem info_byte : (Tryz.prog.info? 5).map (fun i => (i.zero, i.size, i.bytes)) = some (some (.int .u8 0), 1, 1) := by kernel_rfl

set_option maxHeartbeats 1000000 in
set_option maxRecDepth 100000 in
theorem bld_used (b : Nat) (w : World) (h0 : w.cell? ⟨b, 0, none⟩ = some (.pointer (some ⟨b, 0, none⟩))) :
    Calls Tryz.prog 22 #[.pointer (some ⟨b, 0, none⟩)] w fun e w' => e = .returned (.tuple #[]) ∧ w' = w := by
  obtain ⟨j, hj, _⟩ := Option.map_eq_some_iff.1 bld_size
  go_enter Tryz.func22, Tryz.ntmps22
  go_wp2
  rw [Lib.run_neq_ptr_same w _ Tryz.underlying28 hj]
  go_wp2
  go_end0
  exact ⟨rfl, rfl⟩

set_option maxHeartbeats 1000000 in
set_option maxRecDepth 100000 in
theorem bld_fresh (b : Nat) (w : World) (h0 : w.cell? ⟨b, 0, none⟩ = some (.pointer none)) (hsh : w.shape? b = some (31, 2)) (hfz : w.frozen? ⟨b, 0, none⟩ = false) :
    Calls Tryz.prog 22 #[.pointer (some ⟨b, 0, none⟩)] w fun e w' => e = .returned (.tuple #[]) ∧ w' = w.setCell ⟨b, 0, none⟩ (.pointer (some ⟨b, 0, none⟩)) := by
  obtain ⟨j, hj, hjs⟩ := Option.map_eq_some_iff.1 bld_size
  go_enter Tryz.func22, Tryz.ntmps22
  go_wp2
  rw [Lib.run_to_unsafe w ⟨b, 0, none⟩ Tryz.underlying28 Tryz.underlying65 hj (by rw [hjs]; decide) hsh (Nat.zero_lt_succ 1)]
  simp only [Result.andThen]
  rw [Oper.upon_value]
  go_wp2
  rw [run_callFunc_extern Tryz.func40 (by kernel_rfl) (by kernel_rfl) (by kernel_rfl) (e := Extern.AbiNoEscape.same) (by kernel_rfl)]
  rw [Lib.run_noEscape]
  simp only [Result.andThen]
  rw [Oper.upon_value]
  go_wp2
  rw [Lib.run_from_unsafe w ⟨b, 0, none⟩ Tryz.underlying65 Tryz.underlying28 hj hsh bld_lies]
  simp only [Result.andThen]
  rw [Oper.upon_value]
  go_wp2
  go_end0
  exact ⟨rfl, rfl⟩
theorem own_kind {w : World} {B e : Nat} {v : Value} {n : Nat} {xs : List Value} (h : w.ownsRow B e 1 v n xs) : ∀ g, v.ownBlock = some g → ∃ c fz, w.heap[g]? = some (.cells c e fz) := by
  intro g hg
  rcases h.2 with ⟨rfl, _⟩ | ⟨g', cap, cur, rfl, _, hgg, _⟩
  · simp [Value.ownBlock] at hg
  · simp [Value.ownBlock] at hg
    subst hg
    exact ⟨cur, _, hgg⟩
theorem bld_check (B b : Nat) (bs : List Value) (w : World) (h : Lib.IsBuilder 31 5 B b bs w) :
    Calls Tryz.prog 22 #[.pointer (some ⟨b, 0, none⟩)] w fun e w' => e = .returned (.tuple #[]) ∧ Lib.BuilderAt 31 5 B b (.pointer (some ⟨b, 0, none⟩)) bs w' ∧ Below B w w' ∧ Lib.OthersKept 5 (some b) w w' := by
  rcases h with h | h
  · refine (bld_fresh b w h.cell0 h.shape h.frozen0).mono ?_
    rintro e w' ⟨rfl, rfl⟩
    exact ⟨rfl, h.used _, (Below.refl B w).setCell (p := ⟨b, 0, none⟩) h.1 _, (Lib.OthersKept.refl _ _ w).setCell ⟨b, 0, none⟩ rfl _⟩
  · refine (bld_used b w h.cell0).mono ?_
    rintro e w' ⟨rfl, rfl⟩
    exact ⟨rfl, h, Below.refl B _, Lib.OthersKept.refl _ _ _⟩

set_option maxHeartbeats 2000000 in
set_option maxRecDepth 100000 in
theorem bld_byte (B b : Nat) (l : List UInt8) (c : UInt8) (w : World) (h : Bld B b l w) (hlen : l.length + 1 ≤ 140737488355328) (hBw : B ≤ w.heap.size) :
    Calls Tryz.prog 12 #[.pointer (some ⟨b, 0, none⟩), .int .u8 (c.toNat : Int)] w fun e w' => e = .returned .nilIface ∧ Bld B b (l ++ [c]) w' ∧ Below B w w' ∧ Lib.OthersKept 5 (some b) w w' := by
  obtain ⟨i0, hi, hz0, hz1, hz2⟩ := info_parts info_byte
  have cC := bld_check B b _ w h
  rw [← Lib.byteCells_length l] at hlen
  have happ : Lib.byteCells (l ++ [c]) = Lib.byteCells l ++ [.int .u8 (c.toNat : Int)] := Lib.byteCells_append l [c]
  unfold Bld
  rw [happ]
  generalize Lib.byteCells l = bs at *
  generalize (c.toNat : Int) = z at *
  clear h happ
  go_enter Tryz.func12, Tryz.ntmps12
  go_wp2_with (go_at_call 22; refine Calls.mono cC ?_)
  rintro e w1 ⟨rfl, ⟨hB, v, hbk, hown, hne⟩, hb1, hk1⟩
  have c0 : w1.cell? ⟨b, 0, none⟩ = some (.pointer (some ⟨b, 0, none⟩)) := by rw [Lib.cell_of_heap hbk]; rfl
  have c1 : w1.cell? ⟨b, 1, none⟩ = some v := by rw [Lib.cell_of_heap hbk]; rfl
  go_wp2_with (at_builtin; refine wpList_append_own _ rfl _ _ 29 rfl B 5 i0 (.int .u8 0) 1 1 Tryz.underlying29 hi hz0 hz1 hz2 rfl (by decide) _ _ _ rfl (hown.alloc _) ⟨w1.heap.size, 0, none⟩ 1 1 [.int .u8 z] rfl rfl ?c1 ?c2 ?c3 ?c4 ?c5 ?_)
  case c1 =>
    intro j u hj
    match j, hj with
    | 0, hj => simp at hj; subst hj; simp [Addr.add]
  case c2 => intro u hu; simp at hu; subst hu; rfl
  case c3 => unfold maxLen; omega
  case c4 => omega
  case c5 => have := hb1.size; simp; omega
  intro v' w2 hown' hgrow _
  have hlt : b < w1.heap.size := by
    rcases Nat.lt_or_ge b w1.heap.size with h' | h'
    · exact h'
    · simp [Array.getElem?_eq_none h'] at hbk
  have hb2 : w2.heap[b]? = some (.cells #[.pointer (some ⟨b, 0, none⟩), v] 31 (0, 0)) := by
    rw [hgrow.block b (by simp; omega) (fun e => hne e.symm), Lib.alloc_old w1 _ b hlt]
    exact hbk
  have d0 : w2.cell? ⟨b, 0, none⟩ = some (.pointer (some ⟨b, 0, none⟩)) := by rw [Lib.cell_of_heap hb2]; rfl
  have d1 : w2.cell? ⟨b, 1, none⟩ = some v := by rw [Lib.cell_of_heap hb2]; rfl
  have f1 : w2.frozen? ⟨b, 1, none⟩ = false := Lib.frozen_of_heap hb2 1
  obtain ⟨g, cap, rfl⟩ : ∃ g cap, v' = .slice (some ⟨g, 0, none⟩) (bs.length + 1) cap := by
    rcases hown'.2 with ⟨_, h0⟩ | ⟨g, cap, cur, hv, _⟩
    · omega
    · exact ⟨g, cap, hv⟩
  go_wp2
  go_ret
  refine ⟨rfl, .inr ?_, ?_, ((hk1.alloc _).grown hgrow (own_kind (hown.alloc _))).setCell ⟨b, 1, none⟩ rfl _⟩
  · exact Lib.BuilderAt.put (T := 31) (e := 5) hB hb2 (bs' := bs ++ [.int .u8 z]) (by simpa using hown') (by decide)
  · exact ((hb1.alloc (by have := hb1.size; omega) _).grown hgrow (by have := hb1.size; simp; omega) (fun k hk => (hown.lt k hk).1)).setCell (p := ⟨b, 1, none⟩) hB _

set_option maxHeartbeats 2000000 in
set_option maxRecDepth 100000 in
theorem bld_str (B b : Nat) (l m : List UInt8) (w : World) (h : Bld B b l w) (hlen : l.length + m.length ≤ 140737488355328) (hBw : B ≤ w.heap.size) :
    Calls Tryz.prog 10 #[.pointer (some ⟨b, 0, none⟩), .string ⟨m.toArray⟩] w fun e w' => e = .returned (.tuple #[.int .i64 (m.length : Int), .nilIface]) ∧ Bld B b (l ++ m) w' ∧ Below B w w' := by
  obtain ⟨i0, hi, hz0, hz1, hz2⟩ := info_parts info_byte
  have cC := bld_check B b _ w h
  rw [← Lib.byteCells_length l] at hlen
  have happ : Lib.byteCells (l ++ m) = Lib.byteCells l ++ Lib.strCells ⟨m.toArray⟩ := Lib.byteCells_append l m
  have hsz : (⟨m.toArray⟩ : ByteArray).size = m.length := by simp [ByteArray.size]
  unfold Bld
  rw [happ, ← hsz]
  rw [← hsz] at hlen
  generalize (⟨m.toArray⟩ : ByteArray) = s at *
  generalize Lib.byteCells l = bs at *
  clear h happ hsz
  go_enter Tryz.func10, Tryz.ntmps10
  go_wp2_with (go_at_call 22; refine Calls.mono cC ?_)
  rintro e w1 ⟨rfl, ⟨hB, v, hbk, hown, hne⟩, hb1, -⟩
  have c0 : w1.cell? ⟨b, 0, none⟩ = some (.pointer (some ⟨b, 0, none⟩)) := by rw [Lib.cell_of_heap hbk]; rfl
  have c1 : w1.cell? ⟨b, 1, none⟩ = some v := by rw [Lib.cell_of_heap hbk]; rfl
  go_wp2_with (at_builtin; refine Lib.wpList_append_own_string _ rfl _ _ 29 9 rfl B 5 i0 Tryz.underlying29 Tryz.underlying9 hi hz0 hz1 hz2 _ _ _ rfl hown s rfl ?c3 ?c4 ?c5 ?_)
  case c3 => unfold maxLen; omega
  case c4 => omega
  case c5 => have := hb1.size; omega
  intro v' w2 hown' hgrow _
  have hlt : b < w1.heap.size := by
    rcases Nat.lt_or_ge b w1.heap.size with h' | h'
    · exact h'
    · simp [Array.getElem?_eq_none h'] at hbk
  have hb2 : w2.heap[b]? = some (.cells #[.pointer (some ⟨b, 0, none⟩), v] 31 (0, 0)) := by
    rw [hgrow.block b hlt (fun e => hne e.symm)]
    exact hbk
  have d0 : w2.cell? ⟨b, 0, none⟩ = some (.pointer (some ⟨b, 0, none⟩)) := by rw [Lib.cell_of_heap hb2]; rfl
  have d1 : w2.cell? ⟨b, 1, none⟩ = some v := by rw [Lib.cell_of_heap hb2]; rfl
  have f1 : w2.frozen? ⟨b, 1, none⟩ = false := Lib.frozen_of_heap hb2 1
  obtain ⟨ao, n', cap, rfl⟩ : ∃ ao n' cap, v' = .slice ao n' cap := by
    rcases hown'.2 with ⟨hv, _⟩ | ⟨g, cap, cur, hv, _⟩
    · exact ⟨_, _, _, hv⟩
    · exact ⟨_, _, _, hv⟩
  go_wp2
  go_ret2
  refine ⟨rfl, .inr ?_, ?_⟩
  · exact Lib.BuilderAt.put (T := 31) (e := 5) hB hb2 (bs' := bs ++ Lib.strCells s) (by simpa [Lib.strCells_length] using hown') (by decide)
  · exact (hb1.grown hgrow (by have := hb1.size; omega) (fun k hk => (hown.lt k hk).1)).setCell (p := ⟨b, 1, none⟩) hB _
theorem bld_text (B b : Nat) (l : List UInt8) (w : World) (h : Bld B b l w) (hBw : B ≤ w.heap.size) :
    Calls Tryz.prog 13 #[.pointer (some ⟨b, 0, none⟩)] w fun e w' => e = .returned (.string ⟨l.toArray⟩) ∧ Below B w w' := Tryz.Builder_String_any B b l w h hBw
/-- A new one holds nothing. -/
theorem bld_new (w : World) : Bld w.heap.size w.heap.size [] (w.alloc (.cells #[.pointer none, .slice none 0 0] 31)) := by
  refine .inl ⟨Nat.le_refl _, .slice none 0 0, ?_, World.ownsRow_nil _ _ _ _, fun e => by cases e⟩
  show (w.heap.push _)[w.heap.size]? = _
  simp
/-- What goes on beside it leaves it. -/
theorem Bld.below {B b : Nat} {l : List UInt8} {w w' : World} (h : Bld B b l w) (hb : Below w.heap.size w w') : Bld B b l w' := by
  rcases h with h | h
  · have hlt := h.lt
    obtain ⟨hB, v, hbk, hown, hne⟩ := h
    exact .inl ⟨hB, v, (hb.block b hlt).trans hbk, owns_below hown hb, hne⟩
  · have hlt := h.lt
    obtain ⟨hB, v, hbk, hown, hne⟩ := h
    exact .inr ⟨hB, v, (hb.block b hlt).trans hbk, owns_below hown hb, hne⟩
theorem Bld.lt {B b : Nat} {l : List UInt8} {w : World} (h : Bld B b l w) : b < w.heap.size := by
  rcases h with h | h <;> exact h.lt

end Go.Proofs.YtmggccepmicjhacGreatDoor

/-! What printTask and Print of package plan answer: the text of a task, of phases. -/
namespace Go.Proofs.YtmggccepmicjhacGreatDoor
open Go.RowKit Go.Sort

set_option maxRecDepth 100000 in
set_option maxHeartbeats 4000000 in
theorem plan_printTask (w : World) (t0 t1 t2 : Int) (hb0 : -9223372036854775808 ≤ t0 ∧ t0 ≤ 9223372036854775807) (hb1 : -9223372036854775808 ≤ t1 ∧ t1 ≤ 9223372036854775807) (hb2 : -9223372036854775808 ≤ t2 ∧ t2 ≤ 9223372036854775807) (ht : Tab w) (hZl : (tkx [t0, t1, t2]).length ≤ 1099511627776) :
    Calls Tryz.prog 122 #[.agg #[.int .i64 t0, .int .i64 t1, .int .i64 t2]] w fun e w' => e = .returned (.string (bs (tkx [t0, t1, t2]))) ∧ Below w.heap.size w w' := by
  have hlen : Hid (Lib.itoa t0 ++ [58] ++ Lib.itoa t1 ++ [45] ++ Lib.itoa t2 = tkx [t0, t1, t2]) := rfl
  have hW1 := below_alloc1 w (.cells #[.int .i64 t0, .int .i64 t1, .int .i64 t2] 120)
  have hA0 : (w.alloc (.cells #[.int .i64 t0, .int .i64 t1, .int .i64 t2] 120)).cell? ⟨w.heap.size, 0, none⟩ = some (.int .i64 t0) := by rw [World.cell?_alloc_at _ _ _ _ rfl]; rfl
  have hA1 : (w.alloc (.cells #[.int .i64 t0, .int .i64 t1, .int .i64 t2] 120)).cell? ⟨w.heap.size, 1, none⟩ = some (.int .i64 t1) := by rw [World.cell?_alloc_at _ _ _ _ rfl]; rfl
  have hA2 : (w.alloc (.cells #[.int .i64 t0, .int .i64 t1, .int .i64 t2] 120)).cell? ⟨w.heap.size, 2, none⟩ = some (.int .i64 t2) := by rw [World.cell?_alloc_at _ _ _ _ rfl]; rfl
  obtain ⟨I0, hI0⟩ : ∃ I, I = Lib.itoa t0 := ⟨_, rfl⟩
  obtain ⟨I1, hI1⟩ : ∃ I, I = Lib.itoa t1 := ⟨_, rfl⟩
  obtain ⟨I2, hI2⟩ : ∃ I, I = Lib.itoa t2 := ⟨_, rfl⟩
  have c0 := fun W (hT : Tab W) => itoa_gr W t0 hb0.1 hb0.2 hT
  have c1 := fun W (hT : Tab W) => itoa_gr W t1 hb1.1 hb1.2 hT
  have c2 := fun W (hT : Tab W) => itoa_gr W t2 hb2.1 hb2.2 hT
  rw [← hI0] at hlen c0
  rw [← hI1] at hlen c1
  rw [← hI2] at hlen c2
  obtain ⟨Z, hZ⟩ : ∃ Z, Z = tkx [t0, t1, t2] := ⟨_, rfl⟩
  rw [← hZ] at hlen hZl ⊢
  clear hZ hI0 hI1 hI2
  have k1 : bs I0 ++ ({ data := #[58] } : ByteArray) = bs (I0 ++ [58]) := bs_append _ [58]
  have k2 : bs (I0 ++ [58]) ++ bs I1 = bs (I0 ++ [58] ++ I1) := bs_append _ _
  have k3 : bs (I0 ++ [58] ++ I1) ++ ({ data := #[45] } : ByteArray) = bs (I0 ++ [58] ++ I1 ++ [45]) := bs_append _ [45]
  have k4 : bs (I0 ++ [58] ++ I1 ++ [45]) ++ bs I2 = bs Z := by rw [bs_append, hlen.out]
  have hZ2 := congrArg List.length hlen.out
  simp only [List.length_append, List.length_cons, List.length_nil] at hZ2
  have z0 : (bs I0).size ≤ 1099511627776 := by rw [bs_size]; omega
  have z1 : (bs I1).size ≤ 1099511627776 := by rw [bs_size]; omega
  have z2 : (bs I2).size ≤ 1099511627776 := by rw [bs_size]; omega
  have z3 : (bs (I0 ++ [58])).size ≤ 1099511627776 := by rw [bs_size, List.length_append]; simp only [List.length_cons, List.length_nil]; omega
  have z4 : (bs (I0 ++ [58] ++ I1)).size ≤ 1099511627776 := by rw [bs_size, List.length_append, List.length_append]; simp only [List.length_cons, List.length_nil]; omega
  have z5 : (bs (I0 ++ [58] ++ I1 ++ [45])).size ≤ 1099511627776 := by rw [bs_size, List.length_append, List.length_append, List.length_append]; simp only [List.length_cons, List.length_nil]; omega
  clear hZ2 hZl hlen
  generalize I0 ++ [58] ++ I1 ++ [45] = J3 at *
  generalize I0 ++ [58] ++ I1 = J2 at *
  generalize I0 ++ [58] = J1 at *
  have n1 : (9223372036854775807 < (bs I0).size + 1) = False := eq_false (by omega)
  have n2 : (9223372036854775807 < (bs J1).size + (bs I1).size) = False := eq_false (by omega)
  have n3 : (9223372036854775807 < (bs J2).size + 1) = False := eq_false (by omega)
  have n4 : (9223372036854775807 < (bs J3).size + (bs I2).size) = False := eq_false (by omega)
  go_enter Tryz.func122, Tryz.ntmps122
  go_wp2
  generalize w.alloc (.cells #[.int .i64 t0, .int .i64 t1, .int .i64 t2] 120) = W1 at *
  have hT1 : Tab W1 := ht.below hW1
  obtain ⟨gt, hgt⟩ : ∃ gt, gt = w.heap.size := ⟨_, rfl⟩
  rw [← hgt] at hA0 hA1 hA2 ⊢
  clear hgt
  have y0 := cell_grown (block_lt hA0) hA0
  have y1 := cell_grown (block_lt hA1) hA1
  have y2 := cell_grown (block_lt hA2) hA2
  have c0' := fun n os => c0 (grow (W1.drewN n) os) (hT1.grown n os)
  have c1' := fun n os => c1 (grow (W1.drewN n) os) (hT1.grown n os)
  have c2' := fun n os => c2 (grow (W1.drewN n) os) (hT1.grown n os)
  have mixed : Tryz.prog.follows .mixedOrders = true := by kernel_rfl
  clear c0 c1 c2 hA0 hA1 hA2
  go_quiet_grown (first | (go_at_call 17; refine Calls.grown_of (c0' _ _)) | (go_at_call 17; refine Calls.grown_of (c1' _ _)) | (go_at_call 17; refine Calls.grown_of (c2' _ _)))
  have hend := hW1.trans ((below_grow W1 nq osq).mono hW1.size)
  replace hend : Below w.heap.size w (grow (W1.drewN (GrownBy.mk nq osq).n) (GrownBy.mk nq osq).os) := hend
  generalize grow (W1.drewN (GrownBy.mk nq osq).n) (GrownBy.mk nq osq).os = w6 at *
  clear y0 y1 y2 c0' c1' c2' mixed hT1 k1 k2 k3 k4 n1 n2 n3 n4
  go_wp2
  go_ret
  exact ⟨rfl, hend⟩

set_option maxRecDepth 100000 in
set_option maxHeartbeats 8000000 in
theorem plan_Print (w : World) (vl : Value) (L : List (List (List Int))) (hP : IsP 3 w vl L) (ht : Tab w) (hsz : ∀ i k, i < L.length → k ≤ (L.getD i []).length → (ptx L i ++ lnx (L.getD i []) k).length ≤ 1099511627776) :
    Calls Tryz.prog 98 #[vl] w fun e w' => e = .returned (.string (bs (ptx L L.length))) ∧ Below w.heap.size w w' := by
  obtain ⟨al, cl, rfl, hl0, hl1, hph⟩ := hP
  have hsz' : Hid (∀ i k, i < L.length → k ≤ (L.getD i []).length → (ptx L i ++ lnx (L.getD i []) k).length ≤ 1099511627776) := hsz
  have hLl : L.length ≤ 9223372036854775807 := by unfold maxLen at hl1; omega
  have hph' : Hid (∀ i, i < L.length → ∃ b off u, al = some ⟨b, off, none⟩ ∧ w.cell? ⟨b, off + i, none⟩ = some u ∧ IsR 3 w u (L.getD i [])) := hph
  have hbN := bld_new w
  have hW0 := below_alloc1 w (.cells #[.pointer none, .slice none 0 0] 31)
  clear hl0 hl1 hph hsz
  go_enter Tryz.func98, Tryz.ntmps98
  go_wp2
  generalize w.alloc (.cells #[.pointer none, .slice none 0 0] 31) = w0 at *
  obtain ⟨b, hb⟩ : ∃ b, b = w.heap.size := ⟨_, rfl⟩
  have hBb : Hid (w.heap.size ≤ b) := Nat.le_of_eq hb.symm
  replace hbN : Bld w.heap.size b [] w0 := by rw [hb]; exact hbN
  rw [← hb]
  clear hb
  go_loopw [10] (fun vi wr => ∃ (i : Nat), i ≤ L.length ∧ vi = .int .i64 (i : Int) ∧ Bld w.heap.size b (ptx L i) wr ∧ Below w.heap.size w wr)
    (fun vi _ => L.length - (intOf vi).toNat)
  case atStart => exact ⟨0, Nat.zero_le _, rfl, hbN, hW0⟩
  case round =>
    clear hbN hW0
    obtain ⟨i, hi, rfl, hbd, hnx⟩ := hrel
    by_cases hlt : i < L.length
    · obtain ⟨bl, ol, ul, rfl, hcu, hR⟩ := hph'.out i hlt
      have hR0 := hR
      obtain ⟨au, cu, rfl, hTl0, hmu, hrow, -⟩ := hR0
      have hTl : (L.getD i []).length ≤ 9223372036854775807 := by unfold maxLen at hmu; omega
      have hszi : Hid (∀ k, k ≤ (L.getD i []).length → (ptx L i ++ lnx (L.getD i []) k).length ≤ 1099511627776) := fun k hk => hsz'.out i k hlt hk
      have hnext : Hid (ptx L (i + 1) = ptx L i ++ lnx (L.getD i []) (L.getD i []).length ++ [10]) := rfl
      have hcu1 := (hnx.cell (block_lt hcu)).trans hcu
      clear hTl0 hmu
      obtain ⟨T, hTe⟩ : ∃ T, T = L.getD i [] := ⟨_, rfl⟩
      rw [← hTe] at hcu1 hR hrow hTl hszi hnext
      clear hTe hcu
      obtain ⟨S, hS⟩ : ∃ S, S = ptx L i := ⟨_, rfl⟩
      rw [← hS] at hszi hnext hbd
      clear hS
      go_wp2
      obtain ⟨wk, hwk⟩ : ∃ wk : World, wk = wr := ⟨_, rfl⟩
      rw [← hwk] at hnx hbd ⊢
      clear hwk hcu1
      go_loopw [16] (fun vk wi => ∃ (k : Nat), k ≤ T.length ∧ vk = .int .i64 (k : Int) ∧ Bld w.heap.size b (S ++ lnx T k) wi ∧ Below w.heap.size w wi)
        (fun vk _ => T.length - (intOf vk).toNat)
      case atStart => exact ⟨0, Nat.zero_le _, rfl, by rw [lnx, List.append_nil]; exact hbd, hnx⟩
      case round =>
        clear hnx hbd
        obtain ⟨k, hk, rfl, hbd, hnx⟩ := hrel
        by_cases hlt2 : k < T.length
        · obtain ⟨t0, t1, t2, hTi, hb0, hb1, hb2⟩ := row3 hR k hlt2
          obtain ⟨br, or, rfl, hce⟩ := hrow k hlt2
          rw [hTi] at hce
          have q0 := (hnx.cell (block_lt (hce 0 (by decide)))).trans (hce 0 (by decide))
          have q1 := (hnx.cell (block_lt (hce 1 (by decide)))).trans (hce 1 (by decide))
          have q2 := (hnx.cell (block_lt (hce 2 (by decide)))).trans (hce 2 (by decide))
          replace q0 : wr.cell? ⟨br, or + k * 3, none⟩ = some (.int .i64 t0) := q0
          replace q1 : wr.cell? ⟨br, or + k * 3 + 1, none⟩ = some (.int .i64 t1) := q1
          replace q2 : wr.cell? ⟨br, or + k * 3 + 2, none⟩ = some (.int .i64 t2) := q2
          clear hce
          obtain ⟨A, hA⟩ : ∃ A, A = (if 0 < k then lnx T k ++ [32] else lnx T k) := ⟨_, rfl⟩
          have hsum : Hid (S ++ lnx T (k + 1) = S ++ A ++ tkx [t0, t1, t2]) := by
            show _ = _
            rw [hA, lnx, hTi, ← List.append_assoc]
          have hs1 := hszi.out (k + 1) hlt2
          rw [hsum.out] at hs1
          have hs2 : (S ++ A).length + (tkx [t0, t1, t2]).length ≤ 1099511627776 := by rw [List.length_append] at hs1; exact hs1
          have hs9 : (S ++ lnx T k).length ≤ 1099511627776 := hszi.out k (by omega)
          have cT := fun W (hT : Tab W) => plan_printTask W t0 t1 t2 hb0 hb1 hb2 hT (by omega)
          have cB : ∀ W, Bld w.heap.size b (S ++ lnx T k) W → w.heap.size ≤ W.heap.size → Calls Tryz.prog 12 #[.pointer (some ⟨b, 0, none⟩), .int .u8 32] W fun e w' => e = .returned .nilIface ∧ Bld w.heap.size b (S ++ lnx T k ++ [32]) w' ∧ Below w.heap.size W w' ∧ Lib.OthersKept 5 (some b) W w' := fun W h hB => bld_byte w.heap.size b (S ++ lnx T k) 32 W h (by omega) hB
          have cS : ∀ W, Bld w.heap.size b (S ++ A) W → w.heap.size ≤ W.heap.size → Calls Tryz.prog 10 #[.pointer (some ⟨b, 0, none⟩), .string (bs (tkx [t0, t1, t2]))] W fun e w' => e = .returned (.tuple #[.int .i64 ((tkx [t0, t1, t2]).length : Int), .nilIface]) ∧ Bld w.heap.size b (S ++ A ++ tkx [t0, t1, t2]) w' ∧ Below w.heap.size W w' := fun W h hB => bld_str w.heap.size b (S ++ A) (tkx [t0, t1, t2]) W h (by omega) hB
          have hW1 := below_alloc1 wr (.cells #[.int .i64 t0, .int .i64 t1, .int .i64 t2] 120)
          have hbox : (wr.alloc (.cells #[.int .i64 t0, .int .i64 t1, .int .i64 t2] 120)).heap[wr.heap.size]? = some (.cells #[.int .i64 t0, .int .i64 t1, .int .i64 t2] 120) := by
            show (wr.heap.push _)[wr.heap.size]? = _
            simp
          have hbl := hbd.lt
          clear hs1 hs2 hs9 hTi hR
          by_cases hk0 : 0 < k
          · have hd0 : decide ((0 : Int) < (k : Int)) = true := decide_eq_true (by omega)
            rw [if_pos hk0] at hA
            rw [hA, ← List.append_assoc] at cS hsum
            clear hA
            generalize tkx [t0, t1, t2] = Z at *
            have hnx1 := hnx.trans (hW1.mono hnx.size)
            have hbd1 := hbd.below hW1
            clear hnx hbd hW1
            go_wp2_with (first
              | (go_at_call 12; refine Calls.mono (cB _ hbd1 hnx1.size) ?_; rintro e w2 ⟨rfl, hbd2, hb2, hk2⟩; have hbox2 := hk2 _ _ hbox (by simp; omega) (fun c fz e => by simp at e); have c0 : w2.cell? ⟨wr.heap.size, 0, none⟩ = some (.int .i64 t0) := (by rw [Lib.cell_of_heap hbox2]; rfl); have c1 : w2.cell? ⟨wr.heap.size, 1, none⟩ = some (.int .i64 t1) := (by rw [Lib.cell_of_heap hbox2]; rfl); have c2 : w2.cell? ⟨wr.heap.size, 2, none⟩ = some (.int .i64 t2) := (by rw [Lib.cell_of_heap hbox2]; rfl); have hnx2 := hnx1.trans hb2; have cT2 := cT w2 (ht.below hnx2); clear hk2 hbox hbox2 cB hb2 hbd1 hnx1 cT)
              | (go_at_call 122; refine Calls.mono cT2 ?_; rintro e w3 ⟨rfl, hb3⟩; have hbd3 := hbd2.below hb3; have hnx3 := hnx2.trans (hb3.mono hnx2.size); have cS3 := cS w3 hbd3 hnx3.size; clear cT2 cS hbd2 hnx2 hb3 c0 c1 c2)
              | (go_at_call 10; refine Calls.mono cS3 ?_; rintro e w4 ⟨rfl, hbd4, hb4⟩; clear cS3 hbd3))
            rw [← hsum.out] at hbd4
            have hnx4 := hnx3.trans hb4
            go_roundw
            case rel => exact ⟨k + 1, by omega, by go_num, hbd4, hnx4⟩
            case measure => simp only [intOf]; omega
          · have hd0 : decide ((0 : Int) < (k : Int)) = false := decide_eq_false (by omega)
            rw [if_neg hk0] at hA
            subst hA
            generalize tkx [t0, t1, t2] = Z at *
            have hnx1 := hnx.trans (hW1.mono hnx.size)
            have hbd1 := hbd.below hW1
            have c0 : (wr.alloc (.cells #[.int .i64 t0, .int .i64 t1, .int .i64 t2] 120)).cell? ⟨wr.heap.size, 0, none⟩ = some (.int .i64 t0) := by rw [Lib.cell_of_heap hbox]; rfl
            have c1 : (wr.alloc (.cells #[.int .i64 t0, .int .i64 t1, .int .i64 t2] 120)).cell? ⟨wr.heap.size, 1, none⟩ = some (.int .i64 t1) := by rw [Lib.cell_of_heap hbox]; rfl
            have c2 : (wr.alloc (.cells #[.int .i64 t0, .int .i64 t1, .int .i64 t2] 120)).cell? ⟨wr.heap.size, 2, none⟩ = some (.int .i64 t2) := by rw [Lib.cell_of_heap hbox]; rfl
            have cT2 := cT _ (ht.below hnx1)
            clear hnx hbd hW1 hbox cB cT
            go_wp2_with (first
              | (go_at_call 122; refine Calls.mono cT2 ?_; rintro e w3 ⟨rfl, hb3⟩; have hbd3 := hbd1.below hb3; have hnx3 := hnx1.trans (hb3.mono hnx1.size); have cS3 := cS w3 hbd3 hnx3.size; clear cT2 cS hbd1 hnx1 hb3 c0 c1 c2)
              | (go_at_call 10; refine Calls.mono cS3 ?_; rintro e w4 ⟨rfl, hbd4, hb4⟩; clear cS3 hbd3))
            rw [← hsum.out] at hbd4
            have hnx4 := hnx3.trans hb4
            go_roundw
            case rel => exact ⟨k + 1, by omega, by go_num, hbd4, hnx4⟩
            case measure => simp only [intOf]; omega
        · have e : T.length = k := by omega
          have hge : T.length ≤ k := by omega
          have hs9 : (S ++ lnx T k).length ≤ 1099511627776 := hszi.out k (by omega)
          have cB : Calls Tryz.prog 12 #[.pointer (some ⟨b, 0, none⟩), .int .u8 10] wr fun e w' => e = .returned .nilIface ∧ Bld w.heap.size b (S ++ lnx T k ++ [10]) w' ∧ Below w.heap.size wr w' ∧ Lib.OthersKept 5 (some b) wr w' := bld_byte w.heap.size b (S ++ lnx T k) 10 wr hbd (by omega) hnx.size
          rw [← e, ← hnext.out] at cB
          clear hs9 e hbd
          go_wp2_with (go_at_call 12; refine Calls.mono cB ?_; rintro e w2 ⟨rfl, hbd2, hb2, -⟩; clear cB)
          have hnx2 := hnx.trans hb2
          go_roundw
          case rel => exact ⟨i + 1, by omega, by go_num, hbd2, hnx2⟩
          case measure => simp only [intOf]; omega
    · have e : L.length = i := by omega
      have hge : L.length ≤ i := by omega
      rw [← e] at hbd
      have cX := bld_text w.heap.size b (ptx L L.length) wr hbd hnx.size
      clear e hph' hsz' hbd
      go_wp2_with (go_at_call 13; refine Calls.mono cX ?_; rintro e w2 ⟨rfl, hb2⟩)
      go_ret
      exact ⟨rfl, hnx.trans hb2⟩

end Go.Proofs.YtmggccepmicjhacGreatDoor
