/-
  Texts that stood one behind the other, as one.
-/
import Derived.Test.YtmggccepmicjhagGreatDoorFldsAll
import Derived.Test.YtmggccepmicjhagGreatDoorDkS
import Derived.Test.YtmggccepmicjhagGreatDoorItoaAll
import Derived.Test.YtmggccepmicjhagGreatDoorRefGreatAll
import Derived.Test.YtmggccepmicjhagGreatDoorRefGreatAll
import Derived.Test.YtmggccepmicjhagGreatDoorRefPcsAll
import Derived.Test.YtmggccepmicjhagGreatDoorRefGreatAll
import Derived.Laws.CopyOwn
import Derived.Test.YtmggccepmicjhagGreatDoorPure
import Derived.Test.YtmggccepmicjhagGreatDoorSlAll
/-! What printError, printNumber, count, wordsOf and isSilent of package desk answer. -/
namespace Go.Proofs.YtmggccepmicjhagGreatDoor
open Go.RowKit

theorem desk_printError (n : Int) (h0 : 0 ≤ n) (h1 : n ≤ 100) (w : World) (ht : Tab w) :
    Calls Tryz.prog 10 #[.int .i64 n] w fun e w' => e = .returned (.string (bs (wrg n))) ∧ Below w.heap.size w w' := by
  have c := itoa_bs w n (by omega) (by omega) ht
  have hl := Lib.itoa_length_le n (by omega) (by omega)
  have hs : ({ data := #[101, 114, 114, 111, 114, 32] } : ByteArray) ++ bs (Lib.itoa n) = bs (wrg n) := bs_append [101, 114, 114, 111, 114, 32] _
  have hz : (bs (Lib.itoa n)).size ≤ 1000 := by rw [bs_size]; omega
  clear hl
  generalize bs (wrg n) = R at *
  generalize bs (Lib.itoa n) = S at *
  go_enter Tryz.func10, Tryz.ntmps10
  go_wp2_with (go_at_call 23; refine Calls.mono c ?_; rintro e w1 ⟨rfl, hb⟩; clear c)
  go_ret
  exact ⟨by simp, hb⟩
theorem desk_printNumber (u : Nat) (hu : u < 18446744073709551616) (w : World) (ht : Tab w) :
    Calls Tryz.prog 59 #[.int .u64 u] w fun e w' => e = .returned (.string (bs (Lib.decDigits u))) ∧ Below w.heap.size w w' := by
  have c := fmtu_bs u hu w ht
  generalize bs (Lib.decDigits u) = R at *
  clear hu
  go_enter Tryz.func59, Tryz.ntmps59
  go_wp2_with (go_at_call 86; refine Calls.mono c ?_; rintro e w1 ⟨rfl, hb⟩; clear c)
  go_ret
  exact ⟨rfl, hb⟩
theorem desk_count (n : Nat) (hn : (n : Int) < 18446744073709551616) (w : World) :
    Calls Tryz.prog 63 #[.int .u64 (n : Int)] w fun e w' => e = .returned (.int .i64 ((smN n : Nat) : Int)) ∧ w' = w := by
  have h1 : Hid (min (n : Int) 1000000000 = ((smN n : Nat) : Int)) := by
    show _ = _
    unfold smN
    split <;> omega
  have h2 := smN_le n
  generalize smN n = m at *
  go_enter Tryz.func63, Tryz.ntmps63
  go_wp2
  go_ret
  refine ⟨?_, rfl⟩
  show Ending.returned (.int .i64 (min (n : Int) 1000000000)) = _
  rw [h1.out]
theorem desk_blank (w : World) : PredAtRunes Tryz.prog 26 #[] (fun r => decide (r = 32)) w := fun W r _ _ => by
  unfold FnGives
  have hd : decide (r = 32) = ((r : Int) == 32) := by
    by_cases h : r = 32
    · subst h; rfl
    · rw [decide_eq_false h]
      symm
      rw [beq_eq_false_iff_ne]
      omega
  show Calls Tryz.prog 26 #[.int .i32 (r : Int)] W fun e w' => e = .returned (.bool (decide (r = 32))) ∧ ∃ q, w' = W.drewN q
  rw [hd]
  go_enter Tryz.func26, Tryz.ntmps26
  go_wp2
  go_ret
  exact ⟨rfl, 0, rfl⟩
theorem desk_wordsOf (w : World) (s : List UInt8) (h9 : s.length ≤ 4294967296) :
    Calls Tryz.prog 12 #[.string (bs s)] w fun e w' => ∃ u, e = .returned u ∧ OwB w.heap.size w' u (wds s) ∧ Below w.heap.size w w' := by
  have c := Tryz.strings_FieldsFunc_runes 26 #[] (enters_of Tryz.func26 (by kernel_rfl) rfl) (fun r => decide (r = 32)) (bs s) w (by rw [bs_size]; exact h9) (desk_blank w)
  have hf : Lib.goFieldsP (fun r => decide (r = 32)) (bs s) = (wds s).map fun l => bs l := fields_wds s
  rw [hf, List.length_map, List.map_map] at c
  have c' : Calls Tryz.prog 25 #[.string (bs s), .func (.func 26) #[] #[]] w fun e w' => ∃ u, e = .returned u ∧ OwB w.heap.size w' u (wds s) ∧ Below w.heap.size w w' := by
    refine c.mono ?_
    rintro e w' ⟨A, rfl, _, h1, h2⟩
    exact ⟨_, rfl, h1, h2⟩
  clear c hf
  generalize wds s = L at *
  generalize bs s = S at *
  go_enter Tryz.func12, Tryz.ntmps12
  go_wp2_with (go_at_call 25; refine Calls.mono c' ?_; rintro e w1 ⟨u, rfl, hO, hb⟩; clear c'; obtain ⟨a, cap, e⟩ := hO.isB.len; subst e)
  go_ret
  exact ⟨_, rfl, hO, hb⟩
/-- A line of these words is not answered. -/
def silB : List (List UInt8) → Bool
  | [] => true
  | v :: _ => decide (v.headD 0 = 35)
theorem hash_in (w : World) (c : UInt8) (r : List UInt8) :
    Calls Tryz.prog 19 #[.string (bs (c :: r)), .string { data := #[35] }] w fun e w' => e = .returned (.bool (decide (c = 35))) ∧ w' = w := by
  have h1 : (bs (c :: r)).size = r.length + 1 := by rw [bs_size, List.length_cons]
  have h2 : ({ data := #[35] } : ByteArray).size = 1 := rfl
  have h3 : (bs (c :: r)).extract 0 1 = bs [c] := bs_front [c] r
  have h4 : (bs [c]).toList = [c] := by rw [ByteArray.toList_eq]; rfl
  have h5 : ({ data := #[35] } : ByteArray).toList = [35] := by rw [ByteArray.toList_eq]
  have h6 : (([c] : List UInt8) == [35]) = decide (c = 35) := by
    by_cases h : c = 35
    · subst h; rfl
    · rw [decide_eq_false h, beq_eq_false_iff_ne]
      simpa using h
  have h7 : ((bs [c]).toList == [35]) = decide (c = 35) := by rw [h4]; exact h6
  have h8 : ((1 : Nat) : Int) ≤ ((r.length + 1 : Nat) : Int) := by omega
  have h9 : 1 ≤ r.length + 1 := by omega
  generalize decide (c = 35) = B at *
  generalize r.length + 1 = n at *
  generalize bs (c :: r) = S at *
  go_enter Tryz.func19, Tryz.ntmps19
  go_wp2
  go_ret
  exact ⟨by simp, rfl⟩
theorem hash_has (w : World) (c : UInt8) (r : List UInt8) :
    Calls Tryz.prog 7 #[.string (bs (c :: r)), .string { data := #[35] }] w fun e w' => e = .returned (.bool (decide (c = 35))) ∧ w' = w := by
  have c1 := hash_in w c r
  generalize bs (c :: r) = S at *
  generalize decide (c = 35) = B at *
  go_enter Tryz.func7, Tryz.ntmps7
  go_wp2_with (go_at_call 19; refine Calls.mono c1 ?_; rintro e w' ⟨rfl, hw⟩; rw [hw]; clear hw)
  go_ret
  exact ⟨rfl, rfl⟩
set_option maxHeartbeats 1000000 in
theorem desk_isSilent (w : World) (v : Value) (L : List (List UInt8)) (h : IsB w v L) (hne : ∀ l ∈ L, l ≠ []) :
    Calls Tryz.prog 13 #[v] w fun e w' => e = .returned (.bool (silB L)) ∧ w' = w := by
  obtain ⟨a, cap, rfl, h1, h2, hc⟩ := h
  cases L with
  | nil =>
    clear hc hne h1
    show Calls Tryz.prog 13 #[.slice a 0 cap] w fun e w' => e = .returned (.bool true) ∧ w' = w
    go_enter Tryz.func13, Tryz.ntmps13
    go_wp2
    go_ret
    exact ⟨rfl, rfl⟩
  | cons l L =>
    obtain ⟨b, off, rfl, hcell⟩ := hc 0 (by simp)
    have hl := hne l List.mem_cons_self
    obtain ⟨c, r, rfl⟩ : ∃ c r, l = c :: r := by
      cases l with
      | nil => exact absurd rfl hl
      | cons c r => exact ⟨c, r, rfl⟩
    have c1 := hash_has w c r
    have hz : (((L.length + 1 : Nat) : Int) == 0) = false := by rw [beq_eq_false_iff_ne]; omega
    have hlt : 0 < L.length + 1 := by omega
    replace hcell : w.cell? ⟨b, off, none⟩ = some (.string (bs (c :: r))) := hcell
    show Calls Tryz.prog 13 #[.slice (some ⟨b, off, none⟩) (L.length + 1) cap] w fun e w' => e = .returned (.bool (decide (c = 35))) ∧ w' = w
    clear hc hne h1 hl
    generalize L.length + 1 = n at *
    generalize bs (c :: r) = S at *
    generalize decide (c = 35) = B at *
    go_enter Tryz.func13, Tryz.ntmps13
    go_wp2_with (go_at_call 7; refine Calls.mono c1 ?_; rintro e w' ⟨rfl, hw⟩; rw [hw]; clear hw)
    go_ret
    exact ⟨rfl, rfl⟩

end Go.Proofs.YtmggccepmicjhagGreatDoor

/-! A slice of so many numbers is made; numbers are copied into it, or stored: what is owned behind it; nothing that was there is written. -/
namespace Go.Proofs.YtmggccepmicjhagGreatDoor
open Go.RowKit

theorem made_u64 (n : Nat) : (madeCells (Value.int .u64 0).cells (n * 1)).toList = cellsU (List.replicate n 0) := by
  rw [show (Value.int .u64 0).cells = #[Value.int .u64 0] from rfl, Nat.mul_one, toList_madeCells_one]
  unfold cellsU
  rw [List.map_replicate]; rfl

theorem wp_make {ops : Array Oper} {rest : List Oper} {o : Oper} {a : Act} {Q : Exit → Act → World → Prop} {w w0 : World} (hgd : o.guard = none) (l c : Operand) (ho : o.op = Op.makeSlice 73 l c) (n : Nat)
    (hl : a.eval l = .int .i64 (n : Int)) (hc : a.eval c = .int .i64 (n : Int)) (hn : n ≤ 1000000000) (hnx : Below w0.heap.size w0 w)
    (h : ∀ w', w'.ownsRow w0.heap.size 77 1 (.slice (some ⟨w.heap.size, 0, none⟩) n n) n (cellsU (List.replicate n 0)) → Below w.heap.size w w' → wpList Tryz.prog ops Q rest (a.put o.dst (.slice (some ⟨w.heap.size, 0, none⟩) n n)) w') :
    wpList Tryz.prog ops Q (o :: rest) a w := by
  obtain ⟨i0, hi, hz0, hz1, hz2⟩ := info_parts info_u64
  refine wpList_make_full w hgd l c 73 ho w0.heap.size 77 i0 (.int .u64 0) 1 Tryz.underlying73 hi hz0 hz1 .i64 .i64 n n n hl hc rfl rfl (by rw [hz2]; omega) (by unfold maxLen; omega) hnx.size ?_
  intro w' hown hgrow
  rw [made_u64] at hown
  exact h w' hown ((Below.refl _ _).grown hgrow (Nat.le_refl _) (fun k hk => by cases hk))

theorem cellsU_set (xs : List Nat) (j v : Nat) : (cellsU xs).set j (.int .u64 (v : Int)) = cellsU (xs.set j v) := by
  unfold cellsU
  rw [List.map_set]

/-- The first numbers of a list, and noughts behind them: n of them. -/
def szd (xs : List Nat) (n : Nat) : List Nat := xs.take n ++ List.replicate (n - xs.length) 0
theorem szd_length (xs : List Nat) (n : Nat) : (szd xs n).length = n := by simp [szd]; omega

theorem wp_copy {ops : Array Oper} {rest : List Oper} {o : Oper} {a : Act} {Q : Exit → Act → World → Prop} {w w0 : World} (hgd : o.guard = none) (d s : Operand)
    (ho : o.op = .call { callee := .builtin .copy, args := #[d, s], argTypes := #[73, 73] }) (g n : Nat) (v : Value) (xs : List Nat)
    (hd : a.eval d = .slice (some ⟨g, 0, none⟩) n n) (hs : a.eval s = v) (hU : IsU w v xs) (hown : w.ownsRow w0.heap.size 77 1 (.slice (some ⟨g, 0, none⟩) n n) n (cellsU (List.replicate n 0))) (hnx : Below w0.heap.size w0 w)
    (h : ∀ w' z, w'.ownsRow w0.heap.size 77 1 (.slice (some ⟨g, 0, none⟩) n n) n (cellsU (szd xs n)) → Below w0.heap.size w0 w' → wpList Tryz.prog ops Q rest (a.put o.dst (goInt z)) w') :
    wpList Tryz.prog ops Q (o :: rest) a w := by
  obtain ⟨p, cap, rfl, hcap, hmax, hc, hr⟩ := hU
  rcases hown.2 with ⟨hv, _⟩ | ⟨g', cap', cur, hv, hg, hh, h1, h2, h3, h4⟩
  · cases hv
  · simp only [Value.slice.injEq, Option.some.injEq, Addr.mk.injEq, and_true, true_and] at hv
    obtain ⟨rfl, rfl⟩ := hv
    have hcur : cur.toList = cellsU (List.replicate n 0) := by rw [← h4, Nat.mul_one, List.take_of_length_le (by simp [h3])]
    have hcur2 : cur = (cellsU (List.replicate n 0)).toArray := by rw [← hcur]
    rw [hcur2] at hh
    have hlen : (cellsU (xs.take n)).length = Nat.min xs.length n := by rw [cellsU_length, List.length_take, Nat.min_comm]
    refine wpList_copy_splice hgd d s 73 73 ho 77 Tryz.underlying73 (by kernel_rfl) _ _ _ _ _ _ hd hs g 0 (cellsU (List.replicate n 0)) 77 hh (cellsU (xs.take n)) hlen ?_ ?_ ?_ w0.heap.size w0 hnx hg ?_
    · intro hp
      have hpos : 0 < xs.length := by
        rw [cellsU_length, List.length_take] at hp; omega
      obtain ⟨b, off, rfl, _⟩ := hc 0 hpos
      refine ⟨rfl, ⟨b, off, none⟩, rfl, fun j u hj => ?_⟩
      have hjl : j < (xs.take n).length := by
        rcases Nat.lt_or_ge j (xs.take n).length with h5 | h5
        · exact h5
        · rw [List.getElem?_eq_none (by rw [cellsU_length]; exact h5)] at hj; cases hj
      rw [cellsU_get _ j hjl] at hj
      rw [List.length_take] at hjl
      obtain ⟨b', off', e, hcell⟩ := hc j (by omega)
      simp only [Option.some.injEq, Addr.mk.injEq, and_true] at e
      obtain ⟨rfl, rfl⟩ := e
      have e2 : (xs.take n).getD j 0 = xs.getD j 0 := by simp [List.getD, List.getElem?_take_of_lt (show j < n by omega)]
      rw [e2] at hj
      have e3 : (Addr.mk b off none).add j = ⟨b, off + j, none⟩ := Go.WideShapes.add_plain b off j
      rw [e3, hcell, ← hj]
    · rw [hlen, cellsU_length, List.length_replicate, Nat.zero_add]; exact Nat.min_le_right _ _
    · intro u hu
      obtain ⟨y, _, rfl⟩ := List.mem_map.mp hu
      rfl
    · intro w' hrow hb
      have hsp : splice (cellsU (List.replicate n 0)) 0 (cellsU (xs.take n)) = cellsU (szd xs n) := by
        unfold splice szd
        rw [List.take_zero, List.nil_append, Nat.zero_add, cellsU_append]
        congr 1
        unfold cellsU
        rw [← List.map_drop]
        congr 1
        simp
        omega
      have hrow' := hrow.out
      rw [hsp] at hrow'
      refine h w' _ ⟨by rw [cellsU_length, szd_length]; omega, Or.inr ⟨g, n, _, rfl, hg, hrow', Nat.le_refl _, h2, ?_, ?_⟩⟩ hb
      · simp [cellsU_length, szd_length]
      · rw [List.take_of_length_le (by rw [cellsU_length, szd_length]; omega)]

end Go.Proofs.YtmggccepmicjhagGreatDoor

/-! Rows of numbers that a call makes: the first numbers of a polynomial, owned. -/
namespace Go.Proofs.YtmggccepmicjhagGreatDoor
open Go.RowKit

theorem owns_drewN {w : World} {base e size n : Nat} {v : Value} {xs : List Value} (h : w.ownsRow base e size v n xs) (m : Nat) : (w.drewN m).ownsRow base e size v n xs := h

def rowK (n : Nat) (f : Nat → F) : List Value := cellsU (mk n f)
theorem rowK_succ (n : Nat) (f : Nat → F) : rowK (n + 1) f = rowK n f ++ [.int .u64 (((f n).val : Nat) : Int)] := by
  unfold rowK; rw [mk_succ, cellsU_append]; rfl
theorem rowK_isU {w : World} {base n : Nat} {v : Value} {f : Nat → F} (h : w.ownsRow base 77 1 v n (rowK n f)) : IsU w v (mk n f) :=
  IsU.of_owns h (fun x hx => by have := mk_lt n f x hx; unfold P at this; omega)

/-- A row of n numbers that is filled: the first m are there, noughts behind them. -/
def SL (n m : Nat) (f : Nat → F) : List Nat := mk m f ++ List.replicate (n - m) 0
theorem SL_zero (n : Nat) (f : Nat → F) : SL n 0 f = List.replicate n 0 := by simp [SL, mk]
theorem SL_length {n m : Nat} (f : Nat → F) (h : m ≤ n) : (SL n m f).length = n := by
  unfold SL
  rw [List.length_append, mk_length, List.length_replicate]; omega
theorem SL_set {n m : Nat} (f : Nat → F) (h : m < n) : (SL n m f).set m (f m).val = SL n (m + 1) f := by
  unfold SL
  obtain ⟨r, hr⟩ : ∃ r, n - m = r + 1 := ⟨n - m - 1, by omega⟩
  rw [hr, show n - (m + 1) = r by omega, List.set_append_right _ _ (by rw [mk_length]; exact Nat.le_refl m), mk_length, Nat.sub_self, List.replicate_succ, List.set_cons_zero, mk_succ, List.append_assoc]; rfl
theorem SL_full (n : Nat) (f : Nat → F) : SL n n f = mk n f := by simp [SL]
theorem SL_range {n m : Nat} (f : Nat → F) : ∀ x ∈ SL n m f, (x : Int) < 18446744073709551616 := by
  intro x hx
  rcases List.mem_append.mp hx with h1 | h1
  · have := mk_lt m f x h1
    unfold P at this; omega
  · have := List.eq_of_mem_replicate h1
    subst this; decide

end Go.Proofs.YtmggccepmicjhagGreatDoor

/-! Worlds of which one block alone has changed; slices that lie elsewhere. -/
namespace Go.Proofs.YtmggccepmicjhagGreatDoor
open Go.RowKit

/-- Of what was there, block g alone may have changed. -/
structure Bar (g : Nat) (w w' : World) : Prop where
  os : w'.os = w.os
  tape : w'.tape = w.tape
  output : w'.output = w.output
  size : w.heap.size ≤ w'.heap.size
  block : ∀ k, k < w.heap.size → k ≠ g → w'.heap[k]? = w.heap[k]?

theorem Bar.refl (g : Nat) (w : World) : Bar g w w := ⟨rfl, rfl, rfl, Nat.le_refl _, fun _ _ _ => rfl⟩
theorem Bar.trans {g : Nat} {a b c : World} (h : Bar g a b) (k : Bar g b c) : Bar g a c :=
  ⟨k.os.trans h.os, k.tape.trans h.tape, k.output.trans h.output, Nat.le_trans h.size k.size, fun i hi hg => (k.block i (Nat.lt_of_lt_of_le hi h.size) hg).trans (h.block i hi hg)⟩
theorem Bar.drewN {g : Nat} {a b : World} (h : Bar g a b) (n : Nat) : Bar g a (b.drewN n) := ⟨h.os, h.tape, h.output, h.size, h.block⟩
theorem Bar.setCell {g : Nat} {a b : World} (h : Bar g a b) (i : Nat) (u : Value) : Bar g a (b.setCell ⟨g, i, none⟩ u) :=
  h.trans ⟨rfl, rfl, rfl, by simp [World.setCell], fun k _ hg => Below.heap_setCell _ _ _ _ hg⟩
theorem Bar.of_below {g : Nat} {a b : World} (h : Below a.heap.size a b) : Bar g a b := ⟨h.os, h.tape, h.output, h.size, fun k hk _ => h.block k hk⟩
theorem Bar.below {g B : Nat} {a b : World} (h : Bar g a b) (hg : B ≤ g) (hB : B ≤ a.heap.size) : Below B a b := ⟨h.os, h.tape, h.output, h.size, fun k hk => h.block k (by omega) (by omega)⟩
/-- A block that was not there when a call began may change. -/
theorem Bar.fresh {g : Nat} {a b c : World} (h : Below a.heap.size a b) (hg : a.heap.size ≤ g) (k : Bar g b c) : Below a.heap.size a c :=
  h.trans (k.below hg h.size)

/-- The slice value v lies not in block g. -/
def Apart (v : Value) (g : Nat) : Prop := ∀ b off s l c, v = .slice (some ⟨b, off, s⟩) l c → 0 < l → b ≠ g
theorem IsU.bar {w w' : World} {v : Value} {xs : List Nat} {g : Nat} (h : IsU w v xs) (ha : Apart v g) (hb : Bar g w w') : IsU w' v xs := by
  obtain ⟨a, cap, rfl, h1, h2, hc, hr⟩ := h
  refine ⟨a, cap, rfl, h1, h2, fun i hi => ?_, hr⟩
  obtain ⟨b, off, rfl, hcell⟩ := hc i hi
  exact ⟨b, off, rfl, (World.cell?_of_block (w := w) (hb.block b (block_lt hcell) (ha b off none _ _ rfl (by omega)))).trans hcell⟩
theorem IsU.apart {w : World} {v : Value} {xs : List Nat} {g : Nat} (h : IsU w v xs) (hg : w.heap.size ≤ g) : Apart v g := by
  obtain ⟨a, cap, rfl, h1, h2, hc, hr⟩ := h
  intro b off s l c e hl
  simp only [Value.slice.injEq] at e
  obtain ⟨rfl, rfl, rfl⟩ := e
  obtain ⟨b', off', e2, hcell⟩ := hc 0 hl
  simp only [Option.some.injEq, Addr.mk.injEq] at e2
  obtain ⟨rfl, rfl, _⟩ := e2
  have := block_lt hcell
  omega
theorem apart_of {b off l c g : Nat} (h : b ≠ g) : Apart (.slice (some ⟨b, off, none⟩) l c) g := by
  intro b' off' s l' c' e _
  simp only [Value.slice.injEq, Option.some.injEq, Addr.mk.injEq] at e
  omega

end Go.Proofs.YtmggccepmicjhagGreatDoor
