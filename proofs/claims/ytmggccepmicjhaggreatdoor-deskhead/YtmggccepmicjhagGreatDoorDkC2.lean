/-
  What linesOf, readNumbers, printNumbers, listText and readFirst of package desk answer.
-/
import Derived.Test.YtmggccepmicjhagGreatDoorSpltAll
import Derived.Test.YtmggccepmicjhagGreatDoorSpltAll
import Derived.Test.YtmggccepmicjhagGreatDoorSpltAll
import Derived.Test.YtmggccepmicjhagGreatDoorDkC1
import Derived.Test.YtmggccepmicjhagGreatDoorSlMakeAll
import Derived.Test.YtmggccepmicjhagGreatDoorRefPhasesAll
import Derived.Lib.AtoiErrMem
namespace Go.Proofs.YtmggccepmicjhagGreatDoor
open Go.RowKit
set_option maxRecDepth 100000

theorem pcs_pos (b : UInt8) (s : List UInt8) : 0 < (pcs b s).length := by rw [pcs_length]; omega
set_option maxHeartbeats 1000000 in
theorem desk_linesOf (w : World) (s : List UInt8) (h9 : s.length < 1000000000) (ht : Tab w) :
    Calls Tryz.prog 11 #[.string (bs s)] w fun e w' => ∃ u, e = .returned u ∧ IsB w' u (tlns s) ∧ Below w.heap.size w w' := by
  obtain ⟨m, hm⟩ := ht.2.2.1
  have c := Tryz.strings_Split (bs s) { data := #[10] } m w (by rw [bs_size]; omega) hm (by decide)
  have hcn : Lib.countB (bs s) { data := #[10] } + 1 = (pcs 10 s).length := count_pcs 10 s
  have hsp : Lib.splitB { data := #[10] } 0 (Lib.countB (bs s) { data := #[10] }) (bs s) = (pcs 10 s).map fun l => bs l := split_pcs 10 s
  rw [hsp, hcn, List.map_map] at c
  have hle := pcs_le 10 s
  have hpos := pcs_pos 10 s
  have hw1 : IsB (w.alloc (.cells (cellsT (pcs 10 s)).toArray 9)) (.slice (some ⟨w.heap.size, 0, none⟩) (pcs 10 s).length (pcs 10 s).length) (pcs 10 s) := by
    refine ⟨_, _, rfl, Nat.le_refl _, by unfold maxLen; omega, fun i hi => ⟨_, _, rfl, ?_⟩⟩
    rw [Nat.zero_add]
    simp only [World.cell?, heap_alloc_new, List.getElem?_toArray, cellsT_get _ i hi]
    rfl
  have hb1 : Below w.heap.size w (w.alloc (.cells (cellsT (pcs 10 s)).toArray 9)) := below_alloc1 _ _
  have c' : Calls Tryz.prog 24 #[.string (bs s), .string { data := #[10] }] w fun e w' => e = .returned (.slice (some ⟨w.heap.size, 0, none⟩) (pcs 10 s).length (pcs 10 s).length) ∧ IsB w' (.slice (some ⟨w.heap.size, 0, none⟩) (pcs 10 s).length (pcs 10 s).length) (pcs 10 s) ∧ Below w.heap.size w w' := by
    refine c.mono ?_
    rintro e w' ⟨rfl, rfl⟩
    exact ⟨rfl, hw1, hb1⟩
  have hlast := pcs_last 10 s
  have hinit := pcs_init 10 s
  have ht : Hid (tlns s = if (pcP 10 s).2 = [] then (pcP 10 s).1 else pcs 10 s) := rfl
  clear c hcn hsp hw1 hb1
  generalize tlns s = R at *
  generalize pcs 10 s = L at *
  rw [← hinit, ← hlast] at ht
  clear hinit hlast
  have hll : L.length ≤ 9223372036854775807 := by omega
  have hn1 : (L.length : Int) - 1 = ((L.length - 1 : Nat) : Int) := by omega
  have hlt : L.length - 1 < L.length := by omega
  generalize w.heap.size = G at *
  by_cases hq : L.getD (L.length - 1) [] = []
  · have hR := ht.out
    rw [if_pos hq] at hR
    have hR' : Hid (R = L.take (L.length - 1)) := hR
    have hkt : Hid (∀ W, IsB W (.slice (some ⟨G, 0, none⟩) L.length L.length) L → W.cell? ⟨G, L.length - 1, none⟩ = some (.string { data := #[] }) ∧ IsB W (.slice (some ⟨G, 0, none⟩) (L.length - 1) L.length) (L.take (L.length - 1))) := fun W hI => by
      refine ⟨?_, hI.take (by omega)⟩
      obtain ⟨a, cap, e, _, _, hc⟩ := hI
      simp only [Value.slice.injEq, true_and] at e
      obtain ⟨rfl, rfl⟩ := e
      obtain ⟨b, off, e, c⟩ := hc (L.length - 1) (by omega)
      simp only [Option.some.injEq, Addr.mk.injEq, and_true] at e
      obtain ⟨rfl, rfl⟩ := e
      rw [Nat.zero_add, hq] at c
      exact c
    have hle2 : L.length - 1 ≤ L.length := by omega
    clear ht hR hq hpos
    generalize hk : L.length - 1 = k at *
    generalize hn : L.length = n at *
    replace hk : Hid _ := hk
    replace hn : Hid _ := hn
    go_enter Tryz.func11, Tryz.ntmps11
    go_wp2_with (go_at_call 24; refine Calls.mono c' ?_; rintro e w1 ⟨rfl, hI, hB⟩; clear c'; obtain ⟨hcell, hT⟩ := hkt.out _ hI; replace hT : Hid _ := hT; replace hI : Hid _ := hI)
    go_ret
    exact ⟨_, rfl, by rw [hR'.out]; exact hT.out, hB⟩
  · have hR := ht.out
    rw [if_neg hq] at hR
    have hR' : Hid (R = L) := hR
    have hkt : Hid (∀ W, IsB W (.slice (some ⟨G, 0, none⟩) L.length L.length) L → W.cell? ⟨G, L.length - 1, none⟩ = some (.string (bs (L.getD (L.length - 1) [])))) := fun W hI => by
      obtain ⟨a, cap, e, _, _, hc⟩ := hI
      simp only [Value.slice.injEq, true_and] at e
      obtain ⟨rfl, rfl⟩ := e
      obtain ⟨b, off, e, c⟩ := hc (L.length - 1) (by omega)
      simp only [Option.some.injEq, Addr.mk.injEq, and_true] at e
      obtain ⟨rfl, rfl⟩ := e
      rw [Nat.zero_add] at c
      exact c
    obtain ⟨he1, he2⟩ := ne_emptyT hq
    clear ht hR hq hpos
    generalize bs (L.getD (L.length - 1) []) = X at *
    generalize hk : L.length - 1 = k at *
    generalize hn : L.length = n at *
    replace hk : Hid _ := hk
    replace hn : Hid _ := hn
    go_enter Tryz.func11, Tryz.ntmps11
    go_wp2_with (go_at_call 24; refine Calls.mono c' ?_; rintro e w1 ⟨rfl, hI, hB⟩; clear c'; have hcell := hkt.out _ hI; replace hI : Hid _ := hI)
    go_ret
    exact ⟨_, rfl, by rw [hR'.out]; exact hI.out, hB⟩

/-! Numbers that are read. -/
theorem parse_num (w : World) (s : List UInt8) (h9 : s.length ≤ 1000000000) (h : numB s = true) :
    Calls Tryz.prog 85 #[.string (bs s), .int .i64 10, .int .i64 64] w fun e w' => e = .returned (.tuple #[.int .u64 ((nv s : Nat) : Int), .nilIface]) ∧ Below w.heap.size w w' := by
  refine (Tryz.strconv_ParseUint_10_at64_ok (bs s) (by rw [bs_size]; omega) (nv s) (read_num h).1 w).mono ?_
  rintro e w' ⟨rfl, rfl | rfl⟩
  · exact ⟨rfl, Below.refl _ _⟩
  · exact ⟨rfl, Lib.bytesWorld_below _ _ _⟩
/-- Of a word that is no number: an error, or a number that is told otherwise. -/
theorem parse_not (w : World) (s : List UInt8) (h9 : s.length ≤ 1000000000) (h : numB s = false) (ht : Tab w) :
    (∃ u : Nat, u < 18446744073709551616 ∧ Lib.decDigits u ≠ s ∧ Calls Tryz.prog 85 #[.string (bs s), .int .i64 10, .int .i64 64] w fun e w' => e = .returned (.tuple #[.int .u64 (u : Int), .nilIface]) ∧ Below w.heap.size w w') ∨
    ∃ u : Int, Calls Tryz.prog 85 #[.string (bs s), .int .i64 10, .int .i64 64] w fun e w' => ∃ t p, e = .returned (.tuple #[.int .u64 u, .iface t p]) ∧ Below w.heap.size w w' := by
  obtain ⟨-, ⟨t1, p1, h1⟩, t2, p2, h2⟩ := ht.2.2
  cases hp : Lib.parseUintB 64 s with
  | ok u =>
    obtain ⟨hu, hd⟩ := read_not h u hp
    refine .inl ⟨u, hu, hd, ?_⟩
    refine (Tryz.strconv_ParseUint_10_at64_ok (bs s) (by rw [bs_size]; omega) u hp w).mono ?_
    rintro e w' ⟨rfl, rfl | rfl⟩
    · exact ⟨rfl, Below.refl _ _⟩
    · exact ⟨rfl, Lib.bytesWorld_below _ _ _⟩
  | «syntax» =>
    refine .inr ⟨0, (Tryz.strconv_ParseUint_10_at64_syntax (bs s) (by rw [bs_size]; omega) hp _ w h1 (.inr ⟨_, _, rfl⟩)).mono ?_⟩
    rintro e w' ⟨N, rfl, _, _, hb⟩
    exact ⟨_, _, rfl, hb⟩
  | range =>
    refine .inr ⟨18446744073709551615, (Tryz.strconv_ParseUint_10_at64_range (bs s) (by rw [bs_size]; omega) hp _ w h2 (.inr ⟨_, _, rfl⟩)).mono ?_⟩
    rintro e w' ⟨N, rfl, _, _, hb⟩
    exact ⟨_, _, rfl, hb⟩
theorem bs_ne {a b : List UInt8} (h : a ≠ b) : ((bs a).toList == (bs b).toList) = false ∧ ¬ (bs a).toList = (bs b).toList ∧ ((bs a).toList != (bs b).toList) = true := by
  have e : ∀ l : List UInt8, (bs l).toList = l := fun l => by rw [ByteArray.toList_eq]; rfl
  rw [e, e]
  exact ⟨beq_eq_false_iff_ne.2 h, h, bne_iff_ne.2 h⟩
theorem set_zero (xs : List Nat) (m z x : Nat) : (xs ++ List.replicate (m + 1) z).set xs.length x = xs ++ [x] ++ List.replicate m z := by
  rw [List.replicate_succ, List.append_assoc]
  have h : ∀ (A : List Nat) (R : List Nat), (A ++ z :: R).set A.length x = A ++ x :: R := fun A R => by
    induction A with
    | nil => rfl
    | cons a A ih => simp [ih]
  exact h xs _
def errN (L : List (List UInt8)) : Int := if numsB L = true then 0 else 3
set_option maxHeartbeats 2000000 in
theorem desk_readNumbers (w : World) (v : Value) (L : List (List UInt8)) (h : IsB w v L) (hs : ∀ l ∈ L, l.length ≤ 1000000000) (h9 : L.length ≤ 1000000) (ht : Tab w) :
    Calls Tryz.prog 58 #[v] w fun e w' => ∃ u, e = .returned (.tuple #[u, .int .i64 (errN L)]) ∧ IsU w' u (numA L) ∧ Below w.heap.size w w' := by
  obtain ⟨a, cap, rfl, -, -, hc0⟩ := h
  have hc : Hid (∀ i, i < L.length → ∃ b off, a = some ⟨b, off, none⟩ ∧ w.cell? ⟨b, off + i, none⟩ = some (.string (bs (L.getD i [])))) := hc0
  have hln : Hid (∀ i, i < L.length → (L.getD i []).length ≤ 1000000000) := fun i hi => hs _ (by
    rw [List.getD, List.getElem?_eq_getElem hi]
    exact List.getElem_mem hi)
  have hgood : Hid (numsB L = true → numA L = numsL L ∧ errN L = 0) := fun h => by unfold numA errN; rw [if_pos h, if_pos h]; exact ⟨rfl, rfl⟩
  have hbad : Hid (numsB L = false → numA L = [] ∧ errN L = 3) := fun h => by unfold numA errN; rw [if_neg (by rw [h]; decide), if_neg (by rw [h]; decide)]; exact ⟨rfl, rfl⟩
  have hwrong : Hid (∀ i, i < L.length → numB (L.getD i []) = false → numsB L = false) := fun i h hb => numsB_bad h hb
  have hright : Hid (numsB (L.take L.length) = true → numsB L = true) := fun h => by rw [List.take_length] at h; exact h
  have hrg := numsL_rng L
  have hrg' : Hid (∀ x ∈ numsL L, (x : Int) < 18446744073709551616) := hrg
  have hnl : Hid (∀ i, i ≤ L.length → (numsL (L.take i)).length = i) := fun i hi => by unfold numsL; rw [List.length_map, List.length_take]; omega
  clear hc0 hs hrg
  generalize numsB L = B at *
  generalize numA L = A at *
  generalize errN L = E at *
  have hll : L.length ≤ 9223372036854775807 := by omega
  have hn9 : L.length ≤ 1000000000 := by omega
  go_enter Tryz.func58, Tryz.ntmps58
  go_wp2_with (at_make; refine wp_makeG rfl _ _ rfl L.length rfl rfl hn9 ?_; intro g w2 hg hrow hb; have hgw : w.heap.size ≤ g := (by rw [hg.out]; exact Nat.le_refl _); clear hg)
  go_loopw [14] (fun vi wr => ∃ i : Nat, i ≤ L.length ∧ vi = .int .i64 (i : Int) ∧ RowU wr g (numsL (L.take i) ++ List.replicate (L.length - i) 0) ∧ Hid (numsB (L.take i) = true) ∧ Below w.heap.size w wr)
    (fun vi _ => L.length - (intOf vi).toNat)
  case atStart => exact ⟨0, Nat.zero_le _, rfl, hrow, rfl, hb⟩
  case round =>
    clear hrow hb
    obtain ⟨i, hi, rfl, hR, hT, hB⟩ := hrel
    by_cases hlt : i < L.length
    · obtain ⟨b, off, rfl, hcell0⟩ := hc.out i hlt
      have hcell := (hB.cell (block_lt hcell0)).trans hcell0
      have hst := numsL_snoc L i hlt
      have hstB := numsB_step L i hlt
      rw [hT.out, Bool.true_and] at hstB
      cases hq : numB (L.getD i []) with
      | false =>
        obtain ⟨hA, hE⟩ := hbad.out (hwrong.out i hlt hq)
        have cP := parse_not wr (L.getD i []) (hln.out i hlt) hq (ht.below hB)
        have hA' : Hid (A = []) := hA
        subst hE
        clear hst hstB hcell0 hgood hbad hwrong hright hq hR hnl hA
        rcases cP with ⟨u, hu, hd, c1⟩ | ⟨u, c1⟩
        · obtain ⟨d1, d2, d3⟩ := bs_ne hd
          have c2 := fun (W : World) (hb : Below wr.heap.size wr W) => desk_printNumber u hu W ((ht.below hB).below hb)
          clear hd hu
          generalize bs (Lib.decDigits u) = D at *
          generalize bs (L.getD i []) = X at *
          go_wp2_with (first
            | (go_at_call 85; refine Calls.mono c1 ?_; rintro e w3 ⟨rfl, hb⟩; clear c1)
            | (go_at_call 59; refine Calls.mono (c2 _ hb) ?_; rintro e w4 ⟨rfl, hb4⟩; replace hb := hb.trans (hb4.mono hb.size); clear c2 hb4))
          go_ret2
          exact ⟨_, rfl, by rw [hA'.out]; exact IsU.nil _, hB.trans (hb.mono hB.size)⟩
        · generalize bs (L.getD i []) = X at *
          go_wp2_with (go_at_call 85; refine Calls.mono c1 ?_; rintro e w3 ⟨t, p, rfl, hb⟩; clear c1)
          go_ret2
          exact ⟨_, rfl, by rw [hA'.out]; exact IsU.nil _, hB.trans (hb.mono hB.size)⟩
      | true =>
        rw [hq] at hstB
        have hstB' : Hid (numsB (L.take (i + 1)) = true) := hstB
        have c1 := parse_num wr (L.getD i []) (hln.out i hlt) hq
        have c2 := fun (W : World) (hb : Below wr.heap.size wr W) => desk_printNumber (nv (L.getD i [])) (nv_lt _) W ((ht.below hB).below hb)
        rw [(read_num hq).2] at c2
        have hlen : (numsL (L.take i)).length = i := hnl.out i hi
        have hset : (numsL (L.take i) ++ List.replicate (L.length - i) 0).set i (nv (L.getD i [])) = numsL (L.take (i + 1)) ++ List.replicate (L.length - (i + 1)) 0 := by
          rw [hst, show L.length - i = (L.length - (i + 1)) + 1 by omega]
          have := set_zero (numsL (L.take i)) (L.length - (i + 1)) 0 (nv (L.getD i []))
          rw [hlen] at this
          exact this
        have hl2 : (numsL (L.take i) ++ List.replicate (L.length - i) 0).length = L.length := by rw [List.length_append, hlen, List.length_replicate]; omega
        have hup : Hid (∀ W : World, Below w.heap.size w W → RowU W g (numsL (L.take i) ++ List.replicate (L.length - i) 0) → RowU (W.setCell ⟨g, i, none⟩ (.int .u64 ((nv (L.getD i []) : Nat) : Int))) g (numsL (L.take (i + 1)) ++ List.replicate (L.length - (i + 1)) 0) ∧ Below w.heap.size w (W.setCell ⟨g, i, none⟩ (.int .u64 ((nv (L.getD i []) : Nat) : Int)))) := fun W h1 h2 => ⟨(h2.set i _).cast hset, h1.setCell (p := ⟨g, i, none⟩) hgw _⟩
        have hcl : Hid (∀ W : World, RowU W g (numsL (L.take i) ++ List.replicate (L.length - i) 0) → ∃ u, W.cell? ⟨g, i, none⟩ = some u ∧ W.frozen? ⟨g, i, none⟩ = false) := fun W h2 => ⟨_, h2.cell i (by omega), h2.frozen i⟩
        have hsame : ((bs (L.getD i [])).toList == (bs (L.getD i [])).toList) = true := beq_self_eq_true _
        have hsame2 : ((bs (L.getD i [])).toList != (bs (L.getD i [])).toList) = false := bne_self_eq_false _
        clear hst hstB hcell0 hgood hbad hwrong hright hq hset hl2 hlen hnl
        generalize numsL (L.take i) ++ List.replicate (L.length - i) 0 = l1 at *
        generalize hx1 : numsL (L.take (i + 1)) ++ List.replicate (L.length - (i + 1)) 0 = l2 at *
        replace hx1 : Hid _ := hx1
        generalize nv (L.getD i []) = m at *
        generalize bs (L.getD i []) = X at *
        go_wp2_with (first
          | (go_at_call 85; refine Calls.mono c1 ?_; rintro e w3 ⟨rfl, hb⟩; replace hR := hR.below hb; clear c1)
          | (go_at_call 59; refine Calls.mono (c2 _ hb) ?_; rintro e w4 ⟨rfl, hb4⟩; replace hR := hR.below hb4; replace hb := hb.trans (hb4.mono hb.size); replace hB := hB.trans (hb.mono hB.size); obtain ⟨u, hc1, hc2⟩ := hcl.out _ hR; clear c2 hb4 hb hcell))
        obtain ⟨hR2, hB2⟩ := hup.out _ hB hR
        go_roundw
        case rel => exact ⟨i + 1, by omega, by go_num, by rw [hx1.out]; exact hR2, hstB', hB2⟩
        case measure => simp only [intOf]; omega
    · have e : i = L.length := by omega
      subst e
      obtain ⟨hA, hE⟩ := hgood.out (hright.out hT.out)
      have hA' : Hid (A = numsL L) := hA
      subst hE
      rw [List.take_length, Nat.sub_self, List.replicate_zero, List.append_nil] at hR
      have hU : Hid (IsU wr (.slice (some ⟨g, 0, none⟩) L.length L.length) (numsL L)) := hR.isUN hrg'.out (by unfold numsL; rw [List.length_map]; omega) (by unfold numsL; rw [List.length_map])
      have hnl2 : ¬ L.length < L.length := Nat.lt_irrefl _
      clear hgood hbad hwrong hright hR hT hnl hA
      go_wp2
      go_ret2
      exact ⟨_, rfl, by rw [hA'.out]; exact hU.out, hB⟩

/-! Numbers that are told. -/
theorem made_str (n : Nat) : (madeCells (Value.string (bs [])).cells (n * 1)).toList = List.replicate n (Value.string (bs [])) := by
  rw [show (Value.string (bs [])).cells = #[Value.string (bs [])] from rfl, Nat.mul_one, toList_madeCells_one]
theorem set_rest (xs : List Value) (m : Nat) (z x : Value) : (xs ++ List.replicate (m + 1) z).set xs.length x = xs ++ [x] ++ List.replicate m z := by
  rw [List.replicate_succ, List.append_assoc]
  have h : ∀ (A : List Value) (R : List Value), (A ++ z :: R).set A.length x = A ++ x :: R := fun A R => by
    induction A with
    | nil => rfl
    | cons a A ih => simp [ih]
  exact h xs _
/-- The first numbers as texts. -/
def txK (l : List Nat) (i : Nat) : List Value := cellsT ((l.take i).map Lib.decDigits)
theorem txK_length (l : List Nat) (i : Nat) (h : i ≤ l.length) : (txK l i).length = i := by unfold txK; rw [cellsT_length, List.length_map, List.length_take]; omega
theorem txK_succ (l : List Nat) (i : Nat) (h : i < l.length) : txK l (i + 1) = txK l i ++ [.string (bs (Lib.decDigits (l.getD i 0)))] := by
  have e : l.getD i 0 = l[i] := by simp [List.getD, h]
  unfold txK
  rw [List.take_succ_eq_append_getElem h, List.map_append, cellsT_append, e]
  rfl
theorem join_bs (w : World) (l : List Nat) (g : Nat) (hne : l ≠ []) (h9 : l.length ≤ 1000000) (hr : ∀ x ∈ l, x < 18446744073709551616) (h : RowV 9 w g (txK l l.length)) :
    Calls Tryz.prog 108 #[.slice (some ⟨g, 0, none⟩) l.length l.length, .string { data := #[32] }] w fun e w' => e = .returned (.string (bs (sayN l))) ∧ Below w.heap.size w w' := by
  have hx : ((l.map Lib.decDigits).map fun d => bs d).map (fun x => x.data.toList) = l.map Lib.decDigits := by
    rw [List.map_map]
    conv => rhs; rw [← List.map_id (l.map Lib.decDigits)]
    rfl
  have hsay : Lib.join (l.map Lib.decDigits) [32] = sayN l := join_say l hne
  have hlen := sayN_le l hr
  have c := Tryz.strings_Join g 0 l.length ((l.map Lib.decDigits).map fun d => bs d) { data := #[32] } w (fun j x hj => by
      rw [Nat.zero_add, h.cell j]
      unfold txK cellsT
      rw [List.take_length]
      rw [List.getElem?_map] at hj ⊢
      cases hq : (l.map Lib.decDigits)[j]? with
      | none => rw [hq] at hj; cases hj
      | some d =>
        rw [hq] at hj
        simp only [Option.map_some, Option.some.injEq] at hj ⊢
        rw [hj]) h.lt (by simp; omega) (by simp) (by
      rw [hx]
      show (Lib.join (l.map Lib.decDigits) [32]).length ≤ _
      rw [hsay]
      omega)
  rw [hx, List.length_map, List.length_map] at c
  refine c.mono ?_
  rintro e w' ⟨rfl, hb⟩
  refine ⟨?_, hb⟩
  show Ending.returned (.string (bs (Lib.join (l.map Lib.decDigits) [32]))) = _
  rw [hsay]
set_option maxHeartbeats 2000000 in
theorem desk_printNumbers (w : World) (v : Value) (l : List Nat) (h : IsU w v l) (h9 : l.length ≤ 1000000) (ht : Tab w) :
    Calls Tryz.prog 87 #[v] w fun e w' => e = .returned (.string (bs (sayN l))) ∧ Below w.heap.size w w' := by
  obtain ⟨a, cap, rfl, -, -, hc0, hr⟩ := h
  by_cases hz : l = []
  · subst hz
    clear hc0 hr
    show Calls Tryz.prog 87 #[.slice a 0 cap] w fun e w' => e = .returned (.string { data := #[110, 111, 110, 101] }) ∧ Below w.heap.size w w'
    go_enter Tryz.func87, Tryz.ntmps87
    go_wp2
    go_ret
    exact ⟨rfl, Below.refl _ _⟩
  · have hc : Hid (∀ i, i < l.length → ∃ b off, a = some ⟨b, off, none⟩ ∧ w.cell? ⟨b, off + i, none⟩ = some (.int .u64 ((l.getD i 0 : Nat) : Int))) := hc0
    have hrg : Hid (∀ i, l.getD i 0 < 18446744073709551616) := fun i => by have := range_getD hr i; omega
    have hpos : l.length ≠ 0 := fun e => hz (List.eq_nil_of_length_eq_zero e)
    have hz1 : ((l.length : Int) == 0) = false := by rw [beq_eq_false_iff_ne]; omega
    have cJ : Hid (∀ (W : World) (g : Nat), RowV 9 W g (txK l l.length) → Calls Tryz.prog 108 #[.slice (some ⟨g, 0, none⟩) l.length l.length, .string { data := #[32] }] W fun e w' => e = .returned (.string (bs (sayN l))) ∧ Below W.heap.size W w') := fun W g h => join_bs W l g hz h9 (fun x hx => by have := hr x hx; omega) h
    have hts : Hid (∀ i, i < l.length → txK l (i + 1) = txK l i ++ [.string (bs (Lib.decDigits (l.getD i 0)))]) := fun i hi => txK_succ l i hi
    have htl : Hid (∀ i, i ≤ l.length → (txK l i).length = i) := fun i hi => txK_length l i hi
    have h0 : txK l 0 = [] := rfl
    have hll : l.length ≤ 9223372036854775807 := by omega
    have hn9 : l.length ≤ 1000000000 := by omega
    clear hc0 hr hz hpos
    generalize bs (sayN l) = R at *
    go_enter Tryz.func87, Tryz.ntmps87
    go_wp2_with (at_make; refine wp_makeV rfl _ _ 23 9 rfl (.string (bs [])) 1 16 Tryz.underlying23 info_str l.length _ (made_str l.length) rfl rfl hn9 (by decide) ?_; intro g w2 hg hrow hb; have hgw : w.heap.size ≤ g := (by rw [hg.out]; exact Nat.le_refl _); clear hg)
    go_loopw [14] (fun vi wr => ∃ i : Nat, i ≤ l.length ∧ vi = .int .i64 (i : Int) ∧ RowV 9 wr g (txK l i ++ List.replicate (l.length - i) (Value.string (bs []))) ∧ Below w.heap.size w wr)
      (fun vi _ => l.length - (intOf vi).toNat)
    case atStart => exact ⟨0, Nat.zero_le _, rfl, hrow, hb⟩
    case round =>
      clear hrow hb
      obtain ⟨i, hi, rfl, hR, hB⟩ := hrel
      by_cases hlt : i < l.length
      · obtain ⟨b, off, rfl, hcell0⟩ := hc.out i hlt
        have hcell := (hB.cell (block_lt hcell0)).trans hcell0
        have cN := desk_printNumber (l.getD i 0) (hrg.out i) wr (ht.below hB)
        have hlen := htl.out i hi
        have hset : (txK l i ++ List.replicate (l.length - i) (Value.string (bs []))).set i (.string (bs (Lib.decDigits (l.getD i 0)))) = txK l (i + 1) ++ List.replicate (l.length - (i + 1)) (Value.string (bs [])) := by
          rw [hts.out i hlt, show l.length - i = (l.length - (i + 1)) + 1 by omega]
          have := set_rest (txK l i) (l.length - (i + 1)) (Value.string (bs [])) (.string (bs (Lib.decDigits (l.getD i 0))))
          rw [hlen] at this
          exact this
        have hl2 : (txK l i ++ List.replicate (l.length - i) (Value.string (bs []))).length = l.length := by rw [List.length_append, hlen, List.length_replicate]; omega
        have hup : Hid (∀ W : World, Below w.heap.size w W → RowV 9 W g (txK l i ++ List.replicate (l.length - i) (Value.string (bs []))) → RowV 9 (W.setCell ⟨g, i, none⟩ (.string (bs (Lib.decDigits (l.getD i 0))))) g (txK l (i + 1) ++ List.replicate (l.length - (i + 1)) (Value.string (bs []))) ∧ Below w.heap.size w (W.setCell ⟨g, i, none⟩ (.string (bs (Lib.decDigits (l.getD i 0)))))) := fun W h1 h2 => ⟨(h2.set i _).cast hset, h1.setCell (p := ⟨g, i, none⟩) hgw _⟩
        have hcl : Hid (∀ W : World, RowV 9 W g (txK l i ++ List.replicate (l.length - i) (Value.string (bs []))) → ∃ u, W.cell? ⟨g, i, none⟩ = some u ∧ W.frozen? ⟨g, i, none⟩ = false) := fun W h2 => ⟨_, (h2.cell i).trans (List.getElem?_eq_getElem (by omega)), h2.frozen i⟩
        clear hset hl2 hlen hts htl hcell0
        generalize txK l i ++ List.replicate (l.length - i) (Value.string (bs [])) = l1 at *
        generalize hx1 : txK l (i + 1) ++ List.replicate (l.length - (i + 1)) (Value.string (bs [])) = l2 at *
        replace hx1 : Hid _ := hx1
        generalize bs (Lib.decDigits (l.getD i 0)) = X at *
        generalize l.getD i 0 = m at *
        go_wp2_with (go_at_call 59; refine Calls.mono cN ?_; rintro e w4 ⟨rfl, hb⟩; replace hR := hR.below hb; replace hB := hB.trans (hb.mono hB.size); obtain ⟨u, hc1, hc2⟩ := hcl.out _ hR; clear cN hb hcell)
        obtain ⟨hR2, hB2⟩ := hup.out _ hB hR
        go_roundw
        case rel => exact ⟨i + 1, by omega, by go_num, by rw [hx1.out]; exact hR2, hB2⟩
        case measure => simp only [intOf]; omega
      · have e : i = l.length := by omega
        subst e
        rw [Nat.sub_self, List.replicate_zero, List.append_nil] at hR
        have c := cJ.out _ _ hR
        have hnl : ¬ l.length < l.length := Nat.lt_irrefl _
        clear cJ hts htl hR
        go_wp2_with (go_at_call 108; refine Calls.mono c ?_; rintro e w5 ⟨rfl, hb⟩; replace hB := hB.trans (hb.mono hB.size); clear c hb)
        go_ret
        exact ⟨rfl, hB⟩
/-- What is told: a text and no error, or an error. -/
def Says (t : List UInt8) (k : Int) (R : List UInt8) : Prop := 0 ≤ k ∧ k ≤ 100 ∧ (k = 0 → t = R) ∧ (k ≠ 0 → wrg k = R)
theorem Says.ok (R : List UInt8) : Says R 0 R := ⟨by decide, by decide, fun _ => rfl, fun h => absurd rfl h⟩
theorem Says.err {k : Int} {t R : List UInt8} (h0 : 0 < k) (h1 : k ≤ 100) (hR : wrg k = R) : Says t k R := ⟨by omega, h1, fun h => by omega, fun _ => hR⟩
theorem desk_listText_ok (w : World) (v : Value) (l : List Nat) (h : IsU w v l) (h9 : l.length ≤ 1000000) (ht : Tab w) :
    Calls Tryz.prog 64 #[v, .int .i64 0] w fun e w' => e = .returned (.tuple #[.string (bs (sayN l)), .int .i64 0]) ∧ Below w.heap.size w w' := by
  have c := desk_printNumbers w v l h h9 ht
  obtain ⟨a, cap, rfl, -⟩ := h
  generalize bs (sayN l) = R at *
  go_enter Tryz.func64, Tryz.ntmps64
  go_wp2_with (go_at_call 87; refine Calls.mono c ?_; rintro e w1 ⟨rfl, hb⟩; clear c)
  go_ret2
  exact ⟨rfl, hb⟩
theorem desk_listText_bad (w : World) (a : Option Addr) (n cap : Nat) (k : Int) (hk : (k != 0) = true) :
    Calls Tryz.prog 64 #[.slice a n cap, .int .i64 k] w fun e w' => e = .returned (.tuple #[.string { data := #[] }, .int .i64 k]) ∧ w' = w := by
  go_enter Tryz.func64, Tryz.ntmps64
  go_wp2
  go_ret2
  exact ⟨rfl, rfl⟩

end Go.Proofs.YtmggccepmicjhagGreatDoor
