/-
  Texts that stood one behind the other, as one.
-/
import Derived.Test.YtmggccepmicjhagGreatDoorBigM
import Derived.WalkKit
import Derived.Laws.Concat
import Derived.Test.YtmggccepmicjhagGreatDoorSlAll
import Derived.Test.YtmggccepmicjhagGreatDoorRefPcsAll
import Derived.Test.YtmggccepmicjhagGreatDoorBigL
import Derived.Lib.Walk
import Derived.Lib.ItoaMem
import Derived.Lib.AppendIntMem
import Derived.BigCall
import Derived.BigGuard
import Derived.Test.YtmggccepmicjhagGreatDoorRows
/-! Texts by their bytes; what Great of package goldref answers: may a text be a great number? -/
namespace Go.Proofs.YtmggccepmicjhagGreatDoor
open Go.RowKit
set_option maxRecDepth 100000

/-- A text by its bytes. -/
def bsX (l : List UInt8) : ByteArray := ⟨l.toArray⟩
theorem bsX_append (a b : List UInt8) : bsX a ++ bsX b = bsX (a ++ b) := ByteArray.mk_append_mk a b
/-- A text reads as these bytes. -/
def Bt (s : ByteArray) (X : List Nat) : Prop := s.size = X.length ∧ ∀ i (h : i < s.size), (s[i]'h).toNat = X.getD i 0
theorem Bt.all (s : ByteArray) : Bt s (s.data.toList.map fun b => b.toNat) := by
  refine ⟨by rw [List.length_map, Array.length_toList]; rfl, fun i h => ?_⟩
  have h' : i < s.data.size := h
  rw [ByteArray.getElem_eq_getElem_data]
  simp only [List.getD, List.getElem?_map, Array.getElem?_toList, Array.getElem?_eq_getElem h', Option.map_some, Option.getD_some]
theorem Bt.lt {s : ByteArray} {X : List Nat} (h : Bt s X) (i : Nat) : X.getD i 0 < 256 := by
  rcases Nat.lt_or_ge i X.length with q | q
  · rw [← h.2 i (by rw [h.1]; exact q)]
    exact UInt8.toNat_lt _
  · rw [List.getD, List.getElem?_eq_none q]; decide
theorem Bt.eq {s t : ByteArray} {X : List Nat} (h : Bt s X) (h' : Bt t X) : s = t := by
  have hs : s.data.size = t.data.size := by have := h.1; have := h'.1; simp only [ByteArray.size] at *; omega
  have : s.data = t.data := by
    apply Array.ext hs
    intro i h1 h2
    have a1 := h.2 i h1
    have a2 := h'.2 i h2
    rw [ByteArray.getElem_eq_getElem_data] at a1 a2
    exact UInt8.toNat_inj.mp (a1.trans a2.symm)
  cases s; cases t; simp_all
/-- The bytes of digits. -/
def by' (ds : List Nat) : List Nat := ds.map fun d => 48 + d
theorem by'_length (ds : List Nat) : (by' ds).length = ds.length := by simp [by']
theorem by'_get (ds : List Nat) (i : Nat) (h : i < ds.length) : (by' ds).getD i 0 = 48 + ds.getD i 0 := by simp [by', List.getD, h]
theorem Bt.txt {ds : List Nat} (h : Dg ds) : Bt (bsX (tx ds)) (by' ds) := by
  have e : (tx ds).map (fun b => b.toNat) = by' ds := by
    unfold tx by'
    rw [List.map_map]
    refine List.map_congr_left fun d hd => ?_
    have := h d hd
    simp only [Function.comp, UInt8.toNat_ofNat']
    omega
  have := Bt.all (bsX (tx ds))
  rw [show (bsX (tx ds)).data.toList = tx ds from rfl, e] at this
  exact this
/-- A text that may be a great number, and its digits. -/
def Gs (s : ByteArray) (ds : List Nat) : Prop := Gt ds ∧ Bt s (by' ds)
theorem Gs.txt {ds : List Nat} (h : Gt ds) : Gs (bsX (tx ds)) ds := ⟨h, Bt.txt h.1⟩
theorem Gs.text {s : ByteArray} {ds : List Nat} (h : Gs s ds) : s = bsX (tx ds) := h.2.eq (Bt.txt h.1.1)
theorem Gs.size {s : ByteArray} {ds : List Nat} (h : Gs s ds) : s.size = ds.length := by rw [h.2.1, by'_length]
theorem Gs.byte {s : ByteArray} {ds : List Nat} (h : Gs s ds) (i : Nat) (hi : i < ds.length) (hs : i < s.size) : (s[i]'hs).toNat = 48 + ds.getD i 0 := by rw [h.2.2 i hs, by'_get ds i hi]
theorem Gs.dg {s : ByteArray} {ds : List Nat} (h : Gs s ds) (i : Nat) : ds.getD i 0 ≤ 9 := by
  rcases Nat.lt_or_ge i ds.length with q | q
  · rw [show ds.getD i 0 = ds[i] by simp [List.getD, q]]; exact h.1.1 _ (List.getElem_mem q)
  · rw [List.getD, List.getElem?_eq_none q]; decide
theorem Gs.same {s t : ByteArray} {a b : List Nat} (h : Gs s a) (h' : Gs t b) (hv : val a = val b) : s = t := by
  have e := h.1.one h'.1 hv
  subst e
  exact h.2.eq h'.2


end Go.Proofs.YtmggccepmicjhagGreatDoor

/-! What strconv.FormatUint answers, to base 10: the digits of a number. -/
namespace Go.Proofs.YtmggccepmicjhagGreatDoor
open Go.RowKit Go.Sort Go.Lib

set_option maxHeartbeats 6400000 in
set_option maxRecDepth 100000 in
theorem fmtu_in (u : Nat) (hu64 : u < 18446744073709551616) (w : World) (ht : Tab w) :
    Calls Tryz.prog 107 #[.int .u64 u, .int .i64 10] w fun e w' => e = .returned (.string (bsX (Lib.decDigits u))) ∧ ∃ k os, w' = grow (w.drewN k) os := by
  have htab := ht.2.1
  by_cases hs : u < 100
  · have hu : (u : Int) < 100 := by omega
    have hwr : IntKind.i64.wrap (u : Int) = (u : Int) := by rw [IntKind.wrap_i64]; omega
    have c := fun W => Tryz.internal_strconv_small u hs W
    go_enter Tryz.func107, Tryz.ntmps107
    go_wp2_with (go_at_call 80; refine (c _).mono ?_; rintro e w' ⟨rfl, rfl⟩)
    go_ret
    exact ⟨rfl, 0, #[], by simp [World.drewN_zero]⟩
  · have hu1 : 1 ≤ u := by omega
    have hnd20 : Lib.nDigits u ≤ 20 := by have := Lib.numDigits_eq u hu1 hu64; split at this <;> omega
    have hal : Tryz.prog.arrayLen 106 = 24 := by kernel_rfl
    have hsl : ∀ W, (Instr.sliceAt 106 (.pointer (some ⟨w.heap.size, 0, none⟩)) none (some (.int .i64 (Lib.nDigits u : Int))) none).run Tryz.prog W = .ok (.slice (some ⟨w.heap.size, 0, none⟩) (Lib.nDigits u) 24) W := fun W => by
      rw [run_sliceAt_array_h W 106 ⟨w.heap.size, 0, none⟩ (by kernel_rfl) .i64 (Lib.nDigits u : Int) (by omega) (by rw [hal]; omega), hal]
      go_simp
    have hH0 := Lib.holds_zero0 w 106 (Lib.nDigits u) (by omega)
    have hfmt := Tryz.internal_strconv_formatBase10 w.heap.size 0 24 u (Array.replicate (Lib.nDigits u) 0) (w.alloc (.cells Lib.zeros24 106)) hH0 (by rw [Array.size_replicate]; exact Lib.lt_pow_nDigits u) hu64 (by rw [Array.size_replicate]; omega)
    rw [Array.size_replicate] at hfmt
    have HH0 := Lib.hid hH0
    have iu : (100 : Int) ≤ (u : Int) := by omega
    have cN := fun W (hT : Lib.TabIs Tryz.prog W "internal/strconv.uint64pow10" .u64 Lib.pow10Tab) => Tryz.internal_strconv_numDigits u hu1 hu64 W hT
    clear hH0 hal
    go_enter Tryz.func107, Tryz.ntmps107
    go_wp2_with (go_at_call 81; refine (cN _ (Lib.tabIs_alloc htab _)).mono ?_; rintro e w' ⟨rfl, rfl⟩)
    go_at_call 82
    refine hfmt.mono ?_
    rintro e w' ⟨rfl, k, v', dk, rfl, hF⟩
    have hcv : (convert 31 9 (.slice (some ⟨w.heap.size, 0, none⟩) (Lib.nDigits u) 24)).run Tryz.prog ((putRow (fun (b : UInt8) => Value.int .u8 (b.toNat : Int)) (w.alloc (.cells Lib.zeros24 106)) w.heap.size 0 dk).drewN k) = .ok (.string ⟨(Lib.decDigits u).toArray⟩) ((putRow (fun (b : UInt8) => Value.int .u8 (b.toNat : Int)) (w.alloc (.cells Lib.zeros24 106)) w.heap.size 0 dk).drewN k) := by
      have h := run_convert_bytes_back (P := Tryz.prog) ((putRow (fun (b : UInt8) => Value.int .u8 (b.toNat : Int)) (w.alloc (.cells Lib.zeros24 106)) w.heap.size 0 dk).drewN k) 31 9 5 ⟨w.heap.size, 0, none⟩ 24 (Lib.decDigits u) Tryz.underlying31 Tryz.underlying5 Tryz.underlying9 (fun j hj => by
        rw [Lib.row_is_numeral hF j hj, Lib.add_plain, World.cell?_drewN]
        exact cell?_putRow (fun (b : UInt8) => Value.int .u8 (b.toNat : Int)) _ w.heap.size 0 _ dk HH0.out (by rw [hF.size, Array.size_replicate]) j (by rw [hF.size]; rw [Lib.decDigits_length] at hj; exact hj))
      rw [Lib.decDigits_length] at h
      exact h
    go_wp2
    go_ret
    obtain ⟨os, eo⟩ := Lib.fin_at w (.cells Lib.zeros24 106) dk k 0
    exact ⟨rfl, k, os, eo⟩
theorem below_grow0 (w : World) (n : Nat) (os : Array Obj) : Below w.heap.size w (grow (w.drewN n) os) := by
  refine ⟨rfl, rfl, rfl, ?_, fun j hj => ?_⟩
  · simp [grow]
  · show ((w.drewN n).heap ++ os)[j]? = w.heap[j]?
    exact Array.getElem?_append_left hj
set_option maxRecDepth 100000 in
theorem fmtu (u : Nat) (hu64 : u < 18446744073709551616) (w : World) (ht : Tab w) :
    Calls Tryz.prog 86 #[.int .u64 u, .int .i64 10] w fun e w' => e = .returned (.string (bsX (Lib.decDigits u))) ∧ Below w.heap.size w w' := by
  have c := fun W hT => fmtu_in u hu64 W hT
  go_enter Tryz.func86, Tryz.ntmps86
  go_wp2_with (go_at_call 107; refine (c _ ht).mono ?_; rintro e w' ⟨rfl, k, os, rfl⟩)
  go_ret
  exact ⟨rfl, below_grow0 w k os⟩
/-- The digits of a limb, the noughts ahead left out. -/
theorem fmtu_top (x : Nat) (hx : x < 100000000) (w : World) (ht : Tab w) :
    Calls Tryz.prog 86 #[.int .u64 x, .int .i64 10] w fun e w' => ∃ c, e = .returned (.string (bsX (tx c))) ∧ Gt c ∧ val c = x ∧ Below w.heap.size w w' := by
  obtain ⟨c, h1, h2, h3⟩ := dec_tx x
  refine (fmtu x (by omega) w ht).mono ?_
  rintro e w' ⟨rfl, hb⟩
  exact ⟨c, by rw [h3], h1, h2, hb⟩
/-- The digits of a limb, a 1 ahead of them. -/
theorem fmtu_pad (x : Nat) (hx : x < 100000000) (w : World) (ht : Tab w) :
    Calls Tryz.prog 86 #[.int .u64 (100000000 + (x : Int)), .int .i64 10] w fun e w' => ∃ t, e = .returned (.string (bsX (49 :: tx t))) ∧ Dg t ∧ t.length = 8 ∧ val t = x ∧ Below w.heap.size w w' := by
  obtain ⟨t, h1, h2, h3, h4⟩ := pad8 hx
  have c := fmtu (100000000 + x) (by omega) w ht
  rw [show ((100000000 + x : Nat) : Int) = 100000000 + (x : Int) by omega] at c
  refine c.mono ?_
  rintro e w' ⟨rfl, hb⟩
  exact ⟨t, by rw [h4], h1, h2, h3, hb⟩

end Go.Proofs.YtmggccepmicjhagGreatDoor

/-! One number is appended to a slice that the call itself made: what is owned behind it; nothing that was there is written. -/
namespace Go.Proofs.YtmggccepmicjhagGreatDoor
open Go.RowKit
set_option maxRecDepth 100000

theorem info_u64 : (Tryz.prog.info? 77).map (fun i => (i.zero, i.size, i.bytes)) = some (some (.int .u64 0), 1, 8) := by kernel_rfl

theorem wp_append1 {ops : Array Oper} {rest : List Oper} {o : Oper} {a : Act} {Q : Exit → Act → World → Prop} {w w0 : World} (hgd : o.guard = none) (s x : Operand)
    (ho : o.op = .call { callee := .builtin .append, args := #[s, x], argTypes := #[73, 73] }) (v : Value) (n : Nat) (xs : List Value) (z : Nat)
    (hs : a.eval s = v) (hown : w.ownsRow w0.heap.size 77 1 v n xs) (hx : a.eval x = .slice (some ⟨w.heap.size, 0, none⟩) 1 1)
    (hn : n ≤ 1000000000) (hnx : Below w0.heap.size w0 w)
    (h : ∀ v' w', w'.ownsRow w0.heap.size 77 1 v' (n + 1) (xs ++ [.int .u64 (z : Int)]) → Below w0.heap.size w0 w' → wpList Tryz.prog ops Q rest (a.put o.dst v') w') :
    wpList Tryz.prog ops Q (o :: rest) a (w.alloc (.cells #[.int .u64 (z : Int)] 77)) := by
  obtain ⟨i0, hi, hz0, hz1, hz2⟩ := info_parts info_u64
  have hsz := hnx.size
  refine wpList_append_own _ hgd s x 73 ho w0.heap.size 77 i0 (.int .u64 0) 1 8 Tryz.underlying73 hi hz0 hz1 hz2 rfl (by decide) v n xs hs (hown.alloc _) ⟨w.heap.size, 0, none⟩ 1 1 [.int .u64 (z : Int)] hx rfl ?_ ?_ ?_ ?_ ?_ ?_
  · intro j u hj
    match j, hj with
    | 0, hj => simp at hj; subst hj; simp [Addr.add]
  · intro u hu; simp at hu; subst hu; rfl
  · unfold maxLen; omega
  · omega
  · simp; omega
  · intro v' w' hown' hgrow _
    exact h v' w' hown' ((hnx.alloc hsz _).grown hgrow (by simp; omega) (owns_block hown))

/-- The slice v is a row of the call's own (from block B on) that holds the numbers xs. -/
def Ow (B : Nat) (w : World) (v : Value) (xs : List Nat) : Prop := w.ownsRow B 77 1 v xs.length (cellsU xs)
theorem Ow.isU {B : Nat} {w : World} {v : Value} {xs : List Nat} (h : Ow B w v xs) (hr : ∀ x ∈ xs, (x : Int) < 18446744073709551616) : IsU w v xs := IsU.of_owns h hr
theorem Ow.mono {B B' : Nat} {w : World} {v : Value} {xs : List Nat} (h : Ow B' w v xs) (hB : B ≤ B') : Ow B w v xs := by
  refine ⟨h.1, ?_⟩
  rcases h.2 with h2 | ⟨g, cap, cur, hv, hg, r⟩
  · exact Or.inl h2
  · exact Or.inr ⟨g, cap, cur, hv, Nat.le_trans hB hg, r⟩
theorem Ow.below {B : Nat} {w w' : World} {v : Value} {xs : List Nat} (h : Ow B w v xs) (hb : Below w.heap.size w w') : Ow B w' v xs := owns_below h hb
theorem Ow.nil (B : Nat) (w : World) : Ow B w (.slice none 0 0) [] := World.ownsRow_nil _ _ _ _

end Go.Proofs.YtmggccepmicjhagGreatDoor

/-! What number, numbers, wrong, said, kind and small of package goldref answer. -/
namespace Go.Proofs.YtmggccepmicjhagGreatDoor
open Go.RowKit
set_option maxRecDepth 100000

/-- A number, or 10^9. -/
def smN (n : Nat) : Nat := if 1000000000 < n then 1000000000 else n
theorem smN_le (n : Nat) : smN n ≤ 1000000000 := by unfold smN; split <;> omega
theorem nv_wrap (n x : Nat) : IntKind.u64.wrap (IntKind.u64.wrap (IntKind.u64.wrap ((n : Int) * 10) + IntKind.u64.wrap (x : Int)) - 48) = (((n * 10 + x + 18446744073709551568) % 18446744073709551616 : Nat) : Int) := by
  rw [IntKind.wrap_u64, IntKind.wrap_u64, IntKind.wrap_u64, IntKind.wrap_u64]
  omega
/-- One number more. -/
theorem wp_appO {ops : Array Oper} {rest : List Oper} {o : Oper} {a : Act} {Q : Exit → Act → World → Prop} {w w0 : World} (hgd : o.guard = none) (s x : Operand)
    (ho : o.op = .call { callee := .builtin .append, args := #[s, x], argTypes := #[73, 73] }) (v : Value) (L : List Nat) (z : Nat)
    (hs : a.eval s = v) (hown : Ow w0.heap.size w v L) (hx : a.eval x = .slice (some ⟨w.heap.size, 0, none⟩) 1 1)
    (hn : L.length ≤ 1000000000) (hnx : Below w0.heap.size w0 w)
    (h : ∀ v' w', Ow w0.heap.size w' v' (L ++ [z]) → Below w0.heap.size w0 w' → wpList Tryz.prog ops Q rest (a.put o.dst v') w') :
    wpList Tryz.prog ops Q (o :: rest) a (w.alloc (.cells #[.int .u64 (z : Int)] 77)) := by
  refine wp_append1 (w0 := w0) hgd s x ho v L.length (cellsU L) z hs hown hx hn hnx fun v' w' h1 h2 => h v' w' ?_ h2
  unfold Ow
  rw [List.length_append, cellsU_append]
  exact h1
theorem numsL_snoc (L : List (List UInt8)) (i : Nat) (h : i < L.length) : numsL (L.take (i + 1)) = numsL (L.take i) ++ [nv (L.getD i [])] := by
  have e : L.getD i [] = L[i] := by simp [List.getD, h]
  unfold numsL
  rw [List.take_succ_eq_append_getElem h, List.map_append, e]
  rfl
theorem numsB_step (L : List (List UInt8)) (i : Nat) (h : i < L.length) : numsB (L.take (i + 1)) = (numsB (L.take i) && numB (L.getD i [])) := by
  have e : L.getD i [] = L[i] := by simp [List.getD, h]
  unfold numsB
  rw [List.take_succ_eq_append_getElem h, List.all_append, e]
  simp
theorem numsB_bad {L : List (List UInt8)} {i : Nat} (h : i < L.length) (hb : numB (L.getD i []) = false) : numsB L = false := by
  have e : L.getD i [] = L[i] := by simp [List.getD, h]
  unfold numsB
  rw [List.all_eq_false]
  exact ⟨L[i], List.getElem_mem h, by rw [← e, hb]; decide⟩
theorem numsL_rng (L : List (List UInt8)) : ∀ x ∈ numsL L, (x : Int) < 18446744073709551616 := fun x hx => by
  obtain ⟨l, _, rfl⟩ := List.mem_map.mp hx
  have := nv_lt l
  omega
/-- What numbers answers. -/
def numA (L : List (List UInt8)) : List Nat := if numsB L = true then numsL L else []
theorem numA_rng (L : List (List UInt8)) : ∀ x ∈ numA L, (x : Int) < 18446744073709551616 := fun x hx => by
  unfold numA at hx
  split at hx
  · exact numsL_rng L x hx
  · cases hx
end Go.Proofs.YtmggccepmicjhagGreatDoor

/-! What said of package goldref answers: numbers told with one blank between. -/
namespace Go.Proofs.YtmggccepmicjhagGreatDoor
open Go.RowKit
set_option maxRecDepth 100000

theorem fmtu_bs (u : Nat) (hu64 : u < 18446744073709551616) (w : World) (ht : Tab w) :
    Calls Tryz.prog 86 #[.int .u64 u, .int .i64 10] w fun e w' => e = .returned (.string (bs (Lib.decDigits u))) ∧ Below w.heap.size w w' := fmtu u hu64 w ht
theorem jnK_succ (l : List Nat) (k : Nat) : jnK l (k + 1) = (if 0 < k then jnK l k ++ [32] else jnK l k) ++ Lib.decDigits (l.getD k 0) := rfl
end Go.Proofs.YtmggccepmicjhagGreatDoor

/-! What strings.HasPrefix answers of a text and what it begins with. -/
namespace Go.Proofs.YtmggccepmicjhagGreatDoor
open Go.RowKit
set_option maxRecDepth 100000

theorem bs_front (a b : List UInt8) : (bs (a ++ b)).extract 0 a.length = bs a := by
  have e : ((bs (a ++ b)).extract 0 a.length).data = (a ++ b).toArray.extract 0 a.length := ByteArray.data_extract
  have e2 : ((bs (a ++ b)).extract 0 a.length).data.toList = a := by
    rw [e]
    simp [List.extract]
  rw [bs_toList ((bs (a ++ b)).extract 0 a.length), e2]
theorem has_prefix_in (w : World) (a b : List UInt8) :
    Calls Tryz.prog 19 #[.string (bs (a ++ b)), .string (bs a)] w fun e w' => e = .returned (.bool true) ∧ w' = w := by
  have h1 : (bs (a ++ b)).size = a.length + b.length := by rw [bs_size, List.length_append]
  have h2 : (bs a).size = a.length := bs_size a
  have h3 := bs_front a b
  have hle : (a.length : Int) ≤ ((a.length + b.length : Nat) : Int) := by omega
  have hle2 : a.length ≤ a.length + b.length := by omega
  generalize a.length + b.length = n at *
  generalize a.length = m at *
  generalize bs (a ++ b) = S at *
  generalize bs a = T at *
  go_enter Tryz.func19, Tryz.ntmps19
  go_wp2
  go_ret
  exact ⟨by simp, rfl⟩
theorem has_prefix (w : World) (a b : List UInt8) :
    Calls Tryz.prog 7 #[.string (bs (a ++ b)), .string (bs a)] w fun e w' => e = .returned (.bool true) ∧ w' = w := by
  have c := has_prefix_in w a b
  generalize bs (a ++ b) = S at *
  generalize bs a = T at *
  go_enter Tryz.func7, Tryz.ntmps7
  go_wp2_with (go_at_call 19; refine Calls.mono c ?_; rintro e w' ⟨rfl, hw⟩; rw [hw]; clear hw)
  go_ret
  exact ⟨rfl, rfl⟩

end Go.Proofs.YtmggccepmicjhagGreatDoor
