/-
  Texts that stood one behind the other, as one.
-/
import Derived.Test.YtmggccepmicjhacGreatDoorBigM
import Derived.WalkKit
import Derived.Laws.Concat
import Derived.Test.YtmggccepmicjhacGreatDoorSlAll
import Derived.Test.YtmggccepmicjhacGreatDoorRefPcsAll
import Derived.Test.YtmggccepmicjhacGreatDoorBigL
import Derived.Lib.Walk
import Derived.Lib.ItoaMem
import Derived.Lib.AppendIntMem
import Derived.BigCall
import Derived.BigGuard
import Derived.Test.YtmggccepmicjhacGreatDoorRows
/-! Texts by their bytes; what Great of package goldref answers: may a text be a great number? -/
namespace Go.Proofs.YtmggccepmicjhacGreatDoor
open Go.RowKit
set_option maxRecDepth 100000

/-- A text by its bytes. -/
def bsX (l : List UInt8) : ByteArray := ⟨l.toArray⟩
theorem bsX_append (a b : List UInt8) : bsX a ++ bsX b = bsX (a ++ b) := ByteArray.mk_append_mk a b
/-- A text reads as these bytes. -/
def Bt (s : ByteArray) (X : List Nat) : Prop := s.size = X.length ∧ ∀ i (h : i < s.size), (s[i]'h).toNat = X.getD i 0
theorem Bt.all (s : ByteArray) : Bt s (s.data.toList.map fun b => b.toNat) := by
  refine ⟨by rw [List.length_map, Array.length_toList]; rfl, fun i h => ?_⟩
  have h' : i < s.data.size := h
  rw [ByteArray.getElem_eq_getElem_data]
  simp only [List.getD, List.getElem?_map, Array.getElem?_toList, Array.getElem?_eq_getElem h', Option.map_some, Option.getD_some]
theorem Bt.lt {s : ByteArray} {X : List Nat} (h : Bt s X) (i : Nat) : X.getD i 0 < 256 := by
  rcases Nat.lt_or_ge i X.length with q | q
  · rw [← h.2 i (by rw [h.1]; exact q)]
    exact UInt8.toNat_lt _
  · rw [List.getD, List.getElem?_eq_none q]; decide
theorem Bt.eq {s t : ByteArray} {X : List Nat} (h : Bt s X) (h' : Bt t X) : s = t := by
  have hs : s.data.size = t.data.size := by have := h.1; have := h'.1; simp only [ByteArray.size] at *; omega
  have : s.data = t.data := by
    apply Array.ext hs
    intro i h1 h2
    have a1 := h.2 i h1
    have a2 := h'.2 i h2
    rw [ByteArray.getElem_eq_getElem_data] at a1 a2
    exact UInt8.toNat_inj.mp (a1.trans a2.symm)
  cases s; cases t; simp_all
/-- The bytes of digits. -/
def by' (ds : List Nat) : List Nat := ds.map fun d => 48 + d
theorem by'_length (ds : List Nat) : (by' ds).length = ds.length := by simp [by']
theorem by'_get (ds : List Nat) (i : Nat) (h : i < ds.length) : (by' ds).getD i 0 = 48 + ds.getD i 0 := by simp [by', List.getD, h]
theorem Bt.txt {ds : List Nat} (h : Dg ds) : Bt (bsX (tx ds)) (by' ds) := by
  have e : (tx ds).map (fun b => b.toNat) = by' ds := by
    unfold tx by'
    rw [List.map_map]
    refine List.map_congr_left fun d hd => ?_
    have := h d hd
    simp only [Function.comp, UInt8.toNat_ofNat']
    omega
  have := Bt.all (bsX (tx ds))
  rw [show (bsX (tx ds)).data.toList = tx ds from rfl, e] at this
  exact this
/-- A text that may be a great number, and its digits. -/
def Gs (s : ByteArray) (ds : List Nat) : Prop := Gt ds ∧ Bt s (by' ds)
theorem Gs.txt {ds : List Nat} (h : Gt ds) : Gs (bsX (tx ds)) ds := ⟨h, Bt.txt h.1⟩
theorem Gs.text {s : ByteArray} {ds : List Nat} (h : Gs s ds) : s = bsX (tx ds) := h.2.eq (Bt.txt h.1.1)
theorem Gs.size {s : ByteArray} {ds : List Nat} (h : Gs s ds) : s.size = ds.length := by rw [h.2.1, by'_length]
theorem Gs.byte {s : ByteArray} {ds : List Nat} (h : Gs s ds) (i : Nat) (hi : i < ds.length) (hs : i < s.size) : (s[i]'hs).toNat = 48 + ds.getD i 0 := by rw [h.2.2 i hs, by'_get ds i hi]
theorem Gs.dg {s : ByteArray} {ds : List Nat} (h : Gs s ds) (i : Nat) : ds.getD i 0 ≤ 9 := by
  rcases Nat.lt_or_ge i ds.length with q | q
  · rw [show ds.getD i 0 = ds[i] by simp [List.getD, q]]; exact h.1.1 _ (List.getElem_mem q)
  · rw [List.getD, List.getElem?_eq_none q]; decide
theorem Gs.same {s t : ByteArray} {a b : List Nat} (h : Gs s a) (h' : Gs t b) (hv : val a = val b) : s = t := by
  have e := h.1.one h'.1 hv
  subst e
  exact h.2.eq h'.2

theorem ref_Great_large (w : World) (s : ByteArray) (h : 2000 < s.size) :
    Calls Tryz.prog 32 #[.string s] w fun e w' => e = .returned (.int .i64 2) ∧ w' = w := by
  go_enter Tryz.func32, Tryz.ntmps32
  go_wp2
  go_ret
  exact ⟨rfl, rfl⟩
set_option maxHeartbeats 1000000 in
theorem ref_Great_ok (w : World) (s : ByteArray) (ds : List Nat) (h : Gs s ds) (h9 : ds.length ≤ 2000) :
    Calls Tryz.prog 32 #[.string s] w fun e w' => e = .returned (.int .i64 0) ∧ w' = w := by
  have hsz := h.size
  have hby : Hid (∀ i, i < ds.length → ∀ hs : i < s.size, (s[i]'hs).toNat = 48 + ds.getD i 0) := h.byte
  have hdg : Hid (∀ i, ds.getD i 0 ≤ 9) := h.dg
  have hne : ds.length ≠ 0 := fun e => h.1.2.1 (List.eq_nil_of_length_eq_zero e)
  have hhd : Hid (2 ≤ ds.length → ds.getD 0 0 ≠ 0) := fun q => by
    have := h.1.2.2 q
    cases ds with
    | nil => simp at q
    | cons d l => exact this
  clear h
  generalize hn : ds.length = n at *
  clear hn
  go_enter Tryz.func32, Tryz.ntmps32
  go_wp2
  go_loopw [3] (fun vi wr => ∃ (i : Nat), i ≤ n ∧ vi = .int .i64 (i : Int) ∧ wr = w)
    (fun vi _ => n - (intOf vi).toNat)
  case atStart => exact ⟨0, Nat.zero_le _, rfl, rfl⟩
  case round =>
    obtain ⟨i, hi, rfl, hwr⟩ := hrel
    rw [hwr]
    by_cases hlt : i < n
    · have hb := hby.out i hlt
      have hd := hdg.out i
      generalize ds.getD i 0 = d at *
      go_wp2
      go_roundw
      case rel => exact ⟨i + 1, by omega, by go_num, by trivial⟩
      case measure => simp only [intOf]; omega
    · have hge : n ≤ i := by omega
      have hn0 : ((n : Int) == 0) = false := by rw [beq_eq_false_iff_ne]; omega
      rcases Nat.lt_or_ge 1 n with h1 | h1
      · have hb := hby.out 0 (by omega)
        have hd := hhd.out (by omega)
        have hd2 := hdg.out 0
        generalize ds.getD 0 0 = d at *
        have hd3 : (48 + (d : Int) == 48) = false := by rw [beq_eq_false_iff_ne]; omega
        go_wp2
        go_ret
        exact ⟨rfl, rfl⟩
      · have h1' : n = 1 := by omega
        subst h1'
        go_wp2
        go_ret
        exact ⟨rfl, rfl⟩
set_option maxHeartbeats 1000000 in
theorem ref_Great_bad (w : World) (s : ByteArray) (h9 : s.size ≤ 2000) (hno : ∀ ds, ¬ Gs s ds) :
    Calls Tryz.prog 32 #[.string s] w fun e w' => e = .returned (.int .i64 3) ∧ w' = w := by
  obtain ⟨X, hX⟩ : ∃ X, Bt s X := ⟨_, Bt.all s⟩
  have hsz := hX.1
  have hby : Hid (∀ i, i < X.length → ∀ hs : i < s.size, (s[i]'hs).toNat = X.getD i 0) := fun i _ hs => hX.2 i hs
  have h256 : Hid (∀ i, X.getD i 0 < 256) := hX.lt
  have hend : Hid ((∀ i, i < X.length → 48 ≤ X.getD i 0 ∧ X.getD i 0 ≤ 57) → X.length = 0 ∨ (2 ≤ X.length ∧ X.getD 0 0 = 48)) := fun hd => by
    rcases Nat.eq_zero_or_pos X.length with q | q
    · exact .inl q
    · right
      have hXe : by' (X.map fun x => x - 48) = X := by
        unfold by'
        rw [List.map_map]
        conv => rhs; rw [← List.map_id X]
        refine List.map_congr_left fun x hx => ?_
        obtain ⟨i, hi, rfl⟩ := List.mem_iff_getElem.mp hx
        have := hd i hi
        rw [show X.getD i 0 = X[i] by simp [List.getD, hi]] at this
        simp only [Function.comp, id]
        omega
      have hDg : Dg (X.map fun x => x - 48) := fun d hd2 => by
        obtain ⟨x, hx, rfl⟩ := List.mem_map.mp hd2
        obtain ⟨i, hi, rfl⟩ := List.mem_iff_getElem.mp hx
        have := hd i hi
        rw [show X.getD i 0 = X[i] by simp [List.getD, hi]] at this
        omega
      have hn := hno (X.map fun x => x - 48)
      by_cases h2 : 2 ≤ X.length
      · refine ⟨h2, ?_⟩
        by_cases h0 : X.getD 0 0 = 48
        · exact h0
        · exfalso
          refine hn ⟨⟨hDg, fun e => ?_, fun _ => ?_⟩, by rw [hXe]; exact hX⟩
          · have := congrArg List.length e; simp at this; rw [this] at q; simp at q
          · cases X with
            | nil => simp at q
            | cons x X =>
              have h48 := hd 0 (by simp)
              simp only [List.getD_cons_zero] at h0 h48
              simp only [List.map_cons, List.headD_cons]
              omega
      · exfalso
        refine hn ⟨⟨hDg, fun e => ?_, fun e => ?_⟩, by rw [hXe]; exact hX⟩
        · have := congrArg List.length e; simp at this; rw [this] at q; simp at q
        · simp at e; omega
  clear hno hX
  generalize hn : X.length = n at *
  clear hn
  go_enter Tryz.func32, Tryz.ntmps32
  go_wp2
  go_loopw [3] (fun vi wr => ∃ (i : Nat), i ≤ n ∧ vi = .int .i64 (i : Int) ∧ Hid (∀ j, j < i → 48 ≤ X.getD j 0 ∧ X.getD j 0 ≤ 57) ∧ wr = w)
    (fun vi _ => n - (intOf vi).toNat)
  case atStart => exact ⟨0, Nat.zero_le _, rfl, fun j hj => absurd hj (by omega), rfl⟩
  case round =>
    obtain ⟨i, hi, rfl, hall, hwr⟩ := hrel
    rw [hwr]
    by_cases hlt : i < n
    · have hb := hby.out i hlt
      have h25 := h256.out i
      by_cases hg : 48 ≤ X.getD i 0 ∧ X.getD i 0 ≤ 57
      · have hall2 : Hid (∀ j, j < i + 1 → 48 ≤ X.getD j 0 ∧ X.getD j 0 ≤ 57) := fun j hj => by
          rcases Nat.lt_or_ge j i with q | q
          · exact hall.out j q
          · obtain rfl : j = i := by omega
            exact hg
        obtain ⟨g1, g2⟩ := hg
        generalize X.getD i 0 = x at *
        go_wp2
        go_roundw
        case rel => exact ⟨i + 1, by omega, by go_num, hall2, by trivial⟩
        case measure => simp only [intOf]; omega
      · generalize X.getD i 0 = x at *
        rcases Nat.lt_or_ge x 48 with q | q
        · go_wp2
          go_ret
          exact ⟨rfl, rfl⟩
        · have q2 : 57 < x := by omega
          clear hg
          go_wp2
          go_ret
          exact ⟨rfl, rfl⟩
    · have hge : n ≤ i := by omega
      rcases hend.out (fun j hj => hall.out j (by omega)) with h0 | ⟨h2, h0⟩
      · subst h0
        go_wp2
        go_ret
        exact ⟨rfl, rfl⟩
      · have hb := hby.out 0 (by omega)
        rw [h0] at hb
        have hn0 : ((n : Int) == 0) = false := by rw [beq_eq_false_iff_ne]; omega
        have hn1 : (1 : Int) < (n : Int) := by omega
        go_wp2
        go_ret
        exact ⟨rfl, rfl⟩

end Go.Proofs.YtmggccepmicjhacGreatDoor

/-! What strconv.FormatUint answers, to base 10: the digits of a number. -/
namespace Go.Proofs.YtmggccepmicjhacGreatDoor
open Go.RowKit Go.Sort Go.Lib

set_option maxHeartbeats 6400000 in
set_option maxRecDepth 100000 in
theorem fmtu_in (u : Nat) (hu64 : u < 18446744073709551616) (w : World) (ht : Tab w) :
    Calls Tryz.prog 100 #[.int .u64 u, .int .i64 10] w fun e w' => e = .returned (.string (bsX (Lib.decDigits u))) ∧ ∃ k os, w' = grow (w.drewN k) os := by
  have htab := ht.2.1
  by_cases hs : u < 100
  · have hu : (u : Int) < 100 := by omega
    have hwr : IntKind.i64.wrap (u : Int) = (u : Int) := by rw [IntKind.wrap_i64]; omega
    have c := fun W => Tryz.internal_strconv_small u hs W
    go_enter Tryz.func100, Tryz.ntmps100
    go_wp2_with (go_at_call 103; refine (c _).mono ?_; rintro e w' ⟨rfl, rfl⟩)
    go_ret
    exact ⟨rfl, 0, #[], by simp [World.drewN_zero]⟩
  · have hu1 : 1 ≤ u := by omega
    have hnd20 : Lib.nDigits u ≤ 20 := by have := Lib.numDigits_eq u hu1 hu64; split at this <;> omega
    have hal : Tryz.prog.arrayLen 121 = 24 := by kernel_rfl
    have hsl : ∀ W, (Instr.sliceAt 121 (.pointer (some ⟨w.heap.size, 0, none⟩)) none (some (.int .i64 (Lib.nDigits u : Int))) none).run Tryz.prog W = .ok (.slice (some ⟨w.heap.size, 0, none⟩) (Lib.nDigits u) 24) W := fun W => by
      rw [run_sliceAt_array_h W 121 ⟨w.heap.size, 0, none⟩ (by kernel_rfl) .i64 (Lib.nDigits u : Int) (by omega) (by rw [hal]; omega), hal]
      go_simp
    have hH0 := Lib.holds_zero0 w 121 (Lib.nDigits u) (by omega)
    have hfmt := Tryz.internal_strconv_formatBase10 w.heap.size 0 24 u (Array.replicate (Lib.nDigits u) 0) (w.alloc (.cells Lib.zeros24 121)) hH0 (by rw [Array.size_replicate]; exact Lib.lt_pow_nDigits u) hu64 (by rw [Array.size_replicate]; omega)
    rw [Array.size_replicate] at hfmt
    have HH0 := Lib.hid hH0
    have iu : (100 : Int) ≤ (u : Int) := by omega
    have cN := fun W (hT : Lib.TabIs Tryz.prog W "internal/strconv.uint64pow10" .u64 Lib.pow10Tab) => Tryz.internal_strconv_numDigits u hu1 hu64 W hT
    clear hH0 hal
    go_enter Tryz.func100, Tryz.ntmps100
    go_wp2_with (go_at_call 104; refine (cN _ (Lib.tabIs_alloc htab _)).mono ?_; rintro e w' ⟨rfl, rfl⟩)
    go_at_call 105
    refine hfmt.mono ?_
    rintro e w' ⟨rfl, k, v', dk, rfl, hF⟩
    have hcv : (convert 29 9 (.slice (some ⟨w.heap.size, 0, none⟩) (Lib.nDigits u) 24)).run Tryz.prog ((putRow (fun (b : UInt8) => Value.int .u8 (b.toNat : Int)) (w.alloc (.cells Lib.zeros24 121)) w.heap.size 0 dk).drewN k) = .ok (.string ⟨(Lib.decDigits u).toArray⟩) ((putRow (fun (b : UInt8) => Value.int .u8 (b.toNat : Int)) (w.alloc (.cells Lib.zeros24 121)) w.heap.size 0 dk).drewN k) := by
      have h := run_convert_bytes_back (P := Tryz.prog) ((putRow (fun (b : UInt8) => Value.int .u8 (b.toNat : Int)) (w.alloc (.cells Lib.zeros24 121)) w.heap.size 0 dk).drewN k) 29 9 5 ⟨w.heap.size, 0, none⟩ 24 (Lib.decDigits u) Tryz.underlying29 Tryz.underlying5 Tryz.underlying9 (fun j hj => by
        rw [Lib.row_is_numeral hF j hj, Lib.add_plain, World.cell?_drewN]
        exact cell?_putRow (fun (b : UInt8) => Value.int .u8 (b.toNat : Int)) _ w.heap.size 0 _ dk HH0.out (by rw [hF.size, Array.size_replicate]) j (by rw [hF.size]; rw [Lib.decDigits_length] at hj; exact hj))
      rw [Lib.decDigits_length] at h
      exact h
    go_wp2
    go_ret
    obtain ⟨os, eo⟩ := Lib.fin_at w (.cells Lib.zeros24 121) dk k 0
    exact ⟨rfl, k, os, eo⟩
theorem below_grow0 (w : World) (n : Nat) (os : Array Obj) : Below w.heap.size w (grow (w.drewN n) os) := by
  refine ⟨rfl, rfl, rfl, ?_, fun j hj => ?_⟩
  · simp [grow]
  · show ((w.drewN n).heap ++ os)[j]? = w.heap[j]?
    exact Array.getElem?_append_left hj
set_option maxRecDepth 100000 in
theorem fmtu (u : Nat) (hu64 : u < 18446744073709551616) (w : World) (ht : Tab w) :
    Calls Tryz.prog 61 #[.int .u64 u, .int .i64 10] w fun e w' => e = .returned (.string (bsX (Lib.decDigits u))) ∧ Below w.heap.size w w' := by
  have c := fun W hT => fmtu_in u hu64 W hT
  go_enter Tryz.func61, Tryz.ntmps61
  go_wp2_with (go_at_call 100; refine (c _ ht).mono ?_; rintro e w' ⟨rfl, k, os, rfl⟩)
  go_ret
  exact ⟨rfl, below_grow0 w k os⟩
/-- The digits of a limb, the noughts ahead left out. -/
theorem fmtu_top (x : Nat) (hx : x < 100000000) (w : World) (ht : Tab w) :
    Calls Tryz.prog 61 #[.int .u64 x, .int .i64 10] w fun e w' => ∃ c, e = .returned (.string (bsX (tx c))) ∧ Gt c ∧ val c = x ∧ Below w.heap.size w w' := by
  obtain ⟨c, h1, h2, h3⟩ := dec_tx x
  refine (fmtu x (by omega) w ht).mono ?_
  rintro e w' ⟨rfl, hb⟩
  exact ⟨c, by rw [h3], h1, h2, hb⟩
/-- The digits of a limb, a 1 ahead of them. -/
theorem fmtu_pad (x : Nat) (hx : x < 100000000) (w : World) (ht : Tab w) :
    Calls Tryz.prog 61 #[.int .u64 (100000000 + (x : Int)), .int .i64 10] w fun e w' => ∃ t, e = .returned (.string (bsX (49 :: tx t))) ∧ Dg t ∧ t.length = 8 ∧ val t = x ∧ Below w.heap.size w w' := by
  obtain ⟨t, h1, h2, h3, h4⟩ := pad8 hx
  have c := fmtu (100000000 + x) (by omega) w ht
  rw [show ((100000000 + x : Nat) : Int) = 100000000 + (x : Int) by omega] at c
  refine c.mono ?_
  rintro e w' ⟨rfl, hb⟩
  exact ⟨t, by rw [h4], h1, h2, h3, hb⟩

end Go.Proofs.YtmggccepmicjhacGreatDoor

/-! One number is appended to a slice that the call itself made: what is owned behind it; nothing that was there is written. -/
namespace Go.Proofs.YtmggccepmicjhacGreatDoor
open Go.RowKit
set_option maxRecDepth 100000

theorem info_u64 : (Tryz.prog.info? 78).map (fun i => (i.zero, i.size, i.bytes)) = some (some (.int .u64 0), 1, 8) := by kernel_rfl

theorem wp_append1 {ops : Array Oper} {rest : List Oper} {o : Oper} {a : Act} {Q : Exit → Act → World → Prop} {w w0 : World} (hgd : o.guard = none) (s x : Operand)
    (ho : o.op = .call { callee := .builtin .append, args := #[s, x], argTypes := #[51, 51] }) (v : Value) (n : Nat) (xs : List Value) (z : Nat)
    (hs : a.eval s = v) (hown : w.ownsRow w0.heap.size 78 1 v n xs) (hx : a.eval x = .slice (some ⟨w.heap.size, 0, none⟩) 1 1)
    (hn : n ≤ 1000000000) (hnx : Below w0.heap.size w0 w)
    (h : ∀ v' w', w'.ownsRow w0.heap.size 78 1 v' (n + 1) (xs ++ [.int .u64 (z : Int)]) → Below w0.heap.size w0 w' → wpList Tryz.prog ops Q rest (a.put o.dst v') w') :
    wpList Tryz.prog ops Q (o :: rest) a (w.alloc (.cells #[.int .u64 (z : Int)] 78)) := by
  obtain ⟨i0, hi, hz0, hz1, hz2⟩ := info_parts info_u64
  have hsz := hnx.size
  refine wpList_append_own _ hgd s x 51 ho w0.heap.size 78 i0 (.int .u64 0) 1 8 Tryz.underlying51 hi hz0 hz1 hz2 rfl (by decide) v n xs hs (hown.alloc _) ⟨w.heap.size, 0, none⟩ 1 1 [.int .u64 (z : Int)] hx rfl ?_ ?_ ?_ ?_ ?_ ?_
  · intro j u hj
    match j, hj with
    | 0, hj => simp at hj; subst hj; simp [Addr.add]
  · intro u hu; simp at hu; subst hu; rfl
  · unfold maxLen; omega
  · omega
  · simp; omega
  · intro v' w' hown' hgrow _
    exact h v' w' hown' ((hnx.alloc hsz _).grown hgrow (by simp; omega) (owns_block hown))

/-- The slice v is a row of the call's own (from block B on) that holds the numbers xs. -/
def Ow (B : Nat) (w : World) (v : Value) (xs : List Nat) : Prop := w.ownsRow B 78 1 v xs.length (cellsU xs)
theorem Ow.isU {B : Nat} {w : World} {v : Value} {xs : List Nat} (h : Ow B w v xs) (hr : ∀ x ∈ xs, (x : Int) < 18446744073709551616) : IsU w v xs := IsU.of_owns h hr
theorem Ow.mono {B B' : Nat} {w : World} {v : Value} {xs : List Nat} (h : Ow B' w v xs) (hB : B ≤ B') : Ow B w v xs := by
  refine ⟨h.1, ?_⟩
  rcases h.2 with h2 | ⟨g, cap, cur, hv, hg, r⟩
  · exact Or.inl h2
  · exact Or.inr ⟨g, cap, cur, hv, Nat.le_trans hB hg, r⟩
theorem Ow.below {B : Nat} {w w' : World} {v : Value} {xs : List Nat} (h : Ow B w v xs) (hb : Below w.heap.size w w') : Ow B w' v xs := owns_below h hb
theorem Ow.nil (B : Nat) (w : World) : Ow B w (.slice none 0 0) [] := World.ownsRow_nil _ _ _ _

end Go.Proofs.YtmggccepmicjhacGreatDoor
