/-
  Texts that stood one behind the other, as one.
-/
import Derived.Test.YtmggccepmicjhagGreatDoorRows
import Derived.Lib.ItoaNum
import Derived.Lib.ItoaMem
import Derived.Lib.ItoaLen
import Derived.Shelf.Strings.Builder1
import Derived.Shelf.Strings.Builder2
import Derived.Shelf.Strings.OnBuilder
import Derived.Shelf.Small.Bits
import Derived.Shelf.Strconv.Itoa0
import Derived.Shelf.Strconv.Itoa1
import Derived.Shelf.LaysM
import Derived.Shelf.Strconv.Itoa2
import Derived.Shelf.Strconv.Itoa3
import Derived.Ground.MpProg
import Derived.Shelf.Pu.ParseUintPublic10
import Derived.Shelf.Pu.ErrVarParseUint
import Derived.Shelf.Strings.Search1
import Derived.Shelf.Strings.Search2
import Derived.Shelf.Strings.Search3
import Derived.Shelf.Strings.Count
import Derived.Shelf.Strings.Shaped
import Derived.Shelf.Strings.Split
import Derived.Shelf.Strings.SplitShaped
import Derived.Shelf.Bits.Mul64
import Derived.Shelf.Unicode.DecodeSlow
import Derived.Shelf.Strings.FieldsFuncAny
import Derived.Test.YtmggccepmicjhagGreatDoorProg
import Derived.Test.YtmggccepmicjhagGreatDoorSlAll
import Derived.Laws.Concat
/-! A text's pieces, words and lines; numbers that are read and told; no program in sight. -/
namespace Go.Proofs.YtmggccepmicjhagGreatDoor

/-- One byte more: the pieces that are done, and the one that is under way. -/
def pcS (b : UInt8) (p : List (List UInt8) × List UInt8) (c : UInt8) : List (List UInt8) × List UInt8 := if c = b then (p.1 ++ [p.2], []) else (p.1, p.2 ++ [c])
def pcP (b : UInt8) (s : List UInt8) : List (List UInt8) × List UInt8 := s.foldl (pcS b) ([], [])
def pcs (b : UInt8) (s : List UInt8) : List (List UInt8) := (pcP b s).1 ++ [(pcP b s).2]
theorem pcP_snoc (b : UInt8) (s : List UInt8) (c : UInt8) : pcP b (s ++ [c]) = pcS b (pcP b s) c := by simp [pcP]
theorem pcs_same (b : UInt8) (s : List UInt8) : pcs b (s ++ [b]) = pcs b s ++ [[]] := by
  unfold pcs
  rw [pcP_snoc]
  simp [pcS]
theorem pcs_other {b c : UInt8} (s : List UInt8) (h : c ≠ b) : pcs b (s ++ [c]) = (pcP b s).1 ++ [(pcP b s).2 ++ [c]] := by
  unfold pcs
  rw [pcP_snoc]
  simp [pcS, h]
theorem pcs_length (b : UInt8) (s : List UInt8) : (pcs b s).length = (pcP b s).1.length + 1 := by simp [pcs]
/-- All bytes of the pieces together are no more than the text's. -/
theorem pcP_bytes (b : UInt8) (s : List UInt8) : (pcP b s).1.length + ((pcP b s).1.map List.length).sum + (pcP b s).2.length = s.length := by
  suffices h : ∀ (p : List (List UInt8) × List UInt8), (s.foldl (pcS b) p).1.length + ((s.foldl (pcS b) p).1.map List.length).sum + (s.foldl (pcS b) p).2.length = p.1.length + (p.1.map List.length).sum + p.2.length + s.length by
    have := h ([], [])
    simpa [pcP] using this
  induction s with
  | nil => intro p; simp
  | cons c s ih =>
    intro p
    rw [List.foldl_cons, ih]
    unfold pcS
    split <;> simp <;> omega
theorem sum_mem {L : List Nat} {n : Nat} (h : n ∈ L) : n ≤ L.sum := by
  induction L with
  | nil => cases h
  | cons a L ih =>
    rw [List.sum_cons]
    rcases List.mem_cons.mp h with e | e
    · omega
    · have := ih e; omega
theorem pcs_mem {b : UInt8} {s l : List UInt8} (h : l ∈ pcs b s) : l.length ≤ s.length := by
  have := pcP_bytes b s
  unfold pcs at h
  rcases List.mem_append.mp h with e | e
  · have := sum_mem (List.mem_map_of_mem (f := List.length) e)
    omega
  · simp only [List.mem_singleton] at e
    subst e
    omega
theorem pcs_le (b : UInt8) (s : List UInt8) : (pcs b s).length ≤ s.length + 1 := by
  have := pcP_bytes b s
  rw [pcs_length]
  omega
/-- The words of a line; the lines of a text. -/
def wdB (l : List UInt8) : Bool := !l.isEmpty
def wds (s : List UInt8) : List (List UInt8) := (pcs 32 s).filter wdB
def tlns (s : List UInt8) : List (List UInt8) := if (pcP 10 s).2 = [] then (pcP 10 s).1 else pcs 10 s
theorem wds_mem {s l : List UInt8} (h : l ∈ wds s) : l ≠ [] ∧ l.length ≤ s.length := by
  unfold wds at h
  rw [List.mem_filter] at h
  refine ⟨fun e => ?_, pcs_mem h.1⟩
  rw [e] at h
  exact absurd h.2 (by decide)
theorem wds_le (s : List UInt8) : (wds s).length ≤ s.length + 1 := by
  have h1 : (wds s).length ≤ (pcs 32 s).length := List.length_filter_le _ _
  have := pcs_le 32 s
  omega
theorem tlns_mem {s l : List UInt8} (h : l ∈ tlns s) : l.length ≤ s.length := by
  unfold tlns at h
  split at h
  · exact pcs_mem (b := 10) (by unfold pcs; exact List.mem_append_left _ h)
  · exact pcs_mem h
/-- The number that a word is read as, by 2^64; a word that is a number's text tells that number. -/
def nvS (n : Nat) (c : UInt8) : Nat := (n * 10 + c.toNat + 18446744073709551568) % 18446744073709551616
def nv (s : List UInt8) : Nat := (s.take 21).foldl nvS 0
theorem nvS_lt (n : Nat) (c : UInt8) : nvS n c < 18446744073709551616 := by
  unfold nvS
  generalize n * 10 + c.toNat + 18446744073709551568 = x
  omega
theorem nvK_lt (s : List UInt8) (i : Nat) : (s.take i).foldl nvS 0 < 18446744073709551616 := by
  suffices h : ∀ (l : List UInt8) (n : Nat), n < 18446744073709551616 → l.foldl nvS n < 18446744073709551616 from h _ 0 (by omega)
  intro l
  induction l with
  | nil => intro n h; exact h
  | cons c l ih => intro n _; rw [List.foldl_cons]; exact ih _ (nvS_lt n c)
theorem nvK_succ (s : List UInt8) (i : Nat) (h : i < s.length) : (s.take (i + 1)).foldl nvS 0 = nvS ((s.take i).foldl nvS 0) (s[i]'h) := by
  rw [List.take_succ_eq_append_getElem h, List.foldl_append, List.foldl_cons, List.foldl_nil]
def numB (s : List UInt8) : Bool := decide (Lib.decDigits (nv s) = s)
theorem nv_lt (s : List UInt8) : nv s < 18446744073709551616 := nvK_lt s 21
def numsB (L : List (List UInt8)) : Bool := L.all numB
def numsL (L : List (List UInt8)) : List Nat := L.map nv
/-- Numbers told: one blank between. -/
def jnK (l : List Nat) : Nat → List UInt8
  | 0 => []
  | k + 1 => (if 0 < k then jnK l k ++ [32] else jnK l k) ++ Lib.decDigits (l.getD k 0)
def sayN (l : List Nat) : List UInt8 := if l.length = 0 then [110, 111, 110, 101] else jnK l l.length
/-- An error told. -/
def wrg (e : Int) : List UInt8 := [101, 114, 114, 111, 114, 32] ++ Lib.itoa e
theorem dec_le (n : Nat) (h : n < 18446744073709551616) : (Lib.decDigits n).length ≤ 20 := by
  rcases Nat.eq_zero_or_pos n with e | e
  · subst e
    rw [Lib.decDigits_one (by decide)]
    decide
  · rw [Lib.decDigits_length]
    have := Lib.numDigits_eq n e h
    split at this <;> omega
theorem jnK_le (l : List Nat) (h : ∀ x ∈ l, x < 18446744073709551616) (k : Nat) (hk : k ≤ l.length) : (jnK l k).length ≤ 21 * k := by
  induction k with
  | zero => simp [jnK]
  | succ k ih =>
    have := ih (by omega)
    have h2 := dec_le (l.getD k 0) (by
      rw [List.getD, List.getElem?_eq_getElem (by omega)]
      exact h _ (List.getElem_mem _))
    unfold jnK
    generalize Lib.decDigits (l.getD k 0) = d at *
    split <;> simp <;> omega
theorem sayN_le (l : List Nat) (h : ∀ x ∈ l, x < 18446744073709551616) : (sayN l).length ≤ 21 * l.length + 4 := by
  unfold sayN
  split
  · simp
  · have := jnK_le l h l.length (Nat.le_refl _); omega

end Go.Proofs.YtmggccepmicjhagGreatDoor

/-! What strconv.Itoa answers at this program: the laying of the contract, in plain words. -/
namespace Go.Proofs
open Go.Shelf
def Tryz.laysM171_ren : Go.Shelf.Ren := ⟨fun | 171 => 23 | 243 => 30 | 246 => 56 | 283 => 80 | 284 => 81 | 285 => 82 | 286 => 83 | 129 => 92 | 317 => 101 | 318 => 102 | 319 => 103 | 320 => 88 | 337 => 109 | 338 => 110 | n => n, fun | 3 => 3 | 9 => 9 | 2 => 2 | 4 => 4 | 171 => 106 | 0 => 0 | 53 => 77 | 37 => 31 | 5 => 5 | 173 => 108 | 212 => 131 | 51 => 103 | 20 => 20 | 213 => 132 | 46 => 70 | 232 => 147 | 233 => 148 | n => n, fun | 17 => 1 | 18 => 4 | 19 => 5 | n => n⟩
theorem Tryz.laysM171 : Go.Proofs.LaysM.n171 Tryz.prog Tryz.laysM171_ren := {
  mixed := by kernel_rfl
  f129 := Tryz.func92.trans (congrArg some (by kernel_rfl))
  f171 := Tryz.func23.trans (congrArg some (by kernel_rfl))
  f243 := Tryz.func30.trans (congrArg some (by kernel_rfl))
  f246 := Tryz.func56.trans (congrArg some (by kernel_rfl))
  f283 := Tryz.func80.trans (congrArg some (by kernel_rfl))
  f284 := Tryz.func81.trans (congrArg some (by kernel_rfl))
  f285 := Tryz.func82.trans (congrArg some (by kernel_rfl))
  f286 := Tryz.func83.trans (congrArg some (by kernel_rfl))
  f317 := Tryz.func101.trans (congrArg some (by kernel_rfl))
  f318 := Tryz.func102.trans (congrArg some (by kernel_rfl))
  f319 := Tryz.func103.trans (congrArg some (by kernel_rfl))
  f320 := Tryz.func88.trans (congrArg some (by kernel_rfl))
  f337 := Tryz.func109.trans (congrArg some (by kernel_rfl))
  f338 := Tryz.func110.trans (congrArg some (by kernel_rfl))
  t0 := Tryz.underlying0
  a0 := Tryz.isAgg0
  z0 := Tryz.sizeOf0
  v0 := Tryz.zeroValue0
  t2 := Tryz.underlying2
  a2 := Tryz.isAgg2
  z2 := Tryz.sizeOf2
  v2 := Tryz.zeroValue2
  t3 := Tryz.underlying3
  a3 := Tryz.isAgg3
  z3 := Tryz.sizeOf3
  v3 := Tryz.zeroValue3
  t4 := Tryz.underlying4
  a4 := Tryz.isAgg4
  z4 := Tryz.sizeOf4
  v4 := Tryz.zeroValue4
  t5 := Tryz.underlying5
  a5 := Tryz.isAgg5
  z5 := Tryz.sizeOf5
  v5 := Tryz.zeroValue5
  t9 := Tryz.underlying9
  a9 := Tryz.isAgg9
  z9 := Tryz.sizeOf9
  v9 := Tryz.zeroValue9
  t20 := Tryz.underlying20
  a20 := Tryz.isAgg20
  z20 := Tryz.sizeOf20
  v20 := Tryz.zeroValue20
  t37 := Tryz.underlying31
  a37 := Tryz.isAgg31
  z37 := Tryz.sizeOf31
  v37 := Tryz.zeroValue31
  t46 := Tryz.underlying70
  a46 := Tryz.isAgg70
  z46 := Tryz.sizeOf70
  v46 := Tryz.zeroValue70
  t51 := Tryz.underlying103
  a51 := Tryz.isAgg103
  z51 := Tryz.sizeOf103
  v51 := Tryz.zeroValue103
  t53 := Tryz.underlying77
  a53 := Tryz.isAgg77
  z53 := Tryz.sizeOf77
  v53 := Tryz.zeroValue77
  t171 := Tryz.underlying106
  a171 := Tryz.isAgg106
  z171 := Tryz.sizeOf106
  v171 := Tryz.zeroValue106
  t173 := Tryz.underlying108
  a173 := Tryz.isAgg108
  z173 := Tryz.sizeOf108
  v173 := Tryz.zeroValue108
  t212 := Tryz.underlying131
  a212 := Tryz.isAgg131
  z212 := Tryz.sizeOf131
  v212 := Tryz.zeroValue131
  t213 := Tryz.underlying132
  a213 := Tryz.isAgg132
  z213 := Tryz.sizeOf132
  t232 := Tryz.underlying147
  a232 := Tryz.isAgg147
  z232 := Tryz.sizeOf147
  v232 := Tryz.zeroValue147
  t233 := Tryz.underlying148
  a233 := Tryz.isAgg148
  z233 := Tryz.sizeOf148
  v233 := Tryz.zeroValue148
  g17 := by kernel_rfl
  g18 := by kernel_rfl
  g19 := by kernel_rfl
  i0 := by kernel_rfl
  i2 := by kernel_rfl
  i3 := by kernel_rfl
  i4 := by kernel_rfl
  i5 := by kernel_rfl
  i9 := by kernel_rfl
  i20 := by kernel_rfl
  i37 := by kernel_rfl
  i46 := by kernel_rfl
  i51 := by kernel_rfl
  i53 := by kernel_rfl
  i171 := by kernel_rfl
  i173 := by kernel_rfl
  i212 := by kernel_rfl
  i232 := by kernel_rfl
  i233 := by kernel_rfl
  m17 := by kernel_rfl
  m18 := by kernel_rfl
  m19 := by kernel_rfl }
open Go.RowKit Go.Sort Go.Lib in
theorem Tryz.strconv_Itoa (n : Int) (h0 : -9223372036854775808 ≤ n) (h1 : n ≤ 9223372036854775807) (w : World) (htab : Lib.TabIs Tryz.prog w "internal/strconv.uint64pow10" .u64 Lib.pow10Tab) :
    Calls Tryz.prog 23 #[.int .i64 n] w fun e w' => e = .returned (.string ⟨(Lib.itoa n).toArray⟩) ∧ ∃ k os, w' = grow (w.drewN k) os := Any.strconv_Itoa Tryz.laysM171 n h0 h1 w htab
end Go.Proofs

/-! What strconv.Itoa answers, and texts as lists of bytes. -/
namespace Go.Proofs.YtmggccepmicjhagGreatDoor
open Go.RowKit
set_option maxRecDepth 100000

theorem itoa_ok (w : World) (n : Int) (h0 : -9223372036854775808 ≤ n) (h1 : n ≤ 9223372036854775807) (ht : Tab w) :
    Calls Tryz.prog 23 #[.int .i64 n] w fun e w' => e = .returned (.string ⟨(Lib.itoa n).toArray⟩) ∧ Below w.heap.size w w' := by
  refine (Tryz.strconv_Itoa n h0 h1 w ht.2.1).mono ?_
  rintro e w' ⟨rfl, k, os, rfl⟩
  refine ⟨rfl, rfl, rfl, rfl, ?_, fun j hj => ?_⟩
  · simp [Go.Sort.grow]
  · show ((w.drewN k).heap ++ os)[j]? = w.heap[j]?
    exact Array.getElem?_append_left hj
/-- A text by its bytes. -/
def bs (l : List UInt8) : ByteArray := ⟨l.toArray⟩
theorem bs_append (a b : List UInt8) : bs a ++ bs b = bs (a ++ b) := ByteArray.mk_append_mk a b
theorem bs_size (l : List UInt8) : (bs l).size = l.length := by simp [bs, ByteArray.size]
theorem itoa_bs (w : World) (n : Int) (h0 : -9223372036854775808 ≤ n) (h1 : n ≤ 9223372036854775807) (ht : Tab w) :
    Calls Tryz.prog 23 #[.int .i64 n] w fun e w' => e = .returned (.string (bs (Lib.itoa n))) ∧ Below w.heap.size w w' := itoa_ok w n h0 h1 ht
theorem itoa_gr (w : World) (n : Int) (h0 : -9223372036854775808 ≤ n) (h1 : n ≤ 9223372036854775807) (ht : Tab w) :
    Calls Tryz.prog 23 #[.int .i64 n] w fun e w' => e = .returned (.string (bs (Lib.itoa n))) ∧ ∃ k os, w' = Go.Sort.grow (w.drewN k) os := Tryz.strconv_Itoa n h0 h1 w ht.2.1
theorem below_grow (w : World) (n : Nat) (os : Array Obj) : Below w.heap.size w (Go.Sort.grow (w.drewN n) os) := by
  refine ⟨rfl, rfl, rfl, ?_, fun j hj => ?_⟩
  · simp [Go.Sort.grow]
  · show ((w.drewN n).heap ++ os)[j]? = w.heap[j]?
    exact Array.getElem?_append_left hj
theorem Tab.grown {w : World} (h : Tab w) (n : Nat) (os : Array Obj) : Tab (Go.Sort.grow (w.drewN n) os) := h.below (below_grow w n os)

end Go.Proofs.YtmggccepmicjhagGreatDoor
