/-
  Texts that stood one behind the other, as one.
-/
import Derived.Shelf.Strings.Builder1
import Derived.Shelf.Strings.Builder2
import Derived.Shelf.Strings.OnBuilder
import Derived.Shelf.Small.Bits
import Derived.Shelf.Strconv.Itoa0
import Derived.Shelf.Strconv.Itoa1
import Derived.Shelf.LaysM
import Derived.Shelf.Strconv.Itoa2
import Derived.Shelf.Strconv.Itoa3
import Derived.Ground.MpProg
import Derived.Shelf.Pu.ParseUintPublic10
import Derived.Shelf.Pu.ErrVarParseUint
import Derived.Shelf.Strings.Search1
import Derived.Shelf.Strings.Search2
import Derived.Shelf.Strings.Search3
import Derived.Shelf.Strings.Count
import Derived.Shelf.Strings.Shaped
import Derived.Shelf.Strings.Split
import Derived.Shelf.Strings.SplitShaped
import Derived.Shelf.Bits.Mul64
import Derived.Shelf.Unicode.DecodeSlow
import Derived.Shelf.Strings.FieldsFuncAny
import Derived.Test.YtmggccepmicjhagGreatDoorProg
import Derived.Test.YtmggccepmicjhagGreatDoorRows
import Derived.Lib.ItoaNum
import Derived.Lib.ItoaMem
import Derived.Lib.ItoaLen
/-! Contracts of the library at this program: their laying, in plain words. -/
namespace Go.Proofs
open Go.Shelf
def Tryz.lays229_ren : Go.Shelf.Ren := ⟨fun | 229 => 25 | n => n, fun | 9 => 9 | 40 => 48 | 31 => 23 | 152 => 53 | 3 => 3 | 0 => 0 | 4 => 4 | 21 => 21 | 154 => 55 | n => n, fun | n => n⟩
theorem Tryz.lays229 : Go.Proofs.Lays.n229 Tryz.prog Tryz.lays229_ren := {
  mixed := by kernel_rfl
  f229 := Tryz.func25.trans (congrArg some (by kernel_rfl))
  t0 := Tryz.underlying0
  a0 := Tryz.isAgg0
  z0 := Tryz.sizeOf0
  v0 := Tryz.zeroValue0
  t3 := Tryz.underlying3
  a3 := Tryz.isAgg3
  z3 := Tryz.sizeOf3
  v3 := Tryz.zeroValue3
  t4 := Tryz.underlying4
  a4 := Tryz.isAgg4
  z4 := Tryz.sizeOf4
  v4 := Tryz.zeroValue4
  t9 := Tryz.underlying9
  a9 := Tryz.isAgg9
  z9 := Tryz.sizeOf9
  v9 := Tryz.zeroValue9
  t21 := Tryz.underlying21
  a21 := Tryz.isAgg21
  z21 := Tryz.sizeOf21
  v21 := Tryz.zeroValue21
  t31 := Tryz.underlying23
  a31 := Tryz.isAgg23
  z31 := Tryz.sizeOf23
  v31 := Tryz.zeroValue23
  t40 := Tryz.underlying48
  a40 := Tryz.isAgg48
  z40 := Tryz.sizeOf48
  v40 := Tryz.zeroValue48
  t152 := Tryz.underlying53
  a152 := Tryz.isAgg53
  z152 := Tryz.sizeOf53
  v152 := Tryz.zeroValue53
  t154 := Tryz.underlying55
  a154 := Tryz.isAgg55
  z154 := Tryz.sizeOf55
  v154 := Tryz.zeroValue55 }
open Go.RowKit Go.Lib in
theorem Tryz.strings_FieldsFunc_runes (g : Nat) (lb : Array Value) (eg : ∀ args w, (callFunc g args).run Tryz.prog w = .ok (.enter g args) w) (p : Nat → Bool) (s : ByteArray) (w : World) (hs : s.size ≤ 4294967296) (hp : PredAtRunes Tryz.prog g lb p w) :
    Calls Tryz.prog 25 #[.string s, .func (.func g) #[] lb] w fun e w' => ∃ A, e = .returned (.slice (some ⟨A, 0, none⟩) (Lib.goFieldsP p s).length (Lib.goFieldsP p s).length) ∧ w.heap.size ≤ A ∧
      w'.ownsRow w.heap.size 9 1 (.slice (some ⟨A, 0, none⟩) (Lib.goFieldsP p s).length (Lib.goFieldsP p s).length) (Lib.goFieldsP p s).length ((Lib.goFieldsP p s).map Value.string) ∧ Below w.heap.size w w' := Any.strings_FieldsFunc_runes Tryz.lays229 g lb eg p s w hs hp (by kernel_rfl) (by kernel_rfl)
end Go.Proofs

/-! A text's pieces, words and lines; numbers that are read and told; no program in sight. -/
namespace Go.Proofs.YtmggccepmicjhagGreatDoor

/-- One byte more: the pieces that are done, and the one that is under way. -/
def pcS (b : UInt8) (p : List (List UInt8) × List UInt8) (c : UInt8) : List (List UInt8) × List UInt8 := if c = b then (p.1 ++ [p.2], []) else (p.1, p.2 ++ [c])
def pcP (b : UInt8) (s : List UInt8) : List (List UInt8) × List UInt8 := s.foldl (pcS b) ([], [])
def pcs (b : UInt8) (s : List UInt8) : List (List UInt8) := (pcP b s).1 ++ [(pcP b s).2]
theorem pcP_snoc (b : UInt8) (s : List UInt8) (c : UInt8) : pcP b (s ++ [c]) = pcS b (pcP b s) c := by simp [pcP]
theorem pcs_same (b : UInt8) (s : List UInt8) : pcs b (s ++ [b]) = pcs b s ++ [[]] := by
  unfold pcs
  rw [pcP_snoc]
  simp [pcS]
theorem pcs_other {b c : UInt8} (s : List UInt8) (h : c ≠ b) : pcs b (s ++ [c]) = (pcP b s).1 ++ [(pcP b s).2 ++ [c]] := by
  unfold pcs
  rw [pcP_snoc]
  simp [pcS, h]
theorem pcs_length (b : UInt8) (s : List UInt8) : (pcs b s).length = (pcP b s).1.length + 1 := by simp [pcs]
/-- All bytes of the pieces together are no more than the text's. -/
theorem pcP_bytes (b : UInt8) (s : List UInt8) : (pcP b s).1.length + ((pcP b s).1.map List.length).sum + (pcP b s).2.length = s.length := by
  suffices h : ∀ (p : List (List UInt8) × List UInt8), (s.foldl (pcS b) p).1.length + ((s.foldl (pcS b) p).1.map List.length).sum + (s.foldl (pcS b) p).2.length = p.1.length + (p.1.map List.length).sum + p.2.length + s.length by
    have := h ([], [])
    simpa [pcP] using this
  induction s with
  | nil => intro p; simp
  | cons c s ih =>
    intro p
    rw [List.foldl_cons, ih]
    unfold pcS
    split <;> simp <;> omega
theorem sum_mem {L : List Nat} {n : Nat} (h : n ∈ L) : n ≤ L.sum := by
  induction L with
  | nil => cases h
  | cons a L ih =>
    rw [List.sum_cons]
    rcases List.mem_cons.mp h with e | e
    · omega
    · have := ih e; omega
theorem pcs_mem {b : UInt8} {s l : List UInt8} (h : l ∈ pcs b s) : l.length ≤ s.length := by
  have := pcP_bytes b s
  unfold pcs at h
  rcases List.mem_append.mp h with e | e
  · have := sum_mem (List.mem_map_of_mem (f := List.length) e)
    omega
  · simp only [List.mem_singleton] at e
    subst e
    omega
theorem pcs_le (b : UInt8) (s : List UInt8) : (pcs b s).length ≤ s.length + 1 := by
  have := pcP_bytes b s
  rw [pcs_length]
  omega
/-- The words of a line; the lines of a text. -/
def wdB (l : List UInt8) : Bool := !l.isEmpty
def wds (s : List UInt8) : List (List UInt8) := (pcs 32 s).filter wdB
def tlns (s : List UInt8) : List (List UInt8) := if (pcP 10 s).2 = [] then (pcP 10 s).1 else pcs 10 s
theorem wds_mem {s l : List UInt8} (h : l ∈ wds s) : l ≠ [] ∧ l.length ≤ s.length := by
  unfold wds at h
  rw [List.mem_filter] at h
  refine ⟨fun e => ?_, pcs_mem h.1⟩
  rw [e] at h
  exact absurd h.2 (by decide)
theorem wds_le (s : List UInt8) : (wds s).length ≤ s.length + 1 := by
  have h1 : (wds s).length ≤ (pcs 32 s).length := List.length_filter_le _ _
  have := pcs_le 32 s
  omega
theorem tlns_mem {s l : List UInt8} (h : l ∈ tlns s) : l.length ≤ s.length := by
  unfold tlns at h
  split at h
  · exact pcs_mem (b := 10) (by unfold pcs; exact List.mem_append_left _ h)
  · exact pcs_mem h
/-- The number that a word is read as, by 2^64; a word that is a number's text tells that number. -/
def nvS (n : Nat) (c : UInt8) : Nat := (n * 10 + c.toNat + 18446744073709551568) % 18446744073709551616
def nv (s : List UInt8) : Nat := (s.take 21).foldl nvS 0
theorem nvS_lt (n : Nat) (c : UInt8) : nvS n c < 18446744073709551616 := by
  unfold nvS
  generalize n * 10 + c.toNat + 18446744073709551568 = x
  omega
theorem nvK_lt (s : List UInt8) (i : Nat) : (s.take i).foldl nvS 0 < 18446744073709551616 := by
  suffices h : ∀ (l : List UInt8) (n : Nat), n < 18446744073709551616 → l.foldl nvS n < 18446744073709551616 from h _ 0 (by omega)
  intro l
  induction l with
  | nil => intro n h; exact h
  | cons c l ih => intro n _; rw [List.foldl_cons]; exact ih _ (nvS_lt n c)
theorem nvK_succ (s : List UInt8) (i : Nat) (h : i < s.length) : (s.take (i + 1)).foldl nvS 0 = nvS ((s.take i).foldl nvS 0) (s[i]'h) := by
  rw [List.take_succ_eq_append_getElem h, List.foldl_append, List.foldl_cons, List.foldl_nil]
def numB (s : List UInt8) : Bool := decide (Lib.decDigits (nv s) = s)
theorem nv_lt (s : List UInt8) : nv s < 18446744073709551616 := nvK_lt s 21
def numsB (L : List (List UInt8)) : Bool := L.all numB
def numsL (L : List (List UInt8)) : List Nat := L.map nv
/-- Numbers told: one blank between. -/
def jnK (l : List Nat) : Nat → List UInt8
  | 0 => []
  | k + 1 => (if 0 < k then jnK l k ++ [32] else jnK l k) ++ Lib.decDigits (l.getD k 0)
def sayN (l : List Nat) : List UInt8 := if l.length = 0 then [110, 111, 110, 101] else jnK l l.length
/-- An error told. -/
def wrg (e : Int) : List UInt8 := [101, 114, 114, 111, 114, 32] ++ Lib.itoa e
theorem dec_le (n : Nat) (h : n < 18446744073709551616) : (Lib.decDigits n).length ≤ 20 := by
  rcases Nat.eq_zero_or_pos n with e | e
  · subst e
    rw [Lib.decDigits_one (by decide)]
    decide
  · rw [Lib.decDigits_length]
    have := Lib.numDigits_eq n e h
    split at this <;> omega
theorem jnK_le (l : List Nat) (h : ∀ x ∈ l, x < 18446744073709551616) (k : Nat) (hk : k ≤ l.length) : (jnK l k).length ≤ 21 * k := by
  induction k with
  | zero => simp [jnK]
  | succ k ih =>
    have := ih (by omega)
    have h2 := dec_le (l.getD k 0) (by
      rw [List.getD, List.getElem?_eq_getElem (by omega)]
      exact h _ (List.getElem_mem _))
    unfold jnK
    generalize Lib.decDigits (l.getD k 0) = d at *
    split <;> simp <;> omega
theorem sayN_le (l : List Nat) (h : ∀ x ∈ l, x < 18446744073709551616) : (sayN l).length ≤ 21 * l.length + 4 := by
  unfold sayN
  split
  · simp
  · have := jnK_le l h l.length (Nat.le_refl _); omega

end Go.Proofs.YtmggccepmicjhagGreatDoor
