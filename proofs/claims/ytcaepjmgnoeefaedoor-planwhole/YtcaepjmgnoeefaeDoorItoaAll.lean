/-
  Texts that stood one behind the other, as one.
-/
import Derived.Shelf.Strings.Builder1
import Derived.Shelf.Strings.BuilderF
import Derived.Shelf.Strings.BuilderK
import Derived.Shelf.Strconv.Itoa0
import Derived.Shelf.Strconv.Itoa1
import Derived.Shelf.LaysM
import Derived.Shelf.Strconv.Itoa2
import Derived.Shelf.Strconv.Itoa3
import Derived.Test.YtcaepjmgnoeefaeDoorProg
import Derived.Test.YtcaepjmgnoeefaeDoorTabD
import Derived.Laws.Concat
import Derived.Test.YtcaepjmgnoeefaeDoorRefPlanAll
import Derived.Shelf.SlSortCmp.QuietGrown
import Derived.Lib.ItoaLen
/-! What strconv.Itoa answers at this program: the laying of the contract, in plain words. -/
namespace Go.Proofs
open Go.Shelf
def Tryd.laysM171_ren : Go.Shelf.Ren := ⟨fun | 171 => 72 | 243 => 77 | 246 => 79 | 283 => 80 | 284 => 81 | 285 => 82 | 286 => 83 | 129 => 68 | 317 => 84 | 318 => 85 | 319 => 86 | 320 => 64 | 337 => 73 | 338 => 74 | n => n, fun | 3 => 3 | 9 => 9 | 2 => 2 | 4 => 4 | 171 => 111 | 0 => 0 | 53 => 23 | 37 => 79 | 5 => 5 | 173 => 113 | 212 => 116 | 51 => 98 | 20 => 20 | 213 => 117 | 46 => 66 | 232 => 108 | 233 => 109 | n => n, fun | 17 => 2 | 18 => 0 | 19 => 1 | n => n⟩
theorem Tryd.laysM171 : Go.Proofs.LaysM.n171 Tryd.prog Tryd.laysM171_ren := {
  mixed := by kernel_rfl
  f129 := Tryd.func68.trans (congrArg some (by kernel_rfl))
  f171 := Tryd.func72.trans (congrArg some (by kernel_rfl))
  f243 := Tryd.func77.trans (congrArg some (by kernel_rfl))
  f246 := Tryd.func79.trans (congrArg some (by kernel_rfl))
  f283 := Tryd.func80.trans (congrArg some (by kernel_rfl))
  f284 := Tryd.func81.trans (congrArg some (by kernel_rfl))
  f285 := Tryd.func82.trans (congrArg some (by kernel_rfl))
  f286 := Tryd.func83.trans (congrArg some (by kernel_rfl))
  f317 := Tryd.func84.trans (congrArg some (by kernel_rfl))
  f318 := Tryd.func85.trans (congrArg some (by kernel_rfl))
  f319 := Tryd.func86.trans (congrArg some (by kernel_rfl))
  f320 := Tryd.func64.trans (congrArg some (by kernel_rfl))
  f337 := Tryd.func73.trans (congrArg some (by kernel_rfl))
  f338 := Tryd.func74.trans (congrArg some (by kernel_rfl))
  t0 := Tryd.underlying0
  a0 := Tryd.isAgg0
  z0 := Tryd.sizeOf0
  v0 := Tryd.zeroValue0
  t2 := Tryd.underlying2
  a2 := Tryd.isAgg2
  z2 := Tryd.sizeOf2
  v2 := Tryd.zeroValue2
  t3 := Tryd.underlying3
  a3 := Tryd.isAgg3
  z3 := Tryd.sizeOf3
  v3 := Tryd.zeroValue3
  t4 := Tryd.underlying4
  a4 := Tryd.isAgg4
  z4 := Tryd.sizeOf4
  v4 := Tryd.zeroValue4
  t5 := Tryd.underlying5
  a5 := Tryd.isAgg5
  z5 := Tryd.sizeOf5
  v5 := Tryd.zeroValue5
  t9 := Tryd.underlying9
  a9 := Tryd.isAgg9
  z9 := Tryd.sizeOf9
  v9 := Tryd.zeroValue9
  t20 := Tryd.underlying20
  a20 := Tryd.isAgg20
  z20 := Tryd.sizeOf20
  v20 := Tryd.zeroValue20
  t37 := Tryd.underlying79
  a37 := Tryd.isAgg79
  z37 := Tryd.sizeOf79
  v37 := Tryd.zeroValue79
  t46 := Tryd.underlying66
  a46 := Tryd.isAgg66
  z46 := Tryd.sizeOf66
  v46 := Tryd.zeroValue66
  t51 := Tryd.underlying98
  a51 := Tryd.isAgg98
  z51 := Tryd.sizeOf98
  v51 := Tryd.zeroValue98
  t53 := Tryd.underlying23
  a53 := Tryd.isAgg23
  z53 := Tryd.sizeOf23
  v53 := Tryd.zeroValue23
  t171 := Tryd.underlying111
  a171 := Tryd.isAgg111
  z171 := Tryd.sizeOf111
  v171 := Tryd.zeroValue111
  t173 := Tryd.underlying113
  a173 := Tryd.isAgg113
  z173 := Tryd.sizeOf113
  v173 := Tryd.zeroValue113
  t212 := Tryd.underlying116
  a212 := Tryd.isAgg116
  z212 := Tryd.sizeOf116
  v212 := Tryd.zeroValue116
  t213 := Tryd.underlying117
  a213 := Tryd.isAgg117
  z213 := Tryd.sizeOf117
  t232 := Tryd.underlying108
  a232 := Tryd.isAgg108
  z232 := Tryd.sizeOf108
  v232 := Tryd.zeroValue108
  t233 := Tryd.underlying109
  a233 := Tryd.isAgg109
  z233 := Tryd.sizeOf109
  v233 := Tryd.zeroValue109
  g17 := by kernel_rfl
  g18 := by kernel_rfl
  g19 := by kernel_rfl
  i0 := by kernel_rfl
  i2 := by kernel_rfl
  i3 := by kernel_rfl
  i4 := by kernel_rfl
  i5 := by kernel_rfl
  i9 := by kernel_rfl
  i20 := by kernel_rfl
  i37 := by kernel_rfl
  i46 := by kernel_rfl
  i51 := by kernel_rfl
  i53 := by kernel_rfl
  i171 := by kernel_rfl
  i173 := by kernel_rfl
  i212 := by kernel_rfl
  i232 := by kernel_rfl
  i233 := by kernel_rfl
  m17 := by kernel_rfl
  m18 := by kernel_rfl
  m19 := by kernel_rfl }
open Go.RowKit Go.Sort Go.Lib in
theorem Tryd.strconv_Itoa (n : Int) (h0 : -9223372036854775808 ≤ n) (h1 : n ≤ 9223372036854775807) (w : World) (htab : Lib.TabIs Tryd.prog w "internal/strconv.uint64pow10" .u64 Lib.pow10Tab) :
    Calls Tryd.prog 72 #[.int .i64 n] w fun e w' => e = .returned (.string ⟨(Lib.itoa n).toArray⟩) ∧ ∃ k os, w' = grow (w.drewN k) os := Any.strconv_Itoa Tryd.laysM171 n h0 h1 w htab
end Go.Proofs

/-! What strconv.Itoa answers, and texts as lists of bytes. -/
namespace Go.Proofs.YtcaepjmgnoeefaeDoor
open Go.RowKit

theorem itoa_ok (w : World) (n : Int) (h0 : -9223372036854775808 ≤ n) (h1 : n ≤ 9223372036854775807) (ht : Tab w) :
    Calls Tryd.prog 72 #[.int .i64 n] w fun e w' => e = .returned (.string ⟨(Lib.itoa n).toArray⟩) ∧ Below w.heap.size w w' := by
  refine (Tryd.strconv_Itoa n h0 h1 w ht.2).mono ?_
  rintro e w' ⟨rfl, k, os, rfl⟩
  refine ⟨rfl, rfl, rfl, rfl, ?_, fun j hj => ?_⟩
  · simp [Go.Sort.grow]
  · show ((w.drewN k).heap ++ os)[j]? = w.heap[j]?
    exact Array.getElem?_append_left hj
/-- A text by its bytes. -/
def bs (l : List UInt8) : ByteArray := ⟨l.toArray⟩
theorem bs_append (a b : List UInt8) : bs a ++ bs b = bs (a ++ b) := ByteArray.mk_append_mk a b
theorem bs_size (l : List UInt8) : (bs l).size = l.length := by simp [bs, ByteArray.size]
theorem itoa_bs (w : World) (n : Int) (h0 : -9223372036854775808 ≤ n) (h1 : n ≤ 9223372036854775807) (ht : Tab w) :
    Calls Tryd.prog 72 #[.int .i64 n] w fun e w' => e = .returned (.string (bs (Lib.itoa n))) ∧ Below w.heap.size w w' := itoa_ok w n h0 h1 ht
theorem itoa_gr (w : World) (n : Int) (h0 : -9223372036854775808 ≤ n) (h1 : n ≤ 9223372036854775807) (ht : Tab w) :
    Calls Tryd.prog 72 #[.int .i64 n] w fun e w' => e = .returned (.string (bs (Lib.itoa n))) ∧ ∃ k os, w' = Go.Sort.grow (w.drewN k) os := Tryd.strconv_Itoa n h0 h1 w ht.2
theorem below_grow (w : World) (n : Nat) (os : Array Obj) : Below w.heap.size w (Go.Sort.grow (w.drewN n) os) := by
  refine ⟨rfl, rfl, rfl, ?_, fun j hj => ?_⟩
  · simp [Go.Sort.grow]
  · show ((w.drewN n).heap ++ os)[j]? = w.heap[j]?
    exact Array.getElem?_append_left hj
theorem Tab.grown {w : World} (h : Tab w) (n : Nat) (os : Array Obj) : Tab (Go.Sort.grow (w.drewN n) os) := h.below (below_grow w n os)

end Go.Proofs.YtcaepjmgnoeefaeDoor

/-! What PlanText of package goldref answers: the text of phases. -/
namespace Go.Proofs.YtcaepjmgnoeefaeDoor
open Go.RowKit Go.Sort

/-- The text of a task, of the first k tasks of a phase, of the first i phases. -/
def tkx (r : List Int) : List UInt8 := Lib.itoa (r.getD 0 0) ++ [58] ++ Lib.itoa (r.getD 1 0) ++ [45] ++ Lib.itoa (r.getD 2 0)
def lnx (T : List (List Int)) : Nat → List UInt8
  | 0 => []
  | k + 1 => (if 0 < k then lnx T k ++ [32] else lnx T k) ++ tkx (T.getD k [])
def ptx (L : List (List (List Int))) : Nat → List UInt8
  | 0 => []
  | i + 1 => ptx L i ++ lnx (L.getD i []) (L.getD i []).length ++ [10]


end Go.Proofs.YtcaepjmgnoeefaeDoor

/-! How long the text of phases is at the most: so many bytes a task. -/
namespace Go.Proofs.YtcaepjmgnoeefaeDoor
open Go.RowKit

def tot (L : List (List (List Int))) : Nat → Nat
  | 0 => 0
  | i + 1 => tot L i + (L.getD i []).length
theorem tot_le (L : List (List (List Int))) (i j : Nat) (h : i ≤ j) : tot L i ≤ tot L j := by
  induction j with
  | zero => rw [show i = 0 by omega]; exact Nat.le_refl _
  | succ j ih =>
    rcases Nat.lt_or_ge i (j + 1) with q | q
    · have := ih (by omega); rw [tot]; omega
    · rw [show i = j + 1 by omega]; exact Nat.le_refl _
def B3 (r : List Int) : Prop := (-9223372036854775808 ≤ r.getD 0 0 ∧ r.getD 0 0 ≤ 9223372036854775807) ∧ (-9223372036854775808 ≤ r.getD 1 0 ∧ r.getD 1 0 ≤ 9223372036854775807) ∧ (-9223372036854775808 ≤ r.getD 2 0 ∧ r.getD 2 0 ≤ 9223372036854775807)
theorem tkx_le (r : List Int) (h : B3 r) : (tkx r).length ≤ 65 := by
  have h0 := Lib.itoa_length_le (r.getD 0 0) h.1.1 h.1.2
  have h1 := Lib.itoa_length_le (r.getD 1 0) h.2.1.1 h.2.1.2
  have h2 := Lib.itoa_length_le (r.getD 2 0) h.2.2.1 h.2.2.2
  unfold tkx
  simp only [List.length_append, List.length_cons, List.length_nil]
  omega
theorem lnx_le (T : List (List Int)) (h : ∀ i, i < T.length → B3 (T.getD i [])) (k : Nat) (hk : k ≤ T.length) : (lnx T k).length ≤ 66 * k := by
  induction k with
  | zero => simp [lnx]
  | succ k ih =>
    have h1 := ih (by omega)
    have h2 := tkx_le _ (h k (by omega))
    rw [lnx, List.length_append]
    split
    · rw [List.length_append]; simp only [List.length_cons, List.length_nil]; omega
    · omega
theorem ptx_le (L : List (List (List Int))) (h : ∀ y, y < L.length → ∀ i, i < (L.getD y []).length → B3 ((L.getD y []).getD i [])) (i : Nat) (hi : i ≤ L.length) : (ptx L i).length ≤ 66 * tot L i + i := by
  induction i with
  | zero => simp [ptx]
  | succ i ih =>
    have h1 := ih (by omega)
    have h2 := lnx_le _ (h i (by omega)) _ (Nat.le_refl _)
    rw [ptx, tot, List.length_append, List.length_append]
    simp only [List.length_cons, List.length_nil]
    omega
theorem IsP.b3 {w : World} {v : Value} {L : List (List (List Int))} (h : IsP 3 w v L) : ∀ y, y < L.length → ∀ i, i < (L.getD y []).length → B3 ((L.getD y []).getD i []) := by
  intro y hy i hi
  obtain ⟨_, _, _, _, _, hph⟩ := h
  obtain ⟨_, _, _, _, _, hR⟩ := hph y hy
  obtain ⟨a, b, c, e, ha, hb, hc⟩ := row3 hR i hi
  rw [e]
  exact ⟨ha, hb, hc⟩
theorem text_size {w : World} {v : Value} {L : List (List (List Int))} (h : IsP 3 w v L) (hn : L.length + tot L L.length ≤ 1048576) : ∀ i k, i < L.length → k ≤ (L.getD i []).length → (ptx L i ++ lnx (L.getD i []) k).length ≤ 1099511627776 := by
  intro i k hi hk
  have h1 := ptx_le L h.b3 i (by omega)
  have h2 := lnx_le _ (h.b3 i hi) k hk
  have h3 := tot_le L (i + 1) L.length (by omega)
  rw [tot] at h3
  rw [List.length_append]
  omega

end Go.Proofs.YtcaepjmgnoeefaeDoor
