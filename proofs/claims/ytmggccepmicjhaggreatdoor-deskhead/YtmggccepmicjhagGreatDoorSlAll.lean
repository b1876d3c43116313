/-
  Texts that stood one behind the other, as one.
-/
import Derived.Test.YtmggccepmicjhagGreatDoorPure
import Derived.WalkKit
import Derived.WalkSpells
import Derived.WalkLawsBesides
import Derived.OpenShut
import Derived.Test.YtmggccepmicjhagGreatDoorRows
import Derived.Shelf.Strconv.Itoa3
import Derived.Lib.LaidTab
import Derived.LaidMore
import Derived.Lay
import Derived.Stop.LaidErr
import Derived.HandedShaped
import Derived.Shelf.Vars
/-! Slices of numbers of 64 bits, as lists: what a slice value reads as in a world, that it stays so while only new memory is written, and what is owned reads so. -/
namespace Go.Proofs.YtmggccepmicjhagGreatDoor
open Go.RowKit
set_option maxRecDepth 100000

/-- The slice value v reads in the world w as the numbers xs. -/
def IsU (w : World) (v : Value) (xs : List Nat) : Prop :=
  ∃ (a : Option Addr) (cap : Nat), v = .slice a xs.length cap ∧ xs.length ≤ cap ∧ cap ≤ maxLen ∧
    (∀ i, i < xs.length → ∃ b off, a = some ⟨b, off, none⟩ ∧ w.cell? ⟨b, off + i, none⟩ = some (.int .u64 ((xs.getD i 0 : Nat) : Int))) ∧
    (∀ x ∈ xs, (x : Int) < 18446744073709551616)

/-- The cells of a list of numbers. -/
def cellsU (xs : List Nat) : List Value := xs.map fun (x : Nat) => Value.int .u64 (x : Int)
theorem cellsU_length (xs : List Nat) : (cellsU xs).length = xs.length := by simp [cellsU]
theorem cellsU_append (xs ys : List Nat) : cellsU (xs ++ ys) = cellsU xs ++ cellsU ys := by simp [cellsU]
theorem cellsU_get (xs : List Nat) (i : Nat) (h : i < xs.length) : (cellsU xs)[i]? = some (.int .u64 ((xs.getD i 0 : Nat) : Int)) := by
  simp [cellsU, List.getD, h]

theorem block_lt {w : World} {b off : Nat} {u : Value} (h : w.cell? ⟨b, off, none⟩ = some u) : b < w.heap.size := by
  rcases Nat.lt_or_ge b w.heap.size with hb | hb
  · exact hb
  · exfalso
    have e : w.heap[b]? = none := by simpa using hb
    simp [World.cell?, e] at h

theorem IsU.below {w w' : World} {v : Value} {xs : List Nat} (h : IsU w v xs) (hb : Below w.heap.size w w') : IsU w' v xs := by
  obtain ⟨a, cap, rfl, h1, h2, hc, hr⟩ := h
  refine ⟨a, cap, rfl, h1, h2, fun i hi => ?_, hr⟩
  obtain ⟨b, off, rfl, hcell⟩ := hc i hi
  exact ⟨b, off, rfl, (hb.cell (block_lt hcell)).trans hcell⟩

theorem IsU.nil (w : World) : IsU w (.slice none 0 0) [] :=
  ⟨none, 0, rfl, by simp, by simp [maxLen], fun i hi => by simp at hi, fun x hx => by cases hx⟩

/-- What the call owns reads as the list that it was laid from. -/
theorem IsU.of_owns {w : World} {base e n : Nat} {v : Value} {xs : List Nat} (h : w.ownsRow base e 1 v n (cellsU xs)) (hr : ∀ x ∈ xs, (x : Int) < 18446744073709551616) : IsU w v xs := by
  have h0 := h
  obtain ⟨hl, hv⟩ := h
  have hn : xs.length = n := by rw [cellsU_length] at hl; omega
  subst hn
  rcases hv with ⟨rfl, h2⟩ | ⟨g, cap, cur, rfl, hg, hh, hc, hm, hs, ht⟩
  · have : xs = [] := List.eq_nil_of_length_eq_zero h2
    subst this
    exact IsU.nil w
  · refine ⟨some ⟨g, 0, none⟩, cap, rfl, hc, hm, fun i hi => ⟨g, 0, rfl, ?_⟩, hr⟩
    have := h0.cellAt i (by omega)
    rw [Nat.zero_add, this, cellsU_get xs i hi]

theorem owns_block {w : World} {base e size n : Nat} {v : Value} {xs : List Value} (h : w.ownsRow base e size v n xs) : ∀ k, v.ownBlock = some k → base ≤ k := by
  intro k hk
  rcases h.2 with ⟨rfl, _⟩ | ⟨g, cap, cur, rfl, hg, _⟩
  · simp [Value.ownBlock] at hk
  · simp [Value.ownBlock] at hk; omega

/-- A slice written out in the text: one number, two numbers. -/
theorem IsU.lit1 (w : World) (e x : Nat) (hx : (x : Int) < 18446744073709551616) : IsU (w.alloc (.cells #[.int .u64 (x : Int)] e)) (.slice (some ⟨w.heap.size, 0, none⟩) 1 1) [x] :=
  IsU.of_owns (base := 0) (e := e) (World.ownsRow_lit (base := 0) (e := e) (size := 1) w #[.int .u64 (x : Int)] 1 (Nat.zero_le _) (by simp [maxLen]) rfl) (by intro y hy; simp at hy; omega)
theorem IsU.lit2 (w : World) (e x y : Nat) (hx : (x : Int) < 18446744073709551616) (hy : (y : Int) < 18446744073709551616) : IsU (w.alloc (.cells #[.int .u64 (x : Int), .int .u64 (y : Int)] e)) (.slice (some ⟨w.heap.size, 0, none⟩) 2 2) [x, y] :=
  IsU.of_owns (base := 0) (e := e) (World.ownsRow_lit (base := 0) (e := e) (size := 1) w #[.int .u64 (x : Int), .int .u64 (y : Int)] 2 (Nat.zero_le _) (by simp [maxLen]) rfl) (by intro z hz; simp at hz; omega)

theorem IsU.lit3 (w : World) (e x y z : Nat) (hx : (x : Int) < 18446744073709551616) (hy : (y : Int) < 18446744073709551616) (hz : (z : Int) < 18446744073709551616) : IsU (w.alloc (.cells #[.int .u64 (x : Int), .int .u64 (y : Int), .int .u64 (z : Int)] e)) (.slice (some ⟨w.heap.size, 0, none⟩) 3 3) [x, y, z] :=
  IsU.of_owns (base := 0) (e := e) (World.ownsRow_lit (base := 0) (e := e) (size := 1) w #[.int .u64 (x : Int), .int .u64 (y : Int), .int .u64 (z : Int)] 3 (Nat.zero_le _) (by simp [maxLen]) rfl) (by intro u hu; simp at hu; omega)
theorem IsU.lit4 (w : World) (e x y z t : Nat) (hx : (x : Int) < 18446744073709551616) (hy : (y : Int) < 18446744073709551616) (hz : (z : Int) < 18446744073709551616) (ht : (t : Int) < 18446744073709551616) : IsU (w.alloc (.cells #[.int .u64 (x : Int), .int .u64 (y : Int), .int .u64 (z : Int), .int .u64 (t : Int)] e)) (.slice (some ⟨w.heap.size, 0, none⟩) 4 4) [x, y, z, t] :=
  IsU.of_owns (base := 0) (e := e) (World.ownsRow_lit (base := 0) (e := e) (size := 1) w #[.int .u64 (x : Int), .int .u64 (y : Int), .int .u64 (z : Int), .int .u64 (t : Int)] 4 (Nat.zero_le _) (by simp [maxLen]) rfl) (by intro u hu; simp at hu; omega)
/-- A number of a slice whose place is known. -/
theorem IsU.cell {w : World} {g off l c : Nat} {xs : List Nat} (h : IsU w (.slice (some ⟨g, off, none⟩) l c) xs) (i : Nat) (hi : i < xs.length) : w.cell? ⟨g, off + i, none⟩ = some (.int .u64 ((xs.getD i 0 : Nat) : Int)) := by
  obtain ⟨a, cap, e, _, _, hc, _⟩ := h
  simp only [Value.slice.injEq] at e
  obtain ⟨rfl, rfl, rfl⟩ := e
  obtain ⟨b, off', e2, hcell⟩ := hc i hi
  simp only [Option.some.injEq, Addr.mk.injEq, and_true] at e2
  obtain ⟨rfl, rfl⟩ := e2
  exact hcell
/-- A slice with a number in it has a place. -/
theorem IsU.place {w : World} {v : Value} {xs : List Nat} (h : IsU w v xs) (hi : 0 < xs.length) : ∃ b off cap, v = .slice (some ⟨b, off, none⟩) xs.length cap := by
  obtain ⟨a, cap, rfl, _, _, hc, _⟩ := h
  obtain ⟨b, off, rfl, _⟩ := hc 0 hi
  exact ⟨b, off, cap, rfl⟩
theorem IsU.placeN {w : World} {v : Value} {xs : List Nat} {n : Nat} (h : IsU w v xs) (hn : xs.length = n) (hi : 0 < n) : ∃ b off cap, v = .slice (some ⟨b, off, none⟩) n cap := by
  subst hn
  exact h.place hi
theorem IsU.range {w : World} {v : Value} {xs : List Nat} (h : IsU w v xs) : ∀ x ∈ xs, (x : Int) < 18446744073709551616 := by
  obtain ⟨_, _, _, _, _, _, hr⟩ := h
  exact hr
theorem IsU.cast {w : World} {v : Value} {l l' : List Nat} (h : IsU w v l) (e : l = l') : IsU w v l' := e ▸ h
/-- The first n numbers of a slice. -/
theorem IsU.take {w : World} {a : Option Addr} {cap n : Nat} {xs : List Nat} (h : IsU w (.slice a xs.length cap) xs) (hn : n ≤ xs.length) : IsU w (.slice a n cap) (xs.take n) := by
  obtain ⟨a', cap', e, h1, h2, hc, hr⟩ := h
  simp only [Value.slice.injEq, true_and] at e
  obtain ⟨rfl, rfl⟩ := e
  have hl : (xs.take n).length = n := by simp; omega
  refine ⟨a, cap, by rw [hl], by omega, h2, fun i hi => ?_, fun x hx => hr x (List.mem_of_mem_take hx)⟩
  rw [hl] at hi
  obtain ⟨b, off, hb, hcell⟩ := hc i (by omega)
  refine ⟨b, off, hb, ?_⟩
  rw [hcell]
  simp [List.getD, List.getElem?_take_of_lt hi]

theorem owns_below {w w' : World} {base e size n : Nat} {v : Value} {xs : List Value} (h : w.ownsRow base e size v n xs) (hb : Below w.heap.size w w') : w'.ownsRow base e size v n xs := by
  refine ⟨h.1, ?_⟩
  rcases h.2 with h2 | ⟨g, cap, cur, hv, hg, hh, r⟩
  · exact Or.inl h2
  · have hlt : g < w.heap.size := by
      rcases Nat.lt_or_ge g w.heap.size with hl | hl
      · exact hl
      · rw [Array.getElem?_eq_none hl] at hh; cases hh
    exact Or.inr ⟨g, cap, cur, hv, hg, (hb.block g hlt).trans hh, r⟩

theorem range_getD {xs : List Nat} (h : ∀ x ∈ xs, (x : Int) < 18446744073709551616) (i : Nat) : ((xs.getD i 0 : Nat) : Int) < 18446744073709551616 := by
  rcases Nat.lt_or_ge i xs.length with hi | hi
  · simp only [List.getD, List.getElem?_eq_getElem hi, Option.getD_some]
    exact h _ (List.getElem_mem hi)
  · simp [List.getD, List.getElem?_eq_none hi]

theorem below_alloc1 (w : World) (o : Obj) : Below w.heap.size w (w.alloc o) := (Below.refl _ _).alloc (Nat.le_refl _) _
/-- Behind a new block: what is kept behind it is kept from ahead of it. -/
theorem below_alloc {w w' : World} {o : Obj} (h : Below (w.alloc o).heap.size (w.alloc o) w') : Below w.heap.size w w' :=
  (below_alloc1 w o).trans (h.mono (below_alloc1 w o).size)
theorem IsU.at {w : World} {a : Addr} {l c : Nat} {xs : List Nat} {n : Nat} (h : IsU w (.slice (some ⟨n, 0, none⟩) l c) xs) (e : a = ⟨n, 0, none⟩) : IsU w (.slice (some a) l c) xs := e ▸ h

/-- A slice of numbers of 64 bits that came in reads as a list. -/
theorem isU_of_row {w : World} {a : Option Addr} {len cap : Nat} {zs : List Int}
    (h : (a = none ∧ len = 0 ∧ cap = 0 ∧ zs = []) ∨ ∃ x, a = some x ∧ len ≤ cap ∧ cap ≤ maxLen ∧ zs.length = cap ∧ (∀ i, i < zs.length → w.cell? (x.add i) = some (.int .u64 (zs.getD i 0))) ∧ ∀ n ∈ zs, (Lit.int .u64 n).wf = true) :
    ∃ xs, IsU w (.slice a len cap) xs := by
  rcases h with ⟨rfl, rfl, rfl, _⟩ | ⟨x, rfl, hl, hm, hz, hc, hw⟩
  · exact ⟨[], IsU.nil w⟩
  · have hlen : ((zs.take len).map Int.toNat).length = len := by simp; omega
    refine ⟨(zs.take len).map Int.toNat, some x, cap, by rw [hlen], by omega, hm, fun i hi => ?_, fun y hy => ?_⟩
    · rw [hlen] at hi
      obtain ⟨b, off, rfl, hc2⟩ := ints_at hc (by omega)
      refine ⟨b, off, rfl, ?_⟩
      have hi2 : i < zs.length := by omega
      rw [hc2 i hi2]
      have hb := bounds_u64 (hw _ (List.getElem_mem hi2))
      simp only [List.getD, List.getElem?_map, List.getElem?_take_of_lt hi, List.getElem?_eq_getElem hi2, Option.map_some, Option.getD_some]
      congr 2
      omega
    · obtain ⟨n, hn, rfl⟩ := List.mem_map.mp hy
      have hb := bounds_u64 (hw _ (List.mem_of_mem_take hn))
      omega

end Go.Proofs.YtmggccepmicjhagGreatDoor

/-! What the walks ask of a world where the code reads the tables of package math/bits; nothing where it doesn't. -/
namespace Go.Proofs.YtmggccepmicjhagGreatDoor
open Go.RowKit
set_option maxRecDepth 100000

/-- The table of package math/bits lies where its variable lies. -/
def tz64 : List Nat := [0, 1, 56, 2, 57, 49, 28, 3, 61, 58, 42, 50, 38, 29, 17, 4, 62, 47, 59, 36, 45, 43, 51, 22, 53, 39, 33, 30, 24, 18, 12, 5, 63, 55, 48, 27, 60, 41, 37, 16, 46, 35, 44, 21, 52, 32, 23, 11, 54, 26, 40, 15, 34, 20, 31, 10, 25, 14, 19, 9, 13, 8, 7, 6]
def TabZ (w : World) : Prop := ∀ j, j < 64 → w.cell? ⟨5, j, none⟩ = some (.int .u8 ((tz64.getD j 0 : Nat) : Int))
theorem TabZ.below {w w' : World} (h : TabZ w) (hb : Below w.heap.size w w') : TabZ w' := fun j hj => (hb.cell (block_lt (h j hj))).trans (h j hj)
/-- The table of the powers of ten, that strconv reads. -/
def TabP (w : World) : Prop := Lib.TabIs Tryz.prog w "internal/strconv.uint64pow10" .u64 Lib.pow10Tab
theorem gPow : Tryz.prog.globalNamed "internal/strconv.uint64pow10" = some 1 := by kernel_rfl
theorem TabP.below {w w' : World} (h : TabP w) (hb : Below w.heap.size w w') : TabP w' := by
  unfold TabP Lib.TabIs World.var? at h ⊢
  rw [gPow] at h ⊢
  simp only [Option.bind_some] at h ⊢
  have hlt : 1 < w.heap.size := by
    rcases Nat.lt_or_ge 1 w.heap.size with h' | h'
    · exact h'
    · rw [Array.getElem?_eq_none h'] at h; cases h
  rw [hb.block _ hlt]
  exact h
/-- What strings.Split and strconv.ParseUint read: an int in internal/bytealg.MaxLen, errors in two variables. -/
def TabE (w : World) : Prop := (∃ m, w.cell? ⟨0, 0, none⟩ = some (.int .i64 m)) ∧ (∃ t p, w.cell? ⟨6, 0, none⟩ = some (.iface t p)) ∧ ∃ t p, w.cell? ⟨7, 0, none⟩ = some (.iface t p)
theorem TabE.below {w w' : World} (h : TabE w) (hb : Below w.heap.size w w') : TabE w' := by
  obtain ⟨⟨m, h1⟩, ⟨t2, p2, h2⟩, t3, p3, h3⟩ := h
  exact ⟨⟨m, (hb.cell (block_lt h1)).trans h1⟩, ⟨t2, p2, (hb.cell (block_lt h2)).trans h2⟩, t3, p3, (hb.cell (block_lt h3)).trans h3⟩
def Tab (w : World) : Prop := TabZ w ∧ TabP w ∧ TabE w
theorem Tab.below {w w' : World} (h : Tab w) (hb : Below w.heap.size w w') : Tab w' := ⟨h.1.below hb, h.2.1.below hb, h.2.2.below hb⟩

end Go.Proofs.YtmggccepmicjhagGreatDoor

/-! What the program's text lays in the variables that the desk's calls read is what the walks ask of a world; a world that has it. -/
namespace Go.Proofs.YtmggccepmicjhagGreatDoor
open Go.RowKit
set_option maxRecDepth 100000

def laids : List (String × DataW Unit) := [("math/bits.deBruijn32tab", Rows.laid_math_bits_deBruijn32tab), ("math/bits.deBruijn64tab", Rows.laid_math_bits_deBruijn64tab), ("internal/strconv.uint64pow10", Rows.laid_internal_strconv_uint64pow10), ("unicode/utf8.acceptRanges", Rows.laid_unicode_utf8_acceptRanges), ("strconv.ErrRange", Rows.laid_strconv_ErrRange), ("strconv.ErrSyntax", Rows.laid_strconv_ErrSyntax), ("unicode/utf8.first", Rows.laid_unicode_utf8_first)]
theorem tPow : (Tryz.prog.globals[1]?).map (·.type) = some 131 := by kernel_rfl
theorem cPow : Tryz.prog.cellsOf 131 = 20 := by kernel_rfl
theorem cU64 : Tryz.prog.cellsOf 77 = 1 := by kernel_rfl
theorem gTab : Tryz.prog.globalNamed "math/bits.deBruijn64tab" = some 5 := by kernel_rfl
theorem tTab : (Tryz.prog.globals[5]?).map (·.type) = some 148 := by kernel_rfl
theorem cTab : Tryz.prog.cellsOf 148 = 64 := by kernel_rfl
theorem cU8 : Tryz.prog.cellsOf 5 = 1 := by kernel_rfl
def zTab : List Int := tz64.map fun (x : Nat) => (x : Int)

theorem tabZ_of {W : World} {rest : List (String × DataW Unit)} (h2 : laidMet Tryz.prog (("math/bits.deBruijn64tab", Lib.tabData .u8 zTab) :: rest) W) : TabZ W := by
  have hT := Lib.tabIs_of_head gTab tTab Tryz.underlying148 Tryz.underlying5 cU8 cTab h2
  intro j hj
  have hc := hT.cell gTab j (by unfold zTab; rw [List.length_map]; exact hj)
  rw [hc]
  have e : zTab.getD j 0 = ((tz64.getD j 0 : Nat) : Int) := by
    unfold zTab
    rw [List.getD, List.getElem?_map, List.getD]
    cases tz64[j]? <;> rfl
  rw [e]
theorem starErr : "*" ++ "errors.errorString" = "*errors.errorString" := by decide
theorem rowErr (u : TypeId) (h : Tryz.prog.typeName? 3 u = some "*errors.errorString") : u = 153 :=
  typeName_ptr_named (nm := "errors.errorString") (by rw [starErr]; kernel_rfl) (by kernel_rfl) (by decide) u (by rw [starErr]; exact h)
theorem gErrR : Tryz.prog.globalNamed "strconv.ErrRange" = some 7 := by kernel_rfl
theorem tErrR : (Tryz.prog.globals[7]?).map (·.type) = some 36 := by kernel_rfl
theorem gErrS : Tryz.prog.globalNamed "strconv.ErrSyntax" = some 6 := by kernel_rfl
theorem tErrS : (Tryz.prog.globals[6]?).map (·.type) = some 36 := by kernel_rfl
theorem cErr : Tryz.prog.cellsOf 155 = 1 := by kernel_rfl
theorem cStr : Tryz.prog.cellsOf 9 = 1 := by kernel_rfl
theorem tab_of_laid {W : World} (h : laidMetH Tryz.prog laids W) (hsh : W.ShapedOpen Tryz.prog) : Tab W := by
  rw [MakeChecks.laidMetH_plain _ _ _ (by kernel_rfl)] at h
  have h2 : laidMet Tryz.prog (("math/bits.deBruijn64tab", Lib.tabData .u8 zTab) :: ("internal/strconv.uint64pow10", Lib.tabData .u64 Lib.pow10Tab) :: ("unicode/utf8.acceptRanges", Rows.laid_unicode_utf8_acceptRanges) :: ("strconv.ErrRange", Rows.laid_strconv_ErrRange) :: ("strconv.ErrSyntax", Rows.laid_strconv_ErrSyntax) :: [("unicode/utf8.first", Rows.laid_unicode_utf8_first)]) W := laidMet.tail h
  have h3 := laidMet.tail h2
  have h5 := laidMet.tail (laidMet.tail h3)
  obtain ⟨a1, s1, hv1, -, -, -⟩ := laid_sentinel h5 gErrR tErrR Tryz.underlying36 rowErr Tryz.underlying153 Tryz.underlying155 rfl rfl Tryz.underlying9 cErr cStr
  obtain ⟨a2, s2, hv2, -, -, -⟩ := laid_sentinel (laidMet.tail h5) gErrS tErrS Tryz.underlying36 rowErr Tryz.underlying153 Tryz.underlying155 rfl rfl Tryz.underlying9 cErr cStr
  have c1 : W.cell? ⟨7, 0, none⟩ = some (.iface 153 (.pointer (some a1))) := by
    have h0 := World.var?_cell gErrR hv1 0
    simpa using h0
  have c2 : W.cell? ⟨6, 0, none⟩ = some (.iface 153 (.pointer (some a2))) := by
    have h0 := World.var?_cell gErrS hv2 0
    simpa using h0
  have c0 : ∃ m, W.cell? ⟨0, 0, none⟩ = some (.int .i64 m) := cell_of_shapedOpen_int (zero := #[.int .i64 0]) (t := 3) hsh (of_decide_eq_true (by kernel_rfl)) (by kernel_rfl) rfl (by kernel_rfl) (by kernel_rfl) Tryz.underlying3
  exact ⟨tabZ_of h2, Lib.tabIs_of_head gPow tPow Tryz.underlying131 Tryz.underlying77 cU64 cPow h3, c0, ⟨_, _, c2⟩, _, _, c1⟩
theorem laid_met (os : Os) (args : Array Value) : laidMetH Tryz.prog laids ((World.laidAll Tryz.prog os laids).forCall (fun _ _ => 0) ⟨#[], args, []⟩).memory := by
  rw [MakeChecks.laidMetH_plain _ _ _ (by kernel_rfl)]
  exact laidMet_laidAll _ (by kernel_rfl) (by kernel_rfl)

end Go.Proofs.YtmggccepmicjhagGreatDoor
