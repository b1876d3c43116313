/-
  Blocks that hold bytes and nothing else: what a store, a make and a conversion to a text do.
-/
import Derived.Test.YtndmhceampggmacDoorRowV
import Derived.Test.YtndmhceampggmacDoorRefGreat
import Derived.Laws.IdiomStrings
namespace Go.Proofs.YtndmhceampggmacDoor
open Go.RowKit

/-- Bytes as cells. -/
def cellsB (xs : List Nat) : List Value := xs.map fun (x : Nat) => Value.int .u8 (x : Int)
theorem cellsB_length (xs : List Nat) : (cellsB xs).length = xs.length := by simp [cellsB]
theorem cellsB_set (xs : List Nat) (i x : Nat) : (cellsB xs).set i (.int .u8 (x : Int)) = cellsB (xs.set i x) := by unfold cellsB; rw [List.map_set]
/-- Block g holds these bytes. -/
def RowB (w : World) (g : Nat) (xs : List Nat) : Prop := RowV 5 w g (cellsB xs)
theorem RowB.lt {w : World} {g : Nat} {xs : List Nat} (h : RowB w g xs) : g < w.heap.size := RowV.lt h
theorem RowB.cell {w : World} {g : Nat} {xs : List Nat} (h : RowB w g xs) (i : Nat) (hi : i < xs.length) : w.cell? ⟨g, i, none⟩ = some (.int .u8 ((xs.getD i 0 : Nat) : Int)) := by
  rw [RowV.cell h i]
  simp [cellsB, List.getD, hi]
theorem RowB.frozen {w : World} {g : Nat} {xs : List Nat} (h : RowB w g xs) (i : Nat) : w.frozen? ⟨g, i, none⟩ = false := RowV.frozen h i
theorem RowB.set {w : World} {g : Nat} {xs : List Nat} (h : RowB w g xs) (i x : Nat) : RowB (w.setCell ⟨g, i, none⟩ (.int .u8 (x : Int))) g (xs.set i x) := (RowV.set h i _).cast (cellsB_set _ _ _)
theorem RowB.below {w w' : World} {g : Nat} {xs : List Nat} (h : RowB w g xs) (hb : Below w.heap.size w w') : RowB w' g xs := RowV.below h hb
theorem RowB.cast {w : World} {g : Nat} {xs ys : List Nat} (h : RowB w g xs) (e : xs = ys) : RowB w g ys := e ▸ h
theorem info_byte : (Tryd.prog.info? 5).map (fun i => (i.zero, i.size, i.bytes)) = some (some (.int .u8 0), 1, 1) := by kernel_rfl
theorem made_byte (n : Nat) : (madeCells (Value.int .u8 0).cells (n * 1)).toList = cellsB (List.replicate n 0) := by
  rw [show (Value.int .u8 0).cells = #[Value.int .u8 0] from rfl, Nat.mul_one, toList_madeCells_one]
  unfold cellsB
  rw [List.map_replicate]; rfl
theorem wp_makeB {ops : Array Oper} {rest : List Oper} {o : Oper} {a : Act} {Q : Exit → Act → World → Prop} {w : World} (hgd : o.guard = none) (l c : Operand) (ho : o.op = Op.makeSlice 85 l c) (n : Nat)
    (hl : a.eval l = .int .i64 (n : Int)) (hc : a.eval c = .int .i64 (n : Int)) (hn : n ≤ 1000000000)
    (h : ∀ g w', Hid (g = w.heap.size) → RowB w' g (List.replicate n 0) → Below w.heap.size w w' → wpList Tryd.prog ops Q rest (a.put o.dst (.slice (some ⟨g, 0, none⟩) n n)) w') :
    wpList Tryd.prog ops Q (o :: rest) a w := by
  obtain ⟨i0, hi, hz0, hz1, hz2⟩ := info_parts info_byte
  refine wpList_make_full w hgd l c 85 ho w.heap.size 5 i0 (.int .u8 0) 1 Tryd.underlying85 hi hz0 hz1 .i64 .i64 n n n hl hc rfl rfl (by rw [hz2]; omega) (by unfold maxLen; omega) (Nat.le_refl _) ?_
  intro w' hown hgrow
  rw [made_byte] at hown
  refine h w.heap.size w' rfl ?_ ((Below.refl _ _).grown hgrow (Nat.le_refl _) (fun k hk => by cases hk))
  rcases hown.2 with ⟨hv, _⟩ | ⟨g', cap', cur, hv, hg, hh, h1, h2, h3, h4⟩
  · cases hv
  · simp only [Value.slice.injEq, Option.some.injEq, Addr.mk.injEq, and_true, true_and] at hv
    obtain ⟨rfl, rfl⟩ := hv
    have hcur : cur.toList = cellsB (List.replicate n 0) := by rw [← h4, Nat.mul_one, List.take_of_length_le (by simp [h3])]
    have hcur2 : cur = (cellsB (List.replicate n 0)).toArray := by rw [← hcur]
    rw [hcur2] at hh
    exact hh
/-- The bytes from o on, as a text: they are the bytes of digits. -/
theorem RowB.text {w : World} {g : Nat} {ds : List Nat} (h : RowB w g (by' ds)) (hd : Dg ds) (o n cap : Nat) (hn : n = ds.length - o) :
    (convert 85 9 (.slice (some ⟨g, o, none⟩) n cap)).run Tryd.prog w = .ok (.string (bsX (tx (ds.drop o)))) w := by
  have q := run_convert_bytes_back (P := Tryd.prog) w 85 9 5 ⟨g, o, none⟩ cap (tx (ds.drop o)) Tryd.underlying85 Tryd.underlying5 Tryd.underlying9 (fun j hj => by
    have hj' : o + j < ds.length := by rw [tx_length, List.length_drop] at hj; omega
    rw [Addr.add_lit, h.cell (o + j) (by rw [by'_length]; exact hj'), by'_get ds _ hj']
    have h9 : ds[o + j] ≤ 9 := hd _ (List.getElem_mem hj')
    have e : (tx (ds.drop o))[j].toNat = 48 + ds.getD (o + j) 0 := by
      have e1 : (tx (ds.drop o))[j]? = some (UInt8.ofNat (48 + ds[o + j])) := by simp [tx, hj']
      rw [(List.getElem?_eq_some_iff.mp e1).2, UInt8.toNat_ofNat', show ds.getD (o + j) 0 = ds[o + j] by simp [List.getD, hj']]
      omega
    rw [e])
  rw [tx_length, List.length_drop, ← hn] at q
  exact q
/-- Bytes under way: k of them are told. -/
def bwk (ds : List Nat) (k : Nat) : List Nat := (List.range ds.length).map fun j => if j < k then 48 + ds.getD j 0 else 0
theorem bwk_length (ds : List Nat) (k : Nat) : (bwk ds k).length = ds.length := by simp [bwk]
theorem bwk_zero (ds : List Nat) : bwk ds 0 = List.replicate ds.length 0 := by
  unfold bwk
  rw [show (fun j => if j < 0 then 48 + ds.getD j 0 else 0) = fun _ => 0 from funext fun j => if_neg (by omega), List.map_const', List.length_range]
theorem bwk_set (ds : List Nat) (k : Nat) : (bwk ds k).set k (48 + ds.getD k 0) = bwk ds (k + 1) := by
  apply List.ext_getElem
  · simp [bwk]
  · intro t h1 h2
    rw [List.getElem_set]
    simp only [bwk, List.getElem_map, List.getElem_range]
    by_cases e : k = t
    · subst e
      rw [if_pos rfl, if_pos (by omega)]
    · rw [if_neg e]
      by_cases e2 : t < k
      · rw [if_pos e2, if_pos (by omega)]
      · rw [if_neg e2, if_neg (by omega)]
theorem bwk_full (ds : List Nat) : bwk ds ds.length = by' ds := by
  apply List.ext_getElem
  · rw [bwk_length, by'_length]
  · intro t h1 h2
    rw [by'_length] at h2
    simp [bwk, by', List.getD, h2]

end Go.Proofs.YtndmhceampggmacDoor
