/-
  Texts that stood one behind the other, as one.
-/
import Derived.Test.YtmggccepmicjhagGreatDoorRefGreatAll
import Derived.Laws.CopyOwn
import Derived.Test.YtmggccepmicjhagGreatDoorPure
import Derived.Test.YtmggccepmicjhagGreatDoorSlAll
import Derived.Test.YtmggccepmicjhagGreatDoorRows
import Derived.WalkKit
import Derived.WalkSpells
import Derived.WalkLawsBesides
/-! A slice of so many numbers is made; numbers are copied into it, or stored: what is owned behind it; nothing that was there is written. -/
namespace Go.Proofs.YtmggccepmicjhagGreatDoor
open Go.RowKit
set_option maxRecDepth 100000

theorem made_u64 (n : Nat) : (madeCells (Value.int .u64 0).cells (n * 1)).toList = cellsU (List.replicate n 0) := by
  rw [show (Value.int .u64 0).cells = #[Value.int .u64 0] from rfl, Nat.mul_one, toList_madeCells_one]
  unfold cellsU
  rw [List.map_replicate]; rfl

theorem wp_make {ops : Array Oper} {rest : List Oper} {o : Oper} {a : Act} {Q : Exit → Act → World → Prop} {w w0 : World} (hgd : o.guard = none) (l c : Operand) (ho : o.op = Op.makeSlice 73 l c) (n : Nat)
    (hl : a.eval l = .int .i64 (n : Int)) (hc : a.eval c = .int .i64 (n : Int)) (hn : n ≤ 1000000000) (hnx : Below w0.heap.size w0 w)
    (h : ∀ w', w'.ownsRow w0.heap.size 77 1 (.slice (some ⟨w.heap.size, 0, none⟩) n n) n (cellsU (List.replicate n 0)) → Below w.heap.size w w' → wpList Tryz.prog ops Q rest (a.put o.dst (.slice (some ⟨w.heap.size, 0, none⟩) n n)) w') :
    wpList Tryz.prog ops Q (o :: rest) a w := by
  obtain ⟨i0, hi, hz0, hz1, hz2⟩ := info_parts info_u64
  refine wpList_make_full w hgd l c 73 ho w0.heap.size 77 i0 (.int .u64 0) 1 Tryz.underlying73 hi hz0 hz1 .i64 .i64 n n n hl hc rfl rfl (by rw [hz2]; omega) (by unfold maxLen; omega) hnx.size ?_
  intro w' hown hgrow
  rw [made_u64] at hown
  exact h w' hown ((Below.refl _ _).grown hgrow (Nat.le_refl _) (fun k hk => by cases hk))

theorem cellsU_set (xs : List Nat) (j v : Nat) : (cellsU xs).set j (.int .u64 (v : Int)) = cellsU (xs.set j v) := by
  unfold cellsU
  rw [List.map_set]

/-- The first numbers of a list, and noughts behind them: n of them. -/
def szd (xs : List Nat) (n : Nat) : List Nat := xs.take n ++ List.replicate (n - xs.length) 0
theorem szd_length (xs : List Nat) (n : Nat) : (szd xs n).length = n := by simp [szd]; omega

theorem wp_copy {ops : Array Oper} {rest : List Oper} {o : Oper} {a : Act} {Q : Exit → Act → World → Prop} {w w0 : World} (hgd : o.guard = none) (d s : Operand)
    (ho : o.op = .call { callee := .builtin .copy, args := #[d, s], argTypes := #[73, 73] }) (g n : Nat) (v : Value) (xs : List Nat)
    (hd : a.eval d = .slice (some ⟨g, 0, none⟩) n n) (hs : a.eval s = v) (hU : IsU w v xs) (hown : w.ownsRow w0.heap.size 77 1 (.slice (some ⟨g, 0, none⟩) n n) n (cellsU (List.replicate n 0))) (hnx : Below w0.heap.size w0 w)
    (h : ∀ w' z, w'.ownsRow w0.heap.size 77 1 (.slice (some ⟨g, 0, none⟩) n n) n (cellsU (szd xs n)) → Below w0.heap.size w0 w' → wpList Tryz.prog ops Q rest (a.put o.dst (goInt z)) w') :
    wpList Tryz.prog ops Q (o :: rest) a w := by
  obtain ⟨p, cap, rfl, hcap, hmax, hc, hr⟩ := hU
  rcases hown.2 with ⟨hv, _⟩ | ⟨g', cap', cur, hv, hg, hh, h1, h2, h3, h4⟩
  · cases hv
  · simp only [Value.slice.injEq, Option.some.injEq, Addr.mk.injEq, and_true, true_and] at hv
    obtain ⟨rfl, rfl⟩ := hv
    have hcur : cur.toList = cellsU (List.replicate n 0) := by rw [← h4, Nat.mul_one, List.take_of_length_le (by simp [h3])]
    have hcur2 : cur = (cellsU (List.replicate n 0)).toArray := by rw [← hcur]
    rw [hcur2] at hh
    have hlen : (cellsU (xs.take n)).length = Nat.min xs.length n := by rw [cellsU_length, List.length_take, Nat.min_comm]
    refine wpList_copy_splice hgd d s 73 73 ho 77 Tryz.underlying73 (by kernel_rfl) _ _ _ _ _ _ hd hs g 0 (cellsU (List.replicate n 0)) 77 hh (cellsU (xs.take n)) hlen ?_ ?_ ?_ w0.heap.size w0 hnx hg ?_
    · intro hp
      have hpos : 0 < xs.length := by
        rw [cellsU_length, List.length_take] at hp; omega
      obtain ⟨b, off, rfl, _⟩ := hc 0 hpos
      refine ⟨rfl, ⟨b, off, none⟩, rfl, fun j u hj => ?_⟩
      have hjl : j < (xs.take n).length := by
        rcases Nat.lt_or_ge j (xs.take n).length with h5 | h5
        · exact h5
        · rw [List.getElem?_eq_none (by rw [cellsU_length]; exact h5)] at hj; cases hj
      rw [cellsU_get _ j hjl] at hj
      rw [List.length_take] at hjl
      obtain ⟨b', off', e, hcell⟩ := hc j (by omega)
      simp only [Option.some.injEq, Addr.mk.injEq, and_true] at e
      obtain ⟨rfl, rfl⟩ := e
      have e2 : (xs.take n).getD j 0 = xs.getD j 0 := by simp [List.getD, List.getElem?_take_of_lt (show j < n by omega)]
      rw [e2] at hj
      have e3 : (Addr.mk b off none).add j = ⟨b, off + j, none⟩ := Go.WideShapes.add_plain b off j
      rw [e3, hcell, ← hj]
    · rw [hlen, cellsU_length, List.length_replicate, Nat.zero_add]; exact Nat.min_le_right _ _
    · intro u hu
      obtain ⟨y, _, rfl⟩ := List.mem_map.mp hu
      rfl
    · intro w' hrow hb
      have hsp : splice (cellsU (List.replicate n 0)) 0 (cellsU (xs.take n)) = cellsU (szd xs n) := by
        unfold splice szd
        rw [List.take_zero, List.nil_append, Nat.zero_add, cellsU_append]
        congr 1
        unfold cellsU
        rw [← List.map_drop]
        congr 1
        simp
        omega
      have hrow' := hrow.out
      rw [hsp] at hrow'
      refine h w' _ ⟨by rw [cellsU_length, szd_length]; omega, Or.inr ⟨g, n, _, rfl, hg, hrow', Nat.le_refl _, h2, ?_, ?_⟩⟩ hb
      · simp [cellsU_length, szd_length]
      · rw [List.take_of_length_le (by rw [cellsU_length, szd_length]; omega)]

end Go.Proofs.YtmggccepmicjhagGreatDoor

/-! Rows of numbers that a call makes: the first numbers of a polynomial, owned. -/
namespace Go.Proofs.YtmggccepmicjhagGreatDoor
open Go.RowKit
set_option maxRecDepth 100000

theorem owns_drewN {w : World} {base e size n : Nat} {v : Value} {xs : List Value} (h : w.ownsRow base e size v n xs) (m : Nat) : (w.drewN m).ownsRow base e size v n xs := h

def rowK (n : Nat) (f : Nat → F) : List Value := cellsU (mk n f)
theorem rowK_succ (n : Nat) (f : Nat → F) : rowK (n + 1) f = rowK n f ++ [.int .u64 (((f n).val : Nat) : Int)] := by
  unfold rowK; rw [mk_succ, cellsU_append]; rfl
theorem rowK_isU {w : World} {base n : Nat} {v : Value} {f : Nat → F} (h : w.ownsRow base 77 1 v n (rowK n f)) : IsU w v (mk n f) :=
  IsU.of_owns h (fun x hx => by have := mk_lt n f x hx; unfold P at this; omega)

/-- A row of n numbers that is filled: the first m are there, noughts behind them. -/
def SL (n m : Nat) (f : Nat → F) : List Nat := mk m f ++ List.replicate (n - m) 0
theorem SL_zero (n : Nat) (f : Nat → F) : SL n 0 f = List.replicate n 0 := by simp [SL, mk]
theorem SL_length {n m : Nat} (f : Nat → F) (h : m ≤ n) : (SL n m f).length = n := by
  unfold SL
  rw [List.length_append, mk_length, List.length_replicate]; omega
theorem SL_set {n m : Nat} (f : Nat → F) (h : m < n) : (SL n m f).set m (f m).val = SL n (m + 1) f := by
  unfold SL
  obtain ⟨r, hr⟩ : ∃ r, n - m = r + 1 := ⟨n - m - 1, by omega⟩
  rw [hr, show n - (m + 1) = r by omega, List.set_append_right _ _ (by rw [mk_length]; exact Nat.le_refl m), mk_length, Nat.sub_self, List.replicate_succ, List.set_cons_zero, mk_succ, List.append_assoc]; rfl
theorem SL_full (n : Nat) (f : Nat → F) : SL n n f = mk n f := by simp [SL]
theorem SL_range {n m : Nat} (f : Nat → F) : ∀ x ∈ SL n m f, (x : Int) < 18446744073709551616 := by
  intro x hx
  rcases List.mem_append.mp hx with h1 | h1
  · have := mk_lt m f x h1
    unfold P at this; omega
  · have := List.eq_of_mem_replicate h1
    subst this; decide

end Go.Proofs.YtmggccepmicjhagGreatDoor

/-! Worlds of which one block alone has changed; slices that lie elsewhere. -/
namespace Go.Proofs.YtmggccepmicjhagGreatDoor
open Go.RowKit
set_option maxRecDepth 100000

/-- Of what was there, block g alone may have changed. -/
structure Bar (g : Nat) (w w' : World) : Prop where
  os : w'.os = w.os
  tape : w'.tape = w.tape
  output : w'.output = w.output
  size : w.heap.size ≤ w'.heap.size
  block : ∀ k, k < w.heap.size → k ≠ g → w'.heap[k]? = w.heap[k]?

theorem Bar.refl (g : Nat) (w : World) : Bar g w w := ⟨rfl, rfl, rfl, Nat.le_refl _, fun _ _ _ => rfl⟩
theorem Bar.trans {g : Nat} {a b c : World} (h : Bar g a b) (k : Bar g b c) : Bar g a c :=
  ⟨k.os.trans h.os, k.tape.trans h.tape, k.output.trans h.output, Nat.le_trans h.size k.size, fun i hi hg => (k.block i (Nat.lt_of_lt_of_le hi h.size) hg).trans (h.block i hi hg)⟩
theorem Bar.drewN {g : Nat} {a b : World} (h : Bar g a b) (n : Nat) : Bar g a (b.drewN n) := ⟨h.os, h.tape, h.output, h.size, h.block⟩
theorem Bar.setCell {g : Nat} {a b : World} (h : Bar g a b) (i : Nat) (u : Value) : Bar g a (b.setCell ⟨g, i, none⟩ u) :=
  h.trans ⟨rfl, rfl, rfl, by simp [World.setCell], fun k _ hg => Below.heap_setCell _ _ _ _ hg⟩
theorem Bar.of_below {g : Nat} {a b : World} (h : Below a.heap.size a b) : Bar g a b := ⟨h.os, h.tape, h.output, h.size, fun k hk _ => h.block k hk⟩
theorem Bar.below {g B : Nat} {a b : World} (h : Bar g a b) (hg : B ≤ g) (hB : B ≤ a.heap.size) : Below B a b := ⟨h.os, h.tape, h.output, h.size, fun k hk => h.block k (by omega) (by omega)⟩
/-- A block that was not there when a call began may change. -/
theorem Bar.fresh {g : Nat} {a b c : World} (h : Below a.heap.size a b) (hg : a.heap.size ≤ g) (k : Bar g b c) : Below a.heap.size a c :=
  h.trans (k.below hg h.size)

/-- The slice value v lies not in block g. -/
def Apart (v : Value) (g : Nat) : Prop := ∀ b off s l c, v = .slice (some ⟨b, off, s⟩) l c → 0 < l → b ≠ g
theorem IsU.bar {w w' : World} {v : Value} {xs : List Nat} {g : Nat} (h : IsU w v xs) (ha : Apart v g) (hb : Bar g w w') : IsU w' v xs := by
  obtain ⟨a, cap, rfl, h1, h2, hc, hr⟩ := h
  refine ⟨a, cap, rfl, h1, h2, fun i hi => ?_, hr⟩
  obtain ⟨b, off, rfl, hcell⟩ := hc i hi
  exact ⟨b, off, rfl, (World.cell?_of_block (w := w) (hb.block b (block_lt hcell) (ha b off none _ _ rfl (by omega)))).trans hcell⟩
theorem IsU.apart {w : World} {v : Value} {xs : List Nat} {g : Nat} (h : IsU w v xs) (hg : w.heap.size ≤ g) : Apart v g := by
  obtain ⟨a, cap, rfl, h1, h2, hc, hr⟩ := h
  intro b off s l c e hl
  simp only [Value.slice.injEq] at e
  obtain ⟨rfl, rfl, rfl⟩ := e
  obtain ⟨b', off', e2, hcell⟩ := hc 0 hl
  simp only [Option.some.injEq, Addr.mk.injEq] at e2
  obtain ⟨rfl, rfl, _⟩ := e2
  have := block_lt hcell
  omega
theorem apart_of {b off l c g : Nat} (h : b ≠ g) : Apart (.slice (some ⟨b, off, none⟩) l c) g := by
  intro b' off' s l' c' e _
  simp only [Value.slice.injEq, Option.some.injEq, Addr.mk.injEq] at e
  omega

end Go.Proofs.YtmggccepmicjhagGreatDoor

/-! Blocks that hold a list of numbers of 64 bits and nothing else; what a store, a make and a copy do to them; and worlds of which one block alone has changed. -/
namespace Go.Proofs.YtmggccepmicjhagGreatDoor
open Go.RowKit
set_option maxRecDepth 100000

/-- Block g holds the numbers xs, and nothing else. -/
def RowU (w : World) (g : Nat) (xs : List Nat) : Prop := w.heap[g]? = some (.cells (cellsU xs).toArray 77 (0, 0))
def Rng (xs : List Nat) : Prop := ∀ x ∈ xs, (x : Int) < 18446744073709551616

theorem RowU.lt {w : World} {g : Nat} {xs : List Nat} (h : RowU w g xs) : g < w.heap.size := by
  obtain ⟨hlt, _⟩ := Array.getElem?_eq_some_iff.1 h
  exact hlt
theorem RowU.cell {w : World} {g : Nat} {xs : List Nat} (h : RowU w g xs) (i : Nat) (hi : i < xs.length) : w.cell? ⟨g, i, none⟩ = some (.int .u64 ((xs.getD i 0 : Nat) : Int)) := by
  have hh : w.heap[g]? = _ := h
  have hc := cellsU_get xs i hi
  simp only [World.cell?, hh, List.getElem?_toArray]
  rw [hc]; rfl
theorem RowU.frozen {w : World} {g : Nat} {xs : List Nat} (h : RowU w g xs) (i : Nat) : w.frozen? ⟨g, i, none⟩ = false := by
  have hh : w.heap[g]? = _ := h
  simp [World.frozen?, hh]
theorem RowU.set {w : World} {g : Nat} {xs : List Nat} (h : RowU w g xs) (i x : Nat) : RowU (w.setCell ⟨g, i, none⟩ (.int .u64 (x : Int))) g (xs.set i x) := by
  have hh : w.heap[g]? = _ := h
  unfold RowU
  rw [← cellsU_set]
  simp [World.setCell, Array.getElem?_modify, hh]
theorem RowU.block {w w' : World} {g : Nat} {xs : List Nat} (h : RowU w g xs) (e : w'.heap[g]? = w.heap[g]?) : RowU w' g xs := e.trans h
theorem RowU.below {w w' : World} {g : Nat} {xs : List Nat} (h : RowU w g xs) (hb : Below w.heap.size w w') : RowU w' g xs := h.block (hb.block g h.lt)
theorem RowU.drewN {w : World} {g : Nat} {xs : List Nat} (h : RowU w g xs) (n : Nat) : RowU (w.drewN n) g xs := h
theorem RowU.cast {w : World} {g : Nat} {xs ys : List Nat} (h : RowU w g xs) (e : xs = ys) : RowU w g ys := e ▸ h
theorem RowU.isU {w : World} {g : Nat} {xs : List Nat} (h : RowU w g xs) (hr : Rng xs) (hl : xs.length ≤ 1000000000) : IsU w (.slice (some ⟨g, 0, none⟩) xs.length xs.length) xs :=
  ⟨some ⟨g, 0, none⟩, xs.length, rfl, Nat.le_refl _, by unfold maxLen; omega, fun i hi => ⟨g, 0, rfl, by rw [Nat.zero_add]; exact h.cell i hi⟩, hr⟩
theorem RowU.isUN {w : World} {g n : Nat} {xs : List Nat} (h : RowU w g xs) (hr : Rng xs) (hl : xs.length ≤ 1000000000) (hn : xs.length = n) : IsU w (.slice (some ⟨g, 0, none⟩) n n) xs := by
  subst hn; exact h.isU hr hl
theorem RowU.of_owns {w : World} {base g n : Nat} {xs : List Nat} (h : w.ownsRow base 77 1 (.slice (some ⟨g, 0, none⟩) n n) n (cellsU xs)) : RowU w g xs := by
  have hlen := h.1
  rcases h.2 with ⟨hv, _⟩ | ⟨g', cap', cur, hv, hg, hh, h1, h2, h3, h4⟩
  · cases hv
  · simp only [Value.slice.injEq, Option.some.injEq, Addr.mk.injEq, and_true, true_and] at hv
    obtain ⟨rfl, rfl⟩ := hv
    have hcur : cur.toList = cellsU xs := by rw [← h4, Nat.mul_one, List.take_of_length_le (by simp [h3])]
    have hcur2 : cur = (cellsU xs).toArray := by rw [← hcur]
    rw [hcur2] at hh
    exact hh

theorem Rng_of_P {xs : List Nat} (h : ∀ x ∈ xs, x < P) : Rng xs := fun x hx => by have := h x hx; unfold P at this; omega
theorem Rng_replicate (n : Nat) : Rng (List.replicate n 0) := fun x hx => by
  have := List.eq_of_mem_replicate hx
  subst this; decide

theorem RowU.bar {w w' : World} {g g' : Nat} {xs : List Nat} (h : RowU w g' xs) (hne : g' ≠ g) (hb : Bar g w w') : RowU w' g' xs := h.block (hb.block g' h.lt hne)

theorem wp_makeR {ops : Array Oper} {rest : List Oper} {o : Oper} {a : Act} {Q : Exit → Act → World → Prop} {w : World} (hgd : o.guard = none) (l c : Operand) (ho : o.op = Op.makeSlice 73 l c) (n : Nat)
    (hl : a.eval l = .int .i64 (n : Int)) (hc : a.eval c = .int .i64 (n : Int)) (hn : n ≤ 1000000000)
    (h : ∀ w', RowU w' w.heap.size (List.replicate n 0) → Below w.heap.size w w' → wpList Tryz.prog ops Q rest (a.put o.dst (.slice (some ⟨w.heap.size, 0, none⟩) n n)) w') :
    wpList Tryz.prog ops Q (o :: rest) a w :=
  wp_make (w0 := w) hgd l c ho n hl hc hn (Below.refl _ _) fun w' hown hb => h w' (RowU.of_owns hown) hb

theorem wp_makeG {ops : Array Oper} {rest : List Oper} {o : Oper} {a : Act} {Q : Exit → Act → World → Prop} {w : World} (hgd : o.guard = none) (l c : Operand) (ho : o.op = Op.makeSlice 73 l c) (n : Nat)
    (hl : a.eval l = .int .i64 (n : Int)) (hc : a.eval c = .int .i64 (n : Int)) (hn : n ≤ 1000000000)
    (h : ∀ g w', Hid (g = w.heap.size) → RowU w' g (List.replicate n 0) → Below w.heap.size w w' → wpList Tryz.prog ops Q rest (a.put o.dst (.slice (some ⟨g, 0, none⟩) n n)) w') :
    wpList Tryz.prog ops Q (o :: rest) a w :=
  wp_makeR hgd l c ho n hl hc hn fun w' hr hb => h w.heap.size w' rfl hr hb

/-- A list with another one laid over it, from a place on. -/
def lay (zs : List Nat) (off : Nat) (xs : List Nat) : List Nat := zs.take off ++ xs ++ zs.drop (off + xs.length)

theorem lay_length {zs xs : List Nat} {off : Nat} (h : off + xs.length ≤ zs.length) : (lay zs off xs).length = zs.length := by
  unfold lay
  simp only [List.length_append, List.length_take, List.length_drop]; omega
theorem lay_rng {zs xs : List Nat} {off : Nat} (hz : Rng zs) (hx : Rng xs) : Rng (lay zs off xs) := by
  intro x h
  unfold lay at h
  rcases List.mem_append.mp h with h1 | h1
  · rcases List.mem_append.mp h1 with h2 | h2
    · exact hz x (List.mem_of_mem_take h2)
    · exact hx x h2
  · exact hz x (List.mem_of_mem_drop h1)
theorem lay_zeros (n : Nat) (xs : List Nat) (h : xs.length ≤ n) (i : Nat) : cf (lay (List.replicate n 0) 0 xs) i = cf xs i := by
  unfold lay cf
  rw [List.take_zero, List.nil_append, Nat.zero_add]
  congr 1
  rcases Nat.lt_or_ge i xs.length with h1 | h1
  · simp [List.getD, List.getElem?_append_left h1]
  · rw [List.getD, List.getD, List.getElem?_append_right h1, List.getElem?_eq_none h1]
    rcases Nat.lt_or_ge (i - xs.length) (n - xs.length) with h2 | h2
    · simp [h2]
    · rw [List.getElem?_eq_none (by simp; omega)]
theorem lay_cons (xs : List Nat) : lay (List.replicate (xs.length + 1) 0) 1 xs = 0 :: xs := by
  unfold lay
  simp [List.replicate_succ, Nat.add_comm 1 xs.length]

theorem wp_copyR {ops : Array Oper} {rest : List Oper} {o : Oper} {a : Act} {Q : Exit → Act → World → Prop} {w w0 : World} (hgd : o.guard = none) (d s : Operand)
    (ho : o.op = .call { callee := .builtin .copy, args := #[d, s], argTypes := #[73, 73] }) (g off n c : Nat) (v : Value) (zs xs : List Nat)
    (hd : a.eval d = .slice (some ⟨g, off, none⟩) n c) (hs : a.eval s = v) (hU : IsU w v xs) (hrow : RowU w g zs) (hoff : off + n ≤ zs.length) (hxn : xs.length ≤ n) (hnx : Below w0.heap.size w0 w) (hg : w0.heap.size ≤ g)
    (h : ∀ w' z, RowU w' g (lay zs off xs) → Below w0.heap.size w0 w' → wpList Tryz.prog ops Q rest (a.put o.dst (goInt z)) w') :
    wpList Tryz.prog ops Q (o :: rest) a w := by
  obtain ⟨p, cap, rfl, hcap, hmax, hc, hr⟩ := hU
  have hlen : (cellsU xs).length = Nat.min xs.length n := by rw [cellsU_length]; exact (Nat.min_eq_left hxn).symm
  refine wpList_copy_splice hgd d s 73 73 ho 77 Tryz.underlying73 (by kernel_rfl) _ _ _ _ _ _ hd hs g off (cellsU zs) 77 hrow (cellsU xs) hlen ?_ ?_ ?_ w0.heap.size w0 hnx hg ?_
  · intro hp
    have hpos : 0 < xs.length := by
      rw [cellsU_length] at hp; omega
    obtain ⟨b, off', rfl, _⟩ := hc 0 hpos
    refine ⟨rfl, ⟨b, off', none⟩, rfl, fun j u hj => ?_⟩
    have hjl : j < xs.length := by
      rcases Nat.lt_or_ge j xs.length with h5 | h5
      · exact h5
      · rw [List.getElem?_eq_none (by rw [cellsU_length]; exact h5)] at hj; cases hj
    rw [cellsU_get _ j hjl] at hj
    obtain ⟨b', off'', e, hcell⟩ := hc j hjl
    simp only [Option.some.injEq, Addr.mk.injEq, and_true] at e
    obtain ⟨rfl, rfl⟩ := e
    have e3 : (Addr.mk b off' none).add j = ⟨b, off' + j, none⟩ := Go.WideShapes.add_plain b off' j
    rw [e3, hcell, ← hj]
  · rw [cellsU_length, cellsU_length]; omega
  · intro u hu
    obtain ⟨y, _, rfl⟩ := List.mem_map.mp hu
    rfl
  · intro w' hrow' hb
    have hsp : splice (cellsU zs) off (cellsU xs) = cellsU (lay zs off xs) := by
      unfold splice lay
      rw [cellsU_length]
      unfold cellsU
      rw [List.map_append, List.map_append, List.map_take, List.map_drop]
      rw [List.append_assoc]
    have hr2 := hrow'.out
    rw [hsp] at hr2
    exact h w' _ hr2 hb

end Go.Proofs.YtmggccepmicjhagGreatDoor

/-! What In of package goldref answers. -/
namespace Go.Proofs.YtmggccepmicjhagGreatDoor
open Go.RowKit
set_option maxRecDepth 100000

end Go.Proofs.YtmggccepmicjhagGreatDoor
