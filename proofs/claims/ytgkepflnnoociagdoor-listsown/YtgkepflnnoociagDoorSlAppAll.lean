/-
  Texts that stood one behind the other, as one.
-/
import Derived.Test.YtgkepflnnoociagDoorRows
import Derived.Test.YtgkepflnnoociagDoorSl
import Derived.Laws.CopyOwn
import Derived.Test.YtgkepflnnoociagDoorPure
/-! One number is appended to a slice that the call itself made: what is owned behind it; nothing that was there is written. -/
namespace Go.Proofs.YtgkepflnnoociagDoor
open Go.RowKit

theorem info_u64 : (Tryd.prog.info? 27).map (fun i => (i.zero, i.size, i.bytes)) = some (some (.int .u64 0), 1, 8) := by kernel_rfl

theorem wp_append1 {ops : Array Oper} {rest : List Oper} {o : Oper} {a : Act} {Q : Exit → Act → World → Prop} {w w0 : World} (hgd : o.guard = none) (s x : Operand)
    (ho : o.op = .call { callee := .builtin .append, args := #[s, x], argTypes := #[23, 23] }) (v : Value) (n : Nat) (xs : List Value) (z : Nat)
    (hs : a.eval s = v) (hown : w.ownsRow w0.heap.size 27 1 v n xs) (hx : a.eval x = .slice (some ⟨w.heap.size, 0, none⟩) 1 1)
    (hn : n ≤ 1000000000) (hnx : Below w0.heap.size w0 w)
    (h : ∀ v' w', w'.ownsRow w0.heap.size 27 1 v' (n + 1) (xs ++ [.int .u64 (z : Int)]) → Below w0.heap.size w0 w' → wpList Tryd.prog ops Q rest (a.put o.dst v') w') :
    wpList Tryd.prog ops Q (o :: rest) a (w.alloc (.cells #[.int .u64 (z : Int)] 27)) := by
  obtain ⟨i0, hi, hz0, hz1, hz2⟩ := info_parts info_u64
  have hsz := hnx.size
  refine wpList_append_own _ hgd s x 23 ho w0.heap.size 27 i0 (.int .u64 0) 1 8 Tryd.underlying23 hi hz0 hz1 hz2 rfl (by decide) v n xs hs (hown.alloc _) ⟨w.heap.size, 0, none⟩ 1 1 [.int .u64 (z : Int)] hx rfl ?_ ?_ ?_ ?_ ?_ ?_
  · intro j u hj
    match j, hj with
    | 0, hj => simp at hj; subst hj; simp [Addr.add]
  · intro u hu; simp at hu; subst hu; rfl
  · unfold maxLen; omega
  · omega
  · simp; omega
  · intro v' w' hown' hgrow _
    exact h v' w' hown' ((hnx.alloc hsz _).grown hgrow (by simp; omega) (owns_block hown))

/-- The slice v is a row of the call's own (from block B on) that holds the numbers xs. -/
def Ow (B : Nat) (w : World) (v : Value) (xs : List Nat) : Prop := w.ownsRow B 27 1 v xs.length (cellsU xs)
theorem Ow.isU {B : Nat} {w : World} {v : Value} {xs : List Nat} (h : Ow B w v xs) (hr : ∀ x ∈ xs, (x : Int) < 18446744073709551616) : IsU w v xs := IsU.of_owns h hr
theorem Ow.mono {B B' : Nat} {w : World} {v : Value} {xs : List Nat} (h : Ow B' w v xs) (hB : B ≤ B') : Ow B w v xs := by
  refine ⟨h.1, ?_⟩
  rcases h.2 with h2 | ⟨g, cap, cur, hv, hg, r⟩
  · exact Or.inl h2
  · exact Or.inr ⟨g, cap, cur, hv, Nat.le_trans hB hg, r⟩
theorem Ow.below {B : Nat} {w w' : World} {v : Value} {xs : List Nat} (h : Ow B w v xs) (hb : Below w.heap.size w w') : Ow B w' v xs := owns_below h hb
theorem Ow.nil (B : Nat) (w : World) : Ow B w (.slice none 0 0) [] := World.ownsRow_nil _ _ _ _

end Go.Proofs.YtgkepflnnoociagDoor

/-! A slice of so many numbers is made; numbers are copied into it, or stored: what is owned behind it; nothing that was there is written. -/
namespace Go.Proofs.YtgkepflnnoociagDoor
open Go.RowKit

theorem made_u64 (n : Nat) : (madeCells (Value.int .u64 0).cells (n * 1)).toList = cellsU (List.replicate n 0) := by
  rw [show (Value.int .u64 0).cells = #[Value.int .u64 0] from rfl, Nat.mul_one, toList_madeCells_one]
  unfold cellsU
  rw [List.map_replicate]; rfl

theorem wp_make {ops : Array Oper} {rest : List Oper} {o : Oper} {a : Act} {Q : Exit → Act → World → Prop} {w w0 : World} (hgd : o.guard = none) (l c : Operand) (ho : o.op = Op.makeSlice 23 l c) (n : Nat)
    (hl : a.eval l = .int .i64 (n : Int)) (hc : a.eval c = .int .i64 (n : Int)) (hn : n ≤ 1000000000) (hnx : Below w0.heap.size w0 w)
    (h : ∀ w', w'.ownsRow w0.heap.size 27 1 (.slice (some ⟨w.heap.size, 0, none⟩) n n) n (cellsU (List.replicate n 0)) → Below w.heap.size w w' → wpList Tryd.prog ops Q rest (a.put o.dst (.slice (some ⟨w.heap.size, 0, none⟩) n n)) w') :
    wpList Tryd.prog ops Q (o :: rest) a w := by
  obtain ⟨i0, hi, hz0, hz1, hz2⟩ := info_parts info_u64
  refine wpList_make_full w hgd l c 23 ho w0.heap.size 27 i0 (.int .u64 0) 1 Tryd.underlying23 hi hz0 hz1 .i64 .i64 n n n hl hc rfl rfl (by rw [hz2]; omega) (by unfold maxLen; omega) hnx.size ?_
  intro w' hown hgrow
  rw [made_u64] at hown
  exact h w' hown ((Below.refl _ _).grown hgrow (Nat.le_refl _) (fun k hk => by cases hk))

theorem cellsU_set (xs : List Nat) (j v : Nat) : (cellsU xs).set j (.int .u64 (v : Int)) = cellsU (xs.set j v) := by
  unfold cellsU
  rw [List.map_set]

/-- The first numbers of a list, and noughts behind them: n of them. -/
def szd (xs : List Nat) (n : Nat) : List Nat := xs.take n ++ List.replicate (n - xs.length) 0
theorem szd_length (xs : List Nat) (n : Nat) : (szd xs n).length = n := by simp [szd]; omega

theorem wp_copy {ops : Array Oper} {rest : List Oper} {o : Oper} {a : Act} {Q : Exit → Act → World → Prop} {w w0 : World} (hgd : o.guard = none) (d s : Operand)
    (ho : o.op = .call { callee := .builtin .copy, args := #[d, s], argTypes := #[23, 23] }) (g n : Nat) (v : Value) (xs : List Nat)
    (hd : a.eval d = .slice (some ⟨g, 0, none⟩) n n) (hs : a.eval s = v) (hU : IsU w v xs) (hown : w.ownsRow w0.heap.size 27 1 (.slice (some ⟨g, 0, none⟩) n n) n (cellsU (List.replicate n 0))) (hnx : Below w0.heap.size w0 w)
    (h : ∀ w' z, w'.ownsRow w0.heap.size 27 1 (.slice (some ⟨g, 0, none⟩) n n) n (cellsU (szd xs n)) → Below w0.heap.size w0 w' → wpList Tryd.prog ops Q rest (a.put o.dst (goInt z)) w') :
    wpList Tryd.prog ops Q (o :: rest) a w := by
  obtain ⟨p, cap, rfl, hcap, hmax, hc, hr⟩ := hU
  rcases hown.2 with ⟨hv, _⟩ | ⟨g', cap', cur, hv, hg, hh, h1, h2, h3, h4⟩
  · cases hv
  · simp only [Value.slice.injEq, Option.some.injEq, Addr.mk.injEq, and_true, true_and] at hv
    obtain ⟨rfl, rfl⟩ := hv
    have hcur : cur.toList = cellsU (List.replicate n 0) := by rw [← h4, Nat.mul_one, List.take_of_length_le (by simp [h3])]
    have hcur2 : cur = (cellsU (List.replicate n 0)).toArray := by rw [← hcur]
    rw [hcur2] at hh
    have hlen : (cellsU (xs.take n)).length = Nat.min xs.length n := by rw [cellsU_length, List.length_take, Nat.min_comm]
    refine wpList_copy_splice hgd d s 23 23 ho 27 Tryd.underlying23 (by kernel_rfl) _ _ _ _ _ _ hd hs g 0 (cellsU (List.replicate n 0)) 27 hh (cellsU (xs.take n)) hlen ?_ ?_ ?_ w0.heap.size w0 hnx hg ?_
    · intro hp
      have hpos : 0 < xs.length := by
        rw [cellsU_length, List.length_take] at hp; omega
      obtain ⟨b, off, rfl, _⟩ := hc 0 hpos
      refine ⟨rfl, ⟨b, off, none⟩, rfl, fun j u hj => ?_⟩
      have hjl : j < (xs.take n).length := by
        rcases Nat.lt_or_ge j (xs.take n).length with h5 | h5
        · exact h5
        · rw [List.getElem?_eq_none (by rw [cellsU_length]; exact h5)] at hj; cases hj
      rw [cellsU_get _ j hjl] at hj
      rw [List.length_take] at hjl
      obtain ⟨b', off', e, hcell⟩ := hc j (by omega)
      simp only [Option.some.injEq, Addr.mk.injEq, and_true] at e
      obtain ⟨rfl, rfl⟩ := e
      have e2 : (xs.take n).getD j 0 = xs.getD j 0 := by simp [List.getD, List.getElem?_take_of_lt (show j < n by omega)]
      rw [e2] at hj
      have e3 : (Addr.mk b off none).add j = ⟨b, off + j, none⟩ := Go.WideShapes.add_plain b off j
      rw [e3, hcell, ← hj]
    · rw [hlen, cellsU_length, List.length_replicate, Nat.zero_add]; exact Nat.min_le_right _ _
    · intro u hu
      obtain ⟨y, _, rfl⟩ := List.mem_map.mp hu
      rfl
    · intro w' hrow hb
      have hsp : splice (cellsU (List.replicate n 0)) 0 (cellsU (xs.take n)) = cellsU (szd xs n) := by
        unfold splice szd
        rw [List.take_zero, List.nil_append, Nat.zero_add, cellsU_append]
        congr 1
        unfold cellsU
        rw [← List.map_drop]
        congr 1
        simp
        omega
      have hrow' := hrow.out
      rw [hsp] at hrow'
      refine h w' _ ⟨by rw [cellsU_length, szd_length]; omega, Or.inr ⟨g, n, _, rfl, hg, hrow', Nat.le_refl _, h2, ?_, ?_⟩⟩ hb
      · simp [cellsU_length, szd_length]
      · rw [List.take_of_length_le (by rw [cellsU_length, szd_length]; omega)]

end Go.Proofs.YtgkepflnnoociagDoor

/-! Rows of numbers that a call makes: the first numbers of a polynomial, owned. -/
namespace Go.Proofs.YtgkepflnnoociagDoor
open Go.RowKit

theorem owns_drewN {w : World} {base e size n : Nat} {v : Value} {xs : List Value} (h : w.ownsRow base e size v n xs) (m : Nat) : (w.drewN m).ownsRow base e size v n xs := h

def rowK (n : Nat) (f : Nat → F) : List Value := cellsU (mk n f)
theorem rowK_succ (n : Nat) (f : Nat → F) : rowK (n + 1) f = rowK n f ++ [.int .u64 (((f n).val : Nat) : Int)] := by
  unfold rowK; rw [mk_succ, cellsU_append]; rfl
theorem rowK_isU {w : World} {base n : Nat} {v : Value} {f : Nat → F} (h : w.ownsRow base 27 1 v n (rowK n f)) : IsU w v (mk n f) :=
  IsU.of_owns h (fun x hx => by have := mk_lt n f x hx; unfold P at this; omega)

/-- A row of n numbers that is filled: the first m are there, noughts behind them. -/
def SL (n m : Nat) (f : Nat → F) : List Nat := mk m f ++ List.replicate (n - m) 0
theorem SL_zero (n : Nat) (f : Nat → F) : SL n 0 f = List.replicate n 0 := by simp [SL, mk]
theorem SL_length {n m : Nat} (f : Nat → F) (h : m ≤ n) : (SL n m f).length = n := by
  unfold SL
  rw [List.length_append, mk_length, List.length_replicate]; omega
theorem SL_set {n m : Nat} (f : Nat → F) (h : m < n) : (SL n m f).set m (f m).val = SL n (m + 1) f := by
  unfold SL
  obtain ⟨r, hr⟩ : ∃ r, n - m = r + 1 := ⟨n - m - 1, by omega⟩
  rw [hr, show n - (m + 1) = r by omega, List.set_append_right _ _ (by rw [mk_length]; exact Nat.le_refl m), mk_length, Nat.sub_self, List.replicate_succ, List.set_cons_zero, mk_succ, List.append_assoc]; rfl
theorem SL_full (n : Nat) (f : Nat → F) : SL n n f = mk n f := by simp [SL]
theorem SL_range {n m : Nat} (f : Nat → F) : ∀ x ∈ SL n m f, (x : Int) < 18446744073709551616 := by
  intro x hx
  rcases List.mem_append.mp hx with h1 | h1
  · have := mk_lt m f x h1
    unfold P at this; omega
  · have := List.eq_of_mem_replicate h1
    subst this; decide

end Go.Proofs.YtgkepflnnoociagDoor

/-! Worlds of which one block alone has changed; slices that lie elsewhere. -/
namespace Go.Proofs.YtgkepflnnoociagDoor
open Go.RowKit

/-- Of what was there, block g alone may have changed. -/
structure Bar (g : Nat) (w w' : World) : Prop where
  os : w'.os = w.os
  tape : w'.tape = w.tape
  output : w'.output = w.output
  size : w.heap.size ≤ w'.heap.size
  block : ∀ k, k < w.heap.size → k ≠ g → w'.heap[k]? = w.heap[k]?

theorem Bar.refl (g : Nat) (w : World) : Bar g w w := ⟨rfl, rfl, rfl, Nat.le_refl _, fun _ _ _ => rfl⟩
theorem Bar.trans {g : Nat} {a b c : World} (h : Bar g a b) (k : Bar g b c) : Bar g a c :=
  ⟨k.os.trans h.os, k.tape.trans h.tape, k.output.trans h.output, Nat.le_trans h.size k.size, fun i hi hg => (k.block i (Nat.lt_of_lt_of_le hi h.size) hg).trans (h.block i hi hg)⟩
theorem Bar.drewN {g : Nat} {a b : World} (h : Bar g a b) (n : Nat) : Bar g a (b.drewN n) := ⟨h.os, h.tape, h.output, h.size, h.block⟩
theorem Bar.setCell {g : Nat} {a b : World} (h : Bar g a b) (i : Nat) (u : Value) : Bar g a (b.setCell ⟨g, i, none⟩ u) :=
  h.trans ⟨rfl, rfl, rfl, by simp [World.setCell], fun k _ hg => Below.heap_setCell _ _ _ _ hg⟩
theorem Bar.of_below {g : Nat} {a b : World} (h : Below a.heap.size a b) : Bar g a b := ⟨h.os, h.tape, h.output, h.size, fun k hk _ => h.block k hk⟩
theorem Bar.below {g B : Nat} {a b : World} (h : Bar g a b) (hg : B ≤ g) (hB : B ≤ a.heap.size) : Below B a b := ⟨h.os, h.tape, h.output, h.size, fun k hk => h.block k (by omega) (by omega)⟩
/-- A block that was not there when a call began may change. -/
theorem Bar.fresh {g : Nat} {a b c : World} (h : Below a.heap.size a b) (hg : a.heap.size ≤ g) (k : Bar g b c) : Below a.heap.size a c :=
  h.trans (k.below hg h.size)

/-- The slice value v lies not in block g. -/
def Apart (v : Value) (g : Nat) : Prop := ∀ b off s l c, v = .slice (some ⟨b, off, s⟩) l c → 0 < l → b ≠ g
theorem IsU.bar {w w' : World} {v : Value} {xs : List Nat} {g : Nat} (h : IsU w v xs) (ha : Apart v g) (hb : Bar g w w') : IsU w' v xs := by
  obtain ⟨a, cap, rfl, h1, h2, hc, hr⟩ := h
  refine ⟨a, cap, rfl, h1, h2, fun i hi => ?_, hr⟩
  obtain ⟨b, off, rfl, hcell⟩ := hc i hi
  exact ⟨b, off, rfl, (World.cell?_of_block (w := w) (hb.block b (block_lt hcell) (ha b off none _ _ rfl (by omega)))).trans hcell⟩
theorem IsU.apart {w : World} {v : Value} {xs : List Nat} {g : Nat} (h : IsU w v xs) (hg : w.heap.size ≤ g) : Apart v g := by
  obtain ⟨a, cap, rfl, h1, h2, hc, hr⟩ := h
  intro b off s l c e hl
  simp only [Value.slice.injEq] at e
  obtain ⟨rfl, rfl, rfl⟩ := e
  obtain ⟨b', off', e2, hcell⟩ := hc 0 hl
  simp only [Option.some.injEq, Addr.mk.injEq] at e2
  obtain ⟨rfl, rfl, _⟩ := e2
  have := block_lt hcell
  omega
theorem apart_of {b off l c g : Nat} (h : b ≠ g) : Apart (.slice (some ⟨b, off, none⟩) l c) g := by
  intro b' off' s l' c' e _
  simp only [Value.slice.injEq, Option.some.injEq, Addr.mk.injEq] at e
  omega

end Go.Proofs.YtgkepflnnoociagDoor

/-! Blocks that hold a list of numbers of 64 bits and nothing else; what a store, a make and a copy do to them; and worlds of which one block alone has changed. -/
namespace Go.Proofs.YtgkepflnnoociagDoor
open Go.RowKit

/-- Block g holds the numbers xs, and nothing else. -/
def RowU (w : World) (g : Nat) (xs : List Nat) : Prop := w.heap[g]? = some (.cells (cellsU xs).toArray 27 (0, 0))
def Rng (xs : List Nat) : Prop := ∀ x ∈ xs, (x : Int) < 18446744073709551616

theorem RowU.lt {w : World} {g : Nat} {xs : List Nat} (h : RowU w g xs) : g < w.heap.size := by
  obtain ⟨hlt, _⟩ := Array.getElem?_eq_some_iff.1 h
  exact hlt
theorem RowU.cell {w : World} {g : Nat} {xs : List Nat} (h : RowU w g xs) (i : Nat) (hi : i < xs.length) : w.cell? ⟨g, i, none⟩ = some (.int .u64 ((xs.getD i 0 : Nat) : Int)) := by
  have hh : w.heap[g]? = _ := h
  have hc := cellsU_get xs i hi
  simp only [World.cell?, hh, List.getElem?_toArray]
  rw [hc]; rfl
theorem RowU.frozen {w : World} {g : Nat} {xs : List Nat} (h : RowU w g xs) (i : Nat) : w.frozen? ⟨g, i, none⟩ = false := by
  have hh : w.heap[g]? = _ := h
  simp [World.frozen?, hh]
theorem RowU.set {w : World} {g : Nat} {xs : List Nat} (h : RowU w g xs) (i x : Nat) : RowU (w.setCell ⟨g, i, none⟩ (.int .u64 (x : Int))) g (xs.set i x) := by
  have hh : w.heap[g]? = _ := h
  unfold RowU
  rw [← cellsU_set]
  simp [World.setCell, Array.getElem?_modify, hh]
theorem RowU.block {w w' : World} {g : Nat} {xs : List Nat} (h : RowU w g xs) (e : w'.heap[g]? = w.heap[g]?) : RowU w' g xs := e.trans h
theorem RowU.below {w w' : World} {g : Nat} {xs : List Nat} (h : RowU w g xs) (hb : Below w.heap.size w w') : RowU w' g xs := h.block (hb.block g h.lt)
theorem RowU.drewN {w : World} {g : Nat} {xs : List Nat} (h : RowU w g xs) (n : Nat) : RowU (w.drewN n) g xs := h
theorem RowU.cast {w : World} {g : Nat} {xs ys : List Nat} (h : RowU w g xs) (e : xs = ys) : RowU w g ys := e ▸ h
theorem RowU.isU {w : World} {g : Nat} {xs : List Nat} (h : RowU w g xs) (hr : Rng xs) (hl : xs.length ≤ 1000000000) : IsU w (.slice (some ⟨g, 0, none⟩) xs.length xs.length) xs :=
  ⟨some ⟨g, 0, none⟩, xs.length, rfl, Nat.le_refl _, by unfold maxLen; omega, fun i hi => ⟨g, 0, rfl, by rw [Nat.zero_add]; exact h.cell i hi⟩, hr⟩
theorem RowU.isUN {w : World} {g n : Nat} {xs : List Nat} (h : RowU w g xs) (hr : Rng xs) (hl : xs.length ≤ 1000000000) (hn : xs.length = n) : IsU w (.slice (some ⟨g, 0, none⟩) n n) xs := by
  subst hn; exact h.isU hr hl
theorem RowU.of_owns {w : World} {base g n : Nat} {xs : List Nat} (h : w.ownsRow base 27 1 (.slice (some ⟨g, 0, none⟩) n n) n (cellsU xs)) : RowU w g xs := by
  have hlen := h.1
  rcases h.2 with ⟨hv, _⟩ | ⟨g', cap', cur, hv, hg, hh, h1, h2, h3, h4⟩
  · cases hv
  · simp only [Value.slice.injEq, Option.some.injEq, Addr.mk.injEq, and_true, true_and] at hv
    obtain ⟨rfl, rfl⟩ := hv
    have hcur : cur.toList = cellsU xs := by rw [← h4, Nat.mul_one, List.take_of_length_le (by simp [h3])]
    have hcur2 : cur = (cellsU xs).toArray := by rw [← hcur]
    rw [hcur2] at hh
    exact hh

theorem Rng_of_P {xs : List Nat} (h : ∀ x ∈ xs, x < P) : Rng xs := fun x hx => by have := h x hx; unfold P at this; omega
theorem Rng_replicate (n : Nat) : Rng (List.replicate n 0) := fun x hx => by
  have := List.eq_of_mem_replicate hx
  subst this; decide

theorem RowU.bar {w w' : World} {g g' : Nat} {xs : List Nat} (h : RowU w g' xs) (hne : g' ≠ g) (hb : Bar g w w') : RowU w' g' xs := h.block (hb.block g' h.lt hne)

theorem wp_makeR {ops : Array Oper} {rest : List Oper} {o : Oper} {a : Act} {Q : Exit → Act → World → Prop} {w : World} (hgd : o.guard = none) (l c : Operand) (ho : o.op = Op.makeSlice 23 l c) (n : Nat)
    (hl : a.eval l = .int .i64 (n : Int)) (hc : a.eval c = .int .i64 (n : Int)) (hn : n ≤ 1000000000)
    (h : ∀ w', RowU w' w.heap.size (List.replicate n 0) → Below w.heap.size w w' → wpList Tryd.prog ops Q rest (a.put o.dst (.slice (some ⟨w.heap.size, 0, none⟩) n n)) w') :
    wpList Tryd.prog ops Q (o :: rest) a w :=
  wp_make (w0 := w) hgd l c ho n hl hc hn (Below.refl _ _) fun w' hown hb => h w' (RowU.of_owns hown) hb

theorem wp_makeG {ops : Array Oper} {rest : List Oper} {o : Oper} {a : Act} {Q : Exit → Act → World → Prop} {w : World} (hgd : o.guard = none) (l c : Operand) (ho : o.op = Op.makeSlice 23 l c) (n : Nat)
    (hl : a.eval l = .int .i64 (n : Int)) (hc : a.eval c = .int .i64 (n : Int)) (hn : n ≤ 1000000000)
    (h : ∀ g w', Hid (g = w.heap.size) → RowU w' g (List.replicate n 0) → Below w.heap.size w w' → wpList Tryd.prog ops Q rest (a.put o.dst (.slice (some ⟨g, 0, none⟩) n n)) w') :
    wpList Tryd.prog ops Q (o :: rest) a w :=
  wp_makeR hgd l c ho n hl hc hn fun w' hr hb => h w.heap.size w' rfl hr hb

/-- A list with another one laid over it, from a place on. -/
def lay (zs : List Nat) (off : Nat) (xs : List Nat) : List Nat := zs.take off ++ xs ++ zs.drop (off + xs.length)

theorem lay_length {zs xs : List Nat} {off : Nat} (h : off + xs.length ≤ zs.length) : (lay zs off xs).length = zs.length := by
  unfold lay
  simp only [List.length_append, List.length_take, List.length_drop]; omega
theorem lay_rng {zs xs : List Nat} {off : Nat} (hz : Rng zs) (hx : Rng xs) : Rng (lay zs off xs) := by
  intro x h
  unfold lay at h
  rcases List.mem_append.mp h with h1 | h1
  · rcases List.mem_append.mp h1 with h2 | h2
    · exact hz x (List.mem_of_mem_take h2)
    · exact hx x h2
  · exact hz x (List.mem_of_mem_drop h1)
theorem lay_zeros (n : Nat) (xs : List Nat) (h : xs.length ≤ n) (i : Nat) : cf (lay (List.replicate n 0) 0 xs) i = cf xs i := by
  unfold lay cf
  rw [List.take_zero, List.nil_append, Nat.zero_add]
  congr 1
  rcases Nat.lt_or_ge i xs.length with h1 | h1
  · simp [List.getD, List.getElem?_append_left h1]
  · rw [List.getD, List.getD, List.getElem?_append_right h1, List.getElem?_eq_none h1]
    rcases Nat.lt_or_ge (i - xs.length) (n - xs.length) with h2 | h2
    · simp [h2]
    · rw [List.getElem?_eq_none (by simp; omega)]
theorem lay_cons (xs : List Nat) : lay (List.replicate (xs.length + 1) 0) 1 xs = 0 :: xs := by
  unfold lay
  simp [List.replicate_succ, Nat.add_comm 1 xs.length]

theorem wp_copyR {ops : Array Oper} {rest : List Oper} {o : Oper} {a : Act} {Q : Exit → Act → World → Prop} {w w0 : World} (hgd : o.guard = none) (d s : Operand)
    (ho : o.op = .call { callee := .builtin .copy, args := #[d, s], argTypes := #[23, 23] }) (g off n c : Nat) (v : Value) (zs xs : List Nat)
    (hd : a.eval d = .slice (some ⟨g, off, none⟩) n c) (hs : a.eval s = v) (hU : IsU w v xs) (hrow : RowU w g zs) (hoff : off + n ≤ zs.length) (hxn : xs.length ≤ n) (hnx : Below w0.heap.size w0 w) (hg : w0.heap.size ≤ g)
    (h : ∀ w' z, RowU w' g (lay zs off xs) → Below w0.heap.size w0 w' → wpList Tryd.prog ops Q rest (a.put o.dst (goInt z)) w') :
    wpList Tryd.prog ops Q (o :: rest) a w := by
  obtain ⟨p, cap, rfl, hcap, hmax, hc, hr⟩ := hU
  have hlen : (cellsU xs).length = Nat.min xs.length n := by rw [cellsU_length]; exact (Nat.min_eq_left hxn).symm
  refine wpList_copy_splice hgd d s 23 23 ho 27 Tryd.underlying23 (by kernel_rfl) _ _ _ _ _ _ hd hs g off (cellsU zs) 27 hrow (cellsU xs) hlen ?_ ?_ ?_ w0.heap.size w0 hnx hg ?_
  · intro hp
    have hpos : 0 < xs.length := by
      rw [cellsU_length] at hp; omega
    obtain ⟨b, off', rfl, _⟩ := hc 0 hpos
    refine ⟨rfl, ⟨b, off', none⟩, rfl, fun j u hj => ?_⟩
    have hjl : j < xs.length := by
      rcases Nat.lt_or_ge j xs.length with h5 | h5
      · exact h5
      · rw [List.getElem?_eq_none (by rw [cellsU_length]; exact h5)] at hj; cases hj
    rw [cellsU_get _ j hjl] at hj
    obtain ⟨b', off'', e, hcell⟩ := hc j hjl
    simp only [Option.some.injEq, Addr.mk.injEq, and_true] at e
    obtain ⟨rfl, rfl⟩ := e
    have e3 : (Addr.mk b off' none).add j = ⟨b, off' + j, none⟩ := Go.WideShapes.add_plain b off' j
    rw [e3, hcell, ← hj]
  · rw [cellsU_length, cellsU_length]; omega
  · intro u hu
    obtain ⟨y, _, rfl⟩ := List.mem_map.mp hu
    rfl
  · intro w' hrow' hb
    have hsp : splice (cellsU zs) off (cellsU xs) = cellsU (lay zs off xs) := by
      unfold splice lay
      rw [cellsU_length]
      unfold cellsU
      rw [List.map_append, List.map_append, List.map_take, List.map_drop]
      rw [List.append_assoc]
    have hr2 := hrow'.out
    rw [hsp] at hr2
    exact h w' _ hr2 hb

end Go.Proofs.YtgkepflnnoociagDoor

/-! Blocks whose first cells hold a list of numbers of 64 bits, with room behind them. -/
namespace Go.Proofs.YtgkepflnnoociagDoor
open Go.RowKit

/-- The first cells of block g, of c cells, hold the numbers xs. -/
def RowX (w : World) (g c : Nat) (xs : List Nat) : Prop := ∃ cur : Array Value, w.heap[g]? = some (.cells cur 27 (0, 0)) ∧ cur.size = c ∧ xs.length ≤ c ∧ cur.toList.take xs.length = cellsU xs
theorem RowX.lt {w : World} {g c : Nat} {xs : List Nat} (h : RowX w g c xs) : g < w.heap.size := by
  obtain ⟨cur, h, _⟩ := h
  obtain ⟨hlt, _⟩ := Array.getElem?_eq_some_iff.1 h
  exact hlt
theorem RowX.cell {w : World} {g c : Nat} {xs : List Nat} (h : RowX w g c xs) (i : Nat) (hi : i < xs.length) : w.cell? ⟨g, i, none⟩ = some (.int .u64 ((xs.getD i 0 : Nat) : Int)) := by
  obtain ⟨cur, hh, hs, hl, ht⟩ := h
  have hc := cellsU_get xs i hi
  rw [← ht, List.getElem?_take_of_lt hi, Array.getElem?_toList] at hc
  simp only [World.cell?, hh, hc]; rfl
theorem RowX.frozen {w : World} {g c : Nat} {xs : List Nat} (h : RowX w g c xs) (i : Nat) : w.frozen? ⟨g, i, none⟩ = false := by
  obtain ⟨cur, hh, _⟩ := h
  simp [World.frozen?, hh]
theorem RowX.set {w : World} {g c : Nat} {xs : List Nat} (h : RowX w g c xs) (i x : Nat) : RowX (w.setCell ⟨g, i, none⟩ (.int .u64 (x : Int))) g c (xs.set i x) := by
  obtain ⟨cur, hh, hs, hl, ht⟩ := h
  refine ⟨cur.setIfInBounds i (.int .u64 (x : Int)), ?_, ?_, ?_, ?_⟩
  · simp [World.setCell, Array.getElem?_modify, hh]
  · rw [Array.size_setIfInBounds]; exact hs
  · rw [List.length_set]; exact hl
  · rw [List.length_set, Array.toList_setIfInBounds, ← cellsU_set, ← ht, List.take_set]
theorem RowX.block {w w' : World} {g c : Nat} {xs : List Nat} (h : RowX w g c xs) (e : w'.heap[g]? = w.heap[g]?) : RowX w' g c xs := by
  obtain ⟨cur, hh, r⟩ := h
  exact ⟨cur, e.trans hh, r⟩
theorem RowX.below {w w' : World} {g c : Nat} {xs : List Nat} (h : RowX w g c xs) (hb : Below w.heap.size w w') : RowX w' g c xs := h.block (hb.block g h.lt)
theorem RowX.bar {w w' : World} {g g' c : Nat} {xs : List Nat} (h : RowX w g' c xs) (hne : g' ≠ g) (hb : Bar g w w') : RowX w' g' c xs := h.block (hb.block g' h.lt hne)
theorem RowX.drewN {w : World} {g c : Nat} {xs : List Nat} (h : RowX w g c xs) (n : Nat) : RowX (w.drewN n) g c xs := h
theorem RowX.cast {w : World} {g c : Nat} {xs ys : List Nat} (h : RowX w g c xs) (e : xs = ys) : RowX w g c ys := e ▸ h
theorem RowX.isUN {w : World} {g c n : Nat} {xs : List Nat} (h : RowX w g c xs) (hr : Rng xs) (hc : c ≤ maxLen) (hn : xs.length = n) : IsU w (.slice (some ⟨g, 0, none⟩) n c) xs := by
  subst hn
  exact ⟨some ⟨g, 0, none⟩, c, rfl, h.choose_spec.2.2.1, hc, fun i hi => ⟨g, 0, rfl, by rw [Nat.zero_add]; exact h.cell i hi⟩, hr⟩
theorem RowX.of_owns {w : World} {base n : Nat} {v : Value} {xs : List Nat} (h : w.ownsRow base 27 1 v n (cellsU xs)) (hn : 0 < n) : ∃ g c, v = .slice (some ⟨g, 0, none⟩) n c ∧ base ≤ g ∧ c ≤ maxLen ∧ RowX w g c xs := by
  have hlen := h.1
  rw [cellsU_length] at hlen
  rcases h.2 with ⟨rfl, h0⟩ | ⟨g, cap, cur, hv, hg, hh, h1, h2, h3, h4⟩
  · omega
  · refine ⟨g, cap, hv, hg, h2, cur, hh, by omega, by omega, ?_⟩
    rw [show xs.length = n * 1 by omega]; exact h4

/-- All numbers of a list appended to nothing. -/
theorem wp_appendAll {ops : Array Oper} {rest : List Oper} {o : Oper} {a : Act} {Q : Exit → Act → World → Prop} {w : World} (hgd : o.guard = none) (s x : Operand)
    (ho : o.op = .call { callee := .builtin .append, args := #[s, x], argTypes := #[23, 23] }) (v : Value) (xs : List Nat)
    (hs : a.eval s = .slice none 0 0) (hx : a.eval x = v) (hU : IsU w v xs) (hpos : 0 < xs.length) (hn : xs.length ≤ 1000000000)
    (h : ∀ g c w', w.heap.size ≤ g → c ≤ maxLen → RowX w' g c xs → Below w.heap.size w w' → wpList Tryd.prog ops Q rest (a.put o.dst (.slice (some ⟨g, 0, none⟩) xs.length c)) w') :
    wpList Tryd.prog ops Q (o :: rest) a w := by
  obtain ⟨p, cap, rfl, hcap, hmax, hc, hr⟩ := hU
  obtain ⟨i0, hi, hz0, hz1, hz2⟩ := info_parts info_u64
  obtain ⟨b, off, rfl, _⟩ := hc 0 hpos
  refine wpList_append_own _ hgd s x 23 ho w.heap.size 27 i0 (.int .u64 0) 1 8 Tryd.underlying23 hi hz0 hz1 hz2 rfl (by decide) (.slice none 0 0) 0 [] hs (World.ownsRow_nil _ _ _ _) ⟨b, off, none⟩ xs.length cap (cellsU xs) hx (by rw [cellsU_length]; omega) ?_ ?_ (by omega) (by omega) (Nat.le_refl _) ?_
  · intro j u hj
    have hjl : j < xs.length := by
      rcases Nat.lt_or_ge j xs.length with h5 | h5
      · exact h5
      · rw [List.getElem?_eq_none (by rw [cellsU_length]; exact h5)] at hj; cases hj
    rw [cellsU_get _ j hjl] at hj
    obtain ⟨b', off', e, hcell⟩ := hc j hjl
    simp only [Option.some.injEq, Addr.mk.injEq, and_true] at e
    obtain ⟨rfl, rfl⟩ := e
    have e3 : (Addr.mk b off none).add j = ⟨b, off + j, none⟩ := Go.WideShapes.add_plain b off j
    rw [e3, hcell, ← hj]
  · intro u hu
    obtain ⟨y, _, rfl⟩ := List.mem_map.mp hu
    rfl
  · intro v' w' hown hgrow _
    rw [Nat.zero_add, List.nil_append] at hown
    obtain ⟨g, c, rfl, hg, hc9, hrow⟩ := RowX.of_owns hown hpos
    exact h g c w' hg hc9 hrow ((Below.refl _ _).grown hgrow (Nat.le_refl _) (fun k hk => by cases hk))

end Go.Proofs.YtgkepflnnoociagDoor

/-! Blocks that hold values of one type and nothing else. -/
namespace Go.Proofs.YtgkepflnnoociagDoor
open Go.RowKit

/-- Block g holds the cells vs, of that type, and nothing else. -/
def RowV (t : Nat) (w : World) (g : Nat) (vs : List Value) : Prop := w.heap[g]? = some (.cells vs.toArray t (0, 0))
section
variable {t : Nat} {w w' : World} {g g' : Nat} {xs ys : List Value}
theorem RowV.lt (h : RowV t w g xs) : g < w.heap.size := by
  obtain ⟨hlt, _⟩ := Array.getElem?_eq_some_iff.1 h
  exact hlt
theorem RowV.cell (h : RowV t w g xs) (i : Nat) : w.cell? ⟨g, i, none⟩ = xs[i]? := by
  have hh : w.heap[g]? = _ := h
  simp only [World.cell?, hh, List.getElem?_toArray]
  cases xs[i]? <;> rfl
theorem RowV.frozen (h : RowV t w g xs) (i : Nat) : w.frozen? ⟨g, i, none⟩ = false := by
  have hh : w.heap[g]? = _ := h
  simp [World.frozen?, hh]
theorem RowV.set (h : RowV t w g xs) (i : Nat) (u : Value) : RowV t (w.setCell ⟨g, i, none⟩ u) g (xs.set i u) := by
  have hh : w.heap[g]? = _ := h
  unfold RowV
  simp [World.setCell, Array.getElem?_modify, hh]
theorem RowV.block (h : RowV t w g xs) (e : w'.heap[g]? = w.heap[g]?) : RowV t w' g xs := e.trans h
theorem RowV.below (h : RowV t w g xs) (hb : Below w.heap.size w w') : RowV t w' g xs := h.block (hb.block g h.lt)
theorem RowV.bar (h : RowV t w g' xs) (hne : g' ≠ g) (hb : Bar g w w') : RowV t w' g' xs := h.block (hb.block g' h.lt hne)
theorem RowV.cast (h : RowV t w g xs) (e : xs = ys) : RowV t w g ys := e ▸ h
end

end Go.Proofs.YtgkepflnnoociagDoor

/-! Slices of numbers that lie in new memory, with all that they have room for. -/
namespace Go.Proofs.YtgkepflnnoociagDoor
open Go.RowKit

/-- The slice v is nil, or lies in a block from B on that may be written, with all that it has room for. -/
def NewU (B : Nat) (w : World) (v : Value) : Prop :=
  v = .slice none 0 0 ∨ ∃ (g off n cap : Nat) (cs : Array Value), v = .slice (some ⟨g, off, none⟩) n cap ∧ B ≤ g ∧ w.heap[g]? = some (.cells cs 27 (0, 0)) ∧ off + cap ≤ cs.size ∧ n ≤ cap ∧ cap ≤ maxLen
theorem NewU.nil (B : Nat) (w : World) : NewU B w (.slice none 0 0) := .inl rfl
theorem NewU.of_row {B g n : Nat} {w : World} {xs : List Nat} (h : RowU w g xs) (hl : xs.length = n) (h9 : n ≤ 1000000000) (hg : B ≤ g) : NewU B w (.slice (some ⟨g, 0, none⟩) n n) :=
  .inr ⟨g, 0, n, n, _, rfl, hg, h, by simp [cellsU_length, hl], Nat.le_refl _, by unfold maxLen; omega⟩
theorem NewU.mono {B B' : Nat} {w : World} {v : Value} (h : NewU B' w v) (hB : B ≤ B') : NewU B w v := by
  rcases h with h | ⟨g, off, n, cap, cs, e, hg, r⟩
  · exact .inl h
  · exact .inr ⟨g, off, n, cap, cs, e, Nat.le_trans hB hg, r⟩
theorem NewU.below {B : Nat} {w w' : World} {v : Value} (h : NewU B w v) (hb : Below w.heap.size w w') : NewU B w' v := by
  rcases h with h | ⟨g, off, n, cap, cs, e, hg, hh, r⟩
  · exact .inl h
  · have hlt : g < w.heap.size := by
      rcases Nat.lt_or_ge g w.heap.size with hl | hl
      · exact hl
      · rw [Array.getElem?_eq_none hl] at hh; cases hh
    exact .inr ⟨g, off, n, cap, cs, e, hg, (hb.block g hlt).trans hh, r⟩
theorem NewU.take {B : Nat} {w : World} {a : Option Addr} {l c n : Nat} (h : NewU B w (.slice a l c)) (hn : n ≤ l) : NewU B w (.slice a n c) := by
  rcases h with h | ⟨g, off, n', cap, cs, e, hg, hh, h1, h2, h3⟩
  · simp only [Value.slice.injEq] at h
    obtain ⟨rfl, rfl, rfl⟩ := h
    obtain rfl : n = 0 := by omega
    exact .inl rfl
  · simp only [Value.slice.injEq] at e
    obtain ⟨rfl, rfl, rfl⟩ := e
    exact .inr ⟨g, off, n, c, cs, rfl, hg, hh, h1, by omega, h3⟩
theorem NewU.cells {w : World} {g : Nat} {cs : Array Value} {t : Nat} {fr : Nat × Nat} (hh : w.heap[g]? = some (.cells cs t fr)) : g < w.heap.size := by
  rcases Nat.lt_or_ge g w.heap.size with hl | hl
  · exact hl
  · rw [Array.getElem?_eq_none hl] at hh; cases hh

end Go.Proofs.YtgkepflnnoociagDoor

/-! Lists with room behind them (roomy, kept of package goldkeep), and lists that are spoilt, each of them in new memory. -/
namespace Go.Proofs.YtgkepflnnoociagDoor
open Go.RowKit

/-- Each block of numbers of the first world is one of as many numbers in the second. -/
def Same (w w' : World) : Prop := ∀ (b : Nat) (cs : Array Value), w.heap[b]? = some (.cells cs 27 (0, 0)) → ∃ cs' : Array Value, w'.heap[b]? = some (.cells cs' 27 (0, 0)) ∧ cs'.size = cs.size
theorem Same.refl (w : World) : Same w w := fun _ cs h => ⟨cs, h, rfl⟩
theorem Same.trans {a b c : World} (h : Same a b) (h' : Same b c) : Same a c := fun k cs hk => by
  obtain ⟨c1, h1, e1⟩ := h k cs hk
  obtain ⟨c2, h2, e2⟩ := h' k c1 h1
  exact ⟨c2, h2, e2.trans e1⟩
theorem Same.below {w w' : World} (hb : Below w.heap.size w w') : Same w w' := fun b cs h => ⟨cs, (hb.block b (NewU.cells h)).trans h, rfl⟩
theorem Same.set {w w' : World} (h : Same w w') (g i : Nat) (u : Value) : Same w (w'.setCell ⟨g, i, none⟩ u) := fun b cs hb => by
  obtain ⟨c1, h1, e1⟩ := h b cs hb
  by_cases e : b = g
  · subst e
    exact ⟨c1.setIfInBounds i u, by simp [World.setCell, Array.getElem?_modify, h1], by rw [Array.size_setIfInBounds]; exact e1⟩
  · exact ⟨c1, (Below.heap_setCell _ _ _ _ (by show b ≠ g; exact e)).trans h1, e1⟩
theorem NewU.same {B : Nat} {w w' : World} {v : Value} (h : NewU B w v) (hs : Same w w') : NewU B w' v := by
  rcases h with h | ⟨g, off, n, cap, cs, e, hg, hh, h1, r⟩
  · exact .inl h
  · obtain ⟨c2, h2, e2⟩ := hs g cs hh
    exact .inr ⟨g, off, n, cap, c2, e, hg, h2, by omega, r⟩

/-- Each block of whatever else is as it was. -/
def Else (w w' : World) : Prop := ∀ (b : Nat) (cs : Array Value) (t : Nat) (fr : Nat × Nat), t ≠ 27 → w.heap[b]? = some (.cells cs t fr) → w'.heap[b]? = some (.cells cs t fr)
theorem Else.refl (w : World) : Else w w := fun _ _ _ _ _ h => h
theorem Else.trans {a b c : World} (h : Else a b) (h' : Else b c) : Else a c := fun k cs t fr ht hk => h' k cs t fr ht (h k cs t fr ht hk)
theorem Else.set {w w' : World} (h : Else w w') {g : Nat} {c1 : Array Value} {f1 : Nat × Nat} (hg : w'.heap[g]? = some (.cells c1 27 f1)) (i : Nat) (u : Value) : Else w (w'.setCell ⟨g, i, none⟩ u) := fun b cs t fr ht hb => by
  have h1 := h b cs t fr ht hb
  have e : b ≠ g := fun e => by
    subst e
    rw [h1] at hg
    simp only [Option.some.injEq, Obj.cells.injEq] at hg
    exact ht hg.2.1
  exact (Below.heap_setCell _ _ _ _ (by show b ≠ g; exact e)).trans h1

set_option maxHeartbeats 1000000 in
theorem spoil_N (w : World) (B : Nat) (v : Value) (x : Nat) (h : NewU B w v) :
    Calls Tryd.prog 34 #[v, .int .u64 (x : Int)] w fun e w' => e = .returned (.tuple #[]) ∧ Same w w' ∧ Else w w' ∧ Below B w w' := by
  rcases h with rfl | ⟨g, off, n, cap, cs, rfl, hg, hh, hsz, hn, hc⟩
  · go_enter Tryd.func34, Tryd.ntmps34
    go_wp2
    go_loopw [11] (fun vi wr => vi = .int .i64 0 ∧ Same w wr ∧ Else w wr ∧ Below B w wr) (fun _ _ => 0)
    case atStart => exact ⟨rfl, Same.refl _, Else.refl _, Below.refl _ _⟩
    case round =>
      obtain ⟨rfl, hs, hl, hb⟩ := hrel
      go_wp2
      go_end0
      exact ⟨rfl, hs, hl, hb⟩
  · have hc9 : (cap : Int) ≤ 9223372036854775807 := by unfold maxLen at hc; omega
    have hn9 : (n : Int) ≤ (cap : Int) := by omega
    go_enter Tryd.func34, Tryd.ntmps34
    go_wp2
    go_loopw [11] (fun vi wr => ∃ (i : Nat), i ≤ cap ∧ vi = .int .i64 (i : Int) ∧ Hid (Same w wr) ∧ Hid (Else w wr) ∧ Hid (Below B w wr))
      (fun vi _ => cap - (intOf vi).toNat)
    case atStart => exact ⟨0, Nat.zero_le _, rfl, Same.refl _, Else.refl _, Below.refl _ _⟩
    case round =>
      obtain ⟨i, hi, rfl, hs, hel, hb⟩ := hrel
      by_cases hlt : i < cap
      · obtain ⟨c1, h1, e1⟩ := hs.out g cs hh
        have hr : RowV 27 wr g c1.toList := by unfold RowV; rw [h1]
        have hz := hr.frozen (off + i)
        obtain ⟨u0, hu0⟩ : ∃ u, c1.toList[off + i]? = some u := ⟨_, List.getElem?_eq_getElem (by rw [Array.length_toList]; omega)⟩
        have hcl := (hr.cell (off + i)).trans hu0
        have hin : (i : Int) < (cap : Int) := by omega
        have h2 : Hid _ := Same.set hs.out g (off + i) (.int .u64 (x : Int))
        have he2 : Hid _ := Else.set hel.out h1 (off + i) (.int .u64 (x : Int))
        have hb2 : Hid _ := Below.setCell (p := ⟨g, off + i, none⟩) hb.out hg (.int .u64 (x : Int))
        clear hr hs hel hb hu0 h1 hh
        go_wp2
        go_roundw
        case rel => exact ⟨i + 1, by omega, by go_num, h2, he2, hb2⟩
        case measure => simp only [intOf]; omega
      · have hge : cap ≤ i := by omega
        go_wp2
        go_end0
        exact ⟨rfl, hs.out, hel.out, hb.out⟩

set_option maxHeartbeats 1000000 in
theorem keep_kept (w : World) (g n cap x : Nat) (xs : List Nat) (h : RowX w g cap (xs ++ [x, x])) (hl : xs.length = n) (hc : cap ≤ maxLen) :
    Calls Tryd.prog 35 #[.slice (some ⟨g, 0, none⟩) n cap, .int .u64 (x : Int)] w fun e w' => e = .returned (.bool true) ∧ Below w.heap.size w w' := by
  have h1 := h.cell n (by simp; omega)
  have h2 := h.cell (n + 1) (by simp; omega)
  have e1 : (xs ++ [x, x]).getD n 0 = x := by subst hl; simp [List.getD]
  have e2 : (xs ++ [x, x]).getD (n + 1) 0 = x := by subst hl; simp [List.getD]
  rw [e1] at h1
  rw [e2] at h2
  have hcap : n + 2 ≤ cap := by
    obtain ⟨_, _, _, q, _⟩ := h
    simp at q
    omega
  have hc9 : (cap : Int) ≤ 9223372036854775807 := by unfold maxLen at hc; omega
  clear h e1 e2 hl hc
  go_enter Tryd.func35, Tryd.ntmps35
  go_wp2
  go_ret
  exact ⟨rfl, Below.refl _ _⟩

/-- All numbers of a list appended to a row of the call's own. -/
theorem wp_appendO {ops : Array Oper} {rest : List Oper} {o : Oper} {a : Act} {Q : Exit → Act → World → Prop} {w w0 : World} (hgd : o.guard = none) (s x : Operand)
    (ho : o.op = .call { callee := .builtin .append, args := #[s, x], argTypes := #[23, 23] }) (v u : Value) (n : Nat) (ys xs : List Nat)
    (hs : a.eval s = u) (hown : w.ownsRow w0.heap.size 27 1 u n (cellsU ys)) (hx : a.eval x = v) (hU : IsU w v xs) (hpos : 0 < xs.length) (hn : n + xs.length ≤ 1000000000) (hnx : Below w0.heap.size w0 w)
    (h : ∀ v' w', w'.ownsRow w0.heap.size 27 1 v' (n + xs.length) (cellsU (ys ++ xs)) → Below w0.heap.size w0 w' → wpList Tryd.prog ops Q rest (a.put o.dst v') w') :
    wpList Tryd.prog ops Q (o :: rest) a w := by
  obtain ⟨p, cap, rfl, hcap, hmax, hc, hr⟩ := hU
  obtain ⟨i0, hi, hz0, hz1, hz2⟩ := info_parts info_u64
  obtain ⟨b, off, rfl, _⟩ := hc 0 hpos
  have hsz := hnx.size
  refine wpList_append_own _ hgd s x 23 ho w0.heap.size 27 i0 (.int .u64 0) 1 8 Tryd.underlying23 hi hz0 hz1 hz2 rfl (by decide) u n (cellsU ys) hs hown ⟨b, off, none⟩ xs.length cap (cellsU xs) hx (by rw [cellsU_length]; omega) ?_ ?_ (by unfold maxLen; omega) (by omega) hsz ?_
  · intro j u hj
    have hjl : j < xs.length := by
      rcases Nat.lt_or_ge j xs.length with h5 | h5
      · exact h5
      · rw [List.getElem?_eq_none (by rw [cellsU_length]; exact h5)] at hj; cases hj
    rw [cellsU_get _ j hjl] at hj
    obtain ⟨b', off', e, hcell⟩ := hc j hjl
    simp only [Option.some.injEq, Addr.mk.injEq, and_true] at e
    obtain ⟨rfl, rfl⟩ := e
    have e3 : (Addr.mk b off none).add j = ⟨b, off + j, none⟩ := Go.WideShapes.add_plain b off j
    rw [e3, hcell, ← hj]
  · intro u hu
    obtain ⟨y, _, rfl⟩ := List.mem_map.mp hu
    rfl
  · intro v' w' hown' hgrow _
    rw [← cellsU_append] at hown'
    exact h v' w' hown' (hnx.grown hgrow hsz (owns_block hown))

theorem make0_U {ops : Array Oper} {rest : List Oper} {o : Oper} {a : Act} {Q : Exit → Act → World → Prop} {w : World} (hgd : o.guard = none) (l c : Operand) (ho : o.op = Op.makeSlice 23 l c) (n : Nat) (C : Int)
    (hl : a.eval l = .int .i64 0) (hc : a.eval c = .int .i64 C) (hC : C = (n : Int)) (hn : n ≤ 1000000000)
    (h : ∀ u w', w'.ownsRow w.heap.size 27 1 u 0 (cellsU []) → Below w.heap.size w w' → wpList Tryd.prog ops Q rest (a.put o.dst u) w') :
    wpList Tryd.prog ops Q (o :: rest) a w := by
  obtain ⟨i0, hi, hz0, hz1, hz2⟩ := info_parts info_u64
  refine wpList_make_own w hgd l c 23 ho w.heap.size 27 i0 (.int .u64 0) 1 Tryd.underlying23 hi hz0 hz1 .i64 .i64 C n hl hc hC (by rw [hz2]; omega) (by unfold maxLen; omega) (Nat.le_refl _) ?_
  intro w' hown hgrow
  exact h _ w' hown ((Below.refl _ _).grown hgrow (Nat.le_refl _) (fun k hk => by cases hk))

theorem wp_append2 {ops : Array Oper} {rest : List Oper} {o : Oper} {a : Act} {Q : Exit → Act → World → Prop} {w w0 : World} (hgd : o.guard = none) (s x : Operand)
    (ho : o.op = .call { callee := .builtin .append, args := #[s, x], argTypes := #[23, 23] }) (v : Value) (n : Nat) (xs : List Nat) (z : Nat)
    (hs : a.eval s = v) (hown : w.ownsRow w0.heap.size 27 1 v n (cellsU xs)) (hx : a.eval x = .slice (some ⟨w.heap.size, 0, none⟩) 2 2)
    (hn : n ≤ 1000000000) (hnx : Below w0.heap.size w0 w)
    (h : ∀ v' w', w'.ownsRow w0.heap.size 27 1 v' (n + 2) (cellsU (xs ++ [z, z])) → Below w0.heap.size w0 w' → wpList Tryd.prog ops Q rest (a.put o.dst v') w') :
    wpList Tryd.prog ops Q (o :: rest) a (w.alloc (.cells #[.int .u64 (z : Int), .int .u64 (z : Int)] 27)) := by
  obtain ⟨i0, hi, hz0, hz1, hz2⟩ := info_parts info_u64
  have hsz := hnx.size
  refine wpList_append_own _ hgd s x 23 ho w0.heap.size 27 i0 (.int .u64 0) 1 8 Tryd.underlying23 hi hz0 hz1 hz2 rfl (by decide) v n (cellsU xs) hs (hown.alloc _) ⟨w.heap.size, 0, none⟩ 2 2 [.int .u64 (z : Int), .int .u64 (z : Int)] hx rfl ?_ ?_ ?_ ?_ ?_ ?_
  · intro j u hj
    match j, hj with
    | 0, hj => simp at hj; subst hj; simp [Addr.add]
    | 1, hj => simp at hj; subst hj; simp [Addr.add]
  · intro u hu; simp at hu; subst hu; rfl
  · unfold maxLen; omega
  · omega
  · simp; omega
  · intro v' w' hown' hgrow _
    rw [show [Value.int .u64 (z : Int), .int .u64 (z : Int)] = cellsU [z, z] from rfl, ← cellsU_append] at hown'
    exact h v' w' hown' ((hnx.alloc hsz _).grown hgrow (by simp; omega) (owns_block hown))
theorem two_row {w : World} {B n x : Nat} {v : Value} {xs : List Nat} (h : w.ownsRow B 27 1 v (0 + xs.length + 2) (cellsU (([] ++ xs) ++ [x, x]))) (hn : xs.length = n) : ∃ g c, v = .slice (some ⟨g, 0, none⟩) (n + 2) c ∧ B ≤ g ∧ c ≤ maxLen ∧ RowX w g c (xs ++ [x, x]) ∧ n + 2 ≤ c := by
  obtain ⟨g, c, rfl, hg, hc, hr⟩ := RowX.of_owns h (by omega)
  have hle : n + 2 ≤ c := by
    obtain ⟨_, _, _, q, _⟩ := hr
    simp at q
    omega
  exact ⟨g, c, by rw [hn, Nat.zero_add], hg, hc, hr, hle⟩

set_option maxHeartbeats 1000000 in
theorem keep_roomy (w : World) (v : Value) (xs : List Nat) (x : Nat) (h : IsU w v xs) (hpos : 0 < xs.length) (hl : xs.length ≤ 1000000) :
    Calls Tryd.prog 16 #[v, .int .u64 (x : Int)] w fun e w' => ∃ g cap, e = .returned (.slice (some ⟨g, 0, none⟩) xs.length cap) ∧ w.heap.size ≤ g ∧ cap ≤ maxLen ∧ RowX w' g cap (xs ++ [x, x]) ∧ Below w.heap.size w w' := by
  have h0 := h
  obtain ⟨a, cap, rfl, -⟩ := h
  obtain ⟨n, hn⟩ : ∃ n, Hid (xs.length = n) := ⟨_, rfl⟩
  have hC : Hid ((xs.length : Int) + 3 = ((xs.length + 3 : Nat) : Int)) := by show _ = _; omega
  have h3 : xs.length + 3 ≤ 1000000000 := by omega
  have tk : True := trivial
  go_enter Tryd.func16, Tryd.ntmps16
  go_wp2_with (first
    | (at_make; refine make0_U rfl _ _ rfl (xs.length + 3) _ rfl rfl hC.out h3 ?_; intro u1 w1 hown1 hb1; replace h0 := h0.below hb1)
    | (at_builtin; have _t := tk; refine wp_appendO rfl _ _ rfl _ _ 0 [] xs rfl hown1 rfl h0 hpos (by omega) hb1 ?_; intro u2 w2 hown2 hb2; clear tk)
    | (at_builtin; refine wp_append2 rfl _ _ rfl _ _ _ x rfl hown2 rfl (by omega) hb2 ?_; intro u3 w3 hown3 hb3; obtain ⟨g, c, rfl, hg, hc9, hrow, hle⟩ := two_row hown3 hn.out; clear hown3; rw [hn.out]))
  go_ret
  exact ⟨g, c, by rw [hn.out]; rfl, hg, hc9, hrow, hb3⟩

end Go.Proofs.YtgkepflnnoociagDoor
