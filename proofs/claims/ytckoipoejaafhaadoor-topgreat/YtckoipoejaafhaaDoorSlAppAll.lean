/-
  Texts that stood one behind the other, as one.
-/
import Derived.Test.YtckoipoejaafhaaDoorRows
import Derived.Test.YtckoipoejaafhaaDoorSlAll
import Derived.Laws.CopyOwn
import Derived.Test.YtckoipoejaafhaaDoorPure
import Derived.WalkKit
import Derived.WalkSpells
import Derived.WalkLawsBesides
import Derived.Laws.Bits64b
namespace Go.Proofs.YtckoipoejaafhaaDoor
open Go.RowKit
set_option maxRecDepth 100000
theorem info_u64 : (Tryd.prog.info? 34).map (fun i => (i.zero, i.size, i.bytes)) = some (some (.int .u64 0), 1, 8) := by kernel_rfl
theorem wp_append1 {ops : Array Oper} {rest : List Oper} {o : Oper} {a : Act} {Q : Exit → Act → World → Prop} {w w0 : World} (hgd : o.guard = none) (s x : Operand)
    (ho : o.op = .call { callee := .builtin .append, args := #[s, x], argTypes := #[23, 23] }) (v : Value) (n : Nat) (xs : List Value) (z : Nat)
    (hs : a.eval s = v) (hown : w.ownsRow w0.heap.size 34 1 v n xs) (hx : a.eval x = .slice (some ⟨w.heap.size, 0, none⟩) 1 1)
    (hn : n ≤ 1000000000) (hnx : Below w0.heap.size w0 w)
    (h : ∀ v' w', w'.ownsRow w0.heap.size 34 1 v' (n + 1) (xs ++ [.int .u64 (z : Int)]) → Below w0.heap.size w0 w' → wpList Tryd.prog ops Q rest (a.put o.dst v') w') :
    wpList Tryd.prog ops Q (o :: rest) a (w.alloc (.cells #[.int .u64 (z : Int)] 34)) := by
  obtain ⟨i0, hi, hz0, hz1, hz2⟩ := info_parts info_u64
  have hsz := hnx.size
  refine wpList_append_own _ hgd s x 23 ho w0.heap.size 34 i0 (.int .u64 0) 1 8 Tryd.underlying23 hi hz0 hz1 hz2 rfl (by decide) v n xs hs (hown.alloc _) ⟨w.heap.size, 0, none⟩ 1 1 [.int .u64 (z : Int)] hx rfl ?_ ?_ ?_ ?_ ?_ ?_
  · intro j u hj
    match j, hj with
    | 0, hj => simp at hj; subst hj; simp [Addr.add]
  · intro u hu; simp at hu; subst hu; rfl
  · unfold maxLen; omega
  · omega
  · simp; omega
  · intro v' w' hown' hgrow _
    exact h v' w' hown' ((hnx.alloc hsz _).grown hgrow (by simp; omega) (owns_block hown))
def Ow (B : Nat) (w : World) (v : Value) (xs : List Nat) : Prop := w.ownsRow B 34 1 v xs.length (cellsU xs)
theorem Ow.isU {B : Nat} {w : World} {v : Value} {xs : List Nat} (h : Ow B w v xs) (hr : ∀ x ∈ xs, (x : Int) < 18446744073709551616) : IsU w v xs := IsU.of_owns h hr
theorem Ow.below {B : Nat} {w w' : World} {v : Value} {xs : List Nat} (h : Ow B w v xs) (hb : Below w.heap.size w w') : Ow B w' v xs := owns_below h hb
theorem Ow.nil (B : Nat) (w : World) : Ow B w (.slice none 0 0) [] := World.ownsRow_nil _ _ _ _
theorem made_u64 (n : Nat) : (madeCells (Value.int .u64 0).cells (n * 1)).toList = cellsU (List.replicate n 0) := by
  rw [show (Value.int .u64 0).cells = #[Value.int .u64 0] from rfl, Nat.mul_one, toList_madeCells_one]
  unfold cellsU
  rw [List.map_replicate]; rfl
theorem wp_make {ops : Array Oper} {rest : List Oper} {o : Oper} {a : Act} {Q : Exit → Act → World → Prop} {w w0 : World} (hgd : o.guard = none) (l c : Operand) (ho : o.op = Op.makeSlice 23 l c) (n : Nat)
    (hl : a.eval l = .int .i64 (n : Int)) (hc : a.eval c = .int .i64 (n : Int)) (hn : n ≤ 1000000000) (hnx : Below w0.heap.size w0 w)
    (h : ∀ w', w'.ownsRow w0.heap.size 34 1 (.slice (some ⟨w.heap.size, 0, none⟩) n n) n (cellsU (List.replicate n 0)) → Below w.heap.size w w' → wpList Tryd.prog ops Q rest (a.put o.dst (.slice (some ⟨w.heap.size, 0, none⟩) n n)) w') :
    wpList Tryd.prog ops Q (o :: rest) a w := by
  obtain ⟨i0, hi, hz0, hz1, hz2⟩ := info_parts info_u64
  refine wpList_make_full w hgd l c 23 ho w0.heap.size 34 i0 (.int .u64 0) 1 Tryd.underlying23 hi hz0 hz1 .i64 .i64 n n n hl hc rfl rfl (by rw [hz2]; omega) (by unfold maxLen; omega) hnx.size ?_
  intro w' hown hgrow
  rw [made_u64] at hown
  exact h w' hown ((Below.refl _ _).grown hgrow (Nat.le_refl _) (fun k hk => by cases hk))
theorem cellsU_set (xs : List Nat) (j v : Nat) : (cellsU xs).set j (.int .u64 (v : Int)) = cellsU (xs.set j v) := by
  unfold cellsU
  rw [List.map_set]
def SL (n m : Nat) (f : Nat → F) : List Nat := mk m f ++ List.replicate (n - m) 0
theorem SL_zero (n : Nat) (f : Nat → F) : SL n 0 f = List.replicate n 0 := by simp [SL, mk]
theorem SL_length {n m : Nat} (f : Nat → F) (h : m ≤ n) : (SL n m f).length = n := by
  unfold SL
  rw [List.length_append, mk_length, List.length_replicate]; omega
theorem SL_set {n m : Nat} (f : Nat → F) (h : m < n) : (SL n m f).set m (f m).val = SL n (m + 1) f := by
  unfold SL
  obtain ⟨r, hr⟩ : ∃ r, n - m = r + 1 := ⟨n - m - 1, by omega⟩
  rw [hr, show n - (m + 1) = r by omega, List.set_append_right _ _ (by rw [mk_length]; exact Nat.le_refl m), mk_length, Nat.sub_self, List.replicate_succ, List.set_cons_zero, mk_succ, List.append_assoc]; rfl
theorem SL_full (n : Nat) (f : Nat → F) : SL n n f = mk n f := by simp [SL]
def RowU (w : World) (g : Nat) (xs : List Nat) : Prop := w.heap[g]? = some (.cells (cellsU xs).toArray 34 (0, 0))
def Rng (xs : List Nat) : Prop := ∀ x ∈ xs, (x : Int) < 18446744073709551616
theorem RowU.lt {w : World} {g : Nat} {xs : List Nat} (h : RowU w g xs) : g < w.heap.size := by
  obtain ⟨hlt, _⟩ := Array.getElem?_eq_some_iff.1 h
  exact hlt
theorem RowU.cell {w : World} {g : Nat} {xs : List Nat} (h : RowU w g xs) (i : Nat) (hi : i < xs.length) : w.cell? ⟨g, i, none⟩ = some (.int .u64 ((xs.getD i 0 : Nat) : Int)) := by
  have hh : w.heap[g]? = _ := h
  have hc := cellsU_get xs i hi
  simp only [World.cell?, hh, List.getElem?_toArray]
  rw [hc]; rfl
theorem RowU.frozen {w : World} {g : Nat} {xs : List Nat} (h : RowU w g xs) (i : Nat) : w.frozen? ⟨g, i, none⟩ = false := by
  have hh : w.heap[g]? = _ := h
  simp [World.frozen?, hh]
theorem RowU.set {w : World} {g : Nat} {xs : List Nat} (h : RowU w g xs) (i x : Nat) : RowU (w.setCell ⟨g, i, none⟩ (.int .u64 (x : Int))) g (xs.set i x) := by
  have hh : w.heap[g]? = _ := h
  unfold RowU
  rw [← cellsU_set]
  simp [World.setCell, Array.getElem?_modify, hh]
theorem RowU.block {w w' : World} {g : Nat} {xs : List Nat} (h : RowU w g xs) (e : w'.heap[g]? = w.heap[g]?) : RowU w' g xs := e.trans h
theorem RowU.below {w w' : World} {g : Nat} {xs : List Nat} (h : RowU w g xs) (hb : Below w.heap.size w w') : RowU w' g xs := h.block (hb.block g h.lt)
theorem RowU.drewN {w : World} {g : Nat} {xs : List Nat} (h : RowU w g xs) (n : Nat) : RowU (w.drewN n) g xs := h
theorem RowU.cast {w : World} {g : Nat} {xs ys : List Nat} (h : RowU w g xs) (e : xs = ys) : RowU w g ys := e ▸ h
theorem RowU.isU {w : World} {g : Nat} {xs : List Nat} (h : RowU w g xs) (hr : Rng xs) (hl : xs.length ≤ 1000000000) : IsU w (.slice (some ⟨g, 0, none⟩) xs.length xs.length) xs :=
  ⟨some ⟨g, 0, none⟩, xs.length, rfl, Nat.le_refl _, by unfold maxLen; omega, fun i hi => ⟨g, 0, rfl, by rw [Nat.zero_add]; exact h.cell i hi⟩, hr⟩
theorem RowU.isUN {w : World} {g n : Nat} {xs : List Nat} (h : RowU w g xs) (hr : Rng xs) (hl : xs.length ≤ 1000000000) (hn : xs.length = n) : IsU w (.slice (some ⟨g, 0, none⟩) n n) xs := by
  subst hn; exact h.isU hr hl
theorem RowU.of_owns {w : World} {base g n : Nat} {xs : List Nat} (h : w.ownsRow base 34 1 (.slice (some ⟨g, 0, none⟩) n n) n (cellsU xs)) : RowU w g xs := by
  have hlen := h.1
  rcases h.2 with ⟨hv, _⟩ | ⟨g', cap', cur, hv, hg, hh, h1, h2, h3, h4⟩
  · cases hv
  · simp only [Value.slice.injEq, Option.some.injEq, Addr.mk.injEq, and_true, true_and] at hv
    obtain ⟨rfl, rfl⟩ := hv
    have hcur : cur.toList = cellsU xs := by rw [← h4, Nat.mul_one, List.take_of_length_le (by simp [h3])]
    have hcur2 : cur = (cellsU xs).toArray := by rw [← hcur]
    rw [hcur2] at hh
    exact hh
theorem Rng_of_P {xs : List Nat} (h : ∀ x ∈ xs, x < P) : Rng xs := fun x hx => by have := h x hx; unfold P at this; omega
theorem Rng_replicate (n : Nat) : Rng (List.replicate n 0) := fun x hx => by
  have := List.eq_of_mem_replicate hx
  subst this; decide
theorem RowU.bar {w w' : World} {g g' : Nat} {xs : List Nat} (h : RowU w g' xs) (hne : g' ≠ g) (hb : Bar g w w') : RowU w' g' xs := h.block (hb.block g' h.lt hne)
theorem wp_makeR {ops : Array Oper} {rest : List Oper} {o : Oper} {a : Act} {Q : Exit → Act → World → Prop} {w : World} (hgd : o.guard = none) (l c : Operand) (ho : o.op = Op.makeSlice 23 l c) (n : Nat)
    (hl : a.eval l = .int .i64 (n : Int)) (hc : a.eval c = .int .i64 (n : Int)) (hn : n ≤ 1000000000)
    (h : ∀ w', RowU w' w.heap.size (List.replicate n 0) → Below w.heap.size w w' → wpList Tryd.prog ops Q rest (a.put o.dst (.slice (some ⟨w.heap.size, 0, none⟩) n n)) w') :
    wpList Tryd.prog ops Q (o :: rest) a w :=
  wp_make (w0 := w) hgd l c ho n hl hc hn (Below.refl _ _) fun w' hown hb => h w' (RowU.of_owns hown) hb
theorem wp_makeG {ops : Array Oper} {rest : List Oper} {o : Oper} {a : Act} {Q : Exit → Act → World → Prop} {w : World} (hgd : o.guard = none) (l c : Operand) (ho : o.op = Op.makeSlice 23 l c) (n : Nat)
    (hl : a.eval l = .int .i64 (n : Int)) (hc : a.eval c = .int .i64 (n : Int)) (hn : n ≤ 1000000000)
    (h : ∀ g w', Hid (g = w.heap.size) → RowU w' g (List.replicate n 0) → Below w.heap.size w w' → wpList Tryd.prog ops Q rest (a.put o.dst (.slice (some ⟨g, 0, none⟩) n n)) w') :
    wpList Tryd.prog ops Q (o :: rest) a w :=
  wp_makeR hgd l c ho n hl hc hn fun w' hr hb => h w.heap.size w' rfl hr hb
def lay (zs : List Nat) (off : Nat) (xs : List Nat) : List Nat := zs.take off ++ xs ++ zs.drop (off + xs.length)
theorem lay_length {zs xs : List Nat} {off : Nat} (h : off + xs.length ≤ zs.length) : (lay zs off xs).length = zs.length := by
  unfold lay
  simp only [List.length_append, List.length_take, List.length_drop]; omega
theorem lay_rng {zs xs : List Nat} {off : Nat} (hz : Rng zs) (hx : Rng xs) : Rng (lay zs off xs) := by
  intro x h
  unfold lay at h
  rcases List.mem_append.mp h with h1 | h1
  · rcases List.mem_append.mp h1 with h2 | h2
    · exact hz x (List.mem_of_mem_take h2)
    · exact hx x h2
  · exact hz x (List.mem_of_mem_drop h1)
theorem lay_zeros (n : Nat) (xs : List Nat) (h : xs.length ≤ n) (i : Nat) : cf (lay (List.replicate n 0) 0 xs) i = cf xs i := by
  unfold lay cf
  rw [List.take_zero, List.nil_append, Nat.zero_add]
  congr 1
  rcases Nat.lt_or_ge i xs.length with h1 | h1
  · simp [List.getD, List.getElem?_append_left h1]
  · rw [List.getD, List.getD, List.getElem?_append_right h1, List.getElem?_eq_none h1]
    rcases Nat.lt_or_ge (i - xs.length) (n - xs.length) with h2 | h2
    · simp [h2]
    · rw [List.getElem?_eq_none (by simp; omega)]
theorem wp_copyR {ops : Array Oper} {rest : List Oper} {o : Oper} {a : Act} {Q : Exit → Act → World → Prop} {w w0 : World} (hgd : o.guard = none) (d s : Operand)
    (ho : o.op = .call { callee := .builtin .copy, args := #[d, s], argTypes := #[23, 23] }) (g off n c : Nat) (v : Value) (zs xs : List Nat)
    (hd : a.eval d = .slice (some ⟨g, off, none⟩) n c) (hs : a.eval s = v) (hU : IsU w v xs) (hrow : RowU w g zs) (hoff : off + n ≤ zs.length) (hxn : xs.length ≤ n) (hnx : Below w0.heap.size w0 w) (hg : w0.heap.size ≤ g)
    (h : ∀ w' z, RowU w' g (lay zs off xs) → Below w0.heap.size w0 w' → wpList Tryd.prog ops Q rest (a.put o.dst (goInt z)) w') :
    wpList Tryd.prog ops Q (o :: rest) a w := by
  obtain ⟨p, cap, rfl, hcap, hmax, hc, hr⟩ := hU
  have hlen : (cellsU xs).length = Nat.min xs.length n := by rw [cellsU_length]; exact (Nat.min_eq_left hxn).symm
  refine wpList_copy_splice hgd d s 23 23 ho 34 Tryd.underlying23 (by kernel_rfl) _ _ _ _ _ _ hd hs g off (cellsU zs) 34 hrow (cellsU xs) hlen ?_ ?_ ?_ w0.heap.size w0 hnx hg ?_
  · intro hp
    have hpos : 0 < xs.length := by
      rw [cellsU_length] at hp; omega
    obtain ⟨b, off', rfl, _⟩ := hc 0 hpos
    refine ⟨rfl, ⟨b, off', none⟩, rfl, fun j u hj => ?_⟩
    have hjl : j < xs.length := by
      rcases Nat.lt_or_ge j xs.length with h5 | h5
      · exact h5
      · rw [List.getElem?_eq_none (by rw [cellsU_length]; exact h5)] at hj; cases hj
    rw [cellsU_get _ j hjl] at hj
    obtain ⟨b', off'', e, hcell⟩ := hc j hjl
    simp only [Option.some.injEq, Addr.mk.injEq, and_true] at e
    obtain ⟨rfl, rfl⟩ := e
    have e3 : (Addr.mk b off' none).add j = ⟨b, off' + j, none⟩ := Go.WideShapes.add_plain b off' j
    rw [e3, hcell, ← hj]
  · rw [cellsU_length, cellsU_length]; omega
  · intro u hu
    obtain ⟨y, _, rfl⟩ := List.mem_map.mp hu
    rfl
  · intro w' hrow' hb
    have hsp : splice (cellsU zs) off (cellsU xs) = cellsU (lay zs off xs) := by
      unfold splice lay
      rw [cellsU_length]
      unfold cellsU
      rw [List.map_append, List.map_append, List.map_take, List.map_drop]
      rw [List.append_assoc]
    have hr2 := hrow'.out
    rw [hsp] at hr2
    exact h w' _ hr2 hb
end Go.Proofs.YtckoipoejaafhaaDoor

namespace Go.Proofs.YtckoipoejaafhaaDoor
theorem rvK_step (m b c j : Nat) (hc : c < 2) : rvK (m + 1) (2 * b + c) (j + 1) = c * 2 ^ m + rvK m b j := by
  induction j with
  | zero =>
    show 0 + (2 * b + c) / 2 ^ 0 % 2 * 2 ^ (m + 1 - 1 - 0) = c * 2 ^ m + 0
    rw [Nat.pow_zero, Nat.div_one, show (2 * b + c) % 2 = c by omega, show m + 1 - 1 - 0 = m by omega]; omega
  | succ j ih =>
    rw [rvK, ih, show rvK m b (j + 1) = rvK m b j + b / 2 ^ j % 2 * 2 ^ (m - 1 - j) from rfl]
    have e : (2 * b + c) / 2 ^ (j + 1) = b / 2 ^ j := by
      rw [show 2 ^ (j + 1) = 2 * 2 ^ j by rw [Nat.pow_succ]; omega, ← Nat.div_div_eq_div_mul, show (2 * b + c) / 2 = b by omega]
    rw [e, show m + 1 - 1 - (j + 1) = m - 1 - j by omega]; omega
theorem rv_even (m b : Nat) : rv (m + 1) (2 * b) = rv m b := by
  have := rvK_step m b 0 m (by decide)
  unfold rv
  rw [show 2 * b + 0 = 2 * b from rfl] at this
  rw [this]; omega
theorem rv_odd (m b : Nat) : rv (m + 1) (2 * b + 1) = rv m b + 2 ^ m := by
  have := rvK_step m b 1 m (by decide)
  unfold rv
  rw [this]; omega
theorem rv_lt (k i : Nat) : rv k i < 2 ^ k := by
  have := rvK_le k i k (Nat.le_refl _)
  rw [Nat.sub_self, Nat.pow_zero] at this
  unfold rv; omega
def Dk (w : F) (k : Nat) (f : Nat → F) (s b t : Nat) : F := dft (pw w (2 ^ (k - s))) (2 ^ s) (fun i => f (rv (k - s) b + i * 2 ^ (k - s))) t
theorem Dk_zero (w : F) (k : Nat) (f : Nat → F) (b : Nat) : Dk w k f 0 b 0 = f (rv k b) := by
  unfold Dk dft
  rw [Nat.pow_zero, S_succ, S_zero, Nat.mul_zero, pw_zero, Nat.sub_zero]
  show 0 + f (rv k b + 0 * 2 ^ k) * 1 = f (rv k b)
  rw [Nat.zero_mul, Nat.add_zero]; grind
theorem Dk_end (w : F) (k : Nat) (f : Nat → F) (t : Nat) : Dk w k f k 0 t = dft w (2 ^ k) f t := by
  unfold Dk
  have e : pw w 1 = w := by rw [show (1 : Nat) = 0 + 1 from rfl, pw_succ, pw_zero]; grind
  rw [Nat.sub_self, Nat.pow_zero, e]
  refine dft_congr (fun i _ => ?_) t
  rw [show rv 0 0 = 0 from rfl, Nat.mul_one, Nat.zero_add]
theorem Ord.pow {w : F} {k m s : Nat} (h : Ord w k) (e : m + s = k) : Ord (pw w (2 ^ m)) s := by
  refine ⟨?_, fun j hj => ?_⟩
  · rw [← pw_mul, ← Nat.pow_add, e]; exact h.one
  · rw [← pw_mul, ← Nat.pow_add]; exact h.half (m + j) (by omega)
theorem pw_double (w : F) (m : Nat) : pw w (2 ^ m) * pw w (2 ^ m) = pw w (2 ^ (m + 1)) := by
  rw [← pw_add]; congr 1; rw [Nat.pow_succ]; omega
theorem Dk_parts (w : F) (f : Nat → F) (m s b t : Nat) : dft (pw w (2 ^ m) * pw w (2 ^ m)) (2 ^ s) (fun i => f (rv m b + 2 * i * 2 ^ m)) t = Dk w (s + 1 + m) f s (2 * b) t ∧
    dft (pw w (2 ^ m) * pw w (2 ^ m)) (2 ^ s) (fun i => f (rv m b + (2 * i + 1) * 2 ^ m)) t = Dk w (s + 1 + m) f s (2 * b + 1) t := by
  unfold Dk
  rw [pw_double, show s + 1 + m - s = m + 1 by omega, rv_even, rv_odd]
  refine ⟨dft_congr (fun i _ => ?_) t, dft_congr (fun i _ => ?_) t⟩
  · congr 1; rw [Nat.pow_succ]; grind
  · congr 1; rw [Nat.pow_succ]; grind
theorem Dk_low (w : F) (f : Nat → F) (m s b t : Nat) : Dk w (s + 1 + m) f (s + 1) b t = Dk w (s + 1 + m) f s (2 * b) t + Dk w (s + 1 + m) f s (2 * b + 1) t * pw (pw w (2 ^ m)) t := by
  obtain ⟨h1, h2⟩ := Dk_parts w f m s b t
  rw [← h1, ← h2]
  conv => lhs; unfold Dk
  rw [show s + 1 + m - (s + 1) = m by omega, Nat.pow_succ, Nat.mul_comm (2 ^ s) 2, dft_halves]
  grind
theorem Dk_high {w : F} {m s : Nat} (h : Ord w (s + 1 + m)) (f : Nat → F) (b t : Nat) : Dk w (s + 1 + m) f (s + 1) b (t + 2 ^ s) = Dk w (s + 1 + m) f s (2 * b) t - Dk w (s + 1 + m) f s (2 * b + 1) t * pw (pw w (2 ^ m)) t := by
  obtain ⟨h1, h2⟩ := Dk_parts w f m s b t
  rw [← h1, ← h2]
  conv => lhs; unfold Dk
  rw [show s + 1 + m - (s + 1) = m by omega, Nat.pow_succ, Nat.mul_comm (2 ^ s) 2, dft_upper (h.pow (m := m) (s := s + 1) (by omega))]
  grind
def pwJ (r : Nat) : Nat → Nat
  | 0 => 1
  | i + 1 => fM (pwJ r i) r
theorem pwJ_F (r i : Nat) : toF (pwJ r i) = pw (toF r) i := by
  induction i with
  | zero => rw [pwJ, pw_zero, toF_one]
  | succ i ih => rw [pwJ, toF_fM, ih, pw_succ]
theorem pwJ_lt (r i : Nat) : ((pwJ r i : Nat) : Int) < 18446744073709551616 := by
  cases i with
  | zero => show ((1 : Nat) : Int) < _; decide
  | succ i => rw [pwJ]; have := fM_lt (pwJ r i) r; omega
theorem cf_setN (l : List Nat) (i x t : Nat) (hi : i < l.length) : cf (l.set i x) t = if t = i then toF x else cf l t := by
  unfold cf
  by_cases h : t = i
  · subst h; simp [List.getD, hi]
  · rw [if_neg h]; simp [List.getD, Ne.symm h]
def joinK (zs : List Nat) (o h r : Nat) : Nat → List Nat
  | 0 => zs
  | i + 1 => ((joinK zs o h r i).set (o + i) (fA ((joinK zs o h r i).getD (o + i) 0) (fM ((joinK zs o h r i).getD (o + (i + h)) 0) (pwJ r i)))).set (o + (i + h)) (fS ((joinK zs o h r i).getD (o + i) 0) (fM ((joinK zs o h r i).getD (o + (i + h)) 0) (pwJ r i)))
theorem joinK_length (zs : List Nat) (o h r i : Nat) : (joinK zs o h r i).length = zs.length := by
  induction i with
  | zero => rfl
  | succ i ih => rw [joinK, List.length_set, List.length_set, ih]
theorem joinK_P (zs : List Nat) (o h r i : Nat) (hz : ∀ x ∈ zs, x < P) : ∀ x ∈ joinK zs o h r i, x < P := by
  induction i with
  | zero => exact hz
  | succ i ih =>
    intro x hx
    rw [joinK] at hx
    rcases List.mem_or_eq_of_mem_set hx with h1 | h1
    · rcases List.mem_or_eq_of_mem_set h1 with h2 | h2
      · exact ih x h2
      · rw [h2]; have := fA_lt ((joinK zs o h r i).getD (o + i) 0) (fM ((joinK zs o h r i).getD (o + (i + h)) 0) (pwJ r i)); unfold P; omega
    · rw [h1]; have := fS_lt ((joinK zs o h r i).getD (o + i) 0) (fM ((joinK zs o h r i).getD (o + (i + h)) 0) (pwJ r i)); unfold P; omega
theorem cf_joinK (zs : List Nat) (o h r i : Nat) (hi : i ≤ h) (hl : o + 2 * h ≤ zs.length) (j : Nat) : cf (joinK zs o h r i) j =
    if o ≤ j ∧ j < o + i then cf zs j + cf zs (j + h) * pw (toF r) (j - o)
    else if o + h ≤ j ∧ j < o + h + i then cf zs (j - h) - cf zs j * pw (toF r) (j - h - o) else cf zs j := by
  induction i generalizing j with
  | zero => rw [if_neg (by omega), if_neg (by omega)]; rfl
  | succ i ih =>
    have h1 := ih (by omega) (o + i)
    have h2 := ih (by omega) (o + (i + h))
    rw [if_neg (by omega), if_neg (by omega)] at h1 h2
    rw [joinK, cf_setN _ _ _ _ (by rw [List.length_set, joinK_length]; omega), cf_setN _ _ _ _ (by rw [joinK_length]; omega), toF_fA, toF_fS, toF_fM, pwJ_F]
    show (if j = o + (i + h) then cf (joinK zs o h r i) (o + i) - cf (joinK zs o h r i) (o + (i + h)) * pw (toF r) i else if j = o + i then cf (joinK zs o h r i) (o + i) + cf (joinK zs o h r i) (o + (i + h)) * pw (toF r) i else cf (joinK zs o h r i) j) = _
    rw [h1, h2]
    by_cases e1 : j = o + (i + h)
    · rw [if_pos e1, if_neg (by omega), if_pos (by omega), show j - h = o + i by omega, show o + i - o = i by omega, e1]
    · rw [if_neg e1]
      by_cases e2 : j = o + i
      · rw [if_pos e2, if_pos (by omega), show j - o = i by omega, e2, show o + i + h = o + (i + h) by omega]
      · rw [if_neg e2, ih (by omega) j]
        by_cases e3 : o ≤ j ∧ j < o + i
        · rw [if_pos e3, if_pos (by omega)]
        · rw [if_neg e3, if_neg (show ¬(o ≤ j ∧ j < o + (i + 1)) by omega)]
          by_cases e4 : o + h ≤ j ∧ j < o + h + i
          · rw [if_pos e4, if_pos (by omega)]
          · rw [if_neg e4, if_neg (by omega)]
structure Alls (w : F) (k : Nat) (f : Nat → F) (s : Nat) (zs : List Nat) : Prop where
  len : zs.length = 2 ^ k
  low : ∀ x ∈ zs, x < P
  all : ∀ b t, b < 2 ^ (k - s) → t < 2 ^ s → cf zs (b * 2 ^ s + t) = Dk w k f s b t
structure Halfs (w : F) (k : Nat) (f : Nat → F) (s B : Nat) (zs : List Nat) : Prop where
  len : zs.length = 2 ^ k
  low : ∀ x ∈ zs, x < P
  done : ∀ b t, b < B → t < 2 ^ (s + 1) → cf zs (b * 2 ^ (s + 1) + t) = Dk w k f (s + 1) b t
  left : ∀ b t, 2 * B ≤ b → b < 2 ^ (k - s) → t < 2 ^ s → cf zs (b * 2 ^ s + t) = Dk w k f s b t
theorem Alls.start {w : F} {k s : Nat} {f : Nat → F} {zs : List Nat} (h : Alls w k f s zs) : Halfs w k f s 0 zs :=
  ⟨h.len, h.low, fun _ _ hb _ => absurd hb (Nat.not_lt_zero _), fun b t _ hb ht => h.all b t hb ht⟩
theorem Halfs.stop {w : F} {k s B : Nat} {f : Nat → F} {zs : List Nat} (h : Halfs w k f s B zs) (hB : B = 2 ^ (k - (s + 1))) : Alls w k f (s + 1) zs :=
  ⟨h.len, h.low, fun b t hb ht => h.done b t (hB ▸ hb) ht⟩
theorem Halfs.step {w : F} {k s B r : Nat} {f : Nat → F} {zs : List Nat} (h : Halfs w k f s B zs) (hw : Ord w k) (hs : s + 1 ≤ k) (hB : B < 2 ^ (k - (s + 1))) (hr : toF r = pw w (2 ^ (k - (s + 1)))) :
    Halfs w k f s (B + 1) (joinK zs (B * 2 ^ (s + 1)) (2 ^ s) r (2 ^ s)) := by
  obtain ⟨m, rfl⟩ : ∃ m, k = s + 1 + m := ⟨k - (s + 1), by omega⟩
  rw [show s + 1 + m - (s + 1) = m by omega] at hB hr
  have hlen := h.len
  have hleft := h.left
  have hdone := h.done
  have hlow := Dk_low w f m s
  have hhigh := Dk_high hw f
  have e1 : 2 ^ (s + 1) = 2 * 2 ^ s := by rw [Nat.pow_succ]; omega
  have e2 : 2 ^ (s + 1 + m) = 2 ^ m * (2 * 2 ^ s) := by rw [Nat.pow_add, e1, Nat.mul_comm]
  have e3 : 2 ^ (s + 1 + m - s) = 2 ^ m * 2 := by rw [show s + 1 + m - s = m + 1 by omega, Nat.pow_succ]
  rw [e2] at hlen
  rw [e3] at hleft
  rw [e1] at hdone ⊢
  rw [← hr] at hlow hhigh
  have hp : 0 < 2 ^ s := Nat.pow_pos (by decide)
  have hfit : (B + 1) * (2 * 2 ^ s) ≤ zs.length := by rw [hlen]; exact Nat.mul_le_mul_right _ hB
  rw [Nat.add_mul, Nat.one_mul] at hfit
  have hcf := cf_joinK zs (B * (2 * 2 ^ s)) (2 ^ s) r (2 ^ s) (Nat.le_refl _) hfit
  refine ⟨by rw [joinK_length]; exact h.len, joinK_P _ _ _ _ _ h.low, ?_, ?_⟩
  · intro b t hb ht
    rw [e1] at ht ⊢
    rw [hcf]
    rcases Nat.lt_or_ge b B with hb1 | hb1
    · have h3 : (b + 1) * (2 * 2 ^ s) ≤ B * (2 * 2 ^ s) := Nat.mul_le_mul_right _ hb1
      rw [Nat.add_mul, Nat.one_mul] at h3
      rw [if_neg (by omega), if_neg (by omega)]
      exact hdone b t hb1 ht
    · have hbB : b = B := by omega
      subst hbB
      have a1 : ∀ u, b * (2 * 2 ^ s) + u = 2 * b * 2 ^ s + u := fun u => by grind
      have a2 : ∀ u, b * (2 * 2 ^ s) + u + 2 ^ s = (2 * b + 1) * 2 ^ s + u := fun u => by grind
      rcases Nat.lt_or_ge t (2 ^ s) with ht1 | ht1
      · rw [if_pos (by omega), show b * (2 * 2 ^ s) + t - b * (2 * 2 ^ s) = t by omega, a2, a1, hleft (2 * b) t (by omega) (by omega) ht1, hleft (2 * b + 1) t (by omega) (by omega) ht1, hlow]
      · obtain ⟨u, rfl⟩ : ∃ u, t = u + 2 ^ s := ⟨t - 2 ^ s, by omega⟩
        rw [if_neg (by omega), if_pos (by omega), show b * (2 * 2 ^ s) + (u + 2 ^ s) - 2 ^ s = b * (2 * 2 ^ s) + u by omega, show b * (2 * 2 ^ s) + u - b * (2 * 2 ^ s) = u by omega,
          show b * (2 * 2 ^ s) + (u + 2 ^ s) = b * (2 * 2 ^ s) + u + 2 ^ s by omega, a2, a1, hleft (2 * b) u (by omega) (by omega) (by omega), hleft (2 * b + 1) u (by omega) (by omega) (by omega), hhigh]
  · intro b t hb1 hb2 ht
    rw [e3] at hb2
    have h3 : (2 * (B + 1)) * 2 ^ s ≤ b * 2 ^ s := Nat.mul_le_mul_right _ hb1
    have h4 : (2 * (B + 1)) * 2 ^ s = B * (2 * 2 ^ s) + 2 * 2 ^ s := by grind
    rw [hcf, if_neg (by omega), if_neg (by omega)]
    exact hleft b t (by omega) hb2 ht
end Go.Proofs.YtckoipoejaafhaaDoor

namespace Go.Proofs.YtckoipoejaafhaaDoor
open Go.RowKit
set_option maxRecDepth 100000
theorem norm_ge (a : Nat) (ha : (a : Int) < 18446744073709551616) (h : (18446744069414584321 : Int) ≤ a) : ((fN a : Nat) : Int) = (a : Int) - 18446744069414584321 := by
  rw [fN_eq]; unfold P; omega
theorem norm_lt (a : Nat) (h : (a : Int) < 18446744069414584321) : ((fN a : Nat) : Int) = (a : Int) := by
  rw [fN_eq]; unfold P; omega
theorem field_Norm (a : Nat) (ha : (a : Int) < 18446744073709551616) (w : World) :
    Calls Tryd.prog 21 #[.int .u64 (a : Int)] w fun e w' => e = .returned (.int .u64 ((fN a : Nat) : Int)) ∧ w' = w := by
  by_cases h : (18446744069414584321 : Int) ≤ a
  · rw [norm_ge a ha h]
    go_enter Tryd.func21, Tryd.ntmps21
    go_wp2
    go_ret
    exact ⟨rfl, rfl⟩
  · have h' : (a : Int) < 18446744069414584321 := by omega
    rw [norm_lt a h']
    go_enter Tryd.func21, Tryd.ntmps21
    go_wp2
    go_ret
    exact ⟨rfl, rfl⟩
theorem add_ge (a b : Nat) (h : 18446744069414584321 - (fN b : Int) ≤ (fN a : Int)) : ((fA a b : Nat) : Int) = (fN a : Int) - (18446744069414584321 - (fN b : Int)) := by
  simp only [fA_eq, fN_eq] at *; unfold P at *; omega
theorem add_lt (a b : Nat) (h : (fN a : Int) < 18446744069414584321 - (fN b : Int)) : ((fA a b : Nat) : Int) = (fN a : Int) + (fN b : Int) := by
  simp only [fA_eq, fN_eq] at *; unfold P at *; omega
theorem field_Add (a b : Nat) (ha : (a : Int) < 18446744073709551616) (hb : (b : Int) < 18446744073709551616) (w : World) :
    Calls Tryd.prog 48 #[.int .u64 (a : Int), .int .u64 (b : Int)] w fun e w' => e = .returned (.int .u64 ((fA a b : Nat) : Int)) ∧ w' = w := by
  have ba := fN_lt a
  have bb := fN_lt b
  by_cases h : 18446744069414584321 - (fN b : Int) ≤ (fN a : Int)
  · rw [add_ge a b h]
    go_enter Tryd.func48, Tryd.ntmps48
    go_wp2_with (go_at_call 21; refine Calls.mono (field_Norm _ ?_ _) ?_; omega; rintro e w' ⟨rfl, hw⟩; rw [hw]; clear hw)
    go_ret
    exact ⟨rfl, rfl⟩
  · rw [add_lt a b (by omega)]
    have h' : (fN a : Int) + (fN b : Int) < 18446744069414584321 := by omega
    replace h := decide_eq_false h
    go_enter Tryd.func48, Tryd.ntmps48
    go_wp2_with (go_at_call 21; refine Calls.mono (field_Norm _ ?_ _) ?_; omega; rintro e w' ⟨rfl, hw⟩; rw [hw]; clear hw)
    go_ret
    exact ⟨rfl, rfl⟩
theorem sub_ge (a b : Nat) (h : (fN b : Int) ≤ (fN a : Int)) : ((fS a b : Nat) : Int) = (fN a : Int) - (fN b : Int) := by
  simp only [fS_eq, fN_eq] at *; unfold P at *; omega
theorem sub_lt (a b : Nat) (h : (fN a : Int) < (fN b : Int)) : ((fS a b : Nat) : Int) = 18446744069414584321 - ((fN b : Int) - (fN a : Int)) := by
  simp only [fS_eq, fN_eq] at *; unfold P at *; omega
theorem field_Sub (a b : Nat) (ha : (a : Int) < 18446744073709551616) (hb : (b : Int) < 18446744073709551616) (w : World) :
    Calls Tryd.prog 49 #[.int .u64 (a : Int), .int .u64 (b : Int)] w fun e w' => e = .returned (.int .u64 ((fS a b : Nat) : Int)) ∧ w' = w := by
  have ba := fN_lt a
  have bb := fN_lt b
  by_cases h : (fN b : Int) ≤ (fN a : Int)
  · rw [sub_ge a b h]
    go_enter Tryd.func49, Tryd.ntmps49
    go_wp2_with (go_at_call 21; refine Calls.mono (field_Norm _ ?_ _) ?_; omega; rintro e w' ⟨rfl, hw⟩; rw [hw]; clear hw)
    go_ret
    exact ⟨rfl, rfl⟩
  · have h' : (fN a : Int) < (fN b : Int) := by omega
    rw [sub_lt a b h']
    replace h : decide (fN b ≤ fN a) = false := decide_eq_false (by omega)
    go_enter Tryd.func49, Tryd.ntmps49
    go_wp2_with (go_at_call 21; refine Calls.mono (field_Norm _ ?_ _) ?_; omega; rintro e w' ⟨rfl, hw⟩; rw [hw]; clear hw)
    go_ret
    exact ⟨rfl, rfl⟩
theorem low_half (a : Nat) (ha : (a : Int) < 18446744073709551616) : bits .and .u64 (a : Int) 4294967295 = ((a % 4294967296 : Nat) : Int) := by
  rw [← Nat.and_two_pow_sub_one_eq_mod a 32]
  exact bits_and_u64_nat a 4294967295 (by omega) (by omega)
theorem high_half (a : Nat) : (a : Int) / 4294967296 = ((a / 4294967296 : Nat) : Int) := by omega
theorem mul64_walk (x y x0 x1 y0 y1 p q r s t m l : Nat) (ex : bits .and .u64 (x : Int) 4294967295 = (x0 : Int)) (ey : bits .and .u64 (y : Int) 4294967295 = (y0 : Int))
    (fx : (x : Int) / 4294967296 = (x1 : Int)) (fy : (y : Int) / 4294967296 = (y1 : Int))
    (ep : (x0 : Int) * (y0 : Int) = (p : Int)) (eq : (x1 : Int) * (y0 : Int) = (q : Int)) (er : (x0 : Int) * (y1 : Int) = (r : Int)) (es : (x1 : Int) * (y1 : Int) = (s : Int))
    (bp : (p : Int) ≤ 18446744065119617025) (bq : (q : Int) ≤ 18446744065119617025) (br : (r : Int) ≤ 18446744065119617025) (bs : (s : Int) ≤ 18446744065119617025)
    (et : (q : Int) + (p : Int) / 4294967296 = (t : Int)) (bt : (t : Int) < 18446744073709551616) (em : bits .and .u64 (t : Int) 4294967295 = (m : Int)) (bm : (m : Int) < 4294967296)
    (el : IntKind.u64.wrap ((x : Int) * (y : Int)) = (l : Int)) (w : World) :
    Calls Tryd.prog 47 #[.int .u64 (x : Int), .int .u64 (y : Int)] w fun e w' => e = .returned (.tuple #[.int .u64 ((s : Int) + (t : Int) / 4294967296 + ((m : Int) + (r : Int)) / 4294967296), .int .u64 (l : Int)]) ∧ w' = w := by
  go_enter Tryd.func47, Tryd.ntmps47
  go_wp2
  go_ret2
  exact ⟨rfl, rfl⟩
theorem school (x1 x0 y1 y0 : Nat) : (4294967296 * x1 + x0) * (4294967296 * y1 + y0) = 18446744073709551616 * (x1 * y1) + 4294967296 * (x1 * y0 + x0 * y1) + x0 * y0 := by
  grind
theorem halves_le {a b : Nat} (ha : a < 4294967296) (hb : b < 4294967296) : ((a * b : Nat) : Int) ≤ 18446744065119617025 := by
  have := Nat.mul_le_mul (show a ≤ 4294967295 by omega) (show b ≤ 4294967295 by omega)
  omega
theorem bits_Mul64 (x y : Nat) (hx : (x : Int) < 18446744073709551616) (hy : (y : Int) < 18446744073709551616) (w : World) :
    Calls Tryd.prog 47 #[.int .u64 (x : Int), .int .u64 (y : Int)] w fun e w' => e = .returned (.tuple #[.int .u64 ((x * y / 18446744073709551616 : Nat) : Int), .int .u64 ((x * y % 18446744073709551616 : Nat) : Int)]) ∧ w' = w := by
  have hp := school (x / 4294967296) (x % 4294967296) (y / 4294967296) (y % 4294967296)
  rw [Nat.div_add_mod, Nat.div_add_mod] at hp
  have bp := halves_le (a := x % 4294967296) (b := y % 4294967296) (by omega) (by omega)
  have bq := halves_le (a := x / 4294967296) (b := y % 4294967296) (by omega) (by omega)
  have br := halves_le (a := x % 4294967296) (b := y / 4294967296) (by omega) (by omega)
  have bs := halves_le (a := x / 4294967296) (b := y / 4294967296) (by omega) (by omega)
  have ep := (Int.natCast_mul (x % 4294967296) (y % 4294967296)).symm
  have eq := (Int.natCast_mul (x / 4294967296) (y % 4294967296)).symm
  have er := (Int.natCast_mul (x % 4294967296) (y / 4294967296)).symm
  have es := (Int.natCast_mul (x / 4294967296) (y / 4294967296)).symm
  have el : IntKind.u64.wrap ((x : Int) * (y : Int)) = ((x * y % 18446744073709551616 : Nat) : Int) := by
    rw [IntKind.wrap_u64, ← Int.natCast_mul]; omega
  have h := fun t m ht hb hm hb2 => mul64_walk x y _ _ _ _ _ _ _ _ t m _ (low_half x hx) (low_half y hy) (high_half x) (high_half y) ep eq er es bp bq br bs ht hb hm hb2 el w
  clear ep eq er es el
  generalize x % 4294967296 * (y % 4294967296) = p at *
  generalize x / 4294967296 * (y % 4294967296) = q at *
  generalize x % 4294967296 * (y / 4294967296) = r at *
  generalize x / 4294967296 * (y / 4294967296) = s at *
  generalize x * y = z at *
  have e : ((z / 18446744073709551616 : Nat) : Int) = (s : Int) + ((q + p / 4294967296 : Nat) : Int) / 4294967296 + (((((q + p / 4294967296) % 4294967296 : Nat) : Int)) + (r : Int)) / 4294967296 := by omega
  rw [e]
  exact h (q + p / 4294967296) ((q + p / 4294967296) % 4294967296) (by omega) (by omega) (low_half _ (by omega)) (by omega)
end Go.Proofs.YtckoipoejaafhaaDoor
