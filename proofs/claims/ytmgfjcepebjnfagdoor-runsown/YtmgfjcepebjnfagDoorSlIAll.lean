/-
  Texts that stood one behind the other, as one.
-/
import Derived.Test.YtmgfjcepebjnfagDoorSl
import Derived.Laws.BitsLemmas
import Derived.Test.YtmgfjcepebjnfagDoorRows
import Derived.Deep.RegionLaw
import Derived.Deep.AppendLies
import Derived.Test.YtmgfjcepebjnfagDoorRefShape
import Derived.BigQuiet
import Derived.Deep.RegionWith
import Derived.Test.YtmgfjcepebjnfagDoorManyN
/-! Slices of ints that hold natural numbers, as lists; bits read from the other end. -/
namespace Go.Proofs.YtmgfjcepebjnfagDoor
open Go.RowKit

/-- The slice value v reads in the world w as the numbers xs, of type int. -/
def IsI (w : World) (v : Value) (xs : List Nat) : Prop :=
  ∃ (a : Option Addr) (cap : Nat), v = .slice a xs.length cap ∧ xs.length ≤ cap ∧ cap ≤ maxLen ∧
    (∀ i, i < xs.length → ∃ b off, a = some ⟨b, off, none⟩ ∧ w.cell? ⟨b, off + i, none⟩ = some (.int .i64 ((xs.getD i 0 : Nat) : Int)))
theorem IsI.below {w w' : World} {v : Value} {xs : List Nat} (h : IsI w v xs) (hb : Below w.heap.size w w') : IsI w' v xs := by
  obtain ⟨a, cap, rfl, h1, h2, hc⟩ := h
  refine ⟨a, cap, rfl, h1, h2, fun i hi => ?_⟩
  obtain ⟨b, off, rfl, hcell⟩ := hc i hi
  exact ⟨b, off, rfl, (hb.cell (block_lt hcell)).trans hcell⟩
theorem IsI.nil (w : World) : IsI w (.slice none 0 0) [] :=
  ⟨none, 0, rfl, by simp, by simp [maxLen], fun i hi => by simp at hi⟩
theorem IsI.cast {w : World} {v : Value} {l l' : List Nat} (h : IsI w v l) (e : l = l') : IsI w v l' := e ▸ h

/-- The first b of i's bits, read into k bits from the other end. -/
def rvK (k i : Nat) : Nat → Nat
  | 0 => 0
  | b + 1 => rvK k i b + i / 2 ^ b % 2 * 2 ^ (k - 1 - b)
/-- All k of them. -/
def rv (k i : Nat) : Nat := rvK k i k
/-- The numbers from 0 to 2^k - 1, each read from the other end. -/
def ord (k : Nat) : List Nat := (List.range (2 ^ k)).map (rv k)
theorem ord_length (k : Nat) : (ord k).length = 2 ^ k := by simp [ord]
theorem ord_get (k i : Nat) (h : i < 2 ^ k) : (ord k).getD i 0 = rv k i := by simp [ord, List.getD, h]

theorem rvK_dvd (k i b : Nat) (hb : b ≤ k) : 2 ^ (k - b) ∣ rvK k i b := by
  induction b with
  | zero => exact Nat.dvd_zero _
  | succ b ih =>
    rw [rvK]
    have h1 : 2 ^ (k - (b + 1)) ∣ rvK k i b := Nat.dvd_trans (Nat.pow_dvd_pow 2 (by omega)) (ih (by omega))
    have h2 : 2 ^ (k - (b + 1)) ∣ i / 2 ^ b % 2 * 2 ^ (k - 1 - b) := by
      rw [show k - (b + 1) = k - 1 - b by omega]
      exact Nat.dvd_mul_left _ _
    exact Nat.dvd_add h1 h2
theorem rvK_le (k i b : Nat) (hb : b ≤ k) : rvK k i b + 2 ^ (k - b) ≤ 2 ^ k := by
  induction b with
  | zero => simp [rvK]
  | succ b ih =>
    rw [rvK]
    have ih' := ih (by omega)
    have e : 2 ^ (k - b) = 2 ^ (k - 1 - b) + 2 ^ (k - 1 - b) := by
      rw [show k - b = k - 1 - b + 1 by omega, Nat.pow_succ]; omega
    rw [show k - (b + 1) = k - 1 - b by omega]
    have h2 : i / 2 ^ b % 2 * 2 ^ (k - 1 - b) ≤ 2 ^ (k - 1 - b) := by
      generalize 2 ^ (k - 1 - b) = q
      rcases Nat.mod_two_eq_zero_or_one (i / 2 ^ b) with h | h <;> rw [h] <;> omega
    omega
theorem bit_lt (k i b : Nat) (hb : b < k) : i / 2 ^ b % 2 * 2 ^ (k - 1 - b) < 2 ^ (k - b) := by
  have e : 2 ^ (k - b) = 2 ^ (k - 1 - b) + 2 ^ (k - 1 - b) := by
    rw [show k - b = k - 1 - b + 1 by omega, Nat.pow_succ]; omega
  have hp : 0 < 2 ^ (k - 1 - b) := Nat.pow_pos (by decide)
  rcases Nat.mod_two_eq_zero_or_one (i / 2 ^ b) with h | h <;> rw [h] <;> omega

theorem wraps_i64 (n : Int) (h1 : 0 ≤ n) (h2 : n < 2 ^ 62) : IntKind.i64.wrap n = n := by rw [IntKind.wrap_i64]; omega
theorem and_one (x : Nat) (hx : x ≤ 1024) : bits .and .i64 (x : Int) 1 = ((x % 2 : Nat) : Int) := by
  have := (bits_nat .i64 62 (by decide) wraps_i64 x 1 (by omega) (by decide)).1
  rw [Nat.and_one_is_mod] at this
  exact this
theorem or_join (r y s : Nat) (hd : 2 ^ s ∣ r) (hy : y < 2 ^ s) (hr : r < 2 ^ 62) (hy2 : y < 2 ^ 62) : bits .or .i64 (r : Int) (y : Int) = ((r + y : Nat) : Int) := by
  rw [(bits_nat .i64 62 (by decide) wraps_i64 r y hr hy2).2]
  obtain ⟨c, rfl⟩ := hd
  rw [← Nat.two_pow_add_eq_or_of_lt hy c]
theorem rv_or (k i b : Nat) (hb : b < k) (hk : 2 ^ k ≤ 1024) (hi : i ≤ 1024) :
    bits .or .i64 ((rvK k i b : Nat) : Int) (wrap64 (bits .and .i64 ((i : Int) / 2 ^ b) 1 * 2 ^ (k - 1 - b))) = ((rvK k i (b + 1) : Nat) : Int) := by
  have hp2 : ∀ t : Nat, (2 : Int) ^ t = ((2 ^ t : Nat) : Int) := fun t => by rw [Int.natCast_pow]; rfl
  have hdiv : (i : Int) / 2 ^ b = ((i / 2 ^ b : Nat) : Int) := by rw [hp2, ← Int.natCast_ediv]
  have hdl : i / 2 ^ b ≤ 1024 := Nat.le_trans (Nat.div_le_self _ _) hi
  have h3 := bit_lt k i b hb
  have h4 := rvK_le k i b (by omega)
  have h5 := rvK_dvd k i b (by omega)
  have h7 : 2 ^ (k - b) ≤ 2 ^ k := Nat.pow_le_pow_right (by decide) (by omega)
  have e2 : ((i / 2 ^ b % 2 : Nat) : Int) * 2 ^ (k - 1 - b) = ((i / 2 ^ b % 2 * 2 ^ (k - 1 - b) : Nat) : Int) := by
    rw [hp2, ← Int.natCast_mul]
  rw [hdiv, and_one _ hdl, e2, show rvK k i (b + 1) = rvK k i b + i / 2 ^ b % 2 * 2 ^ (k - 1 - b) from rfl]
  clear hdiv e2
  generalize i / 2 ^ b % 2 * 2 ^ (k - 1 - b) = y at *
  have e3 : wrap64 (y : Int) = (y : Int) := by unfold wrap64; omega
  rw [e3]
  generalize rvK k i b = r at *
  have hr : r < 2 ^ 62 := by omega
  have hy : y < 2 ^ 62 := by omega
  exact or_join r y (k - b) h5 h3 hr hy

end Go.Proofs.YtmgfjcepebjnfagDoor

/-! The cells of a list of ints; what is owned reads as such a list. -/
namespace Go.Proofs.YtmgfjcepebjnfagDoor
open Go.RowKit

def cellsI (xs : List Nat) : List Value := xs.map fun (x : Nat) => Value.int .i64 (x : Int)
theorem cellsI_length (xs : List Nat) : (cellsI xs).length = xs.length := by simp [cellsI]
theorem cellsI_append (xs ys : List Nat) : cellsI (xs ++ ys) = cellsI xs ++ cellsI ys := by simp [cellsI]
theorem cellsI_get (xs : List Nat) (i : Nat) (h : i < xs.length) : (cellsI xs)[i]? = some (.int .i64 ((xs.getD i 0 : Nat) : Int)) := by
  simp [cellsI, List.getD, h]
theorem cellsI_set (xs : List Nat) (j v : Nat) : (cellsI xs).set j (.int .i64 (v : Int)) = cellsI (xs.set j v) := by
  unfold cellsI
  rw [List.map_set]
theorem IsI.of_owns {w : World} {base e n : Nat} {v : Value} {xs : List Nat} (h : w.ownsRow base e 1 v n (cellsI xs)) : IsI w v xs := by
  have h0 := h
  obtain ⟨hl, hv⟩ := h
  have hn : xs.length = n := by rw [cellsI_length] at hl; omega
  subst hn
  rcases hv with ⟨rfl, h2⟩ | ⟨g, cap, cur, rfl, hg, hh, hc, hm, hs, ht⟩
  · have : xs = [] := List.eq_nil_of_length_eq_zero h2
    subst this
    exact IsI.nil w
  · refine ⟨some ⟨g, 0, none⟩, cap, rfl, hc, hm, fun i hi => ⟨g, 0, rfl, ?_⟩⟩
    have := h0.cellAt i (by omega)
    rw [Nat.zero_add, this, cellsI_get xs i hi]

theorem info_int : (Tryd.prog.info? 3).map (fun i => (i.zero, i.size, i.bytes)) = some (some (.int .i64 0), 1, 8) := by kernel_rfl

end Go.Proofs.YtmgfjcepebjnfagDoor

/-! One int is appended to a slice that the call itself made. -/
namespace Go.Proofs.YtmgfjcepebjnfagDoor
open Go.RowKit

theorem wp_appendI {ops : Array Oper} {rest : List Oper} {o : Oper} {a : Act} {Q : Exit → Act → World → Prop} {w w0 : World} (hgd : o.guard = none) (s x : Operand)
    (ho : o.op = .call { callee := .builtin .append, args := #[s, x], argTypes := #[28, 28] }) (v : Value) (n : Nat) (xs : List Value) (z : Nat)
    (hs : a.eval s = v) (hown : w.ownsRow w0.heap.size 3 1 v n xs) (hx : a.eval x = .slice (some ⟨w.heap.size, 0, none⟩) 1 1)
    (hn : n ≤ 1000000000) (hnx : Below w0.heap.size w0 w)
    (h : ∀ v' w', w'.ownsRow w0.heap.size 3 1 v' (n + 1) (xs ++ [.int .i64 (z : Int)]) → Below w0.heap.size w0 w' → wpList Tryd.prog ops Q rest (a.put o.dst v') w') :
    wpList Tryd.prog ops Q (o :: rest) a (w.alloc (.cells #[.int .i64 (z : Int)] 3)) := by
  obtain ⟨i0, hi, hz0, hz1, hz2⟩ := info_parts info_int
  have hsz := hnx.size
  refine wpList_append_own _ hgd s x 28 ho w0.heap.size 3 i0 (.int .i64 0) 1 8 Tryd.underlying28 hi hz0 hz1 hz2 rfl (by decide) v n xs hs (hown.alloc _) ⟨w.heap.size, 0, none⟩ 1 1 [.int .i64 (z : Int)] hx rfl ?_ ?_ ?_ ?_ ?_ ?_
  · intro j u hj
    match j, hj with
    | 0, hj => simp at hj; subst hj; simp [Addr.add]
  · intro u hu; simp at hu; subst hu; rfl
  · unfold maxLen; omega
  · omega
  · simp; omega
  · intro v' w' hown' hgrow _
    exact h v' w' hown' ((hnx.alloc hsz _).grown hgrow (by simp; omega) (owns_block hown))

/-- The same as a step of a region that draws its order. -/
theorem step_appendI {ops : Array Oper} {o : Oper} {a : Act} {K : Act → World → Prop} {Q : Exit → Act → World → Prop} {E : Prop} {w w0 : World} (hgd : o.guard = none) (s x : Operand)
    (ho : o.op = .call { callee := .builtin .append, args := #[s, x], argTypes := #[28, 28] }) (v : Value) (n : Nat) (xs : List Value) (z : Nat)
    (hs : a.eval s = v) (hx : a.eval x = .slice (some ⟨w.heap.size, 0, none⟩) 1 1) (hown : w.ownsRow w0.heap.size 3 1 v n xs)
    (hn : n ≤ 1000000000) (hnx : Below w0.heap.size w0 w)
    (h : ∀ v' w', w'.ownsRow w0.heap.size 3 1 v' (n + 1) (xs ++ [.int .i64 (z : Int)]) → Below w0.heap.size w0 w' → K (a.put o.dst v') w') :
    if Region.wanted o (yielded ops a.tmps) = true then Oper.wp Tryd.prog o a (w.alloc (.cells #[.int .i64 (z : Int)] 3)) K Q else E := by
  obtain ⟨i0, hi, hz0, hz1, hz2⟩ := info_parts info_int
  have hsz := hnx.size
  refine step_append_lies _ hgd s x 28 ho w0.heap.size 3 i0 (.int .i64 0) 1 8 Tryd.underlying28 hi hz0 hz1 hz2 rfl (by decide) v n xs hs (hown.alloc _) ⟨w.heap.size, 0, none⟩ 1 1 [.int .i64 (z : Int)] hx rfl ?_ ?_ (by decide) ?_ ?_ ?_ _ rfl ?_
  · intro j u hj
    match j, hj with
    | 0, hj => simp at hj; subst hj; simp [Addr.add]
  · intro u hu; simp at hu; subst hu; rfl
  · unfold maxLen; omega
  · omega
  · simp; omega
  · intro g cap w' hown' hgrow _ _
    exact h _ w' hown' ((hnx.alloc hsz _).grown hgrow (by simp; omega) (owns_block hown))

theorem wp_appendX {ops : Array Oper} {rest : List Oper} {o : Oper} {a : Act} {Q : Exit → Act → World → Prop} {w w0 : World} (hgd : o.guard = none) (s x : Operand)
    (ho : o.op = .call { callee := .builtin .append, args := #[s, x], argTypes := #[28, 28] }) (v : Value) (n : Nat) (xs : List Value) (z : Nat)
    (hs : a.eval s = v) (hown : w.ownsRow w0.heap.size 3 1 v n xs) (hx : a.eval x = .slice (some ⟨w.heap.size, 0, none⟩) 1 1)
    (hn : n ≤ 1000000) (hnx : Below w0.heap.size w0 w)
    (h : ∀ g cap w', w'.ownsRow w0.heap.size 3 1 (.slice (some ⟨g, 0, none⟩) (n + 1) cap) (n + 1) (xs ++ [.int .i64 (z : Int)]) → Below w0.heap.size w0 w' → (∀ b, b < w.heap.size → v.ownBlock ≠ some b → w'.heap[b]? = w.heap[b]?) → Hid (v.ownBlock = some g ∨ w.heap.size < g) → g < w'.heap.size → w.heap.size ≤ w'.heap.size → wpList Tryd.prog ops Q rest (a.put o.dst (.slice (some ⟨g, 0, none⟩) (n + 1) cap)) w') :
    wpList Tryd.prog ops Q (o :: rest) a (w.alloc (.cells #[.int .i64 (z : Int)] 3)) := by
  obtain ⟨i0, hi, hz0, hz1, hz2⟩ := info_parts info_int
  have hsz := hnx.size
  refine wpList_append_lies _ hgd s x 28 ho w0.heap.size 3 i0 (.int .i64 0) 1 8 Tryd.underlying28 hi hz0 hz1 hz2 rfl (by decide) v n xs hs (hown.alloc _) ⟨w.heap.size, 0, none⟩ 1 1 [.int .i64 (z : Int)] hx rfl ?_ ?_ (by decide) ?_ ?_ ?_ _ rfl ?_
  · intro j u hj
    match j, hj with
    | 0, hj => simp at hj; subst hj; simp [Addr.add]
  · intro u hu; simp at hu; subst hu; rfl
  · unfold maxLen; omega
  · omega
  · simp; omega
  · intro g cap w' hown' hgrow hat hlt
    have hal : (w.alloc (.cells #[.int .i64 (z : Int)] 3)).heap.size = w.heap.size + 1 := by simp
    refine h g cap w' hown' ((hnx.alloc hsz _).grown hgrow (by simp; omega) (owns_block hown)) (fun b hb hne => ?_) ?_ hlt ?_
    · rw [hgrow.block b (by rw [hal]; omega) (fun e => hne e.symm)]
      exact Below.heap_alloc _ _ _ hb
    · rcases hat with h1 | h1
      · exact .inl h1
      · exact .inr (by rw [h1, hal]; omega)
    · have := hgrow.size
      omega

theorem info_ints : (Tryd.prog.info? 28).map (fun i => (i.zero, i.size, i.bytes)) = some (some (.slice none 0 0), 1, 24) := by kernel_rfl

theorem wp_appendS {ops : Array Oper} {rest : List Oper} {o : Oper} {a : Act} {Q : Exit → Act → World → Prop} {w w0 : World} (hgd : o.guard = none) (s x : Operand)
    (ho : o.op = .call { callee := .builtin .append, args := #[s, x], argTypes := #[90, 90] }) (v : Value) (n : Nat) (xs : List Value) (p : Option Addr) (l c : Nat)
    (hs : a.eval s = v) (hown : w.ownsRow w0.heap.size 28 1 v n xs) (hx : a.eval x = .slice (some ⟨w.heap.size, 0, none⟩) 1 1)
    (hn : n ≤ 1000000) (hnx : Below w0.heap.size w0 w)
    (h : ∀ g cap w', w'.ownsRow w0.heap.size 28 1 (.slice (some ⟨g, 0, none⟩) (n + 1) cap) (n + 1) (xs ++ [.slice p l c]) → Below w0.heap.size w0 w' → (∀ b, b < w.heap.size → v.ownBlock ≠ some b → w'.heap[b]? = w.heap[b]?) → Hid (v.ownBlock = some g ∨ w.heap.size < g) → g < w'.heap.size → w.heap.size ≤ w'.heap.size → wpList Tryd.prog ops Q rest (a.put o.dst (.slice (some ⟨g, 0, none⟩) (n + 1) cap)) w') :
    wpList Tryd.prog ops Q (o :: rest) a (w.alloc (.cells #[.slice p l c] 28)) := by
  obtain ⟨i0, hi, hz0, hz1, hz2⟩ := info_parts info_ints
  have hsz := hnx.size
  refine wpList_append_lies _ hgd s x 90 ho w0.heap.size 28 i0 (.slice none 0 0) 1 24 Tryd.underlying90 hi hz0 hz1 hz2 rfl (by decide) v n xs hs (hown.alloc _) ⟨w.heap.size, 0, none⟩ 1 1 [.slice p l c] hx rfl ?_ ?_ (by decide) ?_ ?_ ?_ _ rfl ?_
  · intro j u hj
    match j, hj with
    | 0, hj => simp at hj; subst hj; simp [Addr.add]
  · intro u hu; simp at hu; subst hu; rfl
  · unfold maxLen; omega
  · omega
  · simp; omega
  · intro g cap w' hown' hgrow hat hlt
    have hal : (w.alloc (.cells #[.slice p l c] 28)).heap.size = w.heap.size + 1 := by simp
    refine h g cap w' hown' ((hnx.alloc hsz _).grown hgrow (by simp; omega) (owns_block hown)) (fun b hb hne => ?_) ?_ hlt ?_
    · rw [hgrow.block b (by rw [hal]; omega) (fun e => hne e.symm)]
      exact Below.heap_alloc _ _ _ hb
    · rcases hat with h1 | h1
      · exact .inl h1
      · exact .inr (by rw [h1, hal]; omega)
    · have := hgrow.size
      omega

end Go.Proofs.YtmgfjcepebjnfagDoor

/-! What Places and Place of package goldref answer: the places of a number of an array, and back. -/
namespace Go.Proofs.YtmgfjcepebjnfagDoor
open Go.RowKit

/-- How many numbers one step of axis i goes over; of the axes up to j. -/
def und (ds : List Nat) (i : Nat) : Nat := prd2 (ds.drop (i + 1))
def undK (ds : List Nat) (i j : Nat) : Nat := prd2 ((ds.drop (i + 1)).take (j - (i + 1)))
/-- The places of number k. -/
def plc (ds : List Nat) (k i : Nat) : Nat := k / und ds i % ds.getD i 0
def plcs (ds : List Nat) (k n : Nat) : List Nat := (List.range n).map (plc ds k)
theorem plcs_length (ds : List Nat) (k n : Nat) : (plcs ds k n).length = n := by simp [plcs]
theorem plcs_succ (ds : List Nat) (k n : Nat) : plcs ds k (n + 1) = plcs ds k n ++ [plc ds k n] := by
  simp [plcs, List.range_succ]
theorem undK_start (ds : List Nat) (i : Nat) : undK ds i (i + 1) = 1 := by simp [undK, prd2]
theorem undK_step (ds : List Nat) (i j : Nat) (h1 : i + 1 ≤ j) (h2 : j < ds.length) : undK ds i (j + 1) = undK ds i j * ds.getD j 0 := by
  unfold undK
  rw [show j + 1 - (i + 1) = j - (i + 1) + 1 by omega, prd2_take _ _ (by rw [List.length_drop]; omega)]
  congr 1
  simp [List.getD, List.getElem?_drop, show i + 1 + (j - (i + 1)) = j by omega]
theorem undK_end (ds : List Nat) (i : Nat) : undK ds i ds.length = und ds i := by
  unfold undK und
  rw [List.take_of_length_le (by rw [List.length_drop]; omega)]
theorem undK_le {ds : List Nat} (hp : ∀ d ∈ ds, 0 < d) (i j : Nat) : undK ds i j ≤ prd2 ds := by
  unfold undK
  refine Nat.le_trans (prd2_take_le (fun d hd => hp d (List.mem_of_mem_drop hd)) _) ?_
  rw [prd2_split ds (i + 1)]
  exact Nat.le_mul_of_pos_left _ (prd2_pos fun d hd => hp d (List.mem_of_mem_take hd))
theorem undK_pos {ds : List Nat} (hp : ∀ d ∈ ds, 0 < d) (i j : Nat) : 0 < undK ds i j :=
  prd2_pos fun d hd => hp d (List.mem_of_mem_drop (List.mem_of_mem_take hd))

def rowP (ds : List Nat) (k n : Nat) : List Value := cellsI (plcs ds k n)
theorem rowP_succ (ds : List Nat) (k n : Nat) : rowP ds k (n + 1) = rowP ds k n ++ [.int .i64 ((plc ds k n : Nat) : Int)] := by
  unfold rowP; rw [plcs_succ, cellsI_append]; rfl


/-- The number at places p, the first n axes. -/
def plf (ds p : List Nat) : Nat → Nat
  | 0 => 0
  | n + 1 => plf ds p n * ds.getD n 0 + p.getD n 0
theorem plf_le (ds p : List Nat) (hd : ∀ i, ds.getD i 0 ≤ 1024) (hp : ∀ i, p.getD i 0 ≤ 1024) (n : Nat) : plf ds p n + 1 ≤ 1025 ^ n := by
  induction n with
  | zero => simp [plf]
  | succ n ih =>
    rw [plf, Nat.pow_succ]
    have h1 : plf ds p n * ds.getD n 0 ≤ plf ds p n * 1024 := Nat.mul_le_mul_left _ (hd n)
    have h2 := hp n
    omega
theorem drop_prd (ds : List Nat) (n : Nat) (h : n < ds.length) : prd2 (ds.drop n) = ds.getD n 0 * und ds n := by
  rw [List.drop_eq_getElem_cons h, prd2, und]
  simp [List.getD, h]
/-- The places of k make k. -/
theorem plf_plcs (ds : List Nat) (k : Nat) (hpos : ∀ d ∈ ds, 0 < d) (hk : k < prd2 ds) (n : Nat) (hn : n ≤ ds.length) : plf ds (plcs ds k ds.length) n = k / prd2 (ds.drop n) := by
  induction n with
  | zero => rw [plf, List.drop_zero, Nat.div_eq_of_lt hk]
  | succ n ih =>
    have hu : 0 < und ds n := prd2_pos fun d hd => hpos d (List.mem_of_mem_drop hd)
    rw [plf, ih (by omega), drop_prd ds n (by omega), Nat.mul_comm (ds.getD n 0), ← Nat.div_div_eq_div_mul]
    have e : (plcs ds k ds.length).getD n 0 = k / und ds n % ds.getD n 0 := by simp [plcs, List.getD, show n < ds.length by omega, plc]
    rw [e]
    show _ = k / und ds n
    rw [Nat.mul_comm]
    exact Nat.div_add_mod _ _
theorem plf_set (ds : List Nat) (k : Nat) (hpos : ∀ d ∈ ds, 0 < d) (hk : k < prd2 ds) (x t : Nat) (hx : x < ds.length) (h0 : plc ds k x = 0) (n : Nat) (hn : n ≤ ds.length) :
    plf ds ((plcs ds k ds.length).set x t) n = k / prd2 (ds.drop n) + (if x < n then t * undK ds x n else 0) := by
  induction n with
  | zero => rw [plf, List.drop_zero, Nat.div_eq_of_lt hk, if_neg (by omega)]
  | succ n ih =>
    have ih' := ih (by omega)
    have hs := plf_plcs ds k hpos hk (n + 1) hn
    have hs0 := plf_plcs ds k hpos hk n (by omega)
    rw [plf, hs0] at hs
    rw [plf, ih']
    by_cases e : n = x
    · subst e
      have e1 : ((plcs ds k ds.length).set n t).getD n 0 = t := by simp [List.getD, plcs_length, hx]
      have e2 : (plcs ds k ds.length).getD n 0 = 0 := by simp [plcs, List.getD, hx, h0]
      rw [e2] at hs
      rw [e1, if_neg (by omega), if_pos (by omega), undK_start, Nat.add_zero, Nat.mul_one, ← hs, Nat.add_zero]
    · have e1 : ((plcs ds k ds.length).set x t).getD n 0 = (plcs ds k ds.length).getD n 0 := by simp [List.getD, Ne.symm e]
      rw [e1]
      by_cases h1 : x < n
      · rw [if_pos h1, if_pos (by omega), undK_step ds x n (by omega) (by omega), ← hs, Nat.add_mul, Nat.mul_assoc]
        omega
      · rw [if_neg h1, if_neg (by omega), Nat.add_zero, Nat.add_zero]; exact hs
/-- Along axis x from number k on, whose place there is 0. -/
theorem plf_line (ds : List Nat) (k : Nat) (hpos : ∀ d ∈ ds, 0 < d) (hk : k < prd2 ds) (x t : Nat) (hx : x < ds.length) (h0 : plc ds k x = 0) : plf ds ((plcs ds k ds.length).set x t) ds.length = k + t * und ds x := by
  rw [plf_set ds k hpos hk x t hx h0 _ (Nat.le_refl _), if_pos hx, undK_end, List.drop_length, prd2, Nat.div_one]


end Go.Proofs.YtmgfjcepebjnfagDoor

/-! What Lines of package goldref answers: the lines of an axis. -/
namespace Go.Proofs.YtmgfjcepebjnfagDoor
open Go.RowKit

/-- A slice of slices of ints reads as a list of lists. -/
def IsL (w : World) (v : Value) (L : List (List Nat)) : Prop :=
  ∃ (a : Option Addr) (cap : Nat), v = .slice a L.length cap ∧ L.length ≤ cap ∧ cap ≤ maxLen ∧
    (∀ i, i < L.length → ∃ b off u, a = some ⟨b, off, none⟩ ∧ w.cell? ⟨b, off + i, none⟩ = some u ∧ IsI w u (L.getD i []))
theorem IsL.below {w w' : World} {v : Value} {L : List (List Nat)} (h : IsL w v L) (hb : Below w.heap.size w w') : IsL w' v L := by
  obtain ⟨a, cap, rfl, h1, h2, hc⟩ := h
  refine ⟨a, cap, rfl, h1, h2, fun i hi => ?_⟩
  obtain ⟨b, off, u, rfl, hcell, hI⟩ := hc i hi
  exact ⟨b, off, u, rfl, (hb.cell (block_lt hcell)).trans hcell, hI.below hb⟩
theorem IsL.nil (w : World) : IsL w (.slice none 0 0) [] :=
  ⟨none, 0, rfl, by simp, by simp [maxLen], fun i hi => by simp at hi⟩
/-- A line of axis x, from number k on: the first n numbers. -/
def lin (ds : List Nat) (x k n : Nat) : List Nat := (List.range n).map fun t => k + t * und ds x
theorem lin_length (ds : List Nat) (x k n : Nat) : (lin ds x k n).length = n := by simp [lin]
theorem lin_succ (ds : List Nat) (x k n : Nat) : lin ds x k (n + 1) = lin ds x k n ++ [k + n * und ds x] := by simp [lin, List.range_succ]
/-- The lines that begin ahead of number k. -/
def lns (ds : List Nat) (x : Nat) : Nat → List (List Nat)
  | 0 => []
  | k + 1 => if plc ds k x = 0 then lns ds x k ++ [lin ds x k (ds.getD x 0)] else lns ds x k
theorem lns_le (ds : List Nat) (x k : Nat) : (lns ds x k).length ≤ k := by
  induction k with
  | zero => simp [lns]
  | succ k ih => rw [lns]; split
                 · rw [List.length_append]; simp; omega
                 · omega

theorem Good_unique {zs : List Int} {ds ds' : List Nat} (h : Good zs ds) (h' : Good zs ds') : ds' = ds := by
  have e := h.2.2.1.symm.trans h'.2.2.1
  have e2 := congrArg (List.map Int.toNat) e
  rw [List.map_map, List.map_map] at e2
  have hid : (Int.toNat ∘ fun (d : Nat) => (d : Int)) = id := funext fun d => by simp
  rw [hid, List.map_id, List.map_id] at e2
  exact e2.symm
theorem ref_Shape_ok (w : World) (v : Value) (zs : List Int) (ds : List Nat) (h : IsZ w v zs) (hG : Good zs ds) (hn : prd2 ds ≤ 1024) :
    Calls Tryd.prog 67 #[v] w fun e w' => e = .returned (.tuple #[.int .i64 ((prd2 ds : Nat) : Int), .int .i64 0]) ∧ w' = w := by
  refine (ref_Shape w v zs h).mono ?_
  rintro e w' ⟨rfl, ⟨ds', hG', _, rfl⟩ | ⟨ds', hG', hb, _⟩ | ⟨hno, _⟩⟩
  · rw [Good_unique hG hG']; exact ⟨rfl, rfl⟩
  · rw [Good_unique hG hG'] at hb; omega
  · exact absurd hG (hno ds)

theorem below_dr {w w' : World} (h : ∃ m, w' = w.drewN m) (B : Nat) : Below B w w' := by
  obtain ⟨m, rfl⟩ := h
  exact below_drewN (Below.refl _ _) m
theorem IsI.block {w w' : World} {g l c : Nat} {xs : List Nat} (h : IsI w (.slice (some ⟨g, 0, none⟩) l c) xs) (e : w'.heap[g]? = w.heap[g]?) : IsI w' (.slice (some ⟨g, 0, none⟩) l c) xs := by
  obtain ⟨a, cap, hv, h1, h2, hc⟩ := h
  refine ⟨a, cap, hv, h1, h2, fun i hi => ?_⟩
  obtain ⟨b, off, rfl, hcell⟩ := hc i hi
  simp only [Value.slice.injEq, Option.some.injEq, Addr.mk.injEq, and_true] at hv
  obtain ⟨⟨rfl, rfl⟩, _⟩ := hv
  exact ⟨g, 0, rfl, (World.cell?_of_block (w := w) e).trans hcell⟩
/-- The slices vs, that lie in blocks from B on other than the one of u, read as the lists L. -/
def Inn (B : Nat) (w : World) (u : Value) (vs : List Value) (L : List (List Nat)) : Prop :=
  vs.length = L.length ∧ ∀ i, i < L.length → ∃ g cap, vs[i]? = some (.slice (some ⟨g, 0, none⟩) (L.getD i []).length cap) ∧ u.ownBlock ≠ some g ∧ g < w.heap.size ∧ B ≤ g ∧ IsI w (.slice (some ⟨g, 0, none⟩) (L.getD i []).length cap) (L.getD i [])
theorem Inn_nil (B : Nat) (w : World) (u : Value) : Inn B w u [] [] := ⟨rfl, fun i hi => by simp at hi⟩
theorem Inn.below {B : Nat} {w w' : World} {u : Value} {vs : List Value} {L : List (List Nat)} (h : Inn B w u vs L) (hb : Below w.heap.size w w') : Inn B w' u vs L := by
  refine ⟨h.1, fun i hi => ?_⟩
  obtain ⟨g, cap, h1, h2, h3, hB, h4⟩ := h.2 i hi
  exact ⟨g, cap, h1, h2, Nat.lt_of_lt_of_le h3 hb.size, hB, h4.below hb⟩
theorem Inn.grow {B : Nat} {w w' : World} {u u' : Value} {vs : List Value} {L : List (List Nat)} {g gl cap n c : Nat} {ls : List Nat} (h : Inn B w u vs L) (hu' : u' = .slice (some ⟨g, 0, none⟩) n c)
    (hk : ∀ b, b < w.heap.size → u.ownBlock ≠ some b → w'.heap[b]? = w.heap[b]?) (hat : u.ownBlock = some g ∨ w.heap.size < g) (hsz : w.heap.size ≤ w'.heap.size)
    (hl : IsI w (.slice (some ⟨gl, 0, none⟩) ls.length cap) ls) (hgl : gl < w.heap.size) (hBl : B ≤ gl) (hne : u.ownBlock ≠ some gl) : Inn B w' u' (vs ++ [.slice (some ⟨gl, 0, none⟩) ls.length cap]) (L ++ [ls]) := by
  have hap : ∀ b, b < w.heap.size → u.ownBlock ≠ some b → u'.ownBlock ≠ some b := by
    intro b hb hn e
    rw [hu'] at e
    simp only [Value.ownBlock, Option.some.injEq] at e
    subst e
    rcases hat with h1 | h1
    · exact hn h1
    · omega
  refine ⟨by simp [h.1], fun i hi => ?_⟩
  rw [List.length_append] at hi
  by_cases e : i < L.length
  · obtain ⟨b, c', h1, h2, h3, hB, h4⟩ := h.2 i e
    have e1 : (L ++ [ls]).getD i [] = L.getD i [] := by simp [List.getD, List.getElem?_append_left e]
    rw [e1]
    exact ⟨b, c', by rw [List.getElem?_append_left (by rw [h.1]; exact e)]; exact h1, hap b h3 h2, by omega, hB, h4.block (hk b h3 h2)⟩
  · have e2 : i = L.length := by simp at hi; omega
    subst e2
    have e1 : (L ++ [ls]).getD L.length [] = ls := by simp [List.getD]
    rw [e1]
    exact ⟨gl, cap, by rw [← h.1]; simp, hap gl hgl hne, by omega, hBl, hl.block (hk gl hgl hne)⟩
/-- A slice of slices of ints that lie in blocks from B on. -/
def IsLF (B : Nat) (w : World) (v : Value) (L : List (List Nat)) : Prop :=
  ∃ (a : Option Addr) (cap : Nat), v = .slice a L.length cap ∧ L.length ≤ cap ∧ cap ≤ maxLen ∧
    (∀ i, i < L.length → ∃ b off gl cl, a = some ⟨b, off, none⟩ ∧ B ≤ b ∧ B ≤ gl ∧ w.cell? ⟨b, off + i, none⟩ = some (.slice (some ⟨gl, 0, none⟩) (L.getD i []).length cl) ∧ IsI w (.slice (some ⟨gl, 0, none⟩) (L.getD i []).length cl) (L.getD i []))
theorem IsLF.isL {B : Nat} {w : World} {v : Value} {L : List (List Nat)} (h : IsLF B w v L) : IsL w v L := by
  obtain ⟨a, cap, rfl, h1, h2, hc⟩ := h
  refine ⟨a, cap, rfl, h1, h2, fun i hi => ?_⟩
  obtain ⟨b, off, gl, cl, rfl, _, _, hcell, hI⟩ := hc i hi
  exact ⟨b, off, _, rfl, hcell, hI⟩
theorem IsLF_of {w : World} {base n : Nat} {u : Value} {vs : List Value} {L : List (List Nat)} (h : w.ownsRow base 28 1 u n vs) (hi : Inn base w u vs L) : IsLF base w u L := by
  have h0 := h
  obtain ⟨hl, hv⟩ := h
  have hn : L.length = n := by rw [← hi.1, hl]; omega
  subst hn
  rcases hv with ⟨rfl, h2⟩ | ⟨g, cap, cur, rfl, hg, hh, hc, hm, hs, ht⟩
  · have : L = [] := List.eq_nil_of_length_eq_zero h2
    subst this
    exact ⟨none, 0, rfl, by simp, by simp [maxLen], fun i hi => by simp at hi⟩
  · refine ⟨some ⟨g, 0, none⟩, cap, rfl, hc, hm, fun i hil => ?_⟩
    obtain ⟨b, c', h1, h2, h3, hB, h4⟩ := hi.2 i hil
    refine ⟨g, 0, b, c', rfl, hg, hB, ?_, h4⟩
    rw [Nat.zero_add, h0.cellAt i (by omega), h1]
theorem owns_same {w w' : World} {base e size n g c : Nat} {xs : List Value} (h : w.ownsRow base e size (.slice (some ⟨g, 0, none⟩) n c) n xs) (e' : w'.heap[g]? = w.heap[g]?) : w'.ownsRow base e size (.slice (some ⟨g, 0, none⟩) n c) n xs := by
  refine ⟨h.1, ?_⟩
  rcases h.2 with h2 | ⟨g', cap, cur, hv, hg, hh, r⟩
  · exact Or.inl h2
  · have hv0 := hv
    simp only [Value.slice.injEq, Option.some.injEq, Addr.mk.injEq, and_true, true_and] at hv0
    obtain ⟨rfl, rfl⟩ := hv0
    exact Or.inr ⟨g, c, cur, rfl, hg, e'.trans hh, r⟩
theorem own_lt {w : World} {base e size n b : Nat} {v : Value} {xs : List Value} (h : w.ownsRow base e size v n xs) (hb : v.ownBlock = some b) : b < w.heap.size := by
  rcases h.2 with ⟨rfl, _⟩ | ⟨g, cap, cur, rfl, hg, hh, _⟩
  · simp [Value.ownBlock] at hb
  · simp only [Value.ownBlock, Option.some.injEq] at hb
    subst hb
    obtain ⟨hlt, _⟩ := Array.getElem?_eq_some_iff.1 hh
    exact hlt


end Go.Proofs.YtmgfjcepebjnfagDoor

/-! The lines of an axis by their numbers; an array some of whose lines are transformed. -/
namespace Go.Proofs.YtmgfjcepebjnfagDoor

/-- Number k of line i; the line of number p. -/
def ps (u d i k : Nat) : Nat := i / u * (u * d) + i % u + k * u
def lnO (u d p : Nat) : Nat := p / (u * d) * u + p % u
theorem ps_low {u d i k : Nat} (hu : 0 < u) (hk : k < d) : k * u + i % u < u * d := low_lt hk (Nat.mod_lt _ hu)
theorem ps_eq (u d i k : Nat) : ps u d i k = i / u * (u * d) + (k * u + i % u) := by unfold ps; omega
theorem ps_div {u d i k : Nat} (hu : 0 < u) (hk : k < d) : ps u d i k / (u * d) = i / u := by
  rw [ps_eq]; exact div_of (ps_low hu hk)
theorem ps_mod {u d i k : Nat} (hu : 0 < u) : ps u d i k % u = i % u := by
  unfold ps
  have e : i / u * (u * d) + i % u + k * u = (i / u * d + k) * u + i % u := by grind
  rw [e]; exact mod_of (Nat.mod_lt _ hu)
theorem ps_dg {u d i k : Nat} (hu : 0 < u) (hk : k < d) : dg u d (ps u d i k) = k := by
  unfold dg ps
  have e : i / u * (u * d) + i % u + k * u = (i / u * d + k) * u + i % u := by grind
  rw [e, div_of (Nat.mod_lt _ hu)]
  exact mod_of hk
theorem ps_ln {u d i k : Nat} (hu : 0 < u) (hk : k < d) : lnO u d (ps u d i k) = i := by
  unfold lnO
  rw [ps_div hu hk, ps_mod hu, Nat.mul_comm, Nat.div_add_mod]
theorem ps_st {u d i k : Nat} (hu : 0 < u) (hk : k < d) (s : Nat) : st u d (ps u d i k) s = ps u d i s := by
  unfold st
  rw [ps_div hu hk, ps_mod hu]
  unfold ps; omega
theorem ps_of {u d : Nat} (hu : 0 < u) (p : Nat) : ps u d (lnO u d p) (dg u d p) = p := by
  have h1 : lnO u d p / u = p / (u * d) := div_of (Nat.mod_lt _ hu)
  have h2 : lnO u d p % u = p % u := mod_of (Nat.mod_lt _ hu)
  unfold ps
  rw [h1, h2]
  have := st_self u d p
  unfold st at this
  omega
theorem ps_lt {u d m i k : Nat} (hu : 0 < u) (hi : i < u * m) (hk : k < d) : ps u d i k < u * d * m := by
  rw [ps_eq]
  have h1 : i / u < m := Nat.div_lt_of_lt_mul hi
  have h2 : (i / u + 1) * (u * d) ≤ m * (u * d) := Nat.mul_le_mul_right _ h1
  have h3 := ps_low (i := i) hu hk
  rw [Nat.add_mul, Nat.one_mul, Nat.mul_comm m] at h2
  omega
theorem ln_lt {u d m p : Nat} (hu : 0 < u) (hp : p < u * d * m) : lnO u d p < u * m := by
  unfold lnO
  have h1 : p / (u * d) < m := Nat.div_lt_of_lt_mul hp
  have h2 : (p / (u * d) + 1) * u ≤ m * u := Nat.mul_le_mul_right _ h1
  have h3 := Nat.mod_lt p hu
  rw [Nat.add_mul, Nat.one_mul, Nat.mul_comm m] at h2
  omega

/-- How many lines begin ahead of number k. -/
def cnL (u d k : Nat) : Nat := k / (u * d) * u + min (k % (u * d)) u
theorem cnL_step {u d : Nat} (hu : 0 < u) (hd : 0 < d) (k : Nat) : (dg u d k = 0 → cnL u d (k + 1) = cnL u d k + 1 ∧ ps u d (cnL u d k) 0 = k) ∧ (dg u d k ≠ 0 → cnL u d (k + 1) = cnL u d k) := by
  have hD : 0 < u * d := Nat.mul_pos hu hd
  have hle : u ≤ u * d := Nat.le_mul_of_pos_right _ hd
  obtain ⟨q, r, hr, rfl⟩ : ∃ q r, r < u * d ∧ k = q * (u * d) + r := ⟨k / (u * d), k % (u * d), Nat.mod_lt _ hD, by rw [Nat.mul_comm, Nat.div_add_mod]⟩
  have hdg : dg u d (q * (u * d) + r) = r / u := by
    unfold dg
    have e : q * (u * d) + r = u * (d * q) + r := by grind
    rw [e, Nat.mul_add_div hu, Nat.mul_add_mod, Nat.mod_eq_of_lt (Nat.div_lt_of_lt_mul hr)]
  have hc : cnL u d (q * (u * d) + r) = q * u + min r u := by
    unfold cnL; rw [div_of hr, mod_of hr]
  have hc1 : cnL u d (q * (u * d) + r + 1) = if r + 1 < u * d then q * u + min (r + 1) u else (q + 1) * u := by
    unfold cnL
    by_cases h : r + 1 < u * d
    · rw [if_pos h, Nat.add_assoc, div_of h, mod_of h]
    · have e : q * (u * d) + r + 1 = (q + 1) * (u * d) + 0 := by rw [Nat.add_mul, Nat.one_mul]; omega
      rw [if_neg h, e, div_of hD, mod_of hD, Nat.zero_min, Nat.add_zero]
  rw [hdg, hc1, hc]
  refine ⟨fun h0 => ?_, fun h0 => ?_⟩
  · have hru : r < u := by
      rcases Nat.lt_or_ge r u with h | h
      · exact h
      · have := Nat.div_pos h hu; omega
    rw [show min r u = r from Nat.min_eq_left (by omega)]
    refine ⟨?_, ?_⟩
    · by_cases h : r + 1 < u * d
      · rw [if_pos h, Nat.min_eq_left (by omega)]; omega
      · rw [if_neg h, Nat.add_mul, Nat.one_mul]; omega
    · unfold ps
      rw [div_of hru, mod_of hru]; omega
  · have hru : u ≤ r := by
      rcases Nat.lt_or_ge r u with h | h
      · rw [Nat.div_eq_of_lt h] at h0; omega
      · exact h
    rw [Nat.min_eq_right hru]
    by_cases h : r + 1 < u * d
    · rw [if_pos h, Nat.min_eq_right (by omega)]
    · rw [if_neg h, Nat.add_mul, Nat.one_mul]
theorem lns_eqK {ds : List Nat} (h : Shp ds) (x : Nat) (hx : x < ds.length) (k : Nat) : lns ds x k = (List.range (cnL (beh ds (x + 1)) (sz ds x) k)).map fun i => lin ds x (ps (beh ds (x + 1)) (sz ds x) i 0) (sz ds x) := by
  have hu := beh_pos h (x + 1)
  have hd := P2_pos (h.at x hx)
  induction k with
  | zero => simp [lns, cnL]
  | succ k ih =>
    have hst := cnL_step hu hd k
    rw [lns]
    by_cases h0 : plc ds k x = 0
    · rw [if_pos h0, (hst.1 h0).1, List.range_succ, List.map_append, ih]
      congr 1
      show [lin ds x k (ds.getD x 0)] = [lin ds x (ps (beh ds (x + 1)) (sz ds x) (cnL (beh ds (x + 1)) (sz ds x) k) 0) (sz ds x)]
      rw [(hst.1 h0).2]; rfl
    · rw [if_neg h0, hst.2 h0, ih]
theorem cnL_end {u d : Nat} (hu : 0 < u) (hd : 0 < d) (m : Nat) : cnL u d (u * d * m) = u * m := by
  unfold cnL
  have hD : 0 < u * d := Nat.mul_pos hu hd
  rw [Nat.mul_div_cancel_left _ hD, Nat.mul_mod_right, Nat.zero_min, Nat.add_zero, Nat.mul_comm]
/-- How many lines an axis has. -/
def nln (ds : List Nat) (x : Nat) : Nat := beh ds (x + 1) * prd2 (ds.take x)
theorem lns_eq {ds : List Nat} (h : Shp ds) (x : Nat) (hx : x < ds.length) : lns ds x (prd2 ds) = (List.range (nln ds x)).map fun i => lin ds x (ps (beh ds (x + 1)) (sz ds x) i 0) (sz ds x) := by
  rw [lns_eqK h x hx, prd2_at ds x hx, cnL_end (beh_pos h _) (P2_pos (h.at x hx))]; rfl
theorem nln_div {ds : List Nat} (h : Shp ds) (x : Nat) (hx : x < ds.length) : prd2 ds / sz ds x = nln ds x := by
  have hd := P2_pos (h.at x hx)
  rw [prd2_at ds x hx]
  unfold nln
  rw [show beh ds (x + 1) * sz ds x * prd2 (ds.take x) = sz ds x * (beh ds (x + 1) * prd2 (ds.take x)) by grind, Nat.mul_div_cancel_left _ hd]
theorem lin_ps (ds : List Nat) (x i t : Nat) (ht : t < sz ds x) : (lin ds x (ps (beh ds (x + 1)) (sz ds x) i 0) (sz ds x)).getD t 0 = ps (beh ds (x + 1)) (sz ds x) i t := by
  simp only [lin, List.getD, List.getElem?_map, List.getElem?_range ht, Option.map_some, Option.getD_some]
  unfold ps
  rw [Nat.zero_mul, Nat.add_zero]; rfl

/-- A list by its numbers. -/
def tb (n : Nat) (g : Nat → Nat) : List Nat := (List.range n).map g
theorem tb_length (n : Nat) (g : Nat → Nat) : (tb n g).length = n := by simp [tb]
theorem tb_get (n : Nat) (g : Nat → Nat) (i : Nat) (h : i < n) : (tb n g).getD i 0 = g i := by simp [tb, List.getD, h]
theorem tb_congr {n : Nat} {g h : Nat → Nat} (e : ∀ i, i < n → g i = h i) : tb n g = tb n h := by
  unfold tb
  exact List.map_congr_left fun i hi => e i (List.mem_range.mp hi)
theorem tb_self (xs : List Nat) : tb xs.length (fun p => xs.getD p 0) = xs := by
  apply List.ext_getElem
  · exact tb_length _ _
  · intro i h1 h2
    simp [tb, List.getD, h2]
theorem tb_set (n : Nat) (g : Nat → Nat) (j v : Nat) : (tb n g).set j v = tb n (fun p => if p = j then v else g p) := by
  apply List.ext_getElem
  · rw [List.length_set, tb_length, tb_length]
  · intro i h1 h2
    rw [List.getElem_set]
    rw [tb_length] at h2
    by_cases e : j = i
    · rw [if_pos e]; simp [tb, e]
    · rw [if_neg e]; simp [tb, Ne.symm e]
/-- Lines from f up to i - 1 transformed, and the first k numbers of line i. -/
def trK (ds : List Nat) (xs : List Nat) (x f : Nat) (back : Bool) (i k : Nat) : List Nat :=
  tb (prd2 ds) fun p => if f ≤ lnO (beh ds (x + 1)) (sz ds x) p ∧ (lnO (beh ds (x + 1)) (sz ds x) p < i ∨ (lnO (beh ds (x + 1)) (sz ds x) p = i ∧ dg (beh ds (x + 1)) (sz ds x) p < k)) then (alo ds x back (cf xs) p).val else xs.getD p 0
/-- Lines from f up to l - 1 transformed. -/
def trn (ds : List Nat) (xs : List Nat) (x f l : Nat) (back : Bool) : List Nat := trK ds xs x f back l 0
theorem trK_length (ds xs : List Nat) (x f : Nat) (back : Bool) (i k : Nat) : (trK ds xs x f back i k).length = prd2 ds := tb_length _ _
theorem trK_start {ds xs : List Nat} (hl : xs.length = prd2 ds) (x f : Nat) (back : Bool) : trK ds xs x f back f 0 = xs := by
  have : trK ds xs x f back f 0 = tb xs.length (fun p => xs.getD p 0) := by
    unfold trK
    rw [hl]
    exact tb_congr fun p _ => if_neg (by omega)
  rw [this, tb_self]
theorem trK_line {ds : List Nat} (h : Shp ds) (xs : List Nat) (x : Nat) (hx : x < ds.length) (f : Nat) (back : Bool) (i : Nat) : f ≤ i → trK ds xs x f back i (sz ds x) = trK ds xs x f back (i + 1) 0 := by
  intro _
  unfold trK
  refine tb_congr fun p _ => ?_
  have hd := dg_lt (u := beh ds (x + 1)) (p := p) (P2_pos (h.at x hx))
  congr 1
  simp only [eq_iff_iff]
  omega
theorem trK_set {ds : List Nat} (h : Shp ds) (xs : List Nat) (x : Nat) (f : Nat) (back : Bool) (i k : Nat) (hf : f ≤ i) (hk : k < sz ds x) :
    (trK ds xs x f back i k).set (ps (beh ds (x + 1)) (sz ds x) i k) (alo ds x back (cf xs) (ps (beh ds (x + 1)) (sz ds x) i k)).val = trK ds xs x f back i (k + 1) := by
  have hu := beh_pos h (x + 1)
  unfold trK
  rw [tb_set]
  refine tb_congr fun p _ => ?_
  by_cases e : p = ps (beh ds (x + 1)) (sz ds x) i k
  · rw [if_pos e, e, ps_ln hu hk, ps_dg hu hk, if_pos (by omega)]
  · rw [if_neg e]
    have hne : ¬ (lnO (beh ds (x + 1)) (sz ds x) p = i ∧ dg (beh ds (x + 1)) (sz ds x) p = k) := fun ⟨h1, h2⟩ => by
      apply e
      rw [← ps_of hu p, h1, h2]
    congr 1
    simp only [eq_iff_iff]
    omega
/-- Number k of a line's transform is number k of that line of the array's. -/
theorem alo_line {ds : List Nat} (h : Shp ds) (xs : List Nat) (x : Nat) (back : Bool) (i k kk : Nat) (hk : k < sz ds x) (hkk : sz ds x = 2 ^ kk) (ys : List Nat) (hy : ∀ t, t < sz ds x → ys.getD t 0 = xs.getD (ps (beh ds (x + 1)) (sz ds x) i t) 0) :
    alo ds x back (cf xs) (ps (beh ds (x + 1)) (sz ds x) i k) = (if back then bw ys kk k else fw ys kk k) := by
  have hu := beh_pos h (x + 1)
  have hlg : Nat.log2 (sz ds x) = kk := by rw [hkk]; exact Nat.log2_two_pow
  unfold alo ax
  have e : dft (axW back (sz ds x)) (sz ds x) (fun s => cf xs (st (beh ds (x + 1)) (sz ds x) (ps (beh ds (x + 1)) (sz ds x) i k) s)) (dg (beh ds (x + 1)) (sz ds x) (ps (beh ds (x + 1)) (sz ds x) i k)) = dft (axW back (sz ds x)) (2 ^ kk) (cf ys) k := by
    rw [ps_dg hu hk, ← hkk]
    refine dft_congr (fun s hs => ?_) k
    rw [ps_st hu hk]
    unfold cf
    rw [hy s hs]
  rw [e]
  cases back
  · show 1 * dft (toF (rt (Nat.log2 (sz ds x)))) (2 ^ kk) (cf ys) k = fw ys kk k
    rw [hlg]; unfold fw; grind
  · show inv (toF (sz ds x)) * dft (inv (toF (rt (Nat.log2 (sz ds x))))) (2 ^ kk) (cf ys) k = bw ys kk k
    rw [hlg, hkk]; rfl
theorem trn_all {ds : List Nat} (h : Shp ds) (xs : List Nat) (x : Nat) (hx : x < ds.length) (back : Bool) : trn ds xs x 0 (nln ds x) back = mk (prd2 ds) (alo ds x back (cf xs)) := by
  unfold trn trK tb mk
  refine List.map_congr_left fun p hp => ?_
  have := List.mem_range.mp hp
  rw [prd2_at ds x hx] at this
  have h1 := ln_lt (beh_pos h (x + 1)) this
  rw [if_pos]
  unfold nln
  omega

end Go.Proofs.YtmgfjcepebjnfagDoor

/-! Tasks and phases that are right; lines transformed in whatever order; no program in sight. -/
namespace Go.Proofs.YtmgfjcepebjnfagDoor

/-- A right task of an axis of n lines; how often a line is met. -/
def Vld (n x : Nat) (r : List Int) : Prop := r.getD 0 0 = (x : Int) ∧ 0 ≤ r.getD 1 0 ∧ r.getD 2 0 ≤ (n : Int) ∧ r.getD 1 0 < r.getD 2 0
def hit (r : List Int) (k : Nat) : Nat := if r.getD 1 0 ≤ (k : Int) ∧ (k : Int) < r.getD 2 0 then 1 else 0
def hits (T : List (List Int)) (k : Nat) : Nat := (T.map fun r => hit r k).sum
def RgtP (n x : Nat) (T : List (List Int)) : Prop := (∀ r ∈ T, Vld n x r) ∧ ∀ k, k < n → hits T k = 1
def Fine (ds : List Nat) (L : List (List (List Int))) : Prop := L.length = ds.length ∧ ∀ y, y < ds.length → RgtP (nln ds y) y (L.getD y [])
def BigP (L : List (List (List Int))) (x : Nat) : Prop := ∃ y, y < x ∧ 64 < (L.getD y []).length
theorem hits_succ (T : List (List Int)) (i k : Nat) (hi : i < T.length) : hits (T.take (i + 1)) k = hits (T.take i) k + hit (T.getD i []) k := by
  unfold hits
  rw [List.take_add_one, List.getElem?_eq_getElem hi, List.map_append, List.sum_append]
  simp [List.getD, List.getElem?_eq_getElem hi]
theorem hits_le (T : List (List Int)) (k : Nat) : hits T k ≤ T.length := by
  induction T with
  | nil => simp [hits]
  | cons r T ih =>
    have h1 : hit r k ≤ 1 := by unfold hit; split <;> omega
    simp only [hits, List.map_cons, List.sum_cons, List.length_cons] at ih ⊢
    omega
theorem valid_succ {n x : Nat} {T : List (List Int)} {i : Nat} (hi : i < T.length) (h : ∀ r ∈ T.take i, Vld n x r) (h1 : Vld n x (T.getD i [])) : ∀ r ∈ T.take (i + 1), Vld n x r := by
  intro r hr
  rw [List.take_add_one, List.getElem?_eq_getElem hi] at hr
  rcases List.mem_append.mp hr with h2 | h2
  · exact h r h2
  · simp only [Option.toList_some, List.mem_singleton] at h2
    rw [h2]
    simpa [List.getD, List.getElem?_eq_getElem hi] using h1
theorem getD_mem {T : List (List Int)} {i : Nat} (hi : i < T.length) : T.getD i [] ∈ T := by
  rw [List.getD, List.getElem?_eq_getElem hi]
  exact List.getElem_mem hi
/-- Those lines of axis x transformed of which D says so. -/
def trS (ds xs : List Nat) (x : Nat) (back : Bool) (D : Nat → Bool) : List Nat :=
  tb (prd2 ds) fun p => if D (lnO (beh ds (x + 1)) (sz ds x) p) = true then (alo ds x back (cf xs) p).val else xs.getD p 0
theorem trS_length (ds xs : List Nat) (x : Nat) (back : Bool) (D : Nat → Bool) : (trS ds xs x back D).length = prd2 ds := tb_length _ _
theorem trS_none {ds xs : List Nat} (hl : xs.length = prd2 ds) (x : Nat) (back : Bool) : trS ds xs x back (fun _ => false) = xs := by
  have : trS ds xs x back (fun _ => false) = tb xs.length (fun p => xs.getD p 0) := by
    unfold trS; rw [hl]
    exact tb_congr fun p _ => if_neg (by simp)
  rw [this, tb_self]
/-- A number of a line hangs on that line alone. -/
theorem alo_same {ds : List Nat} (h : Shp ds) (x : Nat) (hx : x < ds.length) (b : Bool) {f g : Nat → F} (p : Nat) (hp : p < prd2 ds)
    (hfg : ∀ q, q < prd2 ds → lnO (beh ds (x + 1)) (sz ds x) q = lnO (beh ds (x + 1)) (sz ds x) p → f q = g q) : alo ds x b f p = alo ds x b g p := by
  have hu := beh_pos h (x + 1)
  have hd := P2_pos (h.at x hx)
  have hk := dg_lt (u := beh ds (x + 1)) (p := p) hd
  unfold alo ax
  congr 1
  refine dft_congr (fun s hs => ?_) _
  have e : st (beh ds (x + 1)) (sz ds x) p s = ps (beh ds (x + 1)) (sz ds x) (lnO (beh ds (x + 1)) (sz ds x) p) s := by
    have := ps_st (i := lnO (beh ds (x + 1)) (sz ds x) p) hu hk s
    rw [ps_of hu p] at this
    exact this
  rw [e]
  refine hfg _ ?_ (ps_ln hu hs)
  have hln : lnO (beh ds (x + 1)) (sz ds x) p < beh ds (x + 1) * prd2 (ds.take x) := by
    rw [prd2_at ds x hx] at hp
    exact ln_lt hu hp
  rw [prd2_at ds x hx]
  exact ps_lt hu hln hs
theorem trS_step {ds : List Nat} (h : Shp ds) (xs : List Nat) (x : Nat) (hx : x < ds.length) (back : Bool) (D : Nat → Bool) (f l : Nat) (hD : ∀ i, f ≤ i → i < l → D i = false) :
    trn ds (trS ds xs x back D) x f l back = trS ds xs x back (fun i => D i || (decide (f ≤ i) && decide (i < l))) := by
  unfold trn trK
  conv => rhs; unfold trS
  refine tb_congr fun p hp => ?_
  by_cases hin : f ≤ lnO (beh ds (x + 1)) (sz ds x) p ∧ lnO (beh ds (x + 1)) (sz ds x) p < l
  · rw [if_pos ⟨hin.1, .inl hin.2⟩, if_pos (by simp [hin.1, hin.2])]
    congr 1
    refine alo_same h x hx back p hp fun q hq e => ?_
    unfold cf
    congr 1
    unfold trS
    rw [tb_get _ _ _ hq, e, if_neg (by rw [hD _ hin.1 hin.2]; simp)]
  · rw [if_neg (by omega)]
    have e : ((D (lnO (beh ds (x + 1)) (sz ds x) p) || (decide (f ≤ lnO (beh ds (x + 1)) (sz ds x) p) && decide (lnO (beh ds (x + 1)) (sz ds x) p < l))) = true) = (D (lnO (beh ds (x + 1)) (sz ds x) p) = true) := by
      by_cases h1 : f ≤ lnO (beh ds (x + 1)) (sz ds x) p
      · have h2 : ¬ lnO (beh ds (x + 1)) (sz ds x) p < l := fun h2 => hin ⟨h1, h2⟩
        simp [h1, h2]
      · simp [h1]
    simp only [e]
    unfold trS
    rw [tb_get _ _ _ hp]
theorem trS_all {ds : List Nat} (h : Shp ds) (xs : List Nat) (x : Nat) (hx : x < ds.length) (back : Bool) (D : Nat → Bool) (hD : ∀ i, i < nln ds x → D i = true) : trS ds xs x back D = mk (prd2 ds) (alo ds x back (cf xs)) := by
  unfold trS tb mk
  refine List.map_congr_left fun p hp => ?_
  have := List.mem_range.mp hp
  rw [prd2_at ds x hx] at this
  rw [if_pos (hD _ (ln_lt (beh_pos h (x + 1)) this))]

/-- A list, each number by P. -/
def nmL (xs : List Nat) : List Nat := xs.map fN
theorem nmL_length (xs : List Nat) : (nmL xs).length = xs.length := by simp [nmL]
theorem nmL_get (xs : List Nat) (i : Nat) : (nmL xs).getD i 0 = fN (xs.getD i 0) := by
  unfold nmL
  rw [List.getD, List.getD, List.getElem?_map]
  cases xs[i]? <;> rfl
theorem cf_nmL (xs : List Nat) : cf (nmL xs) = cf xs := funext fun i => by
  unfold cf
  rw [nmL_get, toF_fN]
theorem fN_small {a : Nat} (h : a < P) : fN a = a := by rw [fN_eq, Nat.mod_eq_of_lt h]
theorem nmL_tb (n : Nat) (g : Nat → Nat) : nmL (tb n g) = tb n (fun p => fN (g p)) := by simp [nmL, tb]
theorem nmL_trS (ds xs : List Nat) (x : Nat) (back : Bool) (D : Nat → Bool) : nmL (trS ds xs x back D) = trS ds (nmL xs) x back D := by
  unfold trS
  rw [nmL_tb, cf_nmL]
  refine tb_congr fun p _ => ?_
  split
  · exact fN_small (Fin.isLt _)
  · rw [nmL_get]
theorem trS_stepN {ds : List Nat} (h : Shp ds) (xs : List Nat) (x : Nat) (hx : x < ds.length) (back : Bool) (D : Nat → Bool) (f l : Nat) (hD : ∀ i, f ≤ i → i < l → D i = false) :
    trn ds (nmL (trS ds xs x back D)) x f l back = trS ds (nmL xs) x back (fun i => D i || (decide (f ≤ i) && decide (i < l))) := by
  rw [nmL_trS]
  exact trS_step h (nmL xs) x hx back D f l hD

end Go.Proofs.YtmgfjcepebjnfagDoor

/-! A run of workers, pick by pick: who has which tasks, what was done, what the array is; no program in sight. -/
namespace Go.Proofs.YtmgfjcepebjnfagDoor

/-! ### Lists of lists -/
theorem flat_at {α : Type} (H : List (List α)) (v : Nat) (hv : v < H.length) : H.flatten = (H.take v).flatten ++ (H.getD v [] ++ (H.drop (v + 1)).flatten) := by
  have e : H = H.take v ++ (H.getD v [] :: H.drop (v + 1)) := by
    conv => lhs; rw [← List.take_append_drop v H, List.drop_eq_getElem_cons hv]
    simp [List.getD, List.getElem?_eq_getElem hv]
  conv => lhs; rw [e]
  rw [List.flatten_append, List.flatten_cons]
theorem flat_set {α : Type} (H : List (List α)) (v : Nat) (hv : v < H.length) (m : List α) : (H.set v m).flatten = (H.take v).flatten ++ (m ++ (H.drop (v + 1)).flatten) := by
  rw [List.set_eq_take_append_cons_drop, if_pos hv, List.flatten_append, List.flatten_cons]
theorem getD_set_self {α : Type} (H : List (List α)) (v : Nat) (hv : v < H.length) (m : List α) : (H.set v m).getD v [] = m := by
  simp [List.getD, hv]
theorem getD_set_ne {α : Type} (H : List (List α)) (v u : Nat) (h : v ≠ u) (m : List α) : (H.set v m).getD u [] = H.getD u [] := by
  simp [List.getD, List.getElem?_set_ne h]
theorem flat_last {α : Type} (H : List (List α)) (v : Nat) (hv : v < H.length) (m : List α) (t : α) (h : H.getD v [] = m ++ [t]) : (t :: (H.set v m).flatten).Perm H.flatten := by
  rw [flat_at H v hv, flat_set H v hv, h]
  have e : (H.take v).flatten ++ (m ++ [t] ++ (H.drop (v + 1)).flatten) = ((H.take v).flatten ++ m) ++ t :: (H.drop (v + 1)).flatten := by simp
  rw [e, ← List.append_assoc]
  exact List.perm_middle.symm
theorem flat_first {α : Type} (H : List (List α)) (v : Nat) (hv : v < H.length) (m : List α) (t : α) (h : H.getD v [] = t :: m) : (t :: (H.set v m).flatten).Perm H.flatten := by
  rw [flat_at H v hv, flat_set H v hv, h]
  have e : (H.take v).flatten ++ (t :: m ++ (H.drop (v + 1)).flatten) = (H.take v).flatten ++ t :: (m ++ (H.drop (v + 1)).flatten) := by simp
  rw [e]
  exact List.perm_middle.symm
theorem flat_add {α : Type} (H : List (List α)) (v : Nat) (hv : v < H.length) (t : α) : (H.set v (H.getD v [] ++ [t])).flatten.Perm (H.flatten ++ [t]) := by
  rw [flat_at H v hv, flat_set H v hv]
  have e1 : (H.take v).flatten ++ (H.getD v [] ++ [t] ++ (H.drop (v + 1)).flatten) = ((H.take v).flatten ++ H.getD v []) ++ t :: (H.drop (v + 1)).flatten := by simp
  have e2 : (H.take v).flatten ++ (H.getD v [] ++ (H.drop (v + 1)).flatten) ++ [t] = (((H.take v).flatten ++ H.getD v []) ++ (H.drop (v + 1)).flatten) ++ [t] := by simp
  rw [e1, e2]
  exact List.perm_middle.trans (List.perm_append_comm (l₁ := [t]))
theorem flat_mem {α : Type} (H : List (List α)) (v : Nat) (t : α) (h : t ∈ H.getD v []) : t ∈ H.flatten := by
  rcases Nat.lt_or_ge v H.length with hv | hv
  · rw [flat_at H v hv]
    exact List.mem_append_right _ (List.mem_append_left _ h)
  · simp [List.getD, List.getElem?_eq_none hv] at h
theorem flat_some {α : Type} (H : List (List α)) (h : 0 < H.flatten.length) : ∃ v, v < H.length ∧ H.getD v [] ≠ [] := by
  induction H with
  | nil => simp at h
  | cons m H ih =>
    by_cases hm : m = []
    · subst hm
      simp only [List.flatten_cons, List.nil_append] at h
      obtain ⟨v, hv, hn⟩ := ih h
      exact ⟨v + 1, by simp only [List.length_cons]; omega, by simpa using hn⟩
    · exact ⟨0, by simp, by simpa using hm⟩
theorem hits_append (A B : List (List Int)) (k : Nat) : hits (A ++ B) k = hits A k + hits B k := by
  unfold hits
  rw [List.map_append, List.sum_append]
theorem hits_perm {A B : List (List Int)} (h : A.Perm B) (k : Nat) : hits A k = hits B k := by
  unfold hits
  induction h with
  | nil => rfl
  | cons x _ ih => simp only [List.map_cons, List.sum_cons, ih]
  | swap x y l => simp only [List.map_cons, List.sum_cons]; omega
  | trans _ _ h1 h2 => exact h1.trans h2
theorem hits_mem {A : List (List Int)} {t : List Int} (h : t ∈ A) (k : Nat) : hit t k ≤ hits A k := by
  induction A with
  | nil => cases h
  | cons x A ih =>
    unfold hits at ih ⊢
    rw [List.map_cons, List.sum_cons]
    rcases List.mem_cons.mp h with h | h
    · subst h; omega
    · have := ih h; omega

/-! ### A run -/
structure Crw where
  A : List Nat
  hands : List (List (List Int))
  phase : Nat
  left : Nat
  did : List (List Int)
  fin : Bool

/-- The first k tasks of a phase are dealt. -/
def dealK (H : List (List (List Int))) (T : List (List Int)) : Nat → List (List (List Int))
  | 0 => H
  | k + 1 => (dealK H T k).set (k % H.length) ((dealK H T k).getD (k % H.length) [] ++ [T.getD k []])
theorem dealK_length (H : List (List (List Int))) (T : List (List Int)) (k : Nat) : (dealK H T k).length = H.length := by
  induction k with
  | zero => rfl
  | succ k ih => rw [dealK, List.length_set, ih]
theorem dealK_perm (H : List (List (List Int))) (T : List (List Int)) (hH : 0 < H.length) (k : Nat) (hk : k ≤ T.length) : (dealK H T k).flatten.Perm (H.flatten ++ T.take k) := by
  induction k with
  | zero => simp [dealK]
  | succ k ih =>
    rw [dealK]
    refine (flat_add _ _ (by rw [dealK_length]; exact Nat.mod_lt _ hH) _).trans ?_
    rw [List.take_add_one, List.getElem?_eq_getElem hk, ← List.append_assoc]
    have e : T.getD k [] = T[k] := by simp [List.getD, List.getElem?_eq_getElem hk]
    rw [e]
    exact (ih (by omega)).append_right _
def dealt (L : List (List (List Int))) (c : Crw) : Crw :=
  if L.length ≤ c.phase then { c with fin := true } else { c with hands := dealK c.hands (L.getD c.phase []) (L.getD c.phase []).length, left := (L.getD c.phase []).length }
def crew0 (L : List (List (List Int))) (xs : List Nat) (W : Nat) : Crw := dealt L ⟨xs, List.replicate W [], 0, 0, [], false⟩
/-- The array with the lines of a task transformed. -/
def tr1 (ds : List Nat) (back : Bool) (A : List Nat) (t : List Int) : List Nat := trn ds A (t.getD 0 0).toNat (t.getD 1 0).toNat (t.getD 2 0).toNat back
/-- Task t is done, and the hands are H then. -/
def done1 (ds : List Nat) (back : Bool) (L : List (List (List Int))) (c : Crw) (H : List (List (List Int))) (t : List Int) : Crw :=
  if c.left - 1 = 0 then dealt L { c with hands := H, A := tr1 ds back c.A t, did := c.did ++ [t], left := c.left - 1, phase := c.phase + 1 }
  else { c with hands := H, A := tr1 ds back c.A t, did := c.did ++ [t], left := c.left - 1 }
def step1 (ds : List Nat) (back : Bool) (L : List (List (List Int))) (c : Crw) (v u : Nat) : Crw :=
  if c.hands.getD v [] ≠ [] then done1 ds back L c (c.hands.set v (c.hands.getD v []).dropLast) ((c.hands.getD v []).getLastD [])
  else if c.hands.getD u [] ≠ [] then done1 ds back L c (c.hands.set u (c.hands.getD u []).tail) ((c.hands.getD u []).headD [])
  else c
/-- A pick, and what is told. -/
def pickE (c : Crw) (pv pu : Int) : Int := if c.fin then 6 else if 0 ≤ pv ∧ pv < (c.hands.length : Int) ∧ 0 ≤ pu ∧ pu < (c.hands.length : Int) then 0 else 1
def pickC (ds : List Nat) (back : Bool) (L : List (List (List Int))) (c : Crw) (pv pu : Int) : Crw := if pickE c pv pu = 0 then step1 ds back L c pv.toNat pu.toNat else c

/-- The array ahead of phase x. -/
def cur (ds xs : List Nat) (back : Bool) (x : Nat) : List Nat := if x = 0 then xs else mk (prd2 ds) (who ds back (cf xs) x)
theorem cur_length {ds xs : List Nat} (hl : xs.length = prd2 ds) (back : Bool) (x : Nat) : (cur ds xs back x).length = prd2 ds := by
  unfold cur
  split
  · exact hl
  · exact mk_length _ _
theorem cur_cf {ds xs : List Nat} (back : Bool) (x i : Nat) (hi : i < prd2 ds) : cf (cur ds xs back x) i = who ds back (cf xs) x i := by
  unfold cur
  split
  · next h => rw [h, who_zero]
  · rw [cf_mk, if_pos hi]
theorem cur_succ {ds xs : List Nat} (h : Shp ds) (back : Bool) (x : Nat) (hx : x < ds.length) : mk (prd2 ds) (alo ds x back (cf (cur ds xs back x))) = cur ds xs back (x + 1) := by
  conv => rhs; unfold cur
  rw [if_neg (by omega)]
  refine mk_congr fun p hp => ?_
  rw [who_succ]
  exact alo_congr h x hx back (fun i hi => cur_cf back x i hi) p hp

/-- What holds at any time. -/
structure CInv (ds : List Nat) (L : List (List (List Int))) (xs : List Nat) (W : Nat) (back : Bool) (c : Crw) (P : List (List (List Int))) (dn : List (List Int)) : Prop where
  w : c.hands.length = W
  ph : c.phase ≤ L.length
  fin : c.fin = decide (c.phase = L.length)
  lft : c.left = c.hands.flatten.length
  pl : P.length = c.phase
  pp : ∀ i, i < c.phase → (P.getD i []).Perm (L.getD i [])
  did : c.did = P.flatten ++ dn
  prm : c.phase < L.length → (dn ++ c.hands.flatten).Perm (L.getD c.phase [])
  some : c.phase < L.length → 0 < c.left
  none : c.phase = L.length → dn = [] ∧ c.hands.flatten = []
  arr : c.phase < L.length → c.A = trS ds (cur ds xs back c.phase) c.phase back (fun i => decide (0 < hits dn i))
  arrE : c.phase = L.length → c.A = cur ds xs back c.phase

theorem rgt_some {n x : Nat} {T : List (List Int)} (h : RgtP n x T) (hn : 0 < n) : 0 < T.length := by
  have := h.2 0 hn
  have h2 := hits_le T 0
  omega
theorem nln_pos {ds : List Nat} (h : Shp ds) (x : Nat) : 0 < nln ds x := by
  unfold nln
  exact Nat.mul_pos (beh_pos h _) (prd2_pos fun d hd => h.pos d (List.mem_of_mem_take hd))

section
variable {ds : List Nat} {L : List (List (List Int))} {xs : List Nat} {W : Nat} {back : Bool}

/-- A phase is dealt to empty hands. -/
theorem CInv.deal {c : Crw} {P : List (List (List Int))} (hS : Shp ds) (hF : Fine ds L) (hW : 0 < W) (hw : c.hands.length = W) (hph : c.phase ≤ L.length) (hfin : c.fin = false) (hle : c.left = 0) (hem : c.hands.flatten = []) (hpl : P.length = c.phase)
    (hpp : ∀ i, i < c.phase → (P.getD i []).Perm (L.getD i [])) (hdid : c.did = P.flatten) (hl : xs.length = prd2 ds) (hA : c.A = cur ds xs back c.phase) : CInv ds L xs W back (dealt L c) P [] := by
  unfold dealt
  by_cases h : L.length ≤ c.phase
  · rw [if_pos h]
    have e : c.phase = L.length := by omega
    exact ⟨hw, hph, by simp [e], by rw [hle, hem]; rfl, hpl, hpp, by rw [List.append_nil]; exact hdid, fun h2 => by simp only at h2; omega, fun h2 => by simp only at h2; omega, fun _ => ⟨rfl, hem⟩, fun h2 => by simp only at h2; omega, fun _ => hA⟩
  · rw [if_neg h]
    have hx : c.phase < ds.length := by rw [← hF.1]; omega
    have hR := hF.2 c.phase hx
    have hp := dealK_perm c.hands (L.getD c.phase []) (by omega) _ (Nat.le_refl _)
    rw [List.take_length, hem, List.nil_append] at hp
    refine ⟨by simp only [dealK_length]; exact hw, hph, ?_, hp.length_eq.symm, hpl, hpp, by rw [List.append_nil]; exact hdid, fun _ => by rw [List.nil_append]; exact hp, fun _ => rgt_some hR (nln_pos hS _), fun e => by simp only at e; omega, fun _ => ?_, fun e => by simp only at e; omega⟩
    · simp only [hfin]
      rw [decide_eq_false (by omega)]
    · have e : (fun i => decide (0 < hits [] i)) = fun _ => false := by funext i; simp [hits]
      rw [e, trS_none (cur_length hl back _)]
      exact hA
theorem CInv.start (hS : Shp ds) (hF : Fine ds L) (hW : 0 < W) (hl : xs.length = prd2 ds) : CInv ds L xs W back (crew0 L xs W) [] [] :=
  CInv.deal hS hF hW (by simp) (Nat.zero_le _) rfl rfl (by simp) rfl (fun i hi => by simp at hi) rfl hl (by simp [cur])

/-- A task that is to be done is a right one. -/
theorem CInv.task {c : Crw} {P : List (List (List Int))} {dn : List (List Int)} (h : CInv ds L xs W back c P dn) (hF : Fine ds L) {t : List Int} (ht : t ∈ c.hands.flatten) : c.phase < L.length ∧ c.phase < ds.length ∧ Vld (nln ds c.phase) c.phase t := by
  have hp : c.phase < L.length := by
    rcases Nat.lt_or_ge c.phase L.length with q | q
    · exact q
    · rw [(h.none (Nat.le_antisymm h.ph q)).2] at ht; cases ht
  have hx : c.phase < ds.length := by rw [← hF.1]; exact hp
  exact ⟨hp, hx, (hF.2 _ hx).1 t ((h.prm hp).mem_iff.mp (List.mem_append_right _ ht))⟩
theorem CInv.done {c : Crw} {P : List (List (List Int))} {dn : List (List Int)} (h : CInv ds L xs W back c P dn) (hS : Shp ds) (hF : Fine ds L) (hW : 0 < W) (hl : xs.length = prd2 ds) {t : List Int} {H : List (List (List Int))} (hH : H.length = W) (hp : (t :: H.flatten).Perm c.hands.flatten) :
    ∃ P' dn', CInv ds L xs W back (done1 ds back L c H t) P' dn' ∧ (done1 ds back L c H t).did = c.did ++ [t] := by
  have ht : t ∈ c.hands.flatten := hp.mem_iff.mp (by simp)
  obtain ⟨hpl, hpx, hv⟩ := h.task hF ht
  have hR := hF.2 _ hpx
  have hlen : c.left = H.flatten.length + 1 := by rw [h.lft, ← hp.length_eq]; rfl
  have hprm : (dn ++ [t] ++ H.flatten).Perm (L.getD c.phase []) := by
    refine List.Perm.trans ?_ (h.prm hpl)
    rw [List.append_assoc]
    exact (List.Perm.refl dn).append hp
  obtain ⟨v1, v2, v3, v4⟩ := hv
  have hA : tr1 ds back c.A t = trS ds (cur ds xs back c.phase) c.phase back (fun i => decide (0 < hits (dn ++ [t]) i)) := by
    unfold tr1
    rw [h.arr hpl, v1, Int.toNat_natCast, trS_step hS _ _ hpx]
    · congr 1
      funext i
      rw [hits_append]
      have e : hits [t] i = hit t i := by simp [hits]
      rw [e]
      unfold hit
      by_cases h1 : t.getD 1 0 ≤ (i : Int) ∧ (i : Int) < t.getD 2 0
      · rw [if_pos h1, decide_eq_true (by omega : (t.getD 1 0).toNat ≤ i), decide_eq_true (by omega : i < (t.getD 2 0).toNat), decide_eq_true (by omega : 0 < hits dn i + 1)]
        simp
      · rw [if_neg h1, Nat.add_zero]
        by_cases h2 : (t.getD 1 0).toNat ≤ i
        · rw [decide_eq_false (by omega : ¬ i < (t.getD 2 0).toNat)]; simp
        · rw [decide_eq_false h2]; simp
    · intro i h1 h2
      have e1 := hR.2 i (by omega)
      rw [← hits_perm hprm i, hits_append, hits_append] at e1
      have e2 : hits [t] i = 1 := by
        simp only [hits, hit, List.map_cons, List.map_nil, List.sum_cons, List.sum_nil]
        rw [if_pos (by omega)]; rfl
      exact decide_eq_false (by omega)
  unfold done1
  by_cases h0 : c.left - 1 = 0
  · rw [if_pos h0]
    have hem : H.flatten = [] := List.eq_nil_of_length_eq_zero (by omega)
    rw [hem, List.append_nil] at hprm
    have hd : (dealt L { c with hands := H, A := tr1 ds back c.A t, did := c.did ++ [t], left := c.left - 1, phase := c.phase + 1 }).did = c.did ++ [t] := by
      unfold dealt; split <;> rfl
    refine ⟨P ++ [dn ++ [t]], [], CInv.deal hS hF hW hH (by simp only; omega) (by simp only [h.fin]; exact decide_eq_false (by omega)) h0 hem (by simp [h.pl]) (fun i hi => ?_) ?_ hl ?_, hd⟩
    · simp only at hi
      by_cases e : i < c.phase
      · have e1 : (P ++ [dn ++ [t]]).getD i [] = P.getD i [] := by simp [List.getD, List.getElem?_append_left (show i < P.length by rw [h.pl]; exact e)]
        rw [e1]; exact h.pp i e
      · have e2 : i = c.phase := by omega
        have e1 : (P ++ [dn ++ [t]]).getD i [] = dn ++ [t] := by rw [e2, ← h.pl]; simp [List.getD]
        rw [e1, e2]; exact hprm
    · simp only [h.did, List.flatten_append, List.flatten_cons, List.flatten_nil, List.append_nil, List.append_assoc]
    · simp only
      rw [hA, trS_all hS _ _ hpx back _ (fun i hi => by rw [hits_perm hprm i, hR.2 i hi]; rfl), cur_succ hS back _ hpx]
  · rw [if_neg h0]
    refine ⟨P, dn ++ [t], ⟨hH, h.ph, h.fin, by simp only; omega, h.pl, h.pp, by simp only [h.did, List.append_assoc], fun _ => hprm, fun _ => by simp only; omega, fun e => by simp only at e; omega, fun _ => hA, fun e => by simp only at e; omega⟩, rfl⟩

theorem last_of {α : Type} {m : List α} (d : α) (h : m ≠ []) : m = m.dropLast ++ [m.getLastD d] := by
  have e : m.getLastD d = m.getLast h := by
    cases m with
    | nil => exact absurd rfl h
    | cons a m => rfl
  rw [e, List.dropLast_concat_getLast]
theorem first_of {α : Type} {m : List α} (d : α) (h : m ≠ []) : m = m.headD d :: m.tail := by
  cases m with
  | nil => exact absurd rfl h
  | cons a m => rfl
/-- A worker goes on. -/
theorem CInv.step {c : Crw} {P : List (List (List Int))} {dn : List (List Int)} (h : CInv ds L xs W back c P dn) (hS : Shp ds) (hF : Fine ds L) (hW : 0 < W) (hl : xs.length = prd2 ds) {v u : Nat} (hv : v < W) (hu : u < W) :
    ∃ P' dn', CInv ds L xs W back (step1 ds back L c v u) P' dn' ∧ ((step1 ds back L c v u = c ∧ c.hands.getD v [] = []) ∨ ∃ t, (step1 ds back L c v u).did = c.did ++ [t]) := by
  unfold step1
  by_cases h1 : c.hands.getD v [] ≠ []
  · rw [if_pos h1]
    have e := last_of [] h1
    obtain ⟨P', dn', h2, h3⟩ := h.done hS hF hW hl (t := (c.hands.getD v []).getLastD []) (H := c.hands.set v (c.hands.getD v []).dropLast) (by rw [List.length_set]; exact h.w) (flat_last c.hands v (by rw [h.w]; exact hv) _ _ e)
    exact ⟨P', dn', h2, .inr ⟨_, h3⟩⟩
  · rw [if_neg h1]
    by_cases h2 : c.hands.getD u [] ≠ []
    · rw [if_pos h2]
      have e := first_of [] h2
      obtain ⟨P', dn', h3, h4⟩ := h.done hS hF hW hl (t := (c.hands.getD u []).headD []) (H := c.hands.set u (c.hands.getD u []).tail) (by rw [List.length_set]; exact h.w) (flat_first c.hands u (by rw [h.w]; exact hu) _ _ e)
      exact ⟨P', dn', h3, .inr ⟨_, h4⟩⟩
    · rw [if_neg h2]
      exact ⟨P, dn, h, .inl ⟨rfl, by simpa using h1⟩⟩
theorem CInv.pick {c : Crw} {P : List (List (List Int))} {dn : List (List Int)} (h : CInv ds L xs W back c P dn) (hS : Shp ds) (hF : Fine ds L) (hW : 0 < W) (hl : xs.length = prd2 ds) (pv pu : Int) :
    ∃ P' dn', CInv ds L xs W back (pickC ds back L c pv pu) P' dn' ∧ (pickC ds back L c pv pu = c ∨ ∃ t, (pickC ds back L c pv pu).did = c.did ++ [t]) := by
  unfold pickC
  by_cases h0 : pickE c pv pu = 0
  · rw [if_pos h0]
    have hb : 0 ≤ pv ∧ pv < (c.hands.length : Int) ∧ 0 ≤ pu ∧ pu < (c.hands.length : Int) := by
      unfold pickE at h0
      split at h0
      · cases h0
      · split at h0
        · assumption
        · cases h0
    rw [h.w] at hb
    obtain ⟨P', dn', h1, h2⟩ := h.step hS hF hW hl (v := pv.toNat) (u := pu.toNat) (by omega) (by omega)
    exact ⟨P', dn', h1, h2.imp (fun q => q.1) id⟩
  · rw [if_neg h0]
    exact ⟨P, dn, h, .inl rfl⟩

/-! ### How many are done -/
theorem CInv.count {c : Crw} {P : List (List (List Int))} {dn : List (List Int)} (h : CInv ds L xs W back c P dn) : c.did.length = (L.take c.phase).flatten.length + dn.length := by
  have e : P.map List.length = (L.take c.phase).map List.length := by
    apply List.ext_getElem
    · simp only [List.length_map, h.pl, List.length_take]
      have := h.ph
      omega
    · intro i h1 h2
      simp only [List.length_map] at h1 h2
      have hi : i < c.phase := by rw [← h.pl]; exact h1
      have hL : i < L.length := by have := h.ph; omega
      have := (h.pp i hi).length_eq
      simp only [List.getD, List.getElem?_eq_getElem h1, List.getElem?_eq_getElem hL, Option.getD_some] at this
      simp only [List.getElem_map, List.getElem_take]
      exact this
  rw [h.did, List.length_append, List.length_flatten, e, ← List.length_flatten]
theorem CInv.room {c : Crw} {P : List (List (List Int))} {dn : List (List Int)} (h : CInv ds L xs W back c P dn) : (c.phase < L.length → c.did.length < L.flatten.length ∧ dn.length + c.left = (L.getD c.phase []).length) ∧ (c.phase = L.length → c.did.length = L.flatten.length) := by
  constructor
  · intro hp
    have h1 := (h.prm hp).length_eq
    rw [List.length_append, ← h.lft] at h1
    have h2 := h.some hp
    have h3 := congrArg List.length (flat_at L c.phase hp)
    simp only [List.length_append] at h3
    rw [h.count]
    exact ⟨by omega, h1⟩
  · intro hp
    rw [h.count, hp, List.take_length, (h.none hp).1]; rfl
theorem CInv.left {c : Crw} {P : List (List (List Int))} {dn : List (List Int)} (h : CInv ds L xs W back c P dn) (hp : c.phase = L.length) : c.left = 0 := by
  rw [h.lft, (h.none hp).2]; rfl
theorem CInv.ended {c : Crw} {P : List (List (List Int))} {dn : List (List Int)} (h : CInv ds L xs W back c P dn) (hc : L.flatten.length ≤ c.did.length) : c.phase = L.length ∧ c.fin = true := by
  have hp : c.phase = L.length := by
    rcases Nat.lt_or_ge c.phase L.length with q | q
    · have := (h.room.1 q).1; omega
    · exact Nat.le_antisymm h.ph q
  exact ⟨hp, by rw [h.fin]; exact decide_eq_true hp⟩
theorem CInv.whole {c : Crw} {P : List (List (List Int))} {dn : List (List Int)} (h : CInv ds L xs W back c P dn) (hF : Fine ds L) (h1 : 1 ≤ ds.length) (hp : c.phase = L.length) : c.A = Go.Proofs.YtmgfjcepebjnfagDoor.mk (prd2 ds) (who ds back (cf xs) ds.length) := by
  rw [h.arrE hp, hp, hF.1]
  unfold cur
  rw [if_neg (by omega)]

/-! ### Each worker in turn -/
/-- The first k workers go on, each of which may steal from the next one. -/
def roundK (ds : List Nat) (back : Bool) (L : List (List (List Int))) (W : Nat) (c : Crw) : Nat → Crw
  | 0 => c
  | k + 1 => pickC ds back L (roundK ds back L W c k) (k : Int) (((k + 1) % W : Nat) : Int)
def rounds (ds : List Nat) (back : Bool) (L : List (List (List Int))) (W : Nat) (c : Crw) : Nat → Crw
  | 0 => c
  | n + 1 => roundK ds back L W (rounds ds back L W c n) W
theorem CInv.roundK {c : Crw} {P : List (List (List Int))} {dn : List (List Int)} (h : CInv ds L xs W back c P dn) (hS : Shp ds) (hF : Fine ds L) (hW : 0 < W) (hl : xs.length = prd2 ds) (k : Nat) :
    ∃ P' dn', CInv ds L xs W back (roundK ds back L W c k) P' dn' ∧ (Go.Proofs.YtmgfjcepebjnfagDoor.roundK ds back L W c k = c ∨ c.did.length < (Go.Proofs.YtmgfjcepebjnfagDoor.roundK ds back L W c k).did.length) := by
  induction k with
  | zero => exact ⟨P, dn, h, .inl rfl⟩
  | succ k ih =>
    obtain ⟨P1, dn1, h1, h2⟩ := ih
    obtain ⟨P2, dn2, h3, h4⟩ := h1.pick hS hF hW hl (k : Int) (((k + 1) % W : Nat) : Int)
    refine ⟨P2, dn2, h3, ?_⟩
    rw [Go.Proofs.YtmgfjcepebjnfagDoor.roundK]
    rcases h4 with e | ⟨t, e⟩
    · rw [e]; exact h2
    · right
      rw [e, List.length_append, List.length_singleton]
      rcases h2 with h2 | h2
      · rw [h2]; omega
      · omega
theorem CInv.round {c : Crw} {P : List (List (List Int))} {dn : List (List Int)} (h : CInv ds L xs W back c P dn) (hS : Shp ds) (hF : Fine ds L) (hW : 0 < W) (hl : xs.length = prd2 ds) :
    ∃ P' dn', CInv ds L xs W back (Go.Proofs.YtmgfjcepebjnfagDoor.roundK ds back L W c W) P' dn' ∧ (c.phase < L.length → c.did.length < (Go.Proofs.YtmgfjcepebjnfagDoor.roundK ds back L W c W).did.length) ∧ c.did.length ≤ (Go.Proofs.YtmgfjcepebjnfagDoor.roundK ds back L W c W).did.length := by
  obtain ⟨P', dn', h1, h2⟩ := h.roundK hS hF hW hl W
  refine ⟨P', dn', h1, fun hp => ?_, ?_⟩
  · rcases h2 with e | e
    · exfalso
      have hs := h.some hp
      rw [h.lft] at hs
      obtain ⟨j, hj, hne⟩ := flat_some c.hands hs
      rw [h.w] at hj
      have hmono : ∀ k m, k ≤ m → (Go.Proofs.YtmgfjcepebjnfagDoor.roundK ds back L W c k).did.length ≤ (Go.Proofs.YtmgfjcepebjnfagDoor.roundK ds back L W c m).did.length := by
        intro k m hkm
        induction m with
        | zero => obtain rfl : k = 0 := by omega
                  exact Nat.le_refl _
        | succ m ih =>
          rcases Nat.lt_or_ge k (m + 1) with q | q
          · obtain ⟨P1, dn1, h3, _⟩ := h.roundK hS hF hW hl m
            obtain ⟨_, _, _, h4⟩ := h3.pick hS hF hW hl (m : Int) (((m + 1) % W : Nat) : Int)
            have h5 := ih (by omega)
            rw [Go.Proofs.YtmgfjcepebjnfagDoor.roundK]
            rcases h4 with e4 | ⟨t, e4⟩
            · rw [e4]; exact h5
            · rw [e4, List.length_append]; omega
          · obtain rfl : k = m + 1 := by omega
            exact Nat.le_refl _
      have hall : ∀ k, k ≤ W → Go.Proofs.YtmgfjcepebjnfagDoor.roundK ds back L W c k = c := by
        intro k hk
        obtain ⟨_, _, _, h4⟩ := h.roundK hS hF hW hl k
        rcases h4 with e4 | e4
        · exact e4
        · have := hmono k W hk
          rw [e] at this
          omega
      have hj1 := hall (j + 1) hj
      rw [Go.Proofs.YtmgfjcepebjnfagDoor.roundK, hall j (by omega)] at hj1
      have hf : c.fin = false := by rw [h.fin]; exact decide_eq_false (by omega)
      have hm : (j + 1) % W < W := Nat.mod_lt _ hW
      have hE : pickE c (j : Int) (((j + 1) % W : Nat) : Int) = 0 := by
        unfold pickE
        rw [hf, if_neg (by simp), h.w, if_pos (by omega)]
      unfold pickC at hj1
      rw [if_pos hE, Int.toNat_natCast, Int.toNat_natCast] at hj1
      obtain ⟨_, _, _, h6⟩ := h.step hS hF hW hl hj hm
      rcases h6 with ⟨_, h6⟩ | ⟨t, h6⟩
      · exact hne h6
      · rw [hj1] at h6
        have := congrArg List.length h6
        rw [List.length_append, List.length_singleton] at this
        omega
    · exact e
  · rcases h2 with e | e
    · rw [e]; exact Nat.le_refl _
    · omega
theorem CInv.rounds {c : Crw} {P : List (List (List Int))} {dn : List (List Int)} (h : CInv ds L xs W back c P dn) (hS : Shp ds) (hF : Fine ds L) (hW : 0 < W) (hl : xs.length = prd2 ds) (n : Nat) :
    ∃ P' dn', CInv ds L xs W back (Go.Proofs.YtmgfjcepebjnfagDoor.rounds ds back L W c n) P' dn' ∧ (n ≤ (Go.Proofs.YtmgfjcepebjnfagDoor.rounds ds back L W c n).did.length ∨ (Go.Proofs.YtmgfjcepebjnfagDoor.rounds ds back L W c n).phase = L.length) := by
  induction n with
  | zero => exact ⟨P, dn, h, .inl (Nat.zero_le _)⟩
  | succ n ih =>
    obtain ⟨P1, dn1, h1, h2⟩ := ih
    obtain ⟨P2, dn2, h3, h4, h5⟩ := h1.round hS hF hW hl
    refine ⟨P2, dn2, h3, ?_⟩
    rw [Go.Proofs.YtmgfjcepebjnfagDoor.rounds]
    rcases Nat.lt_or_ge (Go.Proofs.YtmgfjcepebjnfagDoor.rounds ds back L W c n).phase L.length with q | q
    · rcases h2 with h2 | h2
      · left; have := h4 q; omega
      · omega
    · right
      have e : (Go.Proofs.YtmgfjcepebjnfagDoor.rounds ds back L W c n).phase = L.length := Nat.le_antisymm h1.ph q
      have e2 := h1.room.2 e
      exact (h3.ended (by omega)).1
/-- Within as many turns as there are tasks all is done. -/
theorem CInv.ends {c : Crw} {P : List (List (List Int))} {dn : List (List Int)} (h : CInv ds L xs W back c P dn) (hS : Shp ds) (hF : Fine ds L) (hW : 0 < W) (hl : xs.length = prd2 ds) (h1 : 1 ≤ ds.length) (n : Nat) (hn : L.flatten.length ≤ n) :
    (Go.Proofs.YtmgfjcepebjnfagDoor.rounds ds back L W c n).fin = true ∧ (Go.Proofs.YtmgfjcepebjnfagDoor.rounds ds back L W c n).A = Go.Proofs.YtmgfjcepebjnfagDoor.mk (prd2 ds) (who ds back (cf xs) ds.length) := by
  obtain ⟨P', dn', h2, h3⟩ := h.rounds hS hF hW hl n
  have hp : (Go.Proofs.YtmgfjcepebjnfagDoor.rounds ds back L W c n).phase = L.length := by
    rcases h3 with h3 | h3
    · exact (h2.ended (by omega)).1
    · exact h3
  exact ⟨by rw [h2.fin]; exact decide_eq_true hp, h2.whole hF h1 hp⟩

/-! ### Each task once -/
theorem apart_of_hits {n x : Nat} {T : List (List Int)} (hv : ∀ r ∈ T, Vld n x r) (hh : ∀ k, k < n → hits T k ≤ 1) : T.Pairwise (fun a b => a.getD 0 0 ≤ b.getD 0 0 ∧ a ≠ b) := by
  induction T with
  | nil => exact List.Pairwise.nil
  | cons r T ih =>
    have hr := hv r (by simp)
    refine List.Pairwise.cons (fun b hb => ⟨?_, fun e => ?_⟩) (ih (fun q hq => hv q (List.mem_cons_of_mem _ hq)) fun k hk => ?_)
    · rw [hr.1, (hv b (List.mem_cons_of_mem _ hb)).1]; exact Int.le_refl _
    · subst e
      obtain ⟨v1, v2, v3, v4⟩ := hr
      have hk : (r.getD 1 0).toNat < n := by omega
      have h1 := hh _ hk
      have h2 := hits_mem hb (r.getD 1 0).toNat
      have h3 : hit r (r.getD 1 0).toNat = 1 := by unfold hit; rw [if_pos (by omega)]
      unfold hits at h1 h2
      rw [List.map_cons, List.sum_cons] at h1
      omega
    · have h1 := hh k hk
      unfold hits at h1 ⊢
      rw [List.map_cons, List.sum_cons] at h1
      omega
theorem CInv.log {c : Crw} {P : List (List (List Int))} {dn : List (List Int)} (h : CInv ds L xs W back c P dn) (hF : Fine ds L) :
    c.did.Pairwise (fun a b => a.getD 0 0 ≤ b.getD 0 0 ∧ a ≠ b) ∧ ∀ t ∈ c.did, ∃ x : Nat, x < L.length ∧ t.getD 0 0 = (x : Int) ∧ t ∈ L.getD x [] := by
  have hP : ∀ i, i < c.phase → (∀ r ∈ P.getD i [], Vld (nln ds i) i r ∧ r ∈ L.getD i []) ∧ (P.getD i []).Pairwise (fun a b => a.getD 0 0 ≤ b.getD 0 0 ∧ a ≠ b) := fun i hi => by
    have hx : i < ds.length := by rw [← hF.1]; have := h.ph; omega
    have hR := hF.2 i hx
    have hm : ∀ r ∈ P.getD i [], Vld (nln ds i) i r ∧ r ∈ L.getD i [] := fun r hr => by
      have := (h.pp i hi).mem_iff.mp hr
      exact ⟨hR.1 r this, this⟩
    exact ⟨hm, apart_of_hits (fun r hr => (hm r hr).1) fun k hk => by rw [hits_perm (h.pp i hi) k, hR.2 k hk]; exact Nat.le_refl _⟩
  have hD : (∀ r ∈ dn, c.phase < L.length ∧ Vld (nln ds c.phase) c.phase r ∧ r ∈ L.getD c.phase []) ∧ dn.Pairwise (fun a b => a.getD 0 0 ≤ b.getD 0 0 ∧ a ≠ b) := by
    rcases Nat.lt_or_ge c.phase L.length with q | q
    · have hx : c.phase < ds.length := by rw [← hF.1]; exact q
      have hR := hF.2 _ hx
      have hm : ∀ r ∈ dn, Vld (nln ds c.phase) c.phase r ∧ r ∈ L.getD c.phase [] := fun r hr => by
        have := (h.prm q).mem_iff.mp (List.mem_append_left _ hr)
        exact ⟨hR.1 r this, this⟩
      refine ⟨fun r hr => ⟨q, hm r hr⟩, apart_of_hits (fun r hr => (hm r hr).1) fun k hk => ?_⟩
      have := hR.2 k hk
      rw [← hits_perm (h.prm q) k, hits_append] at this
      omega
    · rw [(h.none (Nat.le_antisymm h.ph q)).1]
      exact ⟨fun r hr => absurd hr (by simp), List.Pairwise.nil⟩
  have hget : ∀ l ∈ P, ∃ i, i < c.phase ∧ l = P.getD i [] := fun l hl => by
    obtain ⟨i, hi, rfl⟩ := List.mem_iff_getElem.mp hl
    exact ⟨i, by rw [← h.pl]; exact hi, by simp [List.getD, hi]⟩
  constructor
  · rw [h.did, List.pairwise_append]
    refine ⟨?_, hD.2, fun a ha b hb => ?_⟩
    · rw [List.pairwise_flatten]
      refine ⟨fun l hl => ?_, ?_⟩
      · obtain ⟨i, hi, rfl⟩ := hget l hl
        exact (hP i hi).2
      · rw [List.pairwise_iff_getElem]
        intro i j hi hj hij a ha b hb
        have hj' : j < c.phase := by rw [← h.pl]; exact hj
        have e1 : P[i] = P.getD i [] := by simp [List.getD, hi]
        have e2 : P[j] = P.getD j [] := by simp [List.getD, hj]
        rw [e1] at ha
        rw [e2] at hb
        have v1 := ((hP i (by omega)).1 a ha).1.1
        have v2 := ((hP j hj').1 b hb).1.1
        exact ⟨by rw [v1, v2]; omega, fun e => by rw [e, v2] at v1; omega⟩
    · obtain ⟨l, hl, ha⟩ := List.mem_flatten.mp ha
      obtain ⟨i, hi, rfl⟩ := hget l hl
      have v1 := ((hP i hi).1 a ha).1.1
      have v2 := (hD.1 b hb).2.1.1
      exact ⟨by rw [v1, v2]; omega, fun e => by rw [e, v2] at v1; omega⟩
  · intro t ht
    rw [h.did] at ht
    rcases List.mem_append.mp ht with q | q
    · obtain ⟨l, hl, ha⟩ := List.mem_flatten.mp q
      obtain ⟨i, hi, rfl⟩ := hget l hl
      have := (hP i hi).1 t ha
      exact ⟨i, by have := h.ph; omega, this.1.1, this.2⟩
    · have := hD.1 t q
      exact ⟨c.phase, this.1, this.2.1.1, this.2.2⟩

end

end Go.Proofs.YtmgfjcepebjnfagDoor
