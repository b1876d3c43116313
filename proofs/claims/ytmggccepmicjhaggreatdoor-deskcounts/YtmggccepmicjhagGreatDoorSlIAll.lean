/-
  Texts that stood one behind the other, as one.
-/
import Derived.Test.YtmggccepmicjhagGreatDoorSlAll
import Derived.Laws.BitsLemmas
import Derived.Test.YtmggccepmicjhagGreatDoorRows
import Derived.Deep.RegionLaw
import Derived.Deep.AppendLies
import Derived.Test.YtmggccepmicjhagGreatDoorRowUAll
import Derived.BigQuiet
import Derived.Deep.RegionWith
/-! Slices of ints that hold natural numbers, as lists; bits read from the other end. -/
namespace Go.Proofs.YtmggccepmicjhagGreatDoor
open Go.RowKit

/-- The slice value v reads in the world w as the numbers xs, of type int. -/
def IsI (w : World) (v : Value) (xs : List Nat) : Prop :=
  ∃ (a : Option Addr) (cap : Nat), v = .slice a xs.length cap ∧ xs.length ≤ cap ∧ cap ≤ maxLen ∧
    (∀ i, i < xs.length → ∃ b off, a = some ⟨b, off, none⟩ ∧ w.cell? ⟨b, off + i, none⟩ = some (.int .i64 ((xs.getD i 0 : Nat) : Int)))
theorem IsI.below {w w' : World} {v : Value} {xs : List Nat} (h : IsI w v xs) (hb : Below w.heap.size w w') : IsI w' v xs := by
  obtain ⟨a, cap, rfl, h1, h2, hc⟩ := h
  refine ⟨a, cap, rfl, h1, h2, fun i hi => ?_⟩
  obtain ⟨b, off, rfl, hcell⟩ := hc i hi
  exact ⟨b, off, rfl, (hb.cell (block_lt hcell)).trans hcell⟩
theorem IsI.nil (w : World) : IsI w (.slice none 0 0) [] :=
  ⟨none, 0, rfl, by simp, by simp [maxLen], fun i hi => by simp at hi⟩
theorem IsI.cast {w : World} {v : Value} {l l' : List Nat} (h : IsI w v l) (e : l = l') : IsI w v l' := e ▸ h

/-- The first b of i's bits, read into k bits from the other end. -/
def rvK (k i : Nat) : Nat → Nat
  | 0 => 0
  | b + 1 => rvK k i b + i / 2 ^ b % 2 * 2 ^ (k - 1 - b)
/-- All k of them. -/
def rv (k i : Nat) : Nat := rvK k i k
/-- The numbers from 0 to 2^k - 1, each read from the other end. -/
def ord (k : Nat) : List Nat := (List.range (2 ^ k)).map (rv k)
theorem ord_length (k : Nat) : (ord k).length = 2 ^ k := by simp [ord]
theorem ord_get (k i : Nat) (h : i < 2 ^ k) : (ord k).getD i 0 = rv k i := by simp [ord, List.getD, h]

theorem rvK_dvd (k i b : Nat) (hb : b ≤ k) : 2 ^ (k - b) ∣ rvK k i b := by
  induction b with
  | zero => exact Nat.dvd_zero _
  | succ b ih =>
    rw [rvK]
    have h1 : 2 ^ (k - (b + 1)) ∣ rvK k i b := Nat.dvd_trans (Nat.pow_dvd_pow 2 (by omega)) (ih (by omega))
    have h2 : 2 ^ (k - (b + 1)) ∣ i / 2 ^ b % 2 * 2 ^ (k - 1 - b) := by
      rw [show k - (b + 1) = k - 1 - b by omega]
      exact Nat.dvd_mul_left _ _
    exact Nat.dvd_add h1 h2
theorem rvK_le (k i b : Nat) (hb : b ≤ k) : rvK k i b + 2 ^ (k - b) ≤ 2 ^ k := by
  induction b with
  | zero => simp [rvK]
  | succ b ih =>
    rw [rvK]
    have ih' := ih (by omega)
    have e : 2 ^ (k - b) = 2 ^ (k - 1 - b) + 2 ^ (k - 1 - b) := by
      rw [show k - b = k - 1 - b + 1 by omega, Nat.pow_succ]; omega
    rw [show k - (b + 1) = k - 1 - b by omega]
    have h2 : i / 2 ^ b % 2 * 2 ^ (k - 1 - b) ≤ 2 ^ (k - 1 - b) := by
      generalize 2 ^ (k - 1 - b) = q
      rcases Nat.mod_two_eq_zero_or_one (i / 2 ^ b) with h | h <;> rw [h] <;> omega
    omega
theorem bit_lt (k i b : Nat) (hb : b < k) : i / 2 ^ b % 2 * 2 ^ (k - 1 - b) < 2 ^ (k - b) := by
  have e : 2 ^ (k - b) = 2 ^ (k - 1 - b) + 2 ^ (k - 1 - b) := by
    rw [show k - b = k - 1 - b + 1 by omega, Nat.pow_succ]; omega
  have hp : 0 < 2 ^ (k - 1 - b) := Nat.pow_pos (by decide)
  rcases Nat.mod_two_eq_zero_or_one (i / 2 ^ b) with h | h <;> rw [h] <;> omega

theorem wraps_i64 (n : Int) (h1 : 0 ≤ n) (h2 : n < 2 ^ 62) : IntKind.i64.wrap n = n := by rw [IntKind.wrap_i64]; omega
theorem and_one (x : Nat) (hx : x ≤ 1024) : bits .and .i64 (x : Int) 1 = ((x % 2 : Nat) : Int) := by
  have := (bits_nat .i64 62 (by decide) wraps_i64 x 1 (by omega) (by decide)).1
  rw [Nat.and_one_is_mod] at this
  exact this
theorem or_join (r y s : Nat) (hd : 2 ^ s ∣ r) (hy : y < 2 ^ s) (hr : r < 2 ^ 62) (hy2 : y < 2 ^ 62) : bits .or .i64 (r : Int) (y : Int) = ((r + y : Nat) : Int) := by
  rw [(bits_nat .i64 62 (by decide) wraps_i64 r y hr hy2).2]
  obtain ⟨c, rfl⟩ := hd
  rw [← Nat.two_pow_add_eq_or_of_lt hy c]
theorem rv_or (k i b : Nat) (hb : b < k) (hk : 2 ^ k ≤ 1024) (hi : i ≤ 1024) :
    bits .or .i64 ((rvK k i b : Nat) : Int) (wrap64 (bits .and .i64 ((i : Int) / 2 ^ b) 1 * 2 ^ (k - 1 - b))) = ((rvK k i (b + 1) : Nat) : Int) := by
  have hp2 : ∀ t : Nat, (2 : Int) ^ t = ((2 ^ t : Nat) : Int) := fun t => by rw [Int.natCast_pow]; rfl
  have hdiv : (i : Int) / 2 ^ b = ((i / 2 ^ b : Nat) : Int) := by rw [hp2, ← Int.natCast_ediv]
  have hdl : i / 2 ^ b ≤ 1024 := Nat.le_trans (Nat.div_le_self _ _) hi
  have h3 := bit_lt k i b hb
  have h4 := rvK_le k i b (by omega)
  have h5 := rvK_dvd k i b (by omega)
  have h7 : 2 ^ (k - b) ≤ 2 ^ k := Nat.pow_le_pow_right (by decide) (by omega)
  have e2 : ((i / 2 ^ b % 2 : Nat) : Int) * 2 ^ (k - 1 - b) = ((i / 2 ^ b % 2 * 2 ^ (k - 1 - b) : Nat) : Int) := by
    rw [hp2, ← Int.natCast_mul]
  rw [hdiv, and_one _ hdl, e2, show rvK k i (b + 1) = rvK k i b + i / 2 ^ b % 2 * 2 ^ (k - 1 - b) from rfl]
  clear hdiv e2
  generalize i / 2 ^ b % 2 * 2 ^ (k - 1 - b) = y at *
  have e3 : wrap64 (y : Int) = (y : Int) := by unfold wrap64; omega
  rw [e3]
  generalize rvK k i b = r at *
  have hr : r < 2 ^ 62 := by omega
  have hy : y < 2 ^ 62 := by omega
  exact or_join r y (k - b) h5 h3 hr hy

end Go.Proofs.YtmggccepmicjhagGreatDoor

/-! The cells of a list of ints; what is owned reads as such a list. -/
namespace Go.Proofs.YtmggccepmicjhagGreatDoor
open Go.RowKit

def cellsI (xs : List Nat) : List Value := xs.map fun (x : Nat) => Value.int .i64 (x : Int)
theorem cellsI_length (xs : List Nat) : (cellsI xs).length = xs.length := by simp [cellsI]
theorem cellsI_append (xs ys : List Nat) : cellsI (xs ++ ys) = cellsI xs ++ cellsI ys := by simp [cellsI]
theorem cellsI_get (xs : List Nat) (i : Nat) (h : i < xs.length) : (cellsI xs)[i]? = some (.int .i64 ((xs.getD i 0 : Nat) : Int)) := by
  simp [cellsI, List.getD, h]
theorem cellsI_set (xs : List Nat) (j v : Nat) : (cellsI xs).set j (.int .i64 (v : Int)) = cellsI (xs.set j v) := by
  unfold cellsI
  rw [List.map_set]
theorem IsI.of_owns {w : World} {base e n : Nat} {v : Value} {xs : List Nat} (h : w.ownsRow base e 1 v n (cellsI xs)) : IsI w v xs := by
  have h0 := h
  obtain ⟨hl, hv⟩ := h
  have hn : xs.length = n := by rw [cellsI_length] at hl; omega
  subst hn
  rcases hv with ⟨rfl, h2⟩ | ⟨g, cap, cur, rfl, hg, hh, hc, hm, hs, ht⟩
  · have : xs = [] := List.eq_nil_of_length_eq_zero h2
    subst this
    exact IsI.nil w
  · refine ⟨some ⟨g, 0, none⟩, cap, rfl, hc, hm, fun i hi => ⟨g, 0, rfl, ?_⟩⟩
    have := h0.cellAt i (by omega)
    rw [Nat.zero_add, this, cellsI_get xs i hi]

theorem info_int : (Tryz.prog.info? 3).map (fun i => (i.zero, i.size, i.bytes)) = some (some (.int .i64 0), 1, 8) := by kernel_rfl

end Go.Proofs.YtmggccepmicjhagGreatDoor

/-! One int is appended to a slice that the call itself made. -/
namespace Go.Proofs.YtmggccepmicjhagGreatDoor
open Go.RowKit

theorem wp_appendI {ops : Array Oper} {rest : List Oper} {o : Oper} {a : Act} {Q : Exit → Act → World → Prop} {w w0 : World} (hgd : o.guard = none) (s x : Operand)
    (ho : o.op = .call { callee := .builtin .append, args := #[s, x], argTypes := #[97, 97] }) (v : Value) (n : Nat) (xs : List Value) (z : Nat)
    (hs : a.eval s = v) (hown : w.ownsRow w0.heap.size 3 1 v n xs) (hx : a.eval x = .slice (some ⟨w.heap.size, 0, none⟩) 1 1)
    (hn : n ≤ 1000000000) (hnx : Below w0.heap.size w0 w)
    (h : ∀ v' w', w'.ownsRow w0.heap.size 3 1 v' (n + 1) (xs ++ [.int .i64 (z : Int)]) → Below w0.heap.size w0 w' → wpList Tryz.prog ops Q rest (a.put o.dst v') w') :
    wpList Tryz.prog ops Q (o :: rest) a (w.alloc (.cells #[.int .i64 (z : Int)] 3)) := by
  obtain ⟨i0, hi, hz0, hz1, hz2⟩ := info_parts info_int
  have hsz := hnx.size
  refine wpList_append_own _ hgd s x 97 ho w0.heap.size 3 i0 (.int .i64 0) 1 8 Tryz.underlying97 hi hz0 hz1 hz2 rfl (by decide) v n xs hs (hown.alloc _) ⟨w.heap.size, 0, none⟩ 1 1 [.int .i64 (z : Int)] hx rfl ?_ ?_ ?_ ?_ ?_ ?_
  · intro j u hj
    match j, hj with
    | 0, hj => simp at hj; subst hj; simp [Addr.add]
  · intro u hu; simp at hu; subst hu; rfl
  · unfold maxLen; omega
  · omega
  · simp; omega
  · intro v' w' hown' hgrow _
    exact h v' w' hown' ((hnx.alloc hsz _).grown hgrow (by simp; omega) (owns_block hown))

/-- The same as a step of a region that draws its order. -/
theorem step_appendI {ops : Array Oper} {o : Oper} {a : Act} {K : Act → World → Prop} {Q : Exit → Act → World → Prop} {E : Prop} {w w0 : World} (hgd : o.guard = none) (s x : Operand)
    (ho : o.op = .call { callee := .builtin .append, args := #[s, x], argTypes := #[97, 97] }) (v : Value) (n : Nat) (xs : List Value) (z : Nat)
    (hs : a.eval s = v) (hx : a.eval x = .slice (some ⟨w.heap.size, 0, none⟩) 1 1) (hown : w.ownsRow w0.heap.size 3 1 v n xs)
    (hn : n ≤ 1000000000) (hnx : Below w0.heap.size w0 w)
    (h : ∀ v' w', w'.ownsRow w0.heap.size 3 1 v' (n + 1) (xs ++ [.int .i64 (z : Int)]) → Below w0.heap.size w0 w' → K (a.put o.dst v') w') :
    if Region.wanted o (yielded ops a.tmps) = true then Oper.wp Tryz.prog o a (w.alloc (.cells #[.int .i64 (z : Int)] 3)) K Q else E := by
  obtain ⟨i0, hi, hz0, hz1, hz2⟩ := info_parts info_int
  have hsz := hnx.size
  refine step_append_lies _ hgd s x 97 ho w0.heap.size 3 i0 (.int .i64 0) 1 8 Tryz.underlying97 hi hz0 hz1 hz2 rfl (by decide) v n xs hs (hown.alloc _) ⟨w.heap.size, 0, none⟩ 1 1 [.int .i64 (z : Int)] hx rfl ?_ ?_ (by decide) ?_ ?_ ?_ _ rfl ?_
  · intro j u hj
    match j, hj with
    | 0, hj => simp at hj; subst hj; simp [Addr.add]
  · intro u hu; simp at hu; subst hu; rfl
  · unfold maxLen; omega
  · omega
  · simp; omega
  · intro g cap w' hown' hgrow _ _
    exact h _ w' hown' ((hnx.alloc hsz _).grown hgrow (by simp; omega) (owns_block hown))

theorem wp_appendX {ops : Array Oper} {rest : List Oper} {o : Oper} {a : Act} {Q : Exit → Act → World → Prop} {w w0 : World} (hgd : o.guard = none) (s x : Operand)
    (ho : o.op = .call { callee := .builtin .append, args := #[s, x], argTypes := #[97, 97] }) (v : Value) (n : Nat) (xs : List Value) (z : Nat)
    (hs : a.eval s = v) (hown : w.ownsRow w0.heap.size 3 1 v n xs) (hx : a.eval x = .slice (some ⟨w.heap.size, 0, none⟩) 1 1)
    (hn : n ≤ 1000000) (hnx : Below w0.heap.size w0 w)
    (h : ∀ g cap w', w'.ownsRow w0.heap.size 3 1 (.slice (some ⟨g, 0, none⟩) (n + 1) cap) (n + 1) (xs ++ [.int .i64 (z : Int)]) → Below w0.heap.size w0 w' → (∀ b, b < w.heap.size → v.ownBlock ≠ some b → w'.heap[b]? = w.heap[b]?) → Hid (v.ownBlock = some g ∨ w.heap.size < g) → g < w'.heap.size → w.heap.size ≤ w'.heap.size → wpList Tryz.prog ops Q rest (a.put o.dst (.slice (some ⟨g, 0, none⟩) (n + 1) cap)) w') :
    wpList Tryz.prog ops Q (o :: rest) a (w.alloc (.cells #[.int .i64 (z : Int)] 3)) := by
  obtain ⟨i0, hi, hz0, hz1, hz2⟩ := info_parts info_int
  have hsz := hnx.size
  refine wpList_append_lies _ hgd s x 97 ho w0.heap.size 3 i0 (.int .i64 0) 1 8 Tryz.underlying97 hi hz0 hz1 hz2 rfl (by decide) v n xs hs (hown.alloc _) ⟨w.heap.size, 0, none⟩ 1 1 [.int .i64 (z : Int)] hx rfl ?_ ?_ (by decide) ?_ ?_ ?_ _ rfl ?_
  · intro j u hj
    match j, hj with
    | 0, hj => simp at hj; subst hj; simp [Addr.add]
  · intro u hu; simp at hu; subst hu; rfl
  · unfold maxLen; omega
  · omega
  · simp; omega
  · intro g cap w' hown' hgrow hat hlt
    have hal : (w.alloc (.cells #[.int .i64 (z : Int)] 3)).heap.size = w.heap.size + 1 := by simp
    refine h g cap w' hown' ((hnx.alloc hsz _).grown hgrow (by simp; omega) (owns_block hown)) (fun b hb hne => ?_) ?_ hlt ?_
    · rw [hgrow.block b (by rw [hal]; omega) (fun e => hne e.symm)]
      exact Below.heap_alloc _ _ _ hb
    · rcases hat with h1 | h1
      · exact .inl h1
      · exact .inr (by rw [h1, hal]; omega)
    · have := hgrow.size
      omega


end Go.Proofs.YtmggccepmicjhagGreatDoor

/-! What Places and Place of package goldref answer: the places of a number of an array, and back. -/
namespace Go.Proofs.YtmggccepmicjhagGreatDoor
open Go.RowKit

/-- How many numbers one step of axis i goes over; of the axes up to j. -/
def und (ds : List Nat) (i : Nat) : Nat := prd2 (ds.drop (i + 1))
def undK (ds : List Nat) (i j : Nat) : Nat := prd2 ((ds.drop (i + 1)).take (j - (i + 1)))
/-- The places of number k. -/
def plc (ds : List Nat) (k i : Nat) : Nat := k / und ds i % ds.getD i 0
def plcs (ds : List Nat) (k n : Nat) : List Nat := (List.range n).map (plc ds k)
theorem plcs_length (ds : List Nat) (k n : Nat) : (plcs ds k n).length = n := by simp [plcs]
theorem plcs_succ (ds : List Nat) (k n : Nat) : plcs ds k (n + 1) = plcs ds k n ++ [plc ds k n] := by
  simp [plcs, List.range_succ]
theorem undK_start (ds : List Nat) (i : Nat) : undK ds i (i + 1) = 1 := by simp [undK, prd2]
theorem undK_step (ds : List Nat) (i j : Nat) (h1 : i + 1 ≤ j) (h2 : j < ds.length) : undK ds i (j + 1) = undK ds i j * ds.getD j 0 := by
  unfold undK
  rw [show j + 1 - (i + 1) = j - (i + 1) + 1 by omega, prd2_take _ _ (by rw [List.length_drop]; omega)]
  congr 1
  simp [List.getD, List.getElem?_drop, show i + 1 + (j - (i + 1)) = j by omega]
theorem undK_end (ds : List Nat) (i : Nat) : undK ds i ds.length = und ds i := by
  unfold undK und
  rw [List.take_of_length_le (by rw [List.length_drop]; omega)]
theorem undK_le {ds : List Nat} (hp : ∀ d ∈ ds, 0 < d) (i j : Nat) : undK ds i j ≤ prd2 ds := by
  unfold undK
  refine Nat.le_trans (prd2_take_le (fun d hd => hp d (List.mem_of_mem_drop hd)) _) ?_
  rw [prd2_split ds (i + 1)]
  exact Nat.le_mul_of_pos_left _ (prd2_pos fun d hd => hp d (List.mem_of_mem_take hd))
theorem undK_pos {ds : List Nat} (hp : ∀ d ∈ ds, 0 < d) (i j : Nat) : 0 < undK ds i j :=
  prd2_pos fun d hd => hp d (List.mem_of_mem_drop (List.mem_of_mem_take hd))

def rowP (ds : List Nat) (k n : Nat) : List Value := cellsI (plcs ds k n)
theorem rowP_succ (ds : List Nat) (k n : Nat) : rowP ds k (n + 1) = rowP ds k n ++ [.int .i64 ((plc ds k n : Nat) : Int)] := by
  unfold rowP; rw [plcs_succ, cellsI_append]; rfl


/-- The number at places p, the first n axes. -/
def plf (ds p : List Nat) : Nat → Nat
  | 0 => 0
  | n + 1 => plf ds p n * ds.getD n 0 + p.getD n 0
theorem plf_le (ds p : List Nat) (hd : ∀ i, ds.getD i 0 ≤ 1024) (hp : ∀ i, p.getD i 0 ≤ 1024) (n : Nat) : plf ds p n + 1 ≤ 1025 ^ n := by
  induction n with
  | zero => simp [plf]
  | succ n ih =>
    rw [plf, Nat.pow_succ]
    have h1 : plf ds p n * ds.getD n 0 ≤ plf ds p n * 1024 := Nat.mul_le_mul_left _ (hd n)
    have h2 := hp n
    omega
theorem drop_prd (ds : List Nat) (n : Nat) (h : n < ds.length) : prd2 (ds.drop n) = ds.getD n 0 * und ds n := by
  rw [List.drop_eq_getElem_cons h, prd2, und]
  simp [List.getD, h]
/-- The places of k make k. -/
theorem plf_plcs (ds : List Nat) (k : Nat) (hpos : ∀ d ∈ ds, 0 < d) (hk : k < prd2 ds) (n : Nat) (hn : n ≤ ds.length) : plf ds (plcs ds k ds.length) n = k / prd2 (ds.drop n) := by
  induction n with
  | zero => rw [plf, List.drop_zero, Nat.div_eq_of_lt hk]
  | succ n ih =>
    have hu : 0 < und ds n := prd2_pos fun d hd => hpos d (List.mem_of_mem_drop hd)
    rw [plf, ih (by omega), drop_prd ds n (by omega), Nat.mul_comm (ds.getD n 0), ← Nat.div_div_eq_div_mul]
    have e : (plcs ds k ds.length).getD n 0 = k / und ds n % ds.getD n 0 := by simp [plcs, List.getD, show n < ds.length by omega, plc]
    rw [e]
    show _ = k / und ds n
    rw [Nat.mul_comm]
    exact Nat.div_add_mod _ _
theorem plf_set (ds : List Nat) (k : Nat) (hpos : ∀ d ∈ ds, 0 < d) (hk : k < prd2 ds) (x t : Nat) (hx : x < ds.length) (h0 : plc ds k x = 0) (n : Nat) (hn : n ≤ ds.length) :
    plf ds ((plcs ds k ds.length).set x t) n = k / prd2 (ds.drop n) + (if x < n then t * undK ds x n else 0) := by
  induction n with
  | zero => rw [plf, List.drop_zero, Nat.div_eq_of_lt hk, if_neg (by omega)]
  | succ n ih =>
    have ih' := ih (by omega)
    have hs := plf_plcs ds k hpos hk (n + 1) hn
    have hs0 := plf_plcs ds k hpos hk n (by omega)
    rw [plf, hs0] at hs
    rw [plf, ih']
    by_cases e : n = x
    · subst e
      have e1 : ((plcs ds k ds.length).set n t).getD n 0 = t := by simp [List.getD, plcs_length, hx]
      have e2 : (plcs ds k ds.length).getD n 0 = 0 := by simp [plcs, List.getD, hx, h0]
      rw [e2] at hs
      rw [e1, if_neg (by omega), if_pos (by omega), undK_start, Nat.add_zero, Nat.mul_one, ← hs, Nat.add_zero]
    · have e1 : ((plcs ds k ds.length).set x t).getD n 0 = (plcs ds k ds.length).getD n 0 := by simp [List.getD, Ne.symm e]
      rw [e1]
      by_cases h1 : x < n
      · rw [if_pos h1, if_pos (by omega), undK_step ds x n (by omega) (by omega), ← hs, Nat.add_mul, Nat.mul_assoc]
        omega
      · rw [if_neg h1, if_neg (by omega), Nat.add_zero, Nat.add_zero]; exact hs
/-- Along axis x from number k on, whose place there is 0. -/
theorem plf_line (ds : List Nat) (k : Nat) (hpos : ∀ d ∈ ds, 0 < d) (hk : k < prd2 ds) (x t : Nat) (hx : x < ds.length) (h0 : plc ds k x = 0) : plf ds ((plcs ds k ds.length).set x t) ds.length = k + t * und ds x := by
  rw [plf_set ds k hpos hk x t hx h0 _ (Nat.le_refl _), if_pos hx, undK_end, List.drop_length, prd2, Nat.div_one]


end Go.Proofs.YtmggccepmicjhagGreatDoor
