/-
  Texts that stood one behind the other, as one.
-/
import Derived.Test.YtmggccepmicjhagGreatDoorSlAll
import Derived.Test.YtmggccepmicjhagGreatDoorSlMakeAll
import Derived.Laws.BitsLemmas
import Derived.Test.YtmggccepmicjhagGreatDoorRows
import Derived.Deep.RegionLaw
import Derived.Deep.AppendLies
/-! Slices of ints as lists of integers; products of sizes; powers of two. -/
namespace Go.Proofs.YtmggccepmicjhagGreatDoor
open Go.RowKit
set_option maxRecDepth 100000

/-- The slice value v reads in the world w as the integers zs. -/
def IsZ (w : World) (v : Value) (zs : List Int) : Prop :=
  ∃ (a : Option Addr) (cap : Nat), v = .slice a zs.length cap ∧ zs.length ≤ cap ∧ cap ≤ maxLen ∧
    (∀ i, i < zs.length → ∃ b off, a = some ⟨b, off, none⟩ ∧ w.cell? ⟨b, off + i, none⟩ = some (.int .i64 (zs.getD i 0))) ∧
    (∀ z ∈ zs, -9223372036854775808 ≤ z ∧ z ≤ 9223372036854775807)
theorem IsZ.below {w w' : World} {v : Value} {xs : List Int} (h : IsZ w v xs) (hb : Below w.heap.size w w') : IsZ w' v xs := by
  obtain ⟨a, cap, rfl, h1, h2, hc, hr⟩ := h
  refine ⟨a, cap, rfl, h1, h2, fun i hi => ?_, hr⟩
  obtain ⟨b, off, rfl, hcell⟩ := hc i hi
  exact ⟨b, off, rfl, (hb.cell (block_lt hcell)).trans hcell⟩
theorem IsZ.nil (w : World) : IsZ w (.slice none 0 0) [] :=
  ⟨none, 0, rfl, by simp, by simp [maxLen], fun i hi => by simp at hi, fun x hx => by cases hx⟩
theorem rangeZ_getD {zs : List Int} (h : ∀ z ∈ zs, -9223372036854775808 ≤ z ∧ z ≤ 9223372036854775807) (i : Nat) : -9223372036854775808 ≤ zs.getD i 0 ∧ zs.getD i 0 ≤ 9223372036854775807 := by
  rcases Nat.lt_or_ge i zs.length with hi | hi
  · simp only [List.getD, List.getElem?_eq_getElem hi, Option.getD_some]
    exact h _ (List.getElem_mem hi)
  · simp [List.getD, List.getElem?_eq_none hi]

/-- A slice of ints that came in reads as a list. -/
theorem isZ_of_row {w : World} {a : Option Addr} {len cap : Nat} {zs : List Int}
    (h : (a = none ∧ len = 0 ∧ cap = 0 ∧ zs = []) ∨ ∃ x, a = some x ∧ len ≤ cap ∧ cap ≤ maxLen ∧ zs.length = cap ∧ (∀ i, i < zs.length → w.cell? (x.add i) = some (.int .i64 (zs.getD i 0))) ∧ ∀ n ∈ zs, (Lit.int .i64 n).wf = true) :
    ∃ xs, IsZ w (.slice a len cap) xs := by
  rcases h with ⟨rfl, rfl, rfl, _⟩ | ⟨x, rfl, hl, hm, hz, hc, hw⟩
  · exact ⟨[], IsZ.nil w⟩
  · have hlen : (zs.take len).length = len := by simp; omega
    refine ⟨zs.take len, some x, cap, by rw [hlen], by omega, hm, fun i hi => ?_, fun y hy => ?_⟩
    · rw [hlen] at hi
      obtain ⟨b, off, rfl, hc2⟩ := ints_at hc (by omega)
      refine ⟨b, off, rfl, ?_⟩
      have hi2 : i < zs.length := by omega
      rw [hc2 i hi2]
      simp only [List.getD, List.getElem?_take_of_lt hi]
    · have hb := bounds_i64 (hw _ (List.mem_of_mem_take hy))
      omega

/-- A power of two. -/
def P2 (q : Nat) : Prop := ∃ k, q = 2 ^ k
theorem P2_one : P2 1 := ⟨0, rfl⟩
theorem P2_pos {q : Nat} (h : P2 q) : 0 < q := by
  obtain ⟨k, rfl⟩ := h
  exact Nat.pow_pos (by decide)
theorem P2_half {q : Nat} (h2 : q % 2 = 0) : P2 (q / 2) ↔ P2 q := by
  constructor
  · rintro ⟨k, e⟩
    exact ⟨k + 1, by rw [Nat.pow_succ, ← e]; omega⟩
  · rintro ⟨k, e⟩
    cases k with
    | zero => simp at e; omega
    | succ k => exact ⟨k, by rw [e, Nat.pow_succ]; omega⟩
theorem P2_odd {q : Nat} (h1 : 1 < q) (h2 : q % 2 = 1) : ¬ P2 q := by
  rintro ⟨k, e⟩
  cases k with
  | zero => simp at e; omega
  | succ k => rw [Nat.pow_succ] at e; omega

/-- The product of sizes. -/
def prd2 : List Nat → Nat
  | [] => 1
  | d :: ds => d * prd2 ds
theorem prd2_append (a b : List Nat) : prd2 (a ++ b) = prd2 a * prd2 b := by
  induction a with
  | nil => simp [prd2]
  | cons d a ih => simp only [List.cons_append, prd2, ih, Nat.mul_assoc]
theorem prd2_take (ds : List Nat) (i : Nat) (h : i < ds.length) : prd2 (ds.take (i + 1)) = prd2 (ds.take i) * ds.getD i 0 := by
  rw [List.take_add_one, prd2_append]
  congr 1
  simp [List.getD, h, prd2]
theorem prd2_pos {ds : List Nat} (h : ∀ d ∈ ds, 0 < d) : 0 < prd2 ds := by
  induction ds with
  | nil => decide
  | cons d ds ih => exact Nat.mul_pos (h d (by simp)) (ih fun x hx => h x (by simp [hx]))
theorem prd2_split (ds : List Nat) (i : Nat) : prd2 ds = prd2 (ds.take i) * prd2 (ds.drop i) := by
  rw [← prd2_append, List.take_append_drop]
theorem prd2_take_le {ds : List Nat} (h : ∀ d ∈ ds, 0 < d) (i : Nat) : prd2 (ds.take i) ≤ prd2 ds := by
  rw [prd2_split ds i]
  exact Nat.le_mul_of_pos_right _ (prd2_pos fun d hd => h d (List.mem_of_mem_drop hd))

/-- A list of sizes that may be a shape, but for how many numbers it has. -/
def Good (zs : List Int) (ds : List Nat) : Prop := 1 ≤ zs.length ∧ zs.length ≤ 3 ∧ zs = ds.map (fun (d : Nat) => (d : Int)) ∧ ∀ d ∈ ds, P2 d

end Go.Proofs.YtmggccepmicjhagGreatDoor

/-! What Shape of package goldref answers: how many numbers an array has, or which error. -/
namespace Go.Proofs.YtmggccepmicjhagGreatDoor
open Go.RowKit
set_option maxRecDepth 100000

theorem Good_all {zs : List Int} (h1 : 1 ≤ zs.length) (h2 : zs.length ≤ 3) (h : ∀ i, i < zs.length → ∃ q : Nat, zs.getD i 0 = (q : Int) ∧ P2 q) : ∃ ds, Good zs ds := by
  refine ⟨zs.map Int.toNat, h1, h2, ?_, ?_⟩
  · rw [List.map_map]
    refine (List.ext_getElem (by simp) fun i hi _ => ?_)
    obtain ⟨q, e, _⟩ := h i hi
    simp only [List.getD, List.getElem?_eq_getElem hi, Option.getD_some] at e
    simp [e]
  · intro d hd
    obtain ⟨z, hz, rfl⟩ := List.mem_map.mp hd
    obtain ⟨i, hi, rfl⟩ := List.mem_iff_getElem.mp hz
    obtain ⟨q, e, hq⟩ := h i hi
    simp only [List.getD, List.getElem?_eq_getElem hi, Option.getD_some] at e
    rw [e]
    simpa using hq
theorem Good_get {zs : List Int} {ds : List Nat} (h : Good zs ds) (i : Nat) (hi : i < zs.length) : zs.getD i 0 = ((ds.getD i 0 : Nat) : Int) ∧ P2 (ds.getD i 0) := by
  obtain ⟨_, _, e, hp⟩ := h
  have hl : i < ds.length := by rw [e, List.length_map] at hi; exact hi
  constructor
  · rw [e]; simp [List.getD, hl]
  · simp only [List.getD, List.getElem?_eq_getElem hl, Option.getD_some]
    exact hp _ (List.getElem_mem hl)

end Go.Proofs.YtmggccepmicjhagGreatDoor

/-! Slices of ints that hold natural numbers, as lists; bits read from the other end. -/
namespace Go.Proofs.YtmggccepmicjhagGreatDoor
open Go.RowKit
set_option maxRecDepth 100000

/-- The slice value v reads in the world w as the numbers xs, of type int. -/
def IsI (w : World) (v : Value) (xs : List Nat) : Prop :=
  ∃ (a : Option Addr) (cap : Nat), v = .slice a xs.length cap ∧ xs.length ≤ cap ∧ cap ≤ maxLen ∧
    (∀ i, i < xs.length → ∃ b off, a = some ⟨b, off, none⟩ ∧ w.cell? ⟨b, off + i, none⟩ = some (.int .i64 ((xs.getD i 0 : Nat) : Int)))
theorem IsI.below {w w' : World} {v : Value} {xs : List Nat} (h : IsI w v xs) (hb : Below w.heap.size w w') : IsI w' v xs := by
  obtain ⟨a, cap, rfl, h1, h2, hc⟩ := h
  refine ⟨a, cap, rfl, h1, h2, fun i hi => ?_⟩
  obtain ⟨b, off, rfl, hcell⟩ := hc i hi
  exact ⟨b, off, rfl, (hb.cell (block_lt hcell)).trans hcell⟩
theorem IsI.nil (w : World) : IsI w (.slice none 0 0) [] :=
  ⟨none, 0, rfl, by simp, by simp [maxLen], fun i hi => by simp at hi⟩
theorem IsI.cast {w : World} {v : Value} {l l' : List Nat} (h : IsI w v l) (e : l = l') : IsI w v l' := e ▸ h

/-- The first b of i's bits, read into k bits from the other end. -/
def rvK (k i : Nat) : Nat → Nat
  | 0 => 0
  | b + 1 => rvK k i b + i / 2 ^ b % 2 * 2 ^ (k - 1 - b)
/-- All k of them. -/
def rv (k i : Nat) : Nat := rvK k i k
/-- The numbers from 0 to 2^k - 1, each read from the other end. -/
def ord (k : Nat) : List Nat := (List.range (2 ^ k)).map (rv k)
theorem ord_length (k : Nat) : (ord k).length = 2 ^ k := by simp [ord]
theorem ord_get (k i : Nat) (h : i < 2 ^ k) : (ord k).getD i 0 = rv k i := by simp [ord, List.getD, h]

theorem rvK_dvd (k i b : Nat) (hb : b ≤ k) : 2 ^ (k - b) ∣ rvK k i b := by
  induction b with
  | zero => exact Nat.dvd_zero _
  | succ b ih =>
    rw [rvK]
    have h1 : 2 ^ (k - (b + 1)) ∣ rvK k i b := Nat.dvd_trans (Nat.pow_dvd_pow 2 (by omega)) (ih (by omega))
    have h2 : 2 ^ (k - (b + 1)) ∣ i / 2 ^ b % 2 * 2 ^ (k - 1 - b) := by
      rw [show k - (b + 1) = k - 1 - b by omega]
      exact Nat.dvd_mul_left _ _
    exact Nat.dvd_add h1 h2
theorem rvK_le (k i b : Nat) (hb : b ≤ k) : rvK k i b + 2 ^ (k - b) ≤ 2 ^ k := by
  induction b with
  | zero => simp [rvK]
  | succ b ih =>
    rw [rvK]
    have ih' := ih (by omega)
    have e : 2 ^ (k - b) = 2 ^ (k - 1 - b) + 2 ^ (k - 1 - b) := by
      rw [show k - b = k - 1 - b + 1 by omega, Nat.pow_succ]; omega
    rw [show k - (b + 1) = k - 1 - b by omega]
    have h2 : i / 2 ^ b % 2 * 2 ^ (k - 1 - b) ≤ 2 ^ (k - 1 - b) := by
      generalize 2 ^ (k - 1 - b) = q
      rcases Nat.mod_two_eq_zero_or_one (i / 2 ^ b) with h | h <;> rw [h] <;> omega
    omega
theorem bit_lt (k i b : Nat) (hb : b < k) : i / 2 ^ b % 2 * 2 ^ (k - 1 - b) < 2 ^ (k - b) := by
  have e : 2 ^ (k - b) = 2 ^ (k - 1 - b) + 2 ^ (k - 1 - b) := by
    rw [show k - b = k - 1 - b + 1 by omega, Nat.pow_succ]; omega
  have hp : 0 < 2 ^ (k - 1 - b) := Nat.pow_pos (by decide)
  rcases Nat.mod_two_eq_zero_or_one (i / 2 ^ b) with h | h <;> rw [h] <;> omega

theorem wraps_i64 (n : Int) (h1 : 0 ≤ n) (h2 : n < 2 ^ 62) : IntKind.i64.wrap n = n := by rw [IntKind.wrap_i64]; omega
theorem and_one (x : Nat) (hx : x ≤ 1024) : bits .and .i64 (x : Int) 1 = ((x % 2 : Nat) : Int) := by
  have := (bits_nat .i64 62 (by decide) wraps_i64 x 1 (by omega) (by decide)).1
  rw [Nat.and_one_is_mod] at this
  exact this
theorem or_join (r y s : Nat) (hd : 2 ^ s ∣ r) (hy : y < 2 ^ s) (hr : r < 2 ^ 62) (hy2 : y < 2 ^ 62) : bits .or .i64 (r : Int) (y : Int) = ((r + y : Nat) : Int) := by
  rw [(bits_nat .i64 62 (by decide) wraps_i64 r y hr hy2).2]
  obtain ⟨c, rfl⟩ := hd
  rw [← Nat.two_pow_add_eq_or_of_lt hy c]
theorem rv_or (k i b : Nat) (hb : b < k) (hk : 2 ^ k ≤ 1024) (hi : i ≤ 1024) :
    bits .or .i64 ((rvK k i b : Nat) : Int) (wrap64 (bits .and .i64 ((i : Int) / 2 ^ b) 1 * 2 ^ (k - 1 - b))) = ((rvK k i (b + 1) : Nat) : Int) := by
  have hp2 : ∀ t : Nat, (2 : Int) ^ t = ((2 ^ t : Nat) : Int) := fun t => by rw [Int.natCast_pow]; rfl
  have hdiv : (i : Int) / 2 ^ b = ((i / 2 ^ b : Nat) : Int) := by rw [hp2, ← Int.natCast_ediv]
  have hdl : i / 2 ^ b ≤ 1024 := Nat.le_trans (Nat.div_le_self _ _) hi
  have h3 := bit_lt k i b hb
  have h4 := rvK_le k i b (by omega)
  have h5 := rvK_dvd k i b (by omega)
  have h7 : 2 ^ (k - b) ≤ 2 ^ k := Nat.pow_le_pow_right (by decide) (by omega)
  have e2 : ((i / 2 ^ b % 2 : Nat) : Int) * 2 ^ (k - 1 - b) = ((i / 2 ^ b % 2 * 2 ^ (k - 1 - b) : Nat) : Int) := by
    rw [hp2, ← Int.natCast_mul]
  rw [hdiv, and_one _ hdl, e2, show rvK k i (b + 1) = rvK k i b + i / 2 ^ b % 2 * 2 ^ (k - 1 - b) from rfl]
  clear hdiv e2
  generalize i / 2 ^ b % 2 * 2 ^ (k - 1 - b) = y at *
  have e3 : wrap64 (y : Int) = (y : Int) := by unfold wrap64; omega
  rw [e3]
  generalize rvK k i b = r at *
  have hr : r < 2 ^ 62 := by omega
  have hy : y < 2 ^ 62 := by omega
  exact or_join r y (k - b) h5 h3 hr hy

end Go.Proofs.YtmggccepmicjhagGreatDoor

/-! The cells of a list of ints; what is owned reads as such a list. -/
namespace Go.Proofs.YtmggccepmicjhagGreatDoor
open Go.RowKit
set_option maxRecDepth 100000

def cellsI (xs : List Nat) : List Value := xs.map fun (x : Nat) => Value.int .i64 (x : Int)
theorem cellsI_length (xs : List Nat) : (cellsI xs).length = xs.length := by simp [cellsI]
theorem cellsI_append (xs ys : List Nat) : cellsI (xs ++ ys) = cellsI xs ++ cellsI ys := by simp [cellsI]
theorem cellsI_get (xs : List Nat) (i : Nat) (h : i < xs.length) : (cellsI xs)[i]? = some (.int .i64 ((xs.getD i 0 : Nat) : Int)) := by
  simp [cellsI, List.getD, h]
theorem cellsI_set (xs : List Nat) (j v : Nat) : (cellsI xs).set j (.int .i64 (v : Int)) = cellsI (xs.set j v) := by
  unfold cellsI
  rw [List.map_set]
theorem IsI.of_owns {w : World} {base e n : Nat} {v : Value} {xs : List Nat} (h : w.ownsRow base e 1 v n (cellsI xs)) : IsI w v xs := by
  have h0 := h
  obtain ⟨hl, hv⟩ := h
  have hn : xs.length = n := by rw [cellsI_length] at hl; omega
  subst hn
  rcases hv with ⟨rfl, h2⟩ | ⟨g, cap, cur, rfl, hg, hh, hc, hm, hs, ht⟩
  · have : xs = [] := List.eq_nil_of_length_eq_zero h2
    subst this
    exact IsI.nil w
  · refine ⟨some ⟨g, 0, none⟩, cap, rfl, hc, hm, fun i hi => ⟨g, 0, rfl, ?_⟩⟩
    have := h0.cellAt i (by omega)
    rw [Nat.zero_add, this, cellsI_get xs i hi]

theorem info_int : (Tryz.prog.info? 3).map (fun i => (i.zero, i.size, i.bytes)) = some (some (.int .i64 0), 1, 8) := by kernel_rfl

end Go.Proofs.YtmggccepmicjhagGreatDoor

/-! One int is appended to a slice that the call itself made. -/
namespace Go.Proofs.YtmggccepmicjhagGreatDoor
open Go.RowKit
set_option maxRecDepth 100000

theorem wp_appendI {ops : Array Oper} {rest : List Oper} {o : Oper} {a : Act} {Q : Exit → Act → World → Prop} {w w0 : World} (hgd : o.guard = none) (s x : Operand)
    (ho : o.op = .call { callee := .builtin .append, args := #[s, x], argTypes := #[97, 97] }) (v : Value) (n : Nat) (xs : List Value) (z : Nat)
    (hs : a.eval s = v) (hown : w.ownsRow w0.heap.size 3 1 v n xs) (hx : a.eval x = .slice (some ⟨w.heap.size, 0, none⟩) 1 1)
    (hn : n ≤ 1000000000) (hnx : Below w0.heap.size w0 w)
    (h : ∀ v' w', w'.ownsRow w0.heap.size 3 1 v' (n + 1) (xs ++ [.int .i64 (z : Int)]) → Below w0.heap.size w0 w' → wpList Tryz.prog ops Q rest (a.put o.dst v') w') :
    wpList Tryz.prog ops Q (o :: rest) a (w.alloc (.cells #[.int .i64 (z : Int)] 3)) := by
  obtain ⟨i0, hi, hz0, hz1, hz2⟩ := info_parts info_int
  have hsz := hnx.size
  refine wpList_append_own _ hgd s x 97 ho w0.heap.size 3 i0 (.int .i64 0) 1 8 Tryz.underlying97 hi hz0 hz1 hz2 rfl (by decide) v n xs hs (hown.alloc _) ⟨w.heap.size, 0, none⟩ 1 1 [.int .i64 (z : Int)] hx rfl ?_ ?_ ?_ ?_ ?_ ?_
  · intro j u hj
    match j, hj with
    | 0, hj => simp at hj; subst hj; simp [Addr.add]
  · intro u hu; simp at hu; subst hu; rfl
  · unfold maxLen; omega
  · omega
  · simp; omega
  · intro v' w' hown' hgrow _
    exact h v' w' hown' ((hnx.alloc hsz _).grown hgrow (by simp; omega) (owns_block hown))

/-- The same as a step of a region that draws its order. -/
theorem step_appendI {ops : Array Oper} {o : Oper} {a : Act} {K : Act → World → Prop} {Q : Exit → Act → World → Prop} {E : Prop} {w w0 : World} (hgd : o.guard = none) (s x : Operand)
    (ho : o.op = .call { callee := .builtin .append, args := #[s, x], argTypes := #[97, 97] }) (v : Value) (n : Nat) (xs : List Value) (z : Nat)
    (hs : a.eval s = v) (hx : a.eval x = .slice (some ⟨w.heap.size, 0, none⟩) 1 1) (hown : w.ownsRow w0.heap.size 3 1 v n xs)
    (hn : n ≤ 1000000000) (hnx : Below w0.heap.size w0 w)
    (h : ∀ v' w', w'.ownsRow w0.heap.size 3 1 v' (n + 1) (xs ++ [.int .i64 (z : Int)]) → Below w0.heap.size w0 w' → K (a.put o.dst v') w') :
    if Region.wanted o (yielded ops a.tmps) = true then Oper.wp Tryz.prog o a (w.alloc (.cells #[.int .i64 (z : Int)] 3)) K Q else E := by
  obtain ⟨i0, hi, hz0, hz1, hz2⟩ := info_parts info_int
  have hsz := hnx.size
  refine step_append_lies _ hgd s x 97 ho w0.heap.size 3 i0 (.int .i64 0) 1 8 Tryz.underlying97 hi hz0 hz1 hz2 rfl (by decide) v n xs hs (hown.alloc _) ⟨w.heap.size, 0, none⟩ 1 1 [.int .i64 (z : Int)] hx rfl ?_ ?_ (by decide) ?_ ?_ ?_ _ rfl ?_
  · intro j u hj
    match j, hj with
    | 0, hj => simp at hj; subst hj; simp [Addr.add]
  · intro u hu; simp at hu; subst hu; rfl
  · unfold maxLen; omega
  · omega
  · simp; omega
  · intro g cap w' hown' hgrow _ _
    exact h _ w' hown' ((hnx.alloc hsz _).grown hgrow (by simp; omega) (owns_block hown))

theorem wp_appendX {ops : Array Oper} {rest : List Oper} {o : Oper} {a : Act} {Q : Exit → Act → World → Prop} {w w0 : World} (hgd : o.guard = none) (s x : Operand)
    (ho : o.op = .call { callee := .builtin .append, args := #[s, x], argTypes := #[97, 97] }) (v : Value) (n : Nat) (xs : List Value) (z : Nat)
    (hs : a.eval s = v) (hown : w.ownsRow w0.heap.size 3 1 v n xs) (hx : a.eval x = .slice (some ⟨w.heap.size, 0, none⟩) 1 1)
    (hn : n ≤ 1000000) (hnx : Below w0.heap.size w0 w)
    (h : ∀ g cap w', w'.ownsRow w0.heap.size 3 1 (.slice (some ⟨g, 0, none⟩) (n + 1) cap) (n + 1) (xs ++ [.int .i64 (z : Int)]) → Below w0.heap.size w0 w' → (∀ b, b < w.heap.size → v.ownBlock ≠ some b → w'.heap[b]? = w.heap[b]?) → Hid (v.ownBlock = some g ∨ w.heap.size < g) → g < w'.heap.size → w.heap.size ≤ w'.heap.size → wpList Tryz.prog ops Q rest (a.put o.dst (.slice (some ⟨g, 0, none⟩) (n + 1) cap)) w') :
    wpList Tryz.prog ops Q (o :: rest) a (w.alloc (.cells #[.int .i64 (z : Int)] 3)) := by
  obtain ⟨i0, hi, hz0, hz1, hz2⟩ := info_parts info_int
  have hsz := hnx.size
  refine wpList_append_lies _ hgd s x 97 ho w0.heap.size 3 i0 (.int .i64 0) 1 8 Tryz.underlying97 hi hz0 hz1 hz2 rfl (by decide) v n xs hs (hown.alloc _) ⟨w.heap.size, 0, none⟩ 1 1 [.int .i64 (z : Int)] hx rfl ?_ ?_ (by decide) ?_ ?_ ?_ _ rfl ?_
  · intro j u hj
    match j, hj with
    | 0, hj => simp at hj; subst hj; simp [Addr.add]
  · intro u hu; simp at hu; subst hu; rfl
  · unfold maxLen; omega
  · omega
  · simp; omega
  · intro g cap w' hown' hgrow hat hlt
    have hal : (w.alloc (.cells #[.int .i64 (z : Int)] 3)).heap.size = w.heap.size + 1 := by simp
    refine h g cap w' hown' ((hnx.alloc hsz _).grown hgrow (by simp; omega) (owns_block hown)) (fun b hb hne => ?_) ?_ hlt ?_
    · rw [hgrow.block b (by rw [hal]; omega) (fun e => hne e.symm)]
      exact Below.heap_alloc _ _ _ hb
    · rcases hat with h1 | h1
      · exact .inl h1
      · exact .inr (by rw [h1, hal]; omega)
    · have := hgrow.size
      omega


end Go.Proofs.YtmggccepmicjhagGreatDoor
