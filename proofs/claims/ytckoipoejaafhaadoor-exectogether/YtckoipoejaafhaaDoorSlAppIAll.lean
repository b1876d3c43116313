/-
  Texts that stood one behind the other, as one.
-/
import Derived.Test.YtckoipoejaafhaaDoorSlAll
import Derived.Deep.RegionLaw
import Derived.Deep.AppendLies
import Derived.BigQuiet
import Derived.Deep.RegionWith
/-! One int is appended to a slice that the call itself made. -/
namespace Go.Proofs.YtckoipoejaafhaaDoor
open Go.RowKit
set_option maxRecDepth 100000

/-- The same as a step of a region that draws its order. -/
theorem step_appendI {ops : Array Oper} {o : Oper} {a : Act} {K : Act → World → Prop} {Q : Exit → Act → World → Prop} {E : Prop} {w w0 : World} (hgd : o.guard = none) (s x : Operand)
    (ho : o.op = .call { callee := .builtin .append, args := #[s, x], argTypes := #[22, 22] }) (v : Value) (n : Nat) (xs : List Value) (z : Nat)
    (hs : a.eval s = v) (hx : a.eval x = .slice (some ⟨w.heap.size, 0, none⟩) 1 1) (hown : w.ownsRow w0.heap.size 3 1 v n xs)
    (hn : n ≤ 1000000000) (hnx : Below w0.heap.size w0 w)
    (h : ∀ v' w', w'.ownsRow w0.heap.size 3 1 v' (n + 1) (xs ++ [.int .i64 (z : Int)]) → Below w0.heap.size w0 w' → K (a.put o.dst v') w') :
    if Region.wanted o (yielded ops a.tmps) = true then Oper.wp Tryd.prog o a (w.alloc (.cells #[.int .i64 (z : Int)] 3)) K Q else E := by
  obtain ⟨i0, hi, hz0, hz1, hz2⟩ := info_parts info_int
  have hsz := hnx.size
  refine step_append_lies _ hgd s x 22 ho w0.heap.size 3 i0 (.int .i64 0) 1 8 Tryd.underlying22 hi hz0 hz1 hz2 rfl (by decide) v n xs hs (hown.alloc _) ⟨w.heap.size, 0, none⟩ 1 1 [.int .i64 (z : Int)] hx rfl ?_ ?_ (by decide) ?_ ?_ ?_ _ rfl ?_
  · intro j u hj
    match j, hj with
    | 0, hj => simp at hj; subst hj; simp [Addr.add]
  · intro u hu; simp at hu; subst hu; rfl
  · unfold maxLen; omega
  · omega
  · simp; omega
  · intro g cap w' hown' hgrow _ _
    exact h _ w' hown' ((hnx.alloc hsz _).grown hgrow (by simp; omega) (owns_block hown))

theorem wp_appendX {ops : Array Oper} {rest : List Oper} {o : Oper} {a : Act} {Q : Exit → Act → World → Prop} {w w0 : World} (hgd : o.guard = none) (s x : Operand)
    (ho : o.op = .call { callee := .builtin .append, args := #[s, x], argTypes := #[22, 22] }) (v : Value) (n : Nat) (xs : List Value) (z : Nat)
    (hs : a.eval s = v) (hown : w.ownsRow w0.heap.size 3 1 v n xs) (hx : a.eval x = .slice (some ⟨w.heap.size, 0, none⟩) 1 1)
    (hn : n ≤ 1000000) (hnx : Below w0.heap.size w0 w)
    (h : ∀ g cap w', w'.ownsRow w0.heap.size 3 1 (.slice (some ⟨g, 0, none⟩) (n + 1) cap) (n + 1) (xs ++ [.int .i64 (z : Int)]) → Below w0.heap.size w0 w' → (∀ b, b < w.heap.size → v.ownBlock ≠ some b → w'.heap[b]? = w.heap[b]?) → Hid (v.ownBlock = some g ∨ w.heap.size < g) → g < w'.heap.size → w.heap.size ≤ w'.heap.size → wpList Tryd.prog ops Q rest (a.put o.dst (.slice (some ⟨g, 0, none⟩) (n + 1) cap)) w') :
    wpList Tryd.prog ops Q (o :: rest) a (w.alloc (.cells #[.int .i64 (z : Int)] 3)) := by
  obtain ⟨i0, hi, hz0, hz1, hz2⟩ := info_parts info_int
  have hsz := hnx.size
  refine wpList_append_lies _ hgd s x 22 ho w0.heap.size 3 i0 (.int .i64 0) 1 8 Tryd.underlying22 hi hz0 hz1 hz2 rfl (by decide) v n xs hs (hown.alloc _) ⟨w.heap.size, 0, none⟩ 1 1 [.int .i64 (z : Int)] hx rfl ?_ ?_ (by decide) ?_ ?_ ?_ _ rfl ?_
  · intro j u hj
    match j, hj with
    | 0, hj => simp at hj; subst hj; simp [Addr.add]
  · intro u hu; simp at hu; subst hu; rfl
  · unfold maxLen; omega
  · omega
  · simp; omega
  · intro g cap w' hown' hgrow hat hlt
    have hal : (w.alloc (.cells #[.int .i64 (z : Int)] 3)).heap.size = w.heap.size + 1 := by simp
    refine h g cap w' hown' ((hnx.alloc hsz _).grown hgrow (by simp; omega) (owns_block hown)) (fun b hb hne => ?_) ?_ hlt ?_
    · rw [hgrow.block b (by rw [hal]; omega) (fun e => hne e.symm)]
      exact Below.heap_alloc _ _ _ hb
    · rcases hat with h1 | h1
      · exact .inl h1
      · exact .inr (by rw [h1, hal]; omega)
    · have := hgrow.size
      omega

theorem info_ints : (Tryd.prog.info? 22).map (fun i => (i.zero, i.size, i.bytes)) = some (some (.slice none 0 0), 1, 24) := by kernel_rfl

theorem wp_appendS {ops : Array Oper} {rest : List Oper} {o : Oper} {a : Act} {Q : Exit → Act → World → Prop} {w w0 : World} (hgd : o.guard = none) (s x : Operand)
    (ho : o.op = .call { callee := .builtin .append, args := #[s, x], argTypes := #[110, 110] }) (v : Value) (n : Nat) (xs : List Value) (p : Option Addr) (l c : Nat)
    (hs : a.eval s = v) (hown : w.ownsRow w0.heap.size 22 1 v n xs) (hx : a.eval x = .slice (some ⟨w.heap.size, 0, none⟩) 1 1)
    (hn : n ≤ 1000000) (hnx : Below w0.heap.size w0 w)
    (h : ∀ g cap w', w'.ownsRow w0.heap.size 22 1 (.slice (some ⟨g, 0, none⟩) (n + 1) cap) (n + 1) (xs ++ [.slice p l c]) → Below w0.heap.size w0 w' → (∀ b, b < w.heap.size → v.ownBlock ≠ some b → w'.heap[b]? = w.heap[b]?) → Hid (v.ownBlock = some g ∨ w.heap.size < g) → g < w'.heap.size → w.heap.size ≤ w'.heap.size → wpList Tryd.prog ops Q rest (a.put o.dst (.slice (some ⟨g, 0, none⟩) (n + 1) cap)) w') :
    wpList Tryd.prog ops Q (o :: rest) a (w.alloc (.cells #[.slice p l c] 22)) := by
  obtain ⟨i0, hi, hz0, hz1, hz2⟩ := info_parts info_ints
  have hsz := hnx.size
  refine wpList_append_lies _ hgd s x 110 ho w0.heap.size 22 i0 (.slice none 0 0) 1 24 Tryd.underlying110 hi hz0 hz1 hz2 rfl (by decide) v n xs hs (hown.alloc _) ⟨w.heap.size, 0, none⟩ 1 1 [.slice p l c] hx rfl ?_ ?_ (by decide) ?_ ?_ ?_ _ rfl ?_
  · intro j u hj
    match j, hj with
    | 0, hj => simp at hj; subst hj; simp [Addr.add]
  · intro u hu; simp at hu; subst hu; rfl
  · unfold maxLen; omega
  · omega
  · simp; omega
  · intro g cap w' hown' hgrow hat hlt
    have hal : (w.alloc (.cells #[.slice p l c] 22)).heap.size = w.heap.size + 1 := by simp
    refine h g cap w' hown' ((hnx.alloc hsz _).grown hgrow (by simp; omega) (owns_block hown)) (fun b hb hne => ?_) ?_ hlt ?_
    · rw [hgrow.block b (by rw [hal]; omega) (fun e => hne e.symm)]
      exact Below.heap_alloc _ _ _ hb
    · rcases hat with h1 | h1
      · exact .inl h1
      · exact .inr (by rw [h1, hal]; omega)
    · have := hgrow.size
      omega

end Go.Proofs.YtckoipoejaafhaaDoor

/-! What Places and Place of package goldref answer: the places of a number of an array, and back. -/
namespace Go.Proofs.YtckoipoejaafhaaDoor
open Go.RowKit
set_option maxRecDepth 100000

/-- How many numbers one step of axis i goes over; of the axes up to j. -/
def und (ds : List Nat) (i : Nat) : Nat := prd2 (ds.drop (i + 1))
def undK (ds : List Nat) (i j : Nat) : Nat := prd2 ((ds.drop (i + 1)).take (j - (i + 1)))
/-- The places of number k. -/
def plc (ds : List Nat) (k i : Nat) : Nat := k / und ds i % ds.getD i 0
def plcs (ds : List Nat) (k n : Nat) : List Nat := (List.range n).map (plc ds k)
theorem plcs_length (ds : List Nat) (k n : Nat) : (plcs ds k n).length = n := by simp [plcs]
theorem plcs_succ (ds : List Nat) (k n : Nat) : plcs ds k (n + 1) = plcs ds k n ++ [plc ds k n] := by
  simp [plcs, List.range_succ]
theorem undK_start (ds : List Nat) (i : Nat) : undK ds i (i + 1) = 1 := by simp [undK, prd2]
theorem undK_step (ds : List Nat) (i j : Nat) (h1 : i + 1 ≤ j) (h2 : j < ds.length) : undK ds i (j + 1) = undK ds i j * ds.getD j 0 := by
  unfold undK
  rw [show j + 1 - (i + 1) = j - (i + 1) + 1 by omega, prd2_take _ _ (by rw [List.length_drop]; omega)]
  congr 1
  simp [List.getD, List.getElem?_drop, show i + 1 + (j - (i + 1)) = j by omega]
theorem undK_end (ds : List Nat) (i : Nat) : undK ds i ds.length = und ds i := by
  unfold undK und
  rw [List.take_of_length_le (by rw [List.length_drop]; omega)]
theorem undK_le {ds : List Nat} (hp : ∀ d ∈ ds, 0 < d) (i j : Nat) : undK ds i j ≤ prd2 ds := by
  unfold undK
  refine Nat.le_trans (prd2_take_le (fun d hd => hp d (List.mem_of_mem_drop hd)) _) ?_
  rw [prd2_split ds (i + 1)]
  exact Nat.le_mul_of_pos_left _ (prd2_pos fun d hd => hp d (List.mem_of_mem_take hd))
theorem undK_pos {ds : List Nat} (hp : ∀ d ∈ ds, 0 < d) (i j : Nat) : 0 < undK ds i j :=
  prd2_pos fun d hd => hp d (List.mem_of_mem_drop (List.mem_of_mem_take hd))

def rowP (ds : List Nat) (k n : Nat) : List Value := cellsI (plcs ds k n)
theorem rowP_succ (ds : List Nat) (k n : Nat) : rowP ds k (n + 1) = rowP ds k n ++ [.int .i64 ((plc ds k n : Nat) : Int)] := by
  unfold rowP; rw [plcs_succ, cellsI_append]; rfl

set_option maxHeartbeats 4000000 in
theorem ref_Places (w : World) (v : Value) (zs : List Int) (ds : List Nat) (k : Nat) (h : IsZ w v zs) (hG : Good zs ds) (hn : prd2 ds ≤ 1024) (hk : k ≤ 1024) :
    Calls Tryd.prog 50 #[v, .int .i64 (k : Int)] w fun e w' => ∃ u, e = .returned u ∧ w'.ownsRow w.heap.size 3 1 u ds.length (rowP ds k ds.length) ∧ Below w.heap.size w w' := by
  obtain ⟨a, cap, rfl, hcap, hmax, hc, hr⟩ := h
  have hlen : zs.length = ds.length := by rw [hG.2.2.1, List.length_map]
  have hpos : Hid (∀ d ∈ ds, 0 < d) := fun d hd => P2_pos (hG.2.2.2 d hd)
  have hG' : Hid (Good zs ds) := hG
  have hc' : ∀ i, i < ds.length → ∃ b off, a = some ⟨b, off, none⟩ ∧ w.cell? ⟨b, off + i, none⟩ = some (.int .i64 ((ds.getD i 0 : Nat) : Int)) := fun i hi => by
    obtain ⟨b, off, e, hcell⟩ := hc i (by omega)
    rw [(Good_get hG i (by omega)).1] at hcell
    exact ⟨b, off, e, hcell⟩
  have h3 : ds.length ≤ 3 := by rw [← hlen]; exact hG.2.1
  have hds : Hid (∀ i, ds.getD i 0 ≤ 1024) := fun i => by
    rcases Nat.lt_or_ge i ds.length with hi | hi
    · have h1 := prd2_take ds i hi
      have h2 := prd2_take_le hpos.out (i + 1)
      have h3 : 0 < prd2 (ds.take i) := prd2_pos fun d hd => hpos.out d (List.mem_of_mem_take hd)
      have h4 : ds.getD i 0 ≤ prd2 (ds.take i) * ds.getD i 0 := Nat.le_mul_of_pos_left _ h3
      omega
    · simp [List.getD, List.getElem?_eq_none hi]
  rw [hlen]
  clear hcap hmax hc hr hG hlen
  go_enter Tryd.func50, Tryd.ntmps50
  go_wp2
  go_loopw [5, 6] (fun u vi wr => ∃ i : Nat, i ≤ ds.length ∧ vi = .int .i64 (i : Int) ∧ wr.ownsRow w.heap.size 3 1 u i (rowP ds k i) ∧ Below w.heap.size w wr)
    (fun _ vi _ => ds.length - (intOf vi).toNat)
  case atStart => exact ⟨0, Nat.zero_le _, rfl, World.ownsRow_nil _ _ _ _, Below.refl _ _⟩
  case round =>
    obtain ⟨i, hi, rfl, hown, hnx⟩ := hrel
    by_cases hlt : i < ds.length
    · go_wp2
      obtain ⟨wo, hwo⟩ : ∃ wo : World, wo = wr := ⟨_, rfl⟩
      rw [← hwo] at hown hnx ⊢
      clear hwo
      go_loop [7, 8] (fun vu vj => ∃ j : Nat, j ≤ ds.length ∧ i + 1 ≤ j ∧ vj = .int .i64 (j : Int) ∧ vu = .int .i64 ((undK ds i j : Nat) : Int))
        (fun _ vj => ds.length - (intOf vj).toNat)
      case atStart => exact ⟨i + 1, by omega, Nat.le_refl _, rfl, by rw [undK_start]; rfl⟩
      case round =>
        obtain ⟨j, hj1, hj2, rfl, rfl⟩ := hrel
        have hu9 := Nat.le_trans (undK_le hpos.out i j) hn
        have hu0 := undK_pos hpos.out i j
        by_cases hjl : j < ds.length
        · obtain ⟨b, off, rfl, hcell0⟩ := hc' j hjl
          have hcell := (hnx.cell (block_lt hcell0)).trans hcell0
          have hd9 := hds.out j
          have hst := undK_step ds i j hj2 hjl
          obtain ⟨r, hr0⟩ : ∃ r : Nat, r = undK ds i j * ds.getD j 0 := ⟨_, rfl⟩
          have hmul : (undK ds i j : Int) * (ds.getD j 0 : Int) = (r : Int) := by rw [hr0, Int.natCast_mul]
          have hr9 : r ≤ 1048576 := by rw [hr0]; exact Nat.mul_le_mul hu9 hd9
          have hr1 : Hid (undK ds i (j + 1) = r) := hst.trans hr0.symm
          clear hst hr0 hcell0 hc'
          generalize undK ds i j = q at *
          generalize ds.getD j 0 = d at *
          go_wp2
          go_round
          case rel => exact ⟨j + 1, by omega, by omega, by go_num, by rw [hr1.out]⟩
          case measure => simp only [intOf]; omega
        · have e : undK ds i j = und ds i := by rw [← undK_end, show j = ds.length by omega]
          obtain ⟨b, off, rfl, hcell0⟩ := hc' i hlt
          have hcell := (hnx.cell (block_lt hcell0)).trans hcell0
          have hd0 : 0 < ds.getD i 0 := P2_pos (Good_get hG'.out i (by have := hG'.out.2.2.1; rw [this, List.length_map]; exact hlt)).2
          rw [e] at hu9 hu0 ⊢
          have hquo : (k : Int).tdiv (und ds i : Int) = ((k / und ds i : Nat) : Int) := by rw [Int.tdiv_eq_ediv_of_nonneg (by omega), Int.natCast_ediv]
          have hrem : ((k / und ds i : Nat) : Int).tmod (ds.getD i 0 : Int) = ((plc ds k i : Nat) : Int) := by rw [Int.tmod_eq_emod_of_nonneg (Int.natCast_nonneg _), plc, Int.natCast_emod]
          have hquo' : (k : Int) / (und ds i : Int) = ((k / und ds i : Nat) : Int) := by rw [Int.natCast_ediv]
          have hrem' : ((k / und ds i : Nat) : Int) % (ds.getD i 0 : Int) = ((plc ds k i : Nat) : Int) := by rw [plc, Int.natCast_emod]
          have hq9 : k / und ds i ≤ 1024 := Nat.le_trans (Nat.div_le_self _ _) hk
          have hp9 : plc ds k i ≤ 1024 := Nat.le_trans (Nat.mod_le _ _) hq9
          have hnew := rowP_succ ds k i
          have hrow : Hid (∀ (w1 : World) (u : Value), w1.ownsRow w.heap.size 3 1 u (i + 1) (rowP ds k i ++ [.int .i64 ((plc ds k i : Nat) : Int)]) → w1.ownsRow w.heap.size 3 1 u (i + 1) (rowP ds k (i + 1))) := fun w1 u h => by rw [hnew]; exact h
          have hge : ds.length ≤ j := by omega
          have hi9 : i ≤ 1000000000 := by omega
          have hd9 := hds.out i
          have huz : ¬ und ds i = 0 := by omega
          have hdz : ¬ ds.getD i 0 = 0 := by omega
          have hwq : IntKind.i64.wrap ((k / und ds i : Nat) : Int) = ((k / und ds i : Nat) : Int) := wraps_i64 _ (Int.natCast_nonneg _) (by omega)
          have hwz : IntKind.i64.wrap ((plc ds k i : Nat) : Int) = ((plc ds k i : Nat) : Int) := wraps_i64 _ (Int.natCast_nonneg _) (by omega)
          clear hnew hcell0 hc' e
          generalize plc ds k i = z at *
          generalize k / und ds i = q at *
          generalize und ds i = u at *
          generalize ds.getD i 0 = d at *
          go_wp2
          go_region_law (refine step_appendI (w := wo.drew) rfl (.tmp 29) (.tmp 38) rfl u5 i (rowP ds k i) z (by simp [Act.eval]) (by simp [Act.eval]) hown.drew hi9 hnx.drew ?_; intro v' w1 hown' hnx')
          all_goals
            have hown2 := hrow.out _ _ hown'
            clear hown' hown hrow hnx hcell
            go_wp2
            go_roundw
            case rel => exact ⟨i + 1, by omega, by go_num, hown2, hnx'⟩
            case measure => simp only [intOf]; omega
    · have e : i = ds.length := by omega
      subst e
      clear hc'
      go_wp2
      go_ret
      exact ⟨_, rfl, hown, hnx⟩

/-- The number at places p, the first n axes. -/
def plf (ds p : List Nat) : Nat → Nat
  | 0 => 0
  | n + 1 => plf ds p n * ds.getD n 0 + p.getD n 0
theorem plf_le (ds p : List Nat) (hd : ∀ i, ds.getD i 0 ≤ 1024) (hp : ∀ i, p.getD i 0 ≤ 1024) (n : Nat) : plf ds p n + 1 ≤ 1025 ^ n := by
  induction n with
  | zero => simp [plf]
  | succ n ih =>
    rw [plf, Nat.pow_succ]
    have h1 : plf ds p n * ds.getD n 0 ≤ plf ds p n * 1024 := Nat.mul_le_mul_left _ (hd n)
    have h2 := hp n
    omega
theorem drop_prd (ds : List Nat) (n : Nat) (h : n < ds.length) : prd2 (ds.drop n) = ds.getD n 0 * und ds n := by
  rw [List.drop_eq_getElem_cons h, prd2, und]
  simp [List.getD, h]
/-- The places of k make k. -/
theorem plf_plcs (ds : List Nat) (k : Nat) (hpos : ∀ d ∈ ds, 0 < d) (hk : k < prd2 ds) (n : Nat) (hn : n ≤ ds.length) : plf ds (plcs ds k ds.length) n = k / prd2 (ds.drop n) := by
  induction n with
  | zero => rw [plf, List.drop_zero, Nat.div_eq_of_lt hk]
  | succ n ih =>
    have hu : 0 < und ds n := prd2_pos fun d hd => hpos d (List.mem_of_mem_drop hd)
    rw [plf, ih (by omega), drop_prd ds n (by omega), Nat.mul_comm (ds.getD n 0), ← Nat.div_div_eq_div_mul]
    have e : (plcs ds k ds.length).getD n 0 = k / und ds n % ds.getD n 0 := by simp [plcs, List.getD, show n < ds.length by omega, plc]
    rw [e]
    show _ = k / und ds n
    rw [Nat.mul_comm]
    exact Nat.div_add_mod _ _
theorem plf_set (ds : List Nat) (k : Nat) (hpos : ∀ d ∈ ds, 0 < d) (hk : k < prd2 ds) (x t : Nat) (hx : x < ds.length) (h0 : plc ds k x = 0) (n : Nat) (hn : n ≤ ds.length) :
    plf ds ((plcs ds k ds.length).set x t) n = k / prd2 (ds.drop n) + (if x < n then t * undK ds x n else 0) := by
  induction n with
  | zero => rw [plf, List.drop_zero, Nat.div_eq_of_lt hk, if_neg (by omega)]
  | succ n ih =>
    have ih' := ih (by omega)
    have hs := plf_plcs ds k hpos hk (n + 1) hn
    have hs0 := plf_plcs ds k hpos hk n (by omega)
    rw [plf, hs0] at hs
    rw [plf, ih']
    by_cases e : n = x
    · subst e
      have e1 : ((plcs ds k ds.length).set n t).getD n 0 = t := by simp [List.getD, plcs_length, hx]
      have e2 : (plcs ds k ds.length).getD n 0 = 0 := by simp [plcs, List.getD, hx, h0]
      rw [e2] at hs
      rw [e1, if_neg (by omega), if_pos (by omega), undK_start, Nat.add_zero, Nat.mul_one, ← hs, Nat.add_zero]
    · have e1 : ((plcs ds k ds.length).set x t).getD n 0 = (plcs ds k ds.length).getD n 0 := by simp [List.getD, Ne.symm e]
      rw [e1]
      by_cases h1 : x < n
      · rw [if_pos h1, if_pos (by omega), undK_step ds x n (by omega) (by omega), ← hs, Nat.add_mul, Nat.mul_assoc]
        omega
      · rw [if_neg h1, if_neg (by omega), Nat.add_zero, Nat.add_zero]; exact hs
/-- Along axis x from number k on, whose place there is 0. -/
theorem plf_line (ds : List Nat) (k : Nat) (hpos : ∀ d ∈ ds, 0 < d) (hk : k < prd2 ds) (x t : Nat) (hx : x < ds.length) (h0 : plc ds k x = 0) : plf ds ((plcs ds k ds.length).set x t) ds.length = k + t * und ds x := by
  rw [plf_set ds k hpos hk x t hx h0 _ (Nat.le_refl _), if_pos hx, undK_end, List.drop_length, prd2, Nat.div_one]

set_option maxHeartbeats 4000000 in
theorem ref_Place (w : World) (v v' : Value) (zs : List Int) (ds p : List Nat) (h : IsZ w v zs) (h' : IsI w v' p) (hG : Good zs ds) (hpl : p.length = ds.length) (hds : ∀ i, ds.getD i 0 ≤ 1024) (hp : ∀ i, p.getD i 0 ≤ 1024) :
    Calls Tryd.prog 51 #[v, v'] w fun e w' => e = .returned (.int .i64 ((plf ds p ds.length : Nat) : Int)) ∧ ∃ m, w' = w.drewN m := by
  obtain ⟨a, cap, rfl, -, -, hc, -⟩ := h
  obtain ⟨a', cap', rfl, -, -, hc'⟩ := h'
  have hlen : zs.length = ds.length := by rw [hG.2.2.1, List.length_map]
  have h3 : ds.length ≤ 3 := by rw [← hlen]; exact hG.2.1
  have hcd : ∀ i, i < ds.length → ∃ b off, a = some ⟨b, off, none⟩ ∧ w.cell? ⟨b, off + i, none⟩ = some (.int .i64 ((ds.getD i 0 : Nat) : Int)) := fun i hi => by
    obtain ⟨b, off, e, hcell⟩ := hc i (by omega)
    rw [(Good_get hG i (by omega)).1] at hcell
    exact ⟨b, off, e, hcell⟩
  have hb := plf_le ds p hds hp
  rw [hpl] at hc' ⊢
  rw [hlen]
  clear hc hG hlen
  go_enter Tryd.func51, Tryd.ntmps51
  go_wp2
  go_loopw [5, 6] (fun vk vi wr => ∃ i : Nat, i ≤ ds.length ∧ vi = .int .i64 (i : Int) ∧ vk = .int .i64 ((plf ds p i : Nat) : Int) ∧ Hid (∃ m, wr = w.drewN m))
    (fun _ vi _ => ds.length - (intOf vi).toNat)
  case atStart => exact ⟨0, Nat.zero_le _, rfl, rfl, ⟨0, rfl⟩⟩
  case round =>
    obtain ⟨i, hi, rfl, rfl, hq⟩ := hrel
    by_cases hlt : i < ds.length
    · obtain ⟨b, off, rfl, hcell0⟩ := hcd i hlt
      obtain ⟨b', off', rfl, hcell0'⟩ := hc' i hlt
      have hcell : wr.cell? ⟨b, off + i, none⟩ = some (.int .i64 ((ds.getD i 0 : Nat) : Int)) := by obtain ⟨m, rfl⟩ := hq.out; exact hcell0
      have hcell' : wr.cell? ⟨b', off' + i, none⟩ = some (.int .i64 ((p.getD i 0 : Nat) : Int)) := by obtain ⟨m, rfl⟩ := hq.out; exact hcell0'
      have hb1 : plf ds p i ≤ 1050625 := by
        have h1 := hb i
        have h2 : 1025 ^ i ≤ 1025 ^ 2 := Nat.pow_le_pow_right (by decide) (by omega)
        omega
      have hd9 := hds i
      have hp9 := hp i
      obtain ⟨r, hr0⟩ : ∃ r : Nat, r = plf ds p i * ds.getD i 0 := ⟨_, rfl⟩
      have hmul : (plf ds p i : Int) * (ds.getD i 0 : Int) = (r : Int) := by rw [hr0, Int.natCast_mul]
      have hr9 : r ≤ 1075840000 := by rw [hr0]; exact Nat.le_trans (Nat.mul_le_mul hb1 hd9) (by decide)
      have hst : Hid (plf ds p (i + 1) = r + p.getD i 0) := by show _ = _; rw [plf, hr0]
      clear hr0 hcell0 hcell0' hcd hc' hb hds hp
      generalize plf ds p i = q at *
      generalize ds.getD i 0 = d at *
      generalize p.getD i 0 = t at *
      go_wp2
      go_quiet (fail)
      go_wp2
      go_roundw
      case rel => exact ⟨i + 1, by omega, by go_num, by rw [hst.out]; go_num, by obtain ⟨m, rfl⟩ := hq.out; exact ⟨m + _, World.drewN_drewN _ _ _⟩⟩
      case measure => simp only [intOf]; omega
    · have e : i = ds.length := by omega
      subst e
      clear hcd hc' hb hds hp
      go_wp2
      go_ret
      exact ⟨rfl, hq.out⟩

end Go.Proofs.YtckoipoejaafhaaDoor
