/-
  Texts that stood one behind the other, as one.
-/
import Derived.Test.YtmggccepmicjhagGreatDoorSlZAll
import Derived.Test.YtmggccepmicjhagGreatDoorSlZAll
import Derived.BigQuiet
import Derived.Deep.RegionWith
import Derived.Test.YtmggccepmicjhagGreatDoorSlMakeAll
/-! What Places and Place of package goldref answer: the places of a number of an array, and back. -/
namespace Go.Proofs.YtmggccepmicjhagGreatDoor
open Go.RowKit
set_option maxRecDepth 100000

/-- How many numbers one step of axis i goes over; of the axes up to j. -/
def und (ds : List Nat) (i : Nat) : Nat := prd2 (ds.drop (i + 1))
def undK (ds : List Nat) (i j : Nat) : Nat := prd2 ((ds.drop (i + 1)).take (j - (i + 1)))
/-- The places of number k. -/
def plc (ds : List Nat) (k i : Nat) : Nat := k / und ds i % ds.getD i 0
def plcs (ds : List Nat) (k n : Nat) : List Nat := (List.range n).map (plc ds k)
theorem plcs_length (ds : List Nat) (k n : Nat) : (plcs ds k n).length = n := by simp [plcs]
theorem plcs_succ (ds : List Nat) (k n : Nat) : plcs ds k (n + 1) = plcs ds k n ++ [plc ds k n] := by
  simp [plcs, List.range_succ]
theorem undK_start (ds : List Nat) (i : Nat) : undK ds i (i + 1) = 1 := by simp [undK, prd2]
theorem undK_step (ds : List Nat) (i j : Nat) (h1 : i + 1 ≤ j) (h2 : j < ds.length) : undK ds i (j + 1) = undK ds i j * ds.getD j 0 := by
  unfold undK
  rw [show j + 1 - (i + 1) = j - (i + 1) + 1 by omega, prd2_take _ _ (by rw [List.length_drop]; omega)]
  congr 1
  simp [List.getD, List.getElem?_drop, show i + 1 + (j - (i + 1)) = j by omega]
theorem undK_end (ds : List Nat) (i : Nat) : undK ds i ds.length = und ds i := by
  unfold undK und
  rw [List.take_of_length_le (by rw [List.length_drop]; omega)]
theorem undK_le {ds : List Nat} (hp : ∀ d ∈ ds, 0 < d) (i j : Nat) : undK ds i j ≤ prd2 ds := by
  unfold undK
  refine Nat.le_trans (prd2_take_le (fun d hd => hp d (List.mem_of_mem_drop hd)) _) ?_
  rw [prd2_split ds (i + 1)]
  exact Nat.le_mul_of_pos_left _ (prd2_pos fun d hd => hp d (List.mem_of_mem_take hd))
theorem undK_pos {ds : List Nat} (hp : ∀ d ∈ ds, 0 < d) (i j : Nat) : 0 < undK ds i j :=
  prd2_pos fun d hd => hp d (List.mem_of_mem_drop (List.mem_of_mem_take hd))

def rowP (ds : List Nat) (k n : Nat) : List Value := cellsI (plcs ds k n)
theorem rowP_succ (ds : List Nat) (k n : Nat) : rowP ds k (n + 1) = rowP ds k n ++ [.int .i64 ((plc ds k n : Nat) : Int)] := by
  unfold rowP; rw [plcs_succ, cellsI_append]; rfl


/-- The number at places p, the first n axes. -/
def plf (ds p : List Nat) : Nat → Nat
  | 0 => 0
  | n + 1 => plf ds p n * ds.getD n 0 + p.getD n 0
theorem plf_le (ds p : List Nat) (hd : ∀ i, ds.getD i 0 ≤ 1024) (hp : ∀ i, p.getD i 0 ≤ 1024) (n : Nat) : plf ds p n + 1 ≤ 1025 ^ n := by
  induction n with
  | zero => simp [plf]
  | succ n ih =>
    rw [plf, Nat.pow_succ]
    have h1 : plf ds p n * ds.getD n 0 ≤ plf ds p n * 1024 := Nat.mul_le_mul_left _ (hd n)
    have h2 := hp n
    omega
theorem drop_prd (ds : List Nat) (n : Nat) (h : n < ds.length) : prd2 (ds.drop n) = ds.getD n 0 * und ds n := by
  rw [List.drop_eq_getElem_cons h, prd2, und]
  simp [List.getD, h]
/-- The places of k make k. -/
theorem plf_plcs (ds : List Nat) (k : Nat) (hpos : ∀ d ∈ ds, 0 < d) (hk : k < prd2 ds) (n : Nat) (hn : n ≤ ds.length) : plf ds (plcs ds k ds.length) n = k / prd2 (ds.drop n) := by
  induction n with
  | zero => rw [plf, List.drop_zero, Nat.div_eq_of_lt hk]
  | succ n ih =>
    have hu : 0 < und ds n := prd2_pos fun d hd => hpos d (List.mem_of_mem_drop hd)
    rw [plf, ih (by omega), drop_prd ds n (by omega), Nat.mul_comm (ds.getD n 0), ← Nat.div_div_eq_div_mul]
    have e : (plcs ds k ds.length).getD n 0 = k / und ds n % ds.getD n 0 := by simp [plcs, List.getD, show n < ds.length by omega, plc]
    rw [e]
    show _ = k / und ds n
    rw [Nat.mul_comm]
    exact Nat.div_add_mod _ _
theorem plf_set (ds : List Nat) (k : Nat) (hpos : ∀ d ∈ ds, 0 < d) (hk : k < prd2 ds) (x t : Nat) (hx : x < ds.length) (h0 : plc ds k x = 0) (n : Nat) (hn : n ≤ ds.length) :
    plf ds ((plcs ds k ds.length).set x t) n = k / prd2 (ds.drop n) + (if x < n then t * undK ds x n else 0) := by
  induction n with
  | zero => rw [plf, List.drop_zero, Nat.div_eq_of_lt hk, if_neg (by omega)]
  | succ n ih =>
    have ih' := ih (by omega)
    have hs := plf_plcs ds k hpos hk (n + 1) hn
    have hs0 := plf_plcs ds k hpos hk n (by omega)
    rw [plf, hs0] at hs
    rw [plf, ih']
    by_cases e : n = x
    · subst e
      have e1 : ((plcs ds k ds.length).set n t).getD n 0 = t := by simp [List.getD, plcs_length, hx]
      have e2 : (plcs ds k ds.length).getD n 0 = 0 := by simp [plcs, List.getD, hx, h0]
      rw [e2] at hs
      rw [e1, if_neg (by omega), if_pos (by omega), undK_start, Nat.add_zero, Nat.mul_one, ← hs, Nat.add_zero]
    · have e1 : ((plcs ds k ds.length).set x t).getD n 0 = (plcs ds k ds.length).getD n 0 := by simp [List.getD, Ne.symm e]
      rw [e1]
      by_cases h1 : x < n
      · rw [if_pos h1, if_pos (by omega), undK_step ds x n (by omega) (by omega), ← hs, Nat.add_mul, Nat.mul_assoc]
        omega
      · rw [if_neg h1, if_neg (by omega), Nat.add_zero, Nat.add_zero]; exact hs
/-- Along axis x from number k on, whose place there is 0. -/
theorem plf_line (ds : List Nat) (k : Nat) (hpos : ∀ d ∈ ds, 0 < d) (hk : k < prd2 ds) (x t : Nat) (hx : x < ds.length) (h0 : plc ds k x = 0) : plf ds ((plcs ds k ds.length).set x t) ds.length = k + t * und ds x := by
  rw [plf_set ds k hpos hk x t hx h0 _ (Nat.le_refl _), if_pos hx, undK_end, List.drop_length, prd2, Nat.div_one]


end Go.Proofs.YtmggccepmicjhagGreatDoor

/-! What Lines of package goldref answers: the lines of an axis. -/
namespace Go.Proofs.YtmggccepmicjhagGreatDoor
open Go.RowKit
set_option maxRecDepth 100000

/-- A slice of slices of ints reads as a list of lists. -/
def IsL (w : World) (v : Value) (L : List (List Nat)) : Prop :=
  ∃ (a : Option Addr) (cap : Nat), v = .slice a L.length cap ∧ L.length ≤ cap ∧ cap ≤ maxLen ∧
    (∀ i, i < L.length → ∃ b off u, a = some ⟨b, off, none⟩ ∧ w.cell? ⟨b, off + i, none⟩ = some u ∧ IsI w u (L.getD i []))
theorem IsL.below {w w' : World} {v : Value} {L : List (List Nat)} (h : IsL w v L) (hb : Below w.heap.size w w') : IsL w' v L := by
  obtain ⟨a, cap, rfl, h1, h2, hc⟩ := h
  refine ⟨a, cap, rfl, h1, h2, fun i hi => ?_⟩
  obtain ⟨b, off, u, rfl, hcell, hI⟩ := hc i hi
  exact ⟨b, off, u, rfl, (hb.cell (block_lt hcell)).trans hcell, hI.below hb⟩
theorem IsL.nil (w : World) : IsL w (.slice none 0 0) [] :=
  ⟨none, 0, rfl, by simp, by simp [maxLen], fun i hi => by simp at hi⟩
/-- A line of axis x, from number k on: the first n numbers. -/
def lin (ds : List Nat) (x k n : Nat) : List Nat := (List.range n).map fun t => k + t * und ds x
theorem lin_length (ds : List Nat) (x k n : Nat) : (lin ds x k n).length = n := by simp [lin]
theorem lin_succ (ds : List Nat) (x k n : Nat) : lin ds x k (n + 1) = lin ds x k n ++ [k + n * und ds x] := by simp [lin, List.range_succ]
/-- The lines that begin ahead of number k. -/
def lns (ds : List Nat) (x : Nat) : Nat → List (List Nat)
  | 0 => []
  | k + 1 => if plc ds k x = 0 then lns ds x k ++ [lin ds x k (ds.getD x 0)] else lns ds x k
theorem lns_le (ds : List Nat) (x k : Nat) : (lns ds x k).length ≤ k := by
  induction k with
  | zero => simp [lns]
  | succ k ih => rw [lns]; split
                 · rw [List.length_append]; simp; omega
                 · omega

theorem Good_unique {zs : List Int} {ds ds' : List Nat} (h : Good zs ds) (h' : Good zs ds') : ds' = ds := by
  have e := h.2.2.1.symm.trans h'.2.2.1
  have e2 := congrArg (List.map Int.toNat) e
  rw [List.map_map, List.map_map] at e2
  have hid : (Int.toNat ∘ fun (d : Nat) => (d : Int)) = id := funext fun d => by simp
  rw [hid, List.map_id, List.map_id] at e2
  exact e2.symm
theorem below_dr {w w' : World} (h : ∃ m, w' = w.drewN m) (B : Nat) : Below B w w' := by
  obtain ⟨m, rfl⟩ := h
  exact below_drewN (Below.refl _ _) m
theorem IsI.block {w w' : World} {g l c : Nat} {xs : List Nat} (h : IsI w (.slice (some ⟨g, 0, none⟩) l c) xs) (e : w'.heap[g]? = w.heap[g]?) : IsI w' (.slice (some ⟨g, 0, none⟩) l c) xs := by
  obtain ⟨a, cap, hv, h1, h2, hc⟩ := h
  refine ⟨a, cap, hv, h1, h2, fun i hi => ?_⟩
  obtain ⟨b, off, rfl, hcell⟩ := hc i hi
  simp only [Value.slice.injEq, Option.some.injEq, Addr.mk.injEq, and_true] at hv
  obtain ⟨⟨rfl, rfl⟩, _⟩ := hv
  exact ⟨g, 0, rfl, (World.cell?_of_block (w := w) e).trans hcell⟩
/-- The slices vs, that lie in blocks from B on other than the one of u, read as the lists L. -/
def Inn (B : Nat) (w : World) (u : Value) (vs : List Value) (L : List (List Nat)) : Prop :=
  vs.length = L.length ∧ ∀ i, i < L.length → ∃ g cap, vs[i]? = some (.slice (some ⟨g, 0, none⟩) (L.getD i []).length cap) ∧ u.ownBlock ≠ some g ∧ g < w.heap.size ∧ B ≤ g ∧ IsI w (.slice (some ⟨g, 0, none⟩) (L.getD i []).length cap) (L.getD i [])
theorem Inn_nil (B : Nat) (w : World) (u : Value) : Inn B w u [] [] := ⟨rfl, fun i hi => by simp at hi⟩
theorem Inn.below {B : Nat} {w w' : World} {u : Value} {vs : List Value} {L : List (List Nat)} (h : Inn B w u vs L) (hb : Below w.heap.size w w') : Inn B w' u vs L := by
  refine ⟨h.1, fun i hi => ?_⟩
  obtain ⟨g, cap, h1, h2, h3, hB, h4⟩ := h.2 i hi
  exact ⟨g, cap, h1, h2, Nat.lt_of_lt_of_le h3 hb.size, hB, h4.below hb⟩
theorem Inn.grow {B : Nat} {w w' : World} {u u' : Value} {vs : List Value} {L : List (List Nat)} {g gl cap n c : Nat} {ls : List Nat} (h : Inn B w u vs L) (hu' : u' = .slice (some ⟨g, 0, none⟩) n c)
    (hk : ∀ b, b < w.heap.size → u.ownBlock ≠ some b → w'.heap[b]? = w.heap[b]?) (hat : u.ownBlock = some g ∨ w.heap.size < g) (hsz : w.heap.size ≤ w'.heap.size)
    (hl : IsI w (.slice (some ⟨gl, 0, none⟩) ls.length cap) ls) (hgl : gl < w.heap.size) (hBl : B ≤ gl) (hne : u.ownBlock ≠ some gl) : Inn B w' u' (vs ++ [.slice (some ⟨gl, 0, none⟩) ls.length cap]) (L ++ [ls]) := by
  have hap : ∀ b, b < w.heap.size → u.ownBlock ≠ some b → u'.ownBlock ≠ some b := by
    intro b hb hn e
    rw [hu'] at e
    simp only [Value.ownBlock, Option.some.injEq] at e
    subst e
    rcases hat with h1 | h1
    · exact hn h1
    · omega
  refine ⟨by simp [h.1], fun i hi => ?_⟩
  rw [List.length_append] at hi
  by_cases e : i < L.length
  · obtain ⟨b, c', h1, h2, h3, hB, h4⟩ := h.2 i e
    have e1 : (L ++ [ls]).getD i [] = L.getD i [] := by simp [List.getD, List.getElem?_append_left e]
    rw [e1]
    exact ⟨b, c', by rw [List.getElem?_append_left (by rw [h.1]; exact e)]; exact h1, hap b h3 h2, by omega, hB, h4.block (hk b h3 h2)⟩
  · have e2 : i = L.length := by simp at hi; omega
    subst e2
    have e1 : (L ++ [ls]).getD L.length [] = ls := by simp [List.getD]
    rw [e1]
    exact ⟨gl, cap, by rw [← h.1]; simp, hap gl hgl hne, by omega, hBl, hl.block (hk gl hgl hne)⟩
/-- A slice of slices of ints that lie in blocks from B on. -/
def IsLF (B : Nat) (w : World) (v : Value) (L : List (List Nat)) : Prop :=
  ∃ (a : Option Addr) (cap : Nat), v = .slice a L.length cap ∧ L.length ≤ cap ∧ cap ≤ maxLen ∧
    (∀ i, i < L.length → ∃ b off gl cl, a = some ⟨b, off, none⟩ ∧ B ≤ b ∧ B ≤ gl ∧ w.cell? ⟨b, off + i, none⟩ = some (.slice (some ⟨gl, 0, none⟩) (L.getD i []).length cl) ∧ IsI w (.slice (some ⟨gl, 0, none⟩) (L.getD i []).length cl) (L.getD i []))
theorem IsLF.isL {B : Nat} {w : World} {v : Value} {L : List (List Nat)} (h : IsLF B w v L) : IsL w v L := by
  obtain ⟨a, cap, rfl, h1, h2, hc⟩ := h
  refine ⟨a, cap, rfl, h1, h2, fun i hi => ?_⟩
  obtain ⟨b, off, gl, cl, rfl, _, _, hcell, hI⟩ := hc i hi
  exact ⟨b, off, _, rfl, hcell, hI⟩
theorem owns_same {w w' : World} {base e size n g c : Nat} {xs : List Value} (h : w.ownsRow base e size (.slice (some ⟨g, 0, none⟩) n c) n xs) (e' : w'.heap[g]? = w.heap[g]?) : w'.ownsRow base e size (.slice (some ⟨g, 0, none⟩) n c) n xs := by
  refine ⟨h.1, ?_⟩
  rcases h.2 with h2 | ⟨g', cap, cur, hv, hg, hh, r⟩
  · exact Or.inl h2
  · have hv0 := hv
    simp only [Value.slice.injEq, Option.some.injEq, Addr.mk.injEq, and_true, true_and] at hv0
    obtain ⟨rfl, rfl⟩ := hv0
    exact Or.inr ⟨g, c, cur, rfl, hg, e'.trans hh, r⟩
theorem own_lt {w : World} {base e size n b : Nat} {v : Value} {xs : List Value} (h : w.ownsRow base e size v n xs) (hb : v.ownBlock = some b) : b < w.heap.size := by
  rcases h.2 with ⟨rfl, _⟩ | ⟨g, cap, cur, rfl, hg, hh, _⟩
  · simp [Value.ownBlock] at hb
  · simp only [Value.ownBlock, Option.some.injEq] at hb
    subst hb
    obtain ⟨hlt, _⟩ := Array.getElem?_eq_some_iff.1 hh
    exact hlt


end Go.Proofs.YtmggccepmicjhagGreatDoor

/-! Blocks that hold a list of ints and nothing else; what a store and a make do to them. -/
namespace Go.Proofs.YtmggccepmicjhagGreatDoor
open Go.RowKit
set_option maxRecDepth 100000

/-- Block g holds the ints xs, and nothing else. -/
def RowI (w : World) (g : Nat) (xs : List Nat) : Prop := w.heap[g]? = some (.cells (cellsI xs).toArray 3 (0, 0))
theorem RowI.lt {w : World} {g : Nat} {xs : List Nat} (h : RowI w g xs) : g < w.heap.size := by
  obtain ⟨hlt, _⟩ := Array.getElem?_eq_some_iff.1 h
  exact hlt
theorem RowI.cell {w : World} {g : Nat} {xs : List Nat} (h : RowI w g xs) (i : Nat) (hi : i < xs.length) : w.cell? ⟨g, i, none⟩ = some (.int .i64 ((xs.getD i 0 : Nat) : Int)) := by
  have hh : w.heap[g]? = _ := h
  have hc := cellsI_get xs i hi
  simp only [World.cell?, hh, List.getElem?_toArray]
  rw [hc]; rfl
theorem RowI.frozen {w : World} {g : Nat} {xs : List Nat} (h : RowI w g xs) (i : Nat) : w.frozen? ⟨g, i, none⟩ = false := by
  have hh : w.heap[g]? = _ := h
  simp [World.frozen?, hh]
theorem RowI.set {w : World} {g : Nat} {xs : List Nat} (h : RowI w g xs) (i x : Nat) : RowI (w.setCell ⟨g, i, none⟩ (.int .i64 (x : Int))) g (xs.set i x) := by
  have hh : w.heap[g]? = _ := h
  unfold RowI
  rw [← cellsI_set]
  simp [World.setCell, Array.getElem?_modify, hh]
theorem RowI.block {w w' : World} {g : Nat} {xs : List Nat} (h : RowI w g xs) (e : w'.heap[g]? = w.heap[g]?) : RowI w' g xs := e.trans h
theorem RowI.below {w w' : World} {g : Nat} {xs : List Nat} (h : RowI w g xs) (hb : Below w.heap.size w w') : RowI w' g xs := h.block (hb.block g h.lt)
theorem RowI.bar {w w' : World} {g g' : Nat} {xs : List Nat} (h : RowI w g' xs) (hne : g' ≠ g) (hb : Bar g w w') : RowI w' g' xs := h.block (hb.block g' h.lt hne)
theorem RowI.cast {w : World} {g : Nat} {xs ys : List Nat} (h : RowI w g xs) (e : xs = ys) : RowI w g ys := e ▸ h
theorem RowI.isIN {w : World} {g n : Nat} {xs : List Nat} (h : RowI w g xs) (hl : xs.length ≤ 1000000000) (hn : xs.length = n) : IsI w (.slice (some ⟨g, 0, none⟩) n n) xs := by
  subst hn
  exact ⟨some ⟨g, 0, none⟩, xs.length, rfl, Nat.le_refl _, by unfold maxLen; omega, fun i hi => ⟨g, 0, rfl, by rw [Nat.zero_add]; exact h.cell i hi⟩⟩
theorem made_int (n : Nat) : (madeCells (Value.int .i64 0).cells (n * 1)).toList = cellsI (List.replicate n 0) := by
  rw [show (Value.int .i64 0).cells = #[Value.int .i64 0] from rfl, Nat.mul_one, toList_madeCells_one]
  unfold cellsI
  rw [List.map_replicate]; rfl
theorem wp_makeI {ops : Array Oper} {rest : List Oper} {o : Oper} {a : Act} {Q : Exit → Act → World → Prop} {w : World} (hgd : o.guard = none) (l c : Operand) (ho : o.op = Op.makeSlice 97 l c) (n : Nat)
    (hl : a.eval l = .int .i64 (n : Int)) (hc : a.eval c = .int .i64 (n : Int)) (hn : n ≤ 1000000000)
    (h : ∀ g w', Hid (g = w.heap.size) → RowI w' g (List.replicate n 0) → Below w.heap.size w w' → wpList Tryz.prog ops Q rest (a.put o.dst (.slice (some ⟨g, 0, none⟩) n n)) w') :
    wpList Tryz.prog ops Q (o :: rest) a w := by
  obtain ⟨i0, hi, hz0, hz1, hz2⟩ := info_parts info_int
  refine wpList_make_full w hgd l c 97 ho w.heap.size 3 i0 (.int .i64 0) 1 Tryz.underlying97 hi hz0 hz1 .i64 .i64 n n n hl hc rfl rfl (by rw [hz2]; omega) (by unfold maxLen; omega) (Nat.le_refl _) ?_
  intro w' hown hgrow
  rw [made_int] at hown
  refine h w.heap.size w' rfl ?_ ((Below.refl _ _).grown hgrow (Nat.le_refl _) (fun k hk => by cases hk))
  rcases hown.2 with ⟨hv, _⟩ | ⟨g', cap', cur, hv, hg, hh, h1, h2, h3, h4⟩
  · cases hv
  · simp only [Value.slice.injEq, Option.some.injEq, Addr.mk.injEq, and_true, true_and] at hv
    obtain ⟨rfl, rfl⟩ := hv
    have hcur : cur.toList = cellsI (List.replicate n 0) := by rw [← h4, Nat.mul_one, List.take_of_length_le (by simp [h3])]
    have hcur2 : cur = (cellsI (List.replicate n 0)).toArray := by rw [← hcur]
    rw [hcur2] at hh
    exact hh

end Go.Proofs.YtmggccepmicjhagGreatDoor
