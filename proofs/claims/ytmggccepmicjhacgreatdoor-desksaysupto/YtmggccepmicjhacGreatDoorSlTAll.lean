/-
  Texts that stood one behind the other, as one.
-/
import Derived.Test.YtmggccepmicjhacGreatDoorOpenTAll
import Derived.Test.YtmggccepmicjhacGreatDoorRefShapeAll
import Derived.Test.YtmggccepmicjhacGreatDoorRefPlacesAll
import Derived.Test.YtmggccepmicjhacGreatDoorPure
import Derived.Test.YtmggccepmicjhacGreatDoorSlRowAll
/-! Slices of tasks that the call itself made: a task appended, a phase appended; what they read as. -/
namespace Go.Proofs.YtmggccepmicjhacGreatDoor
open Go.RowKit
set_option maxRecDepth 100000


theorem info_task : (Tryz.prog.info? 120).map (fun i => (i.zero, i.size, i.bytes)) = some (some (.agg #[.int .i64 0, .int .i64 0, .int .i64 0]), 3, 24) := by kernel_rfl
theorem info_phase : (Tryz.prog.info? 118).map (fun i => (i.zero, i.size, i.bytes)) = some (some (.slice none 0 0), 1, 24) := by kernel_rfl
theorem info_3 {t : Nat} {z : Value} {s b : Nat} (h : (Tryz.prog.info? t).map (fun i => (i.zero, i.size, i.bytes)) = some (some z, s, b)) : ∃ i, Tryz.prog.info? t = some i ∧ i.zero = some z ∧ i.size = s ∧ i.bytes = b := by
  cases hi : Tryz.prog.info? t with
  | none => rw [hi] at h; cases h
  | some i =>
    rw [hi] at h
    simp only [Option.map_some, Option.some.injEq, Prod.mk.injEq] at h
    exact ⟨i, rfl, h.1, h.2.1, h.2.2⟩

theorem wp_appendT {ops : Array Oper} {rest : List Oper} {o : Oper} {a : Act} {Q : Exit → Act → World → Prop} {w w0 : World} (hgd : o.guard = none) (s x : Operand)
    (ho : o.op = .call { callee := .builtin .append, args := #[s, x], argTypes := #[118, 118] }) (v : Value) (n : Nat) (xs : List Value) (p q r : Int)
    (hs : a.eval s = v) (hown : w.ownsRow w0.heap.size 120 3 v n xs) (hx : a.eval x = .slice (some ⟨w.heap.size, 0, none⟩) 1 1)
    (hn : n ≤ 1000000) (hnx : Below w0.heap.size w0 w)
    (h : ∀ g cap w', w'.ownsRow w0.heap.size 120 3 (.slice (some ⟨g, 0, none⟩) (n + 1) cap) (n + 1) (xs ++ [.int .i64 p, .int .i64 q, .int .i64 r]) → Below w0.heap.size w0 w' → wpList Tryz.prog ops Q rest (a.put o.dst (.slice (some ⟨g, 0, none⟩) (n + 1) cap)) w') :
    wpList Tryz.prog ops Q (o :: rest) a (w.alloc (.cells #[.int .i64 p, .int .i64 q, .int .i64 r] 120)) := by
  obtain ⟨i0, hi, hz0, hz1, hz2⟩ := info_3 info_task
  have hsz := hnx.size
  refine wpList_append_lies _ hgd s x 118 ho w0.heap.size 120 i0 (.agg #[.int .i64 0, .int .i64 0, .int .i64 0]) 3 24 Tryz.underlying118 hi hz0 hz1 hz2 rfl (by decide) v n xs hs (hown.alloc _) ⟨w.heap.size, 0, none⟩ 1 1 [.int .i64 p, .int .i64 q, .int .i64 r] hx rfl ?_ ?_ (by decide) ?_ ?_ ?_ _ rfl ?_
  · exact World.news_of_block (heap_alloc_new w _)
  · intro u hu
    simp only [List.mem_cons, List.not_mem_nil, or_false] at hu
    rcases hu with rfl | rfl | rfl <;> rfl
  · unfold maxLen; omega
  · omega
  · simp; omega
  · intro g cap w' hown' hgrow _ _
    exact h g cap w' hown' ((hnx.alloc hsz _).grown hgrow (by simp; omega) (owns_block hown))

theorem wp_appendP {ops : Array Oper} {rest : List Oper} {o : Oper} {a : Act} {Q : Exit → Act → World → Prop} {w w0 : World} (hgd : o.guard = none) (s x : Operand)
    (ho : o.op = .call { callee := .builtin .append, args := #[s, x], argTypes := #[88, 88] }) (v : Value) (n : Nat) (xs : List Value) (p : Option Addr) (l c : Nat)
    (hs : a.eval s = v) (hown : w.ownsRow w0.heap.size 118 1 v n xs) (hx : a.eval x = .slice (some ⟨w.heap.size, 0, none⟩) 1 1)
    (hn : n ≤ 1000000) (hnx : Below w0.heap.size w0 w)
    (h : ∀ g cap w', w'.ownsRow w0.heap.size 118 1 (.slice (some ⟨g, 0, none⟩) (n + 1) cap) (n + 1) (xs ++ [.slice p l c]) → Below w0.heap.size w0 w' → (∀ b, b < w.heap.size → v.ownBlock ≠ some b → w'.heap[b]? = w.heap[b]?) → Hid (v.ownBlock = some g ∨ w.heap.size < g) → g < w'.heap.size → w.heap.size ≤ w'.heap.size → wpList Tryz.prog ops Q rest (a.put o.dst (.slice (some ⟨g, 0, none⟩) (n + 1) cap)) w') :
    wpList Tryz.prog ops Q (o :: rest) a (w.alloc (.cells #[.slice p l c] 118)) := by
  obtain ⟨i0, hi, hz0, hz1, hz2⟩ := info_3 info_phase
  have hsz := hnx.size
  refine wpList_append_lies _ hgd s x 88 ho w0.heap.size 118 i0 (.slice none 0 0) 1 24 Tryz.underlying88 hi hz0 hz1 hz2 rfl (by decide) v n xs hs (hown.alloc _) ⟨w.heap.size, 0, none⟩ 1 1 [.slice p l c] hx rfl ?_ ?_ (by decide) ?_ ?_ ?_ _ rfl ?_
  · exact World.news_of_block (heap_alloc_new w _)
  · intro u hu; simp at hu; subst hu; rfl
  · unfold maxLen; omega
  · omega
  · simp; omega
  · intro g cap w' hown' hgrow hat hlt
    have hal : (w.alloc (.cells #[.slice p l c] 118)).heap.size = w.heap.size + 1 := by simp
    refine h g cap w' hown' ((hnx.alloc hsz _).grown hgrow (by simp; omega) (owns_block hown)) (fun b hb hne => ?_) ?_ hlt ?_
    · rw [hgrow.block b (by rw [hal]; omega) (fun e => hne e.symm)]
      exact Below.heap_alloc _ _ _ hb
    · rcases hat with h1 | h1
      · exact .inl h1
      · exact .inr (by rw [h1, hal]; omega)
    · have := hgrow.size
      omega

theorem IsR.of_owns {w : World} {base e n : Nat} {v : Value} {T : List (List Int)} (h : w.ownsRow base e 3 v n (tc T)) (hT : T3 T) : IsR 3 w v T := by
  have h0 := h
  obtain ⟨hl, hv⟩ := h
  rw [tc_length hT] at hl
  have hn : T.length = n := by omega
  subst hn
  rcases hv with ⟨rfl, h2⟩ | ⟨g, cap, cur, rfl, hg, hh, hc, hm, hs, ht⟩
  · have : T = [] := List.eq_nil_of_length_eq_zero h2
    subst this
    exact IsR.nil 3 w
  · refine ⟨some ⟨g, 0, none⟩, cap, rfl, hc, hm, fun i hi => ⟨g, 0, rfl, fun j hj => ?_⟩, hT⟩
    rw [Nat.zero_add, h0.cellAt (i * 3 + j) (by omega), tc_get hT i j hi hj]
theorem IsR.block {k : Nat} {w w' : World} {g l c : Nat} {T : List (List Int)} (h : IsR k w (.slice (some ⟨g, 0, none⟩) l c) T) (e : w'.heap[g]? = w.heap[g]?) : IsR k w' (.slice (some ⟨g, 0, none⟩) l c) T := by
  obtain ⟨a, cap, hv, h1, h2, hc, hr⟩ := h
  refine ⟨a, cap, hv, h1, h2, fun i hi => ?_, hr⟩
  obtain ⟨b, off, rfl, hcell⟩ := hc i hi
  simp only [Value.slice.injEq, Option.some.injEq, Addr.mk.injEq, and_true] at hv
  obtain ⟨⟨rfl, rfl⟩, _⟩ := hv
  exact ⟨g, 0, rfl, fun j hj => (World.cell?_of_block (w := w) e).trans (hcell j hj)⟩
/-- The slices vs, that lie in blocks from B on other than the one of u, read as the phases L. -/
def InnT (B : Nat) (w : World) (u : Value) (vs : List Value) (L : List (List (List Int))) : Prop :=
  vs.length = L.length ∧ ∀ i, i < L.length → ∃ g cap, vs[i]? = some (.slice (some ⟨g, 0, none⟩) (L.getD i []).length cap) ∧ u.ownBlock ≠ some g ∧ g < w.heap.size ∧ B ≤ g ∧ IsR 3 w (.slice (some ⟨g, 0, none⟩) (L.getD i []).length cap) (L.getD i [])
theorem InnT_nil (B : Nat) (w : World) (u : Value) : InnT B w u [] [] := ⟨rfl, fun i hi => by simp at hi⟩
theorem InnT.below {B : Nat} {w w' : World} {u : Value} {vs : List Value} {L : List (List (List Int))} (h : InnT B w u vs L) (hb : Below w.heap.size w w') : InnT B w' u vs L := by
  refine ⟨h.1, fun i hi => ?_⟩
  obtain ⟨g, cap, h1, h2, h3, hB, h4⟩ := h.2 i hi
  exact ⟨g, cap, h1, h2, Nat.lt_of_lt_of_le h3 hb.size, hB, h4.below hb⟩
theorem InnT.grow {B : Nat} {w w' : World} {u u' : Value} {vs : List Value} {L : List (List (List Int))} {g gl cap n c : Nat} {ls : List (List Int)} (h : InnT B w u vs L) (hu' : u' = .slice (some ⟨g, 0, none⟩) n c)
    (hk : ∀ b, b < w.heap.size → u.ownBlock ≠ some b → w'.heap[b]? = w.heap[b]?) (hat : u.ownBlock = some g ∨ w.heap.size < g) (hsz : w.heap.size ≤ w'.heap.size)
    (hl : IsR 3 w (.slice (some ⟨gl, 0, none⟩) ls.length cap) ls) (hgl : gl < w.heap.size) (hBl : B ≤ gl) (hne : u.ownBlock ≠ some gl) : InnT B w' u' (vs ++ [.slice (some ⟨gl, 0, none⟩) ls.length cap]) (L ++ [ls]) := by
  have hap : ∀ b, b < w.heap.size → u.ownBlock ≠ some b → u'.ownBlock ≠ some b := by
    intro b hb hn e
    rw [hu'] at e
    simp only [Value.ownBlock, Option.some.injEq] at e
    subst e
    rcases hat with h1 | h1
    · exact hn h1
    · omega
  refine ⟨by simp [h.1], fun i hi => ?_⟩
  rw [List.length_append] at hi
  by_cases e : i < L.length
  · obtain ⟨b, c', h1, h2, h3, hB, h4⟩ := h.2 i e
    have e1 : (L ++ [ls]).getD i [] = L.getD i [] := by simp [List.getD, List.getElem?_append_left e]
    rw [e1]
    exact ⟨b, c', by rw [List.getElem?_append_left (by rw [h.1]; exact e)]; exact h1, hap b h3 h2, by omega, hB, h4.block (hk b h3 h2)⟩
  · have e2 : i = L.length := by simp at hi; omega
    subst e2
    have e1 : (L ++ [ls]).getD L.length [] = ls := by simp [List.getD]
    rw [e1]
    exact ⟨gl, cap, by rw [← h.1]; simp, hap gl hgl hne, by omega, hBl, hl.block (hk gl hgl hne)⟩
theorem IsP_of {w : World} {base n : Nat} {u : Value} {vs : List Value} {L : List (List (List Int))} (h : w.ownsRow base 118 1 u n vs) (hi : InnT base w u vs L) : IsP 3 w u L := by
  have h0 := h
  obtain ⟨hl, hv⟩ := h
  have hn : L.length = n := by rw [← hi.1, hl]; omega
  subst hn
  rcases hv with ⟨rfl, h2⟩ | ⟨g, cap, cur, rfl, hg, hh, hc, hm, hs, ht⟩
  · have : L = [] := List.eq_nil_of_length_eq_zero h2
    subst this
    exact IsP.nil 3 w
  · refine ⟨some ⟨g, 0, none⟩, cap, rfl, hc, hm, fun i hil => ?_⟩
    obtain ⟨b, c', h1, h2, h3, hB, h4⟩ := hi.2 i hil
    refine ⟨g, 0, _, rfl, ?_, h4⟩
    rw [Nat.zero_add, h0.cellAt i (by omega), h1]

/-- The first t tasks of c lines each; those of n lines. -/
def ful (x c t : Nat) : List (List Int) := (List.range t).map fun (s : Nat) => [(x : Int), ((s * c : Nat) : Int), (((s + 1) * c : Nat) : Int)]
def chn (x c n : Nat) : List (List Int) := if n = 0 then [] else ful x c ((n - 1) / c) ++ [[(x : Int), (((n - 1) / c * c : Nat) : Int), (n : Int)]]
theorem ful_length (x c t : Nat) : (ful x c t).length = t := by simp [ful]
theorem ful_succ (x c t : Nat) : ful x c (t + 1) = ful x c t ++ [[(x : Int), ((t * c : Nat) : Int), (((t + 1) * c : Nat) : Int)]] := by simp [ful, List.range_succ]
theorem chn_at (x c n t : Nat) (h1 : t * c < n) (h2 : n ≤ (t + 1) * c) : chn x c n = ful x c t ++ [[(x : Int), ((t * c : Nat) : Int), (n : Int)]] := by
  unfold chn
  rw [if_neg (by omega)]
  have e : (n - 1) / c = t := by
    rw [Nat.div_eq_iff (Nat.pos_of_ne_zero (fun h => by subst h; omega))]
    rw [Nat.add_mul, Nat.one_mul] at h2
    omega
  rw [e]
theorem ful_T3 (x c t n : Nat) (hx : x ≤ 1024) (hn : t * c ≤ n) (h9 : n ≤ 1024) : T3 (ful x c t) := by
  intro r hr
  obtain ⟨s, hs, rfl⟩ := List.mem_map.mp hr
  have hs' := List.mem_range.mp hs
  have h1 : (s + 1) * c ≤ t * c := Nat.mul_le_mul_right _ hs'
  have h2 : s * c ≤ (s + 1) * c := Nat.mul_le_mul_right _ (by omega)
  refine ⟨rfl, fun z hz => ?_⟩
  simp only [List.mem_cons, List.not_mem_nil, or_false] at hz
  rcases hz with rfl | rfl | rfl <;> omega

end Go.Proofs.YtmggccepmicjhacGreatDoor

/-! Arrays of a shape: the axes of a list of powers of two; transforms along an axis and along all of them, back and forth, in either order; products round all axes; no program in sight. -/
namespace Go.Proofs.YtmggccepmicjhacGreatDoor

/-- The root of an axis of d places, and what each number is taken times: forth, and back. -/
def axW (back : Bool) (d : Nat) : F := if back then inv (toF (rt (Nat.log2 d))) else toF (rt (Nat.log2 d))
def axC (back : Bool) (d : Nat) : F := if back then inv (toF d) else 1
def sz (ds : List Nat) (x : Nat) : Nat := ds.getD x 0
def beh (ds : List Nat) (x : Nat) : Nat := prd2 (ds.drop x)
/-- An array transformed along axis x; along the first x axes. -/
def alo (ds : List Nat) (x : Nat) (back : Bool) (f : Nat → F) : Nat → F := ax (axC back (sz ds x)) (axW back (sz ds x)) (beh ds (x + 1)) (sz ds x) f
def who (ds : List Nat) (back : Bool) (f : Nat → F) (x : Nat) : Nat → F := whK (fun y => axC back (sz ds y)) (fun y => axW back (sz ds y)) (sz ds) (beh ds) f x
theorem who_zero (ds : List Nat) (back : Bool) (f : Nat → F) : who ds back f 0 = f := rfl
theorem who_succ (ds : List Nat) (back : Bool) (f : Nat → F) (x : Nat) : who ds back f (x + 1) = alo ds x back (who ds back f x) := rfl

/-- A right shape. -/
def Shp (ds : List Nat) : Prop := ∀ d ∈ ds, P2 d
theorem Shp.at {ds : List Nat} (h : Shp ds) (x : Nat) (hx : x < ds.length) : P2 (sz ds x) := by
  unfold sz
  have e : ds.getD x 0 = ds[x] := by simp [List.getD, hx]
  rw [e]
  exact h _ (List.getElem_mem hx)
theorem Shp.pos {ds : List Nat} (h : Shp ds) : ∀ d ∈ ds, 0 < d := fun d hd => P2_pos (h d hd)
theorem beh_step (ds : List Nat) (x : Nat) (hx : x < ds.length) : beh ds x = beh ds (x + 1) * sz ds x := by
  unfold beh sz
  rw [List.drop_eq_getElem_cons hx, prd2, Nat.mul_comm]
  congr 1
  simp [List.getD, hx]
theorem beh_pos {ds : List Nat} (h : Shp ds) (x : Nat) : 0 < beh ds x := prd2_pos fun d hd => h.pos d (List.mem_of_mem_drop hd)
theorem beh_zero (ds : List Nat) : beh ds 0 = prd2 ds := rfl
theorem beh_end (ds : List Nat) : beh ds ds.length = 1 := by unfold beh; rw [List.drop_length]; rfl
theorem sizN_take (ds : List Nat) (x : Nat) (hx : x ≤ ds.length) : sizN (sz ds) x = prd2 (ds.take x) := by
  induction x with
  | zero => rfl
  | succ x ih => rw [sizN, ih (by omega), prd2_take ds x (by omega)]; rfl
theorem sizN_all (ds : List Nat) : sizN (sz ds) ds.length = prd2 ds := by rw [sizN_take ds _ (Nat.le_refl _), List.take_length]
theorem ordW {d : Nat} (h : P2 d) (hd : d ≤ 1024) : ∃ k, d = 2 ^ k ∧ k ≤ 10 ∧ Nat.log2 d = k := by
  obtain ⟨k, rfl⟩ := h
  refine ⟨k, rfl, ?_, Nat.log2_two_pow⟩
  rcases Nat.lt_or_ge 10 k with h1 | h1
  · have : 2 ^ 11 ≤ 2 ^ k := Nat.pow_le_pow_right (by decide) h1
    have e : (2 : Nat) ^ 11 = 2048 := by decide
    omega
  · exact h1
theorem sz_le {ds : List Nat} (h : Shp ds) (hn : prd2 ds ≤ 1024) (x : Nat) (hx : x < ds.length) : sz ds x ≤ 1024 := by
  have h1 := prd2_take ds x hx
  have h2 := prd2_take_le h.pos (x + 1)
  have h3 : 0 < prd2 (ds.take x) := prd2_pos fun d hd => h.pos d (List.mem_of_mem_take hd)
  have h4 : ds.getD x 0 ≤ prd2 (ds.take x) * ds.getD x 0 := Nat.le_mul_of_pos_left _ h3
  unfold sz; omega
theorem axW_ord {ds : List Nat} (h : Shp ds) (hn : prd2 ds ≤ 1024) (x : Nat) (hx : x < ds.length) : ∃ k, sz ds x = 2 ^ k ∧ k ≤ 10 ∧ Ord (axW false (sz ds x)) k ∧ Ord (axW true (sz ds x)) k ∧ axW false (sz ds x) * axW true (sz ds x) = 1 := by
  obtain ⟨k, hk, hk10, hl⟩ := ordW (h.at x hx) (sz_le h hn x hx)
  refine ⟨k, hk, hk10, ?_, ?_, ?_⟩
  · unfold axW; rw [hl]; exact ord_rt k (by omega)
  · unfold axW; rw [hl]; exact (ord_rt k (by omega)).inv (rt_inv k (by omega))
  · unfold axW; rw [hl]; exact rt_inv k (by omega)

theorem who_chi {ds : List Nat} (h : Shp ds) (back : Bool) (f : Nat → F) (p : Nat) (hp : p < prd2 ds) :
    who ds back f ds.length p = cfs (fun y => axC back (sz ds y)) ds.length * S (prd2 ds) (fun q => f q * chi (fun y => axW back (sz ds y)) (sz ds) ds.length q p) := by
  unfold who
  rw [whK_chi _ _ _ _ f ds.length (fun y hy => beh_step ds y hy) (fun y _ => beh_pos h y) (fun y hy => P2_pos (h.at y hy)), sizN_all, beh_zero, beh_end]
  congr 1
  refine S_congr fun q _ => ?_
  rw [Nat.div_eq_of_lt hp, Nat.zero_mul, Nat.zero_add, Nat.mul_one, Nat.mod_one, Nat.add_zero, Nat.div_one]
theorem cfs_false (ds : List Nat) (x : Nat) : cfs (fun y => axC false (sz ds y)) x = 1 := by
  induction x with
  | zero => rfl
  | succ x ih => rw [cfs, ih]; unfold axC; grind
theorem cfs_true {ds : List Nat} (h : Shp ds) (hn : prd2 ds ≤ 1024) (x : Nat) (hx : x ≤ ds.length) : cfs (fun y => axC true (sz ds y)) x * toF (sizN (sz ds) x) = 1 := by
  induction x with
  | zero => rw [cfs, sizN, toF_one]; grind
  | succ x ih =>
    obtain ⟨k, hk, hk10, -⟩ := axW_ord h hn x hx
    have h1 := mul_inv (two_pow_ne k (by omega))
    rw [← hk] at h1
    rw [cfs, sizN, toF_mul]
    have h2 := ih (by omega)
    have e : axC true (sz ds x) = inv (toF (sz ds x)) := rfl
    rw [e]
    grind
theorem who_congr {ds : List Nat} (h : Shp ds) (back : Bool) {f g : Nat → F} (hfg : ∀ i, i < prd2 ds → f i = g i) (p : Nat) (hp : p < prd2 ds) : who ds back f ds.length p = who ds back g ds.length p := by
  rw [who_chi h back f p hp, who_chi h back g p hp]
  congr 1
  exact S_congr fun q hq => by rw [hfg q hq]
/-- Back and forth, either way. -/
theorem who_back {ds : List Nat} (h : Shp ds) (hn : prd2 ds ≤ 1024) (b : Bool) (f : Nat → F) (p : Nat) (hp : p < prd2 ds) : who ds (!b) (who ds b f ds.length) ds.length p = f p := by
  rw [who_chi h (!b) _ p hp]
  have e1 : S (prd2 ds) (fun q => who ds b f ds.length q * chi (fun y => axW (!b) (sz ds y)) (sz ds) ds.length q p) = cfs (fun y => axC b (sz ds y)) ds.length * (toF (prd2 ds) * f p) := by
    have e2 := chi_back (fun y => axW b (sz ds y)) (fun y => axW (!b) (sz ds y)) (sz ds) ds.length (fun y hy => by
      obtain ⟨k, hk, _, ho, ho', hm⟩ := axW_ord h hn y hy
      cases b
      · exact ⟨k, hk, ho, hm⟩
      · exact ⟨k, hk, ho', by show axW true (sz ds y) * axW false (sz ds y) = 1; grind⟩) f p (by rw [sizN_all]; exact hp)
    rw [sizN_all] at e2
    rw [← e2, ← S_mul]
    refine S_congr fun q hq => ?_
    rw [who_chi h b f q hq]; grind
  rw [e1]
  have e3 := cfs_true h hn ds.length (Nat.le_refl _)
  rw [sizN_all] at e3
  cases b
  · rw [cfs_false]
    show cfs (fun y => axC true (sz ds y)) ds.length * (1 * (toF (prd2 ds) * f p)) = f p
    grind
  · show cfs (fun y => axC false (sz ds y)) ds.length * _ = f p
    rw [cfs_false]
    grind
/-- The product round all axes. -/
def cyD (ds : List Nat) (f g : Nat → F) : Nat → F := cyc (sz ds) ds.length (prd2 ds) f g
theorem who_cyc {ds : List Nat} (h : Shp ds) (hn : prd2 ds ≤ 1024) (f g : Nat → F) (p : Nat) (hp : p < prd2 ds) : who ds false (cyD ds f g) ds.length p = who ds false f ds.length p * who ds false g ds.length p := by
  rw [who_chi h false _ p hp, who_chi h false f p hp, who_chi h false g p hp, cfs_false]
  have e := chi_cyc (fun y => axW false (sz ds y)) (sz ds) ds.length (fun y hy => by
    obtain ⟨k, hk, _, ho, _⟩ := axW_ord h hn y hy
    rw [hk] at ho ⊢
    exact ho.one) (fun y hy => P2_pos (h.at y hy)) f g p
  rw [sizN_all] at e
  unfold cyD
  rw [e]; grind
theorem cyc_by {ds : List Nat} (h : Shp ds) (hn : prd2 ds ≤ 1024) (f g : Nat → F) (p : Nat) (hp : p < prd2 ds) : who ds true (fun q => who ds false f ds.length q * who ds false g ds.length q) ds.length p = cyD ds f g p := by
  rw [← who_back h hn false (cyD ds f g) p hp]
  exact who_congr h true (fun i hi => (who_cyc h hn f g i hi).symm) p hp

/-- It doesn't matter which axis is first. -/
theorem alo_comm {ds : List Nat} (h : Shp ds) (x y : Nat) (hxy : x < y) (hy : y < ds.length) (b b' : Bool) (f : Nat → F) : alo ds y b (alo ds x b' f) = alo ds x b' (alo ds y b f) := by
  funext p
  have hm : ∀ k, ∃ m, 0 < m ∧ (x + 1 + k = y → beh ds (x + 1) = beh ds (y + 1) * sz ds y * m) := by
    intro k
    induction k generalizing x with
    | zero => exact ⟨1, Nat.zero_lt_one, fun e => by rw [Nat.mul_one, ← beh_step ds y hy, ← e]⟩
    | succ k ih =>
      by_cases hk : x + 1 < y
      · obtain ⟨m, hm0, hm⟩ := ih (x + 1) hk
        refine ⟨m * sz ds (x + 1), Nat.mul_pos hm0 (P2_pos (h.at _ (by omega))), fun e => ?_⟩
        rw [beh_step ds (x + 1) (by omega), hm (by omega), Nat.mul_assoc]
      · exact ⟨1, Nat.zero_lt_one, fun e => by omega⟩
  obtain ⟨m, hm0, hm⟩ := hm (y - (x + 1))
  unfold alo
  rw [hm (by omega)]
  exact ax_comm (beh_pos h _) (P2_pos (h.at y hy)) hm0 _ _ _ _ f p
/-- The axes from the last one down: those from x on. -/
def dwn (ds : List Nat) (back : Bool) (f : Nat → F) (x : Nat) : Nat → Nat → F
  | 0 => f
  | k + 1 => alo ds (x - (k + 1)) back (dwn ds back f x k)
theorem dwn_who {ds : List Nat} (h : Shp ds) (h1 : 1 ≤ ds.length) (h3 : ds.length ≤ 3) (b : Bool) (f : Nat → F) : dwn ds b f ds.length ds.length = who ds b f ds.length := by
  have hc := fun x y hxy hy g => alo_comm h x y hxy hy b b g
  generalize ds.length = m at *
  have hm : m = 1 ∨ m = 2 ∨ m = 3 := by omega
  rcases hm with rfl | rfl | rfl
  · rfl
  · show alo ds 0 b (alo ds 1 b f) = alo ds 1 b (alo ds 0 b f)
    rw [hc 0 1 (by omega) (by omega)]
  · show alo ds 0 b (alo ds 1 b (alo ds 2 b f)) = alo ds 2 b (alo ds 1 b (alo ds 0 b f))
    rw [hc 0 1 (by omega) (by omega), hc 0 2 (by omega) (by omega), hc 1 2 (by omega) (by omega)]
theorem prd2_at (ds : List Nat) (x : Nat) (hx : x < ds.length) : prd2 ds = beh ds (x + 1) * sz ds x * prd2 (ds.take x) := by
  rw [← beh_step ds x hx, prd2_split ds x, Nat.mul_comm]; rfl
theorem alo_congr {ds : List Nat} (h : Shp ds) (x : Nat) (hx : x < ds.length) (b : Bool) {f g : Nat → F} (hfg : ∀ i, i < prd2 ds → f i = g i) (p : Nat) (hp : p < prd2 ds) : alo ds x b f p = alo ds x b g p := by
  have e := prd2_at ds x hx
  exact ax_congr (beh_pos h _) (m := prd2 (ds.take x)) (fun i hi => hfg i (by rw [e]; exact hi)) p (by rw [← e]; exact hp)

/-- Numbers that are products of two lists. -/
theorem who_outer (a b : Nat) (ha : P2 a) (hb : P2 b) (hab : a * b ≤ 1024) (f g h : Nat → F) (hh : ∀ i j, i < a → j < b → h (i * b + j) = f i * g j) (i j : Nat) (hi : i < a) (hj : j < b) :
    who [a, b] false h 2 (i * b + j) = dft (axW false a) a f i * dft (axW false b) b g j := by
  have hS : Shp [a, b] := by
    intro d hd
    simp at hd
    rcases hd with rfl | rfl
    · exact ha
    · exact hb
  have hn : prd2 [a, b] = a * b := by simp [prd2]
  have hp : i * b + j < prd2 [a, b] := by
    rw [hn]
    have : (i + 1) * b ≤ a * b := Nat.mul_le_mul_right _ hi
    rw [Nat.add_mul, Nat.one_mul] at this
    omega
  have e := who_chi hS false h (i * b + j) hp
  rw [cfs_false, hn, S_two, show ∀ z : F, 1 * z = z from fun z => by grind] at e
  rw [show who [a, b] false h 2 = who [a, b] false h [a, b].length from rfl, e]
  unfold dft
  rw [show S a (fun i_1 => f i_1 * pw (axW false a) (i_1 * i)) * S b (fun i => g i * pw (axW false b) (i * j)) = S b (fun i => g i * pw (axW false b) (i * j)) * S a (fun i_1 => f i_1 * pw (axW false a) (i_1 * i)) by grind, ← S_mul]
  refine S_congr fun s hs => ?_
  rw [show S b (fun i => g i * pw (axW false b) (i * j)) * (f s * pw (axW false a) (s * i)) = (f s * pw (axW false a) (s * i)) * S b (fun i => g i * pw (axW false b) (i * j)) by grind, ← S_mul]
  refine S_congr fun t ht => ?_
  have ec : chi (fun y => axW false (sz [a, b] y)) (sz [a, b]) 2 (s * b + t) (i * b + j) = pw (axW false a) (s * i) * pw (axW false b) (t * j) := by
    show 1 * pw (axW false a) ((s * b + t) / b % a * ((i * b + j) / b % a)) * pw (axW false b) ((s * b + t) % b * ((i * b + j) % b)) = _
    rw [div_of ht, mod_of ht, div_of hj, mod_of hj, Nat.mod_eq_of_lt hs, Nat.mod_eq_of_lt hi]; grind
  rw [hh s t hs ht, show [a, b].length = 2 from rfl, ec]; grind

end Go.Proofs.YtmggccepmicjhacGreatDoor
