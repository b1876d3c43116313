/-
  Slices of tasks that the call itself made: a task appended, a phase appended; what they read as.
-/
import Derived.Test.YtmggccepmicjhagGreatDoorOpenTAll
import Derived.Test.YtmggccepmicjhagGreatDoorSlZAll
import Derived.Test.YtmggccepmicjhagGreatDoorRefPlacesAll
namespace Go.Proofs.YtmggccepmicjhagGreatDoor
open Go.RowKit
set_option maxRecDepth 100000


theorem info_task : (Tryz.prog.info? 125).map (fun i => (i.zero, i.size, i.bytes)) = some (some (.agg #[.int .i64 0, .int .i64 0, .int .i64 0]), 3, 24) := by kernel_rfl
theorem info_phase : (Tryz.prog.info? 122).map (fun i => (i.zero, i.size, i.bytes)) = some (some (.slice none 0 0), 1, 24) := by kernel_rfl
theorem info_3 {t : Nat} {z : Value} {s b : Nat} (h : (Tryz.prog.info? t).map (fun i => (i.zero, i.size, i.bytes)) = some (some z, s, b)) : ∃ i, Tryz.prog.info? t = some i ∧ i.zero = some z ∧ i.size = s ∧ i.bytes = b := by
  cases hi : Tryz.prog.info? t with
  | none => rw [hi] at h; cases h
  | some i =>
    rw [hi] at h
    simp only [Option.map_some, Option.some.injEq, Prod.mk.injEq] at h
    exact ⟨i, rfl, h.1, h.2.1, h.2.2⟩

theorem wp_appendT {ops : Array Oper} {rest : List Oper} {o : Oper} {a : Act} {Q : Exit → Act → World → Prop} {w w0 : World} (hgd : o.guard = none) (s x : Operand)
    (ho : o.op = .call { callee := .builtin .append, args := #[s, x], argTypes := #[122, 122] }) (v : Value) (n : Nat) (xs : List Value) (p q r : Int)
    (hs : a.eval s = v) (hown : w.ownsRow w0.heap.size 125 3 v n xs) (hx : a.eval x = .slice (some ⟨w.heap.size, 0, none⟩) 1 1)
    (hn : n ≤ 1000000) (hnx : Below w0.heap.size w0 w)
    (h : ∀ g cap w', w'.ownsRow w0.heap.size 125 3 (.slice (some ⟨g, 0, none⟩) (n + 1) cap) (n + 1) (xs ++ [.int .i64 p, .int .i64 q, .int .i64 r]) → Below w0.heap.size w0 w' → wpList Tryz.prog ops Q rest (a.put o.dst (.slice (some ⟨g, 0, none⟩) (n + 1) cap)) w') :
    wpList Tryz.prog ops Q (o :: rest) a (w.alloc (.cells #[.int .i64 p, .int .i64 q, .int .i64 r] 125)) := by
  obtain ⟨i0, hi, hz0, hz1, hz2⟩ := info_3 info_task
  have hsz := hnx.size
  refine wpList_append_lies _ hgd s x 122 ho w0.heap.size 125 i0 (.agg #[.int .i64 0, .int .i64 0, .int .i64 0]) 3 24 Tryz.underlying122 hi hz0 hz1 hz2 rfl (by decide) v n xs hs (hown.alloc _) ⟨w.heap.size, 0, none⟩ 1 1 [.int .i64 p, .int .i64 q, .int .i64 r] hx rfl ?_ ?_ (by decide) ?_ ?_ ?_ _ rfl ?_
  · exact World.news_of_block (heap_alloc_new w _)
  · intro u hu
    simp only [List.mem_cons, List.not_mem_nil, or_false] at hu
    rcases hu with rfl | rfl | rfl <;> rfl
  · unfold maxLen; omega
  · omega
  · simp; omega
  · intro g cap w' hown' hgrow _ _
    exact h g cap w' hown' ((hnx.alloc hsz _).grown hgrow (by simp; omega) (owns_block hown))

theorem wp_appendP {ops : Array Oper} {rest : List Oper} {o : Oper} {a : Act} {Q : Exit → Act → World → Prop} {w w0 : World} (hgd : o.guard = none) (s x : Operand)
    (ho : o.op = .call { callee := .builtin .append, args := #[s, x], argTypes := #[98, 98] }) (v : Value) (n : Nat) (xs : List Value) (p : Option Addr) (l c : Nat)
    (hs : a.eval s = v) (hown : w.ownsRow w0.heap.size 122 1 v n xs) (hx : a.eval x = .slice (some ⟨w.heap.size, 0, none⟩) 1 1)
    (hn : n ≤ 1000000) (hnx : Below w0.heap.size w0 w)
    (h : ∀ g cap w', w'.ownsRow w0.heap.size 122 1 (.slice (some ⟨g, 0, none⟩) (n + 1) cap) (n + 1) (xs ++ [.slice p l c]) → Below w0.heap.size w0 w' → (∀ b, b < w.heap.size → v.ownBlock ≠ some b → w'.heap[b]? = w.heap[b]?) → Hid (v.ownBlock = some g ∨ w.heap.size < g) → g < w'.heap.size → w.heap.size ≤ w'.heap.size → wpList Tryz.prog ops Q rest (a.put o.dst (.slice (some ⟨g, 0, none⟩) (n + 1) cap)) w') :
    wpList Tryz.prog ops Q (o :: rest) a (w.alloc (.cells #[.slice p l c] 122)) := by
  obtain ⟨i0, hi, hz0, hz1, hz2⟩ := info_3 info_phase
  have hsz := hnx.size
  refine wpList_append_lies _ hgd s x 98 ho w0.heap.size 122 i0 (.slice none 0 0) 1 24 Tryz.underlying98 hi hz0 hz1 hz2 rfl (by decide) v n xs hs (hown.alloc _) ⟨w.heap.size, 0, none⟩ 1 1 [.slice p l c] hx rfl ?_ ?_ (by decide) ?_ ?_ ?_ _ rfl ?_
  · exact World.news_of_block (heap_alloc_new w _)
  · intro u hu; simp at hu; subst hu; rfl
  · unfold maxLen; omega
  · omega
  · simp; omega
  · intro g cap w' hown' hgrow hat hlt
    have hal : (w.alloc (.cells #[.slice p l c] 122)).heap.size = w.heap.size + 1 := by simp
    refine h g cap w' hown' ((hnx.alloc hsz _).grown hgrow (by simp; omega) (owns_block hown)) (fun b hb hne => ?_) ?_ hlt ?_
    · rw [hgrow.block b (by rw [hal]; omega) (fun e => hne e.symm)]
      exact Below.heap_alloc _ _ _ hb
    · rcases hat with h1 | h1
      · exact .inl h1
      · exact .inr (by rw [h1, hal]; omega)
    · have := hgrow.size
      omega

theorem IsR.of_owns {w : World} {base e n : Nat} {v : Value} {T : List (List Int)} (h : w.ownsRow base e 3 v n (tc T)) (hT : T3 T) : IsR 3 w v T := by
  have h0 := h
  obtain ⟨hl, hv⟩ := h
  rw [tc_length hT] at hl
  have hn : T.length = n := by omega
  subst hn
  rcases hv with ⟨rfl, h2⟩ | ⟨g, cap, cur, rfl, hg, hh, hc, hm, hs, ht⟩
  · have : T = [] := List.eq_nil_of_length_eq_zero h2
    subst this
    exact IsR.nil 3 w
  · refine ⟨some ⟨g, 0, none⟩, cap, rfl, hc, hm, fun i hi => ⟨g, 0, rfl, fun j hj => ?_⟩, hT⟩
    rw [Nat.zero_add, h0.cellAt (i * 3 + j) (by omega), tc_get hT i j hi hj]
theorem IsR.block {k : Nat} {w w' : World} {g l c : Nat} {T : List (List Int)} (h : IsR k w (.slice (some ⟨g, 0, none⟩) l c) T) (e : w'.heap[g]? = w.heap[g]?) : IsR k w' (.slice (some ⟨g, 0, none⟩) l c) T := by
  obtain ⟨a, cap, hv, h1, h2, hc, hr⟩ := h
  refine ⟨a, cap, hv, h1, h2, fun i hi => ?_, hr⟩
  obtain ⟨b, off, rfl, hcell⟩ := hc i hi
  simp only [Value.slice.injEq, Option.some.injEq, Addr.mk.injEq, and_true] at hv
  obtain ⟨⟨rfl, rfl⟩, _⟩ := hv
  exact ⟨g, 0, rfl, fun j hj => (World.cell?_of_block (w := w) e).trans (hcell j hj)⟩
/-- The slices vs, that lie in blocks from B on other than the one of u, read as the phases L. -/
def InnT (B : Nat) (w : World) (u : Value) (vs : List Value) (L : List (List (List Int))) : Prop :=
  vs.length = L.length ∧ ∀ i, i < L.length → ∃ g cap, vs[i]? = some (.slice (some ⟨g, 0, none⟩) (L.getD i []).length cap) ∧ u.ownBlock ≠ some g ∧ g < w.heap.size ∧ B ≤ g ∧ IsR 3 w (.slice (some ⟨g, 0, none⟩) (L.getD i []).length cap) (L.getD i [])
theorem InnT_nil (B : Nat) (w : World) (u : Value) : InnT B w u [] [] := ⟨rfl, fun i hi => by simp at hi⟩
theorem InnT.below {B : Nat} {w w' : World} {u : Value} {vs : List Value} {L : List (List (List Int))} (h : InnT B w u vs L) (hb : Below w.heap.size w w') : InnT B w' u vs L := by
  refine ⟨h.1, fun i hi => ?_⟩
  obtain ⟨g, cap, h1, h2, h3, hB, h4⟩ := h.2 i hi
  exact ⟨g, cap, h1, h2, Nat.lt_of_lt_of_le h3 hb.size, hB, h4.below hb⟩
theorem InnT.grow {B : Nat} {w w' : World} {u u' : Value} {vs : List Value} {L : List (List (List Int))} {g gl cap n c : Nat} {ls : List (List Int)} (h : InnT B w u vs L) (hu' : u' = .slice (some ⟨g, 0, none⟩) n c)
    (hk : ∀ b, b < w.heap.size → u.ownBlock ≠ some b → w'.heap[b]? = w.heap[b]?) (hat : u.ownBlock = some g ∨ w.heap.size < g) (hsz : w.heap.size ≤ w'.heap.size)
    (hl : IsR 3 w (.slice (some ⟨gl, 0, none⟩) ls.length cap) ls) (hgl : gl < w.heap.size) (hBl : B ≤ gl) (hne : u.ownBlock ≠ some gl) : InnT B w' u' (vs ++ [.slice (some ⟨gl, 0, none⟩) ls.length cap]) (L ++ [ls]) := by
  have hap : ∀ b, b < w.heap.size → u.ownBlock ≠ some b → u'.ownBlock ≠ some b := by
    intro b hb hn e
    rw [hu'] at e
    simp only [Value.ownBlock, Option.some.injEq] at e
    subst e
    rcases hat with h1 | h1
    · exact hn h1
    · omega
  refine ⟨by simp [h.1], fun i hi => ?_⟩
  rw [List.length_append] at hi
  by_cases e : i < L.length
  · obtain ⟨b, c', h1, h2, h3, hB, h4⟩ := h.2 i e
    have e1 : (L ++ [ls]).getD i [] = L.getD i [] := by simp [List.getD, List.getElem?_append_left e]
    rw [e1]
    exact ⟨b, c', by rw [List.getElem?_append_left (by rw [h.1]; exact e)]; exact h1, hap b h3 h2, by omega, hB, h4.block (hk b h3 h2)⟩
  · have e2 : i = L.length := by simp at hi; omega
    subst e2
    have e1 : (L ++ [ls]).getD L.length [] = ls := by simp [List.getD]
    rw [e1]
    exact ⟨gl, cap, by rw [← h.1]; simp, hap gl hgl hne, by omega, hBl, hl.block (hk gl hgl hne)⟩
theorem IsP_of {w : World} {base n : Nat} {u : Value} {vs : List Value} {L : List (List (List Int))} (h : w.ownsRow base 122 1 u n vs) (hi : InnT base w u vs L) : IsP 3 w u L := by
  have h0 := h
  obtain ⟨hl, hv⟩ := h
  have hn : L.length = n := by rw [← hi.1, hl]; omega
  subst hn
  rcases hv with ⟨rfl, h2⟩ | ⟨g, cap, cur, rfl, hg, hh, hc, hm, hs, ht⟩
  · have : L = [] := List.eq_nil_of_length_eq_zero h2
    subst this
    exact IsP.nil 3 w
  · refine ⟨some ⟨g, 0, none⟩, cap, rfl, hc, hm, fun i hil => ?_⟩
    obtain ⟨b, c', h1, h2, h3, hB, h4⟩ := hi.2 i hil
    refine ⟨g, 0, _, rfl, ?_, h4⟩
    rw [Nat.zero_add, h0.cellAt i (by omega), h1]

/-- The first t tasks of c lines each; those of n lines. -/
def ful (x c t : Nat) : List (List Int) := (List.range t).map fun (s : Nat) => [(x : Int), ((s * c : Nat) : Int), (((s + 1) * c : Nat) : Int)]
def chn (x c n : Nat) : List (List Int) := if n = 0 then [] else ful x c ((n - 1) / c) ++ [[(x : Int), (((n - 1) / c * c : Nat) : Int), (n : Int)]]
theorem ful_length (x c t : Nat) : (ful x c t).length = t := by simp [ful]
theorem ful_succ (x c t : Nat) : ful x c (t + 1) = ful x c t ++ [[(x : Int), ((t * c : Nat) : Int), (((t + 1) * c : Nat) : Int)]] := by simp [ful, List.range_succ]
theorem chn_at (x c n t : Nat) (h1 : t * c < n) (h2 : n ≤ (t + 1) * c) : chn x c n = ful x c t ++ [[(x : Int), ((t * c : Nat) : Int), (n : Int)]] := by
  unfold chn
  rw [if_neg (by omega)]
  have e : (n - 1) / c = t := by
    rw [Nat.div_eq_iff (Nat.pos_of_ne_zero (fun h => by subst h; omega))]
    rw [Nat.add_mul, Nat.one_mul] at h2
    omega
  rw [e]
theorem ful_T3 (x c t n : Nat) (hx : x ≤ 1024) (hn : t * c ≤ n) (h9 : n ≤ 1024) : T3 (ful x c t) := by
  intro r hr
  obtain ⟨s, hs, rfl⟩ := List.mem_map.mp hr
  have hs' := List.mem_range.mp hs
  have h1 : (s + 1) * c ≤ t * c := Nat.mul_le_mul_right _ hs'
  have h2 : s * c ≤ (s + 1) * c := Nat.mul_le_mul_right _ (by omega)
  refine ⟨rfl, fun z hz => ?_⟩
  simp only [List.mem_cons, List.not_mem_nil, or_false] at hz
  rcases hz with rfl | rfl | rfl <;> omega

end Go.Proofs.YtmggccepmicjhagGreatDoor
