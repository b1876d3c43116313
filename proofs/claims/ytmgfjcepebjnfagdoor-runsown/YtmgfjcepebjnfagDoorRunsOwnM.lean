/-
  The law RunsOwn, between two calls: two runs apart from each other and from what was handed in; lists that are spoilt.
-/
import Derived.Test.YtmgfjcepebjnfagDoorExL
import Derived.Test.YtmgfjcepebjnfagDoorSpoil
namespace Go.Proofs.YtmgfjcepebjnfagDoor
open Go.RowKit

theorem owns_row {w : World} {B e k n g cap : Nat} {xs : List Value} (h : w.ownsRow B e k (.slice (some ⟨g, 0, none⟩) n cap) n xs) : ∃ rows, RowV e w g rows ∧ rows.length = cap * k ∧ n ≤ cap ∧ cap ≤ maxLen ∧ B ≤ g := by
  rcases h.2 with ⟨hv, _⟩ | ⟨g', cap', cur, hv, hg, hh, h1, h2, h3, h4⟩
  · cases hv
  · simp only [Value.slice.injEq, Option.some.injEq, Addr.mk.injEq, and_true, true_and] at hv
    obtain ⟨rfl, rfl⟩ := hv
    exact ⟨cur.toList, by show w.heap[g]? = _; rw [hh], by simpa using h3, h1, h2, hg⟩
theorem But.of_bars {w w' : World} {g l c : Nat} (h : Bar g w w') : But (fun k => (Value.slice (some ⟨g, 0, none⟩) l c).ownBlock = some k) w w' :=
  ⟨h.os, h.tape, h.output, h.size, fun k hk hn => h.block k hk fun e => hn (by rw [e]; rfl)⟩
/-- A list of tasks of one's own is spoilt. -/
theorem spoil_L (w : World) (u : Value) (B n : Nat) (xs : List Value) (a b c : Int) (h : w.ownsRow B 41 3 u n xs) :
    Calls Tryd.prog 38 #[u, .agg #[.int .i64 a, .int .i64 b, .int .i64 c]] w fun e w' => e = .returned (.tuple #[]) ∧ But (fun k => u.ownBlock = some k) w w' := by
  rcases h.2 with ⟨rfl, _⟩ | ⟨g, cap, cur, rfl, _⟩
  · refine (spoil_T0 w a b c).mono ?_
    rintro e w' ⟨rfl, hb⟩
    exact ⟨rfl, But.of_below hb⟩
  · obtain ⟨rows, h1, h2, h3, h4, _⟩ := owns_row h
    refine (spoil_T w g n cap a b c rows h1 h2 h3 h4).mono ?_
    rintro e w' ⟨rfl, _, hb⟩
    exact ⟨rfl, But.of_bars hb⟩
theorem spoil_A (w : World) (B n g cap x : Nat) (xs : List Value) (h : w.ownsRow B 25 1 (.slice (some ⟨g, 0, none⟩) n cap) n xs) :
    Calls Tryd.prog 27 #[.slice (some ⟨g, 0, none⟩) n cap, .int .u64 (x : Int)] w fun e w' => e = .returned (.tuple #[]) ∧ But (fun k => (Value.slice (some ⟨g, 0, none⟩) n cap).ownBlock = some k) w w' := by
  obtain ⟨rows, h1, h2, h3, h4, _⟩ := owns_row h
  refine (spoil_U w g n cap x rows h1 (by omega) h3 h4).mono ?_
  rintro e w' ⟨rfl, _, hb⟩
  exact ⟨rfl, But.of_bars hb⟩

/-- Phases that were cloned and appended, k of them: each in a block of its own, from B on, that is not the one of u. -/
structure PhS (B : Nat) (w : World) (u : Value) (vs : List Value) (L : List (List (List Int))) (k : Nat) : Prop where
  len : vs.length = k
  at' : ∀ i, i < k → ∃ g cap rows, vs[i]? = some (.slice (some ⟨g, 0, none⟩) (L.getD i []).length cap) ∧ u.ownBlock ≠ some g ∧ B ≤ g ∧ RowV 41 w g rows ∧ rows.length = cap * 3 ∧ (L.getD i []).length ≤ cap ∧ cap ≤ maxLen
  rd : ∀ i, i < k → ∀ v, vs[i]? = some v → IsR 3 w v (L.getD i [])
theorem PhS.grow {B : Nat} {w w2 w' : World} {u : Value} {vs : List Value} {L : List (List (List Int))} {k g cap gu n c : Nat} (h : PhS B w u vs L k) (hb : Below w.heap.size w w2) (hB : B ≤ w.heap.size) (hu : ∀ b, u.ownBlock = some b → b < w.heap.size)
    (hown : w2.ownsRow w.heap.size 41 3 (.slice (some ⟨g, 0, none⟩) (L.getD k []).length cap) (L.getD k []).length (tc (L.getD k []))) (hT : T3 (L.getD k []))
    (hk : ∀ b, b < w2.heap.size → u.ownBlock ≠ some b → w'.heap[b]? = w2.heap[b]?) (hat : u.ownBlock = some gu ∨ w2.heap.size < gu) :
    PhS B w' (.slice (some ⟨gu, 0, none⟩) n c) (vs ++ [.slice (some ⟨g, 0, none⟩) (L.getD k []).length cap]) L (k + 1) := by
  obtain ⟨rows, r1, r2, r3, r4, r5⟩ := owns_row hown
  have hug : u.ownBlock ≠ some g := fun e => by have := hu g e; omega
  have key : ∀ b, b < w2.heap.size → u.ownBlock ≠ some b → (Value.slice (some ⟨gu, 0, none⟩) n c).ownBlock ≠ some b := fun b hb2 hn e => by
    simp only [Value.ownBlock, Option.some.injEq] at e
    subst e
    rcases hat with q | q
    · exact hn q
    · omega
  have hkg := hk g r1.lt hug
  refine ⟨by rw [List.length_append, h.len]; rfl, fun i hi => ?_, fun i hi v hv => ?_⟩
  · rcases Nat.lt_or_ge i k with q | q
    · obtain ⟨gi, ci, ri, q1, q2, q3, q4, q5, q6, q7⟩ := h.at' i q
      have q4' := q4.below hb
      exact ⟨gi, ci, ri, by rw [List.getElem?_append_left (by rw [h.len]; exact q)]; exact q1, key gi q4'.lt q2, q3, q4'.block (hk gi q4'.lt q2), q5, q6, q7⟩
    · obtain rfl : i = k := by omega
      exact ⟨g, cap, rows, by rw [List.getElem?_append_right (by rw [h.len]; exact Nat.le_refl _), h.len]; simp, key g r1.lt hug, by omega, r1.block hkg, r2, r3, r4⟩
  · rcases Nat.lt_or_ge i k with q | q
    · rw [List.getElem?_append_left (by rw [h.len]; exact q)] at hv
      obtain ⟨gi, ci, ri, q1, q2, q3, q4, q5, q6, q7⟩ := h.at' i q
      refine ((h.rd i q v hv).below hb).at fun b e => ?_
      rw [q1] at hv
      obtain rfl := Option.some.inj hv
      simp only [Value.ownBlock, Option.some.injEq] at e
      subst e
      exact hk gi (q4.below hb).lt q2
    · obtain rfl : i = k := by omega
      rw [List.getElem?_append_right (by rw [h.len]; exact Nat.le_refl _), h.len] at hv
      simp only [Nat.sub_self, List.getElem?_cons_zero, Option.some.injEq] at hv
      subst hv
      refine (IsR.of_owns hown hT).at fun b e => ?_
      simp only [Value.ownBlock, Option.some.injEq] at e
      subst e
      exact hkg
theorem PhS.isP {B B' : Nat} {w : World} {u : Value} {vs : List Value} {L : List (List (List Int))} (h : PhS B w u vs L L.length) (hown : w.ownsRow B' 56 1 u L.length vs) : IsP 3 w u L := by
  rcases hown.2 with ⟨rfl, h0⟩ | ⟨g, cap, cur, rfl, hg, hh, h1, h2, h3, h4⟩
  · have : L = [] := List.eq_nil_of_length_eq_zero h0
    subst this
    exact IsP.nil 3 w
  · refine ⟨some ⟨g, 0, none⟩, cap, rfl, h1, h2, fun i hi => ?_⟩
    obtain ⟨v, hv⟩ : ∃ v, vs[i]? = some v := ⟨_, List.getElem?_eq_getElem (by rw [h.len]; exact hi)⟩
    refine ⟨g, 0, v, rfl, ?_, h.rd i hi v hv⟩
    rw [Nat.zero_add]
    have q := hv
    rw [← h4, List.getElem?_take, if_pos (by omega)] at q
    simp only [World.cell?, hh]
    rw [← Array.getElem?_toList, q]; rfl

/-- The phases that were handed in, as they lie, spoilt or not. -/
def Pz (B1 B2 gp : Nat) (vs : List Value) (L : List (List (List Int))) (n : Nat) (w : World) : Prop :=
  ∀ j, j < n → ∃ g cap rows, vs[j]? = some (.slice (some ⟨g, 0, none⟩) (L.getD j []).length cap) ∧ g ≠ gp ∧ B1 ≤ g ∧ g < B2 ∧ RowV 41 w g rows ∧ rows.length = cap * 3 ∧ (L.getD j []).length ≤ cap ∧ cap ≤ maxLen
theorem PhS.pz {B : Nat} {w : World} {gp l c : Nat} {vs : List Value} {L : List (List (List Int))} {k : Nat} (h : PhS B w (.slice (some ⟨gp, 0, none⟩) l c) vs L k) : Pz B w.heap.size gp vs L k w := fun j hj => by
  obtain ⟨g, cap, rows, h1, h2, h3, h4, h5, h6, h7⟩ := h.at' j hj
  exact ⟨g, cap, rows, h1, fun e => h2 (by rw [e]; rfl), h3, h4.lt, h4, h5, h6, h7⟩
theorem Pz.kept {B1 B2 gp : Nat} {vs : List Value} {L : List (List (List Int))} {n : Nat} {w w' : World} (h : Pz B1 B2 gp vs L n w) (hk : ∀ b, B1 ≤ b → b < B2 → b ≠ gp → w'.heap[b]? = w.heap[b]?) : Pz B1 B2 gp vs L n w' := fun j hj => by
  obtain ⟨g, cap, rows, h1, h2, h3, h4, h5, h6, h7, h8⟩ := h j hj
  exact ⟨g, cap, rows, h1, h2, h3, h4, h5.block (hk g h3 h4 h2), h6, h7, h8⟩
theorem Pz.spoilt {B1 B2 gp : Nat} {vs : List Value} {L : List (List (List Int))} {n : Nat} {w w' : World} {g0 : Nat} {r0 r1 : List Value} (h : Pz B1 B2 gp vs L n w) (h0 : RowV 41 w g0 r0) (hb : Bar g0 w w') (h1 : RowV 41 w' g0 r1) (hl : r1.length = r0.length) : Pz B1 B2 gp vs L n w' := fun j hj => by
  obtain ⟨g, cap, rows, q1, q2, q3, q4, q5, q6, q7, q8⟩ := h j hj
  by_cases e : g = g0
  · subst e
    have e2 : rows = r0 := by
      have a1 : w.heap[g]? = _ := q5
      have a2 : w.heap[g]? = _ := h0
      rw [a1] at a2
      simp only [Option.some.injEq, Obj.cells.injEq, and_true] at a2
      simpa using a2
    exact ⟨g, cap, r1, q1, q2, q3, q4, h1, by rw [hl, ← e2]; exact q6, q7, q8⟩
  · exact ⟨g, cap, rows, q1, q2, q3, q4, q5.block (hb.block g q5.lt e), q6, q7, q8⟩
theorem spoil_Zs (w : World) (B n g cap : Nat) (x : Int) (xs : List Value) (h : w.ownsRow B 3 1 (.slice (some ⟨g, 0, none⟩) n cap) n xs) :
    Calls Tryd.prog 37 #[.slice (some ⟨g, 0, none⟩) n cap, .int .i64 x] w fun e w' => e = .returned (.tuple #[]) ∧ But (fun k => (Value.slice (some ⟨g, 0, none⟩) n cap).ownBlock = some k) w w' := by
  obtain ⟨rows, h1, h2, h3, h4, _⟩ := owns_row h
  refine (spoil_Z w g n cap x rows h1 (by omega) h3 h4).mono ?_
  rintro e w' ⟨rfl, _, hb⟩
  exact ⟨rfl, But.of_bars hb⟩
/-- Two runs, apart from each other, in blocks from B on; what was there ahead of w is as it was. -/
structure Two (w : World) (B : Nat) (wr : World) (p q : Value) (ds : List Nat) (L : List (List (List Int))) (xs : List Nat) (c d : Crw) (O Q : Nat → Prop) : Prop where
  r : Run wr p ds L xs 3 false c O
  t : Run wr q ds L xs 3 false d Q
  rn : ∀ k, O k → B ≤ k
  tn : ∀ k, Q k → B ≤ k
  dis : ∀ k, O k → ¬ Q k
  bel : Below w.heap.size w wr
section
variable {w wr wr' : World} {B : Nat} {p q : Value} {ds : List Nat} {L : List (List (List Int))} {xs : List Nat} {c d : Crw} {O Q : Nat → Prop}
theorem Two.below (h : Two w B wr p q ds L xs c d O Q) (hb : Below wr.heap.size wr wr') : Two w B wr' p q ds L xs c d O Q :=
  { h with r := h.r.below hb, t := h.t.below hb, bel := h.bel.trans (hb.mono h.bel.size) }
/-- A list is spoilt that is no run's. -/
theorem Two.spoilt {R : Nat → Prop} (h : Two w B wr p q ds L xs c d O Q) (hb : But R wr wr') (hR : ∀ k, R k → w.heap.size ≤ k ∧ (k < B ∨ wr.heap.size ≤ k ∨ (¬ O k ∧ ¬ Q k))) : Two w B wr' p q ds L xs c d O Q := by
  have hO : ∀ k, O k → ¬ R k := fun k q1 q2 => by
    have h1 := h.rn k q1
    have h2 := h.r.old k q1
    rcases (hR k q2).2 with e | e | e
    · omega
    · omega
    · exact e.1 q1
  have hQ : ∀ k, Q k → ¬ R k := fun k q1 q2 => by
    have h1 := h.tn k q1
    have h2 := h.t.old k q1
    rcases (hR k q2).2 with e | e | e
    · omega
    · omega
    · exact e.2 q1
  exact { h with r := h.r.but hb hO, t := h.t.but hb hQ, bel := h.bel.trans (hb.below h.bel.size fun k e => (hR k e).1) }
theorem Two.step1 {c' : Crw} {O' : Nat → Prop} (h : Two w B wr p q ds L xs c d O Q) (hw : w.heap.size ≤ B) (hB : B ≤ wr.heap.size) (h1 : Run wr' p ds L xs 3 false c' O') (h2 : ∀ k, O' k → O k ∨ wr.heap.size ≤ k) (h3 : But O wr wr') : Two w B wr' p q ds L xs c' d O' Q := by
  refine ⟨h1, h.t.but h3 fun k q1 q2 => h.dis k q2 q1, fun k e => ?_, h.tn, fun k e1 e2 => ?_, h.bel.trans (h3.below h.bel.size fun k e => Nat.le_trans hw (h.rn k e))⟩
  · rcases h2 k e with e | e
    · exact h.rn k e
    · omega
  · rcases h2 k e1 with e | e
    · exact h.dis k e e2
    · have := h.t.old k e2; omega
theorem Two.step2 {d' : Crw} {Q' : Nat → Prop} (h : Two w B wr p q ds L xs c d O Q) (hw : w.heap.size ≤ B) (hB : B ≤ wr.heap.size) (h1 : Run wr' q ds L xs 3 false d' Q') (h2 : ∀ k, Q' k → Q k ∨ wr.heap.size ≤ k) (h3 : But Q wr wr') : Two w B wr' p q ds L xs c d' O Q' := by
  refine ⟨h.r.but h3 fun k q1 q2 => h.dis k q1 q2, h1, h.rn, fun k e => ?_, fun k e1 e2 => ?_, h.bel.trans (h3.below h.bel.size fun k e => Nat.le_trans hw (h.tn k e))⟩
  · rcases h2 k e with e | e
    · exact h.tn k e
    · omega
  · rcases h2 k e2 with e | e
    · exact h.dis k e1 e
    · have := h.r.old k e1; omega
theorem Two.size (h : Two w B wr p q ds L xs c d O Q) : B ≤ wr.heap.size := by
  obtain ⟨r, ga, vd, _, _, _, _, _, _, _, hO, _⟩ := id h.r
  have h1 := h.rn r.g ((hO r.g).mpr (.inl rfl))
  have h2 := h.r.old r.g ((hO r.g).mpr (.inl rfl))
  omega
/-- What is read of a box while one run goes on. -/
theorem box_kept {O' : Nat → Prop} {wr : World} (a b : Int) {w2 : World} (hb : But O' (wr.alloc (.cells #[.int .i64 a, .int .i64 b] 66)) w2) (hO : ∀ k, O' k → k < wr.heap.size) : w2.cell? ⟨wr.heap.size, 0, none⟩ = some (.int .i64 a) ∧ w2.cell? ⟨wr.heap.size, 1, none⟩ = some (.int .i64 b) := by
  have q := new_row wr 66 [.int .i64 a, .int .i64 b]
  have q2 := q.block (hb.block _ q.lt fun e => by have := hO _ e; omega)
  exact ⟨q2.cell 0, q2.cell 1⟩
theorem Run.lt {W : Nat} {back : Bool} (h : Run wr p ds L xs W back c O) : ∀ x ∈ c.A, ((x : Nat) : Int) < 18446744073709551616 := by
  obtain ⟨r, ga, vd, _, _, _, _, _, _, hR, _⟩ := h
  exact Rng_of_P hR.lt
end

end Go.Proofs.YtmgfjcepebjnfagDoor
