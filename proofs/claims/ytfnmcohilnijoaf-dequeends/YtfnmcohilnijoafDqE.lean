/-
  The law DequeEnds, between two calls: what was pushed and did not come out yet is what the deque holds.
-/
import Derived.Test.YtfnmcohilnijoafDqS
import Derived.Test.YtfnmcohilnijoafDqM
namespace Go.Proofs.Ytfnmcohilnijoaf
open Go.RowKit

theorem dq_next {w W W' : World} {O O' : Nat → Prop} (hB : Below w.heap.size w W) (hn : ∀ k, O k → w.heap.size ≤ k) (hO : ∀ k, O' k → O k ∨ W.heap.size ≤ k) (hb : But O W W') : Below w.heap.size w W' ∧ ∀ k, O' k → w.heap.size ≤ k := by
  have hs := hB.size
  refine ⟨hB.trans (hb.below hs hn), fun k q => ?_⟩
  rcases hO k q with q | q
  · exact hn k q
  · omega
theorem below_box {w W : World} (h : Below w.heap.size w W) (o : Obj) : Below w.heap.size w (W.alloc o) := h.trans ((below_alloc1 W o).mono h.size)

/-- The tasks that DequeEnds pushes. -/
def tk (q : List Nat) : List (List Int) := q.map fun (i : Nat) => [(i : Int), 0, 0]
theorem tk_append (q : List Nat) (i : Nat) : tk (q ++ [i]) = tk q ++ [[(i : Int), 0, 0]] := by simp [tk]
theorem tk_length (q : List Nat) : (tk q).length = q.length := by simp [tk]

/-- k calls are made: the deque p holds the tasks q; the map bi has what was pushed, the map bo what came out. -/
structure Se (w : World) (p : Value) (k : Nat) (q I U : List Nat) (bi bo : Nat) (O : Nat → Prop) (wr : World) : Prop where
  dq : Dq wr p 64 (tk q) O
  new : ∀ k, O k → w.heap.size ≤ k
  mi : MapB wr bi I
  mo : MapB wr bo U
  offi : ¬ O bi
  offo : ¬ O bo
  ne : bi ≠ bo
  gei : w.heap.size ≤ bi
  geo : w.heap.size ≤ bo
  bel : Below w.heap.size w wr
  mem : ∀ i, i ∈ I ↔ i ∈ U ∨ i ∈ q
  dis : ∀ i, i ∈ U → i ∉ q
  nod : q.Nodup
  len : I.length = U.length + q.length
  lt : ∀ i, i ∈ I → i < k
  few : I.length ≤ k

/-- A new block. -/
theorem Se.box {w wr : World} {p : Value} {k : Nat} {q I U : List Nat} {bi bo : Nat} {O : Nat → Prop} (h : Se w p k q I U bi bo O wr) (o : Obj) : Se w p k q I U bi bo O (wr.alloc o) :=
  { h with
    dq := h.dq.alloc o
    mi := h.mi.block ((below_alloc1 wr o).block bi h.mi.lt)
    mo := h.mo.block ((below_alloc1 wr o).block bo h.mo.lt)
    bel := below_box h.bel o }
/-- A call of the deque: it holds q2 then. -/
theorem Se.maps {w wr wp : World} {p : Value} {k : Nat} {q I U : List Nat} {bi bo : Nat} {O O2 : Nat → Prop} (h : Se w p k q I U bi bo O wr) (hO2 : ∀ k, O2 k → O k ∨ wr.heap.size ≤ k) (hbu : But O wr wp) :
    MapB wp bi I ∧ MapB wp bo U ∧ ¬ O2 bi ∧ ¬ O2 bo ∧ Below w.heap.size w wp ∧ ∀ k, O2 k → w.heap.size ≤ k := by
  obtain ⟨h1, h2⟩ := dq_next h.bel h.new hO2 hbu
  have l1 := h.mi.lt
  have l2 := h.mo.lt
  refine ⟨h.mi.block (hbu.block bi l1 h.offi), h.mo.block (hbu.block bo l2 h.offo), fun e => ?_, fun e => ?_, h1, h2⟩
  · rcases hO2 bi e with e | e
    · exact h.offi e
    · omega
  · rcases hO2 bo e with e | e
    · exact h.offo e
    · omega
theorem Se.same {w wr wp : World} {p : Value} {k : Nat} {q I U : List Nat} {bi bo : Nat} {O O2 : Nat → Prop} (h : Se w p k q I U bi bo O wr) (hD : Dq wp p 64 (tk q) O2) (hO2 : ∀ k, O2 k → O k ∨ wr.heap.size ≤ k) (hbu : But O wr wp) : Se w p k q I U bi bo O2 wp := by
  obtain ⟨m1, m2, o1, o2, h1, h2⟩ := h.maps hO2 hbu
  exact { h with dq := hD, new := h2, mi := m1, mo := m2, offi := o1, offo := o2, bel := h1 }
theorem Se.next {w wr : World} {p : Value} {k : Nat} {q I U : List Nat} {bi bo : Nat} {O : Nat → Prop} (h : Se w p k q I U bi bo O wr) : Se w p (k + 1) q I U bi bo O wr :=
  { h with lt := fun i hi => Nat.lt_succ_of_lt (h.lt i hi), few := Nat.le_succ_of_le h.few }
/-- One is pushed. -/
theorem Se.push {w wr wp w2 : World} {p : Value} {k : Nat} {q I U : List Nat} {bi bo : Nat} {O O2 : Nat → Prop} (h : Se w p k q I U bi bo O wr) (hD : Dq wp p 64 (tk q ++ [[(k : Int), 0, 0]]) O2) (hO2 : ∀ k, O2 k → O k ∨ wr.heap.size ≤ k) (hbu : But O wr wp)
    (hm : MapB w2 bi (I ++ [k])) (hg : wp.grownBy w2 (some bi)) : Se w p (k + 1) (q ++ [k]) (I ++ [k]) U bi bo O2 w2 := by
  obtain ⟨m1, m2, o1, o2, h1, h2⟩ := h.maps hO2 hbu
  have hk : k ∉ I := fun e => Nat.lt_irrefl _ (h.lt k e)
  have hkU : k ∉ U := fun e => hk ((h.mem k).mpr (.inl e))
  have hkq : k ∉ q := fun e => hk ((h.mem k).mpr (.inr e))
  refine ⟨?_, h2, hm, m2.block (hg.block bo m2.lt (by simpa using Ne.symm h.ne)), o1, o2, h.ne, h.gei, h.geo, h1.grown hg h1.size (fun t ht => by have := h.gei; simp at ht; omega), fun i => ?_, fun i hi => ?_, ?_, ?_, fun i hi => ?_, ?_⟩
  · rw [tk_append]
    exact hD.kept fun t ht => hg.block t (hD.old t ht) (by simp; rintro rfl; exact o1 ht)
  · simp only [List.mem_append, List.mem_singleton, h.mem i]
    exact or_assoc
  · simp only [List.mem_append, List.mem_singleton, not_or]
    exact ⟨h.dis i hi, fun e => hkU (e ▸ hi)⟩
  · rw [List.nodup_append]
    exact ⟨h.nod, by simp, fun a ha b hb e => by simp at hb; subst hb; exact hkq (e ▸ ha)⟩
  · simp only [List.length_append, List.length_singleton, h.len]; omega
  · simp only [List.mem_append, List.mem_singleton] at hi
    rcases hi with hi | hi
    · have := h.lt i hi; omega
    · omega
  · simp only [List.length_append, List.length_singleton]
    have := h.few
    omega
/-- The last one came out. -/
theorem Se.pop {w wr wp w2 : World} {p : Value} {k i : Nat} {q I U : List Nat} {bi bo : Nat} {O O2 : Nat → Prop} (h : Se w p k (q ++ [i]) I U bi bo O wr) (hD : Dq wp p 64 (tk q) O2) (hO2 : ∀ k, O2 k → O k ∨ wr.heap.size ≤ k) (hbu : But O wr wp) (o : Obj)
    (hm : MapB w2 bo (U ++ [i])) (hg : (wp.alloc o).grownBy w2 (some bo)) : Se w p (k + 1) q I (U ++ [i]) bi bo O2 w2 := by
  obtain ⟨m1, m2, o1, o2, h1, h2⟩ := h.maps hO2 hbu
  have hnd := List.nodup_append.mp h.nod
  have hiq : i ∉ q := fun e => hnd.2.2 i e i (by simp) rfl
  have hiU : i ∉ U := fun e => h.dis i e (by simp)
  have hal := below_alloc1 wp o
  refine ⟨?_, h2, (m1.block (hal.block bi m1.lt)).block (hg.block bi (Nat.lt_of_lt_of_le m1.lt hal.size) (by simpa using h.ne)), hm, o1, o2, h.ne, h.gei, h.geo, (below_box h1 o).grown hg (below_box h1 o).size (fun t ht => by have := h.geo; simp at ht; omega), fun j => ?_, fun j hj => ?_, hnd.1, ?_, fun j hj => ?_, ?_⟩
  · exact (hD.alloc o).kept fun t ht => hg.block t (Nat.lt_of_lt_of_le (hD.old t ht) hal.size) (by simp; rintro rfl; exact o2 ht)
  · rw [h.mem j]
    simp only [List.mem_append, List.mem_singleton]
    constructor
    · rintro (h1 | h1 | h1)
      · exact .inl (.inl h1)
      · exact .inr h1
      · exact .inl (.inr h1)
    · rintro ((h1 | h1) | h1)
      · exact .inl h1
      · exact .inr (.inr h1)
      · exact .inr (.inl h1)
  · simp only [List.mem_append, List.mem_singleton] at hj
    rcases hj with hj | hj
    · exact fun e => h.dis j hj (by simp [e])
    · subst hj; exact hiq
  · have := h.len
    simp only [List.length_append, List.length_singleton] at this ⊢
    omega
  · have := h.lt j hj; omega
  · have := h.few; omega

theorem Se.lens {w wr : World} {p : Value} {k : Nat} {q I U : List Nat} {bi bo : Nat} {O : Nat → Prop} (h : Se w p k q I U bi bo O wr) :
    ∃ ni nu nq : Nat, (∀ ty, (Builtin.len_ #[33] ty #[.map (some bi)]).run Try.prog wr = .ok (.int .i64 (ni : Int)) wr) ∧ (∀ ty, (Builtin.len_ #[33] ty #[.map (some bo)]).run Try.prog wr = .ok (.int .i64 (nu : Int)) wr) ∧ (ni : Int) - (nu : Int) = (nq : Int) ∧ ni ≤ k ∧ (tk q).length = nq := by
  have := h.len
  exact ⟨I.length, U.length, q.length, h.mi.len, h.mo.len, by omega, h.few, tk_length q⟩
/-- Two maps are made behind a new deque. -/
theorem Se.start {w w6 w7 : World} {p : Value} {O : Nat → Prop} (hb6 : Below w.heap.size w w6) (hD : Dq w7 p 64 [] O) (hO : ∀ k, O k → w6.heap.size ≤ k) (hb7 : Below w6.heap.size w6 w7) :
    Se w p 0 [] [] [] w7.heap.size (w7.heap.size + 1) O ((w7.alloc (.map #[] 0)).alloc (.map #[] 0)) := by
  have hB7 : Below w.heap.size w w7 := hb6.trans (hb7.mono hb6.size)
  have hs := hB7.size
  have hs6 := hb6.size
  have hs1 : (w7.alloc (.map #[] 0)).heap.size = w7.heap.size + 1 := by simp
  have m2 := MapB.made (w7.alloc (.map #[] 0))
  rw [hs1] at m2
  refine ⟨(hD.alloc _).alloc _, fun k q => by have := hO k q; omega, (MapB.made w7).block ((below_alloc1 _ _).block _ (by omega)), m2, fun q => ?_, fun q => ?_, by omega, by omega, by omega, below_box (below_box hB7 _) _, fun i => by simp, fun i hi => by simp at hi, List.nodup_nil, rfl, fun i hi => by simp at hi, Nat.le_refl _⟩
  · have := hD.old _ q; omega
  · have := hD.old _ q; omega

theorem cell_one {w : World} {b i : Nat} {u : Value} (h : w.cell? ⟨b, i, none⟩ = some u) (o : Obj) : (w.alloc o).cell? ⟨b, i, none⟩ = some u :=
  ((below_alloc1 w o).cell (p := ⟨b, i, none⟩) (block_lt h)).trans h
/-- What is looked up when the last one came out. -/
theorem Se.looks {w wr wp : World} {p : Value} {k i : Nat} {q I U : List Nat} {bi bo : Nat} {O O2 : Nat → Prop} (h : Se w p k (q ++ [i]) I U bi bo O wr) (hO2 : ∀ k, O2 k → O k ∨ wr.heap.size ≤ k) (hbu : But O wr wp) (hk : k ≤ 1000) (o : Obj) :
    (Instr.lookup 33 (.map (some bi)) (.int .i64 (i : Int)) false).run Try.prog (wp.alloc o) = .ok (.bool true) (wp.alloc o) ∧ (Instr.lookup 33 (.map (some bo)) (.int .i64 (i : Int)) false).run Try.prog (wp.alloc o) = .ok (.bool false) (wp.alloc o) ∧ MapB (wp.alloc o) bo U := by
  obtain ⟨m1, m2, -⟩ := h.maps hO2 hbu
  have hiI : i ∈ I := (h.mem i).mpr (.inr (by simp))
  have hiU : i ∉ U := fun e => h.dis i e (by simp)
  have hi := h.lt i hiI
  have hal := below_alloc1 wp o
  have m1' := m1.block (hal.block bi m1.lt)
  have m2' := m2.block (hal.block bo m2.lt)
  refine ⟨?_, ?_, m2'⟩
  · rw [m1'.look i (by omega), decide_eq_true hiI]
  · rw [m2'.look i (by omega), decide_eq_false hiU]

/-- A block that was made ahead of a call may be written. -/
theorem But.boxF {O : Nat → Prop} {w wp : World} {cs : Array Value} {t : Nat} (hb : But O (w.alloc (.cells cs t)) wp) (hO : ∀ k, O k → k < w.heap.size) (i : Nat) : wp.frozen? ⟨w.heap.size, i, none⟩ = false := by
  have hs : (w.alloc (.cells cs t)).heap.size = w.heap.size + 1 := by simp
  have e0 : (w.alloc (.cells cs t)).heap[w.heap.size]? = some (.cells cs t) := by
    show (w.heap.push _)[w.heap.size]? = _
    simp
  have e : wp.heap[w.heap.size]? = some (.cells cs t) := (hb.block w.heap.size (by omega) fun q => by have := hO _ q; omega).trans e0
  simp [World.frozen?, e]
/-- A block of the law's own is written. -/
theorem Se.set {w wr : World} {p : Value} {k : Nat} {q I U : List Nat} {bi bo : Nat} {O : Nat → Prop} (h : Se w p k q I U bi bo O wr) (b i : Nat) (u : Value) (hw : w.heap.size ≤ b) (hO : ¬ O b) (h1 : b ≠ bi) (h2 : b ≠ bo) : Se w p k q I U bi bo O (wr.setCell ⟨b, i, none⟩ u) :=
  { h with
    dq := h.dq.kept fun t ht => Below.heap_setCell _ _ _ _ (fun e => hO (by cases e; exact ht))
    mi := h.mi.block (Below.heap_setCell _ _ _ _ (Ne.symm h1))
    mo := h.mo.block (Below.heap_setCell _ _ _ _ (Ne.symm h2))
    bel := h.bel.setCell (p := ⟨b, i, none⟩) hw u }

theorem Se.three {w wp ws : World} {p : Value} {k : Nat} {q I U : List Nat} {bi bo : Nat} {O2 O4 : Nat → Prop} {o : Obj} (h : Se w p k q I U bi bo O2 wp) (hD4 : Dq ws p 64 (tk q) O4) (hO4 : ∀ k, O4 k → O2 k ∨ (wp.alloc o).heap.size ≤ k) (hbu4 : But O2 (wp.alloc o) ws) (u0 u1 u2 : Value) :
    Se w p (k + 1) q I U bi bo O4 (((ws.setCell ⟨wp.heap.size, 0, none⟩ u0).setCell ⟨wp.heap.size, 1, none⟩ u1).setCell ⟨wp.heap.size, 2, none⟩ u2) := by
  have hs : (wp.alloc o).heap.size = wp.heap.size + 1 := by simp
  have hn : ¬ O4 wp.heap.size := fun e => by
    rcases hO4 _ e with e | e
    · exact Nat.lt_irrefl _ (h.dq.old _ e)
    · omega
  have l1 := h.mi.lt
  have l2 := h.mo.lt
  have h4 := ((h.box o).same hD4 hO4 hbu4).next
  exact ((h4.set _ 0 u0 h.bel.size hn (by omega) (by omega)).set _ 1 u1 h.bel.size hn (by omega) (by omega)).set _ 2 u2 h.bel.size hn (by omega) (by omega)

end Go.Proofs.Ytfnmcohilnijoaf
