/-
  The law DequePlays, between two calls: the deque holds what the law's own list holds.
-/
import Derived.Test.YtfnmcohilnijoafDequeC
import Derived.Test.YtfnmcohilnijoafDqT
import Derived.Test.YtfnmcohilnijoafSlTc
import Derived.Laws.AppendOwn
namespace Go.Proofs.Ytfnmcohilnijoaf
open Go.RowKit

theorem wf_i64 {n : Int} (h : -9223372036854775808 ≤ n ∧ n ≤ 9223372036854775807) : (Lit.int .i64 n).wf = true := by
  simp [Lit.wf, IntKind.min, IntKind.max, IntKind.signed, IntKind.bits]
  omega
theorem Dq.alloc {w : World} {p : Value} {r : Nat} {m : List (List Int)} {O : Nat → Prop} (h : Dq w p r m O) (o : Obj) : Dq (w.alloc o) p r m O := h.kept fun k hk => (below_alloc1 w o).block k (h.old k hk)
theorem But.alloc {O : Nat → Prop} {w w' : World} (h : But O w w') (o : Obj) : But O w (w'.alloc o) := h.trans (O' := O) (But.of_below (below_alloc1 w' o)) fun _ q => .inl q
theorem heap_lt {w : World} {g : Nat} {o : Obj} (h : w.heap[g]? = some o) : g < w.heap.size := by
  rcases Nat.lt_or_ge g w.heap.size with q | q
  · exact q
  · rw [Array.getElem?_eq_none q] at h; cases h
theorem owns_but {O : Nat → Prop} {w w' : World} {B e n : Nat} {v : Value} {xs : List Value} (h : w.ownsRow B e 3 v n xs) (hO : ∀ g, v.ownBlock = some g → ¬ O g) (hb : But O w w') : w'.ownsRow B e 3 v n xs := by
  refine ⟨h.1, ?_⟩
  rcases h.2 with q | ⟨g, cap, cur, hv, hg, hc, rest⟩
  · exact .inl q
  · exact .inr ⟨g, cap, cur, hv, hg, by rw [hb.block g (heap_lt hc) (hO g (by rw [hv]; rfl))]; exact hc, rest⟩

/-- The deque p and the law's list vm both hold m. -/
structure St (w : World) (r : Nat) (p vm : Value) (m : List (List Int)) (O : Nat → Prop) (wr : World) : Prop where
  t3 : T3 m
  own : wr.ownsRow w.heap.size 29 3 vm m.length (tc m)
  dq : Dq wr p r m O
  new : ∀ k, O k → w.heap.size ≤ k
  off : ∀ g, vm.ownBlock = some g → ¬ O g
  bel : Below w.heap.size w wr
/-- A call that leaves the list as it was. -/
theorem St.same {w wr wl : World} {r : Nat} {p vm : Value} {m : List (List Int)} {O O' : Nat → Prop} (h : St w r p vm m O wr) (hb : But O wr wl) (hD : Dq wl p r m O') (hO : ∀ k, O' k → O k ∨ wr.heap.size ≤ k) : St w r p vm m O' wl := by
  have hs := h.bel.size
  refine ⟨h.t3, owns_but h.own h.off hb, hD, fun k hk => ?_, fun g hg hk => ?_, h.bel.trans (hb.below hs h.new)⟩
  · rcases hO k hk with q | q
    · exact h.new k q
    · omega
  · rcases hO g hk with q | q
    · exact h.off g hg q
    · rcases h.own.2 with ⟨hv, _⟩ | ⟨g', cap, cur, hv, _, hc, _⟩
      · rw [hv] at hg; cases hg
      · rw [hv] at hg
        have e : g' = g := Option.some.inj hg
        have := heap_lt hc
        omega

/-- One call behind a new block. -/
theorem St.one {w wr wp : World} {r : Nat} {p vm : Value} {m : List (List Int)} {O O2 : Nat → Prop} {o : Obj} (hS : St w r p vm m O wr) (hbu : But O (wr.alloc o) wp) (hD : Dq wp p r m O2) (hO2 : ∀ k, O2 k → O k ∨ (wr.alloc o).heap.size ≤ k) : St w r p vm m O2 wp := by
  have hsz := (below_alloc1 wr o).size
  exact hS.same (((But.refl O wr).alloc o).trans hbu fun k q => .inl q) hD fun k q => (hO2 k q).imp id fun q => by omega
/-- Two calls, the second one behind two new blocks more. -/
theorem St.two {w wr wp wl : World} {r : Nat} {p vm : Value} {m : List (List Int)} {O O2 O3 : Nat → Prop} {o o1 o2 : Obj} (hS : St w r p vm m O wr) (hbu : But O (wr.alloc o) wp) (hO2 : ∀ k, O2 k → O k ∨ (wr.alloc o).heap.size ≤ k) (hbu3 : But O2 ((wp.alloc o1).alloc o2) wl) (hD3 : Dq wl p r m O3) (hO3 : ∀ k, O3 k → O2 k ∨ ((wp.alloc o1).alloc o2).heap.size ≤ k) : St w r p vm m O3 wl := by
  have hsz := (below_alloc1 wr o).size
  have hB1 : But O wr wp := ((But.refl O wr).alloc o).trans hbu fun k q => .inl q
  have hB2 := (hB1.alloc o1).alloc o2
  have hO2' : ∀ k, O2 k → O k ∨ wr.heap.size ≤ k := fun k q => (hO2 k q).imp id fun q => by omega
  have hs2 := hB2.size
  refine hS.same (hB2.trans hbu3 hO2') hD3 fun k q => ?_
  rcases hO3 k q with q | q
  · exact hO2' k q
  · exact .inr (by omega)
theorem St.form {w wr : World} {r : Nat} {p vm : Value} {m : List (List Int)} {O : Nat → Prop} (h : St w r p vm m O wr) : ∃ am cm, vm = .slice am m.length cm := by
  rcases h.own.2 with ⟨hv, hn⟩ | ⟨g', c', cur, hv, _⟩
  · exact ⟨none, 0, by rw [hn]; exact hv⟩
  · exact ⟨_, _, hv⟩

theorem owns_less {w : World} {B e n g c : Nat} {xs ys : List Value} (h : w.ownsRow B e 3 (.slice (some ⟨g, 0, none⟩) (n + 1) c) (n + 1) (xs ++ ys)) (hl : xs.length = n * 3) : w.ownsRow B e 3 (.slice (some ⟨g, 0, none⟩) n c) n xs := by
  refine ⟨hl, ?_⟩
  rcases h.2 with ⟨hv, _⟩ | ⟨g', cap, cur, hv, hg, hh, h1, h2, h3, h4⟩
  · cases hv
  · simp only [Value.slice.injEq, Option.some.injEq, Addr.mk.injEq, and_true, true_and] at hv
    obtain ⟨rfl, rfl⟩ := hv
    refine .inr ⟨g, c, cur, rfl, hg, hh, by omega, h2, h3, ?_⟩
    have e1 : cur.toList.take (n * 3) = (cur.toList.take ((n + 1) * 3)).take (n * 3) := by rw [List.take_take, Nat.min_eq_left (by omega)]
    rw [e1, h4, ← hl, List.take_left]
/-- The last task of the law's list: where it lies, and what is left without it. -/
theorem St.last {w wr : World} {r : Nat} {p vm : Value} {m' : List (List Int)} {xa xb xc : Int} {O : Nat → Prop} (h : St w r p vm (m' ++ [[xa, xb, xc]]) O wr) :
    ∃ g c, vm = .slice (some ⟨g, 0, none⟩) (m' ++ [[xa, xb, xc]]).length c ∧ w.heap.size ≤ g ∧ m'.length + 1 ≤ c ∧
      Hid (∀ (wp : World) (o : Obj), But O (wr.alloc o) wp → wp.cell? ⟨g, m'.length * 3, none⟩ = some (.int .i64 xa) ∧ wp.cell? ⟨g, m'.length * 3 + 1, none⟩ = some (.int .i64 xb) ∧ wp.cell? ⟨g, m'.length * 3 + 2, none⟩ = some (.int .i64 xc)) ∧
      Hid (∀ (wp : World) (o : Obj), But O (wr.alloc o) wp → wp.ownsRow w.heap.size 29 3 (.slice (some ⟨g, 0, none⟩) m'.length c) m'.length (tc m')) := by
  have hT : T3 m' := fun q hq => h.t3 q (List.mem_append_left _ hq)
  have hlen : (m' ++ [[xa, xb, xc]]).length = m'.length + 1 := by simp
  have hown := h.own
  rw [hlen, tc_append] at hown
  obtain ⟨g, c, rfl, hg, hc⟩ : ∃ g c, vm = .slice (some ⟨g, 0, none⟩) (m'.length + 1) c ∧ w.heap.size ≤ g ∧ m'.length + 1 ≤ c := by
    rcases hown.2 with ⟨_, hn⟩ | ⟨g, cap, cur, hv, hg, _, hc, _⟩
    · omega
    · exact ⟨g, cap, hv, hg, hc⟩
  have ho : ∀ (wp : World) (o : Obj), But O (wr.alloc o) wp → wp.ownsRow w.heap.size 29 3 (.slice (some ⟨g, 0, none⟩) (m'.length + 1) c) (m'.length + 1) (tc m' ++ tc [[xa, xb, xc]]) := fun wp o hb =>
    owns_but hown h.off (((But.refl O wr).alloc o).trans hb fun k q => .inl q)
  refine ⟨g, c, by rw [hlen], hg, hc, fun wp o hb => ?_, fun wp o hb => owns_less (ho wp o hb) (tc_length hT)⟩
  have hl := tc_length hT
  have key : ∀ j, j < 3 → wp.cell? ⟨g, m'.length * 3 + j, none⟩ = some (.int .i64 (([xa, xb, xc] : List Int).getD j 0)) := fun j hj => by
    rw [(ho wp o hb).cellAt (m'.length * 3 + j) (by omega), List.getElem?_append_right (by omega), hl, show m'.length * 3 + j - m'.length * 3 = j by omega]
    match j, hj with
    | 0, _ => rfl
    | 1, _ => rfl
    | 2, _ => rfl
  exact ⟨key 0 (by omega), key 1 (by omega), key 2 (by omega)⟩

/-- What lies in a block that was made ahead of a call. -/
theorem But.box {O : Nat → Prop} {w wp : World} {cs : Array Value} {t : Nat} (hb : But O (w.alloc (.cells cs t)) wp) (hO : ∀ k, O k → k < w.heap.size) (i : Nat) (u : Value) (h : cs[i]? = some u) : wp.cell? ⟨w.heap.size, i, none⟩ = some u := by
  have hs : (w.alloc (.cells cs t)).heap.size = w.heap.size + 1 := by simp
  have e0 : (w.alloc (.cells cs t)).heap[w.heap.size]? = some (.cells cs t) := by
    show (w.heap.push _)[w.heap.size]? = _
    simp
  have e : wp.heap[w.heap.size]? = some (.cells cs t) := (hb.block w.heap.size (by omega) fun q => by have := hO _ q; omega).trans e0
  simp only [World.cell?, e]
  rw [h]; rfl

theorem cell_two {w : World} {b i : Nat} {u : Value} (h : w.cell? ⟨b, i, none⟩ = some u) (o1 o2 : Obj) : ((w.alloc o1).alloc o2).cell? ⟨b, i, none⟩ = some u := by
  have h1 := (below_alloc1 w o1).cell (p := ⟨b, i, none⟩) (block_lt h)
  have h2 := (below_alloc1 (w.alloc o1) o2).cell (p := ⟨b, i, none⟩) (block_lt (h1.trans h))
  exact h2.trans (h1.trans h)

/-- The law's list as it is behind a call, ahead of Len. -/
theorem St.popped {w wr wp : World} {r : Nat} {p : Value} {m m2 : List (List Int)} {O O2 : Nat → Prop} {o : Obj} {g n c n2 : Nat} (hS : St w r p (.slice (some ⟨g, 0, none⟩) n c) m O wr) (hbu : But O (wr.alloc o) wp) (hO2 : ∀ k, O2 k → O k ∨ (wr.alloc o).heap.size ≤ k) (hD : Dq wp p r m2 O2) (hT : T3 m2)
    (hown : wp.ownsRow w.heap.size 29 3 (.slice (some ⟨g, 0, none⟩) n2 c) m2.length (tc m2)) : St w r p (.slice (some ⟨g, 0, none⟩) n2 c) m2 O2 wp := by
  have hsz := (below_alloc1 wr o).size
  have hs := hS.bel.size
  have hB1 : But O wr wp := ((But.refl O wr).alloc o).trans hbu fun k q => .inl q
  have hgl : g < wr.heap.size := by
    rcases hS.own.2 with ⟨hv, _⟩ | ⟨g', cap, cur, hv, _, hc, _⟩
    · cases hv
    · simp only [Value.slice.injEq, Option.some.injEq, Addr.mk.injEq, and_true] at hv
      obtain ⟨rfl, _⟩ := hv
      exact heap_lt hc
  refine ⟨hT, hown, hD, fun k hk => ?_, fun g' hg hk => ?_, hS.bel.trans (hB1.below hs hS.new)⟩
  · rcases hO2 k hk with q | q
    · exact hS.new k q
    · omega
  · simp only [Value.ownBlock, Option.some.injEq] at hg
    subst hg
    rcases hO2 g hk with q | q
    · exact hS.off g rfl q
    · omega
/-- Two new blocks. -/
theorem St.boxed {w wr : World} {r : Nat} {p vm : Value} {m : List (List Int)} {O : Nat → Prop} (hS : St w r p vm m O wr) (o1 o2 : Obj) : St w r p vm m O ((wr.alloc o1).alloc o2) :=
  hS.same (((But.refl O wr).alloc o1).alloc o2) ((hS.dq.alloc o1).alloc o2) fun _ q => .inl q

/-- The law's list behind a call. -/
theorem St.over {w wr wp : World} {r : Nat} {p vm : Value} {m : List (List Int)} {O O2 : Nat → Prop} {o : Obj} (hS : St w r p vm m O wr) (hbu : But O (wr.alloc o) wp) (hO2 : ∀ k, O2 k → O k ∨ (wr.alloc o).heap.size ≤ k) :
    wp.ownsRow w.heap.size 29 3 vm m.length (tc m) ∧ Below w.heap.size w wp ∧ (∀ k, O2 k → w.heap.size ≤ k) ∧ (∀ g, vm.ownBlock = some g → ¬ O2 g) := by
  have hsz := (below_alloc1 wr o).size
  have hs := hS.bel.size
  have hB1 : But O wr wp := ((But.refl O wr).alloc o).trans hbu fun k q => .inl q
  refine ⟨owns_but hS.own hS.off hB1, hS.bel.trans (hB1.below hs hS.new), fun k hk => ?_, fun g hg hk => ?_⟩
  · rcases hO2 k hk with q | q
    · exact hS.new k q
    · omega
  · rcases hO2 g hk with q | q
    · exact hS.off g hg q
    · rcases hS.own.2 with ⟨hv, _⟩ | ⟨g', cap, cur, hv, _, hc, _⟩
      · rw [hv] at hg; cases hg
      · rw [hv] at hg
        have e : g' = g := Option.some.inj hg
        have := heap_lt hc
        omega

end Go.Proofs.Ytfnmcohilnijoaf
