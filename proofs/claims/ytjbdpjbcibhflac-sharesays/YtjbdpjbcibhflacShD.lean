/-
  Two rows of the call's own, each appended to; shares as points.
-/
import Derived.Test.YtjbdpjbcibhflacShX
import Derived.Test.YtjbdpjbcibhflacRefPoints
import Derived.OrdersHeld
import Derived.Deep.AppendLies
namespace Go.Proofs.Ytjbdpjbcibhflac
open Go.RowKit

section
variable {P : Program} {ops : Array Oper} {Q : Exit → Act → World → Prop} {md : Region.Mode} {S : World → Prop}
theorem wpAnyH_oneD {i : Nat} {o : Oper} {fuel : Nat} {listed : Array Bool} {a : Act} {w : World} (ho : ops[i]? = some o) (hr : Region.ready md ops listed = [i])
    (h : ∀ K' : Act → World → Prop, Hid (∀ a' w', S w' → wpAnyH P md ops Q S fuel (listed.setIfInBounds i true) a' w' → K' a' w') → if Region.wanted o (yielded ops a.tmps) = true then Oper.wp P o a w K' Q else K' (a.put o.dst undef) w) : wpAnyH P md ops Q S (fuel + 1) listed a w := by
  refine wpAnyH_all hr (by simp) fun j hj => ?_
  simp only [List.mem_singleton] at hj
  subst hj
  exact wpOp_step ho (fun K' hK => h K' (fun a' w' hS hW => hK a' w' ⟨hS, hW⟩))
theorem wpAnyH_two {i j : Nat} {o o' : Oper} {fuel : Nat} {listed : Array Bool} {a : Act} {w : World} (ho : ops[i]? = some o) (ho' : ops[j]? = some o') (hr : Region.ready md ops listed = [i, j])
    (h : ∀ K' : Act → World → Prop, Hid (∀ a' w', S w' → wpAnyH P md ops Q S fuel (listed.setIfInBounds i true) a' w' → K' a' w') → if Region.wanted o (yielded ops a.tmps) = true then Oper.wp P o a w K' Q else K' (a.put o.dst undef) w)
    (h' : ∀ K' : Act → World → Prop, Hid (∀ a' w', S w' → wpAnyH P md ops Q S fuel (listed.setIfInBounds j true) a' w' → K' a' w') → if Region.wanted o' (yielded ops a.tmps) = true then Oper.wp P o' a w K' Q else K' (a.put o'.dst undef) w) : wpAnyH P md ops Q S (fuel + 1) listed a w := by
  refine wpAnyH_all hr (by simp) fun k hk => ?_
  simp only [List.mem_cons, List.not_mem_nil, or_false] at hk
  rcases hk with e | e
  · subst e
    exact wpOp_step ho (fun K' hK => h K' (fun a' w' hS hW => hK a' w' ⟨hS, hW⟩))
  · subst e
    exact wpOp_step ho' (fun K' hK => h' K' (fun a' w' hS hW => hK a' w' ⟨hS, hW⟩))
theorem wp_region_HD {id : Nat} {a : Act} {w : World} (hm : P.follows .mixedOrders = true)
    (h : wpAnyH P .any ops Q S ops.size (Array.replicate ops.size false) a w.drew) : (Code.region id ops true).wp P Q a w := wp_region_held hm h
end

theorem Ow.grown {B : Nat} {w w' : World} {v : Value} {xs : List Nat} {row : Option Nat} (h : Ow B w v xs) (hg : w.grownBy w' row) (hne : ∀ g, v.ownBlock = some g → some g ≠ row) : Ow B w' v xs := by
  refine ⟨h.1, ?_⟩
  rcases h.2 with h2 | ⟨g, cap, cur, hv, hB, hh, r⟩
  · exact Or.inl h2
  · have hlt : g < w.heap.size := by
      rcases Nat.lt_or_ge g w.heap.size with hl | hl
      · exact hl
      · rw [Array.getElem?_eq_none hl] at hh; cases hh
    exact Or.inr ⟨g, cap, cur, hv, hB, (hg.block g hlt (hne g (by rw [hv]; rfl))).trans hh, r⟩
theorem Ow.lt {B : Nat} {w : World} {v : Value} {xs : List Nat} (h : Ow B w v xs) {g : Nat} (e : v.ownBlock = some g) : g < w.heap.size := by
  rcases h.2 with ⟨rfl, _⟩ | ⟨g', cap, cur, rfl, hB, hh, r⟩
  · simp [Value.ownBlock] at e
  · simp [Value.ownBlock] at e
    subst e
    rcases Nat.lt_or_ge g' w.heap.size with hl | hl
    · exact hl
    · rw [Array.getElem?_eq_none hl] at hh; cases hh
/-- Two rows of the call's own, apart from each other. -/
structure Two (w0 w : World) (vx vy : Value) (X Y : List Nat) : Prop where
  ox : Ow w0.heap.size w vx X
  oy : Ow w0.heap.size w vy Y
  ap : ∀ g, vx.ownBlock = some g → vy.ownBlock ≠ some g
  bl : Below w0.heap.size w0 w
theorem Two.swap {w0 w : World} {vx vy : Value} {X Y : List Nat} (h : Two w0 w vx vy X Y) : Two w0 w vy vx Y X := ⟨h.oy, h.ox, fun g e q => h.ap g q e, h.bl⟩
theorem Two.below {w0 w w' : World} {vx vy : Value} {X Y : List Nat} (h : Two w0 w vx vy X Y) (hb : Below w.heap.size w w') : Two w0 w' vx vy X Y :=
  ⟨h.ox.below hb, h.oy.below hb, h.ap, h.bl.trans (hb.mono h.bl.size)⟩
theorem Two.fresh {w0 w : World} {vx vy : Value} {X Y : List Nat} (h : Two w0 w vx vy X Y) (g : Nat) (hg : w.heap.size ≤ g) : vx.ownBlock ≠ some g ∧ vy.ownBlock ≠ some g :=
  ⟨fun e => by have := h.ox.lt e; omega, fun e => by have := h.oy.lt e; omega⟩
/-- Block g holds one number. -/
def Lt (w : World) (g z : Nat) : Prop := w.heap[g]? = some (.cells #[.int .u64 (z : Int)] 30 (0, 0))
theorem lt_new (w : World) (z : Nat) : Lt (w.alloc (.cells #[.int .u64 (z : Int)] 30)) w.heap.size z := by
  show (w.heap.push _)[w.heap.size]? = _
  simp
theorem Lt.lt {w : World} {g z : Nat} (h : Lt w g z) : g < w.heap.size := by
  rcases Nat.lt_or_ge g w.heap.size with hl | hl
  · exact hl
  · unfold Lt at h; rw [Array.getElem?_eq_none hl] at h; cases h
theorem Lt.below {w w' : World} {g z : Nat} (h : Lt w g z) (hb : Below w.heap.size w w') : Lt w' g z := (hb.block g h.lt).trans h
theorem Lt.grown {w w' : World} {g z : Nat} {row : Option Nat} (h : Lt w g z) (hg : w.grownBy w' row) (hne : row ≠ some g) : Lt w' g z := (hg.block g h.lt (fun e => hne e.symm)).trans h
/-- One number more for the first row. -/
theorem step_appX {ops : Array Oper} {o : Oper} {a : Act} {K : Act → World → Prop} {Q : Exit → Act → World → Prop} {E : Prop} {w0 w : World} {vx vy : Value} {X Y : List Nat} {g z : Nat} (hgd : o.guard = none) (s x : Operand)
    (ho : o.op = .call { callee := .builtin .append, args := #[s, x], argTypes := #[22, 22] }) (h : Two w0 w vx vy X Y) (hL : Lt w g z)
    (hs : a.eval s = vx) (hx : a.eval x = .slice (some ⟨g, 0, none⟩) 1 1) (hl : X.length ≤ 1000)
    (hK : ∀ v' w', Two w0 w' v' vy (X ++ [z]) Y → w.grownBy w' vx.ownBlock → K (a.put o.dst v') w') :
    if Region.wanted o (yielded ops a.tmps) = true then Oper.wp Try.prog o a w K Q else E := by
  obtain ⟨i0, hi, hz0, hz1, hz2⟩ := info_parts info_u64
  refine step_append_lies _ hgd s x 22 ho w0.heap.size 30 i0 (.int .u64 0) 1 8 Try.underlying22 hi hz0 hz1 hz2 rfl (by decide) vx X.length (cellsU X) hs h.ox ⟨g, 0, none⟩ 1 1 [.int .u64 (z : Int)] hx rfl ?_ ?_ (by decide) (by unfold maxLen; omega) (by omega) h.bl.size w.heap.size rfl ?_
  · exact World.news_of_block (cs := #[.int .u64 (z : Int)]) hL
  · intro u hu; simp at hu; subst hu; rfl
  · intro g' cap w' hown hgrow hlies hlt
    refine hK _ w' ⟨?_, h.oy.grown hgrow (fun k e q => h.ap k q.symm e), ?_, ?_⟩ hgrow
    · unfold Ow
      rw [List.length_append, cellsU_append]
      exact hown
    · intro k e q
      simp [Value.ownBlock] at e
      subst e
      rcases hlies with r | r
      · exact h.ap g' r q
      · have := h.oy.lt q; omega
    · exact h.bl.grown hgrow h.bl.size (owns_block h.ox)
theorem xsS_succ (L : List (Int × Nat)) (n : Nat) : xsS L (n + 1) = xsS L n ++ [fW (rt 6) (atS L n).toNat] := by unfold xsS; rw [List.range_succ, List.map_append]; rfl
theorem ysS_succ (L : List (Int × Nat)) (n : Nat) : ysS L (n + 1) = ysS L n ++ [syS L n] := by unfold ysS; rw [List.range_succ, List.map_append]; rfl

/-- The length of a slice. -/
def lenOf (v : Value) : Nat := match v with | .slice _ n _ => n | _ => 0
theorem xsS_rng (L : List (Int × Nat)) (n : Nat) : ∀ x ∈ xsS L n, (x : Int) < 18446744073709551616 := fun x hx => by
  obtain ⟨i, _, rfl⟩ := List.mem_map.mp hx
  have := fW_lt (rt 6) (atS L i).toNat
  omega
theorem ysS_rng (L : List (Int × Nat)) (n : Nat) (h : ∀ i, i < n → syS L i < 18446744073709551616) : ∀ x ∈ ysS L n, (x : Int) < 18446744073709551616 := fun x hx => by
  obtain ⟨i, hi, rfl⟩ := List.mem_map.mp hx
  have := h i (List.mem_range.mp hi)
  omega
theorem pts_S {L : List (Int × Nat)} {n : Nat} (h : ShK L n) (hn : n ≤ 128) : Pts (xsS L n) (ysS L n) := by
  refine ⟨by rw [xsS_length, ysS_length], by rw [xsS_length]; exact hn, ?_⟩
  have hd : ∀ i j, i < j → j < n → fN ((xsS L n).getD j 0) ≠ fN ((xsS L n).getD i 0) := fun i j hij hj e => by
    have h1 : cf (xsS L n) j = cf (xsS L n) i := by
      unfold cf
      rw [← toF_fN, e, toF_fN]
    rw [xsS_cf _ _ _ hj, xsS_cf _ _ _ (by omega)] at h1
    exact plS_ne h hij hj h1.symm
  rw [xsS_length]
  exact ⟨fun p q h1 h2 => hd q p h2 h1, fun _ h2 => absurd h2 (by omega)⟩
theorem mk_pad {l : List Nat} {k : Nat} (hl : l.length ≤ k) (hP : ∀ x ∈ l, x < P) : mk k (cf l) = l ++ List.replicate (k - l.length) 0 := by
  obtain ⟨m, rfl⟩ : ∃ m, k = l.length + m := ⟨k - l.length, by omega⟩
  rw [Nat.add_sub_cancel_left]
  clear hl
  induction m with
  | zero => rw [Nat.add_zero, List.replicate_zero, List.append_nil]; exact (eq_mk hP).symm
  | succ m ih => rw [← Nat.add_assoc, mk_succ, ih, cf_ge (by omega), List.replicate_succ', List.append_assoc]; rfl

end Go.Proofs.Ytjbdpjbcibhflac
