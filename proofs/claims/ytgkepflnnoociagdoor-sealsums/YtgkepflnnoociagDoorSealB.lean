/-
  Two rows of ints of the call's own, each appended to.
-/
import Derived.Test.YtgkepflnnoociagDoorCellsI
import Derived.Test.YtgkepflnnoociagDoorSlZ
import Derived.OrdersHeld
import Derived.Deep.AppendLies
namespace Go.Proofs.YtgkepflnnoociagDoor
open Go.RowKit

section
variable {P : Program} {ops : Array Oper} {Q : Exit → Act → World → Prop} {md : Region.Mode} {S : World → Prop}
theorem wpAnyH_oneB {i : Nat} {o : Oper} {fuel : Nat} {listed : Array Bool} {a : Act} {w : World} (ho : ops[i]? = some o) (hr : Region.ready md ops listed = [i])
    (h : ∀ K' : Act → World → Prop, Hid (∀ a' w', S w' → wpAnyH P md ops Q S fuel (listed.setIfInBounds i true) a' w' → K' a' w') → if Region.wanted o (yielded ops a.tmps) = true then Oper.wp P o a w K' Q else K' (a.put o.dst undef) w) : wpAnyH P md ops Q S (fuel + 1) listed a w := by
  refine wpAnyH_all hr (by simp) fun j hj => ?_
  simp only [List.mem_singleton] at hj
  subst hj
  exact wpOp_step ho (fun K' hK => h K' (fun a' w' hS hW => hK a' w' ⟨hS, hW⟩))
theorem wpAnyH_twoB {i j : Nat} {o o' : Oper} {fuel : Nat} {listed : Array Bool} {a : Act} {w : World} (ho : ops[i]? = some o) (ho' : ops[j]? = some o') (hr : Region.ready md ops listed = [i, j])
    (h : ∀ K' : Act → World → Prop, Hid (∀ a' w', S w' → wpAnyH P md ops Q S fuel (listed.setIfInBounds i true) a' w' → K' a' w') → if Region.wanted o (yielded ops a.tmps) = true then Oper.wp P o a w K' Q else K' (a.put o.dst undef) w)
    (h' : ∀ K' : Act → World → Prop, Hid (∀ a' w', S w' → wpAnyH P md ops Q S fuel (listed.setIfInBounds j true) a' w' → K' a' w') → if Region.wanted o' (yielded ops a.tmps) = true then Oper.wp P o' a w K' Q else K' (a.put o'.dst undef) w) : wpAnyH P md ops Q S (fuel + 1) listed a w := by
  refine wpAnyH_all hr (by simp) fun k hk => ?_
  simp only [List.mem_cons, List.not_mem_nil, or_false] at hk
  rcases hk with e | e
  · subst e
    exact wpOp_step ho (fun K' hK => h K' (fun a' w' hS hW => hK a' w' ⟨hS, hW⟩))
  · subst e
    exact wpOp_step ho' (fun K' hK => h' K' (fun a' w' hS hW => hK a' w' ⟨hS, hW⟩))
theorem wp_region_HB {id : Nat} {a : Act} {w : World} (hm : P.follows .mixedOrders = true)
    (h : wpAnyH P .any ops Q S ops.size (Array.replicate ops.size false) a w.drew) : (Code.region id ops true).wp P Q a w := wp_region_held hm h
end
def cellsZ (zs : List Int) : List Value := zs.map (Value.int .i64)
theorem cellsZ_length (zs : List Int) : (cellsZ zs).length = zs.length := by simp [cellsZ]
theorem cellsZ_append (a b : List Int) : cellsZ (a ++ b) = cellsZ a ++ cellsZ b := by simp [cellsZ]
/-- The slice v is a row of the call's own (from block B on) that holds these ints. -/
def OwZ (B : Nat) (w : World) (v : Value) (zs : List Int) : Prop := w.ownsRow B 3 1 v zs.length (cellsZ zs)
theorem OwZ.nil (B : Nat) (w : World) : OwZ B w (.slice none 0 0) [] := World.ownsRow_nil _ _ _ _
theorem OwZ.below {B : Nat} {w w' : World} {v : Value} {zs : List Int} (h : OwZ B w v zs) (hb : Below w.heap.size w w') : OwZ B w' v zs := owns_below h hb
theorem OwZ.lt {B : Nat} {w : World} {v : Value} {zs : List Int} (h : OwZ B w v zs) {g : Nat} (e : v.ownBlock = some g) : g < w.heap.size := by
  rcases h.2 with ⟨rfl, _⟩ | ⟨g', cap, cur, rfl, hB, hh, r⟩
  · simp [Value.ownBlock] at e
  · simp [Value.ownBlock] at e
    subst e
    rcases Nat.lt_or_ge g' w.heap.size with hl | hl
    · exact hl
    · rw [Array.getElem?_eq_none hl] at hh; cases hh
theorem OwZ.grown {B : Nat} {w w' : World} {v : Value} {zs : List Int} {row : Option Nat} (h : OwZ B w v zs) (hg : w.grownBy w' row) (hne : ∀ g, v.ownBlock = some g → some g ≠ row) : OwZ B w' v zs := by
  refine ⟨h.1, ?_⟩
  rcases h.2 with h2 | ⟨g, cap, cur, hv, hB, hh, r⟩
  · exact Or.inl h2
  · have hlt : g < w.heap.size := by
      rcases Nat.lt_or_ge g w.heap.size with hl | hl
      · exact hl
      · rw [Array.getElem?_eq_none hl] at hh; cases hh
    exact Or.inr ⟨g, cap, cur, hv, hB, (hg.block g hlt (hne g (by rw [hv]; rfl))).trans hh, r⟩
theorem OwZ.isZ {B : Nat} {w : World} {v : Value} {zs : List Int} (h : OwZ B w v zs) (hr : ∀ z ∈ zs, -9223372036854775808 ≤ z ∧ z ≤ 9223372036854775807) : IsZ w v zs := by
  have h0 := h
  obtain ⟨hl, hv⟩ := h
  rcases hv with ⟨rfl, h2⟩ | ⟨g, cap, cur, rfl, hg, hh, hc, hm, hs, ht⟩
  · have : zs = [] := List.eq_nil_of_length_eq_zero h2
    subst this
    exact ⟨none, 0, rfl, by simp, by simp [maxLen], fun i hi => by simp at hi, fun z hz => by cases hz⟩
  · refine ⟨some ⟨g, 0, none⟩, cap, rfl, hc, hm, fun i hi => ⟨g, 0, rfl, ?_⟩, hr⟩
    have := h0.cellAt i (by omega)
    rw [Nat.zero_add, this]
    simp [cellsZ, List.getD, hi]
theorem isZ_lit1 (w : World) (e : Nat) (z : Int) (hz : -9223372036854775808 ≤ z ∧ z ≤ 9223372036854775807) : IsZ (w.alloc (.cells #[.int .i64 z] e)) (.slice (some ⟨w.heap.size, 0, none⟩) 1 1) [z] := by
  refine ⟨some ⟨w.heap.size, 0, none⟩, 1, rfl, Nat.le_refl _, by simp [maxLen], fun i hi => ⟨w.heap.size, 0, rfl, ?_⟩, fun y hy => by simp at hy; subst hy; exact hz⟩
  simp at hi
  subst hi
  rw [World.cell?_alloc_at _ _ _ _ rfl]
  rfl
structure TwoZ (w0 w : World) (vx vy : Value) (X Y : List Int) : Prop where
  ox : OwZ w0.heap.size w vx X
  oy : OwZ w0.heap.size w vy Y
  ap : ∀ g, vx.ownBlock = some g → vy.ownBlock ≠ some g
  bl : Below w0.heap.size w0 w
theorem TwoZ.swap {w0 w : World} {vx vy : Value} {X Y : List Int} (h : TwoZ w0 w vx vy X Y) : TwoZ w0 w vy vx Y X := ⟨h.oy, h.ox, fun g e q => h.ap g q e, h.bl⟩
theorem TwoZ.below {w0 w w' : World} {vx vy : Value} {X Y : List Int} (h : TwoZ w0 w vx vy X Y) (hb : Below w.heap.size w w') : TwoZ w0 w' vx vy X Y :=
  ⟨h.ox.below hb, h.oy.below hb, h.ap, h.bl.trans (hb.mono h.bl.size)⟩
theorem TwoZ.fresh {w0 w : World} {vx vy : Value} {X Y : List Int} (h : TwoZ w0 w vx vy X Y) (g : Nat) (hg : w.heap.size ≤ g) : vx.ownBlock ≠ some g ∧ vy.ownBlock ≠ some g :=
  ⟨fun e => by have := h.ox.lt e; omega, fun e => by have := h.oy.lt e; omega⟩
/-- Block g holds one int. -/
def LtZ (w : World) (g : Nat) (z : Int) : Prop := w.heap[g]? = some (.cells #[.int .i64 z] 3 (0, 0))
theorem ltZ_new (w : World) (z : Int) : LtZ (w.alloc (.cells #[.int .i64 z] 3)) w.heap.size z := by
  show (w.heap.push _)[w.heap.size]? = _
  simp
theorem LtZ.lt {w : World} {g : Nat} {z : Int} (h : LtZ w g z) : g < w.heap.size := by
  rcases Nat.lt_or_ge g w.heap.size with hl | hl
  · exact hl
  · unfold LtZ at h; rw [Array.getElem?_eq_none hl] at h; cases h
theorem LtZ.below {w w' : World} {g : Nat} {z : Int} (h : LtZ w g z) (hb : Below w.heap.size w w') : LtZ w' g z := (hb.block g h.lt).trans h
theorem LtZ.grown {w w' : World} {g : Nat} {z : Int} {row : Option Nat} (h : LtZ w g z) (hg : w.grownBy w' row) (hne : row ≠ some g) : LtZ w' g z := (hg.block g h.lt (fun e => hne e.symm)).trans h
theorem step_appZ {ops : Array Oper} {o : Oper} {a : Act} {K : Act → World → Prop} {Q : Exit → Act → World → Prop} {E : Prop} {w0 w : World} {vx vy : Value} {X Y : List Int} {g : Nat} {z : Int} (hgd : o.guard = none) (s x : Operand)
    (ho : o.op = .call { callee := .builtin .append, args := #[s, x], argTypes := #[22, 22] }) (h : TwoZ w0 w vx vy X Y) (hL : LtZ w g z)
    (hs : a.eval s = vx) (hx : a.eval x = .slice (some ⟨g, 0, none⟩) 1 1) (hl : X.length ≤ 1000)
    (hK : ∀ v' w', TwoZ w0 w' v' vy (X ++ [z]) Y → w.grownBy w' vx.ownBlock → K (a.put o.dst v') w') :
    if Region.wanted o (yielded ops a.tmps) = true then Oper.wp Tryd.prog o a w K Q else E := by
  obtain ⟨i0, hi, hz0, hz1, hz2⟩ := info_parts info_int
  refine step_append_lies _ hgd s x 22 ho w0.heap.size 3 i0 (.int .i64 0) 1 8 Tryd.underlying22 hi hz0 hz1 hz2 rfl (by decide) vx X.length (cellsZ X) hs h.ox ⟨g, 0, none⟩ 1 1 [.int .i64 z] hx rfl ?_ ?_ (by decide) (by unfold maxLen; omega) (by omega) h.bl.size w.heap.size rfl ?_
  · exact World.news_of_block (cs := #[.int .i64 z]) hL
  · intro u hu; simp at hu; subst hu; rfl
  · intro g' cap w' hown hgrow hlies hlt
    refine hK _ w' ⟨?_, h.oy.grown hgrow (fun k e q => h.ap k q.symm e), ?_, ?_⟩ hgrow
    · unfold OwZ
      rw [List.length_append, cellsZ_append]
      exact hown
    · intro k e q
      simp [Value.ownBlock] at e
      subst e
      rcases hlies with r | r
      · exact h.ap g' r q
      · have := h.oy.lt q; omega
    · exact h.bl.grown hgrow h.bl.size (owns_block h.ox)

end Go.Proofs.YtgkepflnnoociagDoor
