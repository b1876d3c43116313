/-
  Texts that stood one behind the other, as one.
-/
import Derived.Test.YtmggccepmicjhagGreatDoorOpenSAll
import Derived.Test.YtmggccepmicjhagGreatDoorOpenSAll
import Derived.OrdersHeld
import Derived.Deep.AppendLies
import Derived.Test.YtmggccepmicjhagGreatDoorRows
import Derived.Test.YtmggccepmicjhagGreatDoorSlAll
import Derived.Maps.OwnOps
import Derived.Maps.OwnSet
/-! Two rows of the call's own, each appended to; shares as points. -/
namespace Go.Proofs.YtmggccepmicjhagGreatDoor
open Go.RowKit
set_option maxRecDepth 100000

section
variable {P : Program} {ops : Array Oper} {Q : Exit → Act → World → Prop} {md : Region.Mode} {S : World → Prop}
theorem wpAnyH_oneD {i : Nat} {o : Oper} {fuel : Nat} {listed : Array Bool} {a : Act} {w : World} (ho : ops[i]? = some o) (hr : Region.ready md ops listed = [i])
    (h : ∀ K' : Act → World → Prop, Hid (∀ a' w', S w' → wpAnyH P md ops Q S fuel (listed.setIfInBounds i true) a' w' → K' a' w') → if Region.wanted o (yielded ops a.tmps) = true then Oper.wp P o a w K' Q else K' (a.put o.dst undef) w) : wpAnyH P md ops Q S (fuel + 1) listed a w := by
  refine wpAnyH_all hr (by simp) fun j hj => ?_
  simp only [List.mem_singleton] at hj
  subst hj
  exact wpOp_step ho (fun K' hK => h K' (fun a' w' hS hW => hK a' w' ⟨hS, hW⟩))
theorem wpAnyH_two {i j : Nat} {o o' : Oper} {fuel : Nat} {listed : Array Bool} {a : Act} {w : World} (ho : ops[i]? = some o) (ho' : ops[j]? = some o') (hr : Region.ready md ops listed = [i, j])
    (h : ∀ K' : Act → World → Prop, Hid (∀ a' w', S w' → wpAnyH P md ops Q S fuel (listed.setIfInBounds i true) a' w' → K' a' w') → if Region.wanted o (yielded ops a.tmps) = true then Oper.wp P o a w K' Q else K' (a.put o.dst undef) w)
    (h' : ∀ K' : Act → World → Prop, Hid (∀ a' w', S w' → wpAnyH P md ops Q S fuel (listed.setIfInBounds j true) a' w' → K' a' w') → if Region.wanted o' (yielded ops a.tmps) = true then Oper.wp P o' a w K' Q else K' (a.put o'.dst undef) w) : wpAnyH P md ops Q S (fuel + 1) listed a w := by
  refine wpAnyH_all hr (by simp) fun k hk => ?_
  simp only [List.mem_cons, List.not_mem_nil, or_false] at hk
  rcases hk with e | e
  · subst e
    exact wpOp_step ho (fun K' hK => h K' (fun a' w' hS hW => hK a' w' ⟨hS, hW⟩))
  · subst e
    exact wpOp_step ho' (fun K' hK => h' K' (fun a' w' hS hW => hK a' w' ⟨hS, hW⟩))
theorem wp_region_HD {id : Nat} {a : Act} {w : World} (hm : P.follows .mixedOrders = true)
    (h : wpAnyH P .any ops Q S ops.size (Array.replicate ops.size false) a w.drew) : (Code.region id ops true).wp P Q a w := wp_region_held hm h
end

theorem Ow.grown {B : Nat} {w w' : World} {v : Value} {xs : List Nat} {row : Option Nat} (h : Ow B w v xs) (hg : w.grownBy w' row) (hne : ∀ g, v.ownBlock = some g → some g ≠ row) : Ow B w' v xs := by
  refine ⟨h.1, ?_⟩
  rcases h.2 with h2 | ⟨g, cap, cur, hv, hB, hh, r⟩
  · exact Or.inl h2
  · have hlt : g < w.heap.size := by
      rcases Nat.lt_or_ge g w.heap.size with hl | hl
      · exact hl
      · rw [Array.getElem?_eq_none hl] at hh; cases hh
    exact Or.inr ⟨g, cap, cur, hv, hB, (hg.block g hlt (hne g (by rw [hv]; rfl))).trans hh, r⟩
theorem Ow.lt {B : Nat} {w : World} {v : Value} {xs : List Nat} (h : Ow B w v xs) {g : Nat} (e : v.ownBlock = some g) : g < w.heap.size := by
  rcases h.2 with ⟨rfl, _⟩ | ⟨g', cap, cur, rfl, hB, hh, r⟩
  · simp [Value.ownBlock] at e
  · simp [Value.ownBlock] at e
    subst e
    rcases Nat.lt_or_ge g' w.heap.size with hl | hl
    · exact hl
    · rw [Array.getElem?_eq_none hl] at hh; cases hh
/-- Two rows of the call's own, apart from each other. -/
structure Two (w0 w : World) (vx vy : Value) (X Y : List Nat) : Prop where
  ox : Ow w0.heap.size w vx X
  oy : Ow w0.heap.size w vy Y
  ap : ∀ g, vx.ownBlock = some g → vy.ownBlock ≠ some g
  bl : Below w0.heap.size w0 w
theorem Two.swap {w0 w : World} {vx vy : Value} {X Y : List Nat} (h : Two w0 w vx vy X Y) : Two w0 w vy vx Y X := ⟨h.oy, h.ox, fun g e q => h.ap g q e, h.bl⟩
theorem Two.below {w0 w w' : World} {vx vy : Value} {X Y : List Nat} (h : Two w0 w vx vy X Y) (hb : Below w.heap.size w w') : Two w0 w' vx vy X Y :=
  ⟨h.ox.below hb, h.oy.below hb, h.ap, h.bl.trans (hb.mono h.bl.size)⟩
theorem Two.fresh {w0 w : World} {vx vy : Value} {X Y : List Nat} (h : Two w0 w vx vy X Y) (g : Nat) (hg : w.heap.size ≤ g) : vx.ownBlock ≠ some g ∧ vy.ownBlock ≠ some g :=
  ⟨fun e => by have := h.ox.lt e; omega, fun e => by have := h.oy.lt e; omega⟩
/-- Block g holds one number. -/
def Lt (w : World) (g z : Nat) : Prop := w.heap[g]? = some (.cells #[.int .u64 (z : Int)] 77 (0, 0))
theorem lt_new (w : World) (z : Nat) : Lt (w.alloc (.cells #[.int .u64 (z : Int)] 77)) w.heap.size z := by
  show (w.heap.push _)[w.heap.size]? = _
  simp
theorem Lt.lt {w : World} {g z : Nat} (h : Lt w g z) : g < w.heap.size := by
  rcases Nat.lt_or_ge g w.heap.size with hl | hl
  · exact hl
  · unfold Lt at h; rw [Array.getElem?_eq_none hl] at h; cases h
theorem Lt.below {w w' : World} {g z : Nat} (h : Lt w g z) (hb : Below w.heap.size w w') : Lt w' g z := (hb.block g h.lt).trans h
theorem Lt.grown {w w' : World} {g z : Nat} {row : Option Nat} (h : Lt w g z) (hg : w.grownBy w' row) (hne : row ≠ some g) : Lt w' g z := (hg.block g h.lt (fun e => hne e.symm)).trans h
/-- One number more for the first row. -/
theorem step_appX {ops : Array Oper} {o : Oper} {a : Act} {K : Act → World → Prop} {Q : Exit → Act → World → Prop} {E : Prop} {w0 w : World} {vx vy : Value} {X Y : List Nat} {g z : Nat} (hgd : o.guard = none) (s x : Operand)
    (ho : o.op = .call { callee := .builtin .append, args := #[s, x], argTypes := #[73, 73] }) (h : Two w0 w vx vy X Y) (hL : Lt w g z)
    (hs : a.eval s = vx) (hx : a.eval x = .slice (some ⟨g, 0, none⟩) 1 1) (hl : X.length ≤ 1000)
    (hK : ∀ v' w', Two w0 w' v' vy (X ++ [z]) Y → w.grownBy w' vx.ownBlock → K (a.put o.dst v') w') :
    if Region.wanted o (yielded ops a.tmps) = true then Oper.wp Tryz.prog o a w K Q else E := by
  obtain ⟨i0, hi, hz0, hz1, hz2⟩ := info_parts info_u64
  refine step_append_lies _ hgd s x 73 ho w0.heap.size 77 i0 (.int .u64 0) 1 8 Tryz.underlying73 hi hz0 hz1 hz2 rfl (by decide) vx X.length (cellsU X) hs h.ox ⟨g, 0, none⟩ 1 1 [.int .u64 (z : Int)] hx rfl ?_ ?_ (by decide) (by unfold maxLen; omega) (by omega) h.bl.size w.heap.size rfl ?_
  · exact World.news_of_block (cs := #[.int .u64 (z : Int)]) hL
  · intro u hu; simp at hu; subst hu; rfl
  · intro g' cap w' hown hgrow hlies hlt
    refine hK _ w' ⟨?_, h.oy.grown hgrow (fun k e q => h.ap k q.symm e), ?_, ?_⟩ hgrow
    · unfold Ow
      rw [List.length_append, cellsU_append]
      exact hown
    · intro k e q
      simp [Value.ownBlock] at e
      subst e
      rcases hlies with r | r
      · exact h.ap g' r q
      · have := h.oy.lt q; omega
    · exact h.bl.grown hgrow h.bl.size (owns_block h.ox)
theorem xsS_succ (L : List (Int × Nat)) (n : Nat) : xsS L (n + 1) = xsS L n ++ [fW (rt 6) (atS L n).toNat] := by unfold xsS; rw [List.range_succ, List.map_append]; rfl
theorem ysS_succ (L : List (Int × Nat)) (n : Nat) : ysS L (n + 1) = ysS L n ++ [syS L n] := by unfold ysS; rw [List.range_succ, List.map_append]; rfl

/-- The length of a slice. -/
def lenOf (v : Value) : Nat := match v with | .slice _ n _ => n | _ => 0
theorem xsS_rng (L : List (Int × Nat)) (n : Nat) : ∀ x ∈ xsS L n, (x : Int) < 18446744073709551616 := fun x hx => by
  obtain ⟨i, _, rfl⟩ := List.mem_map.mp hx
  have := fW_lt (rt 6) (atS L i).toNat
  omega
theorem ysS_rng (L : List (Int × Nat)) (n : Nat) (h : ∀ i, i < n → syS L i < 18446744073709551616) : ∀ x ∈ ysS L n, (x : Int) < 18446744073709551616 := fun x hx => by
  obtain ⟨i, hi, rfl⟩ := List.mem_map.mp hx
  have := h i (List.mem_range.mp hi)
  omega
theorem pts_S {L : List (Int × Nat)} {n : Nat} (h : ShK L n) (hn : n ≤ 128) : Pts (xsS L n) (ysS L n) := by
  refine ⟨by rw [xsS_length, ysS_length], by rw [xsS_length]; exact hn, ?_⟩
  have hd : ∀ i j, i < j → j < n → fN ((xsS L n).getD j 0) ≠ fN ((xsS L n).getD i 0) := fun i j hij hj e => by
    have h1 : cf (xsS L n) j = cf (xsS L n) i := by
      unfold cf
      rw [← toF_fN, e, toF_fN]
    rw [xsS_cf _ _ _ hj, xsS_cf _ _ _ (by omega)] at h1
    exact plS_ne h hij hj h1.symm
  rw [xsS_length]
  exact ⟨fun p q h1 h2 => hd q p h2 h1, fun _ h2 => absurd h2 (by omega)⟩
theorem mk_pad {l : List Nat} {k : Nat} (hl : l.length ≤ k) (hP : ∀ x ∈ l, x < P) : mk k (cf l) = l ++ List.replicate (k - l.length) 0 := by
  obtain ⟨m, rfl⟩ : ∃ m, k = l.length + m := ⟨k - l.length, by omega⟩
  rw [Nat.add_sub_cancel_left]
  clear hl
  induction m with
  | zero => rw [Nat.add_zero, List.replicate_zero, List.append_nil]; exact (eq_mk hP).symm
  | succ m ih => rw [← Nat.add_assoc, mk_succ, ih, cf_ge (by omega), List.replicate_succ', List.append_assoc]; rfl

end Go.Proofs.YtmggccepmicjhagGreatDoor

/-! Shares in a map: which place has which symbol; the shares in the order of their places; no program in sight. -/
namespace Go.Proofs.YtmggccepmicjhagGreatDoor

/-- The symbol at a place, among the first i shares. -/
def lkS (L : List (Int × Nat)) : Nat → Int → Option Nat
  | 0, _ => none
  | i + 1, z => if z = atS L i then some (syS L i) else lkS L i z
theorem lkS_some {L : List (Int × Nat)} {i : Nat} {z : Int} {s : Nat} (h : lkS L i z = some s) : ∃ j, j < i ∧ atS L j = z ∧ syS L j = s := by
  induction i with
  | zero => cases h
  | succ i ih =>
    unfold lkS at h
    split at h
    · next e => exact ⟨i, by omega, e.symm, by simpa using h⟩
    · obtain ⟨j, hj, r⟩ := ih h
      exact ⟨j, by omega, r⟩
theorem lkS_of {L : List (Int × Nat)} {i : Nat} (h : ShK L i) {j : Nat} (hj : j < i) : lkS L i (atS L j) = some (syS L j) := by
  induction i with
  | zero => omega
  | succ i ih =>
    unfold lkS
    rcases Nat.lt_or_ge j i with r | r
    · rw [if_neg (h.2 i j r (by omega))]
      exact ih ⟨fun p hp => h.1 p (by omega), fun p q hq hp => h.2 p q hq (by omega)⟩ r
    · obtain rfl : j = i := by omega
      rw [if_pos rfl]
theorem lkS_none {L : List (Int × Nat)} {i : Nat} {z : Int} (h : ∀ j, j < i → atS L j ≠ z) : lkS L i z = none := by
  rcases e : lkS L i z with _ | s
  · rfl
  · obtain ⟨j, hj, e1, _⟩ := lkS_some e
    exact absurd e1 (h j hj)
/-- The shares that a table of symbols tells, the first n places, in their order. -/
def shr (f : Int → Option Nat) : Nat → List (Int × Nat)
  | 0 => []
  | n + 1 => match f (n : Int) with
    | some s => shr f n ++ [((n : Int), s)]
    | none => shr f n
theorem shr_some {f : Int → Option Nat} {n s : Nat} (h : f (n : Int) = some s) : shr f (n + 1) = shr f n ++ [((n : Int), s)] := by simp only [shr, h]
theorem shr_none {f : Int → Option Nat} {n : Nat} (h : f (n : Int) = none) : shr f (n + 1) = shr f n := by simp only [shr, h]
theorem shr_length (f : Int → Option Nat) (n : Nat) : (shr f n).length ≤ n := by
  induction n with
  | zero => exact Nat.le_refl _
  | succ n ih =>
    rcases e : f (n : Int) with _ | s
    · rw [shr_none e]; omega
    · rw [shr_some e, List.length_append]; simp; exact ih
theorem mem_shr {f : Int → Option Nat} {n : Nat} {p : Int × Nat} : p ∈ shr f n ↔ ∃ t : Nat, t < n ∧ p.1 = (t : Int) ∧ f (t : Int) = some p.2 := by
  induction n with
  | zero => simp [shr]
  | succ n ih =>
    rcases e : f (n : Int) with _ | s
    · rw [shr_none e, ih]
      constructor
      · rintro ⟨t, ht, r⟩
        exact ⟨t, by omega, r⟩
      · rintro ⟨t, ht, r1, r2⟩
        rcases Nat.lt_or_ge t n with h | h
        · exact ⟨t, h, r1, r2⟩
        · obtain rfl : t = n := by omega
          rw [e] at r2; cases r2
    · rw [shr_some e, List.mem_append, ih]
      constructor
      · rintro (⟨t, ht, r⟩ | h)
        · exact ⟨t, by omega, r⟩
        · simp only [List.mem_singleton] at h
          subst h
          exact ⟨n, by omega, rfl, e⟩
      · rintro ⟨t, ht, r1, r2⟩
        rcases Nat.lt_or_ge t n with h | h
        · exact .inl ⟨t, h, r1, r2⟩
        · obtain rfl : t = n := by omega
          rw [e] at r2
          obtain ⟨a, b⟩ := p
          simp only at r1 r2
          cases r2
          rw [r1]
          exact .inr (by simp)
theorem getS_append_one (L : List (Int × Nat)) (p : Int × Nat) (i : Nat) (h : i < L.length) : (L ++ [p]).getD i (0, 0) = L.getD i (0, 0) := by
  simp only [List.getD, List.getElem?_append_left h]
theorem getS_append_last (L : List (Int × Nat)) (p : Int × Nat) : (L ++ [p]).getD L.length (0, 0) = p := by simp [List.getD]
theorem getS_mem {L : List (Int × Nat)} {i : Nat} (h : i < L.length) : L.getD i (0, 0) ∈ L := by
  rw [List.getD, List.getElem?_eq_getElem h]
  exact List.getElem_mem h
theorem atS_shr_lt (f : Int → Option Nat) (n i : Nat) (h : i < (shr f n).length) : 0 ≤ atS (shr f n) i ∧ atS (shr f n) i < n := by
  obtain ⟨t, ht, e, _⟩ := mem_shr.mp (getS_mem h)
  unfold atS
  omega
theorem shr_inc (f : Int → Option Nat) (n : Nat) : ∀ p q, q < p → p < (shr f n).length → atS (shr f n) q < atS (shr f n) p := by
  induction n with
  | zero => intro p q _ hp; simp [shr] at hp
  | succ n ih =>
    rcases e : f (n : Int) with _ | s
    · rw [shr_none e]; exact ih
    · intro p q hq hp
      rw [shr_some e] at hp ⊢
      rw [List.length_append] at hp
      simp only [List.length_singleton] at hp
      rcases Nat.lt_or_ge p (shr f n).length with h | h
      · have := ih p q hq h
        unfold atS at this ⊢
        rw [getS_append_one _ _ _ h, getS_append_one _ _ _ (by omega)]
        exact this
      · obtain rfl : p = (shr f n).length := by omega
        have := (atS_shr_lt f n q hq).2
        unfold atS at this ⊢
        rw [getS_append_one _ _ _ hq, getS_append_last]
        exact this
theorem shr_ShK (f : Int → Option Nat) : ShK (shr f 64) (shr f 64).length := by
  refine ⟨fun p hp => ?_, fun p q hq hp => ?_⟩
  · have := atS_shr_lt f 64 p hp
    omega
  · have := shr_inc f 64 p q hq hp
    omega
theorem Has.iff {d : List Nat} {L : List (Int × Nat)} : Has d L L.length ↔ ∀ p ∈ L, evF (d.map toF) (pw (toF (rt 6)) p.1.toNat) = toF p.2 := by
  constructor
  · intro h p hp
    obtain ⟨i, hi, rfl⟩ := List.getElem_of_mem hp
    have := h i hi
    unfold plS atS syS at this
    rw [List.getD, List.getElem?_eq_getElem hi] at this
    exact this
  · intro h i hi
    exact h _ (getS_mem hi)
theorem mem_places {L : List (Int × Nat)} (h : ShK L L.length) (p : Int × Nat) : p ∈ shr (lkS L L.length) 64 ↔ p ∈ L := by
  rw [mem_shr]
  constructor
  · rintro ⟨t, _, e1, e2⟩
    obtain ⟨j, hj, e3, e4⟩ := lkS_some e2
    have : p = L.getD j (0, 0) := Prod.ext (e1.trans e3.symm) e4.symm
    rw [this]
    exact getS_mem hj
  · intro hp
    obtain ⟨i, hi, rfl⟩ := List.getElem_of_mem hp
    have e : L[i] = L.getD i (0, 0) := by rw [List.getD, List.getElem?_eq_getElem hi]; rfl
    rw [e]
    have h1 := h.1 i hi
    have h2 := lkS_of h hi
    refine ⟨(atS L i).toNat, by omega, ?_, ?_⟩
    · show atS L i = _
      omega
    · rw [show (((atS L i).toNat : Nat) : Int) = atS L i by omega, h2]; rfl
theorem has_places {L : List (Int × Nat)} (h : ShK L L.length) (d : List Nat) : Has d (shr (lkS L L.length) 64) (shr (lkS L L.length) 64).length ↔ Has d L L.length := by
  rw [Has.iff, Has.iff]
  constructor
  · intro r p hp
    exact r p ((mem_places h p).mpr hp)
  · intro r p hp
    exact r p ((mem_places h p).mp hp)
/-- What goes through all shares is no longer than k just if some data of k numbers has them. -/
theorem fit_len {L l : List _} {k : Nat} (h : ShK L L.length) (hl : Goes l (shr (lkS L L.length) 64).length (cf (xsS (shr (lkS L L.length) 64) (shr (lkS L L.length) 64).length)) (cf (ysS (shr (lkS L L.length) 64) (shr (lkS L L.length) 64).length))) :
    (FitK k L ↔ l.length ≤ k) ∧ (l.length ≤ k → (mk k (cf l)).length = k ∧ Has (mk k (cf l)) L L.length) := by
  have hh := (has_places h l).mp hl.has
  have hm : l.length ≤ k → (mk k (cf l)).length = k ∧ Has (mk k (cf l)) L L.length := fun hk =>
    ⟨mk_length _ _, fun i hi => by rw [ev_mk_cf hk]; exact hh i hi⟩
  refine ⟨⟨?_, fun hk => ⟨_, hm hk⟩⟩, hm⟩
  rintro ⟨d, hd, hr⟩
  rcases Nat.lt_or_ge (shr (lkS L L.length) 64).length k with hlt | hge
  · have := hl.2.1
    omega
  · have hr' := (has_places h d).mpr hr
    have := Has.one (shr_ShK _) (by omega) hl.2.1 hr' hl.has
    rw [hl.1] at this
    rw [← this, pN_length]
    have := sig_le d
    omega

end Go.Proofs.YtmggccepmicjhagGreatDoor

/-! A map from ints to numbers that the call itself made: what is looked up, how many there are, one key more. -/
namespace Go.Proofs.YtmggccepmicjhagGreatDoor
open Go.RowKit Go.Maps

theorem lawIU : Keyed Tryz.prog 3 := int_keyed Tryz.underlying3
theorem zeroU (w : World) : (zeroValue 77).run Tryz.prog w = .ok (.int .u64 0) w := by kernel_rfl
theorem keyIU {z : Int} (hz : (Lit.int .i64 z).wf = true) : keyOf Tryz.prog 3 (.int .i64 z) = some (.int .i64 z) := keyOf_int_mk Tryz.underlying3 hz
theorem keyLitU (z : Int) : WideAt.IsKeyLit (.int .i64 z) := by simp [WideAt.IsKeyLit]

/-- Block b is a map of n keys that has the symbols that f tells. -/
def MapU (w : World) (b : Nat) (f : Int → Option Nat) (n : Nat) : Prop := ∃ (m : Nat) (D : DataW Unit), w.ownsMap Tryz.prog 3 (plainElem Tryz.prog 77) b m D ∧ m ≤ n ∧ size D = n ∧
  ∀ z : Int, has D (.int .i64 z) = (f z).isSome ∧ D.atKey (.int .i64 z) (.lit (.int .u64 0)) = .lit (.int .u64 (((f z).getD 0 : Nat) : Int))
theorem MapU.made (w : World) : MapU (w.alloc (.map #[] 0)) w.heap.size (fun _ => none) 0 :=
  ⟨0, .map [], World.ownsMap_made _ _ _ _, Nat.le_refl _, rfl, fun _ => ⟨rfl, rfl⟩⟩
theorem MapU.lt {w : World} {b n : Nat} {f : Int → Option Nat} (h : MapU w b f n) : b < w.heap.size := by
  obtain ⟨m, D, h, _⟩ := h
  exact h.lt
theorem MapU.block {w w' : World} {b n : Nat} {f : Int → Option Nat} (h : MapU w b f n) (e : w'.heap[b]? = w.heap[b]?) : MapU w' b f n := by
  obtain ⟨m, D, ⟨es, clock, hb, r⟩, r2⟩ := h
  exact ⟨m, D, ⟨es, clock, e.trans hb, r⟩, r2⟩
theorem MapU.below {w w' : World} {b n : Nat} {f : Int → Option Nat} (h : MapU w b f n) (hb : Below w.heap.size w w') : MapU w' b f n := h.block (hb.block b h.lt)
end Go.Proofs.YtmggccepmicjhagGreatDoor
