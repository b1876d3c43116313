/-
  Texts that stood one behind the other, as one.
-/
import Derived.Test.YtckoipoejaafhaaDoorBigLAll
import Derived.Test.YtckoipoejaafhaaDoorBigC1All
import Derived.Test.YtckoipoejaafhaaDoorManyGAll
import Derived.Test.YtckoipoejaafhaaDoorCeBAll
import Derived.BigQuiet
import Derived.Test.YtckoipoejaafhaaDoorSlAppAll
import Derived.Test.YtckoipoejaafhaaDoorSlAll
import Derived.Test.YtckoipoejaafhaaDoorPure
import Derived.OrdersHeld
import Derived.Deep.AppendLies
import Derived.Test.YtckoipoejaafhaaDoorRows
import Derived.Maps.OwnOps
import Derived.Maps.OwnSet
import Derived.Test.YtckoipoejaafhaaDoorFieldBAll
import Derived.Deep.RegionWith
import Derived.Deep.Cut
import Derived.Test.YtckoipoejaafhaaDoorPlanMAll
import Derived.Test.YtckoipoejaafhaaDoorCdFtAll
import Derived.Laws.IdiomStrings
namespace Go.Proofs.YtckoipoejaafhaaDoor
def tvd : List Nat → Nat
  | [] => 0
  | x :: l => x + 10 * tvd l
theorem tv_append (a b : List Nat) : tvd (a ++ b) = tvd a + 10 ^ a.length * tvd b := by
  induction a with
  | nil => simp [tvd]
  | cons x a ih => rw [List.cons_append, tvd, ih, tvd, List.length_cons, Nat.pow_succ]; grind
theorem tv_reverse (a : List Nat) : tvd a.reverse = val a := by
  induction a with
  | nil => rfl
  | cons x a ih => rw [List.reverse_cons, tv_append, ih, val_cons, List.length_reverse]; simp only [tvd]; grind
def twd (f : Nat → Nat) (n : Nat) : Nat := NS n (fun i => 10 ^ i * f i)
theorem tw_first (f : Nat → Nat) (n : Nat) : twd f (n + 1) = f 0 + 10 * twd (fun i => f (i + 1)) n := by
  unfold twd
  rw [NS_first, Nat.pow_zero, Nat.one_mul, ← NS_mul]
  congr 1
  apply NS_congr
  intro i _
  rw [Nat.pow_succ]
  grind
theorem tw_congr {f g : Nat → Nat} {n : Nat} (h : ∀ i, i < n → f i = g i) : twd f n = twd g n := NS_congr fun i hi => by rw [h i hi]
theorem tw_add (f g : Nat → Nat) (n : Nat) : twd (fun i => f i + g i) n = twd f n + twd g n := by
  unfold twd
  rw [← NS_add]
  apply NS_congr
  intro i _
  rw [Nat.mul_add]
theorem tw_mul (c : Nat) (f : Nat → Nat) (n : Nat) : twd (fun i => c * f i) n = c * twd f n := by
  unfold twd
  rw [← NS_mul]
  apply NS_congr
  intro i _
  grind
theorem tv_tw (l : List Nat) (n : Nat) (h : l.length ≤ n) : tvd l = twd (lg l) n := by
  induction l generalizing n with
  | nil => rw [tvd]; exact (NS_zero fun i _ => by rw [lg_ge (by simp)]; rfl).symm
  | cons x l ih =>
    cases n with
    | zero => simp at h
    | succ n =>
      simp only [List.length_cons, Nat.add_le_add_iff_right] at h
      rw [tw_first, tvd, ih n h]
      rfl
theorem tv_of {l : List Nat} {f : Nat → Nat} (h : ∀ i, i < l.length → l.getD i 0 = f i) : tvd l = twd f l.length := by
  rw [tv_tw l l.length (Nat.le_refl _)]
  exact tw_congr h
theorem cN_tw (a b : List Nat) (n : Nat) (h : a.length + b.length ≤ n + 1) : twd (cN (lg a) (lg b)) n = tvd a * tvd b := by
  induction a generalizing n with
  | nil =>
    rw [tvd, Nat.zero_mul]
    refine NS_zero fun i _ => ?_
    have : cN (lg []) (lg b) i = 0 := NS_zero fun j _ => by rw [lg_ge (by simp), Nat.zero_mul]
    rw [this]; rfl
  | cons x a ih =>
    cases n with
    | zero =>
      have hb : b.length = 0 := by simp only [List.length_cons] at h; omega
      rw [List.eq_nil_of_length_eq_zero hb]
      simp [twd, NS, tvd]
    | succ n =>
      simp only [List.length_cons] at h
      have e : ∀ k, cN (lg (x :: a)) (lg b) (k + 1) = x * lg b (k + 1) + cN (lg a) (lg b) k := fun k => cN_first _ _ _
      rw [tw_first, cN_zero, show (fun i => cN (lg (x :: a)) (lg b) (i + 1)) = (fun i => x * lg b (i + 1) + cN (lg a) (lg b) i) from funext e, tw_add, ih n (by omega), tw_mul, tvd]
      have e2 := tw_first (lg b) n
      rw [← tv_tw b (n + 1) (by omega)] at e2
      rw [e2]
      show x * lg b 0 + _ = _
      grind
theorem Dg.get {l : List Nat} (h : Dg l) (i : Nat) : lg l i ≤ 9 := by
  rcases Nat.lt_or_ge i l.length with q | q
  · unfold lg
    rw [List.getD, List.getElem?_eq_getElem q]
    exact h _ (List.getElem_mem q)
  · rw [lg_ge q]; omega
theorem cN_dg {a b : List Nat} (ha : Dg a) (hb : Dg b) (k : Nat) : cN (lg a) (lg b) k ≤ a.length * 81 :=
  NS_le (fun i => Nat.mul_le_mul (ha.get i) (hb.get (k - i))) (fun i hi => by rw [lg_ge hi, Nat.zero_mul])
theorem pM_digits {a b : List Nat} (ha : Dg a) (hb : Dg b) (h1 : 0 < a.length) (h2 : 0 < b.length) (h9 : a.length ≤ 300) :
    (pM a b).length = a.length + b.length - 1 ∧ (∀ i, (pM a b).getD i 0 ≤ 24300) ∧ tvd (pM a b) = tvd a * tvd b := by
  have hl := pM_len a b h1 h2
  have hc : ∀ k, cN (lg a) (lg b) k ≤ 24300 := fun k => Nat.le_trans (cN_dg ha hb k) (Nat.mul_le_mul_right 81 h9)
  have hg : ∀ i, i < (pM a b).length → (pM a b).getD i 0 = cN (lg a) (lg b) i := fun i hi => by
    rw [pM_get a b i h1 h2 (by omega), conv_cN, val_toF]
    have := hc i
    exact Nat.mod_eq_of_lt (by unfold P; omega)
  refine ⟨hl, fun i => ?_, ?_⟩
  · rcases Nat.lt_or_ge i (pM a b).length with q | q
    · rw [hg i q]; exact hc i
    · rw [List.getD, List.getElem?_eq_none q]; exact Nat.zero_le _
  · rw [tv_of hg, hl]
    exact cN_tw a b _ (by omega)
structure Td (V : Nat) (p : List Nat) (i cr : Nat) (d : List Nat) : Prop where
  len : d.length = i
  dg : Dg d
  cr1 : cr ≤ 2700
  eq : val d + 10 ^ i * (cr + tvd (p.drop i)) = V
theorem Td.start (p : List Nat) : Td (tvd p) p 0 0 [] := ⟨rfl, fun d hd => by simp at hd, by omega, by simp [val]⟩
theorem tv_drop {p : List Nat} {i : Nat} : tvd (p.drop i) = p.getD i 0 + 10 * tvd (p.drop (i + 1)) := by
  rcases Nat.lt_or_ge i p.length with q | q
  · rw [List.drop_eq_getElem_cons q, tvd, List.getD, List.getElem?_eq_getElem q]
    rfl
  · rw [List.drop_eq_nil_of_le q, List.drop_eq_nil_of_le (by omega), List.getD, List.getElem?_eq_none q]
    rfl
theorem Td.step {V : Nat} {p : List Nat} {i cr : Nat} {d : List Nat} (h : Td V p i cr d) (hp : p.getD i 0 ≤ 24300) : Td V p (i + 1) ((cr + p.getD i 0) / 10) ((cr + p.getD i 0) % 10 :: d) := by
  refine ⟨by rw [List.length_cons, h.len], fun x hx => ?_, ?_, ?_⟩
  · rcases List.mem_cons.mp hx with q | q
    · omega
    · exact h.dg x q
  · have := h.cr1
    omega
  · have e := h.eq
    rw [tv_drop] at e
    rw [val_cons, h.len, ← e, Nat.pow_succ]
    have hd := Nat.div_add_mod (cr + p.getD i 0) 10
    generalize (cr + p.getD i 0) / 10 = q at *
    generalize (cr + p.getD i 0) % 10 = r at *
    generalize tvd (p.drop (i + 1)) = t
    have : cr + (p.getD i 0 + 10 * t) = 10 * q + r + 10 * t := by omega
    rw [this]
    grind
theorem Td.ends {V : Nat} {p : List Nat} {i : Nat} {d : List Nat} (h : Td V p i 0 d) (hi : p.length ≤ i) : val d = V := by
  have e := h.eq
  rw [List.drop_eq_nil_of_le hi] at e
  simpa [tvd] using e
end Go.Proofs.YtckoipoejaafhaaDoor

namespace Go.Proofs.YtckoipoejaafhaaDoor
open Go.RowKit Go.ChangeShapes Go.WideShapes
section
variable {H : Type} {enc : TypeId × Value → H} {P : Program} {w : World} {base : Nat} {spare : Nat → Bool} {held : Bool} {t e : TypeId} {d : DataW H} {p : List MemPlace}
end
end Go.Proofs.YtckoipoejaafhaaDoor

namespace Go.Proofs.YtckoipoejaafhaaDoor
open Go.RowKit
set_option maxRecDepth 100000
def atS (L : List (Int × Nat)) (i : Nat) : Int := (L.getD i (0, 0)).1
end Go.Proofs.YtckoipoejaafhaaDoor

namespace Go.Proofs.YtckoipoejaafhaaDoor
def syS (L : List (Int × Nat)) (i : Nat) : Nat := (L.getD i (0, 0)).2
def plS (L : List (Int × Nat)) (i : Nat) : F := pw (toF (rt 6)) (atS L i).toNat
def Has (l : List Nat) (L : List (Int × Nat)) (n : Nat) : Prop := ∀ i, i < n → evF (l.map toF) (plS L i) = toF (syS L i)
end Go.Proofs.YtckoipoejaafhaaDoor

namespace Go.Proofs.YtckoipoejaafhaaDoor
open Go.RowKit
set_option maxRecDepth 100000
section
variable {P : Program} {ops : Array Oper} {Q : Exit → Act → World → Prop} {md : Region.Mode} {S : World → Prop}
end
theorem Ow.grown {B : Nat} {w w' : World} {v : Value} {xs : List Nat} {row : Option Nat} (h : Ow B w v xs) (hg : w.grownBy w' row) (hne : ∀ g, v.ownBlock = some g → some g ≠ row) : Ow B w' v xs := by
  refine ⟨h.1, ?_⟩
  rcases h.2 with h2 | ⟨g, cap, cur, hv, hB, hh, r⟩
  · exact Or.inl h2
  · have hlt : g < w.heap.size := by
      rcases Nat.lt_or_ge g w.heap.size with hl | hl
      · exact hl
      · rw [Array.getElem?_eq_none hl] at hh; cases hh
    exact Or.inr ⟨g, cap, cur, hv, hB, (hg.block g hlt (hne g (by rw [hv]; rfl))).trans hh, r⟩
theorem Ow.lt {B : Nat} {w : World} {v : Value} {xs : List Nat} (h : Ow B w v xs) {g : Nat} (e : v.ownBlock = some g) : g < w.heap.size := by
  rcases h.2 with ⟨rfl, _⟩ | ⟨g', cap, cur, rfl, hB, hh, r⟩
  · simp [Value.ownBlock] at e
  · simp [Value.ownBlock] at e
    subst e
    rcases Nat.lt_or_ge g' w.heap.size with hl | hl
    · exact hl
    · rw [Array.getElem?_eq_none hl] at hh; cases hh
structure Two (w0 w : World) (vx vy : Value) (X Y : List Nat) : Prop where
  ox : Ow w0.heap.size w vx X
  oy : Ow w0.heap.size w vy Y
  ap : ∀ g, vx.ownBlock = some g → vy.ownBlock ≠ some g
  bl : Below w0.heap.size w0 w
theorem Two.swap {w0 w : World} {vx vy : Value} {X Y : List Nat} (h : Two w0 w vx vy X Y) : Two w0 w vy vx Y X := ⟨h.oy, h.ox, fun g e q => h.ap g q e, h.bl⟩
theorem Two.below {w0 w w' : World} {vx vy : Value} {X Y : List Nat} (h : Two w0 w vx vy X Y) (hb : Below w.heap.size w w') : Two w0 w' vx vy X Y :=
  ⟨h.ox.below hb, h.oy.below hb, h.ap, h.bl.trans (hb.mono h.bl.size)⟩
def Lt (w : World) (g z : Nat) : Prop := w.heap[g]? = some (.cells #[.int .u64 (z : Int)] 34 (0, 0))
theorem lt_new (w : World) (z : Nat) : Lt (w.alloc (.cells #[.int .u64 (z : Int)] 34)) w.heap.size z := by
  show (w.heap.push _)[w.heap.size]? = _
  simp
theorem step_appX {ops : Array Oper} {o : Oper} {a : Act} {K : Act → World → Prop} {Q : Exit → Act → World → Prop} {E : Prop} {w0 w : World} {vx vy : Value} {X Y : List Nat} {g z : Nat} (hgd : o.guard = none) (s x : Operand)
    (ho : o.op = .call { callee := .builtin .append, args := #[s, x], argTypes := #[23, 23] }) (h : Two w0 w vx vy X Y) (hL : Lt w g z)
    (hs : a.eval s = vx) (hx : a.eval x = .slice (some ⟨g, 0, none⟩) 1 1) (hl : X.length ≤ 1000)
    (hK : ∀ v' w', Two w0 w' v' vy (X ++ [z]) Y → w.grownBy w' vx.ownBlock → K (a.put o.dst v') w') :
    if Region.wanted o (yielded ops a.tmps) = true then Oper.wp Tryd.prog o a w K Q else E := by
  obtain ⟨i0, hi, hz0, hz1, hz2⟩ := info_parts info_u64
  refine step_append_lies _ hgd s x 23 ho w0.heap.size 34 i0 (.int .u64 0) 1 8 Tryd.underlying23 hi hz0 hz1 hz2 rfl (by decide) vx X.length (cellsU X) hs h.ox ⟨g, 0, none⟩ 1 1 [.int .u64 (z : Int)] hx rfl ?_ ?_ (by decide) (by unfold maxLen; omega) (by omega) h.bl.size w.heap.size rfl ?_
  · exact World.news_of_block (cs := #[.int .u64 (z : Int)]) hL
  · intro u hu; simp at hu; subst hu; rfl
  · intro g' cap w' hown hgrow hlies hlt
    refine hK _ w' ⟨?_, h.oy.grown hgrow (fun k e q => h.ap k q.symm e), ?_, ?_⟩ hgrow
    · unfold Ow
      rw [List.length_append, cellsU_append]
      exact hown
    · intro k e q
      simp [Value.ownBlock] at e
      subst e
      rcases hlies with r | r
      · exact h.ap g' r q
      · have := h.oy.lt q; omega
    · exact h.bl.grown hgrow h.bl.size (owns_block h.ox)
def lenOf (v : Value) : Nat := match v with | .slice _ n _ => n | _ => 0
end Go.Proofs.YtckoipoejaafhaaDoor

namespace Go.Proofs.YtckoipoejaafhaaDoor
end Go.Proofs.YtckoipoejaafhaaDoor

namespace Go.Proofs.YtckoipoejaafhaaDoor
open Go.RowKit Go.Maps
end Go.Proofs.YtckoipoejaafhaaDoor

namespace Go.Proofs.YtckoipoejaafhaaDoor
open Go.RowKit
set_option maxRecDepth 100000
theorem Two.start (w : World) : Two w w (.slice none 0 0) (.slice none 0 0) [] [] := ⟨Ow.nil _ _, Ow.nil _ _, fun g e => by simp [Value.ownBlock] at e, Below.refl _ _⟩
theorem wp_appX {ops : Array Oper} {rest : List Oper} {o : Oper} {a : Act} {Q : Exit → Act → World → Prop} {w0 w : World} {vx vy : Value} {X Y : List Nat} {g z : Nat} (hgd : o.guard = none) (s x : Operand)
    (ho : o.op = .call { callee := .builtin .append, args := #[s, x], argTypes := #[23, 23] }) (h : Two w0 w vx vy X Y) (hL : Lt w g z)
    (hs : a.eval s = vx) (hx : a.eval x = .slice (some ⟨g, 0, none⟩) 1 1) (hl : X.length ≤ 1000)
    (hK : ∀ v' w', Two w0 w' v' vy (X ++ [z]) Y → wpList Tryd.prog ops Q rest (a.put o.dst v') w') : wpList Tryd.prog ops Q (o :: rest) a w := by
  refine wpList_plain hgd fun K' hK' => ?_
  have := step_appX (ops := ops) (Q := Q) (K := K') (E := True) hgd s x ho h hL hs hx hl (fun v' w' h' _ => hK' _ _ (hK v' w' h'))
  split at this
  · exact this
  · next hn => exact absurd (by unfold Region.wanted; rw [hgd]) hn
theorem Two.isU {w0 w : World} {vx vy : Value} {X Y : List Nat} (h : Two w0 w vx vy X Y) (hX : ∀ x ∈ X, (x : Int) < 18446744073709551616) (hY : ∀ x ∈ Y, (x : Int) < 18446744073709551616) : IsU w vx X ∧ IsU w vy Y := ⟨h.ox.isU hX, h.oy.isU hY⟩
def cellsB (xs : List Nat) : List Value := xs.map fun (x : Nat) => Value.int .u8 (x : Int)
theorem cellsB_set (xs : List Nat) (i x : Nat) : (cellsB xs).set i (.int .u8 (x : Int)) = cellsB (xs.set i x) := by unfold cellsB; rw [List.map_set]
def RowB (w : World) (g : Nat) (xs : List Nat) : Prop := RowV 5 w g (cellsB xs)
theorem RowB.cell {w : World} {g : Nat} {xs : List Nat} (h : RowB w g xs) (i : Nat) (hi : i < xs.length) : w.cell? ⟨g, i, none⟩ = some (.int .u8 ((xs.getD i 0 : Nat) : Int)) := by
  rw [RowV.cell h i]
  simp [cellsB, List.getD, hi]
theorem RowB.frozen {w : World} {g : Nat} {xs : List Nat} (h : RowB w g xs) (i : Nat) : w.frozen? ⟨g, i, none⟩ = false := RowV.frozen h i
theorem RowB.set {w : World} {g : Nat} {xs : List Nat} (h : RowB w g xs) (i x : Nat) : RowB (w.setCell ⟨g, i, none⟩ (.int .u8 (x : Int))) g (xs.set i x) := (RowV.set h i _).cast (cellsB_set _ _ _)
theorem RowB.cast {w : World} {g : Nat} {xs ys : List Nat} (h : RowB w g xs) (e : xs = ys) : RowB w g ys := e ▸ h
theorem info_byteB : (Tryd.prog.info? 5).map (fun i => (i.zero, i.size, i.bytes)) = some (some (.int .u8 0), 1, 1) := by kernel_rfl
theorem made_byte (n : Nat) : (madeCells (Value.int .u8 0).cells (n * 1)).toList = cellsB (List.replicate n 0) := by
  rw [show (Value.int .u8 0).cells = #[Value.int .u8 0] from rfl, Nat.mul_one, toList_madeCells_one]
  unfold cellsB
  rw [List.map_replicate]; rfl
theorem wp_makeB {ops : Array Oper} {rest : List Oper} {o : Oper} {a : Act} {Q : Exit → Act → World → Prop} {w : World} (hgd : o.guard = none) (l c : Operand) (ho : o.op = Op.makeSlice 55 l c) (n : Nat)
    (hl : a.eval l = .int .i64 (n : Int)) (hc : a.eval c = .int .i64 (n : Int)) (hn : n ≤ 1000000000)
    (h : ∀ g w', Hid (g = w.heap.size) → RowB w' g (List.replicate n 0) → Below w.heap.size w w' → wpList Tryd.prog ops Q rest (a.put o.dst (.slice (some ⟨g, 0, none⟩) n n)) w') :
    wpList Tryd.prog ops Q (o :: rest) a w := by
  obtain ⟨i0, hi, hz0, hz1, hz2⟩ := info_parts info_byteB
  refine wpList_make_full w hgd l c 55 ho w.heap.size 5 i0 (.int .u8 0) 1 Tryd.underlying55 hi hz0 hz1 .i64 .i64 n n n hl hc rfl rfl (by rw [hz2]; omega) (by unfold maxLen; omega) (Nat.le_refl _) ?_
  intro w' hown hgrow
  rw [made_byte] at hown
  refine h w.heap.size w' rfl ?_ ((Below.refl _ _).grown hgrow (Nat.le_refl _) (fun k hk => by cases hk))
  rcases hown.2 with ⟨hv, _⟩ | ⟨g', cap', cur, hv, hg, hh, h1, h2, h3, h4⟩
  · cases hv
  · simp only [Value.slice.injEq, Option.some.injEq, Addr.mk.injEq, and_true, true_and] at hv
    obtain ⟨rfl, rfl⟩ := hv
    have hcur : cur.toList = cellsB (List.replicate n 0) := by rw [← h4, Nat.mul_one, List.take_of_length_le (by simp [h3])]
    have hcur2 : cur = (cellsB (List.replicate n 0)).toArray := by rw [← hcur]
    rw [hcur2] at hh
    exact hh
theorem RowB.text {w : World} {g : Nat} {ds : List Nat} (h : RowB w g (by' ds)) (hd : Dg ds) (o n cap : Nat) (hn : n = ds.length - o) :
    (convert 55 9 (.slice (some ⟨g, o, none⟩) n cap)).run Tryd.prog w = .ok (.string (bsX (tx (ds.drop o)))) w := by
  have q := run_convert_bytes_back (P := Tryd.prog) w 55 9 5 ⟨g, o, none⟩ cap (tx (ds.drop o)) Tryd.underlying55 Tryd.underlying5 Tryd.underlying9 (fun j hj => by
    have hj' : o + j < ds.length := by rw [tx_length, List.length_drop] at hj; omega
    rw [Addr.add_lit, h.cell (o + j) (by rw [by'_length]; exact hj'), by'_get ds _ hj']
    have h9 : ds[o + j] ≤ 9 := hd _ (List.getElem_mem hj')
    have e : (tx (ds.drop o))[j].toNat = 48 + ds.getD (o + j) 0 := by
      have e1 : (tx (ds.drop o))[j]? = some (UInt8.ofNat (48 + ds[o + j])) := by simp [tx, hj']
      rw [(List.getElem?_eq_some_iff.mp e1).2, UInt8.toNat_ofNat', show ds.getD (o + j) 0 = ds[o + j] by simp [List.getD, hj']]
      omega
    rw [e])
  rw [tx_length, List.length_drop, ← hn] at q
  exact q
def bwk (ds : List Nat) (k : Nat) : List Nat := (List.range ds.length).map fun j => if j < k then 48 + ds.getD j 0 else 0
theorem bwk_length (ds : List Nat) (k : Nat) : (bwk ds k).length = ds.length := by simp [bwk]
theorem bwk_zero (ds : List Nat) : bwk ds 0 = List.replicate ds.length 0 := by
  unfold bwk
  rw [show (fun j => if j < 0 then 48 + ds.getD j 0 else 0) = fun _ => 0 from funext fun j => if_neg (by omega), List.map_const', List.length_range]
theorem bwk_set (ds : List Nat) (k : Nat) : (bwk ds k).set k (48 + ds.getD k 0) = bwk ds (k + 1) := by
  apply List.ext_getElem
  · simp [bwk]
  · intro t h1 h2
    rw [List.getElem_set]
    simp only [bwk, List.getElem_map, List.getElem_range]
    by_cases e : k = t
    · subst e
      rw [if_pos rfl, if_pos (by omega)]
    · rw [if_neg e]
      by_cases e2 : t < k
      · rw [if_pos e2, if_pos (by omega)]
      · rw [if_neg e2, if_neg (by omega)]
theorem bwk_full (ds : List Nat) : bwk ds ds.length = by' ds := by
  apply List.ext_getElem
  · rw [bwk_length, by'_length]
  · intro t h1 h2
    rw [by'_length] at h2
    simp [bwk, by', List.getD, h2]
end Go.Proofs.YtckoipoejaafhaaDoor
