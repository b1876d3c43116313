/-
  Texts that stood one behind the other, as one.
-/
import Derived.Test.YtckoipoejaafhaaDoorManyCAll
import Derived.Test.YtckoipoejaafhaaDoorManyCAll
import Derived.BigQuiet
import Derived.Test.YtckoipoejaafhaaDoorSlAll
import Derived.Test.YtckoipoejaafhaaDoorCeBAll
import Derived.Test.YtckoipoejaafhaaDoorSlAll
import Derived.Laws.Bits64b
namespace Go.Proofs.YtckoipoejaafhaaDoor
open Go.RowKit
set_option maxRecDepth 100000
def RowS (w : World) (G : Nat) (vs : List Value) : Prop := w.heap[G]? = some (.cells vs.toArray 22 (0, 0))
theorem RowS.lt {w : World} {g : Nat} {xs : List Value} (h : RowS w g xs) : g < w.heap.size := by
  obtain ⟨hlt, _⟩ := Array.getElem?_eq_some_iff.1 h
  exact hlt
theorem RowS.cell {w : World} {g : Nat} {xs : List Value} (h : RowS w g xs) (i : Nat) : w.cell? ⟨g, i, none⟩ = xs[i]? := by
  have hh : w.heap[g]? = _ := h
  simp only [World.cell?, hh, List.getElem?_toArray]
  cases xs[i]? <;> rfl
theorem RowS.frozen {w : World} {g : Nat} {xs : List Value} (h : RowS w g xs) (i : Nat) : w.frozen? ⟨g, i, none⟩ = false := by
  have hh : w.heap[g]? = _ := h
  simp [World.frozen?, hh]
theorem RowS.set {w : World} {g : Nat} {xs : List Value} (h : RowS w g xs) (i : Nat) (u : Value) : RowS (w.setCell ⟨g, i, none⟩ u) g (xs.set i u) := by
  have hh : w.heap[g]? = _ := h
  unfold RowS
  simp [World.setCell, Array.getElem?_modify, hh]
theorem RowS.block {w w' : World} {g : Nat} {xs : List Value} (h : RowS w g xs) (e : w'.heap[g]? = w.heap[g]?) : RowS w' g xs := e.trans h
theorem RowS.below {w w' : World} {g : Nat} {xs : List Value} (h : RowS w g xs) (hb : Below w.heap.size w w') : RowS w' g xs := h.block (hb.block g h.lt)
theorem RowS.bar {w w' : World} {g g' : Nat} {xs : List Value} (h : RowS w g' xs) (hne : g' ≠ g) (hb : Bar g w w') : RowS w' g' xs := h.block (hb.block g' h.lt hne)
theorem made_ints (n : Nat) : (madeCells (Value.slice none 0 0).cells (n * 1)).toList = List.replicate n (Value.slice none 0 0) := by
  rw [show (Value.slice none 0 0).cells = #[Value.slice none 0 0] from rfl, Nat.mul_one, toList_madeCells_one]
theorem wp_makeL {ops : Array Oper} {rest : List Oper} {o : Oper} {a : Act} {Q : Exit → Act → World → Prop} {w : World} (hgd : o.guard = none) (l c : Operand) (ho : o.op = Op.makeSlice 110 l c) (n : Nat)
    (hl : a.eval l = .int .i64 (n : Int)) (hc : a.eval c = .int .i64 (n : Int)) (hn : n ≤ 1000000000)
    (h : ∀ g w', Hid (g = w.heap.size) → RowS w' g (List.replicate n (.slice none 0 0)) → Below w.heap.size w w' → wpList Tryd.prog ops Q rest (a.put o.dst (.slice (some ⟨g, 0, none⟩) n n)) w') :
    wpList Tryd.prog ops Q (o :: rest) a w := by
  obtain ⟨i0, hi, hz0, hz1, hz2⟩ := info_parts info_ints
  refine wpList_make_full w hgd l c 110 ho w.heap.size 22 i0 (.slice none 0 0) 1 Tryd.underlying110 hi hz0 hz1 .i64 .i64 n n n hl hc rfl rfl (by rw [hz2]; omega) (by unfold maxLen; omega) (Nat.le_refl _) ?_
  intro w' hown hgrow
  rw [made_ints] at hown
  refine h w.heap.size w' rfl ?_ ((Below.refl _ _).grown hgrow (Nat.le_refl _) (fun k hk => by cases hk))
  rcases hown.2 with ⟨hv, _⟩ | ⟨g', cap', cur, hv, hg, hh, h1, h2, h3, h4⟩
  · cases hv
  · simp only [Value.slice.injEq, Option.some.injEq, Addr.mk.injEq, and_true, true_and] at hv
    obtain ⟨rfl, rfl⟩ := hv
    have hcur : cur.toList = List.replicate n (Value.slice none 0 0) := by rw [← h4, Nat.mul_one, List.take_of_length_le (by simp [h3])]
    have hcur2 : cur = (List.replicate n (Value.slice none 0 0)).toArray := by rw [← hcur]
    rw [hcur2] at hh
    exact hh
def lnZ (u d i k : Nat) : List Nat := (List.range d).map fun t => if t < k then ps u d i t else 0
theorem lnZ_length (u d i k : Nat) : (lnZ u d i k).length = d := by simp [lnZ]
theorem lnZ_zero (u d i : Nat) : lnZ u d i 0 = List.replicate d 0 := by
  apply List.ext_getElem
  · simp [lnZ]
  · intro t h1 h2
    simp [lnZ]
theorem lnZ_set (u d i k : Nat) (_hk : k < d) : (lnZ u d i k).set k (ps u d i k) = lnZ u d i (k + 1) := by
  apply List.ext_getElem
  · simp [lnZ]
  · intro t h1 h2
    rw [List.getElem_set]
    simp only [lnZ, List.getElem_map, List.getElem_range]
    by_cases e : k = t
    · subst e
      rw [if_pos rfl, if_pos (by omega)]
    · rw [if_neg e]
      by_cases e2 : t < k
      · rw [if_pos e2, if_pos (by omega)]
      · rw [if_neg e2, if_neg (by omega)]
def Lns (B : Nat) (w : World) (G : Nat) (vs : List Value) (u d i : Nat) : Prop :=
  ∀ j, j < i → ∃ g, vs[j]? = some (.slice (some ⟨g, 0, none⟩) d d) ∧ g ≠ G ∧ B ≤ g ∧ RowI w g (lnZ u d j d)
theorem Lns.below {B : Nat} {w w' : World} {G : Nat} {vs : List Value} {u d i : Nat} (h : Lns B w G vs u d i) (hb : Below w.heap.size w w') : Lns B w' G vs u d i := fun j hj => by
  obtain ⟨g, h1, h2, h3, h4⟩ := h j hj
  exact ⟨g, h1, h2, h3, h4.below hb⟩
theorem Lns.step {B : Nat} {w w' : World} {G : Nat} {vs : List Value} {u d i g : Nat} (h : Lns B w G vs u d i) (hi : i < vs.length)
    (hk : ∀ k, k < w.heap.size → k ≠ G → w'.heap[k]? = w.heap[k]?) (hg : g ≠ G) (hB : B ≤ g) (hr : RowI w' g (lnZ u d i d)) :
    Lns B w' G (vs.set i (.slice (some ⟨g, 0, none⟩) d d)) u d (i + 1) := fun j hj => by
  by_cases e : j = i
  · subst e
    exact ⟨g, by rw [List.getElem?_set_self hi], hg, hB, hr⟩
  · obtain ⟨g', h1, h2, h3, h4⟩ := h j (by omega)
    exact ⟨g', by rw [List.getElem?_set_ne (Ne.symm e)]; exact h1, h2, h3, h4.block (hk g' h4.lt h2)⟩
theorem lnZ_lin (ds : List Nat) (x i : Nat) : lnZ (beh ds (x + 1)) (sz ds x) i (sz ds x) = lin ds x (ps (beh ds (x + 1)) (sz ds x) i 0) (sz ds x) := by
  apply List.ext_getElem
  · rw [lnZ_length, lin_length]
  · intro t h1 h2
    rw [lnZ_length] at h1
    have := lin_ps ds x i t h1
    simp only [List.getD, List.getElem?_eq_getElem h2, Option.getD_some] at this
    rw [this]
    simp [lnZ, h1]
theorem Lns.isLF {B : Nat} {w : World} {G : Nat} {vs : List Value} {ds : List Nat} {x : Nat} (hr : RowS w G vs) (hl : vs.length = nln ds x) (hG : B ≤ G) (h : Lns B w G vs (beh ds (x + 1)) (sz ds x) (nln ds x)) (hM : nln ds x ≤ 1024) (hd : sz ds x ≤ 1024) :
    IsLF B w (.slice (some ⟨G, 0, none⟩) (nln ds x) (nln ds x)) ((List.range (nln ds x)).map fun i => lin ds x (ps (beh ds (x + 1)) (sz ds x) i 0) (sz ds x)) := by
  have hll : ((List.range (nln ds x)).map fun i => lin ds x (ps (beh ds (x + 1)) (sz ds x) i 0) (sz ds x)).length = nln ds x := by simp
  refine ⟨some ⟨G, 0, none⟩, nln ds x, by rw [hll], by rw [hll]; exact Nat.le_refl _, by unfold maxLen; omega, fun i hi => ?_⟩
  rw [hll] at hi
  obtain ⟨g, h1, h2, h3, h4⟩ := h i hi
  rw [lnZ_lin] at h4
  have e : ((List.range (nln ds x)).map fun i => lin ds x (ps (beh ds (x + 1)) (sz ds x) i 0) (sz ds x)).getD i [] = lin ds x (ps (beh ds (x + 1)) (sz ds x) i 0) (sz ds x) := by simp [List.getD, hi]
  rw [e, lin_length]
  refine ⟨G, 0, g, sz ds x, rfl, hG, h3, ?_, h4.isIN (by rw [lin_length]; omega) (lin_length _ _ _ _)⟩
  rw [Nat.zero_add, hr.cell i, h1]
set_option maxHeartbeats 4000000 in
theorem many_linesOf (w : World) (v : Value) (zs : List Int) (ds : List Nat) (x : Nat) (h : IsZ w v zs) (hG : Good zs ds) (hn : prd2 ds ≤ 1024) (hx : x < ds.length) :
    Calls Tryd.prog 129 #[v, .int .i64 ((prd2 ds : Nat) : Int), .int .i64 (x : Int)] w fun e w' => ∃ u, e = .returned u ∧ IsLF w.heap.size w' u (lns ds x (prd2 ds)) ∧ Below w.heap.size w w' := by
  have hS : Shp ds := hG.2.2.2
  rw [lns_eq hS x hx]
  obtain ⟨a, cap, rfl, hcap, -, hc, -⟩ := h
  have hlen : zs.length = ds.length := by rw [hG.2.2.1, List.length_map]
  obtain ⟨bz, oz, rfl, -⟩ := hc x (by omega)
  have hcz : ∀ i, i < ds.length → w.cell? ⟨bz, oz + i, none⟩ = some (.int .i64 ((sz ds i : Nat) : Int)) := fun i hi => by
    obtain ⟨b, off, e, hcell⟩ := hc i (by omega)
    simp only [Option.some.injEq, Addr.mk.injEq, and_true] at e
    obtain ⟨rfl, rfl⟩ := e
    rw [(Good_get hG i (by omega)).1] at hcell
    exact hcell
  rw [hlen] at hcap ⊢
  clear hc
  have hcx := hcz x hx
  have hd9 := sz_le hS hn x hx
  have hd0 := P2_pos (hS.at x hx)
  have hu0 := beh_pos hS (x + 1)
  have hnd := nln_div hS x hx
  have hM9 : nln ds x ≤ 1024 := by rw [← hnd]; exact Nat.le_trans (Nat.div_le_self _ _) hn
  have h3 : ds.length ≤ 3 := by rw [← hlen]; exact hG.2.1
  have hdrop : Hid (∀ j, j < ds.length - (x + 1) → prd2 ((ds.drop (x + 1)).take (j + 1)) = prd2 ((ds.drop (x + 1)).take j) * sz ds (x + 1 + j)) := fun j hj => by
    rw [prd2_take _ j (by rw [List.length_drop]; exact hj)]
    congr 1
    unfold sz
    simp [List.getD]
  have hdle : Hid (∀ j, prd2 ((ds.drop (x + 1)).take j) ≤ 1024) := fun j => by
    have h1 := prd2_take_le (ds := ds.drop (x + 1)) (fun d hd => hS.pos d (List.mem_of_mem_drop hd)) j
    have h2 : prd2 (ds.drop (x + 1)) ≤ prd2 ds := by
      rw [prd2_split ds (x + 1)]
      exact Nat.le_mul_of_pos_left _ (prd2_pos fun d hd => hS.pos d (List.mem_of_mem_take hd))
    omega
  have hsz9 : Hid (∀ i, i < ds.length → sz ds i ≤ 1024) := fun i hi => sz_le hS hn i hi
  have hu9 : beh ds (x + 1) ≤ 1024 := by
    have := hdle.out (ds.length - (x + 1))
    rw [List.take_of_length_le (by rw [List.length_drop]; exact Nat.le_refl _)] at this
    exact this
  have hend : Hid (prd2 ((ds.drop (x + 1)).take (ds.length - (x + 1))) = beh ds (x + 1)) := by
    show _ = _
    rw [List.take_of_length_le (by rw [List.length_drop]; exact Nat.le_refl _)]; rfl
  have hpslt : Hid (∀ i k, i < nln ds x → k < sz ds x → ps (beh ds (x + 1)) (sz ds x) i k < 1024) := fun i k hi hk => by
    have := ps_lt (m := prd2 (ds.take x)) hu0 hi hk
    rw [← prd2_at ds x hx] at this
    exact Nat.lt_of_lt_of_le this hn
  have hfin : Hid (∀ (W : World) (G : Nat) (vs : List Value), RowS W G vs → vs.length = nln ds x → w.heap.size ≤ G → Lns w.heap.size W G vs (beh ds (x + 1)) (sz ds x) (nln ds x) → IsLF w.heap.size W (.slice (some ⟨G, 0, none⟩) (nln ds x) (nln ds x)) ((List.range (nln ds x)).map fun i => lin ds x (ps (beh ds (x + 1)) (sz ds x) i 0) (sz ds x))) := fun W G vs h1 h2 h3 h4 => Lns.isLF h1 h2 h3 h4 hM9 hd9
  have hquo : Int.tdiv ((prd2 ds : Nat) : Int) ((sz ds x : Nat) : Int) = ((nln ds x : Nat) : Int) := by
    rw [Int.tdiv_eq_ediv_of_nonneg (by omega), ← Int.natCast_ediv, hnd]
  have hxl : Hid (x < ds.length) := hx
  generalize (List.range (nln ds x)).map (fun i => lin ds x (ps (beh ds (x + 1)) (sz ds x) i 0) (sz ds x)) = RL at *
  clear hG hlen hnd
  generalize hN : prd2 ds = N at *
  clear hN
  generalize hMe : nln ds x = M at *
  clear hMe hS
  generalize hst : (fun j => prd2 ((ds.drop (x + 1)).take j)) = st
  have hst' : ∀ j, prd2 ((ds.drop (x + 1)).take j) = st j := fun j => congrFun hst j
  simp only [hst'] at hdrop hdle hend
  have hst0 : st 0 = 1 := (hst' 0).symm
  clear hst hst'
  generalize ds.length = n at *
  have hcd : ∀ j, j < n - (x + 1) → w.cell? ⟨bz, oz + (x + 1) + j, none⟩ = some (.int .i64 ((sz ds (x + 1 + j) : Nat) : Int)) := fun j hj => by rw [Nat.add_assoc]; exact hcz _ (by omega)
  have hsd : Hid (∀ j, j < n - (x + 1) → sz ds (x + 1 + j) ≤ 1024) := fun j hj => hsz9.out _ (by omega)
  clear hcz hsz9
  generalize sz ds x = d at *
  generalize hu : beh ds (x + 1) = u at *
  clear hu
  have hst1 : Hid (st 0 = 1) := hst0
  have hdnz : ¬ (d : Int) = 0 := by omega
  have hunz : ¬ (u : Int) = 0 := by omega
  have hwM : IntKind.i64.wrap (M : Int) = (M : Int) := wraps_i64 _ (Int.natCast_nonneg _) (by omega)
  have hM10 : M ≤ 1000000000 := by omega
  have hd10 : d ≤ 1000000000 := by omega
  clear hst0 hxl
  go_enter Tryd.func129, Tryd.ntmps129
  go_wp2
  all_goals
    go_loop [8, 24] (fun vs vi => ∃ j : Nat, j ≤ n - (x + 1) ∧ vi = .int .i64 (j : Int) ∧ vs = .int .i64 ((st j : Nat) : Int))
      (fun _ vi => n - (x + 1) - (intOf vi).toNat)
    case atStart => exact ⟨0, Nat.zero_le _, rfl, by rw [hst1.out]; rfl⟩
    case round =>
      obtain ⟨j, hj, rfl, rfl⟩ := hrel
      by_cases hlt : j < n - (x + 1)
      · first
          | (exfalso; omega)
          | (have hcj := hcd j hlt
             have hsj := hsd.out j hlt
             have hsn := hdrop.out j hlt
             have hs1 := hdle.out j
             have hs2 := hdle.out (j + 1)
             rw [hsn] at hs2
             have hsn' : Hid (st (j + 1) = st j * sz ds (x + 1 + j)) := hsn
             clear hsn hcd hfin hpslt
             generalize sz ds (x + 1 + j) = y at *
             generalize st j = s0 at *
             obtain ⟨r, hr0⟩ : ∃ r : Nat, r = s0 * y := ⟨_, rfl⟩
             have hmul : (s0 : Int) * (y : Int) = (r : Int) := by rw [hr0, Int.natCast_mul]
             rw [← hr0] at hs2 hsn'
             clear hr0
             go_wp2
             go_round
             case rel => exact ⟨j + 1, by omega, by go_num, by rw [hsn'.out]⟩
             case measure => simp only [intOf]; omega)
      · have e : n - (x + 1) = j := by omega
        have hge : n - (x + 1) ≤ j := by omega
        have e2 := hend.out
        rw [e] at e2
        rw [e2]
        clear e e2 hcd hsd hdrop hdle hend hcx h
        go_wp2_with (at_make; refine wp_makeL rfl _ _ rfl M rfl rfl hM10 ?_; intro G w2 hGe hrow hb)
        have hGw : w.heap.size ≤ G := Nat.le_of_eq hGe.out.symm
        clear hGe
        go_loopw [38] (fun vi wr => ∃ (i : Nat) (vs : List Value), i ≤ M ∧ vi = .int .i64 (i : Int) ∧ RowS wr G vs ∧ Hid (vs.length = M) ∧ Hid (Lns w.heap.size wr G vs u d i) ∧ Below w.heap.size w wr)
          (fun vi _ => M - (intOf vi).toNat)
        case atStart => exact ⟨0, _, Nat.zero_le _, rfl, hrow, List.length_replicate, fun j hj => by omega, hb⟩
        case round =>
          clear hrow hb
          obtain ⟨i, vs, hi, rfl, hrow, hvl, hlns, hnx⟩ := hrel
          by_cases hiM : i < M
          · have hps := fun k (hk : k < d) => hpslt.out i k hiM hk
            have hp0 := hps 0 hd0
            obtain ⟨old, hold⟩ : ∃ old, vs[i]? = some old := ⟨_, List.getElem?_eq_getElem (by rw [hvl.out]; exact hiM)⟩
            have hcG := hrow.cell i
            rw [hold] at hcG
            have hfG := hrow.frozen i
            obtain ⟨q, hq⟩ : ∃ q, q = i / u := ⟨_, rfl⟩
            obtain ⟨r, hr⟩ : ∃ r, r = i % u := ⟨_, rfl⟩
            obtain ⟨qu, hqu⟩ : ∃ y, y = q * u := ⟨_, rfl⟩
            obtain ⟨F0, hF0⟩ : ∃ y, y = qu * d := ⟨_, rfl⟩
            obtain ⟨f, hf⟩ : ∃ y, y = F0 + r := ⟨_, rfl⟩
            have hpsf : Hid (∀ k, ps u d i k = f + k * u) := fun k => by
              show ps u d i k = f + k * u
              unfold ps
              rw [hf, hF0, hqu, hq, hr, Nat.mul_assoc]
            have hf9 : f < 1024 := by have := hpsf.out 0; omega
            have hF9 : F0 < 1024 := by omega
            have hqu9 : qu ≤ F0 := by rw [hF0]; exact Nat.le_mul_of_pos_right _ hd0
            have hq9 : q ≤ qu := by rw [hqu]; exact Nat.le_mul_of_pos_right _ hu0
            have hr9 : r ≤ f := by omega
            have e1 : Int.tdiv (i : Int) (u : Int) = (q : Int) := by rw [Int.tdiv_eq_ediv_of_nonneg (by omega), ← Int.natCast_ediv, hq]
            have e2 : (i : Int) / (u : Int) = (q : Int) := by rw [← Int.natCast_ediv, hq]
            have e3 : (q : Int) * (u : Int) = (qu : Int) := by rw [hqu, Int.natCast_mul]
            have e4 : (qu : Int) * (d : Int) = (F0 : Int) := by rw [hF0, Int.natCast_mul]
            have e5 : Int.tmod (i : Int) (u : Int) = (r : Int) := by rw [Int.tmod_eq_emod_of_nonneg (by omega), ← Int.natCast_emod, hr]
            have e6 : (i : Int) % (u : Int) = (r : Int) := by rw [← Int.natCast_emod, hr]
            have e7 : (F0 : Int) + (r : Int) = (f : Int) := by rw [hf]; rfl
            have hwq : IntKind.i64.wrap (q : Int) = (q : Int) := wraps_i64 _ (Int.natCast_nonneg _) (by omega)
            have hwr : IntKind.i64.wrap (r : Int) = (r : Int) := wraps_i64 _ (Int.natCast_nonneg _) (by omega)
            have hpsl : Hid (∀ k, k < d → ps u d i k < 1024) := hps
            clear hq hr hqu hF0 hf hps hp0 hpslt hfin
            obtain ⟨wk, hwk⟩ : ∃ wk : World, wk = wr := ⟨_, rfl⟩
            rw [← hwk] at hrow hlns hnx hcG hfG ⊢
            clear hwk
            go_wp2
            go_quiet (fail)
            have hrow6 : RowS (wk.drewN nq) G vs := hrow
            have hb6 : Below wk.heap.size wk (wk.drewN nq) := below_drewN (Below.refl _ _) nq
            have hlns6 := hlns.out.below hb6
            have hnx6 := hnx.trans (hb6.mono hnx.size)
            clear hrow hb6 hlns hnx hcG hfG
            generalize wk.drewN nq = w6 at *
            clear e1 e2 e3 e4 e5 e6 e7 hwq hwr
            go_wp2_with (at_make; refine wp_makeI rfl _ _ rfl d rfl rfl hd10 ?_; intro g w3 hge hrI hb3; have hrow3 := hrow6.below hb3; have hcG3 := hrow3.cell i; rw [hold] at hcG3; have hfG3 := hrow3.frozen i)
            have hgw : w6.heap.size ≤ g := Nat.le_of_eq hge.out.symm
            have hGg : G ≠ g := by have := hrow6.lt; omega
            have hwg : w.heap.size ≤ g := Nat.le_trans hnx6.size hgw
            have hrow5 := hrow3.set i (.slice (some ⟨g, 0, none⟩) d d)
            have hrI5 : RowI (w3.setCell ⟨G, i, none⟩ (.slice (some ⟨g, 0, none⟩) d d)) g (lnZ u d i 0) := (hrI.bar (Ne.symm hGg) ((Bar.refl G _).setCell i _)).cast (lnZ_zero u d i).symm
            have hk5 : ∀ k, k < w6.heap.size → k ≠ G → (w3.setCell ⟨G, i, none⟩ (.slice (some ⟨g, 0, none⟩) d d)).heap[k]? = w6.heap[k]? := fun k hk hne => (((Bar.refl G w3).setCell i (.slice (some ⟨g, 0, none⟩) d d)).block k (Nat.lt_of_lt_of_le hk hb3.size) hne).trans (hb3.block k hk)
            have hnx5 : Below w.heap.size w (w3.setCell ⟨G, i, none⟩ (.slice (some ⟨g, 0, none⟩) d d)) := (hnx6.trans (hb3.mono hnx6.size)).setCell (p := ⟨G, i, none⟩) hGw _
            have hs5 : w6.heap.size ≤ (w3.setCell ⟨G, i, none⟩ (.slice (some ⟨g, 0, none⟩) d d)).heap.size := Nat.le_trans hb3.size ((Bar.refl G w3).setCell i (.slice (some ⟨g, 0, none⟩) d d)).size
            clear hge hrI hb3 hrow6 hnx6 hrow3 hcG3 hfG3 hold
            generalize w3.setCell ⟨G, i, none⟩ (.slice (some ⟨g, 0, none⟩) d d) = w5 at *
            go_loopw [62] (fun vk wr => ∃ k : Nat, k ≤ d ∧ vk = .int .i64 (k : Int) ∧ RowI wr g (lnZ u d i k) ∧ Bar g w5 wr)
              (fun vk _ => d - (intOf vk).toNat)
            case atStart => exact ⟨0, Nat.zero_le _, rfl, hrI5, Bar.refl _ _⟩
            case round =>
              clear hrI5
              obtain ⟨k, hk, rfl, hrI, hbar⟩ := hrel
              have hrG := hrow5.bar hGg hbar
              have hcG := hrG.cell i
              rw [List.getElem?_set_self (by rw [hvl.out]; exact hiM)] at hcG
              by_cases hkd : k < d
              · have hck := hrI.cell k (by rw [lnZ_length]; exact hkd)
                have hfk := hrI.frozen k
                have hset := hrI.set k (ps u d i k)
                rw [lnZ_set u d i k hkd] at hset
                have hB2 := hbar.setCell k (.int .i64 ((ps u d i k : Nat) : Int))
                have hp9 := hpsl.out k hkd
                rw [hpsf.out k] at hset hB2 hp9
                obtain ⟨ku, hku⟩ : ∃ y, y = k * u := ⟨_, rfl⟩
                have e1 : (k : Int) * (u : Int) = (ku : Int) := by rw [hku, Int.natCast_mul]
                rw [← hku] at hset hB2 hp9
                obtain ⟨pk, hpk⟩ : ∃ y, y = f + ku := ⟨_, rfl⟩
                have e2 : (f : Int) + (ku : Int) = (pk : Int) := by rw [hpk]; rfl
                rw [← hpk] at hset hB2 hp9
                have hku9 : ku < 1024 := by omega
                clear hku hpk hrI hbar hrG hrow5 hk5 hnx5 hs5 hlns6 hvl
                generalize (lnZ u d i k).getD k 0 = old at *
                go_wp2
                go_roundw
                case rel => exact ⟨k + 1, by omega, by go_num, hset, hB2⟩
                case measure => simp only [intOf]; omega
              · have e : d = k := by omega
                subst e
                have hlnN : Hid (Lns w.heap.size wr G (vs.set i (.slice (some ⟨g, 0, none⟩) d d)) u d (i + 1)) := hlns6.step (by rw [hvl.out]; exact hiM) (fun k hk hne => (hbar.block k (Nat.lt_of_lt_of_le hk hs5) (by omega)).trans (hk5 k hk hne)) (Ne.symm hGg) hwg hrI
                have hvlN : Hid ((vs.set i (.slice (some ⟨g, 0, none⟩) d d)).length = M) := by show _ = _; rw [List.length_set]; exact hvl.out
                have hnxN : Below w.heap.size w wr := hnx5.trans (hbar.below hwg hnx5.size)
                clear hrI hbar hrow5 hk5 hnx5 hs5 hlns6 hvl hcG
                go_wp2
                go_roundw
                case rel => exact ⟨i + 1, _, by omega, by go_num, hrG, hvlN, hlnN, hnxN⟩
                case measure => simp only [intOf]; omega
          · have e : M = i := by omega
            subst e
            have hR := hfin.out wr G vs hrow hvl.out hGw hlns.out
            have hge : M ≤ M := Nat.le_refl _
            clear hfin hlns hrow hvl
            go_wp2
            go_ret
            exact ⟨_, rfl, hR, hnx⟩
theorem many_Lines_ok (w : World) (v : Value) (zs : List Int) (ds : List Nat) (x : Nat) (h : IsZ w v zs) (hG : Good zs ds) (hn : prd2 ds ≤ 1024) (hx : x < ds.length) :
    Calls Tryd.prog 83 #[v, .int .i64 (x : Int)] w fun e w' => ∃ u, e = .returned (.tuple #[u, .int .i64 0]) ∧ IsL w' u (lns ds x (prd2 ds)) ∧ Below w.heap.size w w' := by
  have c1 := many_Check_okW w v zs ds h hG hn
  have c3 := many_linesOf w v zs ds x h hG hn hx
  have hlen : zs.length = ds.length := by rw [hG.2.2.1, List.length_map]
  obtain ⟨a, cap, rfl, -⟩ := h
  have c2 := many_hasAxis w a zs.length cap (x : Int)
  rw [show decide (0 ≤ (x : Int) ∧ (x : Int) < (zs.length : Int)) = true from decide_eq_true (by omega)] at c2
  clear hG hlen
  generalize prd2 ds = N at *
  go_enter Tryd.func83, Tryd.ntmps83
  go_wp2_with (first
    | (go_at_call 39; refine Calls.mono c1 ?_; rintro e w' ⟨rfl, hw⟩; rw [hw]; clear hw)
    | (go_at_call 128; refine Calls.mono c2 ?_; rintro e w' ⟨rfl, hw⟩; rw [hw]; clear hw)
    | (go_at_call 129; refine Calls.mono c3 ?_; rintro e w2 ⟨u, rfl, hL, hb⟩))
  go_ret2
  exact ⟨_, rfl, hL.isL, hb⟩
def swp (s m x : Nat) : Nat := (x / s &&& m) ||| ((x &&& m) * s % 18446744073709551616)
def swL (x : Nat) : Nat := x / 4294967296 ||| (x * 4294967296 % 18446744073709551616)
def rev64 (x : Nat) : Nat := swL (swp 65536 281470681808895 (swp 256 71777214294589695 (swp 16 1085102592571150095 (swp 4 3689348814741910323 (swp 2 6148914691236517205 x)))))
theorem swp_lt (s m x : Nat) (hm : m < 18446744073709551616) : swp s m x < 18446744073709551616 := by
  have h1 : x / s &&& m < 2 ^ 64 := Nat.and_lt_two_pow _ (by omega)
  have h2 : (x &&& m) * s % 18446744073709551616 < 2 ^ 64 := by omega
  have := Nat.or_lt_two_pow h1 h2
  unfold swp; omega
theorem swp_bits (s m x : Nat) (S M : Int) (hS : (s : Int) = S) (hM : (m : Int) = M) (hx : x < 18446744073709551616) (hm : m < 18446744073709551616) :
    bits .or .u64 (bits .and .u64 ((x : Int) / S) M) (IntKind.u64.wrap (bits .and .u64 (x : Int) M * S)) = ((swp s m x : Nat) : Int) := by
  subst hS hM
  have hd : x / s < 18446744073709551616 := Nat.lt_of_le_of_lt (Nat.div_le_self _ _) hx
  have h1 : x / s &&& m < 2 ^ 64 := Nat.and_lt_two_pow _ (by omega)
  rw [← Int.natCast_ediv, bits_and_u64_nat _ m hd hm, bits_and_u64_nat x m hx hm, ← Int.natCast_mul, IntKind.wrap_u64]
  have e : (((x &&& m) * s : Nat) : Int) % 18446744073709551616 = (((x &&& m) * s % 18446744073709551616 : Nat) : Int) := by omega
  rw [e, bits_or_u64_nat _ _ (by omega) (by omega)]; rfl
theorem swL_bits (x : Nat) (hx : x < 18446744073709551616) :
    bits .or .u64 ((x : Int) / 4294967296) (IntKind.u64.wrap ((x : Int) * 4294967296)) = ((swL x : Nat) : Int) := by
  rw [IntKind.wrap_u64, show (x : Int) / 4294967296 = ((x / 4294967296 : Nat) : Int) by omega, show (x : Int) * 4294967296 % 18446744073709551616 = ((x * 4294967296 % 18446744073709551616 : Nat) : Int) by omega,
    bits_or_u64_nat _ _ (by omega) (by omega)]; rfl
theorem bits_ReverseBytes64 (x : Nat) (hx : x < 18446744073709551616) (w : World) :
    Calls Tryd.prog 167 #[.int .u64 (x : Int)] w fun e w' => e = .returned (.int .u64 ((swL (swp 65536 281470681808895 (swp 256 71777214294589695 x)) : Nat) : Int)) ∧ w' = w := by
  have e1 := swp_bits 256 71777214294589695 x 256 71777214294589695 rfl rfl hx (by decide)
  have l1 := swp_lt 256 71777214294589695 x (by decide)
  generalize swp 256 71777214294589695 x = y at *
  have e2 := swp_bits 65536 281470681808895 y 65536 281470681808895 rfl rfl l1 (by decide)
  have l2 := swp_lt 65536 281470681808895 y (by decide)
  generalize swp 65536 281470681808895 y = z at *
  have e3 := swL_bits z l2
  generalize swL z = u at *
  clear l1 l2 hx
  go_enter Tryd.func167, Tryd.ntmps167
  go_wp2
  go_ret
  exact ⟨rfl, rfl⟩
theorem bits_Reverse64 (x : Nat) (hx : x < 18446744073709551616) (w : World) :
    Calls Tryd.prog 166 #[.int .u64 (x : Int)] w fun e w' => e = .returned (.int .u64 ((rev64 x : Nat) : Int)) ∧ w' = w := by
  unfold rev64
  have e1 := swp_bits 2 6148914691236517205 x 2 6148914691236517205 rfl rfl hx (by decide)
  have l1 := swp_lt 2 6148914691236517205 x (by decide)
  generalize swp 2 6148914691236517205 x = y at *
  have e2 := swp_bits 4 3689348814741910323 y 4 3689348814741910323 rfl rfl l1 (by decide)
  have l2 := swp_lt 4 3689348814741910323 y (by decide)
  generalize swp 4 3689348814741910323 y = z at *
  have e3 := swp_bits 16 1085102592571150095 z 16 1085102592571150095 rfl rfl l2 (by decide)
  have l3 := swp_lt 16 1085102592571150095 z (by decide)
  generalize swp 16 1085102592571150095 z = u at *
  have c := bits_ReverseBytes64 u l3
  generalize swL (swp 65536 281470681808895 (swp 256 71777214294589695 u)) = v at *
  clear l1 l2 l3 hx
  go_enter Tryd.func166, Tryd.ntmps166
  go_wp2_with (go_at_call 167; refine Calls.mono (c _) ?_; rintro e w' ⟨rfl, hw⟩; rw [hw]; clear hw)
  go_ret
  exact ⟨rfl, rfl⟩
theorem rev64_all : ((List.range 11).all fun k => (List.range (2 ^ k)).all fun i => rev64 i / 2 ^ (64 - k) == rv k i) = true := by decide +kernel
theorem rev64_rv (k i : Nat) (hk : k ≤ 10) (hi : i < 2 ^ k) : rev64 i / 2 ^ (64 - k) = rv k i := by
  have h1 := List.all_eq_true.mp rev64_all k (List.mem_range.mpr (by omega))
  have h2 := List.all_eq_true.mp h1 i (List.mem_range.mpr hi)
  exact beq_iff_eq.mp h2
def tzI (k : Nat) : Nat := 2 ^ k * 285870213051353865 % 18446744073709551616 / 288230376151711744
theorem tz_all : ((List.range 11).all fun k => decide (tzI k < 64) && (tz64.getD (tzI k) 0 == k) && ((2 ^ k &&& (18446744073709551616 - 2 ^ k)) == 2 ^ k)) = true := by decide +kernel
theorem tz_key (x a : Nat) (hx : x < 18446744073709551616) (hx0 : x ≠ 0) (hlow : x &&& (18446744073709551616 - x) = a) :
    IntKind.u64.wrap (bits .and .u64 (x : Int) (IntKind.u64.wrap (-(x : Int))) * 285870213051353865) / 288230376151711744 = ((a * 285870213051353865 % 18446744073709551616 / 288230376151711744 : Nat) : Int) := by
  have e1 : IntKind.u64.wrap (-(x : Int)) = ((18446744073709551616 - x : Nat) : Int) := by rw [IntKind.wrap_u64]; omega
  rw [e1, bits_and_u64_nat x _ hx (by omega), hlow, IntKind.wrap_u64]
  omega
set_option maxHeartbeats 1000000 in
theorem tz_core (x k q : Nat) (w : World) (hx0 : ((x : Int) == 0) = false)
    (key : IntKind.u64.wrap (bits .and .u64 (x : Int) (IntKind.u64.wrap (-(x : Int))) * 285870213051353865) / 288230376151711744 = (q : Int)) (hi : q < 64) (hk : k ≤ 10)
    (hcell : w.cell? ⟨2, q, none⟩ = some (.int .u8 (k : Int))) :
    Calls Tryd.prog 165 #[.int .u64 (x : Int)] w fun e w' => e = .returned (.int .i64 (k : Int)) ∧ w' = w := by
  go_enter Tryd.func165, Tryd.ntmps165
  go_wp2_with (simp only [key])
  go_ret
  exact ⟨rfl, rfl⟩
theorem bits_TrailingZeros (k : Nat) (hk : k ≤ 10) (w : World) (ht : Tab w) :
    Calls Tryd.prog 158 #[.int .u64 ((2 ^ k : Nat) : Int)] w fun e w' => e = .returned (.int .i64 (k : Int)) ∧ w' = w := by
  have h1 := List.all_eq_true.mp tz_all k (List.mem_range.mpr (by omega))
  simp only [Bool.and_eq_true, decide_eq_true_eq, beq_iff_eq] at h1
  obtain ⟨⟨hi, hv⟩, hand⟩ := h1
  have hcell := ht.1 _ hi
  rw [hv] at hcell
  have hx := (two_pow_bound k hk).2
  have hp : 0 < 2 ^ k := Nat.pow_pos (by decide)
  have key := tz_key (2 ^ k) (2 ^ k) (by omega) (by omega) hand
  have hx0 : (((2 ^ k : Nat) : Int) == 0) = false := by rw [beq_eq_false_iff_ne]; omega
  have c64 := tz_core (2 ^ k) k (tzI k) w hx0 key hi hk hcell
  clear key hcell hx0 hand hv ht hi hp
  generalize 2 ^ k = x at *
  go_enter Tryd.func158, Tryd.ntmps158
  go_wp2_with (go_at_call 165; refine Calls.mono c64 ?_; rintro e w' ⟨rfl, hw⟩; rw [hw]; clear hw)
  go_ret
  exact ⟨rfl, rfl⟩
def SI (n m : Nat) (f : Nat → Nat) : List Nat := (List.range m).map f ++ List.replicate (n - m) 0
theorem SI_zero (n : Nat) (f : Nat → Nat) : SI n 0 f = List.replicate n 0 := by simp [SI]
theorem SI_length {n m : Nat} (f : Nat → Nat) (h : m ≤ n) : (SI n m f).length = n := by
  unfold SI
  simp; omega
theorem SI_set {n m : Nat} (f : Nat → Nat) (h : m < n) : (SI n m f).set m (f m) = SI n (m + 1) f := by
  unfold SI
  obtain ⟨r, hr⟩ : ∃ r, n - m = r + 1 := ⟨n - m - 1, by omega⟩
  rw [hr, show n - (m + 1) = r by omega, List.set_append_right _ _ (by simp), List.length_map, List.length_range, Nat.sub_self, List.replicate_succ, List.set_cons_zero, List.range_succ, List.map_append, List.append_assoc]; rfl
theorem SI_full (n : Nat) (f : Nat → Nat) : SI n n f = (List.range n).map f := by simp [SI]
set_option maxHeartbeats 2000000 in
theorem ntt_turned (w : World) (k : Nat) (hk : k ≤ 10) :
    Calls Tryd.prog 159 #[.int .i64 (k : Int)] w fun e w' => ∃ g, e = .returned (.slice (some ⟨g, 0, none⟩) (2 ^ k) (2 ^ k)) ∧ w.heap.size ≤ g ∧ RowI w' g (ord k) ∧ Below w.heap.size w w' := by
  obtain ⟨hpow, hN9⟩ := two_pow_bound k hk
  have hrev : Hid (∀ i, i < 2 ^ k → rev64 i / 2 ^ (64 - k) = rv k i) := fun i hi => rev64_rv k i hk hi
  have hord : Hid (SI (2 ^ k) (2 ^ k) (rv k) = ord k) := SI_full _ _
  have hsub : (64 : Int) - (k : Int) = ((64 - k : Nat) : Int) := by omega
  have hlt : ∀ i, rv k i < 2 ^ k := fun i => by
    have := rvK_le k i k (Nat.le_refl _)
    rw [Nat.sub_self, Nat.pow_zero] at this
    unfold rv; omega
  generalize 2 ^ k = N at *
  have hn9 : N ≤ 1000000000 := by omega
  go_enter Tryd.func159, Tryd.ntmps159
  go_wp2_with (at_make; refine wp_makeI rfl _ _ rfl N rfl rfl hn9 ?_; intro g w2 hg hrow hb)
  have hgw : w.heap.size ≤ g := Nat.le_of_eq hg.out.symm
  clear hg
  go_loopw [10] (fun vi wr => ∃ i : Nat, i ≤ N ∧ vi = .int .i64 (i : Int) ∧ RowI wr g (SI N i (rv k)) ∧ Below w.heap.size w wr)
    (fun vi _ => N - (intOf vi).toNat)
  case atStart => exact ⟨0, Nat.zero_le _, rfl, hrow.cast (SI_zero _ _).symm, hb⟩
  case round =>
    clear hrow hb
    obtain ⟨i, hi, rfl, hrow, hnx⟩ := hrel
    by_cases hlti : i < N
    · have hc := hrow.cell i (by rw [SI_length _ hi]; exact hlti)
      have hfr := hrow.frozen i
      have hset := hrow.set i (rv k i)
      rw [SI_set _ hlti] at hset
      have hB2 := fun (u : Value) => hnx.setCell (p := ⟨g, i, none⟩) hgw u
      have cR := bits_Reverse64 i (by omega)
      have hq := hrev.out i hlti
      have hrl := hlt i
      have hsh : ((rev64 i : Nat) : Int) / 2 ^ (64 - k) = ((rv k i : Nat) : Int) := by
        rw [← hq, Int.natCast_ediv, Int.natCast_pow]; rfl
      clear hq hrev hlt
      generalize (SI N i (rv k)).getD i 0 = old at *
      generalize rev64 i = r at *
      generalize rv k i = z at *
      go_wp2_with (go_at_call 166; refine Calls.mono (cR _) ?_; rintro e w' ⟨rfl, hw⟩; rw [hw]; clear hw)
      go_roundw
      case rel => exact ⟨i + 1, by omega, by go_num, hset, hB2 _⟩
      case measure => simp only [intOf]; omega
    · have e : i = N := by omega
      subst e
      rw [hord.out] at hrow
      have hge : i ≤ i := Nat.le_refl _
      clear hrev hlt hpow hord
      go_wp2
      go_ret
      exact ⟨g, rfl, hgw, hrow, hnx⟩
end Go.Proofs.YtckoipoejaafhaaDoor
