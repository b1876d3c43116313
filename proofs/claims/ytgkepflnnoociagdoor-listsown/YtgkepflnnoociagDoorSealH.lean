/-
  What cornersOf, placesBefore, withAxis and numbersAt of package seal answer: an array's numbers at the places that are chosen of each axis, in new memory.
-/
import Derived.Test.YtgkepflnnoociagDoorSealA
import Derived.Test.YtgkepflnnoociagDoorManyC
import Derived.Test.YtgkepflnnoociagDoorManyE
import Derived.Test.YtgkepflnnoociagDoorFieldAll
import Derived.Test.YtgkepflnnoociagDoorSlAppAll
import Derived.BigQuiet
namespace Go.Proofs.YtgkepflnnoociagDoor
open Go.RowKit

theorem row_alloc1 (w : World) (x : Nat) : RowI (w.alloc (.cells #[.int .i64 (x : Int)] 3)) w.heap.size [x] := by
  show (w.heap.push _)[w.heap.size]? = _
  simp [cellsI]
theorem row_alloc2 (w : World) (x y : Nat) : RowI (w.alloc (.cells #[.int .i64 (x : Int), .int .i64 (y : Int)] 3)) w.heap.size [x, y] := by
  show (w.heap.push _)[w.heap.size]? = _
  simp [cellsI]
theorem wp_makeI0 {ops : Array Oper} {rest : List Oper} {o : Oper} {a : Act} {Q : Exit → Act → World → Prop} {w : World} (hgd : o.guard = none) (l c : Operand) (ho : o.op = Op.makeSlice 22 l c) (n : Nat) (C : Int)
    (hl : a.eval l = .int .i64 0) (hc : a.eval c = .int .i64 C) (hC : C = (n : Int)) (hn : n ≤ 1000000000)
    (h : ∀ u w', w'.ownsRow w.heap.size 3 1 u 0 (cellsI []) → Below w.heap.size w w' → wpList Tryd.prog ops Q rest (a.put o.dst u) w') :
    wpList Tryd.prog ops Q (o :: rest) a w := by
  obtain ⟨i0, hi, hz0, hz1, hz2⟩ := info_parts info_int
  refine wpList_make_own w hgd l c 22 ho w.heap.size 3 i0 (.int .i64 0) 1 Tryd.underlying22 hi hz0 hz1 .i64 .i64 C n hl hc hC (by rw [hz2]; omega) (by unfold maxLen; omega) (Nat.le_refl _) ?_
  intro w' hown hgrow
  exact h _ w' hown ((Below.refl _ _).grown hgrow (Nat.le_refl _) (fun k hk => by cases hk))

set_option maxHeartbeats 1000000 in
theorem seal_cornersOf (w : World) (d : Nat) (h9 : d ≤ 1024) :
    Calls Tryd.prog 52 #[.int .i64 (d : Int)] w fun e w' => ∃ g, e = .returned (.slice (some ⟨g, 0, none⟩) (crX d).length (crX d).length) ∧ w.heap.size ≤ g ∧ RowI w' g (crX d) ∧ Below w.heap.size w w' := by
  by_cases e : d = 1
  · have hcr : crX d = [0] := if_pos e
    rw [hcr]
    have hq : ((d : Int) == 1) = true := by rw [beq_iff_eq]; omega
    have hr := row_alloc1 w 0
    have hb := below_alloc1 w (.cells #[.int .i64 ((0 : Nat) : Int)] 3)
    clear e hcr
    go_enter Tryd.func52, Tryd.ntmps52
    go_wp2
    go_ret
    exact ⟨_, rfl, Nat.le_refl _, hr, hb⟩
  · have hcr : crX d = [0, d / 2] := if_neg e
    rw [hcr]
    have hq : ((d : Int) == 1) = false := by rw [beq_eq_false_iff_ne]; omega
    obtain ⟨q, hq2⟩ : ∃ q, q = d / 2 := ⟨_, rfl⟩
    have h1 : Int.tdiv (d : Int) 2 = (q : Int) := by rw [Int.tdiv_eq_ediv_of_nonneg (by omega)]; omega
    have h2 : (d : Int) / 2 = (q : Int) := by omega
    have hr := row_alloc2 w 0 q
    have hb := below_alloc1 w (.cells #[.int .i64 ((0 : Nat) : Int), .int .i64 (q : Int)] 3)
    rw [← hq2]
    have hwq : IntKind.i64.wrap (q : Int) = (q : Int) := wraps_i64 _ (Int.natCast_nonneg _) (by omega)
    clear e hcr hq2
    go_enter Tryd.func52, Tryd.ntmps52
    go_wp2
    go_ret
    exact ⟨_, rfl, Nat.le_refl _, hr, hb⟩

/-- A place less a step, by the size, as the code reckons it. -/
theorem step_place (d p : Nat) (b s : Int) (h0 : 0 < d) (hp : p < d) (hs : s = b.tmod (d : Int)) : -(d : Int) < s ∧ s < (d : Int) ∧ (((p : Nat) : Int) - s + (d : Int)).tmod (d : Int) = (((shX d b).getD p 0 : Nat) : Int) := by
  have h1 : -(d : Int) < s ∧ s < (d : Int) := by
    subst hs
    have h2 := Int.tmod_lt_of_pos b (show (0 : Int) < (d : Int) by omega)
    have h3 := Int.lt_tmod_of_pos b (show (0 : Int) < (d : Int) by omega)
    exact ⟨h3, h2⟩
  refine ⟨h1.1, h1.2, ?_⟩
  rw [Int.tmod_eq_emod_of_nonneg (by omega), shX_get d b p hp]
  have h2 := Int.emod_nonneg (((p : Nat) : Int) - b % (d : Int)) (show (d : Int) ≠ 0 by omega)
  rw [Int.toNat_of_nonneg h2, Int.add_emod_right, Int.sub_emod, Int.sub_emod (p : Int) (b % (d : Int))]
  congr 1
  congr 1
  rw [Int.emod_emod_of_dvd _ (Int.dvd_refl _), hs, Int.tmod_def]
  have : b - (d : Int) * b.tdiv (d : Int) = b + (d : Int) * (- b.tdiv (d : Int)) := by rw [Int.mul_neg]; omega
  rw [this, Int.add_mul_emod_self_left]

set_option maxHeartbeats 1000000 in
theorem seal_placesBefore (w : World) (d : Nat) (b : Int) (h0 : 0 < d) (h9 : d ≤ 1024) (_hb1 : -9223372036854775808 ≤ b) (_hb2 : b ≤ 9223372036854775807) :
    Calls Tryd.prog 57 #[.int .i64 (d : Int), .int .i64 b] w fun e w' => ∃ g, e = .returned (.slice (some ⟨g, 0, none⟩) d d) ∧ w.heap.size ≤ g ∧ RowI w' g (shX d b) ∧ Below w.heap.size w w' := by
  obtain ⟨s, hs⟩ : ∃ s, s = b.tmod (d : Int) := ⟨_, rfl⟩
  have hst : Hid (∀ p, p < d → (((p : Nat) : Int) - s + (d : Int)).tmod (d : Int) = (((shX d b).getD p 0 : Nat) : Int)) := fun p hp => (step_place d p b s h0 hp hs).2.2
  obtain ⟨hs1, hs2, -⟩ := step_place d 0 b s h0 h0 hs
  have hs' : b.tmod (d : Int) = s := hs.symm
  have hdz : ¬ (d : Int) = 0 := by omega
  have hws : IntKind.i64.wrap s = s := by rw [IntKind.wrap_i64]; omega
  have hd10 : d ≤ 1000000000 := by omega
  have hxl : Hid ((shX d b).length = d) := shX_length d b
  have hxt : Hid (∀ p, (shX d b).getD p 0 ≤ 1024) := fun p => by
    rcases Nat.lt_or_ge p (shX d b).length with h | h
    · have := shX_lt d b _ (List.getElem_mem h)
      simp only [List.getD, List.getElem?_eq_getElem h, Option.getD_some]
      omega
    · simp [List.getD, List.getElem?_eq_none h]
  clear hs
  generalize shX d b = L at *
  go_enter Tryd.func57, Tryd.ntmps57
  go_wp2_with (at_make; refine wp_makeI rfl _ _ rfl d rfl rfl hd10 ?_; intro g w2 hge hrI hb)
  have hgw : w.heap.size ≤ g := Nat.le_of_eq hge.out.symm
  clear hge hws hs'
  go_loopw [15] (fun vi wr => ∃ i : Nat, i ≤ d ∧ vi = .int .i64 (i : Int) ∧ RowI wr g (fil L i) ∧ Below w.heap.size w wr)
    (fun vi _ => d - (intOf vi).toNat)
  case atStart => exact ⟨0, Nat.zero_le _, rfl, hrI.cast (by rw [fil_zero, hxl.out]), hb⟩
  case round =>
    clear hrI hb
    obtain ⟨i, hi, rfl, hrI, hb⟩ := hrel
    by_cases hlt : i < d
    · have hck := hrI.cell i (by rw [fil_length, hxl.out]; exact hlt)
      have hfk := hrI.frozen i
      have hset := hrI.set i (L.getD i 0)
      rw [fil_set] at hset
      have hbs := hb.setCell (p := ⟨g, i, none⟩) hgw (.int .i64 ((L.getD i 0 : Nat) : Int))
      have hv := hst.out i hlt
      have hv9 := hxt.out i
      have hwz : IntKind.i64.wrap ((L.getD i 0 : Nat) : Int) = ((L.getD i 0 : Nat) : Int) := wraps_i64 _ (Int.natCast_nonneg _) (by omega)
      clear hrI hb hst hxt
      generalize (fil L i).getD i 0 = old at *
      generalize L.getD i 0 = z at *
      go_wp2
      go_roundw
      case rel => exact ⟨i + 1, by omega, by go_num, hset, hbs⟩
      case measure => simp only [intOf]; omega
    · have e : d = i := by omega
      subst e
      have hge : ¬ d < d := Nat.lt_irrefl _
      have hr2 : RowI wr g L := hrI.cast (by rw [← hxl.out, fil_end])
      clear hrI hst hxt
      go_wp2
      go_ret
      exact ⟨_, rfl, hgw, hr2, hb⟩

set_option maxHeartbeats 2000000 in
theorem seal_withAxis (w : World) (v v2 : Value) (A ch : List Nat) (d : Nat) (h : IsI w v A) (h2 : IsI w v2 ch) (hA : A.length ≤ 1024) (hc : ch.length ≤ 1024) (hA9 : ∀ i, A.getD i 0 ≤ 1024) (hc9 : ∀ i, ch.getD i 0 ≤ 1024) (hd : d ≤ 1024) :
    Calls Tryd.prog 90 #[v, .int .i64 (d : Int), v2] w fun e w' => ∃ u, e = .returned u ∧ IsI w' u (wA A d ch) ∧ Below w.heap.size w w' := by
  obtain ⟨a, cap, rfl, hcap, hmax, hcl⟩ := h
  obtain ⟨a2, cap2, rfl, hcap2, hmax2, hcl2⟩ := h2
  clear hcap hmax hcap2 hmax2
  have hcl' : Hid (∀ (W : World) i, Below w.heap.size w W → i < A.length → ∃ b off, a = some ⟨b, off, none⟩ ∧ W.cell? ⟨b, off + i, none⟩ = some (.int .i64 ((A.getD i 0 : Nat) : Int))) := fun W i hb hi => by
    obtain ⟨b, off, e, hcell⟩ := hcl i hi
    exact ⟨b, off, e, (hb.cell (block_lt hcell)).trans hcell⟩
  have hcl2' : Hid (∀ (W : World) i, Below w.heap.size w W → i < ch.length → ∃ b off, a2 = some ⟨b, off, none⟩ ∧ W.cell? ⟨b, off + i, none⟩ = some (.int .i64 ((ch.getD i 0 : Nat) : Int))) := fun W i hb hi => by
    obtain ⟨b, off, e, hcell⟩ := hcl2 i hi
    exact ⟨b, off, e, (hb.cell (block_lt hcell)).trans hcell⟩
  clear hcl hcl2
  obtain ⟨nm, hnm⟩ : ∃ nm, nm = A.length * ch.length := ⟨_, rfl⟩
  have hmul : (A.length : Int) * (ch.length : Int) = (nm : Int) := by rw [hnm, Int.natCast_mul]
  have hnm9 : nm ≤ 1048576 := by rw [hnm]; exact Nat.mul_le_mul hA hc
  have hz0 : Hid (wB A d ch 0 0 = []) := wB_zero A d ch
  have hzs : Hid (∀ i j, j < ch.length → wB A d ch i (j + 1) = wB A d ch i j ++ [A.getD i 0 * d + ch.getD j 0]) := fun i j hj => wB_step A d ch i j hj
  have hzl : Hid (∀ i, i < A.length → wB A d ch i ch.length = wB A d ch (i + 1) 0) := fun i hi => wB_line A d ch i hi
  have hze : Hid (wB A d ch A.length 0 = wA A d ch) := wB_end A d ch
  have hzn : Hid (∀ i j, (wB A d ch i j).length ≤ 10000000) := fun i j => wB_len A d ch i j hA hc
  have hA9' : Hid (∀ i, A.getD i 0 ≤ 1024) := hA9
  have hc9' : Hid (∀ i, ch.getD i 0 ≤ 1024) := hc9
  clear hnm hA9 hc9
  generalize wA A d ch = R at *
  go_enter Tryd.func90, Tryd.ntmps90
  go_wp2_with (at_make; refine wp_makeI0 rfl _ _ rfl nm _ rfl rfl (by omega) (by omega) ?_; intro u0 w2 hown hb)
  go_loopw [7, 20] (fun vr vi wr => ∃ i : Nat, i ≤ A.length ∧ vi = .int .i64 (i : Int) ∧ wr.ownsRow w.heap.size 3 1 vr (wB A d ch i 0).length (cellsI (wB A d ch i 0)) ∧ Below w.heap.size w wr)
    (fun _ vi _ => A.length - (intOf vi).toNat)
  case atStart => exact ⟨0, Nat.zero_le _, rfl, by rw [hz0.out]; exact hown, hb⟩
  case round =>
    clear hown hb
    obtain ⟨i, hi, rfl, hown, hb⟩ := hrel
    by_cases hlt : i < A.length
    · obtain ⟨bA, oA, rfl, hcA⟩ := hcl'.out wr i hb hlt
      have hx9 := hA9'.out i
      have hline := hzl.out i hlt
      have hline' : Hid (wB A d ch i ch.length = wB A d ch (i + 1) 0) := hline
      clear hline
      have hzs' : Hid (∀ j, j < ch.length → wB A d ch i (j + 1) = wB A d ch i j ++ [A.getD i 0 * d + ch.getD j 0]) := fun j hj => hzs.out i j hj
      generalize A.getD i 0 = x at *
      go_wp2
      go_loopw [7, 26] (fun vr vj wr => ∃ j : Nat, j ≤ ch.length ∧ vj = .int .i64 (j : Int) ∧ wr.ownsRow w.heap.size 3 1 vr (wB A d ch i j).length (cellsI (wB A d ch i j)) ∧ Below w.heap.size w wr)
        (fun _ vj _ => ch.length - (intOf vj).toNat)
      case atStart => exact ⟨0, Nat.zero_le _, rfl, hown, hb⟩
      case round =>
        clear hown hb hcA
        obtain ⟨j, hj, rfl, hown, hb⟩ := hrel
        by_cases hjl : j < ch.length
        · obtain ⟨bc, oc, rfl, hcc⟩ := hcl2'.out wr j hb hjl
          have hy9 := hc9'.out j
          have hnext := hzs'.out j hjl
          have hln := hzn.out i j
          obtain ⟨xd, hxd⟩ : ∃ xd, xd = x * d := ⟨_, rfl⟩
          have hm2 : (x : Int) * (d : Int) = (xd : Int) := by rw [hxd, Int.natCast_mul]
          have hxd9 : xd ≤ 1048576 := by rw [hxd]; exact Nat.mul_le_mul hx9 hd
          rw [← hxd] at hnext
          obtain ⟨z, hz⟩ : ∃ z, z = xd + ch.getD j 0 := ⟨_, rfl⟩
          have hz2 : (xd : Int) + (ch.getD j 0 : Nat) = (z : Int) := by rw [hz]; rfl
          rw [← hz] at hnext
          have hrow : Hid (∀ (w1 : World) (u : Value), w1.ownsRow w.heap.size 3 1 u ((wB A d ch i j).length + 1) (cellsI (wB A d ch i j) ++ [.int .i64 (z : Int)]) → w1.ownsRow w.heap.size 3 1 u (wB A d ch i (j + 1)).length (cellsI (wB A d ch i (j + 1)))) := fun w1 u h => by rw [hnext, cellsI_append, List.length_append]; exact h
          have hz9 : z ≤ 2000000 := by omega
          have hl9 : (wB A d ch i j).length ≤ 1000000000 := by omega
          clear hxd hz hnext hln hzs hzs' hzn hzl hze hcl' hcl2' hA9' hc9' hline'
          generalize ch.getD j 0 = y at *
          go_wp2_with (at_builtin; refine wp_appendI rfl _ _ rfl _ _ _ z rfl hown ?c2 ?c3 hb ?_; rotate_right; intro v' w6 hown6 hnx6)
          case c2 => rfl
          case c3 => exact hl9
          have hown7 := hrow.out _ _ hown6
          clear hown6 hrow hown hb
          go_roundw
          case rel => exact ⟨j + 1, by omega, by go_num, hown7, hnx6⟩
          case measure => simp only [intOf]; omega
        · have e : ch.length = j := by omega
          have hge : ¬ ch.length < ch.length := Nat.lt_irrefl _
          rw [← e, hline'.out] at hown
          have hgj : ¬ j < ch.length := hjl
          clear e hge hzs hzs' hzn hzl hze hcl' hcl2' hA9' hc9' hline'
          go_wp2
          go_roundw
          case rel => exact ⟨i + 1, by omega, by go_num, hown, hb⟩
          case measure => simp only [intOf]; omega
    · have e : A.length = i := by omega
      rw [← e, hze.out] at hown
      have hI := IsI.of_owns hown
      have hgi : ¬ i < A.length := hlt
      clear e hown hzs hzn hzl hze hcl' hcl2' hA9' hc9'
      go_wp2
      go_ret
      exact ⟨_, rfl, hI, hb⟩

set_option maxHeartbeats 4000000 in
theorem seal_numbersAt (w : World) (v v1 : Value) (G cG : Nat) (zs : List Int) (ds xs : List Nat) (ch : Nat → List Nat) (h : IsZ w v zs) (h1 : IsU w v1 xs) (hG : Good zs ds) (hn : prd2 ds ≤ 1024) (hl : xs.length = prd2 ds)
    (hch : ∀ y, y < ds.length → ∃ u, w.cell? ⟨G, y, none⟩ = some u ∧ IsI w u (ch y)) (hcl : ∀ y, y < ds.length → (ch y).length ≤ sz ds y) (hcm : ∀ y, y < ds.length → ∀ p ∈ ch y, p < sz ds y) :
    Calls Tryd.prog 53 #[v1, v, .slice (some ⟨G, 0, none⟩) ds.length cG] w fun e w' => ∃ g n, e = .returned (.slice (some ⟨g, 0, none⟩) n n) ∧ n = ((nA ds ch ds.length).map fun q => fN (xs.getD q 0)).length ∧ n ≤ 1024 ∧ w.heap.size ≤ g ∧ RowU w' g ((nA ds ch ds.length).map fun q => fN (xs.getD q 0)) ∧ Below w.heap.size w w' := by
  have hS : Shp ds := hG.2.2.2
  have hlen : zs.length = ds.length := by rw [hG.2.2.1, List.length_map]
  have hpos : 0 < prd2 ds := prd2_pos hS.pos
  have h3 : ds.length ≤ 3 := by rw [← hlen]; exact hG.2.1
  have h13 : 1 ≤ ds.length := by rw [← hlen]; exact hG.1
  obtain ⟨az, capz, rfl, -, -, hcz, -⟩ := h
  obtain ⟨bz, oz, rfl, -⟩ := hcz 0 (by omega)
  have hcell : Hid (∀ W : World, Below w.heap.size w W → ∀ x, x < ds.length → W.cell? ⟨bz, oz + x, none⟩ = some (.int .i64 ((sz ds x : Nat) : Int)) ∧ sz ds x ≤ 1024) := fun W hb x hx => by
    obtain ⟨b, off, e, hc⟩ := hcz x (by omega)
    simp only [Option.some.injEq, Addr.mk.injEq, and_true] at e
    obtain ⟨rfl, rfl⟩ := e
    rw [(Good_get hG x (by omega)).1] at hc
    exact ⟨(hb.cell (block_lt hc)).trans hc, sz_le hS hn x hx⟩
  have hrx := h1
  obtain ⟨ba, oa, ca, rfl⟩ := h1.placeN hl hpos
  have hcx : Hid (∀ W : World, Below w.heap.size w W → ∀ q, q < prd2 ds → W.cell? ⟨ba, oa + q, none⟩ = some (.int .u64 ((xs.getD q 0 : Nat) : Int))) := fun W hb q hq => (hrx.below hb).cell q (by rw [hl]; exact hq)
  have hxr : Hid (∀ q, ((xs.getD q 0 : Nat) : Int) < 18446744073709551616) := fun q => by
    obtain ⟨_, _, _, _, _, _, hr⟩ := hrx
    exact range_getD hr q
  have hwa : Hid (∀ (W : World) (x : Nat) (u : Value), Below w.heap.size w W → x < ds.length → IsI W u (nA ds ch x) → ∃ u2, W.cell? ⟨G, x, none⟩ = some u2 ∧ Calls Tryd.prog 90 #[u, .int .i64 ((sz ds x : Nat) : Int), u2] W fun e w' => ∃ u', e = .returned u' ∧ IsI w' u' (nA ds ch (x + 1)) ∧ Below W.heap.size W w') := fun W x u hb hx hI => by
    obtain ⟨u2, hc, hI2⟩ := hch x hx
    have hd9 := sz_le hS hn x hx
    have hp9 := prd2_take_le (ds := ds) hS.pos x
    have hln := nA_len hcl x (by omega)
    have hlt := nA_lt hcm x (by omega)
    refine ⟨u2, (hb.cell (block_lt hc)).trans hc, ?_⟩
    refine seal_withAxis W u u2 (nA ds ch x) (ch x) (sz ds x) hI (hI2.below hb) (by omega) (Nat.le_trans (hcl x hx) hd9) (fun i => ?_) (fun i => ?_) hd9
    · rcases Nat.lt_or_ge i (nA ds ch x).length with hi | hi
      · have := hlt _ (List.getElem_mem hi)
        simp only [List.getD, List.getElem?_eq_getElem hi, Option.getD_some]
        omega
      · simp [List.getD, List.getElem?_eq_none hi]
    · rcases Nat.lt_or_ge i (ch x).length with hi | hi
      · have := hcm x hx _ (List.getElem_mem hi)
        simp only [List.getD, List.getElem?_eq_getElem hi, Option.getD_some]
        omega
      · simp [List.getD, List.getElem?_eq_none hi]
  have hzero : Hid (nA ds ch 0 = [0]) := rfl
  have hmap : ((nA ds ch ds.length).map fun q => fN (xs.getD q 0)).length = (nA ds ch ds.length).length := List.length_map _
  have hAl : (nA ds ch ds.length).length ≤ 1024 := by
    have := nA_len hcl ds.length (Nat.le_refl _)
    rw [List.take_length] at this
    omega
  have hAq : Hid (∀ i, i < (nA ds ch ds.length).length → (nA ds ch ds.length).getD i 0 < prd2 ds) := fun i hi => by
    have := nA_lt hcm ds.length (Nat.le_refl _) _ (List.getElem_mem hi)
    rw [List.take_length] at this
    simp only [List.getD, List.getElem?_eq_getElem hi, Option.getD_some]
    exact this
  have hRq : Hid (∀ i, i < (nA ds ch ds.length).length → ((nA ds ch ds.length).map fun q => fN (xs.getD q 0)).getD i 0 = fN (xs.getD ((nA ds ch ds.length).getD i 0) 0)) := fun i hi => by
    simp [List.getD, hi]
  generalize (nA ds ch ds.length).map (fun q => fN (xs.getD q 0)) = R at *
  have hmap' : Hid (R.length = (nA ds ch ds.length).length) := hmap
  rw [hlen]

  clear hcz hG hS hlen hch hcl hcm hl hmap h1 hrx
  obtain ⟨T, hT⟩ : ∃ T, T = nA ds ch ds.length := ⟨_, rfl⟩
  have hT' : Hid (nA ds ch ds.length = T) := hT.symm
  rw [← hT] at hAl hAq hRq hmap'
  clear hT
  generalize prd2 ds = N at *
  generalize hm : ds.length = m at *
  clear hm
  have hr0 := (row_alloc1 w 0).isIN (n := 1) (by decide) rfl
  have hb0 := below_alloc1 w (.cells #[.int .i64 ((0 : Nat) : Int)] 3)
  go_enter Tryd.func53, Tryd.ntmps53
  go_wp2
  go_loopw [7, 16] (fun va vx wr => ∃ x : Nat, x ≤ m ∧ vx = .int .i64 (x : Int) ∧ IsI wr va (nA ds ch x) ∧ Below w.heap.size w wr)
    (fun _ vx _ => m - (intOf vx).toNat)
  case atStart => exact ⟨0, Nat.zero_le _, rfl, hr0, hb0⟩
  case round =>
    clear hr0 hb0
    obtain ⟨x, hx, rfl, hI, hb⟩ := hrel
    by_cases hlt : x < m
    · obtain ⟨hcd, hd9⟩ := hcell.out wr hb x hlt
      obtain ⟨u2, hc2, cA⟩ := hwa.out wr x _ hb hlt hI
      clear hwa hcell hcx hxr hAq hRq hmap' hT'
      generalize sz ds x = d at *
      obtain ⟨av, cv, rfl, -⟩ := hI
      generalize (nA ds ch x).length = lx at *
      go_wp2_with (go_at_call 90; refine Calls.mono cA ?_; rintro e w5 ⟨u5, rfl, hI5, hb5⟩; clear cA)
      have hb6 := hb.trans (hb5.mono hb.size)
      clear hb5 hb hcd hc2
      go_roundw
      case rel => exact ⟨x + 1, by omega, by go_num, hI5, hb6⟩
      case measure => simp only [intOf]; omega
    · have e : m = x := by omega
      subst e
      rw [hT'.out] at hI
      have hgm : ¬ m < m := Nat.lt_irrefl _
      have hI' := hI
      obtain ⟨av, cv, rfl, -, -, hcv⟩ := hI'
      have hn10 : T.length ≤ 1000000000 := by omega
      have hcv' : Hid (∀ W : World, Below wr.heap.size wr W → ∀ i, i < T.length → ∃ b off, av = some ⟨b, off, none⟩ ∧ W.cell? ⟨b, off + i, none⟩ = some (.int .i64 ((T.getD i 0 : Nat) : Int))) := fun W hW i hi => by
        obtain ⟨b, off, e, hc⟩ := hcv i hi
        exact ⟨b, off, e, (hW.cell (block_lt hc)).trans hc⟩
      clear hwa hcell hT' hzero hI hcv
      obtain ⟨w1, hw1⟩ : ∃ w1 : World, w1 = wr := ⟨_, rfl⟩
      rw [← hw1] at hb hcv' ⊢
      clear hw1
      go_wp2_with (at_make; refine wp_makeG rfl _ _ rfl T.length rfl rfl hn10 ?_; intro g w2 hge hrU hb2)
      have hg1 : w1.heap.size ≤ g := Nat.le_of_eq hge.out.symm
      have hgw : w.heap.size ≤ g := Nat.le_trans hb.size hg1
      clear hge
      go_loopw [34] (fun vi wr => ∃ i : Nat, i ≤ T.length ∧ vi = .int .i64 (i : Int) ∧ RowU wr g (fil R i) ∧ Below w1.heap.size w1 wr)
        (fun vi _ => T.length - (intOf vi).toNat)
      case atStart => exact ⟨0, Nat.zero_le _, rfl, hrU.cast (by rw [fil_zero, hmap'.out]), hb2⟩
      case round =>
        clear hrU hb2
        obtain ⟨i, hi, rfl, hrU, hbi⟩ := hrel
        by_cases hlt : i < T.length
        · obtain ⟨bv, ov, rfl, hcT⟩ := hcv'.out wr hbi i hlt
          have hq := hAq.out i hlt
          have hBw := hb.trans (hbi.mono hb.size)
          have hcq := hcx.out wr hBw (T.getD i 0) hq
          have hRi := hRq.out i hlt
          have hck := hrU.cell i (by rw [fil_length, hmap'.out]; exact hlt)
          have hfk := hrU.frozen i
          have hset := hrU.set i (R.getD i 0)
          rw [fil_set] at hset
          have hbs := hbi.setCell (p := ⟨g, i, none⟩) hg1 (.int .u64 ((R.getD i 0 : Nat) : Int))
          have hx64 := hxr.out (T.getD i 0)
          have cN := fun W => field_Norm (xs.getD (T.getD i 0) 0) hx64 W
          rw [hRi] at hset hbs
          clear hrU hbi hBw hRi hAq hRq hcv' hcx hxr hx64 hb
          generalize (fil R i).getD i 0 = old at *
          generalize xs.getD (T.getD i 0) 0 = xv at *
          generalize T.getD i 0 = q at *
          generalize fN xv = z at *
          go_wp2_with (go_at_call 14; refine Calls.mono (cN _) ?_; rintro e w' ⟨rfl, hw⟩; rw [hw]; clear hw)
          go_roundw
          case rel => exact ⟨i + 1, by omega, by go_num, hset, hbs⟩
          case measure => simp only [intOf]; omega
        · have e : T.length = i := by omega
          subst e
          have hge : ¬ T.length < T.length := Nat.lt_irrefl _
          have hr2 : RowU wr g R := hrU.cast (by rw [← hmap'.out, fil_end])
          have hbF := hb.trans (hbi.mono hb.size)
          have hnR : T.length = R.length := hmap'.out.symm
          have hnR' : Hid (T.length = R.length) := hnR
          clear hrU hAq hRq hcv' hcx hxr hnR hmap'
          generalize T.length = n at *
          go_wp2
          go_ret
          exact ⟨g, n, rfl, hnR'.out, hAl, hgw, hr2, hbF⟩

end Go.Proofs.YtgkepflnnoociagDoor
