/-
  What Shifted of package goldref answers: an array shifted round all axes.
-/
import Derived.Test.YtgkepflnnoociacDoorRefTurned
import Derived.Test.YtgkepflnnoociacDoorRefRest
import Derived.Test.YtgkepflnnoociacDoorSealM
import Derived.Test.YtgkepflnnoociacDoorSlRow
namespace Go.Proofs.YtgkepflnnoociacDoor
open Go.RowKit

/-- The numbers of the shifted array. -/
def shF (ds : List Nat) (bs : List Int) (xs : List Nat) (k : Nat) : F := cf xs (shN ds bs k)
set_option maxHeartbeats 8000000 in
theorem ref_Shifted (w : World) (v v1 v2 : Value) (zs bs : List Int) (ds xs : List Nat) (h : IsZ w v zs) (h1 : IsU w v1 xs) (h2 : IsZ w v2 bs) (hG : Good zs ds) (hn : prd2 ds ≤ 1024) (hl1 : xs.length = prd2 ds) (hl2 : bs.length = ds.length) :
    Calls Tryd.prog 31 #[v, v1, v2] w fun e w' => ∃ u, e = .returned u ∧ IsU w' u (mk (prd2 ds) (shF ds bs xs)) ∧ Below w.heap.size w w' := by
  have hZ := h
  have hA := h1
  have hS : Shp ds := hG.2.2.2
  obtain ⟨az, capz, rfl, -, -, hcz, -⟩ := h
  obtain ⟨ab, capb, rfl, -, -, hcb, hrb⟩ := h2
  have hlen : zs.length = ds.length := by rw [hG.2.2.1, List.length_map]
  have h13 : 1 ≤ ds.length := by rw [← hlen]; exact hG.1
  have h3 : ds.length ≤ 3 := by rw [← hlen]; exact hG.2.1
  have hpos : 0 < prd2 ds := prd2_pos hS.pos
  obtain ⟨ba, oa, ca, rfl⟩ := h1.placeN hl1 hpos
  have hsz9 : ∀ x, ds.getD x 0 ≤ 1024 := fun x => by
    rcases Nat.lt_or_ge x ds.length with hx | hx
    · exact sz_le hS hn x hx
    · simp [List.getD, List.getElem?_eq_none hx]
  obtain ⟨bz, oz, rfl, -⟩ := hcz 0 (by omega)
  obtain ⟨bb, ob, rfl, -⟩ := hcb 0 (by omega)
  have hcell : Hid (∀ W : World, Below w.heap.size w W → ∀ x, x < ds.length → W.cell? ⟨bz, oz + x, none⟩ = some (.int .i64 ((sz ds x : Nat) : Int)) ∧ W.cell? ⟨bb, ob + x, none⟩ = some (.int .i64 (bs.getD x 0)) ∧ 0 < sz ds x ∧ sz ds x ≤ 1024) := fun W hb x hx => by
    obtain ⟨b, off, e, hc⟩ := hcz x (by omega)
    simp only [Option.some.injEq, Addr.mk.injEq, and_true] at e
    obtain ⟨rfl, rfl⟩ := e
    rw [(Good_get hG x (by omega)).1] at hc
    obtain ⟨b', off', e', hc'⟩ := hcb x (by omega)
    simp only [Option.some.injEq, Addr.mk.injEq, and_true] at e'
    obtain ⟨rfl, rfl⟩ := e'
    exact ⟨(hb.cell (block_lt hc)).trans hc, (hb.cell (block_lt hc')).trans hc', P2_pos (hS.at x hx), sz_le hS hn x hx⟩
  have cP : Hid (∀ (W : World) (k : Nat), Below w.heap.size w W → k < prd2 ds → Calls Tryd.prog 62 #[.slice (some ⟨bz, oz, none⟩) zs.length capz, .int .i64 (k : Int)] W fun e w' => ∃ u, e = .returned u ∧ w'.ownsRow W.heap.size 3 1 u ds.length (rowP ds k ds.length) ∧ Below W.heap.size W w') := fun W k hb hk => ref_Places W _ zs ds k (hZ.below hb) hG hn (by omega)
  have cQ : Hid (∀ (W : World) (u : Value) (k : Nat), Below w.heap.size w W → IsI W u (shP ds bs k ds.length) → Calls Tryd.prog 65 #[.slice (some ⟨bz, oz, none⟩) zs.length capz, u] W fun e w' => e = .returned (.int .i64 ((shN ds bs k : Nat) : Int)) ∧ ∃ m, w' = W.drewN m) := fun W u k hb hU =>
    ref_Place W (.slice (some ⟨bz, oz, none⟩) zs.length capz) u zs ds _ (hZ.below hb) hU hG (shP_length _ _ _ _) hsz9 (fun y => by
      rcases Nat.lt_or_ge y ds.length with hy | hy
      · have h1 := shP_lt hS bs k y hy
        have h2 := hsz9 y
        unfold sz at h1
        omega
      · rw [List.getD, List.getElem?_eq_none (by rw [shP_length]; exact hy)]; simp)
  have hat : Hid (∀ k, shN ds bs k < prd2 ds) := fun k => shN_lt hS bs k
  have hpl9 : Hid (∀ k x, x < ds.length → plc ds k x ≤ 1024) := fun k x hx => by have := plc_lt hS k x hx; have := sz_le hS hn x hx; omega
  have hsy : Hid (∀ k y, y < ds.length → (((plc ds k y : Nat) : Int) - bs.getD y 0 % (sz ds y : Int)) % (sz ds y : Int) = ((shY ds bs k y : Nat) : Int) ∧ shY ds bs k y ≤ 1024) := fun k y hy => ⟨(shY_int hS bs k y hy).symm, by have := shY_lt hS bs k y hy; have := sz_le hS hn y hy; omega⟩
  have hsl : Hid (∀ k x, (shP ds bs k x).length = ds.length) := fun k x => shP_length ds bs k x
  have hsg : Hid (∀ k x, x < ds.length → (shP ds bs k x).getD x 0 = plc ds k x) := fun k x hx => by rw [shP_get _ _ _ _ _ hx, if_neg (Nat.lt_irrefl _)]
  have hss : Hid (∀ k x, (shP ds bs k x).set x (shY ds bs k x) = shP ds bs k (x + 1)) := fun k x => shP_set ds bs k x
  have hs0 : Hid (∀ k, plcs ds k ds.length = shP ds bs k 0) := fun k => (shP_zero ds bs k).symm
  have hbr : Hid (∀ y, y < ds.length → -9223372036854775808 ≤ bs.getD y 0 ∧ bs.getD y 0 ≤ 9223372036854775807) := fun y hy => hrb _ (by rw [List.getD, List.getElem?_eq_getElem (by omega)]; exact List.getElem_mem _)
  have hl1' : Hid (xs.length = prd2 ds) := hl1
  have hxr := hA.range
  have hn9 : prd2 ds ≤ 1000000000 := by omega
  rw [hlen] at cP cQ ⊢
  rw [hl2]
  clear hG hZ hS hsz9 hcz hcb hrb h1 hl1 hl2 hpos hlen
  generalize prd2 ds = N at *
  generalize hm : ds.length = m at *
  clear hm
  go_enter Tryd.func31, Tryd.ntmps31
  go_wp2
  go_loopw [7, 8] (fun vo vk wr => ∃ k : Nat, k ≤ N ∧ vk = .int .i64 (k : Int) ∧ wr.ownsRow w.heap.size 47 1 vo k (rowK k (shF ds bs xs)) ∧ Below w.heap.size w wr)
    (fun _ vk _ => N - (intOf vk).toNat)
  case atStart => exact ⟨0, Nat.zero_le _, rfl, World.ownsRow_nil _ _ _ _, Below.refl _ _⟩
  case round =>
    obtain ⟨k, hk, rfl, hown, hnx⟩ := hrel
    by_cases hlt : k < N
    · have cP1 := cP.out wr k hnx hlt
      obtain ⟨wo, hwo⟩ : ∃ wo : World, wo = wr := ⟨_, rfl⟩
      rw [← hwo] at hown hnx cP1 ⊢
      clear hwo
      go_wp2_with (go_at_call 62; refine Calls.mono cP1 ?_; rintro e w3 ⟨u3, rfl, hq, hb3⟩; obtain ⟨gq, cq, rfl, hgq, hgql⟩ := hq.form (by omega))
      rw [rowP, hs0.out k] at hq
      clear cP1
      go_loopw [10] (fun vy wr => ∃ y : Nat, y ≤ m ∧ vy = .int .i64 (y : Int) ∧ wr.ownsRow wo.heap.size 3 1 (.slice (some ⟨gq, 0, none⟩) m cq) m (cellsI (shP ds bs k y)) ∧ Below wo.heap.size wo wr)
        (fun vy _ => m - (intOf vy).toNat)
      case atStart => exact ⟨0, Nat.zero_le _, rfl, hq, hb3⟩
      case round =>
        clear hq hb3
        obtain ⟨y, hy, rfl, hq, hnk⟩ := hrel
        have hBw : Below w.heap.size w wr := hnx.trans (hnk.mono hnx.size)
        by_cases hym : y < m
        · obtain ⟨cz, cb, hd0, hd9⟩ := hcell.out wr hBw y hym
          have hcq := hq.cellAt y (by omega)
          rw [cellsI_get _ y (by rw [hsl.out]; exact hym), hsg.out k y hym] at hcq
          have hfq := hq.frozenAt y
          have hst := hq.stored y (.int .i64 ((shY ds bs k y : Nat) : Int))
          rw [cellsI_set, hss.out] at hst
          have hst1 := hst.1
          have hB3 := hnk.grown hst.2 hnk.size (fun t ht => by simp at ht; omega)
          have hp9 := hpl9.out k y hym
          obtain ⟨hsy1, hsy2⟩ := hsy.out k y hym
          have hbb := hbr.out y hym
          have hr1 := Int.emod_lt_of_pos (bs.getD y 0) (show (0 : Int) < (sz ds y : Int) by omega)
          have hr2 := Int.emod_nonneg (bs.getD y 0) (show (sz ds y : Int) ≠ 0 by omega)
          have cR1 := fun (W : World) => ref_Rest (bs.getD y 0) (sz ds y : Int) (by omega) (by omega) W
          have cR2 := fun (W : World) => ref_Rest (((plc ds k y : Nat) : Int) - bs.getD y 0 % (sz ds y : Int)) (sz ds y : Int) (by omega) (by omega) W
          rw [hsy1] at cR2
          clear hsy1 hq hst hnk hBw hown hnx cP cQ hcell hss hsy
          generalize shY ds bs k y = z at *
          generalize plc ds k y = p at *
          generalize bs.getD y 0 % (sz ds y : Int) = r at *
          generalize bs.getD y 0 = b at *
          generalize sz ds y = d at *
          have hwz : IntKind.i64.wrap ((p : Int) - r) = (p : Int) - r := by rw [IntKind.wrap_i64]; omega
          go_wp2
          go_region_with (first
            | (go_at_call 63; refine Calls.mono (cR1 _) ?_; rintro e w' ⟨rfl, hw⟩; rw [hw]; clear hw cR1)
            | (go_at_call 63; refine Calls.mono (cR2 _) ?_; rintro e w' ⟨rfl, hw⟩; rw [hw]; clear hw))
          all_goals
            go_wp2
            go_roundw
            case rel => exact ⟨y + 1, by omega, by go_num, hst1, ⟨hB3.os, hB3.tape, hB3.output, hB3.size, hB3.block⟩⟩
            case measure => simp only [intOf]; omega
        · have e : m = y := by omega
          subst e
          have cQ1 := cQ.out wr _ k hBw (IsI.of_owns hq)
          have hatN := hat.out k
          have hge : ¬ m < m := Nat.lt_irrefl _
          have hnew := rowK_succ k (shF ds bs xs)
          have hz : Hid ((shF ds bs xs k).val = fN (xs.getD (shN ds bs k) 0)) := by show _ = _; rw [fN_val]; rfl
          rw [hz.out] at hnew
          have hrow : Hid (∀ (w1 : World) (u : Value), w1.ownsRow w.heap.size 47 1 u (k + 1) (rowK k (shF ds bs xs) ++ [.int .u64 ((fN (xs.getD (shN ds bs k) 0) : Nat) : Int)]) → w1.ownsRow w.heap.size 47 1 u (k + 1) (rowK (k + 1) (shF ds bs xs))) := fun w1 u h => by rw [hnew]; exact h
          have cN := ref_Norm (xs.getD (shN ds bs k) 0)
          have cA : Hid (∀ W : World, Below w.heap.size w W → W.cell? ⟨ba, oa + shN ds bs k, none⟩ = some (.int .u64 ((xs.getD (shN ds bs k) 0 : Nat) : Int))) := fun W hW => (hA.below hW).cell (shN ds bs k) (by rw [hl1'.out]; exact hatN)
          have hxg := range_getD hxr (shN ds bs k)
          have hown4 := owns_below hown hnk
          have hk9 : k ≤ 1000000000 := by omega
          clear hnew hz hown hq hnk hnx cP cQ hcell hss hsy hat hA
          generalize xs.getD (shN ds bs k) 0 = x at *
          generalize fN x = fx at *
          generalize shN ds bs k = pl at *
          go_wp2_with (first
            | (go_at_call 65; refine Calls.mono cQ1 ?_; rintro e w5 ⟨rfl, hw5⟩; clear cQ1; have hb5 : Below wr.heap.size wr w5 := below_dr hw5 _; have hB5 := hBw.trans (hb5.mono hBw.size); have hcx := cA.out w5 hB5; have hown5 := owns_below hown4 hb5; clear hown4 hw5 hb5 hBw cA)
            | (go_at_call 64; refine Calls.mono (cN _) ?_; rintro e w' ⟨rfl, hw⟩; rw [hw]; clear hw)
            | (at_builtin; refine wp_append1 rfl _ _ rfl _ _ _ _ rfl hown5 rfl ?c3 hB5 ?_; rotate_right; intro v' w6 hown6 hnx6))
          case c3 => exact hk9
          have hown7 := hrow.out _ _ hown6
          clear hown6 hrow hown5 hB5
          go_roundw
          case rel => exact ⟨k + 1, by omega, by go_num, hown7, hnx6⟩
          case measure => simp only [intOf]; omega
    · have e : N = k := by omega
      subst e
      have hU := rowK_isU hown
      have hge : ¬ N < N := Nat.lt_irrefl _
      have hUg := hU
      obtain ⟨au, cu, rfl, -⟩ := hUg
      clear cP cQ hcell hown hss hsy
      go_wp2
      go_ret
      exact ⟨_, rfl, hU, hnx⟩

end Go.Proofs.YtgkepflnnoociacDoor
