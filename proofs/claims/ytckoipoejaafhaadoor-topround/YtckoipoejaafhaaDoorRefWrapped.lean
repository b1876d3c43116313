/-
  What Wrapped of package goldref answers: the product round all axes, sum by sum.
-/
import Derived.Test.YtckoipoejaafhaaDoorExWAll
namespace Go.Proofs.YtckoipoejaafhaaDoor
open Go.RowKit
set_option maxRecDepth 100000
theorem mk_setF (n : Nat) (F' : Nat → F) (t : Nat) (v : F) : (mk n F').set t v.val = mk n (fun k => if k = t then v else F' k) := by
  apply List.ext_getElem
  · rw [List.length_set, mk_length, mk_length]
  · intro i h1 h2
    rw [List.getElem_set]
    by_cases e : t = i
    · rw [if_pos e]; simp [mk, e]
    · rw [if_neg e]; simp [mk, Ne.symm e]
def acc (ds : List Nat) (f g : Nat → F) (i j k : Nat) : F :=
  S i (fun a => S (prd2 ds) (fun b => if atN (sz ds) ds.length a b = k then f a * g b else 0)) + S j (fun b => if atN (sz ds) ds.length i b = k then f i * g b else 0)
theorem acc_zero (ds : List Nat) (f g : Nat → F) (k : Nat) : acc ds f g 0 0 k = 0 := by unfold acc; rw [S_zero, S_zero]; grind
theorem acc_line (ds : List Nat) (f g : Nat → F) (i k : Nat) : acc ds f g i (prd2 ds) k = acc ds f g (i + 1) 0 k := by unfold acc; rw [S_succ, S_zero]; grind
theorem acc_end (ds : List Nat) (f g : Nat → F) (k : Nat) : acc ds f g (prd2 ds) 0 k = cyD ds f g k := by unfold acc cyD cyc; rw [S_zero]; grind
theorem acc_step (ds : List Nat) (f g : Nat → F) (i j k : Nat) : acc ds f g i (j + 1) k = if k = atN (sz ds) ds.length i j then acc ds f g i j k + f i * g j else acc ds f g i j k := by
  unfold acc
  rw [S_succ]
  by_cases h : atN (sz ds) ds.length i j = k
  · rw [if_pos h, if_pos h.symm]; grind
  · rw [if_neg h, if_neg (Ne.symm h)]; grind
theorem acc_set (ds xs ys : List Nat) (i j : Nat) (hat : atN (sz ds) ds.length i j < prd2 ds) :
    (mk (prd2 ds) (acc ds (cf xs) (cf ys) i j)).set (atN (sz ds) ds.length i j) (fA ((mk (prd2 ds) (acc ds (cf xs) (cf ys) i j)).getD (atN (sz ds) ds.length i j) 0) (fM (xs.getD i 0) (ys.getD j 0))) = mk (prd2 ds) (acc ds (cf xs) (cf ys) i (j + 1)) := by
  rw [fA_val, mk_getD _ _ _ hat, toF_val, toF_fM, mk_setF]
  refine mk_congr fun k _ => ?_
  rw [acc_step]
  by_cases h : k = atN (sz ds) ds.length i j
  · rw [if_pos h, if_pos h, h]; rfl
  · rw [if_neg h, if_neg h]
def sumP (ds : List Nat) (i j k : Nat) : List Nat := (List.range ds.length).map fun y => if y < k then (plc ds j y + plc ds i y) % sz ds y else plc ds j y
theorem sumP_length (ds : List Nat) (i j k : Nat) : (sumP ds i j k).length = ds.length := by simp [sumP]
theorem sumP_get (ds : List Nat) (i j k y : Nat) (hy : y < ds.length) : (sumP ds i j k).getD y 0 = if y < k then (plc ds j y + plc ds i y) % sz ds y else plc ds j y := by simp [sumP, List.getD, hy]
theorem sumP_zero (ds : List Nat) (i j : Nat) : sumP ds i j 0 = plcs ds j ds.length := by
  unfold sumP plcs
  exact List.map_congr_left fun y _ => if_neg (Nat.not_lt_zero _)
theorem sumP_set (ds : List Nat) (i j k : Nat) : (sumP ds i j k).set k ((plc ds j k + plc ds i k) % sz ds k) = sumP ds i j (k + 1) := by
  apply List.ext_getElem
  · rw [List.length_set, sumP_length, sumP_length]
  · intro y h1 h2
    rw [List.getElem_set]
    by_cases e : k = y
    · rw [if_pos e]; simp [sumP, e]
    · rw [if_neg e]
      simp only [sumP, List.getElem_map, List.getElem_range]
      by_cases h : y < k
      · rw [if_pos h, if_pos (by omega)]
      · rw [if_neg h, if_neg (by omega)]
theorem plf_sum {ds : List Nat} (i j x : Nat) (hx : x ≤ ds.length) : plf ds (sumP ds i j ds.length) x = atN (sz ds) x (i / beh ds x) (j / beh ds x) := by
  induction x with
  | zero => rfl
  | succ x ih =>
    rw [plf, ih (by omega), sumP_get _ _ _ _ _ (by omega), if_pos (by omega), atN, Nat.div_div_eq_div_mul, Nat.div_div_eq_div_mul, ← beh_step ds x (by omega), Nat.add_comm (plc ds j x)]
    rfl
theorem plf_at {ds : List Nat} (i j : Nat) : plf ds (sumP ds i j ds.length) ds.length = atN (sz ds) ds.length i j := by
  rw [plf_sum i j _ (Nat.le_refl _), beh_end, Nat.div_one, Nat.div_one]
set_option maxHeartbeats 8000000 in
theorem ref_Wrapped (w : World) (v v1 v2 : Value) (zs : List Int) (ds xs ys : List Nat) (h : IsZ w v zs) (h1 : IsU w v1 xs) (h2 : IsU w v2 ys) (hG : Good zs ds) (hn : prd2 ds ≤ 1024) (hl1 : xs.length = prd2 ds) (hl2 : ys.length = prd2 ds) :
    Calls Tryd.prog 23 #[v, v1, v2] w fun e w' => ∃ u, e = .returned u ∧ IsU w' u (mk (prd2 ds) (cyD ds (cf xs) (cf ys))) ∧ Below w.heap.size w w' := by
  have hZ := h
  have hA := h1
  have hB := h2
  have hS : Shp ds := hG.2.2.2
  obtain ⟨az, capz, rfl, -, -, hcz, -⟩ := h
  have hlen : zs.length = ds.length := by rw [hG.2.2.1, List.length_map]
  have h13 : 1 ≤ ds.length := by rw [← hlen]; exact hG.1
  have h3 : ds.length ≤ 3 := by rw [← hlen]; exact hG.2.1
  have hpos : 0 < prd2 ds := prd2_pos hS.pos
  obtain ⟨ba, oa, ca, rfl⟩ := h1.placeN hl1 hpos
  obtain ⟨bb, ob, cb, rfl⟩ := h2.placeN hl2 hpos
  have hsz9 : ∀ x, ds.getD x 0 ≤ 1024 := fun x => by
    rcases Nat.lt_or_ge x ds.length with hx | hx
    · exact sz_le hS hn x hx
    · simp [List.getD, List.getElem?_eq_none hx]
  have hpl9 : ∀ k x, k < prd2 ds → plc ds k x ≤ 1024 := fun k x hk => Nat.le_trans (Nat.mod_le _ _) (Nat.le_trans (Nat.div_le_self _ _) (by omega))
  obtain ⟨bz, oz, rfl, -⟩ := hcz 0 (by omega)
  have hcell : Hid (∀ W : World, Below w.heap.size w W → ∀ x, x < ds.length → W.cell? ⟨bz, oz + x, none⟩ = some (.int .i64 ((sz ds x : Nat) : Int)) ∧ 0 < sz ds x ∧ sz ds x ≤ 1024) := fun W hb x hx => by
    obtain ⟨b, off, e, hc⟩ := hcz x (by omega)
    simp only [Option.some.injEq, Addr.mk.injEq, and_true] at e
    obtain ⟨rfl, rfl⟩ := e
    rw [(Good_get hG x (by omega)).1] at hc
    exact ⟨(hb.cell (block_lt hc)).trans hc, P2_pos (hS.at x hx), sz_le hS hn x hx⟩
  have cP : Hid (∀ (W : World) (k : Nat), Below w.heap.size w W → k < prd2 ds → Calls Tryd.prog 50 #[.slice (some ⟨bz, oz, none⟩) zs.length capz, .int .i64 (k : Int)] W fun e w' => ∃ u, e = .returned u ∧ w'.ownsRow W.heap.size 3 1 u ds.length (rowP ds k ds.length) ∧ Below W.heap.size W w') := fun W k hb hk => ref_Places W _ zs ds k (hZ.below hb) hG hn (by omega)
  have cQ : Hid (∀ (W : World) (u : Value) (i j : Nat), Below w.heap.size w W → i < prd2 ds → j < prd2 ds → IsI W u (sumP ds i j ds.length) → Calls Tryd.prog 51 #[.slice (some ⟨bz, oz, none⟩) zs.length capz, u] W fun e w' => e = .returned (.int .i64 ((atN (sz ds) ds.length i j : Nat) : Int)) ∧ ∃ m, w' = W.drewN m) := fun W u i j hb hi hj hU => by
    have := ref_Place W (.slice (some ⟨bz, oz, none⟩) zs.length capz) u zs ds _ (hZ.below hb) hU hG (sumP_length _ _ _ _) hsz9 (fun y => by
      rcases Nat.lt_or_ge y ds.length with hy | hy
      · rw [sumP_get _ _ _ _ _ hy, if_pos hy]
        exact Nat.le_trans (Nat.le_of_lt (Nat.mod_lt _ (P2_pos (hS.at y hy)))) (hsz9 y)
      · rw [List.getD, List.getElem?_eq_none (by rw [sumP_length]; exact hy)]; simp)
    rw [plf_at] at this
    exact this
  have hat : Hid (∀ i j, atN (sz ds) ds.length i j < prd2 ds) := fun i j => by
    have := atN_lt (sz ds) ds.length (fun y hy => P2_pos (hS.at y hy)) i j
    rw [sizN_all] at this
    exact this
  have hset : Hid (∀ i j, (mk (prd2 ds) (acc ds (cf xs) (cf ys) i j)).set (atN (sz ds) ds.length i j) (fA ((mk (prd2 ds) (acc ds (cf xs) (cf ys) i j)).getD (atN (sz ds) ds.length i j) 0) (fM (xs.getD i 0) (ys.getD j 0))) = mk (prd2 ds) (acc ds (cf xs) (cf ys) i (j + 1))) := fun i j => acc_set ds xs ys i j (hat.out i j)
  have hz0 : Hid (List.replicate (prd2 ds) 0 = mk (prd2 ds) (acc ds (cf xs) (cf ys) 0 0)) := by
    show _ = _
    rw [mk_congr (g := fun _ => (0 : F)) fun k _ => acc_zero ds (cf xs) (cf ys) k, mk, List.map_const', List.length_range]; rfl
  have hzl : Hid (∀ i, mk (prd2 ds) (acc ds (cf xs) (cf ys) i (prd2 ds)) = mk (prd2 ds) (acc ds (cf xs) (cf ys) (i + 1) 0)) := fun i => mk_congr fun k _ => acc_line ds (cf xs) (cf ys) i k
  have hze : Hid (mk (prd2 ds) (acc ds (cf xs) (cf ys) (prd2 ds) 0) = mk (prd2 ds) (cyD ds (cf xs) (cf ys))) := mk_congr fun k _ => acc_end ds (cf xs) (cf ys) k
  have hpl9' : Hid (∀ k x, k < prd2 ds → plc ds k x ≤ 1024) := hpl9
  have hmkl : Hid (∀ i j, (mk (prd2 ds) (acc ds (cf xs) (cf ys) i j)).length = prd2 ds) := fun i j => mk_length _ _
  have hmkr : Hid (∀ i j, Rng (mk (prd2 ds) (acc ds (cf xs) (cf ys) i j))) := fun i j => Rng_of_P (mk_lt _ _)
  have hsl : Hid (∀ i j k, (sumP ds i j k).length = ds.length) := fun i j k => sumP_length ds i j k
  have hsg : Hid (∀ i j k, k < ds.length → (sumP ds i j k).getD k 0 = plc ds j k) := fun i j k hk => by rw [sumP_get _ _ _ _ _ hk, if_neg (Nat.lt_irrefl _)]
  have hss : Hid (∀ i j k, (sumP ds i j k).set k ((plc ds j k + plc ds i k) % sz ds k) = sumP ds i j (k + 1)) := fun i j k => sumP_set ds i j k
  have hs0 : Hid (∀ i j, plcs ds j ds.length = sumP ds i j 0) := fun i j => (sumP_zero ds i j).symm
  have hpg : Hid (∀ i k, k < ds.length → (plcs ds i ds.length).getD k 0 = plc ds i k ∧ (plcs ds i ds.length).length = ds.length) := fun i k hk => ⟨by simp [plcs, List.getD, hk], plcs_length _ _ _⟩
  have hl1' : Hid (xs.length = prd2 ds) := hl1
  have hl2' : Hid (ys.length = prd2 ds) := hl2
  have hxr := hA.range
  have hyr := hB.range
  have hn9 : prd2 ds ≤ 1000000000 := by omega
  rw [hlen] at cP cQ ⊢
  clear hG hZ hS hsz9 hpl9 hcz h1 h2 hl1 hl2 hpos hlen
  generalize prd2 ds = N at *
  generalize ds.length = m at *
  go_enter Tryd.func23, Tryd.ntmps23
  go_wp2_with (at_make; refine wp_makeG rfl _ _ rfl N rfl rfl hn9 ?_; intro g w1 hg hrow hb1)
  have hgw : w.heap.size ≤ g := Nat.le_of_eq hg.out.symm
  clear hg
  go_loopw [8] (fun vi wr => ∃ i : Nat, i ≤ N ∧ vi = .int .i64 (i : Int) ∧ RowU wr g (mk N (acc ds (cf xs) (cf ys) i 0)) ∧ Below w.heap.size w wr)
    (fun vi _ => N - (intOf vi).toNat)
  case atStart => exact ⟨0, Nat.zero_le _, rfl, hrow.cast hz0.out, hb1⟩
  case round =>
    clear hrow hb1
    obtain ⟨i, hi, rfl, hrow, hnx⟩ := hrel
    by_cases hlt : i < N
    · have cP1 := cP.out wr i hnx hlt
      have hgl1 := hrow.lt
      go_wp2_with (go_at_call 50; refine Calls.mono cP1 ?_; rintro e w2 ⟨u, rfl, hp, hb⟩; obtain ⟨gp, cp, rfl, hgp, hgl⟩ := hp.form (by omega))
      rw [rowP] at hp
      have hpI := IsI.of_owns hp
      have hgps := own_lt hp rfl
      have hrow2 := hrow.below hb
      have hB2 := hnx.trans (hb.mono hnx.size)
      have hgpg : gp ≠ g := by omega
      clear hp hb hrow hnx cP1
      go_loopw [10] (fun vj wr => ∃ j : Nat, j ≤ N ∧ vj = .int .i64 (j : Int) ∧ RowU wr g (mk N (acc ds (cf xs) (cf ys) i j)) ∧ Bar g w2 wr ∧ Below w.heap.size w wr)
        (fun vj _ => N - (intOf vj).toNat)
      case atStart => exact ⟨0, Nat.zero_le _, rfl, hrow2, Bar.refl _ _, hB2⟩
      case round =>
        clear hrow2 hB2
        obtain ⟨j, hj, rfl, hrow, hbar, hnx⟩ := hrel
        by_cases hltj : j < N
        · have cP2 := cP.out wr j hnx hltj
          obtain ⟨wo, hwo⟩ : ∃ wo : World, wo = wr := ⟨_, rfl⟩
          rw [← hwo] at hrow hbar hnx cP2 ⊢
          clear hwo
          go_wp2_with (go_at_call 50; refine Calls.mono cP2 ?_; rintro e w3 ⟨u3, rfl, hq, hb3⟩; obtain ⟨gq, cq, rfl, hgq, hgql⟩ := hq.form (by omega))
          rw [rowP, hs0.out i j] at hq
          go_loopw [12] (fun vk wr => ∃ k : Nat, k ≤ m ∧ vk = .int .i64 (k : Int) ∧ wr.ownsRow wo.heap.size 3 1 (.slice (some ⟨gq, 0, none⟩) m cq) m (cellsI (sumP ds i j k)) ∧ Below wo.heap.size wo wr)
            (fun vk _ => m - (intOf vk).toNat)
          case atStart => exact ⟨0, Nat.zero_le _, rfl, hq, hb3⟩
          case round =>
            clear hq hb3
            obtain ⟨k, hk, rfl, hq, hnk⟩ := hrel
            have hBw : Below w.heap.size w wr := hnx.trans (hnk.mono hnx.size)
            by_cases hkm : k < m
            · obtain ⟨cz, hd0, hd9⟩ := hcell.out wr hBw k hkm
              have hcq := hq.cellAt k (by omega)
              rw [cellsI_get _ k (by rw [hsl.out]; exact hkm), hsg.out i j k hkm] at hcq
              have hfq := hq.frozenAt k
              have hst := hq.stored k (.int .i64 (((plc ds j k + plc ds i k) % sz ds k : Nat) : Int))
              rw [cellsI_set, hss.out] at hst
              have hst1 := hst.1
              have hB3 := hnk.grown hst.2 hnk.size (fun t ht => by simp at ht; omega)
              have hgpo : gp < wo.heap.size := Nat.lt_of_lt_of_le hgps hbar.size
              have hpI2 := (hpI.bar hgps hgpg hbar).block (hnk.block gp hgpo)
              have hcp := hpI2.cellAt k (by rw [(hpg.out i k hkm).2]; exact hkm)
              rw [(hpg.out i k hkm).1] at hcp
              have hj9 := hpl9'.out j k hltj
              have hi9 := hpl9'.out i k hlt
              have hrem : Int.tmod (((plc ds j k : Nat) : Int) + ((plc ds i k : Nat) : Int)) ((sz ds k : Nat) : Int) = (((plc ds j k + plc ds i k) % sz ds k : Nat) : Int) := by rw [Int.tmod_eq_emod_of_nonneg (by omega), ← Int.natCast_add, ← Int.natCast_emod]
              have hrem' : (((plc ds j k : Nat) : Int) + ((plc ds i k : Nat) : Int)) % ((sz ds k : Nat) : Int) = (((plc ds j k + plc ds i k) % sz ds k : Nat) : Int) := by rw [← Int.natCast_add, ← Int.natCast_emod]
              have hr9 : (plc ds j k + plc ds i k) % sz ds k ≤ 1024 := Nat.le_trans (Nat.le_of_lt (Nat.mod_lt _ hd0)) hd9
              have hwz : IntKind.i64.wrap (((plc ds j k + plc ds i k) % sz ds k : Nat) : Int) = (((plc ds j k + plc ds i k) % sz ds k : Nat) : Int) := wraps_i64 _ (Int.natCast_nonneg _) (by omega)
              have hdz : ¬ sz ds k = 0 := by omega
              clear hq hst hnk hBw hpI2 hpI hrow hbar hnx cP cQ hcell hss
              generalize (plc ds j k + plc ds i k) % sz ds k = z at *
              generalize plc ds j k = pj at *
              generalize plc ds i k = pi at *
              generalize sz ds k = d at *
              go_wp2
              go_region
              go_wp2
              go_roundw
              case rel => exact ⟨k + 1, by omega, by go_num, hst1, ⟨hB3.os, hB3.tape, hB3.output, hB3.size, hB3.block⟩⟩
              case measure => simp only [intOf]; omega
            · have e : m = k := by omega
              subst e
              have cQ1 := cQ.out wr _ i j hBw hlt hltj (IsI.of_owns hq)
              have hatN := hat.out i j
              have hge : m ≤ m := Nat.le_refl _
              have hst := hset.out i j
              have cM := ref_Mul (xs.getD i 0) (ys.getD j 0)
              have cA := ref_Add ((mk N (acc ds (cf xs) (cf ys) i j)).getD (atN (sz ds) m i j) 0) (fM (xs.getD i 0) (ys.getD j 0))
              generalize atN (sz ds) m i j = pl at *
              go_wp2_with (go_at_call 51; refine Calls.mono cQ1 ?_; rintro e w5 ⟨rfl, hw5⟩)
              have hn5 : Below wo.heap.size wo w5 := hnk.trans (below_dr hw5 _)
              have hrow5 := hrow.below hn5
              have hBw5 : Below w.heap.size w w5 := hnx.trans (hn5.mono hnx.size)
              have cellA := (hA.below hBw5).cell i (by rw [hl1'.out]; exact hlt)
              have cellB := (hB.below hBw5).cell j (by rw [hl2'.out]; exact hltj)
              have cellO := hrow5.cell pl (by rw [hmkl.out]; exact hatN)
              have frO := hrow5.frozen pl
              have hset5 : Hid (∀ n : Nat, RowU ((w5.drewN n).setCell ⟨g, pl, none⟩ (.int .u64 ((fA ((mk N (acc ds (cf xs) (cf ys) i j)).getD pl 0) (fM (xs.getD i 0) (ys.getD j 0)) : Nat) : Int))) g (mk N (acc ds (cf xs) (cf ys) i (j + 1)))) := fun n => ((hrow5.drewN n).set pl _).cast hst
              have hbar5 : Bar g w2 w5 := hbar.trans (Bar.of_below hn5)
              clear hw5 hn5 hrow5 hrow hbar hnx hnk hBw hq cQ1 cP cQ hcell hst hset hA hB hpI hxr hyr
              generalize fA ((mk N (acc ds (cf xs) (cf ys) i j)).getD pl 0) (fM (xs.getD i 0) (ys.getD j 0)) = y at *
              generalize fM (xs.getD i 0) (ys.getD j 0) = p at *
              generalize (mk N (acc ds (cf xs) (cf ys) i j)).getD pl 0 = old at *
              generalize xs.getD i 0 = va at *
              generalize ys.getD j 0 = vb at *
              go_region_with (first
                | (go_at_call 53; refine Calls.mono (cM _) ?_; rintro e w' ⟨rfl, hw⟩; rw [hw]; clear hw)
                | (go_at_call 52; refine Calls.mono (cA _) ?_; rintro e w' ⟨rfl, hw⟩; rw [hw]; clear hw))
              all_goals
                clear cellA cellB cellO frO
                go_wp2
                go_roundw
                case rel => exact ⟨j + 1, by omega, by go_num, hset5.out 1, (hbar5.drewN 1).setCell _ _, Bar.fresh hBw5 hgw (((Bar.refl g w5).drewN 1).setCell _ _)⟩
                case measure => simp only [intOf]; omega
        · have e : N = j := by omega
          subst e
          rw [hzl.out] at hrow
          have hge : N ≤ N := Nat.le_refl _
          clear hbar cP cQ hcell
          go_wp2
          go_roundw
          case rel => exact ⟨i + 1, by omega, by go_num, hrow, hnx⟩
          case measure => simp only [intOf]; omega
    · have e : N = i := by omega
      subst e
      have hU := (hrow.isUN (hmkr.out _ _) (by rw [hmkl.out]; omega) (hmkl.out _ _)).cast hze.out
      have hge : N ≤ N := Nat.le_refl _
      clear cP cQ hcell hrow
      go_wp2
      go_ret
      exact ⟨_, rfl, hU, hnx⟩
end Go.Proofs.YtckoipoejaafhaaDoor
