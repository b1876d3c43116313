/-
  What Corners of package goldref answers: the numbers of the transform at the corners.
-/
import Derived.Test.YtgkepflnnoociacDoorRefWhole
import Derived.Test.YtgkepflnnoociacDoorSealM
import Derived.Test.YtgkepflnnoociacDoorSlRow
import Derived.BigQuiet
namespace Go.Proofs.YtgkepflnnoociacDoor
open Go.RowKit

/-- The transform's numbers at the corners ahead of k. -/
def crV (ds xs : List Nat) (k : Nat) : List Nat := (crs ds k).map fun q => (who ds false (cf xs) ds.length q).val
theorem crV_succ (ds xs : List Nat) (k : Nat) : crV ds xs (k + 1) = if Crn ds k then crV ds xs k ++ [(who ds false (cf xs) ds.length k).val] else crV ds xs k := by
  unfold crV
  rw [crs_succ]
  by_cases h : Crn ds k
  · rw [if_pos h, if_pos h, List.map_append]; rfl
  · rw [if_neg h, if_neg h]
theorem crV_rng (ds xs : List Nat) (k : Nat) : ∀ x ∈ crV ds xs k, (x : Int) < 18446744073709551616 := fun x hx => by
  obtain ⟨q, _, rfl⟩ := List.mem_map.mp hx
  have := val_lt (who ds false (cf xs) ds.length q)
  unfold P at this
  omega
theorem crV_len (ds xs : List Nat) (k : Nat) : (crV ds xs k).length ≤ k := by
  unfold crV crs
  rw [List.length_map]
  have := List.length_filter_le (fun k => decide (Crn ds k)) (List.range k)
  rw [List.length_range] at this
  exact this
/-- The first y places are a corner's. -/
def CrK (ds : List Nat) (k y : Nat) : Prop := ∀ t, t < y → CrY ds k t
instance (ds : List Nat) (k y : Nat) : Decidable (CrK ds k y) := by unfold CrK; infer_instance
theorem crK_zero (ds : List Nat) (k : Nat) : decide (CrK ds k 0) = true := decide_eq_true fun t ht => absurd ht (by omega)
theorem crK_succ (ds : List Nat) (k y : Nat) : decide (CrK ds k (y + 1)) = (decide (CrK ds k y) && decide (CrY ds k y)) := by
  rw [Bool.eq_iff_iff, Bool.and_eq_true, decide_eq_true_eq, decide_eq_true_eq, decide_eq_true_eq]
  constructor
  · intro h; exact ⟨fun t ht => h t (by omega), h y (by omega)⟩
  · rintro ⟨h1, h2⟩ t ht
    rcases Nat.lt_or_ge t y with q | q
    · exact h1 t q
    · obtain rfl : t = y := by omega
      exact h2
set_option maxHeartbeats 8000000 in
set_option maxRecDepth 100000 in
theorem ref_Corners (w : World) (v v1 : Value) (zs : List Int) (ds xs : List Nat) (h : IsZ w v zs) (h1 : IsU w v1 xs) (hG : Good zs ds) (hn : prd2 ds ≤ 1024) (hl1 : xs.length = prd2 ds) :
    Calls Tryd.prog 30 #[v, v1] w fun e w' => ∃ u, e = .returned u ∧ IsU w' u (crV ds xs (prd2 ds)) ∧ Below w.heap.size w w' := by
  have hZ := h
  have hS : Shp ds := hG.2.2.2
  have cW := ref_Whole w v v1 zs ds xs false h h1 hG hn hl1
  obtain ⟨az, capz, rfl, -, -, hcz, -⟩ := h
  have hlen : zs.length = ds.length := by rw [hG.2.2.1, List.length_map]
  have h13 : 1 ≤ ds.length := by rw [← hlen]; exact hG.1
  have h3 : ds.length ≤ 3 := by rw [← hlen]; exact hG.2.1
  have hpos : 0 < prd2 ds := prd2_pos hS.pos
  obtain ⟨ba, oa, ca, rfl⟩ := h1.placeN hl1 hpos
  obtain ⟨bz, oz, rfl, -⟩ := hcz 0 (by omega)
  have hcell : Hid (∀ W : World, Below w.heap.size w W → ∀ x, x < ds.length → W.cell? ⟨bz, oz + x, none⟩ = some (.int .i64 ((sz ds x : Nat) : Int)) ∧ 0 < sz ds x ∧ sz ds x ≤ 1024) := fun W hb x hx => by
    obtain ⟨b, off, e, hc⟩ := hcz x (by omega)
    simp only [Option.some.injEq, Addr.mk.injEq, and_true] at e
    obtain ⟨rfl, rfl⟩ := e
    rw [(Good_get hG x (by omega)).1] at hc
    exact ⟨(hb.cell (block_lt hc)).trans hc, P2_pos (hS.at x hx), sz_le hS hn x hx⟩
  have cP : Hid (∀ (W : World) (k : Nat), Below w.heap.size w W → k < prd2 ds → Calls Tryd.prog 62 #[.slice (some ⟨bz, oz, none⟩) zs.length capz, .int .i64 (k : Int)] W fun e w' => ∃ u, e = .returned u ∧ w'.ownsRow W.heap.size 3 1 u ds.length (rowP ds k ds.length) ∧ Below W.heap.size W w') := fun W k hb hk => ref_Places W _ zs ds k (hZ.below hb) hG hn (by omega)
  have hpl9 : Hid (∀ k x, x < ds.length → plc ds k x ≤ 1024) := fun k x hx => by have := plc_lt hS k x hx; have := sz_le hS hn x hx; omega
  have hpg : Hid (∀ k y, y < ds.length → (rowP ds k ds.length)[y]? = some (.int .i64 ((plc ds k y : Nat) : Int))) := fun k y hy => by
    unfold rowP
    rw [cellsI_get _ y (by rw [plcs_length]; exact hy)]
    congr 3
    simp [plcs, List.getD, hy]
  have hcK : Hid (∀ k, decide (CrK ds k ds.length) = decide (Crn ds k)) := fun k => rfl
  have hn9 : prd2 ds ≤ 1000000000 := by omega
  have hmkl : Hid ((mk (prd2 ds) (who ds false (cf xs) ds.length)).length = prd2 ds) := mk_length _ _
  have hmkg : Hid (∀ k, k < prd2 ds → (mk (prd2 ds) (who ds false (cf xs) ds.length)).getD k 0 = (who ds false (cf xs) ds.length k).val) := fun k hk => mk_getD _ _ _ hk
  have hcs : Hid (∀ k, crV ds xs (k + 1) = if Crn ds k then crV ds xs k ++ [(who ds false (cf xs) ds.length k).val] else crV ds xs k) := fun k => crV_succ ds xs k
  rw [hlen] at cP cW ⊢
  clear hG hZ hS hcz h1 hl1 hlen
  generalize prd2 ds = N at *
  generalize hm : ds.length = m at *
  clear hm
  generalize who ds false (cf xs) m = F0 at *
  go_enter Tryd.func30, Tryd.ntmps30
  go_wp2_with (go_at_call 20; refine Calls.mono cW ?_; rintro e w1 ⟨ub, rfl, hUb, hb1⟩; clear cW; obtain ⟨bu, ou, cu, rfl⟩ := hUb.placeN hmkl.out hpos)
  go_loopw [6, 7] (fun vo vk wr => ∃ k : Nat, k ≤ N ∧ vk = .int .i64 (k : Int) ∧ Ow w1.heap.size wr vo (crV ds xs k) ∧ Below w1.heap.size w1 wr)
    (fun _ vk _ => N - (intOf vk).toNat)
  case atStart => exact ⟨0, Nat.zero_le _, rfl, Ow.nil _ _, Below.refl _ _⟩
  case round =>
    obtain ⟨k, hk, rfl, hown, hnx⟩ := hrel
    by_cases hlt : k < N
    · have hBw : Below w.heap.size w wr := hb1.trans (hnx.mono hb1.size)
      have cP1 := cP.out wr k hBw hlt
      obtain ⟨wo, hwo⟩ : ∃ wo : World, wo = wr := ⟨_, rfl⟩
      rw [← hwo] at hown hnx cP1 hBw ⊢
      clear hwo
      go_wp2_with (go_at_call 62; refine Calls.mono cP1 ?_; rintro e w3 ⟨u3, rfl, hq, hb3⟩; obtain ⟨gq, cq, rfl, hgq, hgql⟩ := hq.form (by omega))
      clear cP1
      go_loopw [9, 10] (fun vb vy wr => ∃ y : Nat, y ≤ m ∧ vy = .int .i64 (y : Int) ∧ vb = .bool (decide (CrK ds k y)) ∧ wr.ownsRow wo.heap.size 3 1 (.slice (some ⟨gq, 0, none⟩) m cq) m (rowP ds k m) ∧ Below wo.heap.size wo wr)
        (fun _ vy _ => m - (intOf vy).toNat)
      case atStart => exact ⟨0, Nat.zero_le _, rfl, by rw [crK_zero], hq, hb3⟩
      case round =>
        clear hq hb3
        obtain ⟨y, hy, rfl, rfl, hq, hnk⟩ := hrel
        have hBr : Below w.heap.size w wr := hBw.trans (hnk.mono hBw.size)
        by_cases hym : y < m
        · obtain ⟨cz, hd0, hd9⟩ := hcell.out wr hBr y hym
          have hcq := hq.cellAt y (by omega)
          rw [hpg.out k y hym] at hcq
          have hp9 := hpl9.out k y hym
          have hnext := crK_succ ds k y
          have hnext' : Hid (decide (CrK ds k (y + 1)) = (decide (CrK ds k y) && decide (CrY ds k y))) := hnext
          have hcr : Hid (CrY ds k y ↔ (plc ds k y = 0 ∨ 2 * plc ds k y = sz ds y)) := Iff.rfl
          clear hnext hown hnx cP hcell hBr
          generalize decide (CrK ds k y) = bk at *
          generalize plc ds k y = p at *
          generalize sz ds y = d at *
          cases bk with
          | false =>
            have hd : Hid (decide (CrK ds k (y + 1)) = false) := by show _ = _; rw [hnext'.out, Bool.false_and]
            clear hcr hnext'
            go_wp2
            go_quiet (fail)
            have hbq := below_drewN (Below.refl wr.heap.size wr) nq
            have hq2 := owns_below hq hbq
            have hnk2 := hnk.trans (hbq.mono hnk.size)
            clear hq hnk hbq hcq cz
            generalize wr.drewN nq = w7 at *
            go_wp2
            go_roundw
            case rel => exact ⟨y + 1, by omega, by go_num, by rw [hd.out], hq2, hnk2⟩
            case measure => simp only [intOf]; omega
          | true =>
            by_cases hp0 : p = 0
            · have hd : Hid (decide (CrK ds k (y + 1)) = true) := by show _ = _; rw [hnext'.out, Bool.true_and]; exact decide_eq_true (hcr.out.mpr (.inl hp0))
              have hpz : ((p : Int) == 0) = true := by simp [hp0]
              clear hcr hnext' hp0
              go_wp2
              go_quiet (fail)
              have hbq := below_drewN (Below.refl wr.heap.size wr) nq
              have hq2 := owns_below hq hbq
              have hnk2 := hnk.trans (hbq.mono hnk.size)
              clear hq hnk hbq hcq cz
              generalize wr.drewN nq = w7 at *
              go_wp2
              go_roundw
              case rel => exact ⟨y + 1, by omega, by go_num, by rw [hd.out], hq2, hnk2⟩
              case measure => simp only [intOf]; omega
            · have hpz : ((p : Int) == 0) = false := by simp [hp0]
              have h2p : IntKind.i64.wrap (2 * (p : Int)) = 2 * (p : Int) := by rw [IntKind.wrap_i64]; omega
              by_cases hp2 : 2 * p = d
              · have hd : Hid (decide (CrK ds k (y + 1)) = true) := by show _ = _; rw [hnext'.out, Bool.true_and]; exact decide_eq_true (hcr.out.mpr (.inr hp2))
                have hpe : (2 * (p : Int) == (d : Int)) = true := by rw [beq_iff_eq]; omega
                clear hcr hnext' hp0 hp2
                go_wp2
                go_quiet (fail)
                have hbq := below_drewN (Below.refl wr.heap.size wr) nq
                have hq2 := owns_below hq hbq
                have hnk2 := hnk.trans (hbq.mono hnk.size)
                clear hq hnk hbq hcq cz
                generalize wr.drewN nq = w7 at *
                go_wp2
                go_roundw
                case rel => exact ⟨y + 1, by omega, by go_num, by rw [hd.out], hq2, hnk2⟩
                case measure => simp only [intOf]; omega
              · have hd : Hid (decide (CrK ds k (y + 1)) = false) := by show _ = _; rw [hnext'.out, Bool.true_and]; exact decide_eq_false (fun q => by rcases hcr.out.mp q with r | r; exact hp0 r; exact hp2 r)
                have hpe : (2 * (p : Int) == (d : Int)) = false := by rw [beq_eq_false_iff_ne]; omega
                clear hcr hnext' hp0 hp2
                go_wp2
                go_quiet (fail)
                have hbq := below_drewN (Below.refl wr.heap.size wr) nq
                have hq2 := owns_below hq hbq
                have hnk2 := hnk.trans (hbq.mono hnk.size)
                clear hq hnk hbq hcq cz
                generalize wr.drewN nq = w7 at *
                go_wp2
                go_roundw
                case rel => exact ⟨y + 1, by omega, by go_num, by rw [hd.out], hq2, hnk2⟩
                case measure => simp only [intOf]; omega
        · have e : m = y := by omega
          subst e
          have hge : ¬ m < m := Nat.lt_irrefl _
          rw [hcK.out k]
          have hown4 := hown.below hnk
          have hnx4 := hnx.trans (hnk.mono hnx.size)
          have hcx := (hUb.below hnx4).cell k (by rw [hmkl.out]; exact hlt)
          rw [hmkg.out k hlt] at hcx
          have hcs1 := hcs.out k
          have hlen9 := crV_len ds xs k
          by_cases hc : Crn ds k
          · rw [if_pos hc] at hcs1
            rw [decide_eq_true hc]
            have hrow : Hid (∀ (w5 : World) (u : Value), w5.ownsRow w1.heap.size 47 1 u ((crV ds xs k).length + 1) (cellsU (crV ds xs k) ++ [.int .u64 (((F0 k).val : Nat) : Int)]) → Ow w1.heap.size w5 u (crV ds xs (k + 1))) := fun w5 u h => by unfold Ow; rw [hcs1, cellsU_append, List.length_append]; exact h
            have hown5 : wr.ownsRow w1.heap.size 47 1 u6 (crV ds xs k).length (cellsU (crV ds xs k)) := hown4
            clear hcs1 hc hown hown4 hq hnk hnx cP hcell
            generalize (F0 k).val = x at *
            go_wp2_with (at_builtin; refine wp_append1 rfl _ _ rfl _ _ _ _ rfl hown5 rfl ?c3 hnx4 ?_; rotate_right; intro v' w6 hown6 hnx6)
            case c3 => omega
            have hown7 := hrow.out _ _ hown6
            clear hown6 hrow hown5
            go_roundw
            case rel => exact ⟨k + 1, by omega, by go_num, hown7, hnx6⟩
            case measure => simp only [intOf]; omega
          · rw [if_neg hc] at hcs1
            rw [decide_eq_false hc]
            rw [← hcs1] at hown4
            clear hcs1 hc hown hq hnk hnx cP hcell
            go_wp2
            go_roundw
            case rel => exact ⟨k + 1, by omega, by go_num, hown4, hnx4⟩
            case measure => simp only [intOf]; omega
    · have e : N = k := by omega
      subst e
      have hU := hown.isU (crV_rng ds xs N)
      have hge : ¬ N < N := Nat.lt_irrefl _
      have hUg := hU
      obtain ⟨au, cu2, rfl, -⟩ := hUg
      clear cP hcell hown
      go_wp2
      go_ret
      exact ⟨_, rfl, hU, hb1.trans (hnx.mono hb1.size)⟩

end Go.Proofs.YtgkepflnnoociacDoor
