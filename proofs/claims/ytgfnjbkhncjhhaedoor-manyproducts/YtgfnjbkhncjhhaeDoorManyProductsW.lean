/-
  The walk of the law ManyProducts: whatever is handed in, the transform of a product round all axes is the product of transforms, and of numbers that are products of two lists the product of theirs, and the law returns true.
-/
import Derived.Test.YtgfnjbkhncjhhaeDoorKeepFlat
import Derived.Test.YtgfnjbkhncjhhaeDoorKeepShaped
import Derived.Test.YtgfnjbkhncjhhaeDoorKeepSized
import Derived.Test.YtgfnjbkhncjhhaeDoorManyP
import Derived.Test.YtgfnjbkhncjhhaeDoorNttC
import Derived.Test.YtgfnjbkhncjhhaeDoorFieldB
import Derived.BigQuiet
import Derived.Deep.RegionWith
namespace Go.Proofs.YtgfnjbkhncjhhaeDoor
open Go.RowKit

set_option maxRecDepth 100000 in
set_option maxHeartbeats 8000000 in
theorem manyProducts_no (w : World) (v va vb : Value) (zs : List Int) (xs ys : List Nat) (a3 a4 k1 k2 : Int) (j1 j2 n1 n2 : Nat) (hZ : IsZ w v zs) (hX : IsU w va xs) (hY : IsU w vb ys) (hTb : Tab w) (hno : ∀ ds, Good zs ds → 64 < prd2 ds)
    (hk1 : Int.tmod a3 4 = k1) (hk2 : Int.tmod a4 4 = k2) (hb1 : -4 < k1 ∧ k1 < 4) (hb2 : -4 < k2 ∧ k2 < 4) (hm1 : k1 % 7 = (j1 : Int)) (hm2 : k2 % 7 = (j2 : Int)) (hj1 : j1 ≤ 6) (hj2 : j2 ≤ 6) (hn1 : n1 = 2 ^ j1) (hn2 : n2 = 2 ^ j2) :
    Calls Tryd.prog 7 #[v, va, vb, .int .i64 a3, .int .i64 a4] w fun e w' => e = .returned (.bool true) ∧ Below w.heap.size w w' := by
  have hW : Below w.heap.size w w := Below.refl _ _
  have hn1' : Hid (n1 = 2 ^ j1) := hn1
  have hn2' : Hid (n2 = 2 ^ j2) := hn2
  have h64a : n1 ≤ 64 := by rw [hn1]; exact (two_pow_six j1 hj1).2
  have h64b : n2 ≤ 64 := by rw [hn2]; exact (two_pow_six j2 hj2).2
  have hp1 : 0 < n1 := by rw [hn1]; exact Nat.pow_pos (by decide)
  have hp2 : 0 < n2 := by rw [hn2]; exact Nat.pow_pos (by decide)
  have lP : Hid ((szd xs n1).length = n1) := szd_length xs n1
  have lQ : Hid ((szd ys n2).length = n2) := szd_length ys n2
  have rP := szd_range (n := n1) hX.range
  have rQ := szd_range (n := n2) hY.range
  have hwk1 : IntKind.i64.wrap k1 = k1 := by rw [IntKind.wrap_i64]; omega
  have hwk2 : IntKind.i64.wrap k2 = k2 := by rw [IntKind.wrap_i64]; omega
  have c1 : Hid (∀ (W : World) (u : Value), IsU W u xs → Calls Tryd.prog 9 #[u, .int .i64 k1] W fun e w' => ∃ g, e = .returned (.slice (some ⟨g, 0, none⟩) n1 n1) ∧ IsU w' (.slice (some ⟨g, 0, none⟩) n1 n1) (szd xs n1) ∧ Below W.heap.size W w') := fun W u hu => keep_sizedU W u xs k1 j1 n1 hu hm1 hj1 hn1
  have c2 : Hid (∀ (W : World) (u : Value), IsU W u ys → Calls Tryd.prog 9 #[u, .int .i64 k2] W fun e w' => ∃ g, e = .returned (.slice (some ⟨g, 0, none⟩) n2 n2) ∧ IsU w' (.slice (some ⟨g, 0, none⟩) n2 n2) (szd ys n2) ∧ Below W.heap.size W w') := fun W u hu => keep_sizedU W u ys k2 j2 n2 hu hm2 hj2 hn2
  have hfin : Hid (n1 * n2 ≤ 1024 → ∀ u v, u < n1 → v < n2 → who [n1, n2] false (cf (ou (szd xs n1) (szd ys n2) n2 (n1 * n2))) 2 (u * n2 + v) = fw (szd xs n1) j1 u * fw (szd ys n2) j2 v) := by
    intro hle u v hu hv
    subst hn1 hn2
    exact outer_val _ _ j1 j2 hle u v hu hv
  have cF1 : Hid (∀ (W : World) (u : Value), IsU W u (szd xs n1) → Below w.heap.size w W → Calls Tryd.prog 10 #[u] W fun e w' => ∃ u', e = .returned (.tuple #[u', .int .i64 0]) ∧ IsU w' u' (mk n1 (fw (szd xs n1) j1)) ∧ Below W.heap.size W w') := fun W u hu hb => by
    have := ntt_Forward_ok W u (szd xs n1) j1 hu (hTb.below hb) (by rw [lP.out, hn1]) (by omega)
    rw [← hn1] at this
    exact this
  have cF2 : Hid (∀ (W : World) (u : Value), IsU W u (szd ys n2) → Below w.heap.size w W → Calls Tryd.prog 10 #[u] W fun e w' => ∃ u', e = .returned (.tuple #[u', .int .i64 0]) ∧ IsU w' u' (mk n2 (fw (szd ys n2) j2)) ∧ Below W.heap.size W w') := fun W u hu hb => by
    have := ntt_Forward_ok W u (szd ys n2) j2 hu (hTb.below hb) (by rw [lQ.out, hn2]) (by omega)
    rw [← hn2] at this
    exact this
  have hGd : Hid (Good [(n1 : Int), (n2 : Int)] [n1, n2]) := ⟨by simp, by simp, rfl, fun d hd => by
    simp at hd
    rcases hd with rfl | rfl
    · exact ⟨j1, hn1⟩
    · exact ⟨j2, hn2⟩⟩
  have cM : Hid (∀ (W : World) (u u' : Value), IsZ W u [(n1 : Int), (n2 : Int)] → IsU W u' (ou (szd xs n1) (szd ys n2) n2 (n1 * n2)) → Below w.heap.size w W → n1 * n2 ≤ 1024 → Calls Tryd.prog 26 #[u, u'] W fun e w' => ∃ x, e = .returned (.tuple #[x, .int .i64 0]) ∧ IsU w' x (mk (n1 * n2) (who [n1, n2] false (cf (ou (szd xs n1) (szd ys n2) n2 (n1 * n2))) 2)) ∧ Below W.heap.size W w') := fun W u u' hz hu hb hle => by
    have e : prd2 [n1, n2] = n1 * n2 := by simp [prd2]
    have := many_Forward_ok W u u' [(n1 : Int), (n2 : Int)] (ou (szd xs n1) (szd ys n2) n2 (n1 * n2)) [n1, n2] hz hu (hTb.below hb) hGd.out (by rw [e]; exact hle) (by rw [ou_length, e])
    rw [e] at this
    exact this
  clear hn1 hn2 hm1 hm2 hj1 hj2 hGd
  generalize szd xs n1 = P1 at *
  generalize szd ys n2 = Q1 at *
  have cS := fun W u hz => keep_shaped_no W v u zs hz hno
  clear hno
  go_enter Tryd.func7, Tryd.ntmps7
  go_wp2_with (first
    | (go_at_call 24; refine Calls.mono (keep_flat _ (hTb.below hW)) ?_; rintro e w1 ⟨rfl, hb⟩; replace hZ := hZ.below hb; replace hX := hX.below hb; replace hY := hY.below hb; replace hW := hW.trans (hb.mono hW.size); clear hb)
    | (go_at_call 25; refine Calls.mono (cS _ _ hZ) ?_; rintro e w' ⟨rfl, hw⟩; rw [hw]; clear hw))
  have tks : True := trivial
  go_wp2_with (first
    | (go_at_call 9; have _t := tks; refine Calls.mono (c1.out _ _ hX) ?_; rintro e w11 ⟨g1, rfl, hP, hb⟩; clear tks; replace hY := hY.below hb; replace hW := hW.trans (hb.mono hW.size); clear hb)
    | (go_at_call 9; refine Calls.mono (c2.out _ _ hY) ?_; rintro e w12 ⟨g2, rfl, hQ, hb⟩; replace hP := hP.below hb; replace hW := hW.trans (hb.mono hW.size); clear hb))
  clear hX hY c1 c2
  go_loopw [26, 114] (fun vo vi wr => ∃ u t : Nat, u ≤ n1 ∧ Hid (t = u * n2) ∧ vi = .int .i64 (u : Int) ∧ wr.ownsRow w12.heap.size 23 1 vo t (cellsU (ou P1 Q1 n2 t)) ∧ Below w12.heap.size w12 wr)
    (fun _ vi _ => n1 - (intOf vi).toNat)
  case atStart => exact ⟨0, 0, Nat.zero_le _, (Nat.zero_mul _).symm, rfl, World.ownsRow_nil _ _ _ _, Below.refl _ _⟩
  case round =>
    obtain ⟨u, t, hu, ht, rfl, hown, hnx⟩ := hrel
    by_cases hlt : u < n1
    · have cellP := (hP.below hnx).cell u (by rw [lP.out]; exact hlt)
      rw [Nat.zero_add] at cellP
      have hpu64 := range_getD rP u
      obtain ⟨pu, hpu⟩ : ∃ pu, pu = P1.getD u 0 := ⟨_, rfl⟩
      rw [← hpu] at cellP hpu64
      have hpu' : Hid (pu = P1.getD u 0) := hpu
      clear hpu
      go_wp2
      obtain ⟨wo, hwo⟩ : ∃ wo : World, wo = wr := ⟨_, rfl⟩
      rw [← hwo] at hown hnx cellP ⊢
      clear hwo
      go_loopw [26, 120] (fun vo vj wr => ∃ v t2 : Nat, v ≤ n2 ∧ Hid (t2 = u * n2 + v) ∧ vj = .int .i64 (v : Int) ∧ wr.ownsRow w12.heap.size 23 1 vo t2 (cellsU (ou P1 Q1 n2 t2)) ∧ Below w12.heap.size w12 wr)
        (fun _ vj _ => n2 - (intOf vj).toNat)
      case atStart => exact ⟨0, t, Nat.zero_le _, by show t = u * n2 + 0; rw [ht.out]; rfl, rfl, hown, hnx⟩
      case round =>
        clear hown hnx cellP
        obtain ⟨v, t2, hv, ht2, rfl, hown, hnx⟩ := hrel
        by_cases hltv : v < n2
        · have cellQ := (hQ.below hnx).cell v (by rw [lQ.out]; exact hltv)
          rw [Nat.zero_add] at cellQ
          have cMu := field_Mul pu (Q1.getD v 0) hpu64 (range_getD rQ v)
          have hnew : Hid (∀ (w1 : World) (u' : Value), w1.ownsRow w12.heap.size 23 1 u' (t2 + 1) (cellsU (ou P1 Q1 n2 t2) ++ [.int .u64 ((fM pu (Q1.getD v 0) : Nat) : Int)]) → w1.ownsRow w12.heap.size 23 1 u' (t2 + 1) (cellsU (ou P1 Q1 n2 (t2 + 1)))) := fun w1 u' h => by
            rw [ht2.out] at h ⊢
            rw [ou_step _ _ _ _ _ hltv, cellsU_append, ← hpu'.out]; exact h
          have ht9 : t2 ≤ 1000000000 := by
            have hu64 : u ≤ 64 := by omega
            have h1 : u * n2 ≤ u * 64 := Nat.mul_le_mul_left u h64b
            rw [ht2.out]; omega
          have hnext : Hid (t2 + 1 = u * n2 + (v + 1)) := by show _ = _; rw [ht2.out]; omega
          clear ht2
          generalize fM pu (Q1.getD v 0) = z at *
          generalize Q1.getD v 0 = qv at *
          go_wp2_with (first
            | (go_at_call 15; refine Calls.mono (cMu _) ?_; rintro e w' ⟨rfl, hw⟩; rw [hw]; clear hw)
            | (at_builtin; refine wp_append1 rfl _ _ rfl _ _ _ _ rfl hown rfl ?c3 hnx ?_; rotate_right; intro u' w13 hown' hnx'))
          case c3 => exact ht9
          have hown2 := hnew.out _ _ hown'
          clear hown' hown hnew hnx cellQ
          go_wp2
          go_roundw
          case rel => exact ⟨v + 1, t2 + 1, by omega, hnext, by go_num, hown2, hnx'⟩
          case measure => simp only [intOf]; omega
        · have e : n2 = v := by omega
          subst e
          have hnext : Hid (t2 = (u + 1) * n2) := by show _ = _; rw [ht2.out, Nat.add_mul, Nat.one_mul]
          have hge : n2 ≤ n2 := Nat.le_refl _
          clear ht2
          go_wp2
          go_roundw
          case rel => exact ⟨u + 1, t2, by omega, hnext, by go_num, hown, hnx⟩
          case measure => simp only [intOf]; omega
    · have e : n1 = u := by omega
      subst e
      have hge : n1 ≤ n1 := Nat.le_refl _
      have htp : 0 < t := by rw [ht.out]; exact Nat.mul_pos hp1 hp2
      have ht9 : t ≤ 4096 := by rw [ht.out]; exact Nat.mul_le_mul h64a h64b
      have hO := IsU.of_owns hown (ou_rng _ _ _ _)
      obtain ⟨bo, oo, co, rfl⟩ := hO.placeN (ou_length _ _ _ _) htp
      have hW2 := hW.trans (hnx.mono hW.size)
      replace hP := hP.below hnx
      replace hQ := hQ.below hnx
      by_cases hbig : 1024 < t
      · clear hown ht cM cF1 cF2 hfin hP hQ hO
        have hend := hW2.trans ((below_alloc1 wr (.cells #[.int .i64 (n1 : Int), .int .i64 (n2 : Int)] 3)).mono hW2.size)
        go_wp2
        go_ret
        exact ⟨rfl, hend⟩
      · have hle : t ≤ 1024 := by omega
        have cM2 := cM.out
        have hfin2 : Hid (t ≤ 1024 → ∀ u v, u < n1 → v < n2 → who [n1, n2] false (cf (ou P1 Q1 n2 t)) 2 (u * n2 + v) = fw P1 j1 u * fw Q1 j2 v) := by
          show _
          have := hfin.out
          rw [← ht.out] at this
          exact this
        rw [← ht.out] at cM2
        have hZ2 := IsZ.lit2 wr 3 (n1 : Int) (n2 : Int) (by omega) (by omega)
        have hO2 := hO.below (below_alloc1 wr (.cells #[.int .i64 (n1 : Int), .int .i64 (n2 : Int)] 3))
        have hW3 := hW2.trans ((below_alloc1 wr (.cells #[.int .i64 (n1 : Int), .int .i64 (n2 : Int)] 3)).mono hW2.size)
        have cM3 := cM2 _ _ _ hZ2 hO2 hW3 hle
        have cF1' := cF1.out
        have cF2' := cF2.out
        have hix : Hid (∀ u v, u < n1 → v < n2 → u * n2 + v < t) := fun u v hu hv => by
          rw [ht.out]
          have : (u + 1) * n2 ≤ n1 * n2 := Nat.mul_le_mul_right _ hu
          rw [Nat.add_mul, Nat.one_mul] at this
          omega
        have hfv : Hid (∀ u v, u < n1 → v < n2 → fM (fw P1 j1 u).val (fw Q1 j2 v).val = (who [n1, n2] false (cf (ou P1 Q1 n2 t)) 2 (u * n2 + v)).val) := fun u v hu hv => by
          rw [hfin2.out hle u v hu hv, fM_val, toF_val, toF_val]
        clear hown ht cM cM2 hfin hfin2 hO hO2 hZ2 hbig hTb cF1 cF2
        generalize who [n1, n2] false (cf (ou P1 Q1 n2 t)) 2 = FW at *
        replace hP := hP.below (below_alloc1 wr (.cells #[.int .i64 (n1 : Int), .int .i64 (n2 : Int)] 3))
        replace hQ := hQ.below (below_alloc1 wr (.cells #[.int .i64 (n1 : Int), .int .i64 (n2 : Int)] 3))
        go_wp2_with (first
          | (go_at_call 26; refine Calls.mono cM3 ?_; rintro e w13 ⟨fv, rfl, hF, hb⟩; replace hP := hP.below hb; replace hQ := hQ.below hb; replace hW3 := hW3.trans (hb.mono hW3.size); clear hb cM3; obtain ⟨bf, of, cf1, rfl⟩ := hF.placeN (mk_length _ _) htp)
          | (go_at_call 10; refine Calls.mono (cF1' _ _ hP hW3) ?_; rintro e w14 ⟨fpv, rfl, hFp, hb⟩; clear cF1'; replace hQ := hQ.below hb; replace hF := hF.below hb; replace hW3 := hW3.trans (hb.mono hW3.size); clear hb; obtain ⟨bp, op, cp, rfl⟩ := hFp.placeN (mk_length _ _) hp1)
          | (go_at_call 10; refine Calls.mono (cF2' _ _ hQ hW3) ?_; rintro e w15 ⟨fqv, rfl, hFq, hb⟩; clear cF2'; replace hF := hF.below hb; replace hFp := hFp.below hb; replace hW3 := hW3.trans (hb.mono hW3.size); clear hb; obtain ⟨bq, oq, cq, rfl⟩ := hFq.placeN (mk_length _ _) hp2))
        clear hP hQ hnx hW2 hW
        go_loopw [158] (fun vi wr => ∃ u : Nat, u ≤ n1 ∧ vi = .int .i64 (u : Int) ∧ Below w15.heap.size w15 wr)
          (fun vi _ => n1 - (intOf vi).toNat)
        case atStart => exact ⟨0, Nat.zero_le _, rfl, Below.refl _ _⟩
        case round =>
          obtain ⟨u, hu, rfl, hnx⟩ := hrel
          by_cases hlt : u < n1
          · go_wp2
            obtain ⟨wo, hwo⟩ : ∃ wo : World, wo = wr := ⟨_, rfl⟩
            rw [← hwo] at hnx ⊢
            clear hwo
            go_loopw [163] (fun vj wr => ∃ v : Nat, v ≤ n2 ∧ vj = .int .i64 (v : Int) ∧ Below w15.heap.size w15 wr)
              (fun vj _ => n2 - (intOf vj).toNat)
            case atStart => exact ⟨0, Nat.zero_le _, rfl, hnx⟩
            case round =>
              clear hnx
              obtain ⟨v, hv, rfl, hnx⟩ := hrel
              by_cases hltv : v < n2
              · have hmv := hix.out u v hlt hltv
                have cc1 := (hF.below hnx).cell (u * n2 + v) (by rw [mk_length]; exact hmv)
                have cc2 := (hFp.below hnx).cell u (by rw [mk_length]; exact hlt)
                have cc3 := (hFq.below hnx).cell v (by rw [mk_length]; exact hltv)
                rw [mk_getD _ _ _ hmv] at cc1
                rw [mk_getD _ _ _ hlt] at cc2
                rw [mk_getD _ _ _ hltv] at cc3
                have cMu := field_Mul (fw P1 j1 u).val (fw Q1 j2 v).val (by have := lt_int (val_lt (fw P1 j1 u)); omega) (by have := lt_int (val_lt (fw Q1 j2 v)); omega)
                rw [hfv.out u v hlt hltv] at cMu
                have hmul : (u : Int) * (n2 : Int) = ((u * n2 : Nat) : Int) := by rw [Int.natCast_mul]
                have hm9 : u * n2 ≤ 4096 := by omega
                generalize (FW (u * n2 + v)).val = z1 at *
                generalize (fw P1 j1 u).val = z2 at *
                generalize (fw Q1 j2 v).val = z3 at *
                generalize u * n2 = m0 at *
                have hq1 : ((z1 : Int) != (z1 : Int)) = false := by simp
                clear hfv hix hF hFp hFq
                go_wp2
                go_quiet (first | (go_at_call 15; exact Calls.quiet_of_same (cMu _)))
                obtain ⟨w6, hw6⟩ : ∃ w6 : World, w6 = wr.drewN nq := ⟨_, rfl⟩
                rw [← hw6]
                have hnx6 : Below w15.heap.size w15 w6 := by rw [hw6]; exact below_drewN hnx _
                clear hw6 hnx cc1 cc2 cc3 cMu hmul
                go_wp2
                go_roundw
                case rel => exact ⟨v + 1, by omega, by go_num, hnx6⟩
                case measure => simp only [intOf]; omega
              · have e : n2 = v := by omega
                subst e
                have hge : n2 ≤ n2 := Nat.le_refl _
                clear hfv hix hF hFp hFq
                go_wp2
                go_roundw
                case rel => exact ⟨u + 1, by omega, by go_num, hnx⟩
                case measure => simp only [intOf]; omega
          · have e : n1 = u := by omega
            subst e
            have hge : n1 ≤ n1 := Nat.le_refl _
            clear hfv hix hF hFp hFq
            go_wp2
            go_ret
            exact ⟨rfl, hW3.trans (hnx.mono hW3.size)⟩

set_option maxRecDepth 100000 in
set_option maxHeartbeats 8000000 in
theorem manyProducts_ok (w : World) (v va vb : Value) (zs : List Int) (ds xs ys : List Nat) (a3 a4 k1 k2 : Int) (j1 j2 n1 n2 : Nat) (hZ : IsZ w v zs) (hX : IsU w va xs) (hY : IsU w vb ys) (hTb : Tab w) (hG : Good zs ds) (hds : prd2 ds ≤ 64)
    (hk1 : Int.tmod a3 4 = k1) (hk2 : Int.tmod a4 4 = k2) (hb1 : -4 < k1 ∧ k1 < 4) (hb2 : -4 < k2 ∧ k2 < 4) (hm1 : k1 % 7 = (j1 : Int)) (hm2 : k2 % 7 = (j2 : Int)) (hj1 : j1 ≤ 6) (hj2 : j2 ≤ 6) (hn1 : n1 = 2 ^ j1) (hn2 : n2 = 2 ^ j2) :
    Calls Tryd.prog 7 #[v, va, vb, .int .i64 a3, .int .i64 a4] w fun e w' => e = .returned (.bool true) ∧ Below w.heap.size w w' := by
  have hW : Below w.heap.size w w := Below.refl _ _
  have hn1' : Hid (n1 = 2 ^ j1) := hn1
  have hn2' : Hid (n2 = 2 ^ j2) := hn2
  have h64a : n1 ≤ 64 := by rw [hn1]; exact (two_pow_six j1 hj1).2
  have h64b : n2 ≤ 64 := by rw [hn2]; exact (two_pow_six j2 hj2).2
  have hp1 : 0 < n1 := by rw [hn1]; exact Nat.pow_pos (by decide)
  have hp2 : 0 < n2 := by rw [hn2]; exact Nat.pow_pos (by decide)
  have lP : Hid ((szd xs n1).length = n1) := szd_length xs n1
  have lQ : Hid ((szd ys n2).length = n2) := szd_length ys n2
  have rP := szd_range (n := n1) hX.range
  have rQ := szd_range (n := n2) hY.range
  have hwk1 : IntKind.i64.wrap k1 = k1 := by rw [IntKind.wrap_i64]; omega
  have hwk2 : IntKind.i64.wrap k2 = k2 := by rw [IntKind.wrap_i64]; omega
  have c1 : Hid (∀ (W : World) (u : Value), IsU W u xs → Calls Tryd.prog 9 #[u, .int .i64 k1] W fun e w' => ∃ g, e = .returned (.slice (some ⟨g, 0, none⟩) n1 n1) ∧ IsU w' (.slice (some ⟨g, 0, none⟩) n1 n1) (szd xs n1) ∧ Below W.heap.size W w') := fun W u hu => keep_sizedU W u xs k1 j1 n1 hu hm1 hj1 hn1
  have c2 : Hid (∀ (W : World) (u : Value), IsU W u ys → Calls Tryd.prog 9 #[u, .int .i64 k2] W fun e w' => ∃ g, e = .returned (.slice (some ⟨g, 0, none⟩) n2 n2) ∧ IsU w' (.slice (some ⟨g, 0, none⟩) n2 n2) (szd ys n2) ∧ Below W.heap.size W w') := fun W u hu => keep_sizedU W u ys k2 j2 n2 hu hm2 hj2 hn2
  have hfin : Hid (n1 * n2 ≤ 1024 → ∀ u v, u < n1 → v < n2 → who [n1, n2] false (cf (ou (szd xs n1) (szd ys n2) n2 (n1 * n2))) 2 (u * n2 + v) = fw (szd xs n1) j1 u * fw (szd ys n2) j2 v) := by
    intro hle u v hu hv
    subst hn1 hn2
    exact outer_val _ _ j1 j2 hle u v hu hv
  have cF1 : Hid (∀ (W : World) (u : Value), IsU W u (szd xs n1) → Below w.heap.size w W → Calls Tryd.prog 10 #[u] W fun e w' => ∃ u', e = .returned (.tuple #[u', .int .i64 0]) ∧ IsU w' u' (mk n1 (fw (szd xs n1) j1)) ∧ Below W.heap.size W w') := fun W u hu hb => by
    have := ntt_Forward_ok W u (szd xs n1) j1 hu (hTb.below hb) (by rw [lP.out, hn1]) (by omega)
    rw [← hn1] at this
    exact this
  have cF2 : Hid (∀ (W : World) (u : Value), IsU W u (szd ys n2) → Below w.heap.size w W → Calls Tryd.prog 10 #[u] W fun e w' => ∃ u', e = .returned (.tuple #[u', .int .i64 0]) ∧ IsU w' u' (mk n2 (fw (szd ys n2) j2)) ∧ Below W.heap.size W w') := fun W u hu hb => by
    have := ntt_Forward_ok W u (szd ys n2) j2 hu (hTb.below hb) (by rw [lQ.out, hn2]) (by omega)
    rw [← hn2] at this
    exact this
  have hGd : Hid (Good [(n1 : Int), (n2 : Int)] [n1, n2]) := ⟨by simp, by simp, rfl, fun d hd => by
    simp at hd
    rcases hd with rfl | rfl
    · exact ⟨j1, hn1⟩
    · exact ⟨j2, hn2⟩⟩
  have cM : Hid (∀ (W : World) (u u' : Value), IsZ W u [(n1 : Int), (n2 : Int)] → IsU W u' (ou (szd xs n1) (szd ys n2) n2 (n1 * n2)) → Below w.heap.size w W → n1 * n2 ≤ 1024 → Calls Tryd.prog 26 #[u, u'] W fun e w' => ∃ x, e = .returned (.tuple #[x, .int .i64 0]) ∧ IsU w' x (mk (n1 * n2) (who [n1, n2] false (cf (ou (szd xs n1) (szd ys n2) n2 (n1 * n2))) 2)) ∧ Below W.heap.size W w') := fun W u u' hz hu hb hle => by
    have e : prd2 [n1, n2] = n1 * n2 := by simp [prd2]
    have := many_Forward_ok W u u' [(n1 : Int), (n2 : Int)] (ou (szd xs n1) (szd ys n2) n2 (n1 * n2)) [n1, n2] hz hu (hTb.below hb) hGd.out (by rw [e]; exact hle) (by rw [ou_length, e])
    rw [e] at this
    exact this
  clear hn1 hn2 hm1 hm2 hj1 hj2 hGd
  generalize szd xs n1 = P1 at *
  generalize szd ys n2 = Q1 at *
  have hSh : Shp ds := hG.2.2.2
  have h0p : 0 < prd2 ds := prd2_pos hSh.pos
  have cSa : Hid (∀ (W : World) (u : Value), IsZ W v zs → IsU W u xs → Calls Tryd.prog 25 #[v, u] W fun e w' => ∃ g, e = .returned (.tuple #[.slice (some ⟨g, 0, none⟩) (prd2 ds) (prd2 ds), .bool true]) ∧ IsU w' (.slice (some ⟨g, 0, none⟩) (prd2 ds) (prd2 ds)) (szd xs (prd2 ds)) ∧ Below W.heap.size W w') := fun W u hz hu => keep_shaped_ok W v u zs ds xs hz hu hG hds
  have cSb : Hid (∀ (W : World) (u : Value), IsZ W v zs → IsU W u ys → Calls Tryd.prog 25 #[v, u] W fun e w' => ∃ g, e = .returned (.tuple #[.slice (some ⟨g, 0, none⟩) (prd2 ds) (prd2 ds), .bool true]) ∧ IsU w' (.slice (some ⟨g, 0, none⟩) (prd2 ds) (prd2 ds)) (szd ys (prd2 ds)) ∧ Below W.heap.size W w') := fun W u hz hu => keep_shaped_ok W v u zs ds ys hz hu hG hds
  have lA0 := szd_length xs (prd2 ds)
  have lB0 := szd_length ys (prd2 ds)
  generalize szd xs (prd2 ds) = A at *
  generalize szd ys (prd2 ds) = B at *
  have cCy : Hid (∀ (W : World) (u u' : Value), IsZ W v zs → IsU W u A → IsU W u' B → Below w.heap.size w W → Calls Tryd.prog 29 #[v, u, u'] W fun e w' => ∃ x, e = .returned (.tuple #[x, .int .i64 0]) ∧ IsU w' x (mk (prd2 ds) (cyD ds (cf A) (cf B))) ∧ Below W.heap.size W w') := fun W u u' hz hu hu' hb => many_Cyclic_ok W v u u' zs A B ds hz hu hu' (hTb.below hb) hG (by omega) lA0 lB0
  have lC0 := mk_length (prd2 ds) (cyD ds (cf A) (cf B))
  have hC0 : ∀ i, i < prd2 ds → cf (mk (prd2 ds) (cyD ds (cf A) (cf B))) i = cyD ds (cf A) (cf B) i := fun i hi => by rw [cf_mk, if_pos hi]
  generalize mk (prd2 ds) (cyD ds (cf A) (cf B)) = CL at *
  have cFw : Hid (∀ (W : World) (u : Value) (L : List Nat), IsZ W v zs → IsU W u L → Below w.heap.size w W → L.length = prd2 ds → Calls Tryd.prog 26 #[v, u] W fun e w' => ∃ x, e = .returned (.tuple #[x, .int .i64 0]) ∧ IsU w' x (mk (prd2 ds) (who ds false (cf L) ds.length)) ∧ Below W.heap.size W w') := fun W u L hz hu hb hl => many_Forward_ok W v u zs L ds hz hu (hTb.below hb) hG (by omega) hl
  have hval : Hid (∀ k, k < prd2 ds → fM (who ds false (cf A) ds.length k).val (who ds false (cf B) ds.length k).val = (who ds false (cf CL) ds.length k).val) := fun k hk => by
    rw [who_congr hSh false hC0 k hk, who_cyc hSh (by omega) (cf A) (cf B) k hk, fM_val, toF_val, toF_val]
  have cFa : Hid (∀ (W : World) (u : Value), IsZ W v zs → IsU W u A → Below w.heap.size w W → Calls Tryd.prog 26 #[v, u] W fun e w' => ∃ x, e = .returned (.tuple #[x, .int .i64 0]) ∧ IsU w' x (mk (prd2 ds) (who ds false (cf A) ds.length)) ∧ Below W.heap.size W w') := fun W u hz hu hb => cFw.out W u A hz hu hb lA0
  have cFb : Hid (∀ (W : World) (u : Value), IsZ W v zs → IsU W u B → Below w.heap.size w W → Calls Tryd.prog 26 #[v, u] W fun e w' => ∃ x, e = .returned (.tuple #[x, .int .i64 0]) ∧ IsU w' x (mk (prd2 ds) (who ds false (cf B) ds.length)) ∧ Below W.heap.size W w') := fun W u hz hu hb => cFw.out W u B hz hu hb lB0
  have cFc : Hid (∀ (W : World) (u : Value), IsZ W v zs → IsU W u CL → Below w.heap.size w W → Calls Tryd.prog 26 #[v, u] W fun e w' => ∃ x, e = .returned (.tuple #[x, .int .i64 0]) ∧ IsU w' x (mk (prd2 ds) (who ds false (cf CL) ds.length)) ∧ Below W.heap.size W w') := fun W u hz hu hb => cFw.out W u CL hz hu hb lC0
  clear hSh hC0 cFw lA0 lB0 lC0 hG
  generalize who ds false (cf A) ds.length = fA1 at *
  generalize who ds false (cf B) ds.length = fB1 at *
  generalize who ds false (cf CL) ds.length = fC1 at *
  generalize prd2 ds = n0 at *
  have tka : True := trivial
  have tkb : True := trivial
  have tkc : True := trivial
  go_enter Tryd.func7, Tryd.ntmps7
  go_wp2_with (first
    | (go_at_call 24; refine Calls.mono (keep_flat _ (hTb.below hW)) ?_; rintro e w1 ⟨rfl, hb⟩; replace hZ := hZ.below hb; replace hX := hX.below hb; replace hY := hY.below hb; replace hW := hW.trans (hb.mono hW.size); clear hb)
    | (go_at_call 25; have _t := tka; refine Calls.mono (cSa.out _ _ hZ hX) ?_; rintro e w2 ⟨ga, rfl, hA, hb⟩; clear tka; replace hZ := hZ.below hb; replace hX := hX.below hb; replace hY := hY.below hb; replace hW := hW.trans (hb.mono hW.size); clear hb)
    | (go_at_call 25; refine Calls.mono (cSb.out _ _ hZ hY) ?_; rintro e w3 ⟨gb, rfl, hB, hb⟩; replace hZ := hZ.below hb; replace hX := hX.below hb; replace hY := hY.below hb; replace hA := hA.below hb; replace hW := hW.trans (hb.mono hW.size); clear hb)
    | (go_at_call 29; refine Calls.mono (cCy.out _ _ _ hZ hA hB hW) ?_; rintro e w4 ⟨cv, rfl, hC, hb⟩; replace hZ := hZ.below hb; replace hX := hX.below hb; replace hY := hY.below hb; replace hA := hA.below hb; replace hB := hB.below hb; replace hW := hW.trans (hb.mono hW.size); clear hb)
    | (go_at_call 26; have _t := tkb; refine Calls.mono (cFa.out _ _ hZ hA hW) ?_; rintro e w5 ⟨fav, rfl, hFa, hb⟩; clear tkb; replace hZ := hZ.below hb; replace hX := hX.below hb; replace hY := hY.below hb; replace hB := hB.below hb; replace hC := hC.below hb; replace hW := hW.trans (hb.mono hW.size); clear hb; obtain ⟨ba, oa, ca, rfl⟩ := hFa.placeN (mk_length _ _) h0p)
    | (go_at_call 26; have _t := tkc; refine Calls.mono (cFb.out _ _ hZ hB hW) ?_; rintro e w6 ⟨fbv, rfl, hFb, hb⟩; clear tkc; replace hZ := hZ.below hb; replace hX := hX.below hb; replace hY := hY.below hb; replace hC := hC.below hb; replace hFa := hFa.below hb; replace hW := hW.trans (hb.mono hW.size); clear hb; obtain ⟨bb, ob, cb, rfl⟩ := hFb.placeN (mk_length _ _) h0p)
    | (go_at_call 26; refine Calls.mono (cFc.out _ _ hZ hC hW) ?_; rintro e w7 ⟨fcv, rfl, hFc, hb⟩; replace hX := hX.below hb; replace hY := hY.below hb; replace hFa := hFa.below hb; replace hFb := hFb.below hb; replace hW := hW.trans (hb.mono hW.size); clear hb; obtain ⟨bc, oc, cc, rfl⟩ := hFc.placeN (mk_length _ _) h0p))
  clear hZ hA hB hC cSa cSb cCy cFa cFb cFc
  go_loopw [82] (fun vi wr => ∃ k : Nat, k ≤ n0 ∧ vi = .int .i64 (k : Int) ∧ Below w7.heap.size w7 wr)
    (fun vi _ => n0 - (intOf vi).toNat)
  case atStart => exact ⟨0, Nat.zero_le _, rfl, Below.refl _ _⟩
  case round =>
    obtain ⟨k, hk, rfl, hnx⟩ := hrel
    by_cases hlt : k < n0
    · have cc1 := (hFc.below hnx).cell k (by rw [mk_length]; exact hlt)
      have cc2 := (hFa.below hnx).cell k (by rw [mk_length]; exact hlt)
      have cc3 := (hFb.below hnx).cell k (by rw [mk_length]; exact hlt)
      rw [mk_getD _ _ _ hlt] at cc1 cc2 cc3
      have cMu := field_Mul (fA1 k).val (fB1 k).val (by have := lt_int (val_lt (fA1 k)); omega) (by have := lt_int (val_lt (fB1 k)); omega)
      rw [hval.out k hlt] at cMu
      generalize (fA1 k).val = z2 at *
      generalize (fB1 k).val = z3 at *
      generalize (fC1 k).val = z1 at *
      have hq1 : ((z1 : Int) != (z1 : Int)) = false := by simp
      clear hval hFa hFb hFc c1 c2 cF1 cF2 cM hfin hX hY rP rQ
      go_wp2
      go_quiet (first | (go_at_call 15; exact Calls.quiet_of_same (cMu _)))
      obtain ⟨w8, hw8⟩ : ∃ w8 : World, w8 = wr.drewN nq := ⟨_, rfl⟩
      rw [← hw8]
      have hnx8 : Below w7.heap.size w7 w8 := by rw [hw8]; exact below_drewN hnx _
      clear hw8 hnx cc1 cc2 cc3 cMu
      go_wp2
      go_roundw
      case rel => exact ⟨k + 1, by omega, by go_num, hnx8⟩
      case measure => simp only [intOf]; omega
    · have e : n0 = k := by omega
      subst e
      have hge0 : n0 ≤ n0 := Nat.le_refl _
      replace hX := hX.below hnx
      replace hY := hY.below hnx
      replace hW := hW.trans (hnx.mono hW.size)
      clear hval hFa hFb hFc hnx
      obtain ⟨wz, hwz⟩ : ∃ wz : World, wz = wr := ⟨_, rfl⟩
      rw [← hwz] at hX hY hW ⊢
      clear hwz
      have tks : True := trivial
      go_wp2_with (first
        | (go_at_call 9; have _t := tks; refine Calls.mono (c1.out _ _ hX) ?_; rintro e w11 ⟨g1, rfl, hP, hb⟩; clear tks; replace hY := hY.below hb; replace hW := hW.trans (hb.mono hW.size); clear hb)
        | (go_at_call 9; refine Calls.mono (c2.out _ _ hY) ?_; rintro e w12 ⟨g2, rfl, hQ, hb⟩; replace hP := hP.below hb; replace hW := hW.trans (hb.mono hW.size); clear hb))
      clear hX hY c1 c2
      go_loopw [26, 114] (fun vo vi wr => ∃ u t : Nat, u ≤ n1 ∧ Hid (t = u * n2) ∧ vi = .int .i64 (u : Int) ∧ wr.ownsRow w12.heap.size 23 1 vo t (cellsU (ou P1 Q1 n2 t)) ∧ Below w12.heap.size w12 wr)
        (fun _ vi _ => n1 - (intOf vi).toNat)
      case atStart => exact ⟨0, 0, Nat.zero_le _, (Nat.zero_mul _).symm, rfl, World.ownsRow_nil _ _ _ _, Below.refl _ _⟩
      case round =>
        obtain ⟨u, t, hu, ht, rfl, hown, hnx⟩ := hrel
        by_cases hlt : u < n1
        · have cellP := (hP.below hnx).cell u (by rw [lP.out]; exact hlt)
          rw [Nat.zero_add] at cellP
          have hpu64 := range_getD rP u
          obtain ⟨pu, hpu⟩ : ∃ pu, pu = P1.getD u 0 := ⟨_, rfl⟩
          rw [← hpu] at cellP hpu64
          have hpu' : Hid (pu = P1.getD u 0) := hpu
          clear hpu
          go_wp2
          obtain ⟨wo, hwo⟩ : ∃ wo : World, wo = wr := ⟨_, rfl⟩
          rw [← hwo] at hown hnx cellP ⊢
          clear hwo
          go_loopw [26, 120] (fun vo vj wr => ∃ v t2 : Nat, v ≤ n2 ∧ Hid (t2 = u * n2 + v) ∧ vj = .int .i64 (v : Int) ∧ wr.ownsRow w12.heap.size 23 1 vo t2 (cellsU (ou P1 Q1 n2 t2)) ∧ Below w12.heap.size w12 wr)
            (fun _ vj _ => n2 - (intOf vj).toNat)
          case atStart => exact ⟨0, t, Nat.zero_le _, by show t = u * n2 + 0; rw [ht.out]; rfl, rfl, hown, hnx⟩
          case round =>
            clear hown hnx cellP
            obtain ⟨v, t2, hv, ht2, rfl, hown, hnx⟩ := hrel
            by_cases hltv : v < n2
            · have cellQ := (hQ.below hnx).cell v (by rw [lQ.out]; exact hltv)
              rw [Nat.zero_add] at cellQ
              have cMu := field_Mul pu (Q1.getD v 0) hpu64 (range_getD rQ v)
              have hnew : Hid (∀ (w1 : World) (u' : Value), w1.ownsRow w12.heap.size 23 1 u' (t2 + 1) (cellsU (ou P1 Q1 n2 t2) ++ [.int .u64 ((fM pu (Q1.getD v 0) : Nat) : Int)]) → w1.ownsRow w12.heap.size 23 1 u' (t2 + 1) (cellsU (ou P1 Q1 n2 (t2 + 1)))) := fun w1 u' h => by
                rw [ht2.out] at h ⊢
                rw [ou_step _ _ _ _ _ hltv, cellsU_append, ← hpu'.out]; exact h
              have ht9 : t2 ≤ 1000000000 := by
                have hu64 : u ≤ 64 := by omega
                have h1 : u * n2 ≤ u * 64 := Nat.mul_le_mul_left u h64b
                rw [ht2.out]; omega
              have hnext : Hid (t2 + 1 = u * n2 + (v + 1)) := by show _ = _; rw [ht2.out]; omega
              clear ht2
              generalize fM pu (Q1.getD v 0) = z at *
              generalize Q1.getD v 0 = qv at *
              go_wp2_with (first
                | (go_at_call 15; refine Calls.mono (cMu _) ?_; rintro e w' ⟨rfl, hw⟩; rw [hw]; clear hw)
                | (at_builtin; refine wp_append1 rfl _ _ rfl _ _ _ _ rfl hown rfl ?c3 hnx ?_; rotate_right; intro u' w13 hown' hnx'))
              case c3 => exact ht9
              have hown2 := hnew.out _ _ hown'
              clear hown' hown hnew hnx cellQ
              go_wp2
              go_roundw
              case rel => exact ⟨v + 1, t2 + 1, by omega, hnext, by go_num, hown2, hnx'⟩
              case measure => simp only [intOf]; omega
            · have e : n2 = v := by omega
              subst e
              have hnext : Hid (t2 = (u + 1) * n2) := by show _ = _; rw [ht2.out, Nat.add_mul, Nat.one_mul]
              have hge : n2 ≤ n2 := Nat.le_refl _
              clear ht2
              go_wp2
              go_roundw
              case rel => exact ⟨u + 1, t2, by omega, hnext, by go_num, hown, hnx⟩
              case measure => simp only [intOf]; omega
        · have e : n1 = u := by omega
          subst e
          have hge : n1 ≤ n1 := Nat.le_refl _
          have htp : 0 < t := by rw [ht.out]; exact Nat.mul_pos hp1 hp2
          have ht9 : t ≤ 4096 := by rw [ht.out]; exact Nat.mul_le_mul h64a h64b
          have hO := IsU.of_owns hown (ou_rng _ _ _ _)
          obtain ⟨bo, oo, co, rfl⟩ := hO.placeN (ou_length _ _ _ _) htp
          have hW2 := hW.trans (hnx.mono hW.size)
          replace hP := hP.below hnx
          replace hQ := hQ.below hnx
          by_cases hbig : 1024 < t
          · clear hown ht cM cF1 cF2 hfin hP hQ hO
            have hend := hW2.trans ((below_alloc1 wr (.cells #[.int .i64 (n1 : Int), .int .i64 (n2 : Int)] 3)).mono hW2.size)
            go_wp2
            go_ret
            exact ⟨rfl, hend⟩
          · have hle : t ≤ 1024 := by omega
            have cM2 := cM.out
            have hfin2 : Hid (t ≤ 1024 → ∀ u v, u < n1 → v < n2 → who [n1, n2] false (cf (ou P1 Q1 n2 t)) 2 (u * n2 + v) = fw P1 j1 u * fw Q1 j2 v) := by
              show _
              have := hfin.out
              rw [← ht.out] at this
              exact this
            rw [← ht.out] at cM2
            have hZ2 := IsZ.lit2 wr 3 (n1 : Int) (n2 : Int) (by omega) (by omega)
            have hO2 := hO.below (below_alloc1 wr (.cells #[.int .i64 (n1 : Int), .int .i64 (n2 : Int)] 3))
            have hW3 := hW2.trans ((below_alloc1 wr (.cells #[.int .i64 (n1 : Int), .int .i64 (n2 : Int)] 3)).mono hW2.size)
            have cM3 := cM2 _ _ _ hZ2 hO2 hW3 hle
            have cF1' := cF1.out
            have cF2' := cF2.out
            have hix : Hid (∀ u v, u < n1 → v < n2 → u * n2 + v < t) := fun u v hu hv => by
              rw [ht.out]
              have : (u + 1) * n2 ≤ n1 * n2 := Nat.mul_le_mul_right _ hu
              rw [Nat.add_mul, Nat.one_mul] at this
              omega
            have hfv : Hid (∀ u v, u < n1 → v < n2 → fM (fw P1 j1 u).val (fw Q1 j2 v).val = (who [n1, n2] false (cf (ou P1 Q1 n2 t)) 2 (u * n2 + v)).val) := fun u v hu hv => by
              rw [hfin2.out hle u v hu hv, fM_val, toF_val, toF_val]
            clear hown ht cM cM2 hfin hfin2 hO hO2 hZ2 hbig hTb cF1 cF2
            generalize who [n1, n2] false (cf (ou P1 Q1 n2 t)) 2 = FW at *
            replace hP := hP.below (below_alloc1 wr (.cells #[.int .i64 (n1 : Int), .int .i64 (n2 : Int)] 3))
            replace hQ := hQ.below (below_alloc1 wr (.cells #[.int .i64 (n1 : Int), .int .i64 (n2 : Int)] 3))
            go_wp2_with (first
              | (go_at_call 26; refine Calls.mono cM3 ?_; rintro e w13 ⟨fv, rfl, hF, hb⟩; replace hP := hP.below hb; replace hQ := hQ.below hb; replace hW3 := hW3.trans (hb.mono hW3.size); clear hb cM3; obtain ⟨bf, of, cf1, rfl⟩ := hF.placeN (mk_length _ _) htp)
              | (go_at_call 10; refine Calls.mono (cF1' _ _ hP hW3) ?_; rintro e w14 ⟨fpv, rfl, hFp, hb⟩; clear cF1'; replace hQ := hQ.below hb; replace hF := hF.below hb; replace hW3 := hW3.trans (hb.mono hW3.size); clear hb; obtain ⟨bp, op, cp, rfl⟩ := hFp.placeN (mk_length _ _) hp1)
              | (go_at_call 10; refine Calls.mono (cF2' _ _ hQ hW3) ?_; rintro e w15 ⟨fqv, rfl, hFq, hb⟩; clear cF2'; replace hF := hF.below hb; replace hFp := hFp.below hb; replace hW3 := hW3.trans (hb.mono hW3.size); clear hb; obtain ⟨bq, oq, cq, rfl⟩ := hFq.placeN (mk_length _ _) hp2))
            clear hP hQ hnx hW2 hW
            go_loopw [158] (fun vi wr => ∃ u : Nat, u ≤ n1 ∧ vi = .int .i64 (u : Int) ∧ Below w15.heap.size w15 wr)
              (fun vi _ => n1 - (intOf vi).toNat)
            case atStart => exact ⟨0, Nat.zero_le _, rfl, Below.refl _ _⟩
            case round =>
              obtain ⟨u, hu, rfl, hnx⟩ := hrel
              by_cases hlt : u < n1
              · go_wp2
                obtain ⟨wo, hwo⟩ : ∃ wo : World, wo = wr := ⟨_, rfl⟩
                rw [← hwo] at hnx ⊢
                clear hwo
                go_loopw [163] (fun vj wr => ∃ v : Nat, v ≤ n2 ∧ vj = .int .i64 (v : Int) ∧ Below w15.heap.size w15 wr)
                  (fun vj _ => n2 - (intOf vj).toNat)
                case atStart => exact ⟨0, Nat.zero_le _, rfl, hnx⟩
                case round =>
                  clear hnx
                  obtain ⟨v, hv, rfl, hnx⟩ := hrel
                  by_cases hltv : v < n2
                  · have hmv := hix.out u v hlt hltv
                    have cc1 := (hF.below hnx).cell (u * n2 + v) (by rw [mk_length]; exact hmv)
                    have cc2 := (hFp.below hnx).cell u (by rw [mk_length]; exact hlt)
                    have cc3 := (hFq.below hnx).cell v (by rw [mk_length]; exact hltv)
                    rw [mk_getD _ _ _ hmv] at cc1
                    rw [mk_getD _ _ _ hlt] at cc2
                    rw [mk_getD _ _ _ hltv] at cc3
                    have cMu := field_Mul (fw P1 j1 u).val (fw Q1 j2 v).val (by have := lt_int (val_lt (fw P1 j1 u)); omega) (by have := lt_int (val_lt (fw Q1 j2 v)); omega)
                    rw [hfv.out u v hlt hltv] at cMu
                    have hmul : (u : Int) * (n2 : Int) = ((u * n2 : Nat) : Int) := by rw [Int.natCast_mul]
                    have hm9 : u * n2 ≤ 4096 := by omega
                    generalize (FW (u * n2 + v)).val = z1 at *
                    generalize (fw P1 j1 u).val = z2 at *
                    generalize (fw Q1 j2 v).val = z3 at *
                    generalize u * n2 = m0 at *
                    have hq1 : ((z1 : Int) != (z1 : Int)) = false := by simp
                    clear hfv hix hF hFp hFq
                    go_wp2
                    go_quiet (first | (go_at_call 15; exact Calls.quiet_of_same (cMu _)))
                    obtain ⟨w6, hw6⟩ : ∃ w6 : World, w6 = wr.drewN nq := ⟨_, rfl⟩
                    rw [← hw6]
                    have hnx6 : Below w15.heap.size w15 w6 := by rw [hw6]; exact below_drewN hnx _
                    clear hw6 hnx cc1 cc2 cc3 cMu hmul
                    go_wp2
                    go_roundw
                    case rel => exact ⟨v + 1, by omega, by go_num, hnx6⟩
                    case measure => simp only [intOf]; omega
                  · have e : n2 = v := by omega
                    subst e
                    have hge : n2 ≤ n2 := Nat.le_refl _
                    clear hfv hix hF hFp hFq
                    go_wp2
                    go_roundw
                    case rel => exact ⟨u + 1, by omega, by go_num, hnx⟩
                    case measure => simp only [intOf]; omega
              · have e : n1 = u := by omega
                subst e
                have hge : n1 ≤ n1 := Nat.le_refl _
                clear hfv hix hF hFp hFq
                go_wp2
                go_ret
                exact ⟨rfl, hW3.trans (hnx.mono hW3.size)⟩

theorem manyProducts_walk (w : World) (v : Value) (zs : List Int) (hZ : IsZ w v zs) (va : Value) (xs : List Nat) (hX : IsU w va xs) (vb : Value) (ys : List Nat) (hY : IsU w vb ys) (a3 : Int) (_h3 : (Lit.int .i64 a3).wf = true) (a4 : Int) (_h4 : (Lit.int .i64 a4).wf = true) (hTb : Tab w) :
    Calls Tryd.prog 7 #[v, va, vb, .int .i64 a3, .int .i64 a4] w fun e w' => e = .returned (.bool true) ∧ Below w.heap.size w w' := by
  obtain ⟨j1, e1⟩ : ∃ j : Nat, Int.tmod a3 4 % 7 = (j : Int) := ⟨(Int.tmod a3 4 % 7).toNat, by omega⟩
  obtain ⟨j2, e2⟩ : ∃ j : Nat, Int.tmod a4 4 % 7 = (j : Int) := ⟨(Int.tmod a4 4 % 7).toNat, by omega⟩
  have b1 := Int.tmod_lt_of_pos a3 (show (0 : Int) < 4 by decide)
  have b2 := Int.tmod_lt_of_pos a4 (show (0 : Int) < 4 by decide)
  have b3 := Int.lt_tmod_of_pos a3 (show (0 : Int) < 4 by decide)
  have b4 := Int.lt_tmod_of_pos a4 (show (0 : Int) < 4 by decide)
  by_cases hG : ∃ ds, Good zs ds ∧ prd2 ds ≤ 64
  · obtain ⟨ds, hG, hn⟩ := hG
    exact manyProducts_ok w v va vb zs ds xs ys a3 a4 _ _ j1 j2 _ _ hZ hX hY hTb hG hn rfl rfl ⟨by omega, b1⟩ ⟨by omega, b2⟩ e1 e2 (by omega) (by omega) rfl rfl
  · exact manyProducts_no w v va vb zs xs ys a3 a4 _ _ j1 j2 _ _ hZ hX hY hTb (fun ds h => by
      rcases Nat.lt_or_ge 64 (prd2 ds) with h1 | h1
      · exact h1
      · exact absurd ⟨ds, h, h1⟩ hG) rfl rfl ⟨by omega, b1⟩ ⟨by omega, b2⟩ e1 e2 (by omega) (by omega) rfl rfl

end Go.Proofs.YtgfnjbkhncjhhaeDoor
