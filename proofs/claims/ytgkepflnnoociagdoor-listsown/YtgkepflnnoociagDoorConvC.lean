/-
  What Cyclic, Skew and Linear of package conv answer.
-/
import Derived.Test.YtgkepflnnoociagDoorNttKAll
import Derived.Test.YtgkepflnnoociagDoorNttKAll
import Derived.Test.YtgkepflnnoociagDoorNttC
namespace Go.Proofs.YtgkepflnnoociagDoor
open Go.RowKit

theorem conv_Cyclic_form (w : World) (v v' : Value) (xs ys : List Nat) (h : IsU w v xs) (h' : IsU w v' ys) (hl : xs.length ≠ ys.length ∨ ∀ j, j ≤ 10 → xs.length ≠ 2 ^ j) :
    Calls Tryd.prog 26 #[v, v'] w fun e w' => ∃ u, e = .returned (.tuple #[u, .int .i64 5]) ∧ IsU w' u [] ∧ Below w.heap.size w w' := by
  by_cases hne : xs.length = ys.length
  · have hl2 : ∀ j, j ≤ 10 → xs.length ≠ 2 ^ j := by
      rcases hl with h1 | h1
      · exact absurd hne h1
      · exact h1
    have c := ntt_Forward_form w v xs h hl2
    obtain ⟨a, cap, rfl, -⟩ := h
    obtain ⟨a', cap', rfl, -⟩ := h'
    rw [← hne] at *
    clear hl hl2 hne
    generalize xs.length = N at *
    go_enter Tryd.func26, Tryd.ntmps26
    go_wp2_with (go_at_call 24; refine Calls.mono c ?_; rintro e w1 ⟨u, rfl, hU, hb⟩)
    go_ret2
    exact ⟨_, rfl, IsU.nil _, hb⟩
  · obtain ⟨a, cap, rfl, -⟩ := h
    obtain ⟨a', cap', rfl, -⟩ := h'
    have hb : (((xs.length : Nat) : Int) != ((ys.length : Nat) : Int)) = true := by rw [bne_iff_ne]; omega
    clear hl
    go_enter Tryd.func26, Tryd.ntmps26
    go_wp2
    go_ret2
    exact ⟨_, rfl, IsU.nil _, Below.refl _ _⟩

set_option maxHeartbeats 2000000 in
theorem conv_Cyclic_ok (w : World) (v v' : Value) (xs ys : List Nat) (k : Nat) (h : IsU w v xs) (h' : IsU w v' ys) (ht : Tab w) (hl : xs.length = 2 ^ k) (hl' : ys.length = 2 ^ k) (hk : k ≤ 10) :
    Calls Tryd.prog 26 #[v, v'] w fun e w' => ∃ u, e = .returned (.tuple #[u, .int .i64 0]) ∧ IsU w' u (mk xs.length (rnd xs ys false)) ∧ Below w.heap.size w w' := by
  have hfin := cyc_mu xs ys k (by omega) hl hl'
  have cA := fun (W : World) (hU : IsU W v xs) (hT : Tab W) => ntt_Forward_row W v xs k hU hT hl hk
  have cB := fun (W : World) (hU : IsU W v' ys) (hT : Tab W) => ntt_Forward_row W v' ys k hU hT hl' hk
  have cI := fun (W : World) (g : Nat) (zs : List Nat) (hU : IsU W (.slice (some ⟨g, 0, none⟩) (2 ^ k) (2 ^ k)) zs) (hT : Tab W) (hz : zs.length = 2 ^ k) => ntt_Inverse_ok W _ zs k hU hT hz hk
  have hlX := mk_length (2 ^ k) (fw xs k)
  have hlY := mk_length (2 ^ k) (fw ys k)
  have hPX := mk_lt (2 ^ k) (fw xs k)
  have hPY := mk_lt (2 ^ k) (fw ys k)
  have hfin' : Hid (∀ zs, muK (mk (2 ^ k) (fw xs k)) (mk (2 ^ k) (fw ys k)) (2 ^ k) = zs → mk (2 ^ k) (bw zs k) = mk xs.length (rnd xs ys false)) := fun zs e => by rw [← e, hfin, hl]
  clear hfin
  generalize mk xs.length (rnd xs ys false) = RL at *
  generalize mk (2 ^ k) (fw xs k) = X at *
  generalize mk (2 ^ k) (fw ys k) = Y at *
  have hA := h
  have hB := h'
  obtain ⟨a, cap, rfl, -⟩ := h
  obtain ⟨a', cap', rfl, -⟩ := h'
  have hN9 := (two_pow_bound k hk).2
  have hlX' : Hid (X.length = 2 ^ k) := hlX
  have hlY' : Hid (Y.length = 2 ^ k) := hlY
  obtain ⟨bk, hbk⟩ : ∃ f : List Nat → List Nat, ∀ zs, mk (2 ^ k) (bw zs k) = f zs := ⟨fun zs => mk (2 ^ k) (bw zs k), fun _ => rfl⟩
  simp only [hbk] at cI hfin'
  rw [hl, hl'] at *
  clear hlX hlY hl hl' hbk
  generalize 2 ^ k = N at *
  have ht0 := ht
  go_enter Tryd.func26, Tryd.ntmps26
  go_wp2_with (first
    | (go_at_call 24; refine Calls.mono (cA _ hA ht) ?_; rintro e w1 ⟨g, rfl, hg, hrow, hb⟩; clear cA; replace hB := hB.below hb; replace ht := ht.below hb; clear hA)
    | (go_at_call 24; refine Calls.mono (cB _ hB ht) ?_; rintro e w2 ⟨g2, rfl, hg2, hrow2, hb2⟩; clear cB; have hlt := hrow.lt; have hne : g2 ≠ g := (by omega); replace hrow := hrow.below hb2; replace hb := hb.trans (hb2.mono hb.size); clear hB hg2 hlt ht))
  go_loopw [31] (fun vi wr => ∃ i : Nat, i ≤ N ∧ vi = .int .i64 (i : Int) ∧ RowU wr g (muK X Y i) ∧ RowU wr g2 Y ∧ Below w.heap.size w wr)
    (fun vi _ => N - (intOf vi).toNat)
  case atStart => exact ⟨0, Nat.zero_le _, rfl, hrow, hrow2, hb⟩
  case round =>
    clear hrow hb hrow2 hb2
    obtain ⟨i, hi, rfl, hrow, hrow2, hnx⟩ := hrel
    by_cases hlt : i < N
    · have hcS := hrow.cell i (by rw [muK_length, hlX'.out]; exact hlt)
      have hc2 := hrow2.cell i (by rw [hlY'.out]; exact hlt)
      have hfr := hrow.frozen i
      have hset : Hid (∀ m : Nat, RowU ((wr.drewN m).setCell ⟨g, i, none⟩ (.int .u64 ((fM ((muK X Y i).getD i 0) (Y.getD i 0) : Nat) : Int))) g (muK X Y (i + 1))) := fun m => (hrow.drewN m).set i _
      have hset2 : Hid (∀ (m : Nat) (u : Value), RowU ((wr.drewN m).setCell ⟨g, i, none⟩ u) g2 Y) := fun m u => (hrow2.drewN m).bar hne ((Bar.refl g _).setCell i u)
      have cM := field_Mul ((muK X Y i).getD i 0) (Y.getD i 0) (range_getD (Rng_of_P (muK_P X Y i hPX)) _) (range_getD (Rng_of_P hPY) _)
      have hB2 : Hid (∀ (m : Nat) (u : Value), Below w.heap.size w ((wr.drewN m).setCell ⟨g, i, none⟩ u)) := fun m u => (show Below w.heap.size w (wr.drewN m) from ⟨hnx.os, hnx.tape, hnx.output, hnx.size, hnx.block⟩).setCell (p := ⟨g, i, none⟩) hg u
      clear hrow hrow2 hnx ht0 cI hPX hPY hne
      generalize fM ((muK X Y i).getD i 0) (Y.getD i 0) = z at *
      generalize (muK X Y i).getD i 0 = old at *
      generalize Y.getD i 0 = y at *
      go_wp2
      go_region_with (go_at_call 66; refine Calls.mono (cM _) ?_; rintro e w' ⟨rfl, hw⟩; rw [hw]; clear hw)
      all_goals
        clear hcS hc2 hfr
        go_wp2
        go_roundw
        case rel => exact ⟨i + 1, by omega, by go_num, hset.out 1, hset2.out 1 _, hB2.out 1 _⟩
        case measure => simp only [intOf]; omega
    · have e : N = i := by omega
      subst e
      have hlM : (muK X Y N).length = N := by rw [muK_length, hlX'.out]
      have hU := hrow.isUN (Rng_of_P (muK_P X Y N hPX)) (by rw [hlM]; omega) hlM
      have c := cI wr g (muK X Y N) hU (ht0.below hnx) hlM
      rw [hfin'.out _ rfl] at c
      have hge : N ≤ N := Nat.le_refl _
      clear hlM hU hrow hrow2 cI ht0 hPX hPY
      go_wp2_with (go_at_call 25; refine Calls.mono c ?_; rintro e w3 ⟨u, rfl, hR, hb3⟩)
      go_ret2
      exact ⟨_, rfl, hR, hnx.trans (hb3.mono hnx.size)⟩

/-- A root, and an inverse, of whatever number: some number of 64 bits, and some error. -/
theorem field_Root_any (k : Nat) : ∃ (r : Nat) (z : Int), (r : Int) < 18446744073709551616 ∧ ∀ w, Calls Tryd.prog 63 #[.int .i64 (k : Int)] w fun e w' => e = .returned (.tuple #[.int .u64 (r : Int), .int .i64 z]) ∧ w' = w := by
  by_cases h : (k : Int) ≤ 32
  · exact ⟨_, _, by have := fW_lt 7 (18446744069414584320 / 2 ^ k); omega, fun w => field_Root_in k h w⟩
  · exact ⟨0, 1, by decide, fun w => field_Root_out (k : Int) (Or.inr (by omega)) w⟩
theorem field_Inv_any (a : Nat) (ha : (a : Int) < 18446744073709551616) : ∃ (r : Nat) (z : Int), (r : Int) < 18446744073709551616 ∧ ∀ w, Calls Tryd.prog 65 #[.int .u64 (a : Int)] w fun e w' => e = .returned (.tuple #[.int .u64 (r : Int), .int .i64 z]) ∧ w' = w := by
  by_cases h : fN a = 0
  · exact ⟨0, 4, by decide, fun w => field_Inv_none a ha h w⟩
  · exact ⟨_, _, by have := fW_lt a 18446744069414584319; omega, fun w => field_Inv_some a ha h w⟩

theorem conv_Skew_form (w : World) (v v' : Value) (xs ys : List Nat) (h : IsU w v xs) (h' : IsU w v' ys) (hn : xs.length ≤ 35184372088832) (hn' : ys.length ≤ 35184372088832) (hl : xs.length ≠ ys.length ∨ ∀ j, j ≤ 10 → xs.length ≠ 2 ^ j) :
    Calls Tryd.prog 27 #[v, v'] w fun e w' => ∃ u, e = .returned (.tuple #[u, .int .i64 5]) ∧ IsU w' u [] ∧ Below w.heap.size w w' := by
  have c0 := fun (W : World) => bits_Len xs.length W (by omega)
  obtain ⟨r, z1, hr64, c1⟩ := field_Root_any (bl64 xs.length)
  obtain ⟨b, z2, hb64, c2⟩ := field_Inv_any r hr64
  have cA := fun (W : World) (hU : IsU W v xs) => conv_weighed W v xs r hU hr64 hn
  have cB := fun (W : World) (hU : IsU W v' ys) => conv_weighed W v' ys r hU hr64 hn'
  have cC := fun (W : World) (g1 g2 : Nat) (h1 : RowU W g1 (wg xs r)) (h2 : RowU W g2 (wg ys r)) => conv_Cyclic_form W (.slice (some ⟨g1, 0, none⟩) xs.length xs.length) (.slice (some ⟨g2, 0, none⟩) ys.length ys.length) (wg xs r) (wg ys r)
    (h1.isUW (Rng_of_P (wgK_P _ _ _)) (by rw [wg_length]; exact hn) (wg_length _ _)) (h2.isUW (Rng_of_P (wgK_P _ _ _)) (by rw [wg_length]; exact hn') (wg_length _ _)) (by rw [wg_length, wg_length]; exact hl)
  have hA := h
  have hB := h'
  obtain ⟨a, cap, rfl, -⟩ := h
  obtain ⟨a', cap', rfl, -⟩ := h'
  clear hl hr64 hb64
  generalize wg xs r = X at *
  generalize wg ys r = Y at *
  generalize bl64 xs.length = k at *
  go_enter Tryd.func27, Tryd.ntmps27
  go_wp2_with (first
    | (go_at_call 67; refine Calls.mono (c0 _) ?_; rintro e w' ⟨rfl, hw⟩; rw [hw]; clear hw)
    | (go_at_call 63; refine Calls.mono (c1 _) ?_; rintro e w' ⟨rfl, hw⟩; rw [hw]; clear hw)
    | (go_at_call 65; refine Calls.mono (c2 _) ?_; rintro e w' ⟨rfl, hw⟩; rw [hw]; clear hw)
    | (go_at_call 68; refine Calls.mono (cA _ hA) ?_; rintro e w1 ⟨g1, rfl, hg1, hrow1, hb1⟩; clear cA; replace hB := hB.below hb1; clear hA)
    | (go_at_call 68; refine Calls.mono (cB _ hB) ?_; rintro e w2 ⟨g2, rfl, hg2, hrow2, hb2⟩; clear cB; replace hrow1 := hrow1.below hb2; replace hb1 := hb1.trans (hb2.mono hb1.size); clear hB)
    | (go_at_call 26; refine Calls.mono (cC _ g1 g2 hrow1 hrow2) ?_; rintro e w3 ⟨u, rfl, hU, hb3⟩))
  go_ret2
  exact ⟨_, rfl, IsU.nil _, hb1.trans (hb3.mono hb1.size)⟩

set_option maxHeartbeats 1000000 in
theorem conv_Skew_ok (w : World) (v v' : Value) (xs ys : List Nat) (k : Nat) (h : IsU w v xs) (h' : IsU w v' ys) (ht : Tab w) (hl : xs.length = 2 ^ k) (hl' : ys.length = 2 ^ k) (hk : k ≤ 10) :
    Calls Tryd.prog 27 #[v, v'] w fun e w' => ∃ u, e = .returned (.tuple #[u, .int .i64 0]) ∧ IsU w' u (mk xs.length (rnd xs ys true)) ∧ Below w.heap.size w w' := by
  have hN9 := (two_pow_bound k hk).2
  have c0 := fun (W : World) => bits_Len xs.length W (by omega)
  rw [hl, bl64_pow k hk] at c0
  have c1 := field_Root_in (k + 1) (by omega)
  rw [show fW 7 (18446744069414584320 / 2 ^ (k + 1)) = rt (k + 1) from rfl] at c1
  have hr64 := rt_64 (k + 1)
  have c2 := field_Inv_some (rt (k + 1)) hr64 (rt_ne (k + 1) (by omega))
  have hb64 : ((fW (rt (k + 1)) 18446744069414584319 : Nat) : Int) < 18446744073709551616 := by have := fW_lt (rt (k + 1)) 18446744069414584319; omega
  have hfin := skew_way xs ys k hk hl hl' (rt (k + 1)) (fW (rt (k + 1)) 18446744069414584319) rfl rfl
  generalize fW (rt (k + 1)) 18446744069414584319 = b at *
  generalize rt (k + 1) = r at *
  have cA := fun (W : World) (hU : IsU W v xs) => conv_weighed W v xs r hU hr64 (by omega)
  have cB := fun (W : World) (hU : IsU W v' ys) => conv_weighed W v' ys r hU hr64 (by omega)
  have cC := fun (W : World) (g1 g2 : Nat) (h1 : RowU W g1 (wg xs r)) (h2 : RowU W g2 (wg ys r)) (hT : Tab W) => conv_Cyclic_ok W (.slice (some ⟨g1, 0, none⟩) xs.length xs.length) (.slice (some ⟨g2, 0, none⟩) ys.length ys.length) (wg xs r) (wg ys r) k
    (h1.isUW (Rng_of_P (wgK_P _ _ _)) (by rw [wg_length]; omega) (wg_length _ _)) (h2.isUW (Rng_of_P (wgK_P _ _ _)) (by rw [wg_length]; omega) (wg_length _ _)) hT (by rw [wg_length]; exact hl) (by rw [wg_length]; exact hl') hk
  rw [wg_length] at cC
  have hlR := mk_length xs.length (rnd (wg xs r) (wg ys r) false)
  have hlS := mk_length xs.length (rnd xs ys true)
  have hPS := mk_lt xs.length (rnd xs ys true)
  generalize mk xs.length (rnd (wg xs r) (wg ys r) false) = RL at *
  have cD := fun (W : World) (u : Value) (hU : IsU W u RL) => conv_weighed W u RL b hU hb64 (by omega)
  rw [hfin] at cD
  generalize mk xs.length (rnd xs ys true) = SL at *
  have hlS' : Hid (SL.length = RL.length) := by show _ = _; omega
  have hR9 : Hid (RL.length ≤ 35184372088832) := by show _ ≤ _; omega
  have hA := h
  have hB := h'
  obtain ⟨a, cap, rfl, -⟩ := h
  obtain ⟨a', cap', rfl, -⟩ := h'
  clear hr64 hb64 hfin hlR hlS
  generalize wg xs r = X at *
  generalize wg ys r = Y at *
  rw [hl, hl'] at *
  clear hl hl'
  generalize 2 ^ k = N at *
  go_enter Tryd.func27, Tryd.ntmps27
  go_wp2_with (first
    | (go_at_call 67; refine Calls.mono (c0 _) ?_; rintro e w' ⟨rfl, hw⟩; rw [hw]; clear hw)
    | (go_at_call 63; refine Calls.mono (c1 _) ?_; rintro e w' ⟨rfl, hw⟩; rw [hw]; clear hw)
    | (go_at_call 65; refine Calls.mono (c2 _) ?_; rintro e w' ⟨rfl, hw⟩; rw [hw]; clear hw)
    | (go_at_call 68; refine Calls.mono (cA _ hA) ?_; rintro e w1 ⟨g1, rfl, hg1, hrow1, hb1⟩; clear cA; replace hB := hB.below hb1; clear hA)
    | (go_at_call 68; refine Calls.mono (cB _ hB) ?_; rintro e w2 ⟨g2, rfl, hg2, hrow2, hb2⟩; clear cB; replace hrow1 := hrow1.below hb2; replace hb1 := hb1.trans (hb2.mono hb1.size); clear hB)
    | (go_at_call 26; refine Calls.mono (cC _ g1 g2 hrow1 hrow2 (ht.below hb1)) ?_; rintro e w3 ⟨u, rfl, hU, hb3⟩; clear cC)
    | (go_at_call 68; refine Calls.mono (cD _ u hU) ?_; rintro e w4 ⟨g4, rfl, hg4, hrow4, hb4⟩))
  go_ret2
  exact ⟨_, rfl, hrow4.isUW (Rng_of_P hPS) (by rw [hlS'.out]; exact hR9.out) hlS'.out, (hb1.trans (hb3.mono hb1.size)).trans (hb4.mono (hb1.trans (hb3.mono hb1.size)).size)⟩

theorem conv_Linear_large (w : World) (v v' : Value) (xs ys : List Nat) (h : IsU w v xs) (h' : IsU w v' ys) (hl : 1024 < xs.length ∨ 1024 < ys.length ∨ (0 < xs.length ∧ 0 < ys.length ∧ 1025 < xs.length + ys.length)) :
    Calls Tryd.prog 28 #[v, v'] w fun e w' => ∃ u, e = .returned (.tuple #[u, .int .i64 2]) ∧ IsU w' u [] ∧ Below w.heap.size w w' := by
  obtain ⟨a, cap, rfl, -⟩ := h
  obtain ⟨a', cap', rfl, -⟩ := h'
  generalize xs.length = n at *
  generalize ys.length = m at *
  by_cases h1 : 1024 < n
  · clear hl
    go_enter Tryd.func28, Tryd.ntmps28
    go_wp2
    go_ret2
    exact ⟨_, rfl, IsU.nil _, Below.refl _ _⟩
  · have h1' : n ≤ 1024 := by omega
    by_cases h2 : 1024 < m
    · clear hl h1
      go_enter Tryd.func28, Tryd.ntmps28
      go_wp2
      go_ret2
      exact ⟨_, rfl, IsU.nil _, Below.refl _ _⟩
    · have h2' : m ≤ 1024 := by omega
      have h3 : 0 < n := by omega
      have h4 : 0 < m := by omega
      have h5 : 1025 < n + m := by omega
      have b1 : ((n : Int) == 0) = false := by rw [beq_eq_false_iff_ne]; omega
      have b2 : ((m : Int) == 0) = false := by rw [beq_eq_false_iff_ne]; omega
      clear hl h1 h2
      go_enter Tryd.func28, Tryd.ntmps28
      go_wp2
      go_ret2
      exact ⟨_, rfl, IsU.nil _, Below.refl _ _⟩

theorem conv_Linear_none (w : World) (v v' : Value) (xs ys : List Nat) (h : IsU w v xs) (h' : IsU w v' ys) (hl : xs.length ≤ 1024) (hl' : ys.length ≤ 1024) (hs : xs.length = 0 ∨ ys.length = 0) :
    Calls Tryd.prog 28 #[v, v'] w fun e w' => ∃ u, e = .returned (.tuple #[u, .int .i64 0]) ∧ IsU w' u (pM xs ys) ∧ Below w.heap.size w w' := by
  have hz : pM xs ys = [] := by unfold pM; rw [if_pos hs]
  rw [hz]
  clear hz
  obtain ⟨a, cap, rfl, -⟩ := h
  obtain ⟨a', cap', rfl, -⟩ := h'
  generalize xs.length = n at *
  generalize ys.length = m at *
  by_cases h1 : n = 0
  · subst h1
    clear hs
    go_enter Tryd.func28, Tryd.ntmps28
    go_wp2
    go_ret2
    exact ⟨_, rfl, IsU.nil _, Below.refl _ _⟩
  · have h2 : m = 0 := by omega
    subst h2
    have h3 : 0 < n := by omega
    clear hs h1
    go_enter Tryd.func28, Tryd.ntmps28
    go_wp2
    go_ret2
    exact ⟨_, rfl, IsU.nil _, Below.refl _ _⟩

set_option maxHeartbeats 1000000 in
theorem conv_Linear_some (w : World) (v v' : Value) (xs ys : List Nat) (h : IsU w v xs) (h' : IsU w v' ys) (ht : Tab w) (h1 : 0 < xs.length) (h2 : 0 < ys.length) (hs : xs.length + ys.length ≤ 1025) :
    Calls Tryd.prog 28 #[v, v'] w fun e w' => ∃ u, e = .returned (.tuple #[u, .int .i64 0]) ∧ IsU w' u (pM xs ys) ∧ Below w.heap.size w w' := by
  have c0 := fun (W : World) => bits_Len (xs.length + ys.length - 1 - 1) W (by omega)
  obtain ⟨hk, hroom⟩ := bl64_room (xs.length + ys.length - 1 - 1) (by omega)
  generalize bl64 (xs.length + ys.length - 1 - 1) = k at *
  obtain ⟨hpow, hN9⟩ := two_pow_bound k hk
  have hN9' : 2 ^ k ≤ 1000000000 := by omega
  have hxN : xs.length ≤ 2 ^ k := by omega
  have hyN : ys.length ≤ 2 ^ k := by omega
  have hSN : xs.length + ys.length - 1 ≤ 2 ^ k := by omega
  have cA := fun (W : World) (hU : IsU W v xs) => conv_widened W v xs (2 ^ k) hU hxN hN9'
  have cB := fun (W : World) (hU : IsU W v' ys) => conv_widened W v' ys (2 ^ k) hU hyN hN9'
  have lX : (lay (List.replicate (2 ^ k) 0) 0 xs).length = 2 ^ k := by rw [lay_length (by simp; omega)]; simp
  have lY : (lay (List.replicate (2 ^ k) 0) 0 ys).length = 2 ^ k := by rw [lay_length (by simp; omega)]; simp
  have rX : Rng (lay (List.replicate (2 ^ k) 0) 0 xs) := lay_rng (Rng_replicate _) h.range
  have rY : Rng (lay (List.replicate (2 ^ k) 0) 0 ys) := lay_rng (Rng_replicate _) h'.range
  have hfin : (mk (lay (List.replicate (2 ^ k) 0) 0 xs).length (rnd (lay (List.replicate (2 ^ k) 0) 0 xs) (lay (List.replicate (2 ^ k) 0) 0 ys) false)).take (xs.length + ys.length - 1) = pM xs ys :=
    lin_take xs ys _ _ (by omega) (by omega) (by rw [lX]; exact hSN) fun j => rnd_lin xs ys _ _ (fun i => lay_zeros _ _ hxN i) (fun i => lay_zeros _ _ hyN i) (by rw [lX]; omega) j
  have hlR := mk_length (lay (List.replicate (2 ^ k) 0) 0 xs).length (rnd (lay (List.replicate (2 ^ k) 0) 0 xs) (lay (List.replicate (2 ^ k) 0) 0 ys) false)
  generalize lay (List.replicate (2 ^ k) 0) 0 xs = X at *
  generalize lay (List.replicate (2 ^ k) 0) 0 ys = Y at *
  have cC := fun (W : World) (g1 g2 : Nat) (h1 : RowU W g1 X) (h2 : RowU W g2 Y) (hT : Tab W) => conv_Cyclic_ok W (.slice (some ⟨g1, 0, none⟩) (2 ^ k) (2 ^ k)) (.slice (some ⟨g2, 0, none⟩) (2 ^ k) (2 ^ k)) X Y k
    (h1.isUN rX (by rw [lX]; omega) lX) (h2.isUN rY (by rw [lY]; omega) lY) hT lX lY hk
  generalize mk X.length (rnd X Y false) = RL at *
  have hlR' : Hid (RL.length = 2 ^ k) := by show _ = _; rw [hlR, lX]
  have hfin' : Hid (RL.take (xs.length + ys.length - 1) = pM xs ys) := hfin
  generalize pM xs ys = ZL at *
  have hA := h
  have hB := h'
  obtain ⟨a, cap, rfl, -⟩ := h
  obtain ⟨a', cap', rfl, -⟩ := h'
  clear hfin hlR lX lY rX rY hroom hN9'
  have hc0 : ((xs.length + ys.length - 1 - 1 : Nat) : Int) = (xs.length : Int) + (ys.length : Int) - 1 - 1 := by omega
  rw [hc0] at c0
  clear hc0
  generalize xs.length = n at *
  generalize ys.length = m at *
  have b1 : ((n : Int) == 0) = false := by rw [beq_eq_false_iff_ne]; omega
  have b2 : ((m : Int) == 0) = false := by rw [beq_eq_false_iff_ne]; omega
  have b3 : n ≤ 1024 := by omega
  have b4 : m ≤ 1024 := by omega
  generalize 2 ^ k = N at *
  go_enter Tryd.func28, Tryd.ntmps28
  go_wp2_with (first
    | (go_at_call 67; refine Calls.mono (c0 _) ?_; rintro e w' ⟨rfl, hw⟩; rw [hw]; clear hw)
    | (go_at_call 69; refine Calls.mono (cA _ hA) ?_; rintro e w1 ⟨g1, rfl, hg1, hrow1, hb1⟩; clear cA; replace hB := hB.below hb1; clear hA)
    | (go_at_call 69; refine Calls.mono (cB _ hB) ?_; rintro e w2 ⟨g2, rfl, hg2, hrow2, hb2⟩; clear cB; replace hrow1 := hrow1.below hb2; replace hb1 := hb1.trans (hb2.mono hb1.size); clear hB)
    | (go_at_call 26; refine Calls.mono (cC _ g1 g2 hrow1 hrow2 (ht.below hb1)) ?_; rintro e w3 ⟨u, rfl, hU, hb3⟩; clear cC; have hU0 := hU; obtain ⟨a3, cap3, rfl, hcap3, -⟩ := hU; have hUl := hlR'.out; rw [hUl] at hcap3 ⊢; have hT := hU0.take (n := n + m - 1) (by omega); rw [hfin'.out] at hT; clear hU0 hUl))
  go_ret2
  exact ⟨_, rfl, hT, hb1.trans (hb3.mono hb1.size)⟩
theorem conv_Linear_ok (w : World) (v v' : Value) (xs ys : List Nat) (h : IsU w v xs) (h' : IsU w v' ys) (ht : Tab w) (hl : xs.length ≤ 1024) (hl' : ys.length ≤ 1024) (hs : xs.length = 0 ∨ ys.length = 0 ∨ xs.length + ys.length ≤ 1025) :
    Calls Tryd.prog 28 #[v, v'] w fun e w' => ∃ u, e = .returned (.tuple #[u, .int .i64 0]) ∧ IsU w' u (pM xs ys) ∧ Below w.heap.size w w' := by
  by_cases h0 : xs.length = 0 ∨ ys.length = 0
  · exact conv_Linear_none w v v' xs ys h h' hl hl' h0
  · exact conv_Linear_some w v v' xs ys h h' ht (by omega) (by omega) (by omega)

end Go.Proofs.YtgkepflnnoociagDoor
