/-
  Texts that stood one behind the other, as one.
-/
import Derived.Test.YtckoipoejaafhaaDoorNttOAll
import Derived.Test.YtckoipoejaafhaaDoorPure
import Derived.Test.YtckoipoejaafhaaDoorFieldAll
import Derived.BigQuiet
import Derived.Deep.RegionWith
import Derived.Test.YtckoipoejaafhaaDoorFieldRAll
import Derived.Test.YtckoipoejaafhaaDoorRefAll
namespace Go.Proofs.YtckoipoejaafhaaDoor
open Go.RowKit
set_option maxRecDepth 100000
set_option maxHeartbeats 2000000 in
theorem poly_addTimes (w : World) (g off n : Nat) (v : Value) (zs ys : List Nat) (c : Nat) (hrow : RowU w g zs) (hz : Rng zs) (h : IsU w v ys) (ha : Apart v g) (hl : off + ys.length ≤ zs.length) (hn : n = zs.length - off) (hm : zs.length ≤ 1000000000) (hc64 : (c : Int) < 18446744073709551616) :
    Calls Tryd.prog 70 #[.slice (some ⟨g, off, none⟩) n n, v, .int .u64 (c : Int)] w fun e w' => e = .returned (.tuple #[]) ∧ RowU w' g (addT zs off ys c) ∧ Bar g w w' := by
  have h0 := h
  obtain ⟨a, cap, rfl, hcap, hmax, hc, hr⟩ := h
  clear hcap hmax
  have hyn : ys.length ≤ n := by omega
  have hy9 : ys.length ≤ 1000000000 := by omega
  have hln : off + n ≤ 1000000000 := by omega
  clear hn
  go_enter Tryd.func70, Tryd.ntmps70
  go_wp2
  go_loopw [10] (fun vi wr => ∃ k : Nat, k ≤ ys.length ∧ vi = .int .i64 (k : Int) ∧ RowU wr g (addK zs off ys c k) ∧ Bar g w wr)
    (fun vi _ => ys.length - (intOf vi).toNat)
  case atStart => exact ⟨0, Nat.zero_le _, rfl, hrow, Bar.refl _ _⟩
  case round =>
    clear hrow
    obtain ⟨k, hk, rfl, hrow, hbar⟩ := hrel
    by_cases hlt : k < ys.length
    · obtain ⟨b, o', rfl, _⟩ := hc k hlt
      have hcell := (h0.bar ha hbar).cell k hlt
      have hlz : off + k < (addK zs off ys c k).length := by rw [addK_length]; omega
      have hcS := hrow.cell (off + k) hlz
      have hfr := hrow.frozen (off + k)
      have hset : Hid (∀ m : Nat, RowU ((wr.drewN m).setCell ⟨g, off + k, none⟩ (.int .u64 ((fA ((addK zs off ys c k).getD (off + k) 0) (fM (ys.getD k 0) c) : Nat) : Int))) g (addK zs off ys c (k + 1))) := fun m => (hrow.drewN m).set (off + k) _
      have x1 := range_getD hr k
      have x2 := range_getD (addK_rng zs off ys c k hz) (off + k)
      have c1 := field_Mul (ys.getD k 0) c x1 hc64
      have c2 := field_Add ((addK zs off ys c k).getD (off + k) 0) (fM (ys.getD k 0) c) x2 (by have := fM_lt (ys.getD k 0) c; omega)
      have hkn : k < n := by omega
      clear x1 x2 hlz hc hr h0 ha hz hc64
      generalize fA ((addK zs off ys c k).getD (off + k) 0) (fM (ys.getD k 0) c) = z at *
      generalize fM (ys.getD k 0) c = p at *
      generalize (addK zs off ys c k).getD (off + k) 0 = old at *
      generalize ys.getD k 0 = y at *
      go_wp2
      go_region_with (first
        | (go_at_call 22; refine Calls.mono (c1 _) ?_; rintro e w' ⟨rfl, hw⟩; rw [hw]; clear hw)
        | (go_at_call 48; refine Calls.mono (c2 _) ?_; rintro e w' ⟨rfl, hw⟩; rw [hw]; clear hw))
      all_goals
        clear hcell hcS hfr hrow
        go_wp2
        go_roundw
        case rel => exact ⟨k + 1, by omega, by go_num, hset.out 1, (hbar.drewN 1).setCell _ _⟩
        case measure => simp only [intOf]; omega
    · have e : k = ys.length := by omega
      subst e
      have hge : ys.length ≤ ys.length := Nat.le_refl _
      clear hc hr h0
      go_wp2
      go_end0
      exact ⟨rfl, hrow, hbar⟩
set_option maxHeartbeats 2000000 in
theorem poly_valueAt (w : World) (v : Value) (xs : List Nat) (x : Nat) (h : IsU w v xs) (hl : xs.length ≤ 1000000000) (hx : (x : Int) < 18446744073709551616) :
    Calls Tryd.prog 69 #[v, .int .u64 (x : Int)] w fun e w' => e = .returned (.int .u64 ((pE xs x : Nat) : Int)) ∧ ∃ m, w' = w.drewN m := by
  obtain ⟨a, cap, rfl, hcap, hmax, hc, hr⟩ := h
  clear hcap hmax
  go_enter Tryd.func69, Tryd.ntmps69
  go_wp2
  go_loopw [5, 6] (fun vo vi wr => ∃ (z : Int) (j : Nat), j ≤ xs.length ∧ z = (j : Int) - 1 ∧ vi = .int .i64 z ∧ vo = .int .u64 ((hv xs x j : Nat) : Int) ∧ Hid (∃ m, wr = w.drewN m))
    (fun _ vi _ => (intOf vi + 1).toNat)
  case atStart => exact ⟨_, xs.length, Nat.le_refl _, rfl, rfl, by rw [hv_end]; rfl, ⟨0, rfl⟩⟩
  case round =>
    obtain ⟨z, j, hj, hz, rfl, rfl, hq⟩ := hrel
    rcases Nat.eq_zero_or_pos j with hj0 | hj0
    · have e : z = -1 := by omega
      subst e
      subst hj0
      rw [hv_zero]
      clear hc hz
      go_wp2
      go_ret
      exact ⟨rfl, hq.out⟩
    · obtain ⟨i, rfl⟩ : ∃ i, j = i + 1 := ⟨j - 1, by omega⟩
      have e : z = (i : Int) := by omega
      subst e
      have hil : i < xs.length := by omega
      obtain ⟨b, off, rfl, hcell0⟩ := hc i hil
      have hcell : wr.cell? ⟨b, off + i, none⟩ = some (.int .u64 ((xs.getD i 0 : Nat) : Int)) := by obtain ⟨m, rfl⟩ := hq.out; exact hcell0
      clear hcell0
      have x1 := range_getD hr i
      have c1 := field_Mul (hv xs x (i + 1)) x (by have := hv_lt xs x (i + 1); omega) hx
      have c2 := field_Add (fM (hv xs x (i + 1)) x) (xs.getD i 0) (by have := fM_lt (hv xs x (i + 1)) x; omega) x1
      rw [hv_step xs x i hil] at c2
      clear hc hr x1 hx hz hj hj0
      generalize fM (hv xs x (i + 1)) x = p at *
      generalize xs.getD i 0 = y at *
      generalize hv xs x (i + 1) = q at *
      go_wp2
      go_quiet (first | (go_at_call 22; exact Calls.quiet_of_same (c1 _)) | (go_at_call 48; exact Calls.quiet_of_same (c2 _)))
      go_wp2
      go_roundw
      case rel => exact ⟨_, i, by omega, rfl, by go_num, rfl, by obtain ⟨m, rfl⟩ := hq.out; exact ⟨m + _, World.drewN_drewN _ _ _⟩⟩
      case measure => simp only [intOf]; omega
set_option maxHeartbeats 2000000 in
theorem poly_normal (w : World) (v : Value) (xs : List Nat) (h : IsU w v xs) (hl : xs.length ≤ 1000000000) :
    Calls Tryd.prog 72 #[v] w fun e w' => e = .returned (.slice (some ⟨w.heap.size, 0, none⟩) (sig xs) (sig xs)) ∧ RowU w' w.heap.size (pN xs) ∧ Below w.heap.size w w' := by
  obtain ⟨a, cap, rfl, hcap, hmax, hc, hr⟩ := h
  clear hcap hmax
  go_enter Tryd.func72, Tryd.ntmps72
  go_wp2
  go_loop [3] (fun vi => ∃ s : Nat, s ≤ xs.length ∧ vi = .int .i64 (s : Int) ∧ Hid (sig (xs.take s) = sig xs))
    (fun vi => (intOf vi).toNat)
  case atStart => exact ⟨xs.length, Nat.le_refl _, rfl, by show sig (xs.take xs.length) = sig xs; rw [List.take_length]⟩
  case round =>
    obtain ⟨s, hs, rfl, hsig⟩ := hrel
    by_cases hend : s = sig xs
    · have hst : s = 0 ∨ ∃ t, s = t + 1 ∧ t < xs.length ∧ fN (xs.getD t 0) ≠ 0 := by
        rcases Nat.eq_zero_or_pos s with h0 | h0
        · exact .inl h0
        · refine .inr ⟨s - 1, by omega, by omega, fun h => ?_⟩
          have := sig_step xs (s - 1) (by omega)
          rw [show s - 1 + 1 = s by omega, hsig.out, if_pos h] at this
          have h2 := sig_le (xs.take (s - 1))
          rw [List.length_take] at h2
          omega
      have hpn : Hid (∀ n, n = s → mk n (cf xs) = pN xs) := fun n hn => by rw [pN_mk, hn, hend]
      have hsg : Hid (sig xs = s) := hend.symm
      clear hsig hend
      have hs9 : s ≤ 1000000000 := by omega
      rcases hst with hs0 | ⟨t, hst, htl, hne⟩
      · subst hs0
        go_wp2_with (at_make; refine wp_makeR rfl _ _ rfl 0 rfl rfl hs9 ?_; intro w1 hrow hb1)
        go_loopw [25] (fun vi wr => ∃ k : Nat, k ≤ 0 ∧ vi = .int .i64 (k : Int) ∧ RowU wr w.heap.size (SL (0) k (cf xs)) ∧ Below w.heap.size w wr)
          (fun vi _ => 0 - (intOf vi).toNat)
        case atStart => exact ⟨0, Nat.zero_le _, rfl, hrow.cast (SL_zero _ _).symm, hb1⟩
        case round =>
          clear hrow hb1
          obtain ⟨k, hk, rfl, hrow, hnx⟩ := hrel
          have hsz := hnx.size
          obtain rfl : k = 0 := by omega
          rw [SL_full, hpn.out _ rfl] at hrow
          clear hc hr
          go_wp2
          go_ret
          exact ⟨by rw [hsg.out]; rfl, hrow, hnx⟩
      · subst hst
        obtain ⟨b, off, rfl, hcell⟩ := hc t htl
        have c1 := field_Norm (xs.getD t 0) (range_getD hr t)
        have hd : ((fN (xs.getD t 0) : Int) == 0) = false := by rw [beq_eq_false_iff_ne]; omega
        have hs9' : (t + 1 : Nat) ≤ 1000000000 := by omega
        clear hne
        generalize xs.getD t 0 = y at *
        go_wp2_with (first
          | (go_at_call 21; refine Calls.mono (c1 _) ?_; rintro e w' ⟨rfl, hw⟩; rw [hw]; clear hw)
          | (at_make; refine wp_makeR rfl _ _ rfl (t + 1) rfl rfl hs9' ?_; intro w1 hrow hb1))
        go_loopw [25] (fun vi wr => ∃ k : Nat, k ≤ t + 1 ∧ vi = .int .i64 (k : Int) ∧ RowU wr w.heap.size (SL (t + 1) k (cf xs)) ∧ Below w.heap.size w wr)
          (fun vi _ => t + 1 - (intOf vi).toNat)
        case atStart => exact ⟨0, Nat.zero_le _, rfl, hrow.cast (SL_zero _ _).symm, hb1⟩
        case round =>
          clear hrow hb1
          obtain ⟨k, hk, rfl, hrow, hnx⟩ := hrel
          have hsz := hnx.size
          by_cases hlt : k < t + 1
          · obtain ⟨b2, off2, he2, hcell2⟩ := hc k (by omega)
            simp only [Option.some.injEq, Addr.mk.injEq, and_true] at he2
            obtain ⟨rfl, rfl⟩ := he2
            have hcellk := (hnx.cell (block_lt hcell2)).trans hcell2
            have hlz : k < (SL (t + 1) k (cf xs)).length := by rw [SL_length _ hk]; exact hlt
            have hcS := hrow.cell k hlz
            have hfr := hrow.frozen k
            have hset := hrow.set k (cf xs k).val
            rw [SL_set _ hlt] at hset
            have c2 := field_Norm (xs.getD k 0) (range_getD hr k)
            rw [fN_val, show toF (xs.getD k 0) = cf xs k from rfl] at c2
            have hB2 := fun (u : Value) => hnx.setCell (p := ⟨w.heap.size, k, none⟩) (Nat.le_refl _) u
            clear hcell2 hlz hc hr hcell c1 hd
            generalize (SL (t + 1) k (cf xs)).getD k 0 = old at *
            generalize (cf xs k).val = z at *
            generalize xs.getD k 0 = y2 at *
            go_wp2_with (go_at_call 21; refine Calls.mono (c2 _) ?_; rintro e w' ⟨rfl, hw⟩; rw [hw]; clear hw)
            clear hcellk hcS hfr hrow
            go_roundw
            case rel => exact ⟨k + 1, by omega, by go_num, hset, hB2 _⟩
            case measure => simp only [intOf]; omega
          · have e : k = t + 1 := by omega
            rw [e, SL_full, hpn.out _ rfl] at hrow
            have hge : t + 1 ≤ k := by omega
            clear e hc hr hcell c1 hd
            go_wp2
            go_ret
            exact ⟨by rw [hsg.out]; rfl, hrow, hnx⟩
    · have hpos : s ≠ 0 := fun e => by
        subst e
        have := hsig.out
        simp [sig] at this
        exact hend this
      obtain ⟨t, rfl⟩ : ∃ t, s = t + 1 := ⟨s - 1, by omega⟩
      obtain ⟨b, off, rfl, hcell⟩ := hc t (by omega)
      have hst := sig_step xs t (by omega)
      rw [hsig.out] at hst
      by_cases hy : fN (xs.getD t 0) = 0
      · rw [if_pos hy] at hst
        have hst' : Hid (sig (xs.take t) = sig xs) := hst.symm
        have c1 := field_Norm (xs.getD t 0) (range_getD hr t)
        have hd : ((fN (xs.getD t 0) : Int) == 0) = true := by rw [beq_iff_eq]; omega
        clear hst hsig hend hpos hy hc hr
        generalize xs.getD t 0 = y at *
        go_wp2_with (go_at_call 21; refine Calls.mono (c1 _) ?_; rintro e w' ⟨rfl, hw⟩; rw [hw]; clear hw)
        go_round
        case rel => exact ⟨t, by omega, by go_num, hst'⟩
        case measure => simp only [intOf]; omega
      · rw [if_neg hy] at hst
        omega
set_option maxHeartbeats 2000000 in
theorem poly_anyLarge (w : World) (g n : Nat) (lens : List Nat) (h : ∀ i, i < n → ∃ a c, w.cell? ⟨g, i, none⟩ = some (.slice a (lens.getD i 0) c)) (hm : ∀ i, i < n → lens.getD i 0 ≤ 2048) (hn9 : n ≤ 2) :
    Calls Tryd.prog 67 #[.slice (some ⟨g, 0, none⟩) n n] w fun e w' => e = .returned (.bool false) ∧ w' = w := by
  go_enter Tryd.func67, Tryd.ntmps67
  go_wp2
  go_loop [7] (fun vi => ∃ k : Nat, k ≤ n ∧ vi = .int .i64 (k : Int)) (fun vi => n - (intOf vi).toNat)
  case atStart => exact ⟨0, Nat.zero_le _, rfl⟩
  case round =>
    obtain ⟨k, hk, rfl⟩ := hrel
    by_cases hlt : k < n
    · obtain ⟨a, c, hcell⟩ := h k hlt
      have hle := hm k hlt
      clear h hm
      generalize lens.getD k 0 = l at *
      go_wp2
      go_round
      case rel => exact ⟨k + 1, by omega, by go_num⟩
      case measure => simp only [intOf]; omega
    · have e : k = n := by omega
      subst e
      clear h hm
      go_wp2
      go_ret
      exact ⟨rfl, rfl⟩
theorem cell_new (w : World) (c : Array Value) (t i : Nat) (v : Value) (h : c[i]? = some v) : (w.alloc (.cells c t)).cell? ⟨w.heap.size, i, none⟩ = some v := by
  have e : (w.alloc (.cells c t)).heap[w.heap.size]? = some (.cells c t) := by
    show (w.heap.push _)[w.heap.size]? = _
    simp
  simp only [World.cell?, e]
  rw [h]; rfl
theorem any1 {w : World} {v : Value} {xs : List Nat} (t : Nat) (h : IsU w v xs) (hl : xs.length ≤ 2048) :
    Calls Tryd.prog 67 #[.slice (some ⟨w.heap.size, 0, none⟩) 1 1] (w.alloc (.cells #[v] t)) fun e w' => e = .returned (.bool false) ∧ w' = w.alloc (.cells #[v] t) := by
  obtain ⟨a, cap, rfl, _⟩ := h
  refine poly_anyLarge _ _ 1 [xs.length] (fun i hi => ⟨a, cap, ?_⟩) (fun i hi => ?_) (by omega)
  · obtain rfl : i = 0 := by omega
    exact cell_new _ _ _ _ _ rfl
  · obtain rfl : i = 0 := by omega
    exact hl
theorem any2 {w : World} {v v' : Value} {xs ys : List Nat} (t : Nat) (h : IsU w v xs) (h' : IsU w v' ys) (hl : xs.length ≤ 2048) (hl' : ys.length ≤ 2048) :
    Calls Tryd.prog 67 #[.slice (some ⟨w.heap.size, 0, none⟩) 2 2] (w.alloc (.cells #[v, v'] t)) fun e w' => e = .returned (.bool false) ∧ w' = w.alloc (.cells #[v, v'] t) := by
  obtain ⟨a, cap, rfl, _⟩ := h
  obtain ⟨a', cap', rfl, _⟩ := h'
  refine poly_anyLarge _ _ 2 [xs.length, ys.length] (fun i hi => ?_) (fun i hi => ?_) (by omega)
  · match i, hi with
    | 0, _ => exact ⟨a, cap, cell_new _ _ _ _ _ rfl⟩
    | 1, _ => exact ⟨a', cap', cell_new _ _ _ _ _ rfl⟩
  · match i, hi with
    | 0, _ => exact hl
    | 1, _ => exact hl'
theorem pN_rng (xs : List Nat) : Rng (pN xs) := Rng_of_P (pN_lt xs)
theorem normal_U (w : World) (v : Value) (xs : List Nat) (h : IsU w v xs) (hl : xs.length ≤ 1000000000) :
    Calls Tryd.prog 72 #[v] w fun e w' => ∃ u, e = .returned u ∧ IsU w' u (pN xs) ∧ Below w.heap.size w w' := by
  refine (poly_normal w v xs h hl).mono ?_
  rintro e w' ⟨rfl, hrow, hb⟩
  exact ⟨_, rfl, hrow.isUN (pN_rng xs) (by rw [pN_length]; have := sig_le xs; omega) (pN_length xs), hb⟩
set_option maxHeartbeats 1000000 in
theorem poly_Norm_ok (w : World) (v : Value) (xs : List Nat) (h : IsU w v xs) (hl : xs.length ≤ 2048) :
    Calls Tryd.prog 34 #[v] w fun e w' => ∃ u0, e = .returned (.tuple #[u0, .int .i64 0]) ∧ IsU w' u0 (pN xs) ∧ Below w.heap.size w w' := by
  have hl9 : xs.length ≤ 1000000000 := by omega
  have h0 := h
  obtain ⟨a, cap, rfl, -⟩ := h
  go_enter Tryd.func34, Tryd.ntmps34
  go_wp2_with (first
    | (go_at_call 67; refine Calls.mono (any1 _ h0 hl) ?_; rintro e w1 ⟨rfl, hw⟩; rw [hw]; clear hw)
    | (go_at_call 72; refine Calls.mono (normal_U _ _ xs (h0.below (below_alloc1 _ _)) hl9) ?_; rintro e w2 ⟨u, rfl, hU, hb⟩))
  go_ret2
  exact ⟨_, rfl, hU, below_alloc hb⟩
set_option maxHeartbeats 1000000 in
theorem poly_Eval_ok (w : World) (v : Value) (xs : List Nat) (x : Nat) (h : IsU w v xs) (hl : xs.length ≤ 2048) (hx : (x : Int) < 18446744073709551616) :
    Calls Tryd.prog 62 #[v, .int .u64 (x : Int)] w fun e w' => e = .returned (.tuple #[.int .u64 ((pE xs x : Nat) : Int), .int .i64 0]) ∧ Below w.heap.size w w' := by
  have hl9 : xs.length ≤ 1000000000 := by omega
  have cV := fun (W : World) (hU : IsU W v xs) => poly_valueAt W v xs x hU hl9 hx
  clear hx
  have h0 := h
  obtain ⟨a, cap, rfl, -⟩ := h
  go_enter Tryd.func62, Tryd.ntmps62
  go_wp2_with (first
    | (go_at_call 67; refine Calls.mono (any1 _ h0 hl) ?_; rintro e w1 ⟨rfl, hw⟩; rw [hw]; clear hw)
    | (go_at_call 69; refine Calls.mono (cV _ (h0.below (below_alloc1 _ _))) ?_; rintro e w2 ⟨rfl, hw⟩))
  go_ret2
  obtain ⟨m, rfl⟩ := hw
  exact ⟨rfl, below_drewN (below_alloc1 _ _) _⟩
theorem below_of_drew {w w' : World} (h : ∃ m, w' = w.drewN m) (B : Nat) : Below B w w' := by
  obtain ⟨m, rfl⟩ := h
  exact below_drewN (Below.refl _ _) m
end Go.Proofs.YtckoipoejaafhaaDoor
