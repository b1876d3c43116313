/-
  What the helpers of package poly answer: a list too large, the normal form, a multiple added, a value.
-/
import Derived.Test.YtgkepflnnoociagDoorRowU
import Derived.Test.YtgkepflnnoociagDoorPure
import Derived.Test.YtgkepflnnoociagDoorFieldB
import Derived.BigQuiet
import Derived.Deep.RegionWith
namespace Go.Proofs.YtgkepflnnoociagDoor
open Go.RowKit

set_option maxHeartbeats 2000000 in
theorem poly_addTimes (w : World) (g off n : Nat) (v : Value) (zs ys : List Nat) (c : Nat) (hrow : RowU w g zs) (hz : Rng zs) (h : IsU w v ys) (ha : Apart v g) (hl : off + ys.length ≤ zs.length) (hn : n = zs.length - off) (hm : zs.length ≤ 1000000000) (hc64 : (c : Int) < 18446744073709551616) :
    Calls Tryd.prog 60 #[.slice (some ⟨g, off, none⟩) n n, v, .int .u64 (c : Int)] w fun e w' => e = .returned (.tuple #[]) ∧ RowU w' g (addT zs off ys c) ∧ Bar g w w' := by
  have h0 := h
  obtain ⟨a, cap, rfl, hcap, hmax, hc, hr⟩ := h
  clear hcap hmax
  have hyn : ys.length ≤ n := by omega
  have hy9 : ys.length ≤ 1000000000 := by omega
  have hln : off + n ≤ 1000000000 := by omega
  clear hn
  go_enter Tryd.func60, Tryd.ntmps60
  go_wp2
  go_loopw [10] (fun vi wr => ∃ k : Nat, k ≤ ys.length ∧ vi = .int .i64 (k : Int) ∧ RowU wr g (addK zs off ys c k) ∧ Bar g w wr)
    (fun vi _ => ys.length - (intOf vi).toNat)
  case atStart => exact ⟨0, Nat.zero_le _, rfl, hrow, Bar.refl _ _⟩
  case round =>
    clear hrow
    obtain ⟨k, hk, rfl, hrow, hbar⟩ := hrel
    by_cases hlt : k < ys.length
    · obtain ⟨b, o', rfl, _⟩ := hc k hlt
      have hcell := (h0.bar ha hbar).cell k hlt
      have hlz : off + k < (addK zs off ys c k).length := by rw [addK_length]; omega
      have hcS := hrow.cell (off + k) hlz
      have hfr := hrow.frozen (off + k)
      have hset : Hid (∀ m : Nat, RowU ((wr.drewN m).setCell ⟨g, off + k, none⟩ (.int .u64 ((fA ((addK zs off ys c k).getD (off + k) 0) (fM (ys.getD k 0) c) : Nat) : Int))) g (addK zs off ys c (k + 1))) := fun m => (hrow.drewN m).set (off + k) _
      have x1 := range_getD hr k
      have x2 := range_getD (addK_rng zs off ys c k hz) (off + k)
      have c1 := field_Mul (ys.getD k 0) c x1 hc64
      have c2 := field_Add ((addK zs off ys c k).getD (off + k) 0) (fM (ys.getD k 0) c) x2 (by have := fM_lt (ys.getD k 0) c; omega)
      have hkn : k < n := by omega
      clear x1 x2 hlz hc hr h0 ha hz hc64
      generalize fA ((addK zs off ys c k).getD (off + k) 0) (fM (ys.getD k 0) c) = z at *
      generalize fM (ys.getD k 0) c = p at *
      generalize (addK zs off ys c k).getD (off + k) 0 = old at *
      generalize ys.getD k 0 = y at *
      go_wp2
      go_region_with (first
        | (go_at_call 66; refine Calls.mono (c1 _) ?_; rintro e w' ⟨rfl, hw⟩; rw [hw]; clear hw)
        | (go_at_call 93; refine Calls.mono (c2 _) ?_; rintro e w' ⟨rfl, hw⟩; rw [hw]; clear hw))
      all_goals
        clear hcell hcS hfr hrow
        go_wp2
        go_roundw
        case rel => exact ⟨k + 1, by omega, by go_num, hset.out 1, (hbar.drewN 1).setCell _ _⟩
        case measure => simp only [intOf]; omega
    · have e : k = ys.length := by omega
      subst e
      have hge : ys.length ≤ ys.length := Nat.le_refl _
      clear hc hr h0
      go_wp2
      go_end0
      exact ⟨rfl, hrow, hbar⟩

set_option maxHeartbeats 2000000 in
theorem poly_valueAt (w : World) (v : Value) (xs : List Nat) (x : Nat) (h : IsU w v xs) (hl : xs.length ≤ 1000000000) (hx : (x : Int) < 18446744073709551616) :
    Calls Tryd.prog 92 #[v, .int .u64 (x : Int)] w fun e w' => e = .returned (.int .u64 ((pE xs x : Nat) : Int)) ∧ ∃ m, w' = w.drewN m := by
  obtain ⟨a, cap, rfl, hcap, hmax, hc, hr⟩ := h
  clear hcap hmax
  go_enter Tryd.func92, Tryd.ntmps92
  go_wp2
  go_loopw [5, 6] (fun vo vi wr => ∃ (z : Int) (j : Nat), j ≤ xs.length ∧ z = (j : Int) - 1 ∧ vi = .int .i64 z ∧ vo = .int .u64 ((hv xs x j : Nat) : Int) ∧ Hid (∃ m, wr = w.drewN m))
    (fun _ vi _ => (intOf vi + 1).toNat)
  case atStart => exact ⟨_, xs.length, Nat.le_refl _, rfl, rfl, by rw [hv_end]; rfl, ⟨0, rfl⟩⟩
  case round =>
    obtain ⟨z, j, hj, hz, rfl, rfl, hq⟩ := hrel
    rcases Nat.eq_zero_or_pos j with hj0 | hj0
    · have e : z = -1 := by omega
      subst e
      subst hj0
      rw [hv_zero]
      clear hc hz
      go_wp2
      go_ret
      exact ⟨rfl, hq.out⟩
    · obtain ⟨i, rfl⟩ : ∃ i, j = i + 1 := ⟨j - 1, by omega⟩
      have e : z = (i : Int) := by omega
      subst e
      have hil : i < xs.length := by omega
      obtain ⟨b, off, rfl, hcell0⟩ := hc i hil
      have hcell : wr.cell? ⟨b, off + i, none⟩ = some (.int .u64 ((xs.getD i 0 : Nat) : Int)) := by obtain ⟨m, rfl⟩ := hq.out; exact hcell0
      clear hcell0
      have x1 := range_getD hr i
      have c1 := field_Mul (hv xs x (i + 1)) x (by have := hv_lt xs x (i + 1); omega) hx
      have c2 := field_Add (fM (hv xs x (i + 1)) x) (xs.getD i 0) (by have := fM_lt (hv xs x (i + 1)) x; omega) x1
      rw [hv_step xs x i hil] at c2
      clear hc hr x1 hx hz hj hj0
      generalize fM (hv xs x (i + 1)) x = p at *
      generalize xs.getD i 0 = y at *
      generalize hv xs x (i + 1) = q at *
      go_wp2
      go_quiet (first | (go_at_call 66; exact Calls.quiet_of_same (c1 _)) | (go_at_call 93; exact Calls.quiet_of_same (c2 _)))
      go_wp2
      go_roundw
      case rel => exact ⟨_, i, by omega, rfl, by go_num, rfl, by obtain ⟨m, rfl⟩ := hq.out; exact ⟨m + _, World.drewN_drewN _ _ _⟩⟩
      case measure => simp only [intOf]; omega

set_option maxHeartbeats 2000000 in
theorem poly_normal (w : World) (v : Value) (xs : List Nat) (h : IsU w v xs) (hl : xs.length ≤ 1000000000) :
    Calls Tryd.prog 59 #[v] w fun e w' => e = .returned (.slice (some ⟨w.heap.size, 0, none⟩) (sig xs) (sig xs)) ∧ RowU w' w.heap.size (pN xs) ∧ Below w.heap.size w w' := by
  obtain ⟨a, cap, rfl, hcap, hmax, hc, hr⟩ := h
  clear hcap hmax
  go_enter Tryd.func59, Tryd.ntmps59
  go_wp2
  go_loop [3] (fun vi => ∃ s : Nat, s ≤ xs.length ∧ vi = .int .i64 (s : Int) ∧ Hid (sig (xs.take s) = sig xs))
    (fun vi => (intOf vi).toNat)
  case atStart => exact ⟨xs.length, Nat.le_refl _, rfl, by show sig (xs.take xs.length) = sig xs; rw [List.take_length]⟩
  case round =>
    obtain ⟨s, hs, rfl, hsig⟩ := hrel
    by_cases hend : s = sig xs
    · have hst : s = 0 ∨ ∃ t, s = t + 1 ∧ t < xs.length ∧ fN (xs.getD t 0) ≠ 0 := by
        rcases Nat.eq_zero_or_pos s with h0 | h0
        · exact .inl h0
        · refine .inr ⟨s - 1, by omega, by omega, fun h => ?_⟩
          have := sig_step xs (s - 1) (by omega)
          rw [show s - 1 + 1 = s by omega, hsig.out, if_pos h] at this
          have h2 := sig_le (xs.take (s - 1))
          rw [List.length_take] at h2
          omega
      have hpn : Hid (∀ n, n = s → mk n (cf xs) = pN xs) := fun n hn => by rw [pN_mk, hn, hend]
      have hsg : Hid (sig xs = s) := hend.symm
      clear hsig hend
      have hs9 : s ≤ 1000000000 := by omega
      rcases hst with hs0 | ⟨t, hst, htl, hne⟩
      · subst hs0
        go_wp2_with (at_make; refine wp_makeR rfl _ _ rfl 0 rfl rfl hs9 ?_; intro w1 hrow hb1)
        go_loopw [25] (fun vi wr => ∃ k : Nat, k ≤ 0 ∧ vi = .int .i64 (k : Int) ∧ RowU wr w.heap.size (SL (0) k (cf xs)) ∧ Below w.heap.size w wr)
          (fun vi _ => 0 - (intOf vi).toNat)
        case atStart => exact ⟨0, Nat.zero_le _, rfl, hrow.cast (SL_zero _ _).symm, hb1⟩
        case round =>
          clear hrow hb1
          obtain ⟨k, hk, rfl, hrow, hnx⟩ := hrel
          have hsz := hnx.size
          obtain rfl : k = 0 := by omega
          rw [SL_full, hpn.out _ rfl] at hrow
          clear hc hr
          go_wp2
          go_ret
          exact ⟨by rw [hsg.out]; rfl, hrow, hnx⟩
      · subst hst
        obtain ⟨b, off, rfl, hcell⟩ := hc t htl
        have c1 := field_Norm (xs.getD t 0) (range_getD hr t)
        have hd : ((fN (xs.getD t 0) : Int) == 0) = false := by rw [beq_eq_false_iff_ne]; omega
        have hs9' : (t + 1 : Nat) ≤ 1000000000 := by omega
        clear hne
        generalize xs.getD t 0 = y at *
        go_wp2_with (first
          | (go_at_call 14; refine Calls.mono (c1 _) ?_; rintro e w' ⟨rfl, hw⟩; rw [hw]; clear hw)
          | (at_make; refine wp_makeR rfl _ _ rfl (t + 1) rfl rfl hs9' ?_; intro w1 hrow hb1))
        go_loopw [25] (fun vi wr => ∃ k : Nat, k ≤ t + 1 ∧ vi = .int .i64 (k : Int) ∧ RowU wr w.heap.size (SL (t + 1) k (cf xs)) ∧ Below w.heap.size w wr)
          (fun vi _ => t + 1 - (intOf vi).toNat)
        case atStart => exact ⟨0, Nat.zero_le _, rfl, hrow.cast (SL_zero _ _).symm, hb1⟩
        case round =>
          clear hrow hb1
          obtain ⟨k, hk, rfl, hrow, hnx⟩ := hrel
          have hsz := hnx.size
          by_cases hlt : k < t + 1
          · obtain ⟨b2, off2, he2, hcell2⟩ := hc k (by omega)
            simp only [Option.some.injEq, Addr.mk.injEq, and_true] at he2
            obtain ⟨rfl, rfl⟩ := he2
            have hcellk := (hnx.cell (block_lt hcell2)).trans hcell2
            have hlz : k < (SL (t + 1) k (cf xs)).length := by rw [SL_length _ hk]; exact hlt
            have hcS := hrow.cell k hlz
            have hfr := hrow.frozen k
            have hset := hrow.set k (cf xs k).val
            rw [SL_set _ hlt] at hset
            have c2 := field_Norm (xs.getD k 0) (range_getD hr k)
            rw [fN_val, show toF (xs.getD k 0) = cf xs k from rfl] at c2
            have hB2 := fun (u : Value) => hnx.setCell (p := ⟨w.heap.size, k, none⟩) (Nat.le_refl _) u
            clear hcell2 hlz hc hr hcell c1 hd
            generalize (SL (t + 1) k (cf xs)).getD k 0 = old at *
            generalize (cf xs k).val = z at *
            generalize xs.getD k 0 = y2 at *
            go_wp2_with (go_at_call 14; refine Calls.mono (c2 _) ?_; rintro e w' ⟨rfl, hw⟩; rw [hw]; clear hw)
            clear hcellk hcS hfr hrow
            go_roundw
            case rel => exact ⟨k + 1, by omega, by go_num, hset, hB2 _⟩
            case measure => simp only [intOf]; omega
          · have e : k = t + 1 := by omega
            rw [e, SL_full, hpn.out _ rfl] at hrow
            have hge : t + 1 ≤ k := by omega
            clear e hc hr hcell c1 hd
            go_wp2
            go_ret
            exact ⟨by rw [hsg.out]; rfl, hrow, hnx⟩
    · have hpos : s ≠ 0 := fun e => by
        subst e
        have := hsig.out
        simp [sig] at this
        exact hend this
      obtain ⟨t, rfl⟩ : ∃ t, s = t + 1 := ⟨s - 1, by omega⟩
      obtain ⟨b, off, rfl, hcell⟩ := hc t (by omega)
      have hst := sig_step xs t (by omega)
      rw [hsig.out] at hst
      by_cases hy : fN (xs.getD t 0) = 0
      · rw [if_pos hy] at hst
        have hst' : Hid (sig (xs.take t) = sig xs) := hst.symm
        have c1 := field_Norm (xs.getD t 0) (range_getD hr t)
        have hd : ((fN (xs.getD t 0) : Int) == 0) = true := by rw [beq_iff_eq]; omega
        clear hst hsig hend hpos hy hc hr
        generalize xs.getD t 0 = y at *
        go_wp2_with (go_at_call 14; refine Calls.mono (c1 _) ?_; rintro e w' ⟨rfl, hw⟩; rw [hw]; clear hw)
        go_round
        case rel => exact ⟨t, by omega, by go_num, hst'⟩
        case measure => simp only [intOf]; omega
      · rw [if_neg hy] at hst
        omega

set_option maxHeartbeats 2000000 in
theorem poly_anyLarge (w : World) (g n : Nat) (lens : List Nat) (h : ∀ i, i < n → ∃ a c, w.cell? ⟨g, i, none⟩ = some (.slice a (lens.getD i 0) c)) (hm : ∀ i, i < n → lens.getD i 0 ≤ 2048) (hn9 : n ≤ 2) :
    Calls Tryd.prog 58 #[.slice (some ⟨g, 0, none⟩) n n] w fun e w' => e = .returned (.bool false) ∧ w' = w := by
  go_enter Tryd.func58, Tryd.ntmps58
  go_wp2
  go_loop [7] (fun vi => ∃ k : Nat, k ≤ n ∧ vi = .int .i64 (k : Int)) (fun vi => n - (intOf vi).toNat)
  case atStart => exact ⟨0, Nat.zero_le _, rfl⟩
  case round =>
    obtain ⟨k, hk, rfl⟩ := hrel
    by_cases hlt : k < n
    · obtain ⟨a, c, hcell⟩ := h k hlt
      have hle := hm k hlt
      clear h hm
      generalize lens.getD k 0 = l at *
      go_wp2
      go_round
      case rel => exact ⟨k + 1, by omega, by go_num⟩
      case measure => simp only [intOf]; omega
    · have e : k = n := by omega
      subst e
      clear h hm
      go_wp2
      go_ret
      exact ⟨rfl, rfl⟩
set_option maxHeartbeats 2000000 in
theorem poly_anyLarge_yes (w : World) (g n : Nat) (lens : List Nat) (h : ∀ i, i < n → ∃ a c, w.cell? ⟨g, i, none⟩ = some (.slice a (lens.getD i 0) c)) (hm : ∃ i, i < n ∧ 2048 < lens.getD i 0) (hn9 : n ≤ 2) (hb : ∀ i, lens.getD i 0 ≤ 9223372036854775807) :
    Calls Tryd.prog 58 #[.slice (some ⟨g, 0, none⟩) n n] w fun e w' => e = .returned (.bool true) ∧ w' = w := by
  obtain ⟨i0, hi0, hl0⟩ := hm
  go_enter Tryd.func58, Tryd.ntmps58
  go_wp2
  go_loop [7] (fun vi => ∃ k : Nat, k ≤ i0 ∧ vi = .int .i64 (k : Int)) (fun vi => n - (intOf vi).toNat)
  case atStart => exact ⟨0, Nat.zero_le _, rfl⟩
  case round =>
    obtain ⟨k, hk, rfl⟩ := hrel
    obtain ⟨a, c, hcell⟩ := h k (by omega)
    have hlt : k < n := by omega
    have hbk := hb k
    by_cases hle : lens.getD k 0 ≤ 2048
    · have hne : k ≠ i0 := fun e => by subst e; omega
      clear h hb hl0
      generalize lens.getD k 0 = l at *
      go_wp2
      go_round
      case rel => exact ⟨k + 1, by omega, by go_num⟩
      case measure => simp only [intOf]; omega
    · have hgt : 2048 < lens.getD k 0 := by omega
      clear h hb hl0 hle
      generalize lens.getD k 0 = l at *
      go_wp2
      go_ret
      exact ⟨rfl, rfl⟩

end Go.Proofs.YtgkepflnnoociagDoor
