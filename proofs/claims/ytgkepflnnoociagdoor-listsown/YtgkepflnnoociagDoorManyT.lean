/-
  What Along, Forward, Inverse and Cyclic of package many answer.
-/
import Derived.Test.YtgkepflnnoociagDoorRows
import Derived.Test.YtgkepflnnoociagDoorTabD
import Derived.Test.YtgkepflnnoociagDoorManyN
import Derived.Test.YtgkepflnnoociagDoorManyG
import Derived.Test.YtgkepflnnoociagDoorFieldAll
import Derived.Test.YtgkepflnnoociagDoorNttKAll
import Derived.Deep.RegionWith
namespace Go.Proofs.YtgkepflnnoociagDoor
open Go.RowKit

theorem cell_fresh (w : World) (cs : Array Value) (t i : Nat) (u : Value) (h : cs[i]? = some u) : (w.alloc (.cells cs t)).cell? ⟨w.heap.size, i, none⟩ = some u := by
  have e : (w.alloc (.cells cs t)).heap[w.heap.size]? = some (.cells cs t) := by
    show (w.heap.push _)[w.heap.size]? = _
    simp
  simp only [World.cell?, e]
  rw [h]; rfl
/-- One list, two lists, laid in a new block. -/
def Lists (w : World) (g n : Nat) (lens : List Nat) : Prop := ∀ i, i < n → ∃ a c, w.cell? ⟨g, i, none⟩ = some (.slice a (lens.getD i 0) c)
theorem lists1 (w : World) (t l c : Nat) (a : Option Addr) : Lists (w.alloc (.cells #[.slice a l c] t)) w.heap.size 1 [l] := fun i hi => by
  obtain rfl : i = 0 := by omega
  exact ⟨a, c, cell_fresh _ _ _ _ _ rfl⟩
theorem lists2 (w : World) (t l c l' c' : Nat) (a a' : Option Addr) : Lists (w.alloc (.cells #[.slice a l c, .slice a' l' c'] t)) w.heap.size 2 [l, l'] := fun i hi => by
  match i, hi with
  | 0, _ => exact ⟨a, c, cell_fresh _ _ _ _ _ rfl⟩
  | 1, _ => exact ⟨a', c', cell_fresh _ _ _ _ _ rfl⟩

set_option maxHeartbeats 1000000 in
theorem many_checkArrays_ok (w : World) (v : Value) (zs : List Int) (ds lens : List Nat) (g n : Nat) (h : IsZ w v zs) (hG : Good zs ds) (hn : prd2 ds ≤ 1024) (hL : Lists w g n lens) (hn2 : n ≤ 2) (hl : ∀ i, i < n → lens.getD i 0 = prd2 ds) :
    Calls Tryd.prog 70 #[v, .slice (some ⟨g, 0, none⟩) n n] w fun e w' => e = .returned (.int .i64 0) ∧ w' = w := by
  have c1 := many_Check_okW w v zs ds h hG hn
  clear h hG
  generalize prd2 ds = N at *
  go_enter Tryd.func70, Tryd.ntmps70
  go_wp2_with (go_at_call 72; refine Calls.mono c1 ?_; rintro e w' ⟨rfl, hw⟩; rw [hw]; clear hw)
  clear c1
  go_loop [19] (fun vi => ∃ k : Nat, k ≤ n ∧ vi = .int .i64 (k : Int)) (fun vi => n - (intOf vi).toNat)
  case atStart => exact ⟨0, Nat.zero_le _, rfl⟩
  case round =>
    obtain ⟨k, hk, rfl⟩ := hrel
    by_cases hlt : k < n
    · obtain ⟨a, c, hcell⟩ := hL k hlt
      rw [hl k hlt] at hcell
      clear hL hl
      go_wp2
      go_round
      case rel => exact ⟨k + 1, by omega, by go_num⟩
      case measure => simp only [intOf]; omega
    · have e : k = n := by omega
      subst e
      clear hL hl
      go_wp2
      go_ret
      exact ⟨rfl, rfl⟩
set_option maxHeartbeats 1000000 in
theorem many_checkArrays_form (w : World) (v : Value) (zs : List Int) (ds lens : List Nat) (g n : Nat) (h : IsZ w v zs) (hG : Good zs ds) (hn : prd2 ds ≤ 1024) (hL : Lists w g n lens) (hn2 : n ≤ 2) (hl : ∃ i, i < n ∧ lens.getD i 0 ≠ prd2 ds) (hm : ∀ i, lens.getD i 0 ≤ 9223372036854775807) :
    Calls Tryd.prog 70 #[v, .slice (some ⟨g, 0, none⟩) n n] w fun e w' => e = .returned (.int .i64 5) ∧ w' = w := by
  have c1 := many_Check_okW w v zs ds h hG hn
  obtain ⟨i0, hi0, hl0⟩ := hl
  clear h hG
  generalize prd2 ds = N at *
  go_enter Tryd.func70, Tryd.ntmps70
  go_wp2_with (go_at_call 72; refine Calls.mono c1 ?_; rintro e w' ⟨rfl, hw⟩; rw [hw]; clear hw)
  clear c1
  go_loop [19] (fun vi => ∃ k : Nat, k ≤ i0 ∧ vi = .int .i64 (k : Int)) (fun vi => n - (intOf vi).toNat)
  case atStart => exact ⟨0, Nat.zero_le _, rfl⟩
  case round =>
    obtain ⟨k, hk, rfl⟩ := hrel
    obtain ⟨a, c, hcell⟩ := hL k (by omega)
    have hlt : k < n := by omega
    have hbk := hm k
    by_cases he : lens.getD k 0 = N
    · have hne : k ≠ i0 := fun e => by subst e; exact hl0 he
      rw [he] at hcell
      clear hL hm hl0 hbk he
      go_wp2
      go_round
      case rel => exact ⟨k + 1, by omega, by go_num⟩
      case measure => simp only [intOf]; omega
    · clear hL hm hl0
      generalize lens.getD k 0 = l at *
      have hb : (((l : Nat) : Int) != ((N : Nat) : Int)) = true := by rw [bne_iff_ne]; omega
      go_wp2
      go_ret
      exact ⟨rfl, rfl⟩
theorem many_checkArrays_large (w : World) (v u : Value) (zs : List Int) (ds : List Nat) (h : IsZ w v zs) (hG : Good zs ds) (hn : 1024 < prd2 ds) :
    Calls Tryd.prog 70 #[v, u] w fun e w' => e = .returned (.int .i64 2) ∧ w' = w := by
  have c1 := many_Check_largeW w v zs ds h hG hn
  clear h hG hn
  go_enter Tryd.func70, Tryd.ntmps70
  go_wp2_with (go_at_call 72; refine Calls.mono c1 ?_; rintro e w' ⟨rfl, hw⟩; rw [hw]; clear hw)
  go_ret
  exact ⟨rfl, rfl⟩
theorem many_checkArrays_bad (w : World) (v u : Value) (zs : List Int) (h : IsZ w v zs) (hG : ∀ ds, ¬ Good zs ds) :
    Calls Tryd.prog 70 #[v, u] w fun e w' => e = .returned (.int .i64 1) ∧ w' = w := by
  have c1 := many_Check_badW w v zs h hG
  clear h hG
  go_enter Tryd.func70, Tryd.ntmps70
  go_wp2_with (go_at_call 72; refine Calls.mono c1 ?_; rintro e w' ⟨rfl, hw⟩; rw [hw]; clear hw)
  go_ret
  exact ⟨rfl, rfl⟩

theorem len_max {w : World} {v : Value} {xs : List Nat} (h : IsU w v xs) : xs.length ≤ 9223372036854775807 := by
  obtain ⟨a, cap, -, h1, h2, -⟩ := h
  unfold maxLen at h2
  omega
set_option maxHeartbeats 2000000 in
theorem many_Forward_ok (w : World) (v v' : Value) (zs : List Int) (xs : List Nat) (ds : List Nat) (h : IsZ w v zs) (h' : IsU w v' xs) (ht : Tab w) (hG : Good zs ds) (hn : prd2 ds ≤ 1024) (hl : xs.length = prd2 ds) :
    Calls Tryd.prog 29 #[v, v'] w fun e w' => ∃ u, e = .returned (.tuple #[u, .int .i64 0]) ∧ IsU w' u (mk (prd2 ds) (who ds false (cf xs) ds.length)) ∧ Below w.heap.size w w' := by
  have hZ := h
  have hA := h'
  obtain ⟨az, cz, rfl, -⟩ := h
  obtain ⟨a, cap, rfl, -⟩ := h'
  have c1 := fun (t : Nat) => many_checkArrays_ok (w.alloc (.cells #[.slice a xs.length cap] t)) _ zs ds [xs.length] w.heap.size 1 (hZ.below (below_alloc1 w _)) hG hn (lists1 w t _ _ _) (by omega) (fun i hi => match i, hi with | 0, _ => hl)
  have c3 := fun (W : World) (hb : Below w.heap.size w W) => many_alongAll W _ _ zs xs ds false (hZ.below hb) (hA.below hb) (ht.below hb) hG hn hl
  have hlR : Hid ((mk (prd2 ds) (who ds false (cf xs) ds.length)).length = prd2 ds) := mk_length _ _
  have hPR : Rng (mk (prd2 ds) (who ds false (cf xs) ds.length)) := Rng_of_P (mk_lt _ _)
  generalize mk (prd2 ds) (who ds false (cf xs) ds.length) = RL at *
  clear hG hl ht hZ hA
  generalize prd2 ds = N at *
  go_enter Tryd.func29, Tryd.ntmps29
  go_wp2_with (first
    | (go_at_call 70; refine Calls.mono (c1 _) ?_; rintro e w' ⟨rfl, hw⟩; rw [hw]; clear hw)
    | (go_at_call 71; refine Calls.mono (c3 _ (below_alloc1 _ _)) ?_; rintro e w2 ⟨g, rfl, hg, hr, hb⟩))
  go_ret2
  exact ⟨_, rfl, hr.isUN hPR (by rw [hlR.out]; omega) hlR.out, below_alloc hb⟩
set_option maxHeartbeats 2000000 in
theorem many_Forward_form (w : World) (v v' : Value) (zs : List Int) (xs : List Nat) (ds : List Nat) (h : IsZ w v zs) (h' : IsU w v' xs) (hG : Good zs ds) (hn : prd2 ds ≤ 1024) (hl : xs.length ≠ prd2 ds) :
    Calls Tryd.prog 29 #[v, v'] w fun e w' => ∃ u, e = .returned (.tuple #[u, .int .i64 5]) ∧ IsU w' u ([]) ∧ Below w.heap.size w w' := by
  have hZ := h
  have hm := len_max h'
  obtain ⟨az, cz, rfl, -⟩ := h
  obtain ⟨a, cap, rfl, -⟩ := h'
  have hex : ∃ i, i < 1 ∧ [xs.length].getD i 0 ≠ prd2 ds := ⟨0, by omega, hl⟩
  have c1 := fun (t : Nat) => many_checkArrays_form (w.alloc (.cells #[.slice a xs.length cap] t)) _ zs ds [xs.length] w.heap.size 1 (hZ.below (below_alloc1 w _)) hG hn (lists1 w t _ _ _) (by omega) hex (fun i => match i with | 0 => hm | _ + 1 => by simp)
  clear hG hn hl hex hZ hm
  go_enter Tryd.func29, Tryd.ntmps29
  go_wp2_with (go_at_call 70; refine Calls.mono (c1 _) ?_; rintro e w' ⟨rfl, hw⟩; rw [hw]; clear hw)
  go_ret2
  exact ⟨_, rfl, IsU.nil _, below_alloc1 _ _⟩
set_option maxHeartbeats 2000000 in
theorem many_Forward_large (w : World) (v v' : Value) (zs : List Int) (xs : List Nat) (ds : List Nat) (h : IsZ w v zs) (h' : IsU w v' xs) (hG : Good zs ds) (hn : 1024 < prd2 ds) :
    Calls Tryd.prog 29 #[v, v'] w fun e w' => ∃ u, e = .returned (.tuple #[u, .int .i64 2]) ∧ IsU w' u ([]) ∧ Below w.heap.size w w' := by
  have hZ := h
  obtain ⟨az, cz, rfl, -⟩ := h
  obtain ⟨a, cap, rfl, -⟩ := h'
  have c1 := fun (t : Nat) => many_checkArrays_large (w.alloc (.cells #[.slice a xs.length cap] t)) _ (.slice (some ⟨w.heap.size, 0, none⟩) 1 1) zs ds (hZ.below (below_alloc1 w _)) hG hn
  clear hG hn hZ
  go_enter Tryd.func29, Tryd.ntmps29
  go_wp2_with (go_at_call 70; refine Calls.mono (c1 _) ?_; rintro e w' ⟨rfl, hw⟩; rw [hw]; clear hw)
  go_ret2
  exact ⟨_, rfl, IsU.nil _, below_alloc1 _ _⟩
set_option maxHeartbeats 2000000 in
theorem many_Forward_bad (w : World) (v v' : Value) (zs : List Int) (xs : List Nat) (h : IsZ w v zs) (h' : IsU w v' xs) (hG : ∀ ds, ¬ Good zs ds) :
    Calls Tryd.prog 29 #[v, v'] w fun e w' => ∃ u, e = .returned (.tuple #[u, .int .i64 1]) ∧ IsU w' u ([]) ∧ Below w.heap.size w w' := by
  have hZ := h
  obtain ⟨az, cz, rfl, -⟩ := h
  obtain ⟨a, cap, rfl, -⟩ := h'
  have c1 := fun (t : Nat) => many_checkArrays_bad (w.alloc (.cells #[.slice a xs.length cap] t)) _ (.slice (some ⟨w.heap.size, 0, none⟩) 1 1) zs (hZ.below (below_alloc1 w _)) hG
  clear hG hZ
  go_enter Tryd.func29, Tryd.ntmps29
  go_wp2_with (go_at_call 70; refine Calls.mono (c1 _) ?_; rintro e w' ⟨rfl, hw⟩; rw [hw]; clear hw)
  go_ret2
  exact ⟨_, rfl, IsU.nil _, below_alloc1 _ _⟩
set_option maxHeartbeats 2000000 in
theorem many_Cyclic_ok (w : World) (v v' v2 : Value) (zs : List Int) (xs ys : List Nat) (ds : List Nat) (h : IsZ w v zs) (h' : IsU w v' xs) (h2 : IsU w v2 ys) (ht : Tab w) (hG : Good zs ds) (hn : prd2 ds ≤ 1024) (hl : xs.length = prd2 ds) (hl2 : ys.length = prd2 ds) :
    Calls Tryd.prog 30 #[v, v', v2] w fun e w' => ∃ u, e = .returned (.tuple #[u, .int .i64 0]) ∧ IsU w' u (mk (prd2 ds) (cyD ds (cf xs) (cf ys))) ∧ Below w.heap.size w w' := by
  have hZ := h
  have hA := h'
  have hB := h2
  obtain ⟨az, cz, rfl, -⟩ := h
  obtain ⟨a, cap, rfl, -⟩ := h'
  obtain ⟨a', cap', rfl, -⟩ := h2
  have c1 := fun (t : Nat) => many_checkArrays_ok (w.alloc (.cells #[.slice a xs.length cap, .slice a' ys.length cap'] t)) _ zs ds [xs.length, ys.length] w.heap.size 2 (hZ.below (below_alloc1 w _)) hG hn (lists2 w t _ _ _ _ _ _) (by omega) (fun i hi => match i, hi with | 0, _ => hl | 1, _ => hl2)
  have cA := fun (W : World) (hb : Below w.heap.size w W) => many_alongAll W _ _ zs xs ds false (hZ.below hb) (hA.below hb) (ht.below hb) hG hn hl
  have cB := fun (W : World) (hb : Below w.heap.size w W) => many_alongAll W _ _ zs ys ds false (hZ.below hb) (hB.below hb) (ht.below hb) hG hn hl2
  have cI := fun (W : World) (hb : Below w.heap.size w W) (g : Nat) (ms : List Nat) (hU : IsU W (.slice (some ⟨g, 0, none⟩) (prd2 ds) (prd2 ds)) ms) (hms : ms.length = prd2 ds) => many_alongAll W _ _ zs ms ds true (hZ.below hb) hU (ht.below hb) hG hn hms
  have hS : Shp ds := hG.2.2.2
  have hfin : Hid (mk (prd2 ds) (who ds true (cf (muK (mk (prd2 ds) (who ds false (cf xs) ds.length)) (mk (prd2 ds) (who ds false (cf ys) ds.length)) (prd2 ds))) ds.length) = mk (prd2 ds) (cyD ds (cf xs) (cf ys))) := by
    show _ = _
    refine mk_congr fun p hp => ?_
    rw [← cyc_by hS hn (cf xs) (cf ys) p hp]
    refine who_congr hS true (fun i hi => ?_) p hp
    rw [cf_muK _ _ _ (by rw [mk_length]; exact Nat.le_refl _), if_pos hi, cf_mk, if_pos hi, cf_mk, if_pos hi]
  have hlX : Hid ((mk (prd2 ds) (who ds false (cf xs) ds.length)).length = prd2 ds) := mk_length _ _
  have hlY : Hid ((mk (prd2 ds) (who ds false (cf ys) ds.length)).length = prd2 ds) := mk_length _ _
  have hPX : ∀ z ∈ mk (prd2 ds) (who ds false (cf xs) ds.length), z < P := mk_lt _ _
  have hPY : ∀ z ∈ mk (prd2 ds) (who ds false (cf ys) ds.length), z < P := mk_lt _ _
  have hlR : Hid ((mk (prd2 ds) (cyD ds (cf xs) (cf ys))).length = prd2 ds) := mk_length _ _
  have hPR : Rng (mk (prd2 ds) (cyD ds (cf xs) (cf ys))) := Rng_of_P (mk_lt _ _)
  generalize mk (prd2 ds) (cyD ds (cf xs) (cf ys)) = RL at *
  generalize mk (prd2 ds) (who ds false (cf xs) ds.length) = X at *
  generalize mk (prd2 ds) (who ds false (cf ys) ds.length) = Y at *
  obtain ⟨bk, hbk⟩ : ∃ f : List Nat → List Nat, ∀ ms, mk (prd2 ds) (who ds true (cf ms) ds.length) = f ms := ⟨fun ms => mk (prd2 ds) (who ds true (cf ms) ds.length), fun _ => rfl⟩
  simp only [hbk] at cI hfin
  rw [hl, hl2] at *
  clear hbk hS hG ht hZ hA hB hl hl2
  generalize prd2 ds = N at *
  go_enter Tryd.func30, Tryd.ntmps30
  go_wp2_with (first
    | (go_at_call 70; refine Calls.mono (c1 _) ?_; rintro e w' ⟨rfl, hw⟩; rw [hw]; clear hw)
    | (go_at_call 71; refine Calls.mono (cA _ (below_alloc1 _ _)) ?_; rintro e w1 ⟨g, rfl, hg, hrow, hb⟩; clear cA; replace hb := below_alloc hb)
    | (go_at_call 71; refine Calls.mono (cB _ hb) ?_; rintro e w2 ⟨g2, rfl, hg2, hrow2, hb2⟩; clear cB))
  have hlt := hrow.lt
  have hne : g2 ≠ g := by omega
  have hgw : w.heap.size ≤ g := Nat.le_trans (below_alloc1 w _).size hg
  have hrowB := hrow.below hb2
  have hbB := hb.trans (hb2.mono hb.size)
  clear hrow hb hb2 hg hg2 hlt c1
  go_loopw [28] (fun vi wr => ∃ i : Nat, i ≤ N ∧ vi = .int .i64 (i : Int) ∧ RowU wr g (muK X Y i) ∧ RowU wr g2 Y ∧ Below w.heap.size w wr)
    (fun vi _ => N - (intOf vi).toNat)
  case atStart => exact ⟨0, Nat.zero_le _, rfl, hrowB, hrow2, hbB⟩
  case round =>
    clear hrowB hbB hrow2
    obtain ⟨i, hi, rfl, hrow, hrow2, hnx⟩ := hrel
    by_cases hlt : i < N
    · have hcS := hrow.cell i (by rw [muK_length, hlX.out]; exact hlt)
      have hc2 := hrow2.cell i (by rw [hlY.out]; exact hlt)
      have hfr := hrow.frozen i
      have hset : Hid (∀ m : Nat, RowU ((wr.drewN m).setCell ⟨g, i, none⟩ (.int .u64 ((fM ((muK X Y i).getD i 0) (Y.getD i 0) : Nat) : Int))) g (muK X Y (i + 1))) := fun m => (hrow.drewN m).set i _
      have hset2 : Hid (∀ (m : Nat) (u : Value), RowU ((wr.drewN m).setCell ⟨g, i, none⟩ u) g2 Y) := fun m u => (hrow2.drewN m).bar hne ((Bar.refl g _).setCell i u)
      have cM := field_Mul ((muK X Y i).getD i 0) (Y.getD i 0) (range_getD (Rng_of_P (muK_P X Y i hPX)) _) (range_getD (Rng_of_P hPY) _)
      have hB2 : Hid (∀ (m : Nat) (u : Value), Below w.heap.size w ((wr.drewN m).setCell ⟨g, i, none⟩ u)) := fun m u => (show Below w.heap.size w (wr.drewN m) from ⟨hnx.os, hnx.tape, hnx.output, hnx.size, hnx.block⟩).setCell (p := ⟨g, i, none⟩) hgw u
      clear hrow hrow2 hnx cI hPX hPY hPR hne
      generalize fM ((muK X Y i).getD i 0) (Y.getD i 0) = z at *
      generalize (muK X Y i).getD i 0 = old at *
      generalize Y.getD i 0 = y at *
      go_wp2
      go_region_with (go_at_call 66; refine Calls.mono (cM _) ?_; rintro e w' ⟨rfl, hw⟩; rw [hw]; clear hw)
      all_goals
        clear hcS hc2 hfr
        go_wp2
        go_roundw
        case rel => exact ⟨i + 1, by omega, by go_num, hset.out 1, hset2.out 1 _, hB2.out 1 _⟩
        case measure => simp only [intOf]; omega
    · have e : N = i := by omega
      subst e
      have hlM : (muK X Y N).length = N := by rw [muK_length, hlX.out]
      have hU := hrow.isUN (Rng_of_P (muK_P X Y N hPX)) (by rw [hlM]; omega) hlM
      have c := cI wr hnx g (muK X Y N) hU hlM
      rw [hfin.out] at c
      have hge : N ≤ N := Nat.le_refl _
      clear hlM hU hrow hrow2 cI hPX hPY
      go_wp2_with (go_at_call 71; refine Calls.mono c ?_; rintro e w3 ⟨g3, rfl, hg3, hr3, hb3⟩)
      go_ret2
      exact ⟨_, rfl, hr3.isUN hPR (by rw [hlR.out]; omega) hlR.out, hnx.trans (hb3.mono hnx.size)⟩
set_option maxHeartbeats 2000000 in
theorem many_Cyclic_form (w : World) (v v' v2 : Value) (zs : List Int) (xs ys : List Nat) (ds : List Nat) (h : IsZ w v zs) (h' : IsU w v' xs) (h2 : IsU w v2 ys) (hG : Good zs ds) (hn : prd2 ds ≤ 1024) (hl : xs.length ≠ prd2 ds ∨ ys.length ≠ prd2 ds) :
    Calls Tryd.prog 30 #[v, v', v2] w fun e w' => ∃ u, e = .returned (.tuple #[u, .int .i64 5]) ∧ IsU w' u ([]) ∧ Below w.heap.size w w' := by
  have hZ := h
  have hm := len_max h'
  have hm2 := len_max h2
  obtain ⟨az, cz, rfl, -⟩ := h
  obtain ⟨a, cap, rfl, -⟩ := h'
  obtain ⟨a', cap', rfl, -⟩ := h2
  have hex : ∃ i, i < 2 ∧ [xs.length, ys.length].getD i 0 ≠ prd2 ds := by
    rcases hl with hl | hl
    · exact ⟨0, by omega, hl⟩
    · exact ⟨1, by omega, hl⟩
  have c1 := fun (t : Nat) => many_checkArrays_form (w.alloc (.cells #[.slice a xs.length cap, .slice a' ys.length cap'] t)) _ zs ds [xs.length, ys.length] w.heap.size 2 (hZ.below (below_alloc1 w _)) hG hn (lists2 w t _ _ _ _ _ _) (by omega) hex (fun i => match i with | 0 => hm | 1 => hm2 | _ + 2 => by simp)
  clear hG hn hl hex hZ hm hm2
  go_enter Tryd.func30, Tryd.ntmps30
  go_wp2_with (go_at_call 70; refine Calls.mono (c1 _) ?_; rintro e w' ⟨rfl, hw⟩; rw [hw]; clear hw)
  go_ret2
  exact ⟨_, rfl, IsU.nil _, below_alloc1 _ _⟩
set_option maxHeartbeats 2000000 in
theorem many_Cyclic_large (w : World) (v v' v2 : Value) (zs : List Int) (xs ys : List Nat) (ds : List Nat) (h : IsZ w v zs) (h' : IsU w v' xs) (h2 : IsU w v2 ys) (hG : Good zs ds) (hn : 1024 < prd2 ds) :
    Calls Tryd.prog 30 #[v, v', v2] w fun e w' => ∃ u, e = .returned (.tuple #[u, .int .i64 2]) ∧ IsU w' u ([]) ∧ Below w.heap.size w w' := by
  have hZ := h
  obtain ⟨az, cz, rfl, -⟩ := h
  obtain ⟨a, cap, rfl, -⟩ := h'
  obtain ⟨a', cap', rfl, -⟩ := h2
  have c1 := fun (t : Nat) => many_checkArrays_large (w.alloc (.cells #[.slice a xs.length cap, .slice a' ys.length cap'] t)) _ (.slice (some ⟨w.heap.size, 0, none⟩) 2 2) zs ds (hZ.below (below_alloc1 w _)) hG hn
  clear hG hn hZ
  go_enter Tryd.func30, Tryd.ntmps30
  go_wp2_with (go_at_call 70; refine Calls.mono (c1 _) ?_; rintro e w' ⟨rfl, hw⟩; rw [hw]; clear hw)
  go_ret2
  exact ⟨_, rfl, IsU.nil _, below_alloc1 _ _⟩
set_option maxHeartbeats 2000000 in
theorem many_Cyclic_bad (w : World) (v v' v2 : Value) (zs : List Int) (xs ys : List Nat) (h : IsZ w v zs) (h' : IsU w v' xs) (h2 : IsU w v2 ys) (hG : ∀ ds, ¬ Good zs ds) :
    Calls Tryd.prog 30 #[v, v', v2] w fun e w' => ∃ u, e = .returned (.tuple #[u, .int .i64 1]) ∧ IsU w' u ([]) ∧ Below w.heap.size w w' := by
  have hZ := h
  obtain ⟨az, cz, rfl, -⟩ := h
  obtain ⟨a, cap, rfl, -⟩ := h'
  obtain ⟨a', cap', rfl, -⟩ := h2
  have c1 := fun (t : Nat) => many_checkArrays_bad (w.alloc (.cells #[.slice a xs.length cap, .slice a' ys.length cap'] t)) _ (.slice (some ⟨w.heap.size, 0, none⟩) 2 2) zs (hZ.below (below_alloc1 w _)) hG
  clear hG hZ
  go_enter Tryd.func30, Tryd.ntmps30
  go_wp2_with (go_at_call 70; refine Calls.mono (c1 _) ?_; rintro e w' ⟨rfl, hw⟩; rw [hw]; clear hw)
  go_ret2
  exact ⟨_, rfl, IsU.nil _, below_alloc1 _ _⟩

end Go.Proofs.YtgkepflnnoociagDoor
