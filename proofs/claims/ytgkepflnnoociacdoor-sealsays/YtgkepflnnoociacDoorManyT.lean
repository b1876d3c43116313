/-
  What Along, Forward, Inverse and Cyclic of package many answer.
-/
import Derived.Test.YtgkepflnnoociacDoorRows
import Derived.Test.YtgkepflnnoociacDoorTabD
import Derived.Test.YtgkepflnnoociacDoorManyN
import Derived.Test.YtgkepflnnoociacDoorManyG
import Derived.Test.YtgkepflnnoociacDoorFieldB
import Derived.Test.YtgkepflnnoociacDoorConvW
import Derived.Deep.RegionWith
namespace Go.Proofs.YtgkepflnnoociacDoor
open Go.RowKit

theorem cell_fresh (w : World) (cs : Array Value) (t i : Nat) (u : Value) (h : cs[i]? = some u) : (w.alloc (.cells cs t)).cell? ⟨w.heap.size, i, none⟩ = some u := by
  have e : (w.alloc (.cells cs t)).heap[w.heap.size]? = some (.cells cs t) := by
    show (w.heap.push _)[w.heap.size]? = _
    simp
  simp only [World.cell?, e]
  rw [h]; rfl
/-- One list, two lists, laid in a new block. -/
def Lists (w : World) (g n : Nat) (lens : List Nat) : Prop := ∀ i, i < n → ∃ a c, w.cell? ⟨g, i, none⟩ = some (.slice a (lens.getD i 0) c)
theorem lists1 (w : World) (t l c : Nat) (a : Option Addr) : Lists (w.alloc (.cells #[.slice a l c] t)) w.heap.size 1 [l] := fun i hi => by
  obtain rfl : i = 0 := by omega
  exact ⟨a, c, cell_fresh _ _ _ _ _ rfl⟩
theorem lists2 (w : World) (t l c l' c' : Nat) (a a' : Option Addr) : Lists (w.alloc (.cells #[.slice a l c, .slice a' l' c'] t)) w.heap.size 2 [l, l'] := fun i hi => by
  match i, hi with
  | 0, _ => exact ⟨a, c, cell_fresh _ _ _ _ _ rfl⟩
  | 1, _ => exact ⟨a', c', cell_fresh _ _ _ _ _ rfl⟩

set_option maxHeartbeats 1000000 in
theorem many_checkArrays_ok (w : World) (v : Value) (zs : List Int) (ds lens : List Nat) (g n : Nat) (h : IsZ w v zs) (hG : Good zs ds) (hn : prd2 ds ≤ 1024) (hL : Lists w g n lens) (hn2 : n ≤ 2) (hl : ∀ i, i < n → lens.getD i 0 = prd2 ds) :
    Calls Tryd.prog 104 #[v, .slice (some ⟨g, 0, none⟩) n n] w fun e w' => e = .returned (.int .i64 0) ∧ w' = w := by
  have c1 := many_Check_okW w v zs ds h hG hn
  clear h hG
  generalize prd2 ds = N at *
  go_enter Tryd.func104, Tryd.ntmps104
  go_wp2_with (go_at_call 73; refine Calls.mono c1 ?_; rintro e w' ⟨rfl, hw⟩; rw [hw]; clear hw)
  clear c1
  go_loop [19] (fun vi => ∃ k : Nat, k ≤ n ∧ vi = .int .i64 (k : Int)) (fun vi => n - (intOf vi).toNat)
  case atStart => exact ⟨0, Nat.zero_le _, rfl⟩
  case round =>
    obtain ⟨k, hk, rfl⟩ := hrel
    by_cases hlt : k < n
    · obtain ⟨a, c, hcell⟩ := hL k hlt
      rw [hl k hlt] at hcell
      clear hL hl
      go_wp2
      go_round
      case rel => exact ⟨k + 1, by omega, by go_num⟩
      case measure => simp only [intOf]; omega
    · have e : k = n := by omega
      subst e
      clear hL hl
      go_wp2
      go_ret
      exact ⟨rfl, rfl⟩
set_option maxHeartbeats 1000000 in
theorem many_checkArrays_form (w : World) (v : Value) (zs : List Int) (ds lens : List Nat) (g n : Nat) (h : IsZ w v zs) (hG : Good zs ds) (hn : prd2 ds ≤ 1024) (hL : Lists w g n lens) (hn2 : n ≤ 2) (hl : ∃ i, i < n ∧ lens.getD i 0 ≠ prd2 ds) (hm : ∀ i, lens.getD i 0 ≤ 9223372036854775807) :
    Calls Tryd.prog 104 #[v, .slice (some ⟨g, 0, none⟩) n n] w fun e w' => e = .returned (.int .i64 5) ∧ w' = w := by
  have c1 := many_Check_okW w v zs ds h hG hn
  obtain ⟨i0, hi0, hl0⟩ := hl
  clear h hG
  generalize prd2 ds = N at *
  go_enter Tryd.func104, Tryd.ntmps104
  go_wp2_with (go_at_call 73; refine Calls.mono c1 ?_; rintro e w' ⟨rfl, hw⟩; rw [hw]; clear hw)
  clear c1
  go_loop [19] (fun vi => ∃ k : Nat, k ≤ i0 ∧ vi = .int .i64 (k : Int)) (fun vi => n - (intOf vi).toNat)
  case atStart => exact ⟨0, Nat.zero_le _, rfl⟩
  case round =>
    obtain ⟨k, hk, rfl⟩ := hrel
    obtain ⟨a, c, hcell⟩ := hL k (by omega)
    have hlt : k < n := by omega
    have hbk := hm k
    by_cases he : lens.getD k 0 = N
    · have hne : k ≠ i0 := fun e => by subst e; exact hl0 he
      rw [he] at hcell
      clear hL hm hl0 hbk he
      go_wp2
      go_round
      case rel => exact ⟨k + 1, by omega, by go_num⟩
      case measure => simp only [intOf]; omega
    · clear hL hm hl0
      generalize lens.getD k 0 = l at *
      have hb : (((l : Nat) : Int) != ((N : Nat) : Int)) = true := by rw [bne_iff_ne]; omega
      go_wp2
      go_ret
      exact ⟨rfl, rfl⟩
theorem many_checkArrays_large (w : World) (v u : Value) (zs : List Int) (ds : List Nat) (h : IsZ w v zs) (hG : Good zs ds) (hn : 1024 < prd2 ds) :
    Calls Tryd.prog 104 #[v, u] w fun e w' => e = .returned (.int .i64 2) ∧ w' = w := by
  have c1 := many_Check_largeW w v zs ds h hG hn
  clear h hG hn
  go_enter Tryd.func104, Tryd.ntmps104
  go_wp2_with (go_at_call 73; refine Calls.mono c1 ?_; rintro e w' ⟨rfl, hw⟩; rw [hw]; clear hw)
  go_ret
  exact ⟨rfl, rfl⟩
theorem many_checkArrays_bad (w : World) (v u : Value) (zs : List Int) (h : IsZ w v zs) (hG : ∀ ds, ¬ Good zs ds) :
    Calls Tryd.prog 104 #[v, u] w fun e w' => e = .returned (.int .i64 1) ∧ w' = w := by
  have c1 := many_Check_badW w v zs h hG
  clear h hG
  go_enter Tryd.func104, Tryd.ntmps104
  go_wp2_with (go_at_call 73; refine Calls.mono c1 ?_; rintro e w' ⟨rfl, hw⟩; rw [hw]; clear hw)
  go_ret
  exact ⟨rfl, rfl⟩

theorem len_max {w : World} {v : Value} {xs : List Nat} (h : IsU w v xs) : xs.length ≤ 9223372036854775807 := by
  obtain ⟨a, cap, -, h1, h2, -⟩ := h
  unfold maxLen at h2
  omega
set_option maxHeartbeats 2000000 in
theorem many_Forward_ok (w : World) (v v' : Value) (zs : List Int) (xs : List Nat) (ds : List Nat) (h : IsZ w v zs) (h' : IsU w v' xs) (ht : Tab w) (hG : Good zs ds) (hn : prd2 ds ≤ 1024) (hl : xs.length = prd2 ds) :
    Calls Tryd.prog 68 #[v, v'] w fun e w' => ∃ u, e = .returned (.tuple #[u, .int .i64 0]) ∧ IsU w' u (mk (prd2 ds) (who ds false (cf xs) ds.length)) ∧ Below w.heap.size w w' := by
  have hZ := h
  have hA := h'
  obtain ⟨az, cz, rfl, -⟩ := h
  obtain ⟨a, cap, rfl, -⟩ := h'
  have c1 := fun (t : Nat) => many_checkArrays_ok (w.alloc (.cells #[.slice a xs.length cap] t)) _ zs ds [xs.length] w.heap.size 1 (hZ.below (below_alloc1 w _)) hG hn (lists1 w t _ _ _) (by omega) (fun i hi => match i, hi with | 0, _ => hl)
  have c3 := fun (W : World) (hb : Below w.heap.size w W) => many_alongAll W _ _ zs xs ds false (hZ.below hb) (hA.below hb) (ht.below hb) hG hn hl
  have hlR : Hid ((mk (prd2 ds) (who ds false (cf xs) ds.length)).length = prd2 ds) := mk_length _ _
  have hPR : Rng (mk (prd2 ds) (who ds false (cf xs) ds.length)) := Rng_of_P (mk_lt _ _)
  generalize mk (prd2 ds) (who ds false (cf xs) ds.length) = RL at *
  clear hG hl ht hZ hA
  generalize prd2 ds = N at *
  go_enter Tryd.func68, Tryd.ntmps68
  go_wp2_with (first
    | (go_at_call 104; refine Calls.mono (c1 _) ?_; rintro e w' ⟨rfl, hw⟩; rw [hw]; clear hw)
    | (go_at_call 105; refine Calls.mono (c3 _ (below_alloc1 _ _)) ?_; rintro e w2 ⟨g, rfl, hg, hr, hb⟩))
  go_ret2
  exact ⟨_, rfl, hr.isUN hPR (by rw [hlR.out]; omega) hlR.out, below_alloc hb⟩
set_option maxHeartbeats 2000000 in
theorem many_Forward_form (w : World) (v v' : Value) (zs : List Int) (xs : List Nat) (ds : List Nat) (h : IsZ w v zs) (h' : IsU w v' xs) (hG : Good zs ds) (hn : prd2 ds ≤ 1024) (hl : xs.length ≠ prd2 ds) :
    Calls Tryd.prog 68 #[v, v'] w fun e w' => ∃ u, e = .returned (.tuple #[u, .int .i64 5]) ∧ IsU w' u ([]) ∧ Below w.heap.size w w' := by
  have hZ := h
  have hm := len_max h'
  obtain ⟨az, cz, rfl, -⟩ := h
  obtain ⟨a, cap, rfl, -⟩ := h'
  have hex : ∃ i, i < 1 ∧ [xs.length].getD i 0 ≠ prd2 ds := ⟨0, by omega, hl⟩
  have c1 := fun (t : Nat) => many_checkArrays_form (w.alloc (.cells #[.slice a xs.length cap] t)) _ zs ds [xs.length] w.heap.size 1 (hZ.below (below_alloc1 w _)) hG hn (lists1 w t _ _ _) (by omega) hex (fun i => match i with | 0 => hm | _ + 1 => by simp)
  clear hG hn hl hex hZ hm
  go_enter Tryd.func68, Tryd.ntmps68
  go_wp2_with (go_at_call 104; refine Calls.mono (c1 _) ?_; rintro e w' ⟨rfl, hw⟩; rw [hw]; clear hw)
  go_ret2
  exact ⟨_, rfl, IsU.nil _, below_alloc1 _ _⟩
set_option maxHeartbeats 2000000 in
theorem many_Forward_large (w : World) (v v' : Value) (zs : List Int) (xs : List Nat) (ds : List Nat) (h : IsZ w v zs) (h' : IsU w v' xs) (hG : Good zs ds) (hn : 1024 < prd2 ds) :
    Calls Tryd.prog 68 #[v, v'] w fun e w' => ∃ u, e = .returned (.tuple #[u, .int .i64 2]) ∧ IsU w' u ([]) ∧ Below w.heap.size w w' := by
  have hZ := h
  obtain ⟨az, cz, rfl, -⟩ := h
  obtain ⟨a, cap, rfl, -⟩ := h'
  have c1 := fun (t : Nat) => many_checkArrays_large (w.alloc (.cells #[.slice a xs.length cap] t)) _ (.slice (some ⟨w.heap.size, 0, none⟩) 1 1) zs ds (hZ.below (below_alloc1 w _)) hG hn
  clear hG hn hZ
  go_enter Tryd.func68, Tryd.ntmps68
  go_wp2_with (go_at_call 104; refine Calls.mono (c1 _) ?_; rintro e w' ⟨rfl, hw⟩; rw [hw]; clear hw)
  go_ret2
  exact ⟨_, rfl, IsU.nil _, below_alloc1 _ _⟩
set_option maxHeartbeats 2000000 in
theorem many_Forward_bad (w : World) (v v' : Value) (zs : List Int) (xs : List Nat) (h : IsZ w v zs) (h' : IsU w v' xs) (hG : ∀ ds, ¬ Good zs ds) :
    Calls Tryd.prog 68 #[v, v'] w fun e w' => ∃ u, e = .returned (.tuple #[u, .int .i64 1]) ∧ IsU w' u ([]) ∧ Below w.heap.size w w' := by
  have hZ := h
  obtain ⟨az, cz, rfl, -⟩ := h
  obtain ⟨a, cap, rfl, -⟩ := h'
  have c1 := fun (t : Nat) => many_checkArrays_bad (w.alloc (.cells #[.slice a xs.length cap] t)) _ (.slice (some ⟨w.heap.size, 0, none⟩) 1 1) zs (hZ.below (below_alloc1 w _)) hG
  clear hG hZ
  go_enter Tryd.func68, Tryd.ntmps68
  go_wp2_with (go_at_call 104; refine Calls.mono (c1 _) ?_; rintro e w' ⟨rfl, hw⟩; rw [hw]; clear hw)
  go_ret2
  exact ⟨_, rfl, IsU.nil _, below_alloc1 _ _⟩

end Go.Proofs.YtgkepflnnoociacDoor
