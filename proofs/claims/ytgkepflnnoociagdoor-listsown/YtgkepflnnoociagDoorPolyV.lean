/-
  What Div of package poly answers.
-/
import Derived.Test.YtgkepflnnoociagDoorFieldAll
import Derived.Test.YtgkepflnnoociagDoorFieldAll
import Derived.Test.YtgkepflnnoociagDoorRefPoints
namespace Go.Proofs.YtgkepflnnoociagDoor
open Go.RowKit

theorem below_of_drew {w w' : World} (h : ∃ m, w' = w.drewN m) (B : Nat) : Below B w w' := by
  obtain ⟨m, rfl⟩ := h
  exact below_drewN (Below.refl _ _) m
theorem normal_R (w : World) (v : Value) (xs : List Nat) (h : IsU w v xs) (hl : xs.length ≤ 1000000000) :
    Calls Tryd.prog 59 #[v] w fun e w' => ∃ g, e = .returned (.slice (some ⟨g, 0, none⟩) (pN xs).length (pN xs).length) ∧ Hid (g = w.heap.size) ∧ RowU w' g (pN xs) ∧ Below w.heap.size w w' := by
  refine (poly_normal w v xs h hl).mono ?_
  rintro e w' ⟨rfl, hrow, hb⟩
  exact ⟨_, by rw [pN_length], rfl, hrow, hb⟩
theorem pN_last (a : List Nat) (h : (pN a).length ≠ 0) : cf (pN a) ((pN a).length - 1) ≠ 0 := by
  rw [cf_pN, pN_length]
  exact sig_last a (by rw [pN_length] at h; exact h)
theorem poly_takeOut_some (w : World) (gr gd : Nat) (rs ds : List Nat) (hr : RowU w gr rs) (hd : RowU w gd ds) (hne : gd ≠ gr) (hrP : ∀ x ∈ rs, x < P) (hdP : ∀ x ∈ ds, x < P) (hd0 : ds.length ≠ 0) (hl : ds.length - 1 < rs.length) (h9 : rs.length ≤ 2048) (h9' : ds.length ≤ 2048)
    (hrl : cf rs (rs.length - 1) ≠ 0) (hdl : cf ds (ds.length - 1) ≠ 0) :
    Calls Tryd.prog 61 #[.slice (some ⟨gr, 0, none⟩) rs.length rs.length, .slice (some ⟨gd, 0, none⟩) ds.length ds.length] w fun e w' => ∃ u qs rs', e = .returned u ∧ IsU w' u qs ∧ RowU w' gr rs' ∧ Quo rs ds qs rs' 0 ∧ Bar gr w w' := by
  obtain ⟨L, hL⟩ : ∃ L, ds.length = L + 1 := ⟨ds.length - 1, by omega⟩
  have := poly_takeOut_nat w gr gd L rs.length (rs.length - L) _ rs ds hr hd hne hrP hdP hL rfl (by omega) rfl h9 (by omega) hrl rfl (fun h => hdl (by rw [hL]; exact (fN_zero _).mp h))
  rw [← hL] at this
  exact this

set_option maxHeartbeats 1000000 in
theorem poly_Div_none (w : World) (v v' : Value) (xs ys : List Nat) (h : IsU w v xs) (h' : IsU w v' ys) (hl : xs.length ≤ 2048) (hl' : ys.length ≤ 2048) (hs : (pN ys).length = 0) :
    Calls Tryd.prog 23 #[v, v'] w fun e w' => ∃ u0 u1, e = .returned (.tuple #[u0, u1, .int .i64 4]) ∧ IsU w' u0 [] ∧ IsU w' u1 [] ∧ Below w.heap.size w w' := by
  have h0 := h
  obtain ⟨a, cap, rfl, -⟩ := h
  have h0' := h'
  obtain ⟨a', cap', rfl, -⟩ := h'
  have hl9' : ys.length ≤ 1000000000 := by omega
  have hb1 : (((pN ys).length : Int) == 0) = true := by rw [beq_iff_eq]; omega
  clear hs
  go_enter Tryd.func23, Tryd.ntmps23
  go_wp2_with (first
    | (go_at_call 58; refine Calls.mono (any2 _ h0 h0' hl hl') ?_; rintro e w1 ⟨rfl, hw⟩; have hW : Below w.heap.size w w1 := (by rw [hw]; exact below_alloc1 _ _); clear hw; replace h0' := h0'.below hW)
    | (go_at_call 59; refine Calls.mono (normal_R _ _ ys h0' hl9') ?_; rintro e w3 ⟨gd, rfl, hgd, hrd, hb⟩; replace hW := hW.trans (hb.mono hW.size); clear hb))
  go_ret3
  exact ⟨_, _, rfl, IsU.nil _, IsU.nil _, hW⟩

set_option maxHeartbeats 1000000 in
theorem poly_Div_ok (w : World) (v v' : Value) (xs ys : List Nat) (h : IsU w v xs) (h' : IsU w v' ys) (hl : xs.length ≤ 2048) (hl' : ys.length ≤ 2048) (hs : (pN ys).length ≠ 0) :
    Calls Tryd.prog 23 #[v, v'] w fun e w' => ∃ u0 u1 q r, e = .returned (.tuple #[u0, u1, .int .i64 0]) ∧ IsU w' u0 q ∧ IsU w' u1 r ∧ Divs xs ys q r ∧ q.length ≤ 2048 ∧ Below w.heap.size w w' := by
  have h0 := h
  obtain ⟨a, cap, rfl, -⟩ := h
  have h0' := h'
  obtain ⟨a', cap', rfl, -⟩ := h'
  have hl9 : xs.length ≤ 1000000000 := by omega
  have hl9' : ys.length ≤ 1000000000 := by omega
  have hb1 : (((pN ys).length : Int) == 0) = false := by rw [beq_eq_false_iff_ne]; omega
  have hx9 : (pN xs).length ≤ 2048 := by rw [pN_length]; have := sig_le xs; omega
  have hy9 : (pN ys).length ≤ 2048 := by rw [pN_length]; have := sig_le ys; omega
  have tk1 : True := trivial
  have tk2 : True := trivial
  by_cases hc : (pN ys).length - 1 < (pN xs).length
  · have hx0 : (pN xs).length ≠ 0 := by omega
    have cQ := fun (W : World) (gr gd : Nat) (h1 : RowU W gr (pN xs)) (h2 : RowU W gd (pN ys)) (h3 : gd ≠ gr) => poly_takeOut_some W gr gd (pN xs) (pN ys) h1 h2 h3 (pN_lt xs) (pN_lt ys) hs hc hx9 hy9 (pN_last xs hx0) (pN_last ys hs)
    have cN : ∀ (W : World) (g : Nat) (rs' : List Nat), RowU W g rs' → rs'.length = (pN xs).length → (∀ x ∈ rs', x < P) → Calls Tryd.prog 59 #[.slice (some ⟨g, 0, none⟩) (pN xs).length (pN xs).length] W fun e w' => ∃ u, e = .returned u ∧ IsU w' u (pN rs') ∧ Below W.heap.size W w' :=
      fun W g rs' h1 h2 h3 => normal_U W _ _ (h1.isUN (Rng_of_P h3) (by omega) h2) (by omega)
    have hD : Hid (∀ qs rs', Quo (pN xs) (pN ys) qs rs' 0 → Divs xs ys qs (pN rs')) := fun qs rs' hq => Divs_of hs hc hq
    clear hs hc hx0
    go_enter Tryd.func23, Tryd.ntmps23
    go_wp2_with (first
      | (go_at_call 58; refine Calls.mono (any2 _ h0 h0' hl hl') ?_; rintro e w1 ⟨rfl, hw⟩; have hW : Below w.heap.size w w1 := (by rw [hw]; exact below_alloc1 _ _); clear hw; replace h0 := h0.below hW; replace h0' := h0'.below hW)
      | (go_at_call 59; have _t := tk1; refine Calls.mono (normal_R _ _ ys h0' hl9') ?_; rintro e w3 ⟨gd, rfl, hgd, hrd, hb⟩; clear tk1; have hgdw : w.heap.size ≤ gd := (by rw [hgd.out]; exact hW.size); clear hgd; replace hW := hW.trans (hb.mono hW.size); replace h0 := h0.below hb; clear hb)
      | (go_at_call 59; have _t := tk2; refine Calls.mono (normal_R _ _ xs h0 hl9) ?_; rintro e w4 ⟨gr, rfl, hgr, hrr, hb⟩; clear tk2; have hne : gd ≠ gr := (by have := hrd.lt; rw [hgr.out]; omega); have hgrw : w.heap.size ≤ gr := (by rw [hgr.out]; exact hW.size); clear hgr; replace hW := hW.trans (hb.mono hW.size); replace hrd := hrd.below hb; clear hb)
      | (go_at_call 61; refine Calls.mono (cQ _ gr gd hrr hrd hne) ?_; rintro e w5 ⟨u, qs, rs', rfl, hU, hr5, hquo, hbar⟩; replace hW := Bar.fresh hW hgrw hbar; clear hbar hrr hrd; have hqq : Hid (Quo (pN xs) (pN ys) qs rs' 0) := hquo; clear hquo)
      | (go_at_call 59; refine Calls.mono (cN _ gr rs' hr5 hqq.out.2.1 hqq.out.2.2.2.1) ?_; rintro e w6 ⟨u1, rfl, hU1, hb⟩; replace hW := hW.trans (hb.mono hW.size); replace hU := hU.below hb; clear hb))
    go_ret3
    exact ⟨_, _, qs, pN rs', rfl, hU, hU1, hD.out _ _ hqq.out, by have := hqq.out.1; omega, hW⟩
  · have cQ := fun (W : World) (gr gd : Nat) => poly_takeOut_none W gr gd (pN xs) (pN ys) (by omega) hy9 hs
    have cN : ∀ (W : World) (g : Nat), RowU W g (pN xs) → Calls Tryd.prog 59 #[.slice (some ⟨g, 0, none⟩) (pN xs).length (pN xs).length] W fun e w' => ∃ u, e = .returned u ∧ IsU w' u (pN (pN xs)) ∧ Below W.heap.size W w' :=
      fun W g h1 => normal_U W _ _ (h1.isU (pN_rng xs) (by omega)) (by omega)
    have hD : Hid (Divs xs ys [] (pN (pN xs))) := Divs_small hs (by omega)
    clear hs hc
    go_enter Tryd.func23, Tryd.ntmps23
    go_wp2_with (first
      | (go_at_call 58; refine Calls.mono (any2 _ h0 h0' hl hl') ?_; rintro e w1 ⟨rfl, hw⟩; have hW : Below w.heap.size w w1 := (by rw [hw]; exact below_alloc1 _ _); clear hw; replace h0 := h0.below hW; replace h0' := h0'.below hW)
      | (go_at_call 59; have _t := tk1; refine Calls.mono (normal_R _ _ ys h0' hl9') ?_; rintro e w3 ⟨gd, rfl, hgd, hrd, hb⟩; clear tk1; replace hW := hW.trans (hb.mono hW.size); replace h0 := h0.below hb; clear hb)
      | (go_at_call 59; have _t := tk2; refine Calls.mono (normal_R _ _ xs h0 hl9) ?_; rintro e w4 ⟨gr, rfl, hgr, hrr, hb⟩; clear tk2; replace hW := hW.trans (hb.mono hW.size); clear hb)
      | (go_at_call 61; refine Calls.mono (cQ _ gr gd) ?_; rintro e w5 ⟨rfl, hw⟩; rw [hw]; clear hw)
      | (go_at_call 59; refine Calls.mono (cN _ gr hrr) ?_; rintro e w6 ⟨u1, rfl, hU1, hb⟩; replace hW := hW.trans (hb.mono hW.size); clear hb))
    go_ret3
    exact ⟨_, _, [], pN (pN xs), rfl, IsU.nil _, hU1, hD.out, by simp, hW⟩

end Go.Proofs.YtgkepflnnoociagDoor
