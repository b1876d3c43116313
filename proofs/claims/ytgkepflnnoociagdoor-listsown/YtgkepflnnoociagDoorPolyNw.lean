/-
  What Norm, Add, Mul and Div of package poly answer, and that it lies in new memory.
-/
import Derived.Test.YtgkepflnnoociagDoorPolyV
import Derived.Test.YtgkepflnnoociagDoorFieldAll
import Derived.Test.YtgkepflnnoociagDoorSlAppAll
namespace Go.Proofs.YtgkepflnnoociagDoor
open Go.RowKit

theorem normal_N (w : World) (v : Value) (xs : List Nat) (h : IsU w v xs) (hl : xs.length ≤ 1000000000) :
    Calls Tryd.prog 59 #[v] w fun e w' => ∃ u, e = .returned u ∧ IsU w' u (pN xs) ∧ NewU w.heap.size w' u ∧ Below w.heap.size w w' := by
  refine (poly_normal w v xs h hl).mono ?_
  rintro e w' ⟨rfl, hrow, hb⟩
  have hs := sig_le xs
  exact ⟨_, rfl, hrow.isUN (pN_rng xs) (by rw [pN_length]; omega) (pN_length xs), .of_row hrow (pN_length xs) (by omega) (Nat.le_refl _), hb⟩
set_option maxHeartbeats 1000000 in
theorem poly_Norm_okN (w : World) (v : Value) (xs : List Nat) (h : IsU w v xs) (hl : xs.length ≤ 2048) :
    Calls Tryd.prog 20 #[v] w fun e w' => ∃ u0, e = .returned (.tuple #[u0, .int .i64 0]) ∧ IsU w' u0 (pN xs) ∧ NewU w.heap.size w' u0 ∧ Below w.heap.size w w' := by
  have hl9 : xs.length ≤ 1000000000 := by omega
  have h0 := h
  obtain ⟨a, cap, rfl, -⟩ := h
  go_enter Tryd.func20, Tryd.ntmps20
  go_wp2_with (first
    | (go_at_call 58; refine Calls.mono (any1 _ h0 hl) ?_; rintro e w1 ⟨rfl, hw⟩; rw [hw]; clear hw)
    | (go_at_call 59; refine Calls.mono (normal_N _ _ xs (h0.below (below_alloc1 _ _)) hl9) ?_; rintro e w2 ⟨u, rfl, hU, hN, hb⟩))
  go_ret2
  exact ⟨_, rfl, hU, hN.mono (below_alloc1 w _).size, below_alloc hb⟩
set_option maxHeartbeats 1000000 in
theorem poly_Add_okN (w : World) (v v' : Value) (xs ys : List Nat) (h : IsU w v xs) (h' : IsU w v' ys) (hl : xs.length ≤ 2048) (hl' : ys.length ≤ 2048) :
    Calls Tryd.prog 21 #[v, v'] w fun e w' => ∃ u0, e = .returned (.tuple #[u0, .int .i64 0]) ∧ IsU w' u0 (pN (pS xs ys)) ∧ NewU w.heap.size w' u0 ∧ Below w.heap.size w w' := by
  have h0 := h
  obtain ⟨a, cap, rfl, -⟩ := h
  have h0' := h'
  obtain ⟨a', cap', rfl, -⟩ := h'
  by_cases hmx : xs.length < ys.length
  · have hY := h0'
    have hn9 : ys.length ≤ 1000000000 := by omega
    have hxn : xs.length ≤ ys.length := by omega
    have hyn : ys.length ≤ ys.length := by omega
    have hll : (lay (List.replicate ys.length 0) 0 xs).length = ys.length := by rw [lay_length (by rw [List.length_replicate]; omega), List.length_replicate]
    have hrg : Rng (lay (List.replicate ys.length 0) 0 xs) := lay_rng (Rng_replicate _) h0.range
    have hres : Hid (pN (addT (lay (List.replicate ys.length 0) 0 xs) 0 ys 1) = pN (pS xs ys)) := pN_ext fun i => by
      rw [cf_pS, cf_addT _ _ _ _ (by rw [hll]; omega), if_pos (Nat.zero_le _), lay_zeros _ _ hxn, Nat.sub_zero, toF_one]; grind
    have cT : ∀ (W : World) (g : Nat), RowU W g (lay (List.replicate ys.length 0) 0 xs) → IsU W (.slice a' ys.length cap') ys → Apart (.slice a' ys.length cap') g → Calls Tryd.prog 60 #[.slice (some ⟨g, 0, none⟩) ys.length ys.length, .slice a' ys.length cap', .int .u64 1] W fun e w' => e = .returned (.tuple #[]) ∧ RowU w' g (addT (lay (List.replicate ys.length 0) 0 xs) 0 ys 1) ∧ Bar g W w' :=
      fun W g h1 h2 h3 => poly_addTimes W g 0 ys.length _ _ ys 1 h1 hrg h2 h3 (by rw [hll]; omega) (by rw [hll]; rfl) (by rw [hll]; omega) (by decide)
    have hll2 : (addT (lay (List.replicate ys.length 0) 0 xs) 0 ys 1).length = ys.length := by rw [addT_length, hll]
    have hrg2 : Rng (addT (lay (List.replicate ys.length 0) 0 xs) 0 ys 1) := addK_rng _ _ _ _ _ hrg
    have cN : ∀ (W : World) (g : Nat), RowU W g (addT (lay (List.replicate ys.length 0) 0 xs) 0 ys 1) → Calls Tryd.prog 59 #[.slice (some ⟨g, 0, none⟩) ys.length ys.length] W fun e w' => ∃ u, e = .returned u ∧ IsU w' u (pN (addT (lay (List.replicate ys.length 0) 0 xs) 0 ys 1)) ∧ NewU W.heap.size w' u ∧ Below W.heap.size W w' :=
      fun W g h1 => normal_N W _ _ (h1.isUN hrg2 (by omega) hll2) (by omega)
    have hof : 0 + ys.length ≤ (List.replicate ys.length 0).length := by simp
    clear hll hrg hll2 hrg2
    go_enter Tryd.func21, Tryd.ntmps21
    go_wp2_with (first
      | (go_at_call 58; refine Calls.mono (any2 _ h0 h0' hl hl') ?_; rintro e w1 ⟨rfl, hw⟩; have hW : Below w.heap.size w w1 := (by rw [hw]; exact below_alloc1 _ _); clear hw; replace h0 := h0.below hW; replace h0' := h0'.below hW)
      | (at_make; refine wp_makeG rfl _ _ rfl ys.length rfl rfl hn9 ?_; intro g w2 hg hrow hb; have hA := h0'.apart (Nat.le_of_eq hg.out.symm); have hgw : w.heap.size ≤ g := (by rw [hg.out]; exact hW.size); clear hg; replace h0 := h0.below hb; replace h0' := h0'.below hb; replace hW := hW.trans (hb.mono hW.size); clear hb)
      | (refine wp_copyR rfl _ _ rfl g 0 ys.length ys.length _ (List.replicate ys.length 0) xs rfl rfl h0 hrow hof hxn hW hgw ?_; intro w3 z hrow3 hb; clear hrow; replace hW := hb; replace h0' := hY.below hb; clear hb h0)
      | (go_at_call 60; refine Calls.mono (cT _ g hrow3 h0' hA) ?_; rintro e w4 ⟨rfl, hrow4, hbar⟩; replace hW := Bar.fresh hW hgw hbar; clear hbar hrow3)
      | (go_at_call 59; refine Calls.mono (cN _ g hrow4) ?_; rintro e w5 ⟨u, rfl, hU, hN, hb⟩; replace hN := hN.mono hW.size; replace hW := hW.trans (hb.mono hW.size); clear hb hrow4))
    go_ret2
    exact ⟨_, rfl, hU.cast hres.out, hN, hW⟩
  · have hY := h0'
    have hn9 : xs.length ≤ 1000000000 := by omega
    have hxn : xs.length ≤ xs.length := by omega
    have hyn : ys.length ≤ xs.length := by omega
    have hll : (lay (List.replicate xs.length 0) 0 xs).length = xs.length := by rw [lay_length (by rw [List.length_replicate]; omega), List.length_replicate]
    have hrg : Rng (lay (List.replicate xs.length 0) 0 xs) := lay_rng (Rng_replicate _) h0.range
    have hres : Hid (pN (addT (lay (List.replicate xs.length 0) 0 xs) 0 ys 1) = pN (pS xs ys)) := pN_ext fun i => by
      rw [cf_pS, cf_addT _ _ _ _ (by rw [hll]; omega), if_pos (Nat.zero_le _), lay_zeros _ _ hxn, Nat.sub_zero, toF_one]; grind
    have cT : ∀ (W : World) (g : Nat), RowU W g (lay (List.replicate xs.length 0) 0 xs) → IsU W (.slice a' ys.length cap') ys → Apart (.slice a' ys.length cap') g → Calls Tryd.prog 60 #[.slice (some ⟨g, 0, none⟩) xs.length xs.length, .slice a' ys.length cap', .int .u64 1] W fun e w' => e = .returned (.tuple #[]) ∧ RowU w' g (addT (lay (List.replicate xs.length 0) 0 xs) 0 ys 1) ∧ Bar g W w' :=
      fun W g h1 h2 h3 => poly_addTimes W g 0 xs.length _ _ ys 1 h1 hrg h2 h3 (by rw [hll]; omega) (by rw [hll]; rfl) (by rw [hll]; omega) (by decide)
    have hll2 : (addT (lay (List.replicate xs.length 0) 0 xs) 0 ys 1).length = xs.length := by rw [addT_length, hll]
    have hrg2 : Rng (addT (lay (List.replicate xs.length 0) 0 xs) 0 ys 1) := addK_rng _ _ _ _ _ hrg
    have cN : ∀ (W : World) (g : Nat), RowU W g (addT (lay (List.replicate xs.length 0) 0 xs) 0 ys 1) → Calls Tryd.prog 59 #[.slice (some ⟨g, 0, none⟩) xs.length xs.length] W fun e w' => ∃ u, e = .returned u ∧ IsU w' u (pN (addT (lay (List.replicate xs.length 0) 0 xs) 0 ys 1)) ∧ NewU W.heap.size w' u ∧ Below W.heap.size W w' :=
      fun W g h1 => normal_N W _ _ (h1.isUN hrg2 (by omega) hll2) (by omega)
    have hof : 0 + xs.length ≤ (List.replicate xs.length 0).length := by simp
    clear hll hrg hll2 hrg2
    go_enter Tryd.func21, Tryd.ntmps21
    go_wp2_with (first
      | (go_at_call 58; refine Calls.mono (any2 _ h0 h0' hl hl') ?_; rintro e w1 ⟨rfl, hw⟩; have hW : Below w.heap.size w w1 := (by rw [hw]; exact below_alloc1 _ _); clear hw; replace h0 := h0.below hW; replace h0' := h0'.below hW)
      | (at_make; refine wp_makeG rfl _ _ rfl xs.length rfl rfl hn9 ?_; intro g w2 hg hrow hb; have hA := h0'.apart (Nat.le_of_eq hg.out.symm); have hgw : w.heap.size ≤ g := (by rw [hg.out]; exact hW.size); clear hg; replace h0 := h0.below hb; replace h0' := h0'.below hb; replace hW := hW.trans (hb.mono hW.size); clear hb)
      | (refine wp_copyR rfl _ _ rfl g 0 xs.length xs.length _ (List.replicate xs.length 0) xs rfl rfl h0 hrow hof hxn hW hgw ?_; intro w3 z hrow3 hb; clear hrow; replace hW := hb; replace h0' := hY.below hb; clear hb h0)
      | (go_at_call 60; refine Calls.mono (cT _ g hrow3 h0' hA) ?_; rintro e w4 ⟨rfl, hrow4, hbar⟩; replace hW := Bar.fresh hW hgw hbar; clear hbar hrow3)
      | (go_at_call 59; refine Calls.mono (cN _ g hrow4) ?_; rintro e w5 ⟨u, rfl, hU, hN, hb⟩; replace hN := hN.mono hW.size; replace hW := hW.trans (hb.mono hW.size); clear hb hrow4))
    go_ret2
    exact ⟨_, rfl, hU.cast hres.out, hN, hW⟩
set_option maxHeartbeats 1000000 in
theorem poly_Mul_okN (w : World) (v v' : Value) (xs ys : List Nat) (h : IsU w v xs) (h' : IsU w v' ys) (hl : xs.length ≤ 2048) (hl' : ys.length ≤ 2048) (hp : (pM (pN xs) (pN ys)).length ≤ 2048) :
    Calls Tryd.prog 22 #[v, v'] w fun e w' => ∃ u0, e = .returned (.tuple #[u0, .int .i64 0]) ∧ IsU w' u0 (pM (pN xs) (pN ys)) ∧ NewU w.heap.size w' u0 ∧ Below w.heap.size w w' := by
  have h0 := h
  obtain ⟨a, cap, rfl, -⟩ := h
  have h0' := h'
  obtain ⟨a', cap', rfl, -⟩ := h'
  have hl9 : xs.length ≤ 1000000000 := by omega
  have hl9' : ys.length ≤ 1000000000 := by omega
  by_cases hx0 : (pN xs).length = 0
  · have e : pM (pN xs) (pN ys) = [] := by unfold pM; rw [if_pos (.inl hx0)]
    rw [e]
    have hb1 : (((pN xs).length : Int) == 0) = true := by rw [beq_iff_eq]; omega
    clear e hx0 hp
    go_enter Tryd.func22, Tryd.ntmps22
    have tk1 : True := trivial
    go_wp2_with (first
      | (go_at_call 58; refine Calls.mono (any2 _ h0 h0' hl hl') ?_; rintro e w1 ⟨rfl, hw⟩; have hW : Below w.heap.size w w1 := (by rw [hw]; exact below_alloc1 _ _); clear hw; replace h0 := h0.below hW; replace h0' := h0'.below hW)
      | (go_at_call 59; have _t := tk1; refine Calls.mono (normal_U _ _ xs h0 hl9) ?_; rintro e w2 ⟨u, rfl, hU, hb⟩; clear tk1; replace hW := hW.trans (hb.mono hW.size); replace h0' := h0'.below hb; clear hb; obtain ⟨ax, cx, rfl, -⟩ := hU)
      | (go_at_call 59; refine Calls.mono (normal_U _ _ ys h0' hl9') ?_; rintro e w3 ⟨u, rfl, hU', hb⟩; replace hW := hW.trans (hb.mono hW.size); clear hb; obtain ⟨ay, cy, rfl, -⟩ := hU'))
    go_ret2
    exact ⟨_, rfl, IsU.nil _, .nil _ _, hW⟩
  · by_cases hy0 : (pN ys).length = 0
    · have e : pM (pN xs) (pN ys) = [] := by unfold pM; rw [if_pos (.inr hy0)]
      rw [e]
      have hb1 : (((pN xs).length : Int) == 0) = false := by rw [beq_eq_false_iff_ne]; omega
      have hb2 : (((pN ys).length : Int) == 0) = true := by rw [beq_iff_eq]; omega
      clear e hx0 hy0 hp
      go_enter Tryd.func22, Tryd.ntmps22
      have tk1 : True := trivial
      go_wp2_with (first
        | (go_at_call 58; refine Calls.mono (any2 _ h0 h0' hl hl') ?_; rintro e w1 ⟨rfl, hw⟩; have hW : Below w.heap.size w w1 := (by rw [hw]; exact below_alloc1 _ _); clear hw; replace h0 := h0.below hW; replace h0' := h0'.below hW)
        | (go_at_call 59; have _t := tk1; refine Calls.mono (normal_U _ _ xs h0 hl9) ?_; rintro e w2 ⟨u, rfl, hU, hb⟩; clear tk1; replace hW := hW.trans (hb.mono hW.size); replace h0' := h0'.below hb; clear hb; obtain ⟨ax, cx, rfl, -⟩ := hU)
        | (go_at_call 59; refine Calls.mono (normal_U _ _ ys h0' hl9') ?_; rintro e w3 ⟨u, rfl, hU', hb⟩; replace hW := hW.trans (hb.mono hW.size); clear hb; obtain ⟨ay, cy, rfl, -⟩ := hU'))
      go_ret2
      exact ⟨_, rfl, IsU.nil _, .nil _ _, hW⟩
    · have hb1 : (((pN xs).length : Int) == 0) = false := by rw [beq_eq_false_iff_ne]; omega
      have hb2 : (((pN ys).length : Int) == 0) = false := by rw [beq_eq_false_iff_ne]; omega
      obtain ⟨n, hn⟩ : ∃ n : Nat, n = (pN xs).length + (pN ys).length - 1 := ⟨_, rfl⟩
      have hpl : (pM (pN xs) (pN ys)).length = n := by rw [hn]; unfold pM; rw [if_neg (by omega), mk_length]
      have hn2 : n ≤ 2048 := by omega
      have hadd : ((pN xs).length : Int) + ((pN ys).length : Int) - 1 = (n : Int) := by omega
      have hall : Hid (mulK (pN xs) (pN ys) (pN xs).length = pM (pN xs) (pN ys)) := mulK_all _ _ hx0 hy0
      have hlen := fun k => (mulK_length (pN xs) (pN ys) k).trans hn.symm
      have hnx : (pN xs).length ≤ n := by omega
      have cT : ∀ (W : World) (g k : Nat) (v : Value), k < (pN xs).length → RowU W g (mulK (pN xs) (pN ys) k) → IsU W v (pN ys) → Apart v g → Calls Tryd.prog 60 #[.slice (some ⟨g, k, none⟩) (n - k) (n - k), v, .int .u64 (((pN xs).getD k 0 : Nat) : Int)] W fun e w' => e = .returned (.tuple #[]) ∧ RowU w' g (mulK (pN xs) (pN ys) (k + 1)) ∧ Bar g W w' :=
        fun W g k v hk h1 h2 h3 => poly_addTimes W g k (n - k) v _ _ _ h1 (Rng_of_P (mulK_P _ _ k)) h2 h3 (by rw [hlen]; omega) (by rw [hlen]) (by rw [hlen]; omega) (range_getD (pN_rng xs) k)
      have hn9 : n ≤ 1000000000 := by omega
      have hres : ∀ (W : World) (g : Nat), RowU W g (mulK (pN xs) (pN ys) (pN xs).length) → IsU W (.slice (some ⟨g, 0, none⟩) n n) (pM (pN xs) (pN ys)) ∧ (w.heap.size ≤ g → NewU w.heap.size W (.slice (some ⟨g, 0, none⟩) n n)) := fun W g h => by
        rw [hall.out] at h
        exact ⟨h.isUN (by rw [← hall.out]; exact Rng_of_P (mulK_P _ _ _)) (by omega) hpl, fun hg => .of_row h hpl (by omega) hg⟩
      have hst : List.replicate n 0 = mulK (pN xs) (pN ys) 0 := by rw [hn]; rfl
      have hst' : Hid (List.replicate n 0 = mulK (pN xs) (pN ys) 0) := hst
      clear hst hpl hp hlen hn hall hx0 hy0
      go_enter Tryd.func22, Tryd.ntmps22
      have tk1 : True := trivial
      go_wp2_with (first
        | (go_at_call 58; refine Calls.mono (any2 _ h0 h0' hl hl') ?_; rintro e w1 ⟨rfl, hw⟩; have hW : Below w.heap.size w w1 := (by rw [hw]; exact below_alloc1 _ _); clear hw; replace h0 := h0.below hW; replace h0' := h0'.below hW)
        | (go_at_call 59; have _t := tk1; refine Calls.mono (normal_U _ _ xs h0 hl9) ?_; rintro e w2 ⟨u, rfl, hU, hb⟩; clear tk1; replace hW := hW.trans (hb.mono hW.size); replace h0' := h0'.below hb; clear hb; have hX := hU; obtain ⟨ax, cx, rfl, -⟩ := hU)
        | (go_at_call 59; refine Calls.mono (normal_U _ _ ys h0' hl9') ?_; rintro e w3 ⟨u, rfl, hU', hb⟩; replace hW := hW.trans (hb.mono hW.size); replace hX := hX.below hb; clear hb; have hY := hU'; obtain ⟨ay, cy, rfl, -⟩ := hU')
        | (at_make; refine wp_makeG rfl _ _ rfl n rfl rfl hn9 ?_; intro g w4 hg hrow hb; have hA := hX.apart (Nat.le_of_eq hg.out.symm); have hA' := hY.apart (Nat.le_of_eq hg.out.symm); have hgw : w.heap.size ≤ g := (by rw [hg.out]; exact hW.size); clear hg; replace hX := hX.below hb; replace hY := hY.below hb; replace hW := hW.trans (hb.mono hW.size); clear hb))
      have hX0 := hX
      have hrow0 := hrow.cast hst'.out
      clear hrow hst' h0 h0' hb1 hb2 hadd
      go_loopw [40] (fun vi wr => ∃ k : Nat, k ≤ (pN xs).length ∧ vi = .int .i64 (k : Int) ∧ RowU wr g (mulK (pN xs) (pN ys) k) ∧ Bar g w4 wr)
        (fun vi _ => (pN xs).length - (intOf vi).toNat)
      case atStart => exact ⟨0, Nat.zero_le _, rfl, hrow0, Bar.refl _ _⟩
      case round =>
        clear hrow0
        obtain ⟨k, hk, rfl, hrow, hbar⟩ := hrel
        by_cases hlt : k < (pN xs).length
        · obtain ⟨b, o', cx', hv⟩ := hX0.place (by omega)
          simp only [Value.slice.injEq, true_and] at hv
          obtain ⟨rfl, rfl⟩ := hv
          have hcell := (hX.bar hA hbar).cell k hlt
          have c1 := fun W h1 h2 => cT W g k _ hlt h1 h2 hA'
          have hYr := hY.bar hA' hbar
          have hkn : k ≤ n := by omega
          clear cT hres hX hX0 hA
          generalize (pN xs).getD k 0 = y at *
          go_wp2_with (go_at_call 60; refine Calls.mono (c1 _ hrow hYr) ?_; rintro e w5 ⟨rfl, hrow5, hbar5⟩; clear hcell)
          replace hbar := hbar.trans hbar5
          clear hbar5 hrow hYr
          go_roundw
          case rel => exact ⟨k + 1, by omega, by go_num, hrow5, hbar⟩
          case measure => simp only [intOf]; omega
        · have e : k = (pN xs).length := by omega
          rw [e] at hrow
          have hR := hres _ _ hrow
          have hge : (pN xs).length ≤ k := by omega
          have hW2 := Bar.fresh hW hgw hbar
          clear e hres cT hX hX0 hY hrow
          go_wp2
          go_ret2
          exact ⟨_, rfl, hR.1, hR.2 hgw, hW2⟩
set_option maxHeartbeats 4000000 in
theorem poly_takeOut_natN (w : World) (gr gd L n lq v : Nat) (rs ds : List Nat) (hr : RowU w gr rs) (hd : RowU w gd ds) (hne : gd ≠ gr) (hrP : ∀ x ∈ rs, x < P) (hdP : ∀ x ∈ ds, x < P) (hL : ds.length = L + 1) (hn : rs.length = n) (hLn : L < n) (hlq : n - L = lq) (h9 : n ≤ 2048) (h9' : L ≤ 2048)
    (hrl : cf rs (n - 1) ≠ 0) (hv : v = fW (ds.getD L 0) 18446744069414584319) (hdl : fN (ds.getD L 0) ≠ 0) :
    Calls Tryd.prog 61 #[.slice (some ⟨gr, 0, none⟩) n n, .slice (some ⟨gd, 0, none⟩) (L + 1) (L + 1)] w fun e w' => ∃ u qs rs', e = .returned u ∧ IsU w' u qs ∧ NewU w.heap.size w' u ∧ RowU w' gr rs' ∧ Quo rs ds qs rs' 0 ∧ Bar gr w w' := by
  have hcL := hd.cell L (by omega)
  have hd1 : decide ((n : Int) ≤ (L : Int)) = false := decide_eq_false (by omega)
  have hsub : (n : Int) - (L : Int) = (lq : Int) := by omega
  have hq9 : lq ≤ 1000000000 := by omega
  have cI := field_Inv_some (ds.getD L 0) (range_getD (Rng_of_P hdP) L) hdl
  rw [← hv] at cI
  have hvv : Hid (v = fW (ds.getD L 0) 18446744069414584319) := hv
  have hdl' : Hid (fN (ds.getD L 0) ≠ 0) := hdl
  have hL' : Hid (ds.length = L + 1) := hL
  have hn' : Hid (rs.length = n) := hn
  have hlq' : Hid (n - L = lq) := hlq
  have hrl' : Hid (cf rs (n - 1) ≠ 0) := hrl
  have hrlt := hr.lt
  have hdlt := hd.lt
  clear hv hdl hL hn hlq hrl
  go_enter Tryd.func61, Tryd.ntmps61
  go_wp2_with (first
    | (go_at_call 65; refine Calls.mono (cI _) ?_; rintro e w1 ⟨rfl, hw⟩; rw [hw]; clear hw cI)
    | (at_make; refine wp_makeG rfl _ _ rfl lq rfl rfl hq9 ?_; intro gq w2 hg hrowq hb))
  have hlt1 : gr < gq := by rw [hg.out]; exact hrlt
  have hlt2 : gd < gq := by rw [hg.out]; exact hdlt
  have hgq : w.heap.size ≤ gq := Nat.le_of_eq hg.out.symm
  have hn := hn'.out
  have hL := hL'.out
  have hrow0 : RowU w2 gr rs := hr.below hb
  have hq0 : Quo rs ds (List.replicate lq 0) rs lq := by
    have := Quo_start (ds := ds) hrP (by rw [hL, hn]; omega)
    rw [hn, hL, Nat.add_sub_cancel, hlq'.out] at this
    exact this
  have hbar0 : Bar gr w w2 := Bar.of_below hb
  have hvi : Hid (toF v * cf ds (ds.length - 1) = 1) := by
    have h1 : cf ds L ≠ 0 := fun h => hdl'.out ((fN_zero _).mpr h)
    have h2 := mul_inv h1
    show toF v * cf ds (ds.length - 1) = 1
    rw [hL, Nat.add_sub_cancel, hvv.out, toF_inv]
    show inv (cf ds L) * cf ds L = 1
    grind
  have hv64 : (v : Int) < 18446744073709551616 := by rw [hvv.out]; have := fW_lt (ds.getD L 0) 18446744069414584319; omega
  have hrl2 : rs.length ≠ 0 → cf rs (rs.length - 1) ≠ 0 := fun _ => by rw [hn]; exact hrl'.out
  have hD0 : ∀ W : World, Bar gr w W → IsU W (.slice (some ⟨gd, 0, none⟩) (L + 1) (L + 1)) ds := fun W hB => (hd.bar hne hB).isUN (Rng_of_P hdP) (by omega) hL
  have hsteps : Hid (∀ (qs rs' : List Nat) (i : Nat), Quo rs ds qs rs' (i + 1) → i + 1 ≤ lq → Quo rs ds (qs.set i (fM (rs'.getD (i + L) 0) v)) (addT rs' i ds (fS 0 (fM (rs'.getD (i + L) 0) v))) i) := by
    intro qs rs' i hq hi
    have h1 : qs.length = lq := by rw [hq.1, hn, hL, Nat.add_sub_cancel, hlq'.out]
    have := Quo_step (v := v) hq (by omega) (by omega) (by omega) hrl2 hvi.out
    rw [hL, Nat.add_sub_cancel] at this
    exact this
  have hsizes : Hid (∀ (qs rs' : List Nat) (i : Nat), Quo rs ds qs rs' i → qs.length = lq ∧ rs'.length = n ∧ (∀ x ∈ qs, x < P) ∧ (∀ x ∈ rs', x < P)) := by
    intro qs rs' i hq
    exact ⟨by rw [hq.1, hn, hL, Nat.add_sub_cancel, hlq'.out], by rw [hq.2.1, hn], hq.2.2.1, hq.2.2.2.1⟩
  have hLn' : lq + L = n := by have := hlq'.out; omega
  have hsum : Hid (lq + L = n) := hLn'
  clear hrl2 hvi hrlt hdlt hr hd hb hg hL hn hLn' hdl' hvv hcL hd1 hsub
  generalize ds.getD L 0 = dl at *
  go_loopw [9] (fun vi wr => ∃ (z : Int) (j : Nat) (qs rs' : List Nat), j ≤ lq ∧ z = (j : Int) - 1 ∧ vi = .int .i64 z ∧ RowU wr gq qs ∧ RowU wr gr rs' ∧ Hid (Quo rs ds qs rs' j) ∧ Bar gr w wr)
    (fun vi _ => (intOf vi + 1).toNat)
  case atStart => exact ⟨_, lq, _, _, Nat.le_refl _, rfl, rfl, hrowq, hrow0, hq0, hbar0⟩
  case round =>
    clear hrowq hrow0 hq0 hbar0
    obtain ⟨z, j, qs, rs', hj, hz, rfl, hrowq, hrowr, hq, hbar⟩ := hrel
    obtain ⟨hs1, hs2, hs3, hs4⟩ := hsizes.out _ _ _ hq.out
    rcases Nat.eq_zero_or_pos j with hj0 | hj0
    · have e : z = -1 := by omega
      subst e
      subst hj0
      have hU := hrowq.isUN (Rng_of_P hs3) (by omega) hs1
      have hN : NewU w.heap.size _ _ := .of_row hrowq hs1 hq9 hgq
      clear hz hs1 hs2 hD0
      go_wp2
      go_ret
      exact ⟨_, qs, rs', rfl, hU, hN, hrowr, hq.out, hbar⟩
    · obtain ⟨i, rfl⟩ : ∃ i, j = i + 1 := ⟨j - 1, by omega⟩
      have e : z = (i : Int) := by omega
      subst e
      have hsm := hsum.out
      have hil : i < lq := by omega
      have hiL : i + L < n := by omega
      have hst : Hid (Quo rs ds (qs.set i (fM (rs'.getD (i + L) 0) v)) (addT rs' i ds (fS 0 (fM (rs'.getD (i + L) 0) v))) i) := hsteps.out _ _ _ hq.out hj
      have hcr := hrowr.cell (i + L) (by omega)
      have hcq := hrowq.cell i (by omega)
      have hfq := hrowq.frozen i
      have cM := field_Mul (rs'.getD (i + L) 0) v (range_getD (Rng_of_P hs4) _) hv64
      have hc64 : ((fM (rs'.getD (i + L) 0) v : Nat) : Int) < 18446744073709551616 := by have := fM_lt (rs'.getD (i + L) 0) v; omega
      have cS : ∀ W : World, Calls Tryd.prog 12 #[.int .u64 0, .int .u64 ((fM (rs'.getD (i + L) 0) v : Nat) : Int)] W fun e w' => e = .returned (.int .u64 ((fS 0 (fM (rs'.getD (i + L) 0) v) : Nat) : Int)) ∧ w' = W := fun W => field_Sub 0 _ (by decide) hc64 W
      have hqr : ∀ c : Nat, RowU (wr.setCell ⟨gq, i, none⟩ (.int .u64 (c : Int))) gq (qs.set i c) := fun c => hrowq.set i c
      have hrr : ∀ c : Nat, RowU (wr.setCell ⟨gq, i, none⟩ (.int .u64 (c : Int))) gr rs' := fun c => hrowr.block (Below.heap_setCell _ _ _ _ (by show gr ≠ gq; omega))
      have hbb : ∀ c : Nat, Bar gr w (wr.setCell ⟨gq, i, none⟩ (.int .u64 (c : Int))) := fun c => hbar.setFresh hgq _ _
      have hsl : ∀ c : Nat, (qs.set i c).getD i 0 = c := fun c => by simp [List.getD, hs1, hil]
      have cA : ∀ (W : World) (c : Nat), RowU W gr rs' → IsU W (.slice (some ⟨gd, 0, none⟩) (L + 1) (L + 1)) ds → Calls Tryd.prog 60 #[.slice (some ⟨gr, i, none⟩) (n - i) (n - i), .slice (some ⟨gd, 0, none⟩) (L + 1) (L + 1), .int .u64 ((fS 0 c : Nat) : Int)] W fun e w' => e = .returned (.tuple #[]) ∧ RowU w' gr (addT rs' i ds (fS 0 c)) ∧ Bar gr W w' := fun W c h1 h2 =>
        poly_addTimes W gr i (n - i) _ rs' ds (fS 0 c) h1 (Rng_of_P hs4) h2 (apart_of hne) (by rw [hL'.out]; omega) (by rw [hs2]) (by omega) (by have := fS_lt 0 c; omega)
      have hin : i ≤ n := by omega
      clear hrowq hrowr hbar hz hj hj0 hsm hc64 hs3 hs4
      generalize fM (rs'.getD (i + L) 0) v = c at *
      generalize rs'.getD (i + L) 0 = r at *
      generalize qs.getD i 0 = old at *
      go_wp2_with (go_at_call 66; refine Calls.mono (cM _) ?_; rintro e w' ⟨rfl, hw⟩; rw [hw]; clear hw)
      obtain ⟨W, hWe⟩ : ∃ W : World, W = wr.setCell ⟨gq, i, none⟩ (.int .u64 (c : Int)) := ⟨_, rfl⟩
      have h1 := hqr c
      have h2 := hrr c
      have h3 := hbb c
      rw [← hWe] at h1 h2 h3 ⊢
      clear hWe hqr hrr hbb hcr hcq hfq
      have hcq := h1.cell i (by rw [List.length_set]; omega)
      rw [hsl c] at hcq
      have cA2 : ∀ W' : World, (∃ m, W' = W.drewN m) → Calls Tryd.prog 60 #[.slice (some ⟨gr, i, none⟩) (n - i) (n - i), .slice (some ⟨gd, 0, none⟩) (L + 1) (L + 1), .int .u64 ((fS 0 c : Nat) : Int)] W' fun e w' => e = .returned (.tuple #[]) ∧ RowU w' gq (qs.set i c) ∧ RowU w' gr (addT rs' i ds (fS 0 c)) ∧ Bar gr w w' := by
        rintro W' ⟨m, rfl⟩
        refine (cA _ c (h2.drewN m) (hD0 _ (h3.drewN m))).mono ?_
        rintro e w' ⟨rfl, h4, h5⟩
        exact ⟨rfl, (h1.drewN m).bar (by omega) h5, h4, (h3.drewN m).trans h5⟩
      clear cA hD0 hsl h1 h2 h3 hv64 hdP hrP cM
      generalize fS 0 c = d at *
      go_region_with (first
        | (go_at_call 12; refine Calls.mono (cS _) ?_; rintro e w' ⟨rfl, hw⟩; rw [hw]; clear hw)
        | (go_at_call 60; refine Calls.mono (cA2 _ ?_) ?_; exact ⟨1, rfl⟩; rintro e w5 ⟨rfl, h4, h5, h6⟩))
      all_goals
        clear hcq
        go_wp2
        go_roundw
        case rel => exact ⟨_, i, _, _, by omega, rfl, by go_num, h4, h5, hst, h6⟩
        case measure => simp only [intOf]; omega
theorem poly_takeOut_someN (w : World) (gr gd : Nat) (rs ds : List Nat) (hr : RowU w gr rs) (hd : RowU w gd ds) (hne : gd ≠ gr) (hrP : ∀ x ∈ rs, x < P) (hdP : ∀ x ∈ ds, x < P) (hd0 : ds.length ≠ 0) (hl : ds.length - 1 < rs.length) (h9 : rs.length ≤ 2048) (h9' : ds.length ≤ 2048)
    (hrl : cf rs (rs.length - 1) ≠ 0) (hdl : cf ds (ds.length - 1) ≠ 0) :
    Calls Tryd.prog 61 #[.slice (some ⟨gr, 0, none⟩) rs.length rs.length, .slice (some ⟨gd, 0, none⟩) ds.length ds.length] w fun e w' => ∃ u qs rs', e = .returned u ∧ IsU w' u qs ∧ NewU w.heap.size w' u ∧ RowU w' gr rs' ∧ Quo rs ds qs rs' 0 ∧ Bar gr w w' := by
  obtain ⟨L, hL⟩ : ∃ L, ds.length = L + 1 := ⟨ds.length - 1, by omega⟩
  have := poly_takeOut_natN w gr gd L rs.length (rs.length - L) _ rs ds hr hd hne hrP hdP hL rfl (by omega) rfl h9 (by omega) hrl rfl (fun h => hdl (by rw [hL]; exact (fN_zero _).mp h))
  rw [← hL] at this
  exact this
set_option maxHeartbeats 1000000 in
theorem poly_Div_noneN (w : World) (v v' : Value) (xs ys : List Nat) (h : IsU w v xs) (h' : IsU w v' ys) (hl : xs.length ≤ 2048) (hl' : ys.length ≤ 2048) (hs : (pN ys).length = 0) :
    Calls Tryd.prog 23 #[v, v'] w fun e w' => ∃ u0 u1, e = .returned (.tuple #[u0, u1, .int .i64 4]) ∧ NewU w.heap.size w' u0 ∧ NewU w.heap.size w' u1 ∧ Below w.heap.size w w' := by
  have h0 := h
  obtain ⟨a, cap, rfl, -⟩ := h
  have h0' := h'
  obtain ⟨a', cap', rfl, -⟩ := h'
  have hl9' : ys.length ≤ 1000000000 := by omega
  have hb1 : (((pN ys).length : Int) == 0) = true := by rw [beq_iff_eq]; omega
  clear hs
  go_enter Tryd.func23, Tryd.ntmps23
  go_wp2_with (first
    | (go_at_call 58; refine Calls.mono (any2 _ h0 h0' hl hl') ?_; rintro e w1 ⟨rfl, hw⟩; have hW : Below w.heap.size w w1 := (by rw [hw]; exact below_alloc1 _ _); clear hw; replace h0' := h0'.below hW)
    | (go_at_call 59; refine Calls.mono (normal_R _ _ ys h0' hl9') ?_; rintro e w3 ⟨gd, rfl, hgd, hrd, hb⟩; replace hW := hW.trans (hb.mono hW.size); clear hb))
  go_ret3
  exact ⟨_, _, rfl, .nil _ _, .nil _ _, hW⟩
set_option maxHeartbeats 1000000 in
theorem poly_Div_okN (w : World) (v v' : Value) (xs ys : List Nat) (h : IsU w v xs) (h' : IsU w v' ys) (hl : xs.length ≤ 2048) (hl' : ys.length ≤ 2048) (hs : (pN ys).length ≠ 0) :
    Calls Tryd.prog 23 #[v, v'] w fun e w' => ∃ u0 u1, e = .returned (.tuple #[u0, u1, .int .i64 0]) ∧ NewU w.heap.size w' u0 ∧ NewU w.heap.size w' u1 ∧ Below w.heap.size w w' := by
  have h0 := h
  obtain ⟨a, cap, rfl, -⟩ := h
  have h0' := h'
  obtain ⟨a', cap', rfl, -⟩ := h'
  have hl9 : xs.length ≤ 1000000000 := by omega
  have hl9' : ys.length ≤ 1000000000 := by omega
  have hb1 : (((pN ys).length : Int) == 0) = false := by rw [beq_eq_false_iff_ne]; omega
  have hx9 : (pN xs).length ≤ 2048 := by rw [pN_length]; have := sig_le xs; omega
  have hy9 : (pN ys).length ≤ 2048 := by rw [pN_length]; have := sig_le ys; omega
  have tk1 : True := trivial
  have tk2 : True := trivial
  by_cases hc : (pN ys).length - 1 < (pN xs).length
  · have hx0 : (pN xs).length ≠ 0 := by omega
    have cQ := fun (W : World) (gr gd : Nat) (h1 : RowU W gr (pN xs)) (h2 : RowU W gd (pN ys)) (h3 : gd ≠ gr) => poly_takeOut_someN W gr gd (pN xs) (pN ys) h1 h2 h3 (pN_lt xs) (pN_lt ys) hs hc hx9 hy9 (pN_last xs hx0) (pN_last ys hs)
    have cN : ∀ (W : World) (g : Nat) (rs' : List Nat), RowU W g rs' → rs'.length = (pN xs).length → (∀ x ∈ rs', x < P) → Calls Tryd.prog 59 #[.slice (some ⟨g, 0, none⟩) (pN xs).length (pN xs).length] W fun e w' => ∃ u, e = .returned u ∧ IsU w' u (pN rs') ∧ NewU W.heap.size w' u ∧ Below W.heap.size W w' :=
      fun W g rs' h1 h2 h3 => normal_N W _ _ (h1.isUN (Rng_of_P h3) (by omega) h2) (by omega)
    clear hs hc hx0
    go_enter Tryd.func23, Tryd.ntmps23
    go_wp2_with (first
      | (go_at_call 58; refine Calls.mono (any2 _ h0 h0' hl hl') ?_; rintro e w1 ⟨rfl, hw⟩; have hW : Below w.heap.size w w1 := (by rw [hw]; exact below_alloc1 _ _); clear hw; replace h0 := h0.below hW; replace h0' := h0'.below hW)
      | (go_at_call 59; have _t := tk1; refine Calls.mono (normal_R _ _ ys h0' hl9') ?_; rintro e w3 ⟨gd, rfl, hgd, hrd, hb⟩; clear tk1; have hgdw : w.heap.size ≤ gd := (by rw [hgd.out]; exact hW.size); clear hgd; replace hW := hW.trans (hb.mono hW.size); replace h0 := h0.below hb; clear hb)
      | (go_at_call 59; have _t := tk2; refine Calls.mono (normal_R _ _ xs h0 hl9) ?_; rintro e w4 ⟨gr, rfl, hgr, hrr, hb⟩; clear tk2; have hne : gd ≠ gr := (by have := hrd.lt; rw [hgr.out]; omega); have hgrw : w.heap.size ≤ gr := (by rw [hgr.out]; exact hW.size); clear hgr; replace hW := hW.trans (hb.mono hW.size); replace hrd := hrd.below hb; clear hb)
      | (go_at_call 61; refine Calls.mono (cQ _ gr gd hrr hrd hne) ?_; rintro e w5 ⟨u, qs, rs', rfl, -, hU, hr5, hquo, hbar⟩; replace hU := hU.mono hW.size; replace hW := Bar.fresh hW hgrw hbar; clear hbar hrr hrd; have hqq : Hid (Quo (pN xs) (pN ys) qs rs' 0) := hquo; clear hquo)
      | (go_at_call 59; refine Calls.mono (cN _ gr rs' hr5 hqq.out.2.1 hqq.out.2.2.2.1) ?_; rintro e w6 ⟨u1, rfl, -, hU1, hb⟩; replace hU1 := hU1.mono hW.size; replace hW := hW.trans (hb.mono hW.size); replace hU := hU.below hb; clear hb))
    go_ret3
    exact ⟨_, _, rfl, hU, hU1, hW⟩
  · have cQ := fun (W : World) (gr gd : Nat) => poly_takeOut_none W gr gd (pN xs) (pN ys) (by omega) hy9 hs
    have cN : ∀ (W : World) (g : Nat), RowU W g (pN xs) → Calls Tryd.prog 59 #[.slice (some ⟨g, 0, none⟩) (pN xs).length (pN xs).length] W fun e w' => ∃ u, e = .returned u ∧ IsU w' u (pN (pN xs)) ∧ NewU W.heap.size w' u ∧ Below W.heap.size W w' :=
      fun W g h1 => normal_N W _ _ (h1.isU (pN_rng xs) (by omega)) (by omega)
    clear hs hc
    go_enter Tryd.func23, Tryd.ntmps23
    go_wp2_with (first
      | (go_at_call 58; refine Calls.mono (any2 _ h0 h0' hl hl') ?_; rintro e w1 ⟨rfl, hw⟩; have hW : Below w.heap.size w w1 := (by rw [hw]; exact below_alloc1 _ _); clear hw; replace h0 := h0.below hW; replace h0' := h0'.below hW)
      | (go_at_call 59; have _t := tk1; refine Calls.mono (normal_R _ _ ys h0' hl9') ?_; rintro e w3 ⟨gd, rfl, hgd, hrd, hb⟩; clear tk1; replace hW := hW.trans (hb.mono hW.size); replace h0 := h0.below hb; clear hb)
      | (go_at_call 59; have _t := tk2; refine Calls.mono (normal_R _ _ xs h0 hl9) ?_; rintro e w4 ⟨gr, rfl, hgr, hrr, hb⟩; clear tk2; replace hW := hW.trans (hb.mono hW.size); clear hb)
      | (go_at_call 61; refine Calls.mono (cQ _ gr gd) ?_; rintro e w5 ⟨rfl, hw⟩; rw [hw]; clear hw)
      | (go_at_call 59; refine Calls.mono (cN _ gr hrr) ?_; rintro e w6 ⟨u1, rfl, -, hU1, hb⟩; replace hU1 := hU1.mono hW.size; replace hW := hW.trans (hb.mono hW.size); clear hb))
    go_ret3
    exact ⟨_, _, rfl, .nil _ _, hU1, hW⟩

end Go.Proofs.YtgkepflnnoociagDoor
