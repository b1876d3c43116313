/-
  What Add and Mul of package poly answer.
-/
import Derived.Test.YtjhlaacgbgidhaeDoorPolyC1
namespace Go.Proofs.YtjhlaacgbgidhaeDoor
open Go.RowKit


set_option maxHeartbeats 1000000 in
theorem poly_Mul_large (w : World) (v v' : Value) (xs ys : List Nat) (h : IsU w v xs) (h' : IsU w v' ys) (hl : 2048 < xs.length ∨ 2048 < ys.length) :
    Calls Tryd.prog 20 #[v, v'] w fun e w' => ∃ u0, e = .returned (.tuple #[u0, .int .i64 2]) ∧ IsU w' u0 [] ∧ Below w.heap.size w w' := by
  have h0 := h
  obtain ⟨a, cap, rfl, -⟩ := h
  have h0' := h'
  obtain ⟨a', cap', rfl, -⟩ := h'
  go_enter Tryd.func20, Tryd.ntmps20
  go_wp2_with (go_at_call 31; refine Calls.mono (any2_yes _ h0 h0' hl) ?_; rintro e w1 ⟨rfl, hw⟩; rw [hw]; clear hw)
  go_ret2
  exact ⟨_, rfl, IsU.nil _, below_alloc1 _ _⟩


set_option maxHeartbeats 1000000 in
theorem poly_Mul_ok (w : World) (v v' : Value) (xs ys : List Nat) (h : IsU w v xs) (h' : IsU w v' ys) (hl : xs.length ≤ 2048) (hl' : ys.length ≤ 2048) (hp : (pM (pN xs) (pN ys)).length ≤ 2048) :
    Calls Tryd.prog 20 #[v, v'] w fun e w' => ∃ u0, e = .returned (.tuple #[u0, .int .i64 0]) ∧ IsU w' u0 (pM (pN xs) (pN ys)) ∧ Below w.heap.size w w' := by
  have h0 := h
  obtain ⟨a, cap, rfl, -⟩ := h
  have h0' := h'
  obtain ⟨a', cap', rfl, -⟩ := h'
  have hl9 : xs.length ≤ 1000000000 := by omega
  have hl9' : ys.length ≤ 1000000000 := by omega
  by_cases hx0 : (pN xs).length = 0
  · have e : pM (pN xs) (pN ys) = [] := by unfold pM; rw [if_pos (.inl hx0)]
    rw [e]
    have hb1 : (((pN xs).length : Int) == 0) = true := by rw [beq_iff_eq]; omega
    clear e hx0 hp
    go_enter Tryd.func20, Tryd.ntmps20
    have tk1 : True := trivial
    go_wp2_with (first
      | (go_at_call 31; refine Calls.mono (any2 _ h0 h0' hl hl') ?_; rintro e w1 ⟨rfl, hw⟩; have hW : Below w.heap.size w w1 := (by rw [hw]; exact below_alloc1 _ _); clear hw; replace h0 := h0.below hW; replace h0' := h0'.below hW)
      | (go_at_call 32; have _t := tk1; refine Calls.mono (normal_U _ _ xs h0 hl9) ?_; rintro e w2 ⟨u, rfl, hU, hb⟩; clear tk1; replace hW := hW.trans (hb.mono hW.size); replace h0' := h0'.below hb; clear hb; obtain ⟨ax, cx, rfl, -⟩ := hU)
      | (go_at_call 32; refine Calls.mono (normal_U _ _ ys h0' hl9') ?_; rintro e w3 ⟨u, rfl, hU', hb⟩; replace hW := hW.trans (hb.mono hW.size); clear hb; obtain ⟨ay, cy, rfl, -⟩ := hU'))
    go_ret2
    exact ⟨_, rfl, IsU.nil _, hW⟩
  · by_cases hy0 : (pN ys).length = 0
    · have e : pM (pN xs) (pN ys) = [] := by unfold pM; rw [if_pos (.inr hy0)]
      rw [e]
      have hb1 : (((pN xs).length : Int) == 0) = false := by rw [beq_eq_false_iff_ne]; omega
      have hb2 : (((pN ys).length : Int) == 0) = true := by rw [beq_iff_eq]; omega
      clear e hx0 hy0 hp
      go_enter Tryd.func20, Tryd.ntmps20
      have tk1 : True := trivial
      go_wp2_with (first
        | (go_at_call 31; refine Calls.mono (any2 _ h0 h0' hl hl') ?_; rintro e w1 ⟨rfl, hw⟩; have hW : Below w.heap.size w w1 := (by rw [hw]; exact below_alloc1 _ _); clear hw; replace h0 := h0.below hW; replace h0' := h0'.below hW)
        | (go_at_call 32; have _t := tk1; refine Calls.mono (normal_U _ _ xs h0 hl9) ?_; rintro e w2 ⟨u, rfl, hU, hb⟩; clear tk1; replace hW := hW.trans (hb.mono hW.size); replace h0' := h0'.below hb; clear hb; obtain ⟨ax, cx, rfl, -⟩ := hU)
        | (go_at_call 32; refine Calls.mono (normal_U _ _ ys h0' hl9') ?_; rintro e w3 ⟨u, rfl, hU', hb⟩; replace hW := hW.trans (hb.mono hW.size); clear hb; obtain ⟨ay, cy, rfl, -⟩ := hU'))
      go_ret2
      exact ⟨_, rfl, IsU.nil _, hW⟩
    · have hb1 : (((pN xs).length : Int) == 0) = false := by rw [beq_eq_false_iff_ne]; omega
      have hb2 : (((pN ys).length : Int) == 0) = false := by rw [beq_eq_false_iff_ne]; omega
      obtain ⟨n, hn⟩ : ∃ n : Nat, n = (pN xs).length + (pN ys).length - 1 := ⟨_, rfl⟩
      have hpl : (pM (pN xs) (pN ys)).length = n := by rw [hn]; unfold pM; rw [if_neg (by omega), mk_length]
      have hn2 : n ≤ 2048 := by omega
      have hadd : ((pN xs).length : Int) + ((pN ys).length : Int) - 1 = (n : Int) := by omega
      have hall : Hid (mulK (pN xs) (pN ys) (pN xs).length = pM (pN xs) (pN ys)) := mulK_all _ _ hx0 hy0
      have hlen := fun k => (mulK_length (pN xs) (pN ys) k).trans hn.symm
      have hnx : (pN xs).length ≤ n := by omega
      have cT : ∀ (W : World) (g k : Nat) (v : Value), k < (pN xs).length → RowU W g (mulK (pN xs) (pN ys) k) → IsU W v (pN ys) → Apart v g → Calls Tryd.prog 33 #[.slice (some ⟨g, k, none⟩) (n - k) (n - k), v, .int .u64 (((pN xs).getD k 0 : Nat) : Int)] W fun e w' => e = .returned (.tuple #[]) ∧ RowU w' g (mulK (pN xs) (pN ys) (k + 1)) ∧ Bar g W w' :=
        fun W g k v hk h1 h2 h3 => poly_addTimes W g k (n - k) v _ _ _ h1 (Rng_of_P (mulK_P _ _ k)) h2 h3 (by rw [hlen]; omega) (by rw [hlen]) (by rw [hlen]; omega) (range_getD (pN_rng xs) k)
      have hn9 : n ≤ 1000000000 := by omega
      have hres : ∀ (W : World) (g : Nat), RowU W g (mulK (pN xs) (pN ys) (pN xs).length) → IsU W (.slice (some ⟨g, 0, none⟩) n n) (pM (pN xs) (pN ys)) := fun W g h => by
        rw [hall.out] at h
        exact h.isUN (by rw [← hall.out]; exact Rng_of_P (mulK_P _ _ _)) (by omega) hpl
      have hst : List.replicate n 0 = mulK (pN xs) (pN ys) 0 := by rw [hn]; rfl
      have hst' : Hid (List.replicate n 0 = mulK (pN xs) (pN ys) 0) := hst
      clear hst hpl hp hlen hn hall hx0 hy0
      go_enter Tryd.func20, Tryd.ntmps20
      have tk1 : True := trivial
      go_wp2_with (first
        | (go_at_call 31; refine Calls.mono (any2 _ h0 h0' hl hl') ?_; rintro e w1 ⟨rfl, hw⟩; have hW : Below w.heap.size w w1 := (by rw [hw]; exact below_alloc1 _ _); clear hw; replace h0 := h0.below hW; replace h0' := h0'.below hW)
        | (go_at_call 32; have _t := tk1; refine Calls.mono (normal_U _ _ xs h0 hl9) ?_; rintro e w2 ⟨u, rfl, hU, hb⟩; clear tk1; replace hW := hW.trans (hb.mono hW.size); replace h0' := h0'.below hb; clear hb; have hX := hU; obtain ⟨ax, cx, rfl, -⟩ := hU)
        | (go_at_call 32; refine Calls.mono (normal_U _ _ ys h0' hl9') ?_; rintro e w3 ⟨u, rfl, hU', hb⟩; replace hW := hW.trans (hb.mono hW.size); replace hX := hX.below hb; clear hb; have hY := hU'; obtain ⟨ay, cy, rfl, -⟩ := hU')
        | (at_make; refine wp_makeG rfl _ _ rfl n rfl rfl hn9 ?_; intro g w4 hg hrow hb; have hA := hX.apart (Nat.le_of_eq hg.out.symm); have hA' := hY.apart (Nat.le_of_eq hg.out.symm); have hgw : w.heap.size ≤ g := (by rw [hg.out]; exact hW.size); clear hg; replace hX := hX.below hb; replace hY := hY.below hb; replace hW := hW.trans (hb.mono hW.size); clear hb))
      have hX0 := hX
      have hrow0 := hrow.cast hst'.out
      clear hrow hst' h0 h0' hb1 hb2 hadd
      go_loopw [40] (fun vi wr => ∃ k : Nat, k ≤ (pN xs).length ∧ vi = .int .i64 (k : Int) ∧ RowU wr g (mulK (pN xs) (pN ys) k) ∧ Bar g w4 wr)
        (fun vi _ => (pN xs).length - (intOf vi).toNat)
      case atStart => exact ⟨0, Nat.zero_le _, rfl, hrow0, Bar.refl _ _⟩
      case round =>
        clear hrow0
        obtain ⟨k, hk, rfl, hrow, hbar⟩ := hrel
        by_cases hlt : k < (pN xs).length
        · obtain ⟨b, o', cx', hv⟩ := hX0.place (by omega)
          simp only [Value.slice.injEq, true_and] at hv
          obtain ⟨rfl, rfl⟩ := hv
          have hcell := (hX.bar hA hbar).cell k hlt
          have c1 := fun W h1 h2 => cT W g k _ hlt h1 h2 hA'
          have hYr := hY.bar hA' hbar
          have hkn : k ≤ n := by omega
          clear cT hres hX hX0 hA
          generalize (pN xs).getD k 0 = y at *
          go_wp2_with (go_at_call 33; refine Calls.mono (c1 _ hrow hYr) ?_; rintro e w5 ⟨rfl, hrow5, hbar5⟩; clear hcell)
          replace hbar := hbar.trans hbar5
          clear hbar5 hrow hYr
          go_roundw
          case rel => exact ⟨k + 1, by omega, by go_num, hrow5, hbar⟩
          case measure => simp only [intOf]; omega
        · have e : k = (pN xs).length := by omega
          rw [e] at hrow
          have hR := hres _ _ hrow
          have hge : (pN xs).length ≤ k := by omega
          have hW2 := Bar.fresh hW hgw hbar
          clear e hres cT hX hX0 hY hrow
          go_wp2
          go_ret2
          exact ⟨_, rfl, hR, hW2⟩

end Go.Proofs.YtjhlaacgbgidhaeDoor
