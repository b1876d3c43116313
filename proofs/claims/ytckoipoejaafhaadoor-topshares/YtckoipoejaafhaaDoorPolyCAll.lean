/-
  Texts that stood one behind the other, as one.
-/
import Derived.Test.YtckoipoejaafhaaDoorPolyHAll
import Derived.Test.YtckoipoejaafhaaDoorRefAll
import Derived.Test.YtckoipoejaafhaaDoorRefAll
import Derived.Test.YtckoipoejaafhaaDoorSlAll
import Derived.Test.YtckoipoejaafhaaDoorFieldRAll
import Derived.BigQuiet
import Derived.Test.YtckoipoejaafhaaDoorNttOAll
namespace Go.Proofs.YtckoipoejaafhaaDoor
open Go.RowKit
set_option maxRecDepth 100000
set_option maxHeartbeats 1000000 in
theorem poly_withZero (w : World) (v : Value) (l : List Nat) (x : Nat) (h : IsU w v l) (hl0 : ¬ l = []) (hl : l.length ≤ 2048) (hx : (x : Int) < 18446744073709551616) :
    Calls Tryd.prog 71 #[v, .int .u64 (x : Int)] w fun e w' => ∃ g, e = .returned (.slice (some ⟨g, 0, none⟩) (l.length + 1) (l.length + 1)) ∧ Hid (g = w.heap.size) ∧ RowU w' g (addT (0 :: l) 0 l (fS 0 x)) ∧ Below w.heap.size w w' := by
  have h0 := h
  obtain ⟨a, cap, rfl, -⟩ := h
  have hn9 : l.length + 1 ≤ 1000000000 := by omega
  have cS : ∀ W : World, Calls Tryd.prog 49 #[.int .u64 0, .int .u64 (x : Int)] W fun e w' => e = .returned (.int .u64 ((fS 0 x : Nat) : Int)) ∧ w' = W := fun W => field_Sub 0 _ (by decide) hx W
  have hW : Below w.heap.size w w := Below.refl _ _
  have hof : 1 + l.length ≤ (List.replicate (l.length + 1) 0).length := by rw [List.length_replicate]; omega
  have hlay : Hid (lay (List.replicate (l.length + 1) 0) 1 l = 0 :: l) := lay_cons l
  have hrg : Rng (0 :: l) := by
    intro y hy
    rcases List.mem_cons.mp hy with h | h
    · subst h; decide
    · exact h0.range y h
  have cT : ∀ (W : World) (g : Nat), RowU W g (0 :: l) → IsU W (.slice a l.length cap) l → Apart (.slice a l.length cap) g → Calls Tryd.prog 70 #[.slice (some ⟨g, 0, none⟩) (l.length + 1) (l.length + 1), .slice a l.length cap, .int .u64 ((fS 0 x : Nat) : Int)] W fun e w' => e = .returned (.tuple #[]) ∧ RowU w' g (addT (0 :: l) 0 l (fS 0 x)) ∧ Bar g W w' :=
    fun W g h1 h2 h3 => poly_addTimes W g 0 (l.length + 1) _ _ l _ h1 hrg h2 h3 (by rw [List.length_cons]; omega) (by rw [List.length_cons]; rfl) (by rw [List.length_cons]; omega) (by have := fS_lt 0 x; omega)
  clear hx hrg
  generalize fS 0 x = d at *
  go_enter Tryd.func71, Tryd.ntmps71
  go_wp2_with (first
    | (at_make; refine wp_makeG rfl _ _ rfl (l.length + 1) rfl rfl hn9 ?_; intro g w2 hg hrow hb)
    | (refine wp_copyR (w0 := w) rfl _ _ rfl g 1 l.length l.length _ (List.replicate (l.length + 1) 0) l rfl rfl (h0.below hb) hrow hof (Nat.le_refl _) hb (Nat.le_of_eq hg.out.symm) ?_; intro w3 z hrow3 hb3; clear hrow hb; replace hrow3 := hrow3.cast hlay.out)
    | (go_at_call 49; refine Calls.mono (cS _) ?_; rintro e w' ⟨rfl, hw⟩; rw [hw]; clear hw)
    | (go_at_call 70; refine Calls.mono (cT _ g hrow3 (h0.below hb3) (h0.apart (Nat.le_of_eq hg.out.symm))) ?_; rintro e w4 ⟨rfl, hrow4, hbar⟩; have hW4 := Bar.fresh hb3 (Nat.le_of_eq hg.out.symm) hbar; clear hbar hrow3 hb3))
  go_ret
  exact ⟨_, rfl, hg, hrow4, hW4⟩
def Dst (xs : List Nat) (k : Nat) : Prop := ∀ i j, j < i → i < k → cf xs i ≠ cf xs j
theorem Pts_of {xs ys : List Nat} (h1 : xs.length = ys.length) (h2 : xs.length ≤ 128) (h : Dst xs xs.length) : Pts xs ys := by
  refine ⟨h1, h2, fun i k hi hk e => h i k hk hi ?_, fun k hk => by omega⟩
  rw [fN_val, fN_val] at e
  exact Fin.ext e
theorem Dst_of {xs ys : List Nat} (h : Pts xs ys) : Dst xs xs.length := by
  intro i j hj hi e
  refine h.2.2.1 i j hi hj ?_
  rw [fN_val, fN_val]
  exact congrArg Fin.val e
theorem Dst_step {xs : List Nat} {k : Nat} (h : Dst xs k) (hz : zp (cf xs) k (cf xs k) ≠ 0) : Dst xs (k + 1) := by
  intro i j hj hi e
  by_cases hik : i = k
  · subst hik
    exact hz (by rw [e]; exact zp_at _ _ _ hj)
  · exact h i j hj (by omega) e
theorem not_Pts {xs ys : List Nat} {k : Nat} (hk : k < xs.length) (hz : zp (cf xs) k (cf xs k) = 0) : ¬ Pts xs ys := fun h =>
  zp_ne (cf xs) k (cf xs k) (fun j hj => Dst_of h k j hj hk) hz
set_option maxHeartbeats 4000000 in
theorem poly_Through_all (w : World) (v v' : Value) (xs ys : List Nat) (h : IsU w v xs) (h' : IsU w v' ys) (hxy : xs.length = ys.length) (h128 : xs.length ≤ 128) :
    Calls Tryd.prog 33 #[v, v'] w fun e w' => (Pts xs ys ∧ ∃ u0 l, e = .returned (.tuple #[u0, .int .i64 0]) ∧ IsU w' u0 l ∧ Goes l xs.length (cf xs) (cf ys) ∧ Below w.heap.size w w') ∨ (¬ Pts xs ys ∧ ∃ u0, e = .returned (.tuple #[u0, .int .i64 5]) ∧ IsU w' u0 [] ∧ Below w.heap.size w w') := by
  have h0 := h
  obtain ⟨a, cap, rfl, -, -, hc, hr⟩ := h
  have h0' := h'
  obtain ⟨a', cap', rfl, -, -, hc', hr'⟩ := h'
  have hxy' : Hid (xs.length = ys.length) := hxy
  have hl : xs.length ≤ 2048 := by omega
  have hl' : ys.length ≤ 2048 := by omega
  rw [← hxy] at h0' hc' ⊢
  have hq : ((xs.length : Int) != (xs.length : Int)) = false := by simp
  have hn9 : xs.length ≤ 1000000000 := by omega
  have cL : ∀ t : Nat, Calls Tryd.prog 67 #[.slice (some ⟨w.heap.size, 0, none⟩) 2 2] (w.alloc (.cells #[.slice a xs.length cap, .slice a' xs.length cap'] t)) fun e w' => e = .returned (.bool false) ∧ w' = w.alloc (.cells #[.slice a xs.length cap, .slice a' xs.length cap'] t) := fun t => any2 t h0 h0' hl hl'
  clear hxy hl'
  go_enter Tryd.func33, Tryd.ntmps33
  go_wp2_with (first
    | (go_at_call 67; refine Calls.mono (cL _) ?_; rintro e w1 ⟨rfl, hw⟩; have hW : Below w.heap.size w w1 := (by rw [hw]; exact below_alloc1 _ _); clear hw cL)
    | (at_make; refine wp_makeG rfl _ _ rfl xs.length rfl rfl hn9 ?_; intro gl w2 hg hrow hb; have hgl : w.heap.size ≤ gl := (by rw [hg.out]; exact hW.size); clear hg; replace hW := hW.trans (hb.mono hW.size); clear hb))
  have hz0 : RowU (w2.alloc (.cells #[.int .u64 1] 34)) w2.heap.size [1] := by
    show ((w2.heap.push _)[w2.heap.size]? : Option Obj) = _
    simp [cellsU]
  have hrl0 : RowU (w2.alloc (.cells #[.int .u64 1] 34)) gl (List.replicate xs.length 0) := hrow.below (below_alloc1 _ _)
  have hW0 : Below w.heap.size w (w2.alloc (.cells #[.int .u64 1] 34)) := hW.trans ((below_alloc1 _ _).mono hW.size)
  have hgz0 : Hid (w2.heap.size ≠ gl ∧ w.heap.size ≤ w2.heap.size) := ⟨by have := hrow.lt; omega, hW.size⟩
  clear hrow hW
  go_loopw [7, 33] (fun vz vi wr => ∃ (k gz : Nat) (l z : List Nat), k ≤ xs.length ∧ vi = .int .i64 (k : Int) ∧ vz = .slice (some ⟨gz, 0, none⟩) (k + 1) (k + 1) ∧ RowU wr gl l ∧ RowU wr gz z ∧ Hid (gz ≠ gl ∧ w.heap.size ≤ gz) ∧ Hid (Zer xs z k) ∧ Hid (Way xs ys l k) ∧ Hid (Dst xs k) ∧ Below w.heap.size w wr)
    (fun _ vi _ => xs.length - (intOf vi).toNat)
  case atStart => exact ⟨0, _, _, _, Nat.zero_le _, rfl, rfl, hrl0, hz0, hgz0, Zer_start xs, Way_start xs ys, fun i j _ hi => by omega, hW0⟩
  case round =>
    clear hz0 hrl0 hW0 hgz0
    obtain ⟨k, gz, l, z, hk, rfl, rfl, hrl, hrz, hgz, hZ, hY, hD, hW⟩ := hrel
    obtain ⟨hg1, hg2⟩ := hgz.out
    have hll := hY.out.1
    have hlr : Rng l := hY.out.2.1
    have hzl := hZ.out.1
    have hzr : Rng z := hZ.out.2.1
    have hll' : Hid (l.length = xs.length) := hll
    have hzl' : Hid (z.length = k + 1) := hzl
    by_cases hlt : k < xs.length
    · obtain ⟨b, off, rfl, hcell0⟩ := hc k hlt
      have hcell := (hW.cell (block_lt hcell0)).trans hcell0
      have hx64 := range_getD hr k
      have hy64 := range_getD hr' k
      have hp64 : ((pE z (xs.getD k 0) : Nat) : Int) < 18446744073709551616 := by have := lt_int (val_lt (evF (z.map toF) (toF (xs.getD k 0)))); unfold pE; omega
      have hp64' : ((pE l (xs.getD k 0) : Nat) : Int) < 18446744073709551616 := by have := lt_int (val_lt (evF (l.map toF) (toF (xs.getD k 0)))); unfold pE; omega
      have hUz := hrz.isUN hzr (by omega) hzl
      have cV1 := fun (W : World) (hU : IsU W (.slice (some ⟨gz, 0, none⟩) (k + 1) (k + 1)) z) => poly_valueAt W _ z (xs.getD k 0) hU (by omega) hx64
      have hval : toF (pE z (xs.getD k 0)) = zp (cf xs) k (cf xs k) := by rw [toF_pE, hZ.out.2.2]; rfl
      by_cases hzz : zp (cf xs) k (cf xs k) = 0
      · have hnP : Hid (¬ Pts xs ys) := not_Pts hlt hzz
        have cI := field_Inv_none (pE z (xs.getD k 0)) hp64 ((fN_zero _).mpr (hval.trans hzz))
        clear hx64 hy64 hp64 hp64' hval hzz hc hc' hr hr' hcell0 hll hzl hlr hzr
        generalize pE z (xs.getD k 0) = p at *
        generalize xs.getD k 0 = x at *
        go_wp2_with (first
          | (go_at_call 69; refine Calls.mono (cV1 _ hUz) ?_; rintro e w1 ⟨rfl, hw⟩; have hb := below_of_drew hw wr.heap.size; clear hw hcell hUz; replace hW := hW.trans (hb.mono hW.size); clear hb)
          | (go_at_call 68; refine Calls.mono (cI _) ?_; rintro e w' ⟨rfl, hw⟩; rw [hw]; clear hw))
        go_ret2
        exact .inr ⟨hnP.out, _, rfl, IsU.nil _, hW⟩
      · obtain ⟨b', off', rfl, hcell0'⟩ := hc' k hlt
        have hne : fN (pE z (xs.getD k 0)) ≠ 0 := fun h => hzz (hval.symm.trans ((fN_zero _).mp h))
        have hD2 : Hid (Dst xs (k + 1)) := Dst_step hD.out hzz
        have hmi : zp (cf xs) k (cf xs k) * toF (fW (pE z (xs.getD k 0)) 18446744069414584319) = 1 := by
          rw [toF_inv, hval]; exact mul_inv hzz
        have hZ2 : Hid (Zer xs (addT (0 :: z) 0 z (fS 0 (xs.getD k 0))) (k + 1)) := Zer_step hZ.out
        have hY2 : Hid (Way xs ys (addT l 0 z (fM (fS (ys.getD k 0) (pE l (xs.getD k 0))) (fW (pE z (xs.getD k 0)) 18446744069414584319))) (k + 1)) := Way_step hlt hY.out hZ.out hmi
        have cI := field_Inv_some (pE z (xs.getD k 0)) hp64 hne
        have hv64 : ((fW (pE z (xs.getD k 0)) 18446744069414584319 : Nat) : Int) < 18446744073709551616 := by have := fW_lt (pE z (xs.getD k 0)) 18446744069414584319; omega
        have cV2 := fun (W : World) (hU : IsU W (.slice (some ⟨gl, 0, none⟩) xs.length xs.length) l) => poly_valueAt W _ l (xs.getD k 0) hU (by omega) hx64
        have cS := field_Sub (ys.getD k 0) (pE l (xs.getD k 0)) hy64 hp64'
        have cM := field_Mul (fS (ys.getD k 0) (pE l (xs.getD k 0))) (fW (pE z (xs.getD k 0)) 18446744069414584319) (by have := fS_lt (ys.getD k 0) (pE l (xs.getD k 0)); omega) hv64
        have cA := fun (W : World) (h1 : RowU W gl l) (h2 : IsU W (.slice (some ⟨gz, 0, none⟩) (k + 1) (k + 1)) z) => poly_addTimes W gl 0 xs.length _ l z (fM (fS (ys.getD k 0) (pE l (xs.getD k 0))) (fW (pE z (xs.getD k 0)) 18446744069414584319)) h1 hlr h2 (apart_of hg1) (by omega) (by rw [hll]; rfl) (by omega) (by have := fM_lt (fS (ys.getD k 0) (pE l (xs.getD k 0))) (fW (pE z (xs.getD k 0)) 18446744069414584319); omega)
        have cZ : ∀ (W : World), IsU W (.slice (some ⟨gz, 0, none⟩) (k + 1) (k + 1)) z → Calls Tryd.prog 71 #[.slice (some ⟨gz, 0, none⟩) (k + 1) (k + 1), .int .u64 ((xs.getD k 0 : Nat) : Int)] W fun e w' => ∃ g, e = .returned (.slice (some ⟨g, 0, none⟩) (k + 1 + 1) (k + 1 + 1)) ∧ Hid (g = W.heap.size) ∧ RowU w' g (addT (0 :: z) 0 z (fS 0 (xs.getD k 0))) ∧ Below W.heap.size W w' := by
          intro W hU
          have := poly_withZero W _ z (xs.getD k 0) hU (fun e => by rw [e] at hzl; simp at hzl) (by omega) hx64
          rw [hzl] at this
          exact this
        have hcy : ∀ W : World, Below w.heap.size w W → W.cell? ⟨b', off' + k, none⟩ = some (.int .u64 ((ys.getD k 0 : Nat) : Int)) := fun W hB => (hB.cell (block_lt hcell0')).trans hcell0'
        have hlU : ∀ W : World, RowU W gl l → IsU W (.slice (some ⟨gl, 0, none⟩) xs.length xs.length) l := fun W h => h.isUN hlr (by omega) hll
        have hzU : ∀ W : World, RowU W gz z → IsU W (.slice (some ⟨gz, 0, none⟩) (k + 1) (k + 1)) z := fun W h => h.isUN hzr (by omega) hzl
        clear hx64 hy64 hp64 hp64' hval hzz hc hc' hr hr' hcell0 hcell0' hll hzl hlr hzr hne hmi hv64 hD hZ hY
        generalize addT l 0 z (fM (fS (ys.getD k 0) (pE l (xs.getD k 0))) (fW (pE z (xs.getD k 0)) 18446744069414584319)) = l2 at *
        generalize addT (0 :: z) 0 z (fS 0 (xs.getD k 0)) = z2 at *
        generalize fM (fS (ys.getD k 0) (pE l (xs.getD k 0))) (fW (pE z (xs.getD k 0)) 18446744069414584319) = c at *
        generalize fS (ys.getD k 0) (pE l (xs.getD k 0)) = d at *
        generalize fW (pE z (xs.getD k 0)) 18446744069414584319 = i at *
        generalize pE z (xs.getD k 0) = p at *
        generalize pE l (xs.getD k 0) = q at *
        generalize xs.getD k 0 = x at *
        generalize ys.getD k 0 = y at *
        go_wp2_with (first
          | (go_at_call 69; refine Calls.mono (cV1 _ hUz) ?_; rintro e w1 ⟨rfl, hw⟩; have hb := below_of_drew hw wr.heap.size; clear hw hcell hUz; replace hW := hW.trans (hb.mono hW.size); replace hrl := hrl.below hb; replace hrz := hrz.below hb; clear hb)
          | (go_at_call 68; refine Calls.mono (cI _) ?_; rintro e w' ⟨rfl, hw⟩; rw [hw]; clear hw))
        have hcell' := hcy _ hW
        have cV3 := fun m => cV2 (w1.drewN m) (hlU _ (hrl.drewN m))
        clear cV1 cI
        go_quiet (first | (go_at_call 69; exact Calls.quiet_of (cV3 _)) | (go_at_call 49; exact Calls.quiet_of_same (cS _)))
        obtain ⟨w5, hw5⟩ : ∃ w5 : World, w5 = w1.drewN nq := ⟨_, rfl⟩
        rw [← hw5]
        have hb := below_of_drew ⟨nq, hw5⟩ w1.heap.size
        clear hw5 cV3 cV2 cS hcell' hcy hlU
        replace hW := hW.trans (hb.mono hW.size)
        replace hrl := hrl.below hb
        replace hrz := hrz.below hb
        clear hb
        go_wp2_with (first
          | (go_at_call 22; refine Calls.mono (cM _) ?_; rintro e w' ⟨rfl, hw⟩; rw [hw]; clear hw)
          | (go_at_call 70; refine Calls.mono (cA _ hrl (hzU _ hrz)) ?_; rintro e w6 ⟨rfl, hrl6, hbar⟩; replace hrz := hrz.bar hg1 hbar; replace hW := Bar.fresh hW hgl hbar; clear hbar hrl cA)
          | (go_at_call 71; refine Calls.mono (cZ _ (hzU _ hrz)) ?_; rintro e w7 ⟨gn, rfl, hgn, hrn, hb⟩; have hgn2 : Hid (gn ≠ gl ∧ w.heap.size ≤ gn) := (by have h1 := hrl6.lt; have h2 := hW.size; rw [Hid, hgn.out]; omega); clear hgn; replace hrl6 := hrl6.below hb; replace hW := hW.trans (hb.mono hW.size); clear hb cZ))
        go_roundw
        case rel => exact ⟨k + 1, gn, l2, z2, by omega, by go_num, rfl, hrl6, hrn, hgn2, hZ2, hY2, hD2, hW⟩
        case measure => simp only [intOf]; omega
    · have e : k = xs.length := by omega
      have hY2 := hY.out
      have hD2 := hD.out
      rw [e] at hY2 hD2
      have hG : Hid (Goes (pN l) xs.length (cf xs) (cf ys)) := Way_end hY2
      have hP : Hid (Pts xs ys) := Pts_of hxy'.out h128 hD2
      have cN := normal_U wr _ l (hrl.isUN hlr (by omega) hll) (by omega)
      have hge : xs.length ≤ k := by omega
      clear e hY2 hD2 hc hc' hr hr' hll hzl
      go_wp2_with (go_at_call 72; refine Calls.mono cN ?_; rintro e w6 ⟨u1, rfl, hU1, hb⟩; replace hW := hW.trans (hb.mono hW.size); clear hb)
      go_ret2
      exact .inl ⟨hP.out, _, _, rfl, hU1, hG.out, hW⟩
theorem poly_Through_ok (w : World) (v v' : Value) (xs ys : List Nat) (h : IsU w v xs) (h' : IsU w v' ys) (hP : Pts xs ys) :
    Calls Tryd.prog 33 #[v, v'] w fun e w' => ∃ u0 l, e = .returned (.tuple #[u0, .int .i64 0]) ∧ IsU w' u0 l ∧ Goes l xs.length (cf xs) (cf ys) ∧ Below w.heap.size w w' := by
  refine (poly_Through_all w v v' xs ys h h' hP.1 hP.2.1).mono ?_
  rintro e w' (⟨_, hh⟩ | ⟨hn, _⟩)
  · exact hh
  · exact absurd hP hn
theorem share_isCount (n : Int) (w : World) :
    Calls Tryd.prog 61 #[.int .i64 n] w fun e w' => e = .returned (.bool (decide (1 ≤ n ∧ n ≤ 64))) ∧ w' = w := by
  by_cases h1 : 1 ≤ n
  · by_cases h2 : n ≤ 64
    · rw [decide_eq_true ⟨h1, h2⟩]
      go_enter Tryd.func61, Tryd.ntmps61
      go_wp2
      go_ret
      exact ⟨rfl, rfl⟩
    · rw [decide_eq_false (fun h => h2 h.2)]
      go_enter Tryd.func61, Tryd.ntmps61
      go_wp2
      go_ret
      exact ⟨rfl, rfl⟩
  · rw [decide_eq_false (fun h => h1 h.1)]
    go_enter Tryd.func61, Tryd.ntmps61
    go_wp2
    go_ret
    exact ⟨rfl, rfl⟩
theorem share_isPlace (n : Int) (w : World) :
    Calls Tryd.prog 103 #[.int .i64 n] w fun e w' => e = .returned (.bool (decide (0 ≤ n ∧ n ≤ 63))) ∧ w' = w := by
  by_cases h1 : 0 ≤ n
  · by_cases h2 : n ≤ 63
    · rw [decide_eq_true ⟨h1, h2⟩]
      have h3 : n < 64 := by omega
      go_enter Tryd.func103, Tryd.ntmps103
      go_wp2
      go_ret
      exact ⟨rfl, rfl⟩
    · rw [decide_eq_false (fun h => h2 h.2)]
      have h3 : ¬ n < 64 := by omega
      go_enter Tryd.func103, Tryd.ntmps103
      go_wp2
      go_ret
      exact ⟨rfl, rfl⟩
  · rw [decide_eq_false (fun h => h1 h.1)]
    go_enter Tryd.func103, Tryd.ntmps103
    go_wp2
    go_ret
    exact ⟨rfl, rfl⟩
theorem share_point (i : Nat) (hi : i ≤ 1000000) (w : World) :
    Calls Tryd.prog 63 #[.int .i64 (i : Int)] w fun e w' => e = .returned (.int .u64 ((fW (rt 6) i : Nat) : Int)) ∧ w' = w := by
  have cr : ∀ w, Calls Tryd.prog 29 #[.int .i64 6] w fun e w' => e = .returned (.tuple #[.int .u64 ((rt 6 : Nat) : Int), .int .i64 0]) ∧ w' = w := field_Root_in 6 (by decide)
  have cp := field_Pow (rt 6) i (by have : (rt 6 : Int) < 18446744069414584321 := fW_lt _ _
                                    omega) (by omega)
  generalize rt 6 = q at *
  generalize fW q i = p at *
  go_enter Tryd.func63, Tryd.ntmps63
  go_wp2_with (first
    | (go_at_call 29; refine Calls.mono (cr _) ?_; rintro e w' ⟨rfl, hw⟩; rw [hw]; clear hw)
    | (go_at_call 31; refine Calls.mono (cp _) ?_; rintro e w' ⟨rfl, hw⟩; rw [hw]; clear hw))
  go_ret
  exact ⟨rfl, rfl⟩
set_option maxHeartbeats 2000000 in
theorem share_symbolsAt (w : World) (k : Int) (v : Value) (L : List (Int × Nat)) (h : IsS w v L) :
    Calls Tryd.prog 65 #[.int .i64 k, v] w fun e w' => ∃ u, e = .returned (.tuple #[u, .int .i64 (shE k L)]) ∧ (shE k L = 0 → ∃ b, u = .map (some b) ∧ MapU w' b (lkS L L.length) L.length) ∧ Below w.heap.size w w' := by
  by_cases hk : 1 ≤ k ∧ k ≤ 64
  · have c1 := share_isCount k
    rw [decide_eq_true hk] at c1
    have hok : Hid (ShK L L.length → shE k L = 0) := fun h2 => shE_ok hk h2
    have hform : Hid (¬ ShK L L.length → shE k L = 5) := fun h2 => shE_form hk h2
    clear hk
    generalize shE k L = er at *
    obtain ⟨a, cap, rfl, hcap, hmax, hc, hr⟩ := h
    have hln : L.length ≤ 9223372036854775807 := by unfold maxLen at hmax; omega
    have hc' : Hid (∀ i, i < L.length → ∃ b off, a = some ⟨b, off, none⟩ ∧ w.cell? ⟨b, off + i * 2, none⟩ = some (.int .i64 (atS L i)) ∧ w.cell? ⟨b, off + i * 2 + 1, none⟩ = some (.int .u64 ((syS L i : Nat) : Int))) := fun i hi => by
      obtain ⟨b, off, e, c, d⟩ := hc i hi
      exact ⟨b, off, e, c, by rw [Nat.add_assoc]; exact d⟩
    have hrg : Hid (∀ i, i < L.length → (Lit.int .i64 (atS L i)).wf = true ∧ (Lit.int .u64 ((syS L i : Nat) : Int)).wf = true) := fun i hi => by
      have := hr (L.getD i (0, 0)) (getS_mem hi)
      unfold atS syS
      generalize L.getD i (0, 0) = p at this ⊢
      simp [Lit.wf, IntKind.min, IntKind.max, IntKind.signed, IntKind.bits]
      omega
    have hnm : Hid (L.length ≤ maxLen) := by show _ ≤ _; omega
    clear hc hr hcap hmax
    generalize hn : L.length = n at *
    replace hn : Hid _ := hn
    have c2 := share_isPlace
    have hmm := @run_makeMap Tryd.prog
    go_enter Tryd.func65, Tryd.ntmps65
    go_wp2_with (go_at_call 61; refine Calls.mono (c1 _) ?_; rintro e w' ⟨rfl, hw⟩; rw [hw]; clear hw)
    have hM0 := MapU.made w
    have hB0 : Below w.heap.size w (w.alloc (.map #[] 0)) := below_alloc1 _ _
    obtain ⟨b0, hb0⟩ : ∃ b0, b0 = w.heap.size := ⟨_, rfl⟩
    have hb1 : Hid (w.heap.size ≤ b0) := by rw [hb0]; exact Nat.le_refl _
    rw [← hb0] at hM0 ⊢
    clear hb0
    go_loopw [17] (fun vi wr => ∃ i : Nat, i ≤ n ∧ vi = .int .i64 (i : Int) ∧ Hid (ShK L i) ∧ MapU wr b0 (lkS L i) i ∧ Below w.heap.size w wr)
      (fun vi _ => n - (intOf vi).toNat)
    case atStart => exact ⟨0, Nat.zero_le _, rfl, ShK.zero L, hM0, hB0⟩
    case round =>
      clear hM0 hB0
      obtain ⟨i, hi, rfl, hS, hM, hB⟩ := hrel
      by_cases hlt : i < n
      · obtain ⟨b, off, rfl, k0, k1⟩ := hc'.out i hlt
        have q0 := (hB.cell (block_lt k0)).trans k0
        have q1 := (hB.cell (block_lt k1)).trans k1
        obtain ⟨hw0, hw1⟩ := hrg.out i hlt
        rcases hf : lkS L i (atS L i) with _ | s
        · have hMo : ∀ o, MapU (wr.alloc o) b0 (lkS L i) i := fun o => hM.below (below_alloc1 _ _)
          have hBo : ∀ o, Below w.heap.size w (wr.alloc o) := fun o => hB.trans ((below_alloc1 _ _).mono hB.size)
          by_cases hin : 0 ≤ atS L i ∧ atS L i ≤ 63
          · have c3 := c2 (atS L i)
            rw [decide_eq_true hin] at c3
            have hS2 : Hid (ShK L (i + 1)) := hS.out.succ hin (fun q hq e => by
              have h1 := lkS_of hS.out hq
              rw [e, hf] at h1
              cases h1)
            have hnx : i < maxLen := by have := hnm.out; omega
            have hb2 : w.heap.size ≤ b0 := hb1.out
            have hup : Hid (∀ (W W' : World), Below w.heap.size w W → MapU W' b0 (fun z => if z = atS L i then some (syS L i) else lkS L i z) (i + 1) → W.grownBy W' (some b0) → MapU W' b0 (lkS L (i + 1)) (i + 1) ∧ Below w.heap.size w W') := fun W W' h1 h2 h3 =>
              ⟨h2, h1.grown h3 h1.size (fun q e => by cases e; exact hb2)⟩
            clear c2 hin k0 k1 hS hM hB hb2
            generalize atS L i = x at *
            generalize syS L i = y at *
            go_wp2_with (first
              | (at_lookup; refine wp_lookNone rfl _ _ rfl b0 _ _ x rfl (hMo _) rfl hw0 hf ?_)
              | (go_at_call 103; refine Calls.mono (c3 _) ?_; rintro e w' ⟨rfl, hw⟩; rw [hw]; clear hw)
              | (at_mapUpdate; refine wp_putU rfl _ _ _ rfl b0 _ _ x y rfl (hMo _) rfl rfl hw0 hw1 hnx hf ?_; intro w3 hm3 hg3; obtain ⟨hM3, hB3⟩ := hup.out _ _ (hBo _) hm3 hg3; clear hm3 hg3 hMo hBo))
            go_roundw
            case rel => exact ⟨i + 1, by omega, by go_num, hS2, hM3, hB3⟩
            case measure => simp only [intOf]; omega
          · have c3 := c2 (atS L i)
            rw [decide_eq_false hin] at c3
            have hno : er = 5 := hform.out (fun h => hin (h.1 i hlt))
            subst hno
            clear c2 hin k0 k1 hS
            generalize atS L i = x at *
            generalize syS L i = y at *
            go_wp2_with (first
              | (at_lookup; refine wp_lookNone rfl _ _ rfl b0 _ _ x rfl (hMo _) rfl hw0 hf ?_)
              | (go_at_call 103; refine Calls.mono (c3 _) ?_; rintro e w' ⟨rfl, hw⟩; rw [hw]; clear hw))
            go_ret2
            exact ⟨_, rfl, fun h => absurd h (by decide), hBo _⟩
        · have hMo : ∀ o, MapU (wr.alloc o) b0 (lkS L i) i := fun o => hM.below (below_alloc1 _ _)
          have hBo : ∀ o, Below w.heap.size w (wr.alloc o) := fun o => hB.trans ((below_alloc1 _ _).mono hB.size)
          have hno : er = 5 := by
            obtain ⟨j, hj, e1, _⟩ := lkS_some hf
            exact hform.out (fun h => h.2 i j hj hlt e1)
          subst hno
          clear k0 k1 hS
          generalize atS L i = x at *
          generalize syS L i = y at *
          go_wp2_with (at_lookup; refine wp_lookSome rfl _ _ rfl b0 _ _ x s rfl (hMo _) rfl hw0 hf ?_)
          go_ret2
          exact ⟨⟨_, rfl⟩, hBo _⟩
      · have e : i = n := by omega
        subst e
        have hno : er = 0 := hok.out hS.out
        subst hno
        have hnl : ¬ i < i := Nat.lt_irrefl _
        clear hS
        go_wp2
        go_ret2
        exact ⟨_, rfl, ⟨_, rfl, hM⟩, hB⟩
  · have c1 := share_isCount k
    rw [decide_eq_false hk] at c1
    rw [shE_arg hk]
    obtain ⟨a, cap, rfl, -, -, -, -⟩ := h
    go_enter Tryd.func65, Tryd.ntmps65
    go_wp2_with (go_at_call 61; refine Calls.mono (c1 _) ?_; rintro e w' ⟨rfl, hw⟩; rw [hw]; clear hw)
    go_ret2
    exact ⟨_, rfl, fun h => absurd h (by decide), Below.refl _ _⟩
def NewU (B : Nat) (w : World) (v : Value) : Prop :=
  v = .slice none 0 0 ∨ ∃ (g off n cap : Nat) (cs : Array Value), v = .slice (some ⟨g, off, none⟩) n cap ∧ B ≤ g ∧ w.heap[g]? = some (.cells cs 34 (0, 0)) ∧ off + cap ≤ cs.size ∧ n ≤ cap ∧ cap ≤ maxLen
theorem NewU.nil (B : Nat) (w : World) : NewU B w (.slice none 0 0) := .inl rfl
theorem NewU.of_row {B g n : Nat} {w : World} {xs : List Nat} (h : RowU w g xs) (hl : xs.length = n) (h9 : n ≤ 1000000000) (hg : B ≤ g) : NewU B w (.slice (some ⟨g, 0, none⟩) n n) :=
  .inr ⟨g, 0, n, n, _, rfl, hg, h, by simp [cellsU_length, hl], Nat.le_refl _, by unfold maxLen; omega⟩
end Go.Proofs.YtckoipoejaafhaaDoor
