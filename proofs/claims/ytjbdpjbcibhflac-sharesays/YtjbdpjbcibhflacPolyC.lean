/-
  What Through of package poly answers; with what stands in the texts that are imported, all of the package.
-/
import Derived.Test.YtjbdpjbcibhflacPolyV
namespace Go.Proofs.Ytjbdpjbcibhflac
open Go.RowKit

set_option maxHeartbeats 1000000 in
theorem poly_withZero (w : World) (v : Value) (l : List Nat) (x : Nat) (h : IsU w v l) (hl0 : ¬ l = []) (hl : l.length ≤ 2048) (hx : (x : Int) < 18446744073709551616) :
    Calls Try.prog 39 #[v, .int .u64 (x : Int)] w fun e w' => ∃ g, e = .returned (.slice (some ⟨g, 0, none⟩) (l.length + 1) (l.length + 1)) ∧ Hid (g = w.heap.size) ∧ RowU w' g (addT (0 :: l) 0 l (fS 0 x)) ∧ Below w.heap.size w w' := by
  have h0 := h
  obtain ⟨a, cap, rfl, -⟩ := h
  have hn9 : l.length + 1 ≤ 1000000000 := by omega
  have cS : ∀ W : World, Calls Try.prog 37 #[.int .u64 0, .int .u64 (x : Int)] W fun e w' => e = .returned (.int .u64 ((fS 0 x : Nat) : Int)) ∧ w' = W := fun W => field_Sub 0 _ (by decide) hx W
  have hW : Below w.heap.size w w := Below.refl _ _
  have hof : 1 + l.length ≤ (List.replicate (l.length + 1) 0).length := by rw [List.length_replicate]; omega
  have hlay : Hid (lay (List.replicate (l.length + 1) 0) 1 l = 0 :: l) := lay_cons l
  have hrg : Rng (0 :: l) := by
    intro y hy
    rcases List.mem_cons.mp hy with h | h
    · subst h; decide
    · exact h0.range y h
  have cT : ∀ (W : World) (g : Nat), RowU W g (0 :: l) → IsU W (.slice a l.length cap) l → Apart (.slice a l.length cap) g → Calls Try.prog 38 #[.slice (some ⟨g, 0, none⟩) (l.length + 1) (l.length + 1), .slice a l.length cap, .int .u64 ((fS 0 x : Nat) : Int)] W fun e w' => e = .returned (.tuple #[]) ∧ RowU w' g (addT (0 :: l) 0 l (fS 0 x)) ∧ Bar g W w' :=
    fun W g h1 h2 h3 => poly_addTimes W g 0 (l.length + 1) _ _ l _ h1 hrg h2 h3 (by rw [List.length_cons]; omega) (by rw [List.length_cons]; rfl) (by rw [List.length_cons]; omega) (by have := fS_lt 0 x; omega)
  clear hx hrg
  generalize fS 0 x = d at *
  go_enter Try.func39, Try.ntmps39
  go_wp2_with (first
    | (at_make; refine wp_makeG rfl _ _ rfl (l.length + 1) rfl rfl hn9 ?_; intro g w2 hg hrow hb)
    | (refine wp_copyR (w0 := w) rfl _ _ rfl g 1 l.length l.length _ (List.replicate (l.length + 1) 0) l rfl rfl (h0.below hb) hrow hof (Nat.le_refl _) hb (Nat.le_of_eq hg.out.symm) ?_; intro w3 z hrow3 hb3; clear hrow hb; replace hrow3 := hrow3.cast hlay.out)
    | (go_at_call 37; refine Calls.mono (cS _) ?_; rintro e w' ⟨rfl, hw⟩; rw [hw]; clear hw)
    | (go_at_call 38; refine Calls.mono (cT _ g hrow3 (h0.below hb3) (h0.apart (Nat.le_of_eq hg.out.symm))) ?_; rintro e w4 ⟨rfl, hrow4, hbar⟩; have hW4 := Bar.fresh hb3 (Nat.le_of_eq hg.out.symm) hbar; clear hbar hrow3 hb3))
  go_ret
  exact ⟨_, rfl, hg, hrow4, hW4⟩

/-- Points so far are distinct. -/
def Dst (xs : List Nat) (k : Nat) : Prop := ∀ i j, j < i → i < k → cf xs i ≠ cf xs j
theorem Pts_of {xs ys : List Nat} (h1 : xs.length = ys.length) (h2 : xs.length ≤ 128) (h : Dst xs xs.length) : Pts xs ys := by
  refine ⟨h1, h2, fun i k hi hk e => h i k hk hi ?_, fun k hk => by omega⟩
  rw [fN_val, fN_val] at e
  exact Fin.ext e
theorem Dst_of {xs ys : List Nat} (h : Pts xs ys) : Dst xs xs.length := by
  intro i j hj hi e
  refine h.2.2.1 i j hi hj ?_
  rw [fN_val, fN_val]
  exact congrArg Fin.val e
theorem Dst_step {xs : List Nat} {k : Nat} (h : Dst xs k) (hz : zp (cf xs) k (cf xs k) ≠ 0) : Dst xs (k + 1) := by
  intro i j hj hi e
  by_cases hik : i = k
  · subst hik
    exact hz (by rw [e]; exact zp_at _ _ _ hj)
  · exact h i j hj (by omega) e
theorem not_Pts {xs ys : List Nat} {k : Nat} (hk : k < xs.length) (hz : zp (cf xs) k (cf xs k) = 0) : ¬ Pts xs ys := fun h =>
  zp_ne (cf xs) k (cf xs k) (fun j hj => Dst_of h k j hj hk) hz

set_option maxHeartbeats 4000000 in
theorem poly_Through_all (w : World) (v v' : Value) (xs ys : List Nat) (h : IsU w v xs) (h' : IsU w v' ys) (hxy : xs.length = ys.length) (h128 : xs.length ≤ 128) :
    Calls Try.prog 29 #[v, v'] w fun e w' => (Pts xs ys ∧ ∃ u0 l, e = .returned (.tuple #[u0, .int .i64 0]) ∧ IsU w' u0 l ∧ Goes l xs.length (cf xs) (cf ys) ∧ Below w.heap.size w w') ∨ (¬ Pts xs ys ∧ ∃ u0, e = .returned (.tuple #[u0, .int .i64 5]) ∧ IsU w' u0 [] ∧ Below w.heap.size w w') := by
  have h0 := h
  obtain ⟨a, cap, rfl, -, -, hc, hr⟩ := h
  have h0' := h'
  obtain ⟨a', cap', rfl, -, -, hc', hr'⟩ := h'
  have hxy' : Hid (xs.length = ys.length) := hxy
  have hl : xs.length ≤ 2048 := by omega
  have hl' : ys.length ≤ 2048 := by omega
  rw [← hxy] at h0' hc' ⊢
  have hq : ((xs.length : Int) != (xs.length : Int)) = false := by simp
  have hn9 : xs.length ≤ 1000000000 := by omega
  have cL : ∀ t : Nat, Calls Try.prog 22 #[.slice (some ⟨w.heap.size, 0, none⟩) 2 2] (w.alloc (.cells #[.slice a xs.length cap, .slice a' xs.length cap'] t)) fun e w' => e = .returned (.bool false) ∧ w' = w.alloc (.cells #[.slice a xs.length cap, .slice a' xs.length cap'] t) := fun t => any2 t h0 h0' hl hl'
  clear hxy hl'
  go_enter Try.func29, Try.ntmps29
  go_wp2_with (first
    | (go_at_call 22; refine Calls.mono (cL _) ?_; rintro e w1 ⟨rfl, hw⟩; have hW : Below w.heap.size w w1 := (by rw [hw]; exact below_alloc1 _ _); clear hw cL)
    | (at_make; refine wp_makeG rfl _ _ rfl xs.length rfl rfl hn9 ?_; intro gl w2 hg hrow hb; have hgl : w.heap.size ≤ gl := (by rw [hg.out]; exact hW.size); clear hg; replace hW := hW.trans (hb.mono hW.size); clear hb))
  have hz0 : RowU (w2.alloc (.cells #[.int .u64 1] 30)) w2.heap.size [1] := by
    show ((w2.heap.push _)[w2.heap.size]? : Option Obj) = _
    simp [cellsU]
  have hrl0 : RowU (w2.alloc (.cells #[.int .u64 1] 30)) gl (List.replicate xs.length 0) := hrow.below (below_alloc1 _ _)
  have hW0 : Below w.heap.size w (w2.alloc (.cells #[.int .u64 1] 30)) := hW.trans ((below_alloc1 _ _).mono hW.size)
  have hgz0 : Hid (w2.heap.size ≠ gl ∧ w.heap.size ≤ w2.heap.size) := ⟨by have := hrow.lt; omega, hW.size⟩
  clear hrow hW
  go_loopw [7, 33] (fun vz vi wr => ∃ (k gz : Nat) (l z : List Nat), k ≤ xs.length ∧ vi = .int .i64 (k : Int) ∧ vz = .slice (some ⟨gz, 0, none⟩) (k + 1) (k + 1) ∧ RowU wr gl l ∧ RowU wr gz z ∧ Hid (gz ≠ gl ∧ w.heap.size ≤ gz) ∧ Hid (Zer xs z k) ∧ Hid (Way xs ys l k) ∧ Hid (Dst xs k) ∧ Below w.heap.size w wr)
    (fun _ vi _ => xs.length - (intOf vi).toNat)
  case atStart => exact ⟨0, _, _, _, Nat.zero_le _, rfl, rfl, hrl0, hz0, hgz0, Zer_start xs, Way_start xs ys, fun i j _ hi => by omega, hW0⟩
  case round =>
    clear hz0 hrl0 hW0 hgz0
    obtain ⟨k, gz, l, z, hk, rfl, rfl, hrl, hrz, hgz, hZ, hY, hD, hW⟩ := hrel
    obtain ⟨hg1, hg2⟩ := hgz.out
    have hll := hY.out.1
    have hlr : Rng l := hY.out.2.1
    have hzl := hZ.out.1
    have hzr : Rng z := hZ.out.2.1
    have hll' : Hid (l.length = xs.length) := hll
    have hzl' : Hid (z.length = k + 1) := hzl
    by_cases hlt : k < xs.length
    · obtain ⟨b, off, rfl, hcell0⟩ := hc k hlt
      have hcell := (hW.cell (block_lt hcell0)).trans hcell0
      have hx64 := range_getD hr k
      have hy64 := range_getD hr' k
      have hp64 : ((pE z (xs.getD k 0) : Nat) : Int) < 18446744073709551616 := by have := lt_int (val_lt (evF (z.map toF) (toF (xs.getD k 0)))); unfold pE; omega
      have hp64' : ((pE l (xs.getD k 0) : Nat) : Int) < 18446744073709551616 := by have := lt_int (val_lt (evF (l.map toF) (toF (xs.getD k 0)))); unfold pE; omega
      have hUz := hrz.isUN hzr (by omega) hzl
      have cV1 := fun (W : World) (hU : IsU W (.slice (some ⟨gz, 0, none⟩) (k + 1) (k + 1)) z) => poly_valueAt W _ z (xs.getD k 0) hU (by omega) hx64
      have hval : toF (pE z (xs.getD k 0)) = zp (cf xs) k (cf xs k) := by rw [toF_pE, hZ.out.2.2]; rfl
      by_cases hzz : zp (cf xs) k (cf xs k) = 0
      · have hnP : Hid (¬ Pts xs ys) := not_Pts hlt hzz
        have cI := field_Inv_none (pE z (xs.getD k 0)) hp64 ((fN_zero _).mpr (hval.trans hzz))
        clear hx64 hy64 hp64 hp64' hval hzz hc hc' hr hr' hcell0 hll hzl hlr hzr
        generalize pE z (xs.getD k 0) = p at *
        generalize xs.getD k 0 = x at *
        go_wp2_with (first
          | (go_at_call 23; refine Calls.mono (cV1 _ hUz) ?_; rintro e w1 ⟨rfl, hw⟩; have hb := below_of_drew hw wr.heap.size; clear hw hcell hUz; replace hW := hW.trans (hb.mono hW.size); clear hb)
          | (go_at_call 36; refine Calls.mono (cI _) ?_; rintro e w' ⟨rfl, hw⟩; rw [hw]; clear hw))
        go_ret2
        exact .inr ⟨hnP.out, _, rfl, IsU.nil _, hW⟩
      · obtain ⟨b', off', rfl, hcell0'⟩ := hc' k hlt
        have hne : fN (pE z (xs.getD k 0)) ≠ 0 := fun h => hzz (hval.symm.trans ((fN_zero _).mp h))
        have hD2 : Hid (Dst xs (k + 1)) := Dst_step hD.out hzz
        have hmi : zp (cf xs) k (cf xs k) * toF (fW (pE z (xs.getD k 0)) 18446744069414584319) = 1 := by
          rw [toF_inv, hval]; exact mul_inv hzz
        have hZ2 : Hid (Zer xs (addT (0 :: z) 0 z (fS 0 (xs.getD k 0))) (k + 1)) := Zer_step hZ.out
        have hY2 : Hid (Way xs ys (addT l 0 z (fM (fS (ys.getD k 0) (pE l (xs.getD k 0))) (fW (pE z (xs.getD k 0)) 18446744069414584319))) (k + 1)) := Way_step hlt hY.out hZ.out hmi
        have cI := field_Inv_some (pE z (xs.getD k 0)) hp64 hne
        have hv64 : ((fW (pE z (xs.getD k 0)) 18446744069414584319 : Nat) : Int) < 18446744073709551616 := by have := fW_lt (pE z (xs.getD k 0)) 18446744069414584319; omega
        have cV2 := fun (W : World) (hU : IsU W (.slice (some ⟨gl, 0, none⟩) xs.length xs.length) l) => poly_valueAt W _ l (xs.getD k 0) hU (by omega) hx64
        have cS := field_Sub (ys.getD k 0) (pE l (xs.getD k 0)) hy64 hp64'
        have cM := field_Mul (fS (ys.getD k 0) (pE l (xs.getD k 0))) (fW (pE z (xs.getD k 0)) 18446744069414584319) (by have := fS_lt (ys.getD k 0) (pE l (xs.getD k 0)); omega) hv64
        have cA := fun (W : World) (h1 : RowU W gl l) (h2 : IsU W (.slice (some ⟨gz, 0, none⟩) (k + 1) (k + 1)) z) => poly_addTimes W gl 0 xs.length _ l z (fM (fS (ys.getD k 0) (pE l (xs.getD k 0))) (fW (pE z (xs.getD k 0)) 18446744069414584319)) h1 hlr h2 (apart_of hg1) (by omega) (by rw [hll]; rfl) (by omega) (by have := fM_lt (fS (ys.getD k 0) (pE l (xs.getD k 0))) (fW (pE z (xs.getD k 0)) 18446744069414584319); omega)
        have cZ : ∀ (W : World), IsU W (.slice (some ⟨gz, 0, none⟩) (k + 1) (k + 1)) z → Calls Try.prog 39 #[.slice (some ⟨gz, 0, none⟩) (k + 1) (k + 1), .int .u64 ((xs.getD k 0 : Nat) : Int)] W fun e w' => ∃ g, e = .returned (.slice (some ⟨g, 0, none⟩) (k + 1 + 1) (k + 1 + 1)) ∧ Hid (g = W.heap.size) ∧ RowU w' g (addT (0 :: z) 0 z (fS 0 (xs.getD k 0))) ∧ Below W.heap.size W w' := by
          intro W hU
          have := poly_withZero W _ z (xs.getD k 0) hU (fun e => by rw [e] at hzl; simp at hzl) (by omega) hx64
          rw [hzl] at this
          exact this
        have hcy : ∀ W : World, Below w.heap.size w W → W.cell? ⟨b', off' + k, none⟩ = some (.int .u64 ((ys.getD k 0 : Nat) : Int)) := fun W hB => (hB.cell (block_lt hcell0')).trans hcell0'
        have hlU : ∀ W : World, RowU W gl l → IsU W (.slice (some ⟨gl, 0, none⟩) xs.length xs.length) l := fun W h => h.isUN hlr (by omega) hll
        have hzU : ∀ W : World, RowU W gz z → IsU W (.slice (some ⟨gz, 0, none⟩) (k + 1) (k + 1)) z := fun W h => h.isUN hzr (by omega) hzl
        clear hx64 hy64 hp64 hp64' hval hzz hc hc' hr hr' hcell0 hcell0' hll hzl hlr hzr hne hmi hv64 hD hZ hY
        generalize addT l 0 z (fM (fS (ys.getD k 0) (pE l (xs.getD k 0))) (fW (pE z (xs.getD k 0)) 18446744069414584319)) = l2 at *
        generalize addT (0 :: z) 0 z (fS 0 (xs.getD k 0)) = z2 at *
        generalize fM (fS (ys.getD k 0) (pE l (xs.getD k 0))) (fW (pE z (xs.getD k 0)) 18446744069414584319) = c at *
        generalize fS (ys.getD k 0) (pE l (xs.getD k 0)) = d at *
        generalize fW (pE z (xs.getD k 0)) 18446744069414584319 = i at *
        generalize pE z (xs.getD k 0) = p at *
        generalize pE l (xs.getD k 0) = q at *
        generalize xs.getD k 0 = x at *
        generalize ys.getD k 0 = y at *
        go_wp2_with (first
          | (go_at_call 23; refine Calls.mono (cV1 _ hUz) ?_; rintro e w1 ⟨rfl, hw⟩; have hb := below_of_drew hw wr.heap.size; clear hw hcell hUz; replace hW := hW.trans (hb.mono hW.size); replace hrl := hrl.below hb; replace hrz := hrz.below hb; clear hb)
          | (go_at_call 36; refine Calls.mono (cI _) ?_; rintro e w' ⟨rfl, hw⟩; rw [hw]; clear hw))
        have hcell' := hcy _ hW
        have cV3 := fun m => cV2 (w1.drewN m) (hlU _ (hrl.drewN m))
        clear cV1 cI
        go_quiet (first | (go_at_call 23; exact Calls.quiet_of (cV3 _)) | (go_at_call 37; exact Calls.quiet_of_same (cS _)))
        obtain ⟨w5, hw5⟩ : ∃ w5 : World, w5 = w1.drewN nq := ⟨_, rfl⟩
        rw [← hw5]
        have hb := below_of_drew ⟨nq, hw5⟩ w1.heap.size
        clear hw5 cV3 cV2 cS hcell' hcy hlU
        replace hW := hW.trans (hb.mono hW.size)
        replace hrl := hrl.below hb
        replace hrz := hrz.below hb
        clear hb
        go_wp2_with (first
          | (go_at_call 35; refine Calls.mono (cM _) ?_; rintro e w' ⟨rfl, hw⟩; rw [hw]; clear hw)
          | (go_at_call 38; refine Calls.mono (cA _ hrl (hzU _ hrz)) ?_; rintro e w6 ⟨rfl, hrl6, hbar⟩; replace hrz := hrz.bar hg1 hbar; replace hW := Bar.fresh hW hgl hbar; clear hbar hrl cA)
          | (go_at_call 39; refine Calls.mono (cZ _ (hzU _ hrz)) ?_; rintro e w7 ⟨gn, rfl, hgn, hrn, hb⟩; have hgn2 : Hid (gn ≠ gl ∧ w.heap.size ≤ gn) := (by have h1 := hrl6.lt; have h2 := hW.size; rw [Hid, hgn.out]; omega); clear hgn; replace hrl6 := hrl6.below hb; replace hW := hW.trans (hb.mono hW.size); clear hb cZ))
        go_roundw
        case rel => exact ⟨k + 1, gn, l2, z2, by omega, by go_num, rfl, hrl6, hrn, hgn2, hZ2, hY2, hD2, hW⟩
        case measure => simp only [intOf]; omega
    · have e : k = xs.length := by omega
      have hY2 := hY.out
      have hD2 := hD.out
      rw [e] at hY2 hD2
      have hG : Hid (Goes (pN l) xs.length (cf xs) (cf ys)) := Way_end hY2
      have hP : Hid (Pts xs ys) := Pts_of hxy'.out h128 hD2
      have cN := normal_U wr _ l (hrl.isUN hlr (by omega) hll) (by omega)
      have hge : xs.length ≤ k := by omega
      clear e hY2 hD2 hc hc' hr hr' hll hzl
      go_wp2_with (go_at_call 40; refine Calls.mono cN ?_; rintro e w6 ⟨u1, rfl, hU1, hb⟩; replace hW := hW.trans (hb.mono hW.size); clear hb)
      go_ret2
      exact .inl ⟨hP.out, _, _, rfl, hU1, hG.out, hW⟩

theorem poly_Through_ok (w : World) (v v' : Value) (xs ys : List Nat) (h : IsU w v xs) (h' : IsU w v' ys) (hP : Pts xs ys) :
    Calls Try.prog 29 #[v, v'] w fun e w' => ∃ u0 l, e = .returned (.tuple #[u0, .int .i64 0]) ∧ IsU w' u0 l ∧ Goes l xs.length (cf xs) (cf ys) ∧ Below w.heap.size w w' := by
  refine (poly_Through_all w v v' xs ys h h' hP.1 hP.2.1).mono ?_
  rintro e w' (⟨_, hh⟩ | ⟨hn, _⟩)
  · exact hh
  · exact absurd hP hn

set_option maxHeartbeats 1000000 in
theorem poly_Through_form (w : World) (v v' : Value) (xs ys : List Nat) (h : IsU w v xs) (h' : IsU w v' ys) (hl : xs.length ≤ 2048) (hl' : ys.length ≤ 2048) (hP : ¬ Pts xs ys) :
    Calls Try.prog 29 #[v, v'] w fun e w' => ∃ u0, e = .returned (.tuple #[u0, .int .i64 5]) ∧ IsU w' u0 [] ∧ Below w.heap.size w w' := by
  by_cases hxy : xs.length = ys.length ∧ xs.length ≤ 128
  · refine (poly_Through_all w v v' xs ys h h' hxy.1 hxy.2).mono ?_
    rintro e w' (⟨hh, _⟩ | ⟨_, hh⟩)
    · exact absurd hh hP
    · exact hh
  · have h0 := h
    obtain ⟨a, cap, rfl, -⟩ := h
    have h0' := h'
    obtain ⟨a', cap', rfl, -⟩ := h'
    have cL : ∀ t : Nat, Calls Try.prog 22 #[.slice (some ⟨w.heap.size, 0, none⟩) 2 2] (w.alloc (.cells #[.slice a xs.length cap, .slice a' ys.length cap'] t)) fun e w' => e = .returned (.bool false) ∧ w' = w.alloc (.cells #[.slice a xs.length cap, .slice a' ys.length cap'] t) := fun t => any2 t h0 h0' hl hl'
    by_cases hle : xs.length = ys.length
    · have h129 : 128 < xs.length := by omega
      have hq : ((xs.length : Int) != (ys.length : Int)) = false := by simp; omega
      clear hle hP hxy h0 h0'
      go_enter Try.func29, Try.ntmps29
      go_wp2_with (go_at_call 22; refine Calls.mono (cL _) ?_; rintro e w1 ⟨rfl, hw⟩; have hW : Below w.heap.size w w1 := (by rw [hw]; exact below_alloc1 _ _); clear hw cL)
      go_ret2
      exact ⟨_, rfl, IsU.nil _, hW⟩
    · have hq : ((xs.length : Int) != (ys.length : Int)) = true := by rw [bne_iff_ne]; omega
      clear hle hP hxy h0 h0'
      go_enter Try.func29, Try.ntmps29
      go_wp2_with (go_at_call 22; refine Calls.mono (cL _) ?_; rintro e w1 ⟨rfl, hw⟩; have hW : Below w.heap.size w w1 := (by rw [hw]; exact below_alloc1 _ _); clear hw cL)
      go_ret2
      exact ⟨_, rfl, IsU.nil _, hW⟩

end Go.Proofs.Ytjbdpjbcibhflac
