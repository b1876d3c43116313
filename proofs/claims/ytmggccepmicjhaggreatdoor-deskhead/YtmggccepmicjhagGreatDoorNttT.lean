/-
  What transform of package ntt answers: the transform of a list of 2^k numbers by a root of the order 2^k.
-/
import Derived.Test.YtmggccepmicjhagGreatDoorNttBAll
import Derived.Test.YtmggccepmicjhagGreatDoorNttKAll
namespace Go.Proofs.YtmggccepmicjhagGreatDoor
open Go.RowKit
set_option maxRecDepth 100000

theorem Alls_start (w : F) (k : Nat) (f : Nat → F) : Alls w k f 0 (mk (2 ^ k) (fun j => f (rv k j))) := by
  refine ⟨mk_length _ _, mk_lt _ _, fun b t hb ht => ?_⟩
  rw [Nat.sub_zero] at hb
  rw [Nat.pow_zero] at ht
  obtain rfl : t = 0 := by omega
  rw [Dk_zero, Nat.pow_zero, Nat.mul_one, Nat.add_zero, cf_mk, if_pos hb]
theorem list_of_cf (zs : List Nat) (n : Nat) (f : Nat → F) (hl : zs.length = n) (hz : ∀ x ∈ zs, x < P) (h : ∀ i, i < n → cf zs i = f i) : zs = mk n f := by
  apply List.ext_getElem
  · rw [hl, mk_length]
  · intro i h1 h2
    have h3 := h i (by omega)
    have h4 : cf zs i = toF zs[i] := by unfold cf; simp [List.getD, h1]
    have h5 : (mk n f)[i] = (f i).val := by simp [mk]
    rw [h5, ← h3, h4, ← fN_val, fN_eq, Nat.mod_eq_of_lt (hz _ (List.getElem_mem h1))]
theorem alls_fin {w : F} {k : Nat} {f : Nat → F} {zs : List Nat} (h : Alls w k f k zs) : zs = mk (2 ^ k) (dft w (2 ^ k) f) := by
  refine list_of_cf zs _ _ h.len h.low fun i hi => ?_
  have := h.all 0 i (by rw [Nat.sub_self]; decide) hi
  rw [Nat.zero_mul, Nat.zero_add] at this
  rw [this, Dk_end]

set_option maxHeartbeats 4000000 in
theorem ntt_transform (w : World) (v : Value) (xs : List Nat) (k r : Nat) (h : IsU w v xs) (hl : xs.length = 2 ^ k) (hk : k ≤ 10) (hr : (r : Int) < 18446744073709551616) (hord : Ord (toF r) k) :
    Calls Tryz.prog 66 #[v, .int .i64 (k : Int), .int .u64 (r : Int)] w fun e w' => ∃ g, e = .returned (.slice (some ⟨g, 0, none⟩) (2 ^ k) (2 ^ k)) ∧ w.heap.size ≤ g ∧ RowU w' g (mk (2 ^ k) (dft (toF r) (2 ^ k) (cf xs))) ∧ Below w.heap.size w w' := by
  have hA := h
  obtain ⟨a, cap, rfl, hcap, hmax, hc, hrx⟩ := h
  clear hcap hmax
  have hN9 := (two_pow_bound k hk).2
  have cT := fun W => ntt_turned W k hk
  obtain ⟨N, hN⟩ : ∃ N, N = 2 ^ k := ⟨_, rfl⟩
  have hlx : xs.length = N := by omega
  rw [hl]
  rw [hl] at hA
  rw [← hN] at hN9 cT hA ⊢
  have hN' : Hid (N = 2 ^ k) := hN
  have hlx' : Hid (xs.length = N) := hlx
  have hrv : Hid (∀ i, i < N → (ord k).getD i 0 = rv k i ∧ rv k i < N) := fun i hi => ⟨ord_get k i (hN ▸ hi), hN ▸ rv_lt k i⟩
  have hol : (ord k).length = N := by rw [ord_length, hN]
  have hol' : Hid ((ord k).length = N) := hol
  have hn9 : N ≤ 1000000000 := by omega
  clear hN hlx hl hol
  go_enter Tryz.func66, Tryz.ntmps66
  go_wp2_with (first
    | (at_make; refine wp_makeG rfl _ _ rfl N rfl rfl hn9 ?_; intro g w2 hg hrow hb)
    | (go_at_call 89; refine Calls.mono (cT _) ?_; rintro e w3 ⟨g2, rfl, hg2, hrow2, hb2⟩))
  have hgw : w.heap.size ≤ g := Nat.le_of_eq hg.out.symm
  have hgg : g ≠ g2 := by have := hrow.lt; omega
  have hrow3 := hrow.below hb2
  have hB3 : Below w.heap.size w w3 := hb.trans (hb2.mono hb.size)
  have hA3 := hA.apart hgw
  clear hg hb hrow hb2 hg2 cT
  go_loopw [20] (fun vi wr => ∃ i : Nat, i ≤ N ∧ vi = .int .i64 (i : Int) ∧ RowU wr g (SL N i (fun j => cf xs (rv k j))) ∧ Bar g w3 wr)
    (fun vi _ => N - (intOf vi).toNat)
  case atStart => exact ⟨0, Nat.zero_le _, rfl, hrow3.cast (SL_zero _ _).symm, Bar.refl _ _⟩
  case round =>
    clear hrow3
    obtain ⟨i, hi, rfl, hrow, hbar⟩ := hrel
    by_cases hlt : i < N
    · obtain ⟨hget, hrl⟩ := hrv.out i hlt
      obtain ⟨b, off, rfl, _⟩ := hc (rv k i) (by rw [hlx'.out]; exact hrl)
      have hcI := (hrow2.bar (Ne.symm hgg) hbar).cell i (by rw [hol'.out]; exact hlt)
      rw [hget] at hcI
      have hcA := ((hA.below hB3).bar hA3 hbar).cell (rv k i) (by rw [hlx'.out]; exact hrl)
      have hcS := hrow.cell i (by rw [SL_length _ hi]; exact hlt)
      have hfr := hrow.frozen i
      have hset := hrow.set i (cf xs (rv k i)).val
      rw [SL_set (fun j => cf xs (rv k j)) hlt] at hset
      have c2 := field_Norm (xs.getD (rv k i) 0) (range_getD hrx _)
      rw [fN_val, show toF (xs.getD (rv k i) 0) = cf xs (rv k i) from rfl] at c2
      have hB2 := fun (u : Value) => hbar.setCell i u
      clear hc hrx hrow hbar hA hA3 hB3 hget hord hr hrow2 hrv
      generalize (SL N i (fun j => cf xs (rv k j))).getD i 0 = old at *
      generalize (cf xs (rv k i)).val = z at *
      generalize xs.getD (rv k i) 0 = y at *
      generalize rv k i = q at *
      go_wp2_with (go_at_call 60; refine Calls.mono (c2 _) ?_; rintro e w' ⟨rfl, hw⟩; rw [hw]; clear hw)
      go_roundw
      case rel => exact ⟨i + 1, by omega, by go_num, hset, hB2 _⟩
      case measure => simp only [intOf]; omega
    · have e : N = i := by omega
      subst e
      rw [SL_full] at hrow
      have hall0 : Alls (toF r) k (cf xs) 0 (mk N (fun j => cf xs (rv k j))) := hN'.out ▸ Alls_start (toF r) k (cf xs)
      have hBw : Below w.heap.size w wr := Bar.fresh hB3 hgw hbar
      have hge : N ≤ N := Nat.le_refl _
      clear hc hrx hA hA3 hrv hrow2 hB3 hbar hol' hi hlt
      generalize mk N (fun j => cf xs (rv k j)) = z0 at *
      obtain ⟨w4, hw4⟩ : ∃ w4 : World, w4 = wr := ⟨_, rfl⟩
      rw [← hw4] at hrow hBw ⊢
      clear hw4
      have hN := hN'.out
      have hNn := hN'
      clear hN'
      go_wp2
      go_loopw [10] (fun vi wr => ∃ (t s : Nat) (zs : List Nat), t = s + 1 ∧ s ≤ k ∧ vi = .int .i64 (t : Int) ∧ RowU wr g zs ∧ Hid (Alls (toF r) k (cf xs) s zs) ∧ Below w.heap.size w wr)
        (fun vi _ => k + 1 - (intOf vi).toNat)
      case atStart => exact ⟨1, 0, z0, rfl, Nat.zero_le _, rfl, hrow, hall0, hBw⟩
      case round =>
        clear hrow hBw hall0
        obtain ⟨t, s, zs, hts, hs, rfl, hrow, hall, hBw⟩ := hrel
        by_cases hle : t ≤ k
        · obtain ⟨m, hm⟩ : ∃ m, m = k - t := ⟨_, rfl⟩
          have hsub : (k : Int) - (t : Int) = (m : Int) := by omega
          obtain ⟨hp1, hs9⟩ := two_pow_bound t (by omega)
          obtain ⟨hp2, hq9⟩ := two_pow_bound m (by omega)
          have e1 : 2 ^ t = 2 * 2 ^ s := by rw [hts, Nat.pow_succ]; omega
          have e2 : N = 2 ^ m * 2 ^ t := by rw [hN, ← Nat.pow_add]; congr 1; omega
          have cP := field_Pow r (2 ^ m) hr (by omega)
          have hpart : Hid (toF (fW r (2 ^ m)) = pw (toF r) (2 ^ (k - (s + 1)))) := by
            show toF (fW r (2 ^ m)) = pw (toF r) (2 ^ (k - (s + 1)))
            rw [toF_fW, hm, hts]
          have hp64 : ((fW r (2 ^ m) : Nat) : Int) < 18446744073709551616 := by have := fW_lt r (2 ^ m); omega
          have hstep : Hid (∀ (B : Nat) (ys : List Nat), B < 2 ^ m → Halfs (toF r) k (cf xs) s B ys → Halfs (toF r) k (cf xs) s (B + 1) (joinK ys (B * 2 ^ t) (2 ^ s) (fW r (2 ^ m)) (2 ^ s))) := by
            intro B ys hB hy
            have := hy.step hord (by omega) (by rw [← hts, ← hm]; exact hB) hpart.out
            rw [← hts] at this
            exact this
          have hstop : Hid (∀ (ys : List Nat), Halfs (toF r) k (cf xs) s (2 ^ m) ys → Alls (toF r) k (cf xs) t ys) := by
            intro ys hy
            have := hy.stop (by rw [← hts, ← hm])
            rw [← hts] at this
            exact this
          have hlens : Hid (∀ (B : Nat) (ys : List Nat), Halfs (toF r) k (cf xs) s B ys → ys.length = N) := fun B ys hy => hy.len.trans hN.symm
          have e1' : Hid (2 ^ t = 2 * 2 ^ s) := e1
          have e2' : Hid (N = 2 ^ m * 2 ^ t) := e2
          have hstart : Hid (Halfs (toF r) k (cf xs) s 0 zs) := hall.out.start
          have hm' : Hid (m = k - t) := hm
          clear e1 e2 hpart hm hall hN
          generalize fW r (2 ^ m) = p at *
          generalize 2 ^ m = q at *
          generalize 2 ^ t = sz at *
          obtain ⟨w5, hw5⟩ : ∃ w5 : World, w5 = wr := ⟨_, rfl⟩
          rw [← hw5] at hrow hBw ⊢
          clear hw5
          have hts' : Hid (t = s + 1) := hts
          clear hts
          go_wp2_with (go_at_call 37; refine Calls.mono (cP _) ?_; rintro e w' ⟨rfl, hw⟩; rw [hw]; clear hw)
          go_loopw [13] (fun vi wr => ∃ (f B : Nat) (ys : List Nat), f = B * sz ∧ B ≤ q ∧ vi = .int .i64 (f : Int) ∧ RowU wr g ys ∧ Hid (Halfs (toF r) k (cf xs) s B ys) ∧ Below w.heap.size w wr)
            (fun vi _ => N - (intOf vi).toNat)
          case atStart => exact ⟨0, 0, zs, by omega, Nat.zero_le _, rfl, hrow, hstart, hBw⟩
          case round =>
            clear hrow hBw hstart
            obtain ⟨f, B, ys, hf, hB, rfl, hrow, hhalf, hBw⟩ := hrel
            have hly := hlens.out _ _ hhalf.out
            by_cases hlt : B < q
            · have hfit : f + sz ≤ N := by
                have : (B + 1) * sz ≤ q * sz := Nat.mul_le_mul_right _ hlt
                rw [Nat.add_mul, Nat.one_mul, ← hf, ← e2'.out] at this
                exact this
              have hnext : Hid (Halfs (toF r) k (cf xs) s (B + 1) (joinK ys f (2 ^ s) p (2 ^ s))) := by
                have := hstep.out B ys hlt hhalf.out
                rw [← hf] at this
                exact this
              have hpos : 0 < sz := by rw [e1'.out]; have := Nat.pow_pos (n := s) (show 0 < 2 by decide); omega
              have cJ := ntt_join wr g f (2 ^ s) sz (N - f) p ys hrow hhalf.out.low (by rw [hly, ← e1'.out]; exact hfit) (by omega) e1'.out hp64
              have hfs : f + sz - f = sz := by omega
              have hfN : f < N := by omega
              have hf2 : (B + 1) * sz = f + sz := by rw [Nat.add_mul, Nat.one_mul, ← hf]
              have hf2' : Hid ((B + 1) * sz = f + sz) := hf2
              clear hf2 hf hhalf hly hB
              generalize joinK ys f (2 ^ s) p (2 ^ s) = ys2 at *
              go_wp2_with (go_at_call 90; refine Calls.mono cJ ?_; rintro e w6 ⟨rfl, hrow6, hbar6⟩)
              go_roundw
              case rel => exact ⟨f + sz, B + 1, ys2, hf2'.out.symm, by omega, by go_num, hrow6, hnext, Bar.fresh hBw hgw hbar6⟩
              case measure => simp only [intOf]; omega
            · have eB : B = q := by omega
              subst eB
              have hfN : f = N := by rw [hf, ← e2'.out]
              have hall : Hid (Alls (toF r) k (cf xs) t ys) := hstop.out ys hhalf.out
              have hnl : ¬ (f : Int) < (N : Int) := by omega
              clear hfN hf hhalf hly hB
              go_wp2
              go_roundw
              case rel => exact ⟨t + 1, t, ys, rfl, hle, by go_num, hrow, hall, hBw⟩
              case measure => simp only [intOf]; omega
        · have es : s = k := by omega
          subst es
          have hz := alls_fin hall.out
          rw [← hN] at hz
          rw [hz] at hrow
          have hgt : ¬ (t : Int) ≤ (s : Int) := by omega
          have hrow' : Hid (RowU wr g (mk N (dft (toF r) N (cf xs)))) := hrow
          have hBw' : Hid (Below w.heap.size w wr) := hBw
          have hgw' : Hid (w.heap.size ≤ g) := hgw
          clear hz hall hN hts hle hord hr hs hNn hk hrow hBw hgw
          go_wp2
          go_ret
          exact ⟨g, rfl, hgw'.out, hrow'.out, hBw'.out⟩

end Go.Proofs.YtmggccepmicjhagGreatDoor
