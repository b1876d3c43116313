/-
  Texts that stood one behind the other, as one.
-/
import Derived.Test.YtmggccepmicjhacGreatDoorShC3All
import Derived.Test.YtmggccepmicjhacGreatDoorNttKAll
import Derived.Test.YtmggccepmicjhacGreatDoorPolyHAll
import Derived.Test.YtmggccepmicjhacGreatDoorPolyHAll
/-! What transform of package ntt answers: the transform of a list of 2^k numbers by a root of the order 2^k. -/
namespace Go.Proofs.YtmggccepmicjhacGreatDoor
open Go.RowKit
set_option maxRecDepth 100000

theorem Alls_start (w : F) (k : Nat) (f : Nat → F) : Alls w k f 0 (mk (2 ^ k) (fun j => f (rv k j))) := by
  refine ⟨mk_length _ _, mk_lt _ _, fun b t hb ht => ?_⟩
  rw [Nat.sub_zero] at hb
  rw [Nat.pow_zero] at ht
  obtain rfl : t = 0 := by omega
  rw [Dk_zero, Nat.pow_zero, Nat.mul_one, Nat.add_zero, cf_mk, if_pos hb]
theorem list_of_cf (zs : List Nat) (n : Nat) (f : Nat → F) (hl : zs.length = n) (hz : ∀ x ∈ zs, x < P) (h : ∀ i, i < n → cf zs i = f i) : zs = mk n f := by
  apply List.ext_getElem
  · rw [hl, mk_length]
  · intro i h1 h2
    have h3 := h i (by omega)
    have h4 : cf zs i = toF zs[i] := by unfold cf; simp [List.getD, h1]
    have h5 : (mk n f)[i] = (f i).val := by simp [mk]
    rw [h5, ← h3, h4, ← fN_val, fN_eq, Nat.mod_eq_of_lt (hz _ (List.getElem_mem h1))]
theorem alls_fin {w : F} {k : Nat} {f : Nat → F} {zs : List Nat} (h : Alls w k f k zs) : zs = mk (2 ^ k) (dft w (2 ^ k) f) := by
  refine list_of_cf zs _ _ h.len h.low fun i hi => ?_
  have := h.all 0 i (by rw [Nat.sub_self]; decide) hi
  rw [Nat.zero_mul, Nat.zero_add] at this
  rw [this, Dk_end]

set_option maxHeartbeats 4000000 in
theorem ntt_transform (w : World) (v : Value) (xs : List Nat) (k r : Nat) (h : IsU w v xs) (hl : xs.length = 2 ^ k) (hk : k ≤ 10) (hr : (r : Int) < 18446744073709551616) (hord : Ord (toF r) k) :
    Calls Tryz.prog 89 #[v, .int .i64 (k : Int), .int .u64 (r : Int)] w fun e w' => ∃ g, e = .returned (.slice (some ⟨g, 0, none⟩) (2 ^ k) (2 ^ k)) ∧ w.heap.size ≤ g ∧ RowU w' g (mk (2 ^ k) (dft (toF r) (2 ^ k) (cf xs))) ∧ Below w.heap.size w w' := by
  have hA := h
  obtain ⟨a, cap, rfl, hcap, hmax, hc, hrx⟩ := h
  clear hcap hmax
  have hN9 := (two_pow_bound k hk).2
  have cT := fun W => ntt_turned W k hk
  obtain ⟨N, hN⟩ : ∃ N, N = 2 ^ k := ⟨_, rfl⟩
  have hlx : xs.length = N := by omega
  rw [hl]
  rw [hl] at hA
  rw [← hN] at hN9 cT hA ⊢
  have hN' : Hid (N = 2 ^ k) := hN
  have hlx' : Hid (xs.length = N) := hlx
  have hrv : Hid (∀ i, i < N → (ord k).getD i 0 = rv k i ∧ rv k i < N) := fun i hi => ⟨ord_get k i (hN ▸ hi), hN ▸ rv_lt k i⟩
  have hol : (ord k).length = N := by rw [ord_length, hN]
  have hol' : Hid ((ord k).length = N) := hol
  have hn9 : N ≤ 1000000000 := by omega
  clear hN hlx hl hol
  go_enter Tryz.func89, Tryz.ntmps89
  go_wp2_with (first
    | (at_make; refine wp_makeG rfl _ _ rfl N rfl rfl hn9 ?_; intro g w2 hg hrow hb)
    | (go_at_call 114; refine Calls.mono (cT _) ?_; rintro e w3 ⟨g2, rfl, hg2, hrow2, hb2⟩))
  have hgw : w.heap.size ≤ g := Nat.le_of_eq hg.out.symm
  have hgg : g ≠ g2 := by have := hrow.lt; omega
  have hrow3 := hrow.below hb2
  have hB3 : Below w.heap.size w w3 := hb.trans (hb2.mono hb.size)
  have hA3 := hA.apart hgw
  clear hg hb hrow hb2 hg2 cT
  go_loopw [20] (fun vi wr => ∃ i : Nat, i ≤ N ∧ vi = .int .i64 (i : Int) ∧ RowU wr g (SL N i (fun j => cf xs (rv k j))) ∧ Bar g w3 wr)
    (fun vi _ => N - (intOf vi).toNat)
  case atStart => exact ⟨0, Nat.zero_le _, rfl, hrow3.cast (SL_zero _ _).symm, Bar.refl _ _⟩
  case round =>
    clear hrow3
    obtain ⟨i, hi, rfl, hrow, hbar⟩ := hrel
    by_cases hlt : i < N
    · obtain ⟨hget, hrl⟩ := hrv.out i hlt
      obtain ⟨b, off, rfl, _⟩ := hc (rv k i) (by rw [hlx'.out]; exact hrl)
      have hcI := (hrow2.bar (Ne.symm hgg) hbar).cell i (by rw [hol'.out]; exact hlt)
      rw [hget] at hcI
      have hcA := ((hA.below hB3).bar hA3 hbar).cell (rv k i) (by rw [hlx'.out]; exact hrl)
      have hcS := hrow.cell i (by rw [SL_length _ hi]; exact hlt)
      have hfr := hrow.frozen i
      have hset := hrow.set i (cf xs (rv k i)).val
      rw [SL_set (fun j => cf xs (rv k j)) hlt] at hset
      have c2 := field_Norm (xs.getD (rv k i) 0) (range_getD hrx _)
      rw [fN_val, show toF (xs.getD (rv k i) 0) = cf xs (rv k i) from rfl] at c2
      have hB2 := fun (u : Value) => hbar.setCell i u
      clear hc hrx hrow hbar hA hA3 hB3 hget hord hr hrow2 hrv
      generalize (SL N i (fun j => cf xs (rv k j))).getD i 0 = old at *
      generalize (cf xs (rv k i)).val = z at *
      generalize xs.getD (rv k i) 0 = y at *
      generalize rv k i = q at *
      go_wp2_with (go_at_call 83; refine Calls.mono (c2 _) ?_; rintro e w' ⟨rfl, hw⟩; rw [hw]; clear hw)
      go_roundw
      case rel => exact ⟨i + 1, by omega, by go_num, hset, hB2 _⟩
      case measure => simp only [intOf]; omega
    · have e : N = i := by omega
      subst e
      rw [SL_full] at hrow
      have hall0 : Alls (toF r) k (cf xs) 0 (mk N (fun j => cf xs (rv k j))) := hN'.out ▸ Alls_start (toF r) k (cf xs)
      have hBw : Below w.heap.size w wr := Bar.fresh hB3 hgw hbar
      have hge : N ≤ N := Nat.le_refl _
      clear hc hrx hA hA3 hrv hrow2 hB3 hbar hol' hi hlt
      generalize mk N (fun j => cf xs (rv k j)) = z0 at *
      obtain ⟨w4, hw4⟩ : ∃ w4 : World, w4 = wr := ⟨_, rfl⟩
      rw [← hw4] at hrow hBw ⊢
      clear hw4
      have hN := hN'.out
      have hNn := hN'
      clear hN'
      go_wp2
      go_loopw [10] (fun vi wr => ∃ (t s : Nat) (zs : List Nat), t = s + 1 ∧ s ≤ k ∧ vi = .int .i64 (t : Int) ∧ RowU wr g zs ∧ Hid (Alls (toF r) k (cf xs) s zs) ∧ Below w.heap.size w wr)
        (fun vi _ => k + 1 - (intOf vi).toNat)
      case atStart => exact ⟨1, 0, z0, rfl, Nat.zero_le _, rfl, hrow, hall0, hBw⟩
      case round =>
        clear hrow hBw hall0
        obtain ⟨t, s, zs, hts, hs, rfl, hrow, hall, hBw⟩ := hrel
        by_cases hle : t ≤ k
        · obtain ⟨m, hm⟩ : ∃ m, m = k - t := ⟨_, rfl⟩
          have hsub : (k : Int) - (t : Int) = (m : Int) := by omega
          obtain ⟨hp1, hs9⟩ := two_pow_bound t (by omega)
          obtain ⟨hp2, hq9⟩ := two_pow_bound m (by omega)
          have e1 : 2 ^ t = 2 * 2 ^ s := by rw [hts, Nat.pow_succ]; omega
          have e2 : N = 2 ^ m * 2 ^ t := by rw [hN, ← Nat.pow_add]; congr 1; omega
          have cP := field_Pow r (2 ^ m) hr (by omega)
          have hpart : Hid (toF (fW r (2 ^ m)) = pw (toF r) (2 ^ (k - (s + 1)))) := by
            show toF (fW r (2 ^ m)) = pw (toF r) (2 ^ (k - (s + 1)))
            rw [toF_fW, hm, hts]
          have hp64 : ((fW r (2 ^ m) : Nat) : Int) < 18446744073709551616 := by have := fW_lt r (2 ^ m); omega
          have hstep : Hid (∀ (B : Nat) (ys : List Nat), B < 2 ^ m → Halfs (toF r) k (cf xs) s B ys → Halfs (toF r) k (cf xs) s (B + 1) (joinK ys (B * 2 ^ t) (2 ^ s) (fW r (2 ^ m)) (2 ^ s))) := by
            intro B ys hB hy
            have := hy.step hord (by omega) (by rw [← hts, ← hm]; exact hB) hpart.out
            rw [← hts] at this
            exact this
          have hstop : Hid (∀ (ys : List Nat), Halfs (toF r) k (cf xs) s (2 ^ m) ys → Alls (toF r) k (cf xs) t ys) := by
            intro ys hy
            have := hy.stop (by rw [← hts, ← hm])
            rw [← hts] at this
            exact this
          have hlens : Hid (∀ (B : Nat) (ys : List Nat), Halfs (toF r) k (cf xs) s B ys → ys.length = N) := fun B ys hy => hy.len.trans hN.symm
          have e1' : Hid (2 ^ t = 2 * 2 ^ s) := e1
          have e2' : Hid (N = 2 ^ m * 2 ^ t) := e2
          have hstart : Hid (Halfs (toF r) k (cf xs) s 0 zs) := hall.out.start
          have hm' : Hid (m = k - t) := hm
          clear e1 e2 hpart hm hall hN
          generalize fW r (2 ^ m) = p at *
          generalize 2 ^ m = q at *
          generalize 2 ^ t = sz at *
          obtain ⟨w5, hw5⟩ : ∃ w5 : World, w5 = wr := ⟨_, rfl⟩
          rw [← hw5] at hrow hBw ⊢
          clear hw5
          have hts' : Hid (t = s + 1) := hts
          clear hts
          go_wp2_with (go_at_call 45; refine Calls.mono (cP _) ?_; rintro e w' ⟨rfl, hw⟩; rw [hw]; clear hw)
          go_loopw [13] (fun vi wr => ∃ (f B : Nat) (ys : List Nat), f = B * sz ∧ B ≤ q ∧ vi = .int .i64 (f : Int) ∧ RowU wr g ys ∧ Hid (Halfs (toF r) k (cf xs) s B ys) ∧ Below w.heap.size w wr)
            (fun vi _ => N - (intOf vi).toNat)
          case atStart => exact ⟨0, 0, zs, by omega, Nat.zero_le _, rfl, hrow, hstart, hBw⟩
          case round =>
            clear hrow hBw hstart
            obtain ⟨f, B, ys, hf, hB, rfl, hrow, hhalf, hBw⟩ := hrel
            have hly := hlens.out _ _ hhalf.out
            by_cases hlt : B < q
            · have hfit : f + sz ≤ N := by
                have : (B + 1) * sz ≤ q * sz := Nat.mul_le_mul_right _ hlt
                rw [Nat.add_mul, Nat.one_mul, ← hf, ← e2'.out] at this
                exact this
              have hnext : Hid (Halfs (toF r) k (cf xs) s (B + 1) (joinK ys f (2 ^ s) p (2 ^ s))) := by
                have := hstep.out B ys hlt hhalf.out
                rw [← hf] at this
                exact this
              have hpos : 0 < sz := by rw [e1'.out]; have := Nat.pow_pos (n := s) (show 0 < 2 by decide); omega
              have cJ := ntt_join wr g f (2 ^ s) sz (N - f) p ys hrow hhalf.out.low (by rw [hly, ← e1'.out]; exact hfit) (by omega) e1'.out hp64
              have hfs : f + sz - f = sz := by omega
              have hfN : f < N := by omega
              have hf2 : (B + 1) * sz = f + sz := by rw [Nat.add_mul, Nat.one_mul, ← hf]
              have hf2' : Hid ((B + 1) * sz = f + sz) := hf2
              clear hf2 hf hhalf hly hB
              generalize joinK ys f (2 ^ s) p (2 ^ s) = ys2 at *
              go_wp2_with (go_at_call 115; refine Calls.mono cJ ?_; rintro e w6 ⟨rfl, hrow6, hbar6⟩)
              go_roundw
              case rel => exact ⟨f + sz, B + 1, ys2, hf2'.out.symm, by omega, by go_num, hrow6, hnext, Bar.fresh hBw hgw hbar6⟩
              case measure => simp only [intOf]; omega
            · have eB : B = q := by omega
              subst eB
              have hfN : f = N := by rw [hf, ← e2'.out]
              have hall : Hid (Alls (toF r) k (cf xs) t ys) := hstop.out ys hhalf.out
              have hnl : ¬ (f : Int) < (N : Int) := by omega
              clear hfN hf hhalf hly hB
              go_wp2
              go_roundw
              case rel => exact ⟨t + 1, t, ys, rfl, hle, by go_num, hrow, hall, hBw⟩
              case measure => simp only [intOf]; omega
        · have es : s = k := by omega
          subst es
          have hz := alls_fin hall.out
          rw [← hN] at hz
          rw [hz] at hrow
          have hgt : ¬ (t : Int) ≤ (s : Int) := by omega
          have hrow' : Hid (RowU wr g (mk N (dft (toF r) N (cf xs)))) := hrow
          have hBw' : Hid (Below w.heap.size w wr) := hBw
          have hgw' : Hid (w.heap.size ≤ g) := hgw
          clear hz hall hN hts hle hord hr hs hNn hk hrow hBw hgw
          go_wp2
          go_ret
          exact ⟨g, rfl, hgw'.out, hrow'.out, hBw'.out⟩

end Go.Proofs.YtmggccepmicjhacGreatDoor

/-! What Forward and Inverse of package ntt answer: the transform of a list of 2^k numbers and the way back; ErrForm of other lists. -/
namespace Go.Proofs.YtmggccepmicjhacGreatDoor
open Go.RowKit
set_option maxRecDepth 100000

theorem and_pow_all : ((List.range 11).all fun k => (2 ^ k &&& (2 ^ k - 1)) == 0) = true := by decide +kernel
theorem and_pow (k : Nat) (hk : k ≤ 10) : 2 ^ k &&& (2 ^ k - 1) = 0 :=
  beq_iff_eq.mp (List.all_eq_true.mp and_pow_all k (List.mem_range.mpr (by omega)))
theorem and_none_all : ((List.range 1025).all fun n => n == 0 || (List.range 11).any (fun k => n == 2 ^ k) || !((n &&& (n - 1)) == 0)) = true := by decide +kernel
theorem and_none (n : Nat) (h0 : n ≠ 0) (h1 : n ≤ 1024) (h : ∀ j, j ≤ 10 → n ≠ 2 ^ j) : n &&& (n - 1) ≠ 0 := by
  have h2 := List.all_eq_true.mp and_none_all n (List.mem_range.mpr (by omega))
  simp only [Bool.or_eq_true, beq_iff_eq, List.any_eq_true, List.mem_range, Bool.not_eq_true', beq_eq_false_iff_ne] at h2
  rcases h2 with (h3 | ⟨j, hj, e⟩) | h3
  · exact absurd h3 h0
  · exact absurd e (h j (by omega))
  · exact h3
theorem and_i64 (n m : Nat) (hn : n ≤ 1024) (hm : m ≤ 1024) : bits .and .i64 (n : Int) (m : Int) = ((n &&& m : Nat) : Int) :=
  (bits_nat .i64 62 (by decide) wraps_i64 n m (by omega) (by omega)).1

theorem ntt_logSize_ok (w : World) (a : Option Addr) (n cap k : Nat) (hn : n = 2 ^ k) (hk : k ≤ 10) (ht : Tab w) :
    Calls Tryz.prog 88 #[.slice a n cap] w fun e w' => e = .returned (.tuple #[.int .i64 (k : Int), .int .i64 0]) ∧ w' = w := by
  have c := bits_TrailingZeros k hk w ht
  rw [← hn] at c
  have h9 : n ≤ 1024 := by rw [hn]; exact (two_pow_bound k hk).2
  have h1 : 1 ≤ n := by rw [hn]; exact Nat.pow_pos (by decide)
  have hand : bits .and .i64 (n : Int) ((n : Int) - 1) = 0 := by
    rw [show (n : Int) - 1 = ((n - 1 : Nat) : Int) by omega, and_i64 n (n - 1) h9 (by omega), hn, and_pow k hk]; rfl
  clear hn ht
  go_enter Tryz.func88, Tryz.ntmps88
  go_wp2_with (go_at_call 113; refine Calls.mono c ?_; rintro e w' ⟨rfl, hw⟩; rw [hw]; clear hw)
  go_ret2
  exact ⟨rfl, rfl⟩
theorem ntt_logSize_form (w : World) (a : Option Addr) (n cap : Nat) (hm : n ≤ maxLen) (hl : ∀ j, j ≤ 10 → n ≠ 2 ^ j) :
    Calls Tryz.prog 88 #[.slice a n cap] w fun e w' => e = .returned (.tuple #[.int .i64 0, .int .i64 5]) ∧ w' = w := by
  unfold maxLen at hm
  by_cases h0 : n = 0
  · subst h0
    clear hl
    go_enter Tryz.func88, Tryz.ntmps88
    go_wp2
    go_ret2
    exact ⟨rfl, rfl⟩
  · have h1 : 1 ≤ n := by omega
    by_cases h9 : n ≤ 1024
    · have hand : bits .and .i64 (n : Int) ((n : Int) - 1) = ((n &&& (n - 1) : Nat) : Int) := by
        rw [show (n : Int) - 1 = ((n - 1 : Nat) : Int) by omega, and_i64 n (n - 1) h9 (by omega)]
      have hne := and_none n h0 h9 hl
      have hb : ((((n &&& (n - 1) : Nat) : Int)) != 0) = true := by rw [bne_iff_ne]; omega
      clear hne hl
      generalize n &&& (n - 1) = z at *
      go_enter Tryz.func88, Tryz.ntmps88
      go_wp2
      go_ret2
      exact ⟨rfl, rfl⟩
    · have hgt : 1024 < n := by omega
      clear hl h9
      go_enter Tryz.func88, Tryz.ntmps88
      go_wp2
      go_ret2
      exact ⟨rfl, rfl⟩

theorem rt_64 (k : Nat) : ((rt k : Nat) : Int) < 18446744073709551616 := by
  have h : ((rt k : Nat) : Int) < 18446744069414584321 := fW_lt _ _
  omega
theorem ntt_Forward_row (w : World) (v : Value) (xs : List Nat) (k : Nat) (h : IsU w v xs) (ht : Tab w) (hl : xs.length = 2 ^ k) (hk : k ≤ 10) :
    Calls Tryz.prog 50 #[v] w fun e w' => ∃ g, e = .returned (.tuple #[.slice (some ⟨g, 0, none⟩) (2 ^ k) (2 ^ k), .int .i64 0]) ∧ w.heap.size ≤ g ∧ RowU w' g (mk (2 ^ k) (fw xs k)) ∧ Below w.heap.size w w' := by
  have hA := h
  obtain ⟨a, cap, rfl, -⟩ := h
  have c1 := ntt_logSize_ok w a xs.length cap k hl hk ht
  have c2 := field_Root_in k (by omega)
  have h64 := rt_64 k
  have c3 := ntt_transform w _ xs k (rt k) hA hl hk h64 (ord_rt k (by omega))
  rw [show dft (toF (rt k)) (2 ^ k) (cf xs) = fw xs k from rfl] at c3
  have hN9 := (two_pow_bound k hk).2
  rw [show fW 7 (18446744069414584320 / 2 ^ k) = rt k from rfl] at c2
  generalize mk (2 ^ k) (fw xs k) = RL at *
  clear h64 ht hl
  generalize rt k = r at *
  generalize 2 ^ k = N at *
  go_enter Tryz.func50, Tryz.ntmps50
  go_wp2_with (first
    | (go_at_call 88; refine Calls.mono c1 ?_; rintro e w' ⟨rfl, hw⟩; rw [hw]; clear hw)
    | (go_at_call 85; refine Calls.mono (c2 _) ?_; rintro e w' ⟨rfl, hw⟩; rw [hw]; clear hw)
    | (go_at_call 89; refine Calls.mono c3 ?_; rintro e w2 ⟨g, rfl, hg, hrow, hb⟩))
  go_ret2
  exact ⟨g, rfl, hg, hrow, hb⟩
theorem ntt_Forward_ok (w : World) (v : Value) (xs : List Nat) (k : Nat) (h : IsU w v xs) (ht : Tab w) (hl : xs.length = 2 ^ k) (hk : k ≤ 10) :
    Calls Tryz.prog 50 #[v] w fun e w' => ∃ u, e = .returned (.tuple #[u, .int .i64 0]) ∧ IsU w' u (mk (2 ^ k) (fw xs k)) ∧ Below w.heap.size w w' := by
  refine Calls.mono (ntt_Forward_row w v xs k h ht hl hk) ?_
  rintro e w' ⟨g, rfl, -, hrow, hb⟩
  have hN9 := (two_pow_bound k hk).2
  exact ⟨_, rfl, hrow.isUN (Rng_of_P (mk_lt _ _)) (by rw [mk_length]; omega) (mk_length _ _), hb⟩
theorem ntt_Forward_form (w : World) (v : Value) (xs : List Nat) (h : IsU w v xs) (hl : ∀ j, j ≤ 10 → xs.length ≠ 2 ^ j) :
    Calls Tryz.prog 50 #[v] w fun e w' => ∃ u, e = .returned (.tuple #[u, .int .i64 5]) ∧ IsU w' u [] ∧ Below w.heap.size w w' := by
  obtain ⟨a, cap, rfl, h1, h2, -⟩ := h
  have c1 := ntt_logSize_form w a xs.length cap (Nat.le_trans h1 h2) hl
  clear h1 h2 hl
  go_enter Tryz.func50, Tryz.ntmps50
  go_wp2_with (go_at_call 88; refine Calls.mono c1 ?_; rintro e w' ⟨rfl, hw⟩; rw [hw]; clear hw)
  go_ret2
  exact ⟨_, rfl, IsU.nil _, Below.refl _ _⟩
theorem ntt_Inverse_form (w : World) (v : Value) (xs : List Nat) (h : IsU w v xs) (hl : ∀ j, j ≤ 10 → xs.length ≠ 2 ^ j) :
    Calls Tryz.prog 51 #[v] w fun e w' => ∃ u, e = .returned (.tuple #[u, .int .i64 5]) ∧ IsU w' u [] ∧ Below w.heap.size w w' := by
  obtain ⟨a, cap, rfl, h1, h2, -⟩ := h
  have c1 := ntt_logSize_form w a xs.length cap (Nat.le_trans h1 h2) hl
  clear h1 h2 hl
  go_enter Tryz.func51, Tryz.ntmps51
  go_wp2_with (go_at_call 88; refine Calls.mono c1 ?_; rintro e w' ⟨rfl, hw⟩; rw [hw]; clear hw)
  go_ret2
  exact ⟨_, rfl, IsU.nil _, Below.refl _ _⟩

/-- The first i numbers of a list times c. -/
def tmK (zs : List Nat) (c : Nat) : Nat → List Nat
  | 0 => zs
  | i + 1 => (tmK zs c i).set i (fM ((tmK zs c i).getD i 0) c)
theorem tmK_length (zs : List Nat) (c i : Nat) : (tmK zs c i).length = zs.length := by
  induction i with
  | zero => rfl
  | succ i ih => rw [tmK, List.length_set, ih]
theorem tmK_P (zs : List Nat) (c i : Nat) (hz : ∀ x ∈ zs, x < P) : ∀ x ∈ tmK zs c i, x < P := by
  induction i with
  | zero => exact hz
  | succ i ih =>
    intro x hx
    rw [tmK] at hx
    rcases List.mem_or_eq_of_mem_set hx with h1 | h1
    · exact ih x h1
    · rw [h1]; have := fM_lt ((tmK zs c i).getD i 0) c; unfold P; omega
theorem cf_tmK (zs : List Nat) (c i : Nat) (hi : i ≤ zs.length) (j : Nat) : cf (tmK zs c i) j = if j < i then cf zs j * toF c else cf zs j := by
  induction i generalizing j with
  | zero => rw [if_neg (by omega)]; rfl
  | succ i ih =>
    have h1 := ih (by omega) i
    rw [if_neg (by omega)] at h1
    rw [tmK, cf_setN _ _ _ _ (by rw [tmK_length]; omega), toF_fM]
    show (if j = i then cf (tmK zs c i) i * toF c else cf (tmK zs c i) j) = _
    rw [h1]
    by_cases e : j = i
    · rw [if_pos e, if_pos (by omega), e]
    · rw [if_neg e, ih (by omega) j]
      by_cases e2 : j < i
      · rw [if_pos e2, if_pos (by omega)]
      · rw [if_neg e2, if_neg (by omega)]

set_option maxRecDepth 100000 in
set_option maxHeartbeats 2000000 in
theorem ntt_Inverse_row (w : World) (v : Value) (xs : List Nat) (k : Nat) (h : IsU w v xs) (ht : Tab w) (hl : xs.length = 2 ^ k) (hk : k ≤ 10) :
    Calls Tryz.prog 51 #[v] w fun e w' => ∃ g, e = .returned (.tuple #[.slice (some ⟨g, 0, none⟩) (2 ^ k) (2 ^ k), .int .i64 0]) ∧ w.heap.size ≤ g ∧ RowU w' g (mk (2 ^ k) (bw xs k)) ∧ Below w.heap.size w w' := by
  have hA := h
  obtain ⟨a, cap, rfl, -⟩ := h
  have c1 := ntt_logSize_ok w a xs.length cap k hl hk ht
  have c2 := field_Root_in k (by omega)
  rw [show fW 7 (18446744069414584320 / 2 ^ k) = rt k from rfl] at c2
  have h64 := rt_64 k
  obtain ⟨hpow, hN9⟩ := two_pow_bound k hk
  have c4 := field_Inv_some (rt k) h64 (rt_ne k (by omega))
  have c5 := field_Inv_some (2 ^ k) (by omega) (len_ne k (by omega))
  have hv := toF_inv (rt k)
  have hpt := toF_inv (2 ^ k)
  have hb64 : ((fW (rt k) 18446744069414584319 : Nat) : Int) < 18446744073709551616 := by have := fW_lt (rt k) 18446744069414584319; omega
  have hp64 : ((fW (2 ^ k) 18446744069414584319 : Nat) : Int) < 18446744073709551616 := by have := fW_lt (2 ^ k) 18446744069414584319; omega
  have hord : Ord (toF (fW (rt k) 18446744069414584319)) k := by rw [hv]; exact (ord_rt k (by omega)).inv (rt_inv k (by omega))
  have c3 := ntt_transform w _ xs k (fW (rt k) 18446744069414584319) hA hl hk hb64 hord
  have hfin : Hid (tmK (mk (2 ^ k) (dft (toF (fW (rt k) 18446744069414584319)) (2 ^ k) (cf xs))) (fW (2 ^ k) 18446744069414584319) (2 ^ k) = mk (2 ^ k) (bw xs k)) := by
    show _ = _
    refine list_of_cf _ _ _ (by rw [tmK_length, mk_length]) (tmK_P _ _ _ (mk_lt _ _)) fun i hi => ?_
    rw [cf_tmK _ _ _ (by rw [mk_length]; exact Nat.le_refl _), if_pos hi, cf_mk, if_pos hi, hpt, hv]
    unfold bw; grind
  have hlen := mk_length (2 ^ k) (dft (toF (fW (rt k) 18446744069414584319)) (2 ^ k) (cf xs))
  have hPz := mk_lt (2 ^ k) (dft (toF (fW (rt k) 18446744069414584319)) (2 ^ k) (cf xs))
  clear hord hv hpt hb64 h64 ht
  generalize mk (2 ^ k) (dft (toF (fW (rt k) 18446744069414584319)) (2 ^ k) (cf xs)) = zs at *
  generalize mk (2 ^ k) (bw xs k) = RL at *
  generalize fW (rt k) 18446744069414584319 = vr at *
  generalize fW (2 ^ k) 18446744069414584319 = pt at *
  generalize rt k = r at *
  have hlen' : Hid (zs.length = 2 ^ k) := hlen
  clear hlen hl
  generalize 2 ^ k = N at *
  go_enter Tryz.func51, Tryz.ntmps51
  go_wp2_with (first
    | (go_at_call 88; refine Calls.mono c1 ?_; rintro e w' ⟨rfl, hw⟩; rw [hw]; clear hw)
    | (go_at_call 85; refine Calls.mono (c2 _) ?_; rintro e w' ⟨rfl, hw⟩; rw [hw]; clear hw)
    | (go_at_call 47; refine Calls.mono (c4 _) ?_; rintro e w' ⟨rfl, hw⟩; rw [hw]; clear hw)
    | (go_at_call 47; refine Calls.mono (c5 _) ?_; rintro e w' ⟨rfl, hw⟩; rw [hw]; clear hw)
    | (go_at_call 89; refine Calls.mono c3 ?_; rintro e w2 ⟨g, rfl, hg, hrow, hb⟩))
  go_loopw [45] (fun vi wr => ∃ i : Nat, i ≤ N ∧ vi = .int .i64 (i : Int) ∧ RowU wr g (tmK zs pt i) ∧ Below w.heap.size w wr)
    (fun vi _ => N - (intOf vi).toNat)
  case atStart => exact ⟨0, Nat.zero_le _, rfl, hrow, hb⟩
  case round =>
    clear hrow hb
    obtain ⟨i, hi, rfl, hrow, hnx⟩ := hrel
    by_cases hlt : i < N
    · have hcS := hrow.cell i (by rw [tmK_length, hlen'.out]; exact hlt)
      have hfr := hrow.frozen i
      have hset : Hid (RowU (wr.setCell ⟨g, i, none⟩ (.int .u64 ((fM ((tmK zs pt i).getD i 0) pt : Nat) : Int))) g (tmK zs pt (i + 1))) := hrow.set i _
      have cM := field_Mul ((tmK zs pt i).getD i 0) pt (range_getD (Rng_of_P (tmK_P zs pt i hPz)) _) hp64
      have hB2 := fun (u : Value) => hnx.setCell (p := ⟨g, i, none⟩) hg u
      clear hrow c1 c2 c3 c4 c5 hp64 hA hPz
      generalize fM ((tmK zs pt i).getD i 0) pt = z at *
      generalize (tmK zs pt i).getD i 0 = old at *
      go_wp2_with (go_at_call 44; refine Calls.mono (cM _) ?_; rintro e w' ⟨rfl, hw⟩; rw [hw]; clear hw)
      go_roundw
      case rel => exact ⟨i + 1, by omega, by go_num, hset.out, hB2 _⟩
      case measure => simp only [intOf]; omega
    · have e : N = i := by omega
      subst e
      rw [hfin.out] at hrow
      have hge : N ≤ N := Nat.le_refl _
      clear c1 c2 c3 c4 c5 hA hpow hp64
      go_wp2
      go_ret2
      exact ⟨g, rfl, hg, hrow, hnx⟩
theorem ntt_Inverse_ok (w : World) (v : Value) (xs : List Nat) (k : Nat) (h : IsU w v xs) (ht : Tab w) (hl : xs.length = 2 ^ k) (hk : k ≤ 10) :
    Calls Tryz.prog 51 #[v] w fun e w' => ∃ u, e = .returned (.tuple #[u, .int .i64 0]) ∧ IsU w' u (mk (2 ^ k) (bw xs k)) ∧ Below w.heap.size w w' := by
  refine Calls.mono (ntt_Inverse_row w v xs k h ht hl hk) ?_
  rintro e w' ⟨g, rfl, -, hrow, hb⟩
  have hN9 := (two_pow_bound k hk).2
  exact ⟨_, rfl, hrow.isUN (Rng_of_P (mk_lt _ _)) (by rw [mk_length]; omega) (mk_length _ _), hb⟩

end Go.Proofs.YtmggccepmicjhacGreatDoor
