/-
  Texts that stood one behind the other, as one.
-/
import Derived.Test.YtckoipoejaafhaaDoorSlAppAll
import Derived.BigQuiet
import Derived.Deep.RegionWith
import Derived.Test.YtckoipoejaafhaaDoorManyEAll
namespace Go.Proofs.YtckoipoejaafhaaDoor
open Go.RowKit
set_option maxRecDepth 100000
theorem mul_red (x : Nat) : fA (fS (x % 18446744073709551616) (x / 18446744073709551616 / 4294967296)) (x / 18446744073709551616 % 4294967296 * 4294967295) = x % P ∨ 340282366920938463463374607431768211456 ≤ x := by
  by_cases hx : 340282366920938463463374607431768211456 ≤ x
  · exact Or.inr hx
  left
  have e : x = x % 18446744073709551616 + 18446744073709551616 * (x / 18446744073709551616 % 4294967296 + 4294967296 * (x / 18446744073709551616 / 4294967296)) := by omega
  have b1 : x / 18446744073709551616 / 4294967296 < 4294967296 := by omega
  have b0 : x / 18446744073709551616 % 4294967296 < 4294967296 := by omega
  generalize x % 18446744073709551616 = lo at *
  generalize x / 18446744073709551616 % 4294967296 = h0 at *
  generalize x / 18446744073709551616 / 4294967296 = h1 at *
  rw [fA_eq, fS_eq, Nat.mod_add_mod]
  have e1 : h1 % P = h1 := Nat.mod_eq_of_lt (by unfold P; omega)
  rw [e1]
  have e2 : x + P = lo + (P - h1) + h0 * 4294967295 + P * (h0 + h1 * 4294967297) := by
    rw [e]; unfold P; omega
  have e3 : x % P = (x + P) % P := by simp
  rw [e3, e2, Nat.add_mul_mod_self_left]
theorem mul_walk (a b hi lo h1 h0 : Nat) (c : ∀ w, Calls Tryd.prog 47 #[.int .u64 a, .int .u64 b] w fun e w' => e = .returned (.tuple #[.int .u64 (hi : Int), .int .u64 (lo : Int)]) ∧ w' = w)
    (hlo : (lo : Int) < 18446744073709551616) (e1 : (hi : Int) / 4294967296 = (h1 : Int)) (e0 : bits .and .u64 (hi : Int) 4294967295 = (h0 : Int)) (b1 : (h1 : Int) < 4294967296) (b0 : (h0 : Int) < 4294967296) (w : World) :
    Calls Tryd.prog 22 #[.int .u64 (a : Int), .int .u64 (b : Int)] w fun e w' => e = .returned (.int .u64 ((fA (fS lo h1) (h0 * 4294967295) : Nat) : Int)) ∧ w' = w := by
  have bs := fS_lt lo h1
  have cs := field_Sub lo h1 hlo (by omega)
  have ca := field_Add (fS lo h1) (h0 * 4294967295) (by omega) (by omega)
  rw [Int.natCast_mul] at ca
  have e4 : ((4294967295 : Nat) : Int) = 4294967295 := rfl
  rw [e4] at ca
  clear e4
  go_enter Tryd.func22, Tryd.ntmps22
  go_wp2_with (first
    | (go_at_call 47; refine Calls.mono (c _) ?_; rintro e w' ⟨rfl, hw⟩; rw [hw]; clear hw)
    | (go_at_call 49; refine Calls.mono (cs _) ?_; rintro e w' ⟨rfl, hw⟩; rw [hw]; clear hw)
    | (go_at_call 48; refine Calls.mono (ca _) ?_; rintro e w' ⟨rfl, hw⟩; rw [hw]; clear hw))
  go_ret
  exact ⟨rfl, rfl⟩
theorem field_Mul (a b : Nat) (ha : (a : Int) < 18446744073709551616) (hb : (b : Int) < 18446744073709551616) (w : World) :
    Calls Tryd.prog 22 #[.int .u64 (a : Int), .int .u64 (b : Int)] w fun e w' => e = .returned (.int .u64 ((fM a b : Nat) : Int)) ∧ w' = w := by
  have hlt : a * b < 340282366920938463463374607431768211456 := by
    have := Nat.mul_le_mul (show a ≤ 18446744073709551615 by omega) (show b ≤ 18446744073709551615 by omega)
    omega
  have e : fA (fS (a * b % 18446744073709551616) (a * b / 18446744073709551616 / 4294967296)) (a * b / 18446744073709551616 % 4294967296 * 4294967295) = fM a b := by
    rw [fM_eq]
    rcases mul_red (a * b) with h | h
    · exact h
    · omega
  rw [← e]
  refine mul_walk a b _ _ _ _ (bits_Mul64 a b (by omega) (by omega)) (by omega) (high_half _) (low_half _ (by omega)) (by omega) (by omega) w
theorem pow_even (r s n : Nat) : r * (fM s s) ^ (n / 2) % P = r * s ^ n % P ∨ n % 2 = 1 := by
  rcases Nat.mod_two_eq_zero_or_one n with h | h
  · left
    have e : n = 2 * (n / 2) := by omega
    rw [fM_eq]
    conv => rhs; rw [e, Nat.pow_mul, Nat.pow_two]
    rw [Nat.mul_mod, ← Nat.pow_mod, ← Nat.mul_mod]
  · exact Or.inr h
theorem pow_odd (r s n : Nat) : (fM r s) * (fM s s) ^ (n / 2) % P = r * s ^ n % P ∨ n % 2 = 0 := by
  rcases Nat.mod_two_eq_zero_or_one n with h | h
  · exact Or.inr h
  · left
    have e : n = 2 * (n / 2) + 1 := by omega
    rw [fM_eq, fM_eq]
    conv => rhs; rw [e, Nat.pow_succ, Nat.pow_mul, Nat.pow_two]
    rw [Nat.mul_mod, ← Nat.pow_mod, Nat.mod_mod, ← Nat.mul_mod, Nat.mul_assoc, Nat.mul_comm s]
set_option maxHeartbeats 1000000 in
theorem field_Pow (a m : Nat) (ha : (a : Int) < 18446744073709551616) (hm : (m : Int) < 18446744073709551616) (w : World) :
    Calls Tryd.prog 31 #[.int .u64 (a : Int), .int .u64 (m : Int)] w fun e w' => e = .returned (.int .u64 ((fW a m : Nat) : Int)) ∧ w' = w := by
  go_enter Tryd.func31, Tryd.ntmps31
  go_wp2
  go_loop [1, 5, 6] (fun vn vr vs => ∃ n r s : Nat, vn = .int .u64 (n : Int) ∧ vr = .int .u64 (r : Int) ∧ vs = .int .u64 (s : Int) ∧ (n : Int) < 18446744073709551616 ∧ (r : Int) < 18446744069414584321 ∧ (s : Int) < 18446744073709551616 ∧ Hid (r * s ^ n % P = fW a m))
    (fun vn _ _ => (intOf vn).toNat)
  case atStart => exact ⟨m, 1, a, rfl, rfl, rfl, hm, by omega, ha, by rw [Nat.one_mul]; exact (fW_eq a m).symm⟩
  case round =>
    obtain ⟨n, r, s, rfl, rfl, rfl, hn, hr, hs, hinv⟩ := hrel
    have b1 := fM_lt r s
    have b2 := fM_lt s s
    rcases Nat.eq_zero_or_pos n with h0 | h0
    · subst h0
      have e : r = fW a m := by
        have := hinv.out
        rw [Nat.pow_zero, Nat.mul_one, Nat.mod_eq_of_lt (by unfold P; omega)] at this
        exact this
      subst e
      go_wp2
      go_ret
      exact ⟨rfl, rfl⟩
    · have hb := and_one_u64 (n : Int) (by omega) (by omega)
      rcases Nat.mod_two_eq_zero_or_one n with h | h
      · have h2 : (n : Int) % 2 = 0 := by omega
        rw [h2] at hb
        have hp := pow_even r s n
        rw [h] at hp
        have hp2 : Hid (r * (fM s s) ^ (n / 2) % P = fW a m) := by
          rcases hp with hp | hp
          · exact hp.trans hinv.out
          · omega
        clear hp h2
        go_wp2_with (go_at_call 22; refine Calls.mono (field_Mul _ _ ?_ ?_ _) ?_; omega; omega; rintro e w' ⟨rfl, hw⟩; rw [hw]; clear hw)
        go_round
        case rel => exact ⟨n / 2, r, fM s s, by go_num, rfl, rfl, by omega, hr, by omega, hp2⟩
        case measure => simp only [intOf]; omega
      · have h2 : (n : Int) % 2 = 1 := by omega
        rw [h2] at hb
        have hp := pow_odd r s n
        rw [h] at hp
        have hp2 : Hid ((fM r s) * (fM s s) ^ (n / 2) % P = fW a m) := by
          rcases hp with hp | hp
          · exact hp.trans hinv.out
          · omega
        clear hp h2
        go_wp2_with (go_at_call 22; refine Calls.mono (field_Mul _ _ ?_ ?_ _) ?_; omega; omega; rintro e w' ⟨rfl, hw⟩; rw [hw]; clear hw)
        go_round
        case rel => exact ⟨n / 2, fM r s, fM s s, by go_num, rfl, rfl, by omega, b1, by omega, hp2⟩
        case measure => simp only [intOf]; omega
set_option maxHeartbeats 2000000 in
theorem ntt_join (w : World) (g o h n c r : Nat) (zs : List Nat) (hrow : RowU w g zs) (hz : ∀ x ∈ zs, x < P) (hl : o + 2 * h ≤ zs.length) (hm : zs.length ≤ 1024) (hn : n = 2 * h) (hr : (r : Int) < 18446744073709551616) :
    Calls Tryd.prog 160 #[.slice (some ⟨g, o, none⟩) n c, .int .u64 (r : Int)] w fun e w' => e = .returned (.tuple #[]) ∧ RowU w' g (joinK zs o h r h) ∧ Bar g w w' := by
  have hq : Int.tdiv (n : Int) 2 = (h : Int) := by rw [Int.tdiv_eq_ediv_of_nonneg (by omega)]; omega
  have hh9 : h ≤ 1024 := by omega
  have hw : IntKind.i64.wrap (h : Int) = (h : Int) := by rw [IntKind.wrap_i64]; omega
  have hn' : Hid (n = 2 * h) := hn
  have hn9 : n ≤ 1024 := by omega
  clear hn
  go_enter Tryd.func160, Tryd.ntmps160
  go_wp2
  go_loopw [5, 13] (fun vp vi wr => ∃ i : Nat, i ≤ h ∧ vi = .int .i64 (i : Int) ∧ vp = .int .u64 ((pwJ r i : Nat) : Int) ∧ RowU wr g (joinK zs o h r i) ∧ Bar g w wr)
    (fun _ vi _ => h - (intOf vi).toNat)
  case atStart => exact ⟨0, Nat.zero_le _, rfl, rfl, hrow, Bar.refl _ _⟩
  case round =>
    clear hrow
    obtain ⟨i, hi, rfl, rfl, hrow, hbar⟩ := hrel
    by_cases hlt : i < h
    · have hlz := joinK_length zs o h r i
      have hnn := hn'.out
      have hcA := hrow.cell (o + i) (by omega)
      have hcB := hrow.cell (o + (i + h)) (by omega)
      have hfA := hrow.frozen (o + i)
      have hr0 := Rng_of_P (joinK_P zs o h r i hz)
      have c1 := field_Mul ((joinK zs o h r i).getD (o + (i + h)) 0) (pwJ r i) (range_getD hr0 _) (pwJ_lt r i)
      have hod : ((fM ((joinK zs o h r i).getD (o + (i + h)) 0) (pwJ r i) : Nat) : Int) < 18446744073709551616 := by have := fM_lt ((joinK zs o h r i).getD (o + (i + h)) 0) (pwJ r i); omega
      have c2 := field_Add ((joinK zs o h r i).getD (o + i) 0) (fM ((joinK zs o h r i).getD (o + (i + h)) 0) (pwJ r i)) (range_getD hr0 _) hod
      have c3 := field_Sub ((joinK zs o h r i).getD (o + i) 0) (fM ((joinK zs o h r i).getD (o + (i + h)) 0) (pwJ r i)) (range_getD hr0 _) hod
      have c4 := field_Mul (pwJ r i) r (pwJ_lt r i) hr
      rw [show fM (pwJ r i) r = pwJ r (i + 1) from rfl] at c4
      have hW1 : Hid (∀ m : Nat, ∀ x : Nat, RowU ((wr.drewN m).setCell ⟨g, o + i, none⟩ (.int .u64 (x : Int))) g ((joinK zs o h r i).set (o + i) x)) := fun m x => (hrow.drewN m).set _ _
      have hc2 : ∀ m : Nat, ∀ x : Nat, ((wr.drewN m).setCell ⟨g, o + i, none⟩ (.int .u64 (x : Int))).cell? ⟨g, o + (i + h), none⟩ = some (.int .u64 ((((joinK zs o h r i).set (o + i) x).getD (o + (i + h)) 0 : Nat) : Int)) := fun m x => (hW1.out m x).cell _ (by rw [List.length_set]; omega)
      have hf2 : ∀ m : Nat, ∀ x : Nat, ((wr.drewN m).setCell ⟨g, o + i, none⟩ (.int .u64 (x : Int))).frozen? ⟨g, o + (i + h), none⟩ = false := fun m x => (hW1.out m x).frozen _
      have hfin : Hid (∀ m : Nat, RowU (((wr.drewN m).setCell ⟨g, o + i, none⟩ (.int .u64 ((fA ((joinK zs o h r i).getD (o + i) 0) (fM ((joinK zs o h r i).getD (o + (i + h)) 0) (pwJ r i)) : Nat) : Int))).setCell ⟨g, o + (i + h), none⟩ (.int .u64 ((fS ((joinK zs o h r i).getD (o + i) 0) (fM ((joinK zs o h r i).getD (o + (i + h)) 0) (pwJ r i)) : Nat) : Int))) g (joinK zs o h r (i + 1))) := fun m => (hW1.out m _).set _ _
      have hin : i < n := by omega
      have hwr : IntKind.i64.wrap ((i : Int) + (h : Int)) = ((i + h : Nat) : Int) := by rw [IntKind.wrap_i64]; omega
      have hihn : i + h < n := by omega
      clear hlz hr0 hod hnn hz hr hW1
      generalize fA ((joinK zs o h r i).getD (o + i) 0) (fM ((joinK zs o h r i).getD (o + (i + h)) 0) (pwJ r i)) = y1 at *
      generalize fS ((joinK zs o h r i).getD (o + i) 0) (fM ((joinK zs o h r i).getD (o + (i + h)) 0) (pwJ r i)) = y2 at *
      generalize fM ((joinK zs o h r i).getD (o + (i + h)) 0) (pwJ r i) = od at *
      generalize (joinK zs o h r i).getD (o + (i + h)) 0 = vb at *
      generalize (joinK zs o h r i).getD (o + i) 0 = va at *
      generalize pwJ r i = p1 at *
      go_wp2
      go_quiet (first | (go_at_call 22; exact Calls.quiet_of_same (c1 _)))
      have k1 := hc2 nq y1
      have k2 := hf2 nq y1
      have k3 := hfin.out nq
      have k4 : Bar g w (wr.drewN nq) := hbar.drewN nq
      have k5 : (wr.drewN nq).cell? ⟨g, o + i, none⟩ = some (.int .u64 (va : Int)) := hcA
      have k6 : (wr.drewN nq).frozen? ⟨g, o + i, none⟩ = false := hfA
      have k7 : Hid (RowU (((wr.drewN nq).setCell ⟨g, o + i, none⟩ (.int .u64 (y1 : Int))).setCell ⟨g, o + (i + h), none⟩ (.int .u64 (y2 : Int))) g (joinK zs o h r (i + 1))) := k3
      clear hc2 hf2 hfin hcA hfA hcB hbar hrow c1 k3
      generalize wr.drewN nq = W at *
      generalize ((joinK zs o h r i).set (o + i) y1).getD (o + (i + h)) 0 = vc at *
      go_wp2_with (first
        | (go_at_call 48; refine Calls.mono (c2 _) ?_; rintro e w' ⟨rfl, hw⟩; rw [hw]; clear hw)
        | (go_at_call 49; refine Calls.mono (c3 _) ?_; rintro e w' ⟨rfl, hw⟩; rw [hw]; clear hw)
        | (go_at_call 22; refine Calls.mono (c4 _) ?_; rintro e w' ⟨rfl, hw⟩; rw [hw]; clear hw))
      go_roundw
      case rel => exact ⟨i + 1, by omega, by go_num, rfl, k7.out, (k4.setCell _ _).setCell _ _⟩
      case measure => simp only [intOf]; omega
    · have e : i = h := by omega
      subst e
      have hge : i ≤ i := Nat.le_refl _
      go_wp2
      go_end0
      exact ⟨rfl, hrow, hbar⟩
theorem Alls_start (w : F) (k : Nat) (f : Nat → F) : Alls w k f 0 (mk (2 ^ k) (fun j => f (rv k j))) := by
  refine ⟨mk_length _ _, mk_lt _ _, fun b t hb ht => ?_⟩
  rw [Nat.sub_zero] at hb
  rw [Nat.pow_zero] at ht
  obtain rfl : t = 0 := by omega
  rw [Dk_zero, Nat.pow_zero, Nat.mul_one, Nat.add_zero, cf_mk, if_pos hb]
theorem list_of_cf (zs : List Nat) (n : Nat) (f : Nat → F) (hl : zs.length = n) (hz : ∀ x ∈ zs, x < P) (h : ∀ i, i < n → cf zs i = f i) : zs = mk n f := by
  apply List.ext_getElem
  · rw [hl, mk_length]
  · intro i h1 h2
    have h3 := h i (by omega)
    have h4 : cf zs i = toF zs[i] := by unfold cf; simp [List.getD, h1]
    have h5 : (mk n f)[i] = (f i).val := by simp [mk]
    rw [h5, ← h3, h4, ← fN_val, fN_eq, Nat.mod_eq_of_lt (hz _ (List.getElem_mem h1))]
theorem alls_fin {w : F} {k : Nat} {f : Nat → F} {zs : List Nat} (h : Alls w k f k zs) : zs = mk (2 ^ k) (dft w (2 ^ k) f) := by
  refine list_of_cf zs _ _ h.len h.low fun i hi => ?_
  have := h.all 0 i (by rw [Nat.sub_self]; decide) hi
  rw [Nat.zero_mul, Nat.zero_add] at this
  rw [this, Dk_end]
set_option maxHeartbeats 4000000 in
theorem ntt_transform (w : World) (v : Value) (xs : List Nat) (k r : Nat) (h : IsU w v xs) (hl : xs.length = 2 ^ k) (hk : k ≤ 10) (hr : (r : Int) < 18446744073709551616) (hord : Ord (toF r) k) :
    Calls Tryd.prog 140 #[v, .int .i64 (k : Int), .int .u64 (r : Int)] w fun e w' => ∃ g, e = .returned (.slice (some ⟨g, 0, none⟩) (2 ^ k) (2 ^ k)) ∧ w.heap.size ≤ g ∧ RowU w' g (mk (2 ^ k) (dft (toF r) (2 ^ k) (cf xs))) ∧ Below w.heap.size w w' := by
  have hA := h
  obtain ⟨a, cap, rfl, hcap, hmax, hc, hrx⟩ := h
  clear hcap hmax
  have hN9 := (two_pow_bound k hk).2
  have cT := fun W => ntt_turned W k hk
  obtain ⟨N, hN⟩ : ∃ N, N = 2 ^ k := ⟨_, rfl⟩
  have hlx : xs.length = N := by omega
  rw [hl]
  rw [hl] at hA
  rw [← hN] at hN9 cT hA ⊢
  have hN' : Hid (N = 2 ^ k) := hN
  have hlx' : Hid (xs.length = N) := hlx
  have hrv : Hid (∀ i, i < N → (ord k).getD i 0 = rv k i ∧ rv k i < N) := fun i hi => ⟨ord_get k i (hN ▸ hi), hN ▸ rv_lt k i⟩
  have hol : (ord k).length = N := by rw [ord_length, hN]
  have hol' : Hid ((ord k).length = N) := hol
  have hn9 : N ≤ 1000000000 := by omega
  clear hN hlx hl hol
  go_enter Tryd.func140, Tryd.ntmps140
  go_wp2_with (first
    | (at_make; refine wp_makeG rfl _ _ rfl N rfl rfl hn9 ?_; intro g w2 hg hrow hb)
    | (go_at_call 159; refine Calls.mono (cT _) ?_; rintro e w3 ⟨g2, rfl, hg2, hrow2, hb2⟩))
  have hgw : w.heap.size ≤ g := Nat.le_of_eq hg.out.symm
  have hgg : g ≠ g2 := by have := hrow.lt; omega
  have hrow3 := hrow.below hb2
  have hB3 : Below w.heap.size w w3 := hb.trans (hb2.mono hb.size)
  have hA3 := hA.apart hgw
  clear hg hb hrow hb2 hg2 cT
  go_loopw [20] (fun vi wr => ∃ i : Nat, i ≤ N ∧ vi = .int .i64 (i : Int) ∧ RowU wr g (SL N i (fun j => cf xs (rv k j))) ∧ Bar g w3 wr)
    (fun vi _ => N - (intOf vi).toNat)
  case atStart => exact ⟨0, Nat.zero_le _, rfl, hrow3.cast (SL_zero _ _).symm, Bar.refl _ _⟩
  case round =>
    clear hrow3
    obtain ⟨i, hi, rfl, hrow, hbar⟩ := hrel
    by_cases hlt : i < N
    · obtain ⟨hget, hrl⟩ := hrv.out i hlt
      obtain ⟨b, off, rfl, _⟩ := hc (rv k i) (by rw [hlx'.out]; exact hrl)
      have hcI := (hrow2.bar (Ne.symm hgg) hbar).cell i (by rw [hol'.out]; exact hlt)
      rw [hget] at hcI
      have hcA := ((hA.below hB3).bar hA3 hbar).cell (rv k i) (by rw [hlx'.out]; exact hrl)
      have hcS := hrow.cell i (by rw [SL_length _ hi]; exact hlt)
      have hfr := hrow.frozen i
      have hset := hrow.set i (cf xs (rv k i)).val
      rw [SL_set (fun j => cf xs (rv k j)) hlt] at hset
      have c2 := field_Norm (xs.getD (rv k i) 0) (range_getD hrx _)
      rw [fN_val, show toF (xs.getD (rv k i) 0) = cf xs (rv k i) from rfl] at c2
      have hB2 := fun (u : Value) => hbar.setCell i u
      clear hc hrx hrow hbar hA hA3 hB3 hget hord hr hrow2 hrv
      generalize (SL N i (fun j => cf xs (rv k j))).getD i 0 = old at *
      generalize (cf xs (rv k i)).val = z at *
      generalize xs.getD (rv k i) 0 = y at *
      generalize rv k i = q at *
      go_wp2_with (go_at_call 21; refine Calls.mono (c2 _) ?_; rintro e w' ⟨rfl, hw⟩; rw [hw]; clear hw)
      go_roundw
      case rel => exact ⟨i + 1, by omega, by go_num, hset, hB2 _⟩
      case measure => simp only [intOf]; omega
    · have e : N = i := by omega
      subst e
      rw [SL_full] at hrow
      have hall0 : Alls (toF r) k (cf xs) 0 (mk N (fun j => cf xs (rv k j))) := hN'.out ▸ Alls_start (toF r) k (cf xs)
      have hBw : Below w.heap.size w wr := Bar.fresh hB3 hgw hbar
      have hge : N ≤ N := Nat.le_refl _
      clear hc hrx hA hA3 hrv hrow2 hB3 hbar hol' hi hlt
      generalize mk N (fun j => cf xs (rv k j)) = z0 at *
      obtain ⟨w4, hw4⟩ : ∃ w4 : World, w4 = wr := ⟨_, rfl⟩
      rw [← hw4] at hrow hBw ⊢
      clear hw4
      have hN := hN'.out
      have hNn := hN'
      clear hN'
      go_wp2
      go_loopw [10] (fun vi wr => ∃ (t s : Nat) (zs : List Nat), t = s + 1 ∧ s ≤ k ∧ vi = .int .i64 (t : Int) ∧ RowU wr g zs ∧ Hid (Alls (toF r) k (cf xs) s zs) ∧ Below w.heap.size w wr)
        (fun vi _ => k + 1 - (intOf vi).toNat)
      case atStart => exact ⟨1, 0, z0, rfl, Nat.zero_le _, rfl, hrow, hall0, hBw⟩
      case round =>
        clear hrow hBw hall0
        obtain ⟨t, s, zs, hts, hs, rfl, hrow, hall, hBw⟩ := hrel
        by_cases hle : t ≤ k
        · obtain ⟨m, hm⟩ : ∃ m, m = k - t := ⟨_, rfl⟩
          have hsub : (k : Int) - (t : Int) = (m : Int) := by omega
          obtain ⟨hp1, hs9⟩ := two_pow_bound t (by omega)
          obtain ⟨hp2, hq9⟩ := two_pow_bound m (by omega)
          have e1 : 2 ^ t = 2 * 2 ^ s := by rw [hts, Nat.pow_succ]; omega
          have e2 : N = 2 ^ m * 2 ^ t := by rw [hN, ← Nat.pow_add]; congr 1; omega
          have cP := field_Pow r (2 ^ m) hr (by omega)
          have hpart : Hid (toF (fW r (2 ^ m)) = pw (toF r) (2 ^ (k - (s + 1)))) := by
            show toF (fW r (2 ^ m)) = pw (toF r) (2 ^ (k - (s + 1)))
            rw [toF_fW, hm, hts]
          have hp64 : ((fW r (2 ^ m) : Nat) : Int) < 18446744073709551616 := by have := fW_lt r (2 ^ m); omega
          have hstep : Hid (∀ (B : Nat) (ys : List Nat), B < 2 ^ m → Halfs (toF r) k (cf xs) s B ys → Halfs (toF r) k (cf xs) s (B + 1) (joinK ys (B * 2 ^ t) (2 ^ s) (fW r (2 ^ m)) (2 ^ s))) := by
            intro B ys hB hy
            have := hy.step hord (by omega) (by rw [← hts, ← hm]; exact hB) hpart.out
            rw [← hts] at this
            exact this
          have hstop : Hid (∀ (ys : List Nat), Halfs (toF r) k (cf xs) s (2 ^ m) ys → Alls (toF r) k (cf xs) t ys) := by
            intro ys hy
            have := hy.stop (by rw [← hts, ← hm])
            rw [← hts] at this
            exact this
          have hlens : Hid (∀ (B : Nat) (ys : List Nat), Halfs (toF r) k (cf xs) s B ys → ys.length = N) := fun B ys hy => hy.len.trans hN.symm
          have e1' : Hid (2 ^ t = 2 * 2 ^ s) := e1
          have e2' : Hid (N = 2 ^ m * 2 ^ t) := e2
          have hstart : Hid (Halfs (toF r) k (cf xs) s 0 zs) := hall.out.start
          have hm' : Hid (m = k - t) := hm
          clear e1 e2 hpart hm hall hN
          generalize fW r (2 ^ m) = p at *
          generalize 2 ^ m = q at *
          generalize 2 ^ t = sz at *
          obtain ⟨w5, hw5⟩ : ∃ w5 : World, w5 = wr := ⟨_, rfl⟩
          rw [← hw5] at hrow hBw ⊢
          clear hw5
          have hts' : Hid (t = s + 1) := hts
          clear hts
          go_wp2_with (go_at_call 31; refine Calls.mono (cP _) ?_; rintro e w' ⟨rfl, hw⟩; rw [hw]; clear hw)
          go_loopw [13] (fun vi wr => ∃ (f B : Nat) (ys : List Nat), f = B * sz ∧ B ≤ q ∧ vi = .int .i64 (f : Int) ∧ RowU wr g ys ∧ Hid (Halfs (toF r) k (cf xs) s B ys) ∧ Below w.heap.size w wr)
            (fun vi _ => N - (intOf vi).toNat)
          case atStart => exact ⟨0, 0, zs, by omega, Nat.zero_le _, rfl, hrow, hstart, hBw⟩
          case round =>
            clear hrow hBw hstart
            obtain ⟨f, B, ys, hf, hB, rfl, hrow, hhalf, hBw⟩ := hrel
            have hly := hlens.out _ _ hhalf.out
            by_cases hlt : B < q
            · have hfit : f + sz ≤ N := by
                have : (B + 1) * sz ≤ q * sz := Nat.mul_le_mul_right _ hlt
                rw [Nat.add_mul, Nat.one_mul, ← hf, ← e2'.out] at this
                exact this
              have hnext : Hid (Halfs (toF r) k (cf xs) s (B + 1) (joinK ys f (2 ^ s) p (2 ^ s))) := by
                have := hstep.out B ys hlt hhalf.out
                rw [← hf] at this
                exact this
              have hpos : 0 < sz := by rw [e1'.out]; have := Nat.pow_pos (n := s) (show 0 < 2 by decide); omega
              have cJ := ntt_join wr g f (2 ^ s) sz (N - f) p ys hrow hhalf.out.low (by rw [hly, ← e1'.out]; exact hfit) (by omega) e1'.out hp64
              have hfs : f + sz - f = sz := by omega
              have hfN : f < N := by omega
              have hf2 : (B + 1) * sz = f + sz := by rw [Nat.add_mul, Nat.one_mul, ← hf]
              have hf2' : Hid ((B + 1) * sz = f + sz) := hf2
              clear hf2 hf hhalf hly hB
              generalize joinK ys f (2 ^ s) p (2 ^ s) = ys2 at *
              go_wp2_with (go_at_call 160; refine Calls.mono cJ ?_; rintro e w6 ⟨rfl, hrow6, hbar6⟩)
              go_roundw
              case rel => exact ⟨f + sz, B + 1, ys2, hf2'.out.symm, by omega, by go_num, hrow6, hnext, Bar.fresh hBw hgw hbar6⟩
              case measure => simp only [intOf]; omega
            · have eB : B = q := by omega
              subst eB
              have hfN : f = N := by rw [hf, ← e2'.out]
              have hall : Hid (Alls (toF r) k (cf xs) t ys) := hstop.out ys hhalf.out
              have hnl : ¬ (f : Int) < (N : Int) := by omega
              clear hfN hf hhalf hly hB
              go_wp2
              go_roundw
              case rel => exact ⟨t + 1, t, ys, rfl, hle, by go_num, hrow, hall, hBw⟩
              case measure => simp only [intOf]; omega
        · have es : s = k := by omega
          subst es
          have hz := alls_fin hall.out
          rw [← hN] at hz
          rw [hz] at hrow
          have hgt : ¬ (t : Int) ≤ (s : Int) := by omega
          have hrow' : Hid (RowU wr g (mk N (dft (toF r) N (cf xs)))) := hrow
          have hBw' : Hid (Below w.heap.size w wr) := hBw
          have hgw' : Hid (w.heap.size ≤ g) := hgw
          clear hz hall hN hts hle hord hr hs hNn hk hrow hBw hgw
          go_wp2
          go_ret
          exact ⟨g, rfl, hgw'.out, hrow'.out, hBw'.out⟩
theorem half_cast (k : Nat) : ((18446744069414584320 / 2 ^ k : Nat) : Int) = 18446744069414584320 / 2 ^ k := by
  rw [Int.natCast_ediv, Int.natCast_pow]; rfl
theorem field_Root_in (k : Nat) (hk : (k : Int) ≤ 32) (w : World) :
    Calls Tryd.prog 29 #[.int .i64 (k : Int)] w fun e w' => e = .returned (.tuple #[.int .u64 ((fW 7 (18446744069414584320 / 2 ^ k) : Nat) : Int), .int .i64 0]) ∧ w' = w := by
  have hle : 18446744069414584320 / 2 ^ k ≤ 18446744069414584320 := Nat.div_le_self _ _
  have c := field_Pow 7 (18446744069414584320 / 2 ^ k) (by omega) (by omega)
  rw [half_cast] at c
  clear hle
  go_enter Tryd.func29, Tryd.ntmps29
  go_wp2_with (go_at_call 31; refine Calls.mono (c _) ?_; rintro e w' ⟨rfl, hw⟩; rw [hw]; clear hw)
  go_ret2
  exact ⟨rfl, rfl⟩
theorem field_Inv_some (a : Nat) (ha : (a : Int) < 18446744073709551616) (h : fN a ≠ 0) (w : World) :
    Calls Tryd.prog 68 #[.int .u64 (a : Int)] w fun e w' => e = .returned (.tuple #[.int .u64 ((fW a 18446744069414584319 : Nat) : Int), .int .i64 0]) ∧ w' = w := by
  have c := field_Norm a ha
  have c2 := field_Pow a 18446744069414584319 ha (by omega)
  have e : ((18446744069414584319 : Nat) : Int) = 18446744069414584319 := rfl
  rw [e] at c2
  clear e
  have h' : (fN a == 0) = false := by simpa using h
  have h'' : ((fN a : Int) == 0) = false := by simpa using h
  go_enter Tryd.func68, Tryd.ntmps68
  go_wp2_with (first | (go_at_call 21; refine Calls.mono (c _) ?_; rintro e w' ⟨rfl, hw⟩; rw [hw]; clear hw) | (go_at_call 31; refine Calls.mono (c2 _) ?_; rintro e w' ⟨rfl, hw⟩; rw [hw]; clear hw))
  go_ret2
  exact ⟨rfl, rfl⟩
end Go.Proofs.YtckoipoejaafhaaDoor
