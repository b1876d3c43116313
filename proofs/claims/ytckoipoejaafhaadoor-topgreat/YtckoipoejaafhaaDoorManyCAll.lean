/-
  Texts that stood one behind the other, as one.
-/
import Derived.Test.YtckoipoejaafhaaDoorRows
import Derived.Test.YtckoipoejaafhaaDoorSlAll
import Derived.Test.YtckoipoejaafhaaDoorSlAll
import Derived.Test.YtckoipoejaafhaaDoorPure
namespace Go.Proofs.YtckoipoejaafhaaDoor
open Go.RowKit
set_option maxRecDepth 100000
theorem P2_and (q : Nat) (h : 0 < q) : P2 q ↔ q &&& (q - 1) = 0 := (Nat.and_sub_one_eq_zero_iff_isPowerOfTwo (by omega)).symm
theorem wraps_63 (n : Int) (h1 : 0 ≤ n) (h2 : n < 2 ^ 63) : IntKind.i64.wrap n = n := by rw [IntKind.wrap_i64]; omega
theorem and_dec (q : Nat) (h0 : 0 < q) (h : (q : Int) ≤ 9223372036854775807) : bits .and .i64 (q : Int) ((q : Int) - 1) = ((q &&& (q - 1) : Nat) : Int) := by
  rw [show (q : Int) - 1 = ((q - 1 : Nat) : Int) by omega]
  exact (bits_nat .i64 63 (by decide) wraps_63 q (q - 1) (by omega) (by omega)).1
set_option maxHeartbeats 4000000 in
theorem many_Check (w : World) (v : Value) (zs : List Int) (h : IsZ w v zs) :
    Calls Tryd.prog 39 #[v] w fun e w' => w' = w ∧ ((∃ ds, Good zs ds ∧ prd2 ds ≤ 1024 ∧ e = .returned (.tuple #[.int .i64 ((prd2 ds : Nat) : Int), .int .i64 0])) ∨ (∃ ds, Good zs ds ∧ 1024 < prd2 ds ∧ e = .returned (.tuple #[.int .i64 0, .int .i64 2])) ∨ ((∀ ds, ¬ Good zs ds) ∧ e = .returned (.tuple #[.int .i64 0, .int .i64 1]))) := by
  obtain ⟨a, cap, rfl, hcap, hmax, hc, hr⟩ := h
  have hlen9 : zs.length ≤ 9223372036854775807 := by unfold maxLen at hmax; omega
  clear hcap hmax
  by_cases hlen : 1 ≤ zs.length ∧ zs.length ≤ 3
  · obtain ⟨hl1, hl3⟩ := hlen
    clear hlen9
    go_enter Tryd.func39, Tryd.ntmps39
    go_wp2
    go_loop [19] (fun vi => ∃ i : Nat, i ≤ zs.length ∧ vi = .int .i64 (i : Int) ∧ Hid (∀ t, t < i → ∃ q : Nat, zs.getD t 0 = (q : Int) ∧ P2 q))
      (fun vi => zs.length - (intOf vi).toNat)
    case atStart => exact ⟨0, Nat.zero_le _, rfl, fun t ht => by omega⟩
    case round =>
      obtain ⟨i, hi, rfl, hP⟩ := hrel
      by_cases hlt : i < zs.length
      · obtain ⟨b, off, rfl, hcell⟩ := hc i hlt
        obtain ⟨hz1, hz2⟩ := rangeZ_getD hr i
        have hno : Hid ((¬ ∃ q : Nat, zs.getD i 0 = (q : Int) ∧ P2 q) → ∀ ds, ¬ Good zs ds) := fun hn ds hG => hn ⟨_, Good_get hG i hlt⟩
        have hnext : Hid ((∃ q : Nat, zs.getD i 0 = (q : Int) ∧ P2 q) → ∀ t, t < i + 1 → ∃ q : Nat, zs.getD t 0 = (q : Int) ∧ P2 q) := fun hy t ht => by
          by_cases e : t = i
          · rw [e]; exact hy
          · exact hP.out t (by omega)
        clear hP hc hr
        generalize zs.getD i 0 = z at *
        by_cases h0 : z < 1
        · have hbad : Hid (∀ ds, ¬ Good zs ds) := hno.out (fun ⟨q, e, hp⟩ => by have := P2_pos hp; omega)
          clear hno hnext
          go_wp2
          go_ret2
          exact ⟨rfl, .inr (.inr ⟨hbad.out, rfl⟩)⟩
        · obtain ⟨q, rfl⟩ : ∃ q : Nat, z = (q : Int) := ⟨z.toNat, by omega⟩
          have hq0 : 0 < q := by omega
          have hand := and_dec q hq0 hz2
          have hiff := P2_and q hq0
          have h1 : (1 : Int) ≤ (q : Int) := by omega
          by_cases hp : P2 q
          · have hnx : Hid (∀ t, t < i + 1 → ∃ q : Nat, zs.getD t 0 = (q : Int) ∧ P2 q) := hnext.out ⟨q, rfl, hp⟩
            rw [hiff.mp hp] at hand
            clear hno hnext hiff hp
            go_wp2
            go_round
            case rel => exact ⟨i + 1, by omega, by go_num, hnx⟩
            case measure => simp only [intOf]; omega
          · have hbad : Hid (∀ ds, ¬ Good zs ds) := hno.out (fun ⟨q', e, hp'⟩ => by
              obtain rfl : q = q' := by omega
              exact hp hp')
            have hne : q &&& (q - 1) ≠ 0 := fun e => hp (hiff.mpr e)
            have hb : ((((q &&& (q - 1) : Nat) : Int)) != 0) = true := by rw [bne_iff_ne]; omega
            clear hno hnext hiff hp hne
            generalize q &&& (q - 1) = m at *
            go_wp2
            go_ret2
            exact ⟨rfl, .inr (.inr ⟨hbad.out, rfl⟩)⟩
      · have e : i = zs.length := by omega
        have hP2 := hP.out
        rw [e] at hP2
        obtain ⟨ds, hG⟩ := Good_all hl1 hl3 hP2
        have hge : zs.length ≤ i := by omega
        have hG' : Hid (Good zs ds) := hG
        have hlen : zs.length = ds.length := by rw [hG.2.2.1, List.length_map]
        have hlen' : Hid (zs.length = ds.length) := hlen
        have hpos : Hid (∀ d ∈ ds, 0 < d) := fun d hd => P2_pos (hG.2.2.2 d hd)
        clear hP hP2 e hG hlen
        go_wp2
        go_loop [6, 35] (fun vn vi => ∃ j : Nat, j ≤ zs.length ∧ vi = .int .i64 (j : Int) ∧ vn = .int .i64 ((prd2 (ds.take j) : Nat) : Int) ∧ prd2 (ds.take j) ≤ 1024)
          (fun _ vi => zs.length - (intOf vi).toNat)
        case atStart => exact ⟨0, Nat.zero_le _, rfl, rfl, by simp [prd2]⟩
        case round =>
          obtain ⟨j, hj, rfl, rfl, hp⟩ := hrel
          by_cases hjl : j < zs.length
          · obtain ⟨b, off, rfl, hcell⟩ := hc j hjl
            rw [(Good_get hG'.out j hjl).1] at hcell
            have hd9 := (rangeZ_getD hr j).2
            rw [(Good_get hG'.out j hjl).1] at hd9
            have hstep := prd2_take ds j (by rw [← hlen'.out]; exact hjl)
            have hle := prd2_take_le hpos.out (j + 1)
            have hp0 : 0 < prd2 (ds.take j) := prd2_pos fun d hd => hpos.out d (List.mem_of_mem_take hd)
            rw [hstep] at hle
            have hstep' : Hid (prd2 (ds.take (j + 1)) = prd2 (ds.take j) * ds.getD j 0) := hstep
            have hle' : Hid (prd2 (ds.take j) * ds.getD j 0 ≤ prd2 ds) := hle
            clear hstep hle hc hr
            generalize prd2 (ds.take j) = p at *
            generalize ds.getD j 0 = d at *
            have hp1 : ¬ (p : Int) = 0 := by omega
            obtain ⟨q, hq⟩ : ∃ q : Nat, q = 1024 / p := ⟨_, rfl⟩
            have hquo : Int.tdiv 1024 (p : Int) = (q : Int) := by rw [Int.tdiv_eq_ediv_of_nonneg (by omega), hq]; rfl
            have hq9 : q ≤ 1024 := by rw [hq]; exact Nat.div_le_self _ _
            have hwq : IntKind.i64.wrap (q : Int) = (q : Int) := wraps_i64 _ (by omega) (by omega)
            have hdq : d ≤ q ↔ p * d ≤ 1024 := by rw [hq, Nat.le_div_iff_mul_le hp0, Nat.mul_comm]
            clear hq
            by_cases hd : d ≤ q
            · obtain ⟨r, hr0⟩ : ∃ r : Nat, r = p * d := ⟨_, rfl⟩
              have hmul : (p : Int) * (d : Int) = (r : Int) := by rw [hr0, Int.natCast_mul]
              have hr9 : r ≤ 1024 := by rw [hr0]; exact hdq.mp hd
              have hr1 : Hid (r = p * d) := hr0
              clear hr0 hdq
              go_wp2
              go_round
              case rel => exact ⟨j + 1, by omega, by go_num, by rw [hstep'.out, ← hr1.out], by rw [hstep'.out, ← hr1.out]; exact hr9⟩
              case measure => simp only [intOf]; omega
            · have hgt : q < d := by omega
              have hbig : Hid (1024 < prd2 ds) := by
                have h1 := hle'.out
                have h2 : ¬ p * d ≤ 1024 := fun h => hd (hdq.mpr h)
                show 1024 < prd2 ds
                omega
              clear hdq
              go_wp2
              go_ret2
              exact ⟨rfl, .inr (.inl ⟨ds, hG'.out, hbig.out, rfl⟩)⟩
          · have e : prd2 (ds.take j) = prd2 ds := by rw [List.take_of_length_le (by rw [← hlen'.out]; omega)]
            rw [e] at hp ⊢
            have hgj : zs.length ≤ j := by omega
            clear e hc hr
            generalize hpd : prd2 ds = pd at *
            have hpd' : Hid (prd2 ds = pd) := hpd
            clear hpd
            go_wp2
            go_ret2
            exact ⟨rfl, .inl ⟨ds, hG'.out, by rw [hpd'.out]; exact hp, by rw [hpd'.out]; rfl⟩⟩
  · have hno : Hid (∀ ds, ¬ Good zs ds) := fun ds hG => hlen ⟨hG.1, hG.2.1⟩
    clear hc hr
    by_cases h1 : zs.length < 1
    · clear hlen hlen9
      go_enter Tryd.func39, Tryd.ntmps39
      go_wp2
      go_ret2
      exact ⟨rfl, .inr (.inr ⟨hno.out, rfl⟩)⟩
    · have h3 : 3 < zs.length := by omega
      clear hlen
      go_enter Tryd.func39, Tryd.ntmps39
      go_wp2
      go_ret2
      exact ⟨rfl, .inr (.inr ⟨hno.out, rfl⟩)⟩
theorem many_Check_okW (w : World) (v : Value) (zs : List Int) (ds : List Nat) (h : IsZ w v zs) (hG : Good zs ds) (hn : prd2 ds ≤ 1024) :
    Calls Tryd.prog 39 #[v] w fun e w' => e = .returned (.tuple #[.int .i64 ((prd2 ds : Nat) : Int), .int .i64 0]) ∧ w' = w := by
  refine (many_Check w v zs h).mono ?_
  rintro e w' ⟨rfl, ⟨ds', hG', _, rfl⟩ | ⟨ds', hG', hb, _⟩ | ⟨hno, _⟩⟩
  · rw [Good_unique hG hG']; exact ⟨rfl, rfl⟩
  · rw [Good_unique hG hG'] at hb; omega
  · exact absurd hG (hno ds)
theorem many_hasAxis (w : World) (a : Option Addr) (n cap : Nat) (x : Int) :
    Calls Tryd.prog 128 #[.slice a n cap, .int .i64 x] w fun e w' => e = .returned (.bool (decide (0 ≤ x ∧ x < (n : Int)))) ∧ w' = w := by
  by_cases h0 : 0 ≤ x
  · by_cases h1 : x < (n : Int)
    · have e : decide (0 ≤ x ∧ x < (n : Int)) = true := decide_eq_true ⟨h0, h1⟩
      rw [e]
      clear e
      go_enter Tryd.func128, Tryd.ntmps128
      go_wp2
      go_ret
      exact ⟨rfl, rfl⟩
    · have e : decide (0 ≤ x ∧ x < (n : Int)) = false := decide_eq_false (fun h => h1 h.2)
      have h2 : decide (x < (n : Int)) = false := decide_eq_false h1
      rw [e]
      clear e h1
      go_enter Tryd.func128, Tryd.ntmps128
      go_wp2
      go_ret
      exact ⟨rfl, rfl⟩
  · have e : decide (0 ≤ x ∧ x < (n : Int)) = false := decide_eq_false (fun h => h0 h.1)
    have h2 : x < 0 := by omega
    rw [e]
    clear e h0
    go_enter Tryd.func128, Tryd.ntmps128
    go_wp2
    go_ret
    exact ⟨rfl, rfl⟩
end Go.Proofs.YtckoipoejaafhaaDoor

namespace Go.Proofs.YtckoipoejaafhaaDoor
def axW (back : Bool) (d : Nat) : F := if back then inv (toF (rt (Nat.log2 d))) else toF (rt (Nat.log2 d))
def axC (back : Bool) (d : Nat) : F := if back then inv (toF d) else 1
def sz (ds : List Nat) (x : Nat) : Nat := ds.getD x 0
def beh (ds : List Nat) (x : Nat) : Nat := prd2 (ds.drop x)
def alo (ds : List Nat) (x : Nat) (back : Bool) (f : Nat → F) : Nat → F := ax (axC back (sz ds x)) (axW back (sz ds x)) (beh ds (x + 1)) (sz ds x) f
def who (ds : List Nat) (back : Bool) (f : Nat → F) (x : Nat) : Nat → F := whK (fun y => axC back (sz ds y)) (fun y => axW back (sz ds y)) (sz ds) (beh ds) f x
theorem who_zero (ds : List Nat) (back : Bool) (f : Nat → F) : who ds back f 0 = f := rfl
theorem who_succ (ds : List Nat) (back : Bool) (f : Nat → F) (x : Nat) : who ds back f (x + 1) = alo ds x back (who ds back f x) := rfl
def Shp (ds : List Nat) : Prop := ∀ d ∈ ds, P2 d
theorem Shp.at {ds : List Nat} (h : Shp ds) (x : Nat) (hx : x < ds.length) : P2 (sz ds x) := by
  unfold sz
  have e : ds.getD x 0 = ds[x] := by simp [List.getD, hx]
  rw [e]
  exact h _ (List.getElem_mem hx)
theorem Shp.pos {ds : List Nat} (h : Shp ds) : ∀ d ∈ ds, 0 < d := fun d hd => P2_pos (h d hd)
theorem beh_step (ds : List Nat) (x : Nat) (hx : x < ds.length) : beh ds x = beh ds (x + 1) * sz ds x := by
  unfold beh sz
  rw [List.drop_eq_getElem_cons hx, prd2, Nat.mul_comm]
  congr 1
  simp [List.getD, hx]
theorem beh_pos {ds : List Nat} (h : Shp ds) (x : Nat) : 0 < beh ds x := prd2_pos fun d hd => h.pos d (List.mem_of_mem_drop hd)
theorem beh_zero (ds : List Nat) : beh ds 0 = prd2 ds := rfl
theorem beh_end (ds : List Nat) : beh ds ds.length = 1 := by unfold beh; rw [List.drop_length]; rfl
theorem sizN_take (ds : List Nat) (x : Nat) (hx : x ≤ ds.length) : sizN (sz ds) x = prd2 (ds.take x) := by
  induction x with
  | zero => rfl
  | succ x ih => rw [sizN, ih (by omega), prd2_take ds x (by omega)]; rfl
theorem sizN_all (ds : List Nat) : sizN (sz ds) ds.length = prd2 ds := by rw [sizN_take ds _ (Nat.le_refl _), List.take_length]
theorem ordW {d : Nat} (h : P2 d) (hd : d ≤ 1024) : ∃ k, d = 2 ^ k ∧ k ≤ 10 ∧ Nat.log2 d = k := by
  obtain ⟨k, rfl⟩ := h
  refine ⟨k, rfl, ?_, Nat.log2_two_pow⟩
  rcases Nat.lt_or_ge 10 k with h1 | h1
  · have : 2 ^ 11 ≤ 2 ^ k := Nat.pow_le_pow_right (by decide) h1
    have e : (2 : Nat) ^ 11 = 2048 := by decide
    omega
  · exact h1
theorem sz_le {ds : List Nat} (h : Shp ds) (hn : prd2 ds ≤ 1024) (x : Nat) (hx : x < ds.length) : sz ds x ≤ 1024 := by
  have h1 := prd2_take ds x hx
  have h2 := prd2_take_le h.pos (x + 1)
  have h3 : 0 < prd2 (ds.take x) := prd2_pos fun d hd => h.pos d (List.mem_of_mem_take hd)
  have h4 : ds.getD x 0 ≤ prd2 (ds.take x) * ds.getD x 0 := Nat.le_mul_of_pos_left _ h3
  unfold sz; omega
theorem axW_ord {ds : List Nat} (h : Shp ds) (hn : prd2 ds ≤ 1024) (x : Nat) (hx : x < ds.length) : ∃ k, sz ds x = 2 ^ k ∧ k ≤ 10 ∧ Ord (axW false (sz ds x)) k ∧ Ord (axW true (sz ds x)) k ∧ axW false (sz ds x) * axW true (sz ds x) = 1 := by
  obtain ⟨k, hk, hk10, hl⟩ := ordW (h.at x hx) (sz_le h hn x hx)
  refine ⟨k, hk, hk10, ?_, ?_, ?_⟩
  · unfold axW; rw [hl]; exact ord_rt k (by omega)
  · unfold axW; rw [hl]; exact (ord_rt k (by omega)).inv (rt_inv k (by omega))
  · unfold axW; rw [hl]; exact rt_inv k (by omega)
theorem who_chi {ds : List Nat} (h : Shp ds) (back : Bool) (f : Nat → F) (p : Nat) (hp : p < prd2 ds) :
    who ds back f ds.length p = cfs (fun y => axC back (sz ds y)) ds.length * S (prd2 ds) (fun q => f q * chi (fun y => axW back (sz ds y)) (sz ds) ds.length q p) := by
  unfold who
  rw [whK_chi _ _ _ _ f ds.length (fun y hy => beh_step ds y hy) (fun y _ => beh_pos h y) (fun y hy => P2_pos (h.at y hy)), sizN_all, beh_zero, beh_end]
  congr 1
  refine S_congr fun q _ => ?_
  rw [Nat.div_eq_of_lt hp, Nat.zero_mul, Nat.zero_add, Nat.mul_one, Nat.mod_one, Nat.add_zero, Nat.div_one]
theorem cfs_false (ds : List Nat) (x : Nat) : cfs (fun y => axC false (sz ds y)) x = 1 := by
  induction x with
  | zero => rfl
  | succ x ih => rw [cfs, ih]; unfold axC; grind
theorem prd2_at (ds : List Nat) (x : Nat) (hx : x < ds.length) : prd2 ds = beh ds (x + 1) * sz ds x * prd2 (ds.take x) := by
  rw [← beh_step ds x hx, prd2_split ds x, Nat.mul_comm]; rfl
theorem alo_congr {ds : List Nat} (h : Shp ds) (x : Nat) (hx : x < ds.length) (b : Bool) {f g : Nat → F} (hfg : ∀ i, i < prd2 ds → f i = g i) (p : Nat) (hp : p < prd2 ds) : alo ds x b f p = alo ds x b g p := by
  have e := prd2_at ds x hx
  exact ax_congr (beh_pos h _) (m := prd2 (ds.take x)) (fun i hi => hfg i (by rw [e]; exact hi)) p (by rw [← e]; exact hp)
def ps (u d i k : Nat) : Nat := i / u * (u * d) + i % u + k * u
def lnO (u d p : Nat) : Nat := p / (u * d) * u + p % u
theorem ps_low {u d i k : Nat} (hu : 0 < u) (hk : k < d) : k * u + i % u < u * d := low_lt hk (Nat.mod_lt _ hu)
theorem ps_eq (u d i k : Nat) : ps u d i k = i / u * (u * d) + (k * u + i % u) := by unfold ps; omega
theorem ps_div {u d i k : Nat} (hu : 0 < u) (hk : k < d) : ps u d i k / (u * d) = i / u := by
  rw [ps_eq]; exact div_of (ps_low hu hk)
theorem ps_mod {u d i k : Nat} (hu : 0 < u) : ps u d i k % u = i % u := by
  unfold ps
  have e : i / u * (u * d) + i % u + k * u = (i / u * d + k) * u + i % u := by grind
  rw [e]; exact mod_of (Nat.mod_lt _ hu)
theorem ps_dg {u d i k : Nat} (hu : 0 < u) (hk : k < d) : dg u d (ps u d i k) = k := by
  unfold dg ps
  have e : i / u * (u * d) + i % u + k * u = (i / u * d + k) * u + i % u := by grind
  rw [e, div_of (Nat.mod_lt _ hu)]
  exact mod_of hk
theorem ps_ln {u d i k : Nat} (hu : 0 < u) (hk : k < d) : lnO u d (ps u d i k) = i := by
  unfold lnO
  rw [ps_div hu hk, ps_mod hu, Nat.mul_comm, Nat.div_add_mod]
theorem ps_st {u d i k : Nat} (hu : 0 < u) (hk : k < d) (s : Nat) : st u d (ps u d i k) s = ps u d i s := by
  unfold st
  rw [ps_div hu hk, ps_mod hu]
  unfold ps; omega
theorem ps_of {u d : Nat} (hu : 0 < u) (p : Nat) : ps u d (lnO u d p) (dg u d p) = p := by
  have h1 : lnO u d p / u = p / (u * d) := div_of (Nat.mod_lt _ hu)
  have h2 : lnO u d p % u = p % u := mod_of (Nat.mod_lt _ hu)
  unfold ps
  rw [h1, h2]
  have := st_self u d p
  unfold st at this
  omega
theorem ps_lt {u d m i k : Nat} (hu : 0 < u) (hi : i < u * m) (hk : k < d) : ps u d i k < u * d * m := by
  rw [ps_eq]
  have h1 : i / u < m := Nat.div_lt_of_lt_mul hi
  have h2 : (i / u + 1) * (u * d) ≤ m * (u * d) := Nat.mul_le_mul_right _ h1
  have h3 := ps_low (i := i) hu hk
  rw [Nat.add_mul, Nat.one_mul, Nat.mul_comm m] at h2
  omega
theorem ln_lt {u d m p : Nat} (hu : 0 < u) (hp : p < u * d * m) : lnO u d p < u * m := by
  unfold lnO
  have h1 : p / (u * d) < m := Nat.div_lt_of_lt_mul hp
  have h2 : (p / (u * d) + 1) * u ≤ m * u := Nat.mul_le_mul_right _ h1
  have h3 := Nat.mod_lt p hu
  rw [Nat.add_mul, Nat.one_mul, Nat.mul_comm m] at h2
  omega
def cnL (u d k : Nat) : Nat := k / (u * d) * u + min (k % (u * d)) u
theorem cnL_step {u d : Nat} (hu : 0 < u) (hd : 0 < d) (k : Nat) : (dg u d k = 0 → cnL u d (k + 1) = cnL u d k + 1 ∧ ps u d (cnL u d k) 0 = k) ∧ (dg u d k ≠ 0 → cnL u d (k + 1) = cnL u d k) := by
  have hD : 0 < u * d := Nat.mul_pos hu hd
  have hle : u ≤ u * d := Nat.le_mul_of_pos_right _ hd
  obtain ⟨q, r, hr, rfl⟩ : ∃ q r, r < u * d ∧ k = q * (u * d) + r := ⟨k / (u * d), k % (u * d), Nat.mod_lt _ hD, by rw [Nat.mul_comm, Nat.div_add_mod]⟩
  have hdg : dg u d (q * (u * d) + r) = r / u := by
    unfold dg
    have e : q * (u * d) + r = u * (d * q) + r := by grind
    rw [e, Nat.mul_add_div hu, Nat.mul_add_mod, Nat.mod_eq_of_lt (Nat.div_lt_of_lt_mul hr)]
  have hc : cnL u d (q * (u * d) + r) = q * u + min r u := by
    unfold cnL; rw [div_of hr, mod_of hr]
  have hc1 : cnL u d (q * (u * d) + r + 1) = if r + 1 < u * d then q * u + min (r + 1) u else (q + 1) * u := by
    unfold cnL
    by_cases h : r + 1 < u * d
    · rw [if_pos h, Nat.add_assoc, div_of h, mod_of h]
    · have e : q * (u * d) + r + 1 = (q + 1) * (u * d) + 0 := by rw [Nat.add_mul, Nat.one_mul]; omega
      rw [if_neg h, e, div_of hD, mod_of hD, Nat.zero_min, Nat.add_zero]
  rw [hdg, hc1, hc]
  refine ⟨fun h0 => ?_, fun h0 => ?_⟩
  · have hru : r < u := by
      rcases Nat.lt_or_ge r u with h | h
      · exact h
      · have := Nat.div_pos h hu; omega
    rw [show min r u = r from Nat.min_eq_left (by omega)]
    refine ⟨?_, ?_⟩
    · by_cases h : r + 1 < u * d
      · rw [if_pos h, Nat.min_eq_left (by omega)]; omega
      · rw [if_neg h, Nat.add_mul, Nat.one_mul]; omega
    · unfold ps
      rw [div_of hru, mod_of hru]; omega
  · have hru : u ≤ r := by
      rcases Nat.lt_or_ge r u with h | h
      · rw [Nat.div_eq_of_lt h] at h0; omega
      · exact h
    rw [Nat.min_eq_right hru]
    by_cases h : r + 1 < u * d
    · rw [if_pos h, Nat.min_eq_right (by omega)]
    · rw [if_neg h, Nat.add_mul, Nat.one_mul]
theorem lns_eqK {ds : List Nat} (h : Shp ds) (x : Nat) (hx : x < ds.length) (k : Nat) : lns ds x k = (List.range (cnL (beh ds (x + 1)) (sz ds x) k)).map fun i => lin ds x (ps (beh ds (x + 1)) (sz ds x) i 0) (sz ds x) := by
  have hu := beh_pos h (x + 1)
  have hd := P2_pos (h.at x hx)
  induction k with
  | zero => simp [lns, cnL]
  | succ k ih =>
    have hst := cnL_step hu hd k
    rw [lns]
    by_cases h0 : plc ds k x = 0
    · rw [if_pos h0, (hst.1 h0).1, List.range_succ, List.map_append, ih]
      congr 1
      show [lin ds x k (ds.getD x 0)] = [lin ds x (ps (beh ds (x + 1)) (sz ds x) (cnL (beh ds (x + 1)) (sz ds x) k) 0) (sz ds x)]
      rw [(hst.1 h0).2]; rfl
    · rw [if_neg h0, hst.2 h0, ih]
theorem cnL_end {u d : Nat} (hu : 0 < u) (hd : 0 < d) (m : Nat) : cnL u d (u * d * m) = u * m := by
  unfold cnL
  have hD : 0 < u * d := Nat.mul_pos hu hd
  rw [Nat.mul_div_cancel_left _ hD, Nat.mul_mod_right, Nat.zero_min, Nat.add_zero, Nat.mul_comm]
def nln (ds : List Nat) (x : Nat) : Nat := beh ds (x + 1) * prd2 (ds.take x)
theorem lns_eq {ds : List Nat} (h : Shp ds) (x : Nat) (hx : x < ds.length) : lns ds x (prd2 ds) = (List.range (nln ds x)).map fun i => lin ds x (ps (beh ds (x + 1)) (sz ds x) i 0) (sz ds x) := by
  rw [lns_eqK h x hx, prd2_at ds x hx, cnL_end (beh_pos h _) (P2_pos (h.at x hx))]; rfl
theorem nln_div {ds : List Nat} (h : Shp ds) (x : Nat) (hx : x < ds.length) : prd2 ds / sz ds x = nln ds x := by
  have hd := P2_pos (h.at x hx)
  rw [prd2_at ds x hx]
  unfold nln
  rw [show beh ds (x + 1) * sz ds x * prd2 (ds.take x) = sz ds x * (beh ds (x + 1) * prd2 (ds.take x)) by grind, Nat.mul_div_cancel_left _ hd]
theorem lin_ps (ds : List Nat) (x i t : Nat) (ht : t < sz ds x) : (lin ds x (ps (beh ds (x + 1)) (sz ds x) i 0) (sz ds x)).getD t 0 = ps (beh ds (x + 1)) (sz ds x) i t := by
  simp only [lin, List.getD, List.getElem?_map, List.getElem?_range ht, Option.map_some, Option.getD_some]
  unfold ps
  rw [Nat.zero_mul, Nat.add_zero]; rfl
def tb (n : Nat) (g : Nat → Nat) : List Nat := (List.range n).map g
theorem tb_length (n : Nat) (g : Nat → Nat) : (tb n g).length = n := by simp [tb]
theorem tb_get (n : Nat) (g : Nat → Nat) (i : Nat) (h : i < n) : (tb n g).getD i 0 = g i := by simp [tb, List.getD, h]
theorem tb_congr {n : Nat} {g h : Nat → Nat} (e : ∀ i, i < n → g i = h i) : tb n g = tb n h := by
  unfold tb
  exact List.map_congr_left fun i hi => e i (List.mem_range.mp hi)
theorem tb_self (xs : List Nat) : tb xs.length (fun p => xs.getD p 0) = xs := by
  apply List.ext_getElem
  · exact tb_length _ _
  · intro i h1 h2
    simp [tb, List.getD, h2]
theorem tb_set (n : Nat) (g : Nat → Nat) (j v : Nat) : (tb n g).set j v = tb n (fun p => if p = j then v else g p) := by
  apply List.ext_getElem
  · rw [List.length_set, tb_length, tb_length]
  · intro i h1 h2
    rw [List.getElem_set]
    rw [tb_length] at h2
    by_cases e : j = i
    · rw [if_pos e]; simp [tb, e]
    · rw [if_neg e]; simp [tb, Ne.symm e]
def trK (ds : List Nat) (xs : List Nat) (x f : Nat) (back : Bool) (i k : Nat) : List Nat :=
  tb (prd2 ds) fun p => if f ≤ lnO (beh ds (x + 1)) (sz ds x) p ∧ (lnO (beh ds (x + 1)) (sz ds x) p < i ∨ (lnO (beh ds (x + 1)) (sz ds x) p = i ∧ dg (beh ds (x + 1)) (sz ds x) p < k)) then (alo ds x back (cf xs) p).val else xs.getD p 0
def trn (ds : List Nat) (xs : List Nat) (x f l : Nat) (back : Bool) : List Nat := trK ds xs x f back l 0
theorem trK_length (ds xs : List Nat) (x f : Nat) (back : Bool) (i k : Nat) : (trK ds xs x f back i k).length = prd2 ds := tb_length _ _
theorem trK_start {ds xs : List Nat} (hl : xs.length = prd2 ds) (x f : Nat) (back : Bool) : trK ds xs x f back f 0 = xs := by
  have : trK ds xs x f back f 0 = tb xs.length (fun p => xs.getD p 0) := by
    unfold trK
    rw [hl]
    exact tb_congr fun p _ => if_neg (by omega)
  rw [this, tb_self]
theorem trK_line {ds : List Nat} (h : Shp ds) (xs : List Nat) (x : Nat) (hx : x < ds.length) (f : Nat) (back : Bool) (i : Nat) : f ≤ i → trK ds xs x f back i (sz ds x) = trK ds xs x f back (i + 1) 0 := by
  intro _
  unfold trK
  refine tb_congr fun p _ => ?_
  have hd := dg_lt (u := beh ds (x + 1)) (p := p) (P2_pos (h.at x hx))
  congr 1
  simp only [eq_iff_iff]
  omega
theorem trK_set {ds : List Nat} (h : Shp ds) (xs : List Nat) (x : Nat) (f : Nat) (back : Bool) (i k : Nat) (hf : f ≤ i) (hk : k < sz ds x) :
    (trK ds xs x f back i k).set (ps (beh ds (x + 1)) (sz ds x) i k) (alo ds x back (cf xs) (ps (beh ds (x + 1)) (sz ds x) i k)).val = trK ds xs x f back i (k + 1) := by
  have hu := beh_pos h (x + 1)
  unfold trK
  rw [tb_set]
  refine tb_congr fun p _ => ?_
  by_cases e : p = ps (beh ds (x + 1)) (sz ds x) i k
  · rw [if_pos e, e, ps_ln hu hk, ps_dg hu hk, if_pos (by omega)]
  · rw [if_neg e]
    have hne : ¬ (lnO (beh ds (x + 1)) (sz ds x) p = i ∧ dg (beh ds (x + 1)) (sz ds x) p = k) := fun ⟨h1, h2⟩ => by
      apply e
      rw [← ps_of hu p, h1, h2]
    congr 1
    simp only [eq_iff_iff]
    omega
theorem alo_line {ds : List Nat} (h : Shp ds) (xs : List Nat) (x : Nat) (back : Bool) (i k kk : Nat) (hk : k < sz ds x) (hkk : sz ds x = 2 ^ kk) (ys : List Nat) (hy : ∀ t, t < sz ds x → ys.getD t 0 = xs.getD (ps (beh ds (x + 1)) (sz ds x) i t) 0) :
    alo ds x back (cf xs) (ps (beh ds (x + 1)) (sz ds x) i k) = (if back then bw ys kk k else fw ys kk k) := by
  have hu := beh_pos h (x + 1)
  have hlg : Nat.log2 (sz ds x) = kk := by rw [hkk]; exact Nat.log2_two_pow
  unfold alo ax
  have e : dft (axW back (sz ds x)) (sz ds x) (fun s => cf xs (st (beh ds (x + 1)) (sz ds x) (ps (beh ds (x + 1)) (sz ds x) i k) s)) (dg (beh ds (x + 1)) (sz ds x) (ps (beh ds (x + 1)) (sz ds x) i k)) = dft (axW back (sz ds x)) (2 ^ kk) (cf ys) k := by
    rw [ps_dg hu hk, ← hkk]
    refine dft_congr (fun s hs => ?_) k
    rw [ps_st hu hk]
    unfold cf
    rw [hy s hs]
  rw [e]
  cases back
  · show 1 * dft (toF (rt (Nat.log2 (sz ds x)))) (2 ^ kk) (cf ys) k = fw ys kk k
    rw [hlg]; unfold fw; grind
  · show inv (toF (sz ds x)) * dft (inv (toF (rt (Nat.log2 (sz ds x))))) (2 ^ kk) (cf ys) k = bw ys kk k
    rw [hlg, hkk]; rfl
end Go.Proofs.YtckoipoejaafhaaDoor
