/-
  Texts that stood one behind the other, as one.
-/
import Derived.Test.YtmggccepmicjhacGreatDoorShMAll
import Derived.Test.YtmggccepmicjhacGreatDoorRows
import Derived.Test.YtmggccepmicjhacGreatDoorSlAll
import Derived.Maps.OwnOps
import Derived.Maps.OwnSet
import Derived.Test.YtmggccepmicjhacGreatDoorFieldAll
import Derived.Test.YtmggccepmicjhacGreatDoorRowUAll
import Derived.Test.YtmggccepmicjhacGreatDoorPure
import Derived.BigQuiet
import Derived.Deep.RegionWith
/-! Shares in a map: which place has which symbol; the shares in the order of their places; no program in sight. -/
namespace Go.Proofs.YtmggccepmicjhacGreatDoor

/-- The symbol at a place, among the first i shares. -/
def lkS (L : List (Int × Nat)) : Nat → Int → Option Nat
  | 0, _ => none
  | i + 1, z => if z = atS L i then some (syS L i) else lkS L i z
theorem lkS_some {L : List (Int × Nat)} {i : Nat} {z : Int} {s : Nat} (h : lkS L i z = some s) : ∃ j, j < i ∧ atS L j = z ∧ syS L j = s := by
  induction i with
  | zero => cases h
  | succ i ih =>
    unfold lkS at h
    split at h
    · next e => exact ⟨i, by omega, e.symm, by simpa using h⟩
    · obtain ⟨j, hj, r⟩ := ih h
      exact ⟨j, by omega, r⟩
theorem lkS_of {L : List (Int × Nat)} {i : Nat} (h : ShK L i) {j : Nat} (hj : j < i) : lkS L i (atS L j) = some (syS L j) := by
  induction i with
  | zero => omega
  | succ i ih =>
    unfold lkS
    rcases Nat.lt_or_ge j i with r | r
    · rw [if_neg (h.2 i j r (by omega))]
      exact ih ⟨fun p hp => h.1 p (by omega), fun p q hq hp => h.2 p q hq (by omega)⟩ r
    · obtain rfl : j = i := by omega
      rw [if_pos rfl]
theorem lkS_none {L : List (Int × Nat)} {i : Nat} {z : Int} (h : ∀ j, j < i → atS L j ≠ z) : lkS L i z = none := by
  rcases e : lkS L i z with _ | s
  · rfl
  · obtain ⟨j, hj, e1, _⟩ := lkS_some e
    exact absurd e1 (h j hj)
/-- The shares that a table of symbols tells, the first n places, in their order. -/
def shr (f : Int → Option Nat) : Nat → List (Int × Nat)
  | 0 => []
  | n + 1 => match f (n : Int) with
    | some s => shr f n ++ [((n : Int), s)]
    | none => shr f n
theorem shr_some {f : Int → Option Nat} {n s : Nat} (h : f (n : Int) = some s) : shr f (n + 1) = shr f n ++ [((n : Int), s)] := by simp only [shr, h]
theorem shr_none {f : Int → Option Nat} {n : Nat} (h : f (n : Int) = none) : shr f (n + 1) = shr f n := by simp only [shr, h]
theorem shr_length (f : Int → Option Nat) (n : Nat) : (shr f n).length ≤ n := by
  induction n with
  | zero => exact Nat.le_refl _
  | succ n ih =>
    rcases e : f (n : Int) with _ | s
    · rw [shr_none e]; omega
    · rw [shr_some e, List.length_append]; simp; exact ih
theorem mem_shr {f : Int → Option Nat} {n : Nat} {p : Int × Nat} : p ∈ shr f n ↔ ∃ t : Nat, t < n ∧ p.1 = (t : Int) ∧ f (t : Int) = some p.2 := by
  induction n with
  | zero => simp [shr]
  | succ n ih =>
    rcases e : f (n : Int) with _ | s
    · rw [shr_none e, ih]
      constructor
      · rintro ⟨t, ht, r⟩
        exact ⟨t, by omega, r⟩
      · rintro ⟨t, ht, r1, r2⟩
        rcases Nat.lt_or_ge t n with h | h
        · exact ⟨t, h, r1, r2⟩
        · obtain rfl : t = n := by omega
          rw [e] at r2; cases r2
    · rw [shr_some e, List.mem_append, ih]
      constructor
      · rintro (⟨t, ht, r⟩ | h)
        · exact ⟨t, by omega, r⟩
        · simp only [List.mem_singleton] at h
          subst h
          exact ⟨n, by omega, rfl, e⟩
      · rintro ⟨t, ht, r1, r2⟩
        rcases Nat.lt_or_ge t n with h | h
        · exact .inl ⟨t, h, r1, r2⟩
        · obtain rfl : t = n := by omega
          rw [e] at r2
          obtain ⟨a, b⟩ := p
          simp only at r1 r2
          cases r2
          rw [r1]
          exact .inr (by simp)
theorem getS_append_one (L : List (Int × Nat)) (p : Int × Nat) (i : Nat) (h : i < L.length) : (L ++ [p]).getD i (0, 0) = L.getD i (0, 0) := by
  simp only [List.getD, List.getElem?_append_left h]
theorem getS_append_last (L : List (Int × Nat)) (p : Int × Nat) : (L ++ [p]).getD L.length (0, 0) = p := by simp [List.getD]
theorem getS_mem {L : List (Int × Nat)} {i : Nat} (h : i < L.length) : L.getD i (0, 0) ∈ L := by
  rw [List.getD, List.getElem?_eq_getElem h]
  exact List.getElem_mem h
theorem atS_shr_lt (f : Int → Option Nat) (n i : Nat) (h : i < (shr f n).length) : 0 ≤ atS (shr f n) i ∧ atS (shr f n) i < n := by
  obtain ⟨t, ht, e, _⟩ := mem_shr.mp (getS_mem h)
  unfold atS
  omega
theorem shr_inc (f : Int → Option Nat) (n : Nat) : ∀ p q, q < p → p < (shr f n).length → atS (shr f n) q < atS (shr f n) p := by
  induction n with
  | zero => intro p q _ hp; simp [shr] at hp
  | succ n ih =>
    rcases e : f (n : Int) with _ | s
    · rw [shr_none e]; exact ih
    · intro p q hq hp
      rw [shr_some e] at hp ⊢
      rw [List.length_append] at hp
      simp only [List.length_singleton] at hp
      rcases Nat.lt_or_ge p (shr f n).length with h | h
      · have := ih p q hq h
        unfold atS at this ⊢
        rw [getS_append_one _ _ _ h, getS_append_one _ _ _ (by omega)]
        exact this
      · obtain rfl : p = (shr f n).length := by omega
        have := (atS_shr_lt f n q hq).2
        unfold atS at this ⊢
        rw [getS_append_one _ _ _ hq, getS_append_last]
        exact this
theorem shr_ShK (f : Int → Option Nat) : ShK (shr f 64) (shr f 64).length := by
  refine ⟨fun p hp => ?_, fun p q hq hp => ?_⟩
  · have := atS_shr_lt f 64 p hp
    omega
  · have := shr_inc f 64 p q hq hp
    omega
theorem Has.iff {d : List Nat} {L : List (Int × Nat)} : Has d L L.length ↔ ∀ p ∈ L, evF (d.map toF) (pw (toF (rt 6)) p.1.toNat) = toF p.2 := by
  constructor
  · intro h p hp
    obtain ⟨i, hi, rfl⟩ := List.getElem_of_mem hp
    have := h i hi
    unfold plS atS syS at this
    rw [List.getD, List.getElem?_eq_getElem hi] at this
    exact this
  · intro h i hi
    exact h _ (getS_mem hi)
theorem mem_places {L : List (Int × Nat)} (h : ShK L L.length) (p : Int × Nat) : p ∈ shr (lkS L L.length) 64 ↔ p ∈ L := by
  rw [mem_shr]
  constructor
  · rintro ⟨t, _, e1, e2⟩
    obtain ⟨j, hj, e3, e4⟩ := lkS_some e2
    have : p = L.getD j (0, 0) := Prod.ext (e1.trans e3.symm) e4.symm
    rw [this]
    exact getS_mem hj
  · intro hp
    obtain ⟨i, hi, rfl⟩ := List.getElem_of_mem hp
    have e : L[i] = L.getD i (0, 0) := by rw [List.getD, List.getElem?_eq_getElem hi]; rfl
    rw [e]
    have h1 := h.1 i hi
    have h2 := lkS_of h hi
    refine ⟨(atS L i).toNat, by omega, ?_, ?_⟩
    · show atS L i = _
      omega
    · rw [show (((atS L i).toNat : Nat) : Int) = atS L i by omega, h2]; rfl
theorem has_places {L : List (Int × Nat)} (h : ShK L L.length) (d : List Nat) : Has d (shr (lkS L L.length) 64) (shr (lkS L L.length) 64).length ↔ Has d L L.length := by
  rw [Has.iff, Has.iff]
  constructor
  · intro r p hp
    exact r p ((mem_places h p).mpr hp)
  · intro r p hp
    exact r p ((mem_places h p).mp hp)
/-- What goes through all shares is no longer than k just if some data of k numbers has them. -/
theorem fit_len {L l : List _} {k : Nat} (h : ShK L L.length) (hl : Goes l (shr (lkS L L.length) 64).length (cf (xsS (shr (lkS L L.length) 64) (shr (lkS L L.length) 64).length)) (cf (ysS (shr (lkS L L.length) 64) (shr (lkS L L.length) 64).length))) :
    (FitK k L ↔ l.length ≤ k) ∧ (l.length ≤ k → (mk k (cf l)).length = k ∧ Has (mk k (cf l)) L L.length) := by
  have hh := (has_places h l).mp hl.has
  have hm : l.length ≤ k → (mk k (cf l)).length = k ∧ Has (mk k (cf l)) L L.length := fun hk =>
    ⟨mk_length _ _, fun i hi => by rw [ev_mk_cf hk]; exact hh i hi⟩
  refine ⟨⟨?_, fun hk => ⟨_, hm hk⟩⟩, hm⟩
  rintro ⟨d, hd, hr⟩
  rcases Nat.lt_or_ge (shr (lkS L L.length) 64).length k with hlt | hge
  · have := hl.2.1
    omega
  · have hr' := (has_places h d).mpr hr
    have := Has.one (shr_ShK _) (by omega) hl.2.1 hr' hl.has
    rw [hl.1] at this
    rw [← this, pN_length]
    have := sig_le d
    omega

end Go.Proofs.YtmggccepmicjhacGreatDoor

/-! A map from ints to numbers that the call itself made: what is looked up, how many there are, one key more. -/
namespace Go.Proofs.YtmggccepmicjhacGreatDoor
open Go.RowKit Go.Maps

theorem lawIU : Keyed Tryz.prog 3 := int_keyed Tryz.underlying3
theorem zeroU (w : World) : (zeroValue 78).run Tryz.prog w = .ok (.int .u64 0) w := by kernel_rfl
theorem keyIU {z : Int} (hz : (Lit.int .i64 z).wf = true) : keyOf Tryz.prog 3 (.int .i64 z) = some (.int .i64 z) := keyOf_int_mk Tryz.underlying3 hz
theorem keyLitU (z : Int) : WideAt.IsKeyLit (.int .i64 z) := by simp [WideAt.IsKeyLit]

/-- Block b is a map of n keys that has the symbols that f tells. -/
def MapU (w : World) (b : Nat) (f : Int → Option Nat) (n : Nat) : Prop := ∃ (m : Nat) (D : DataW Unit), w.ownsMap Tryz.prog 3 (plainElem Tryz.prog 78) b m D ∧ m ≤ n ∧ size D = n ∧
  ∀ z : Int, has D (.int .i64 z) = (f z).isSome ∧ D.atKey (.int .i64 z) (.lit (.int .u64 0)) = .lit (.int .u64 (((f z).getD 0 : Nat) : Int))
theorem MapU.made (w : World) : MapU (w.alloc (.map #[] 0)) w.heap.size (fun _ => none) 0 :=
  ⟨0, .map [], World.ownsMap_made _ _ _ _, Nat.le_refl _, rfl, fun _ => ⟨rfl, rfl⟩⟩
theorem MapU.lt {w : World} {b n : Nat} {f : Int → Option Nat} (h : MapU w b f n) : b < w.heap.size := by
  obtain ⟨m, D, h, _⟩ := h
  exact h.lt
theorem MapU.block {w w' : World} {b n : Nat} {f : Int → Option Nat} (h : MapU w b f n) (e : w'.heap[b]? = w.heap[b]?) : MapU w' b f n := by
  obtain ⟨m, D, ⟨es, clock, hb, r⟩, r2⟩ := h
  exact ⟨m, D, ⟨es, clock, e.trans hb, r⟩, r2⟩
theorem MapU.below {w w' : World} {b n : Nat} {f : Int → Option Nat} (h : MapU w b f n) (hb : Below w.heap.size w w') : MapU w' b f n := h.block (hb.block b h.lt)
end Go.Proofs.YtmggccepmicjhacGreatDoor

/-! What Mul and Pow of package field answer, for all numbers of 64 bits: the rest by the prime of the product and of the power. -/
namespace Go.Proofs.YtmggccepmicjhacGreatDoor
open Go.RowKit

/-! ### Mul -/
theorem mul_red (x : Nat) : fA (fS (x % 18446744073709551616) (x / 18446744073709551616 / 4294967296)) (x / 18446744073709551616 % 4294967296 * 4294967295) = x % P ∨ 340282366920938463463374607431768211456 ≤ x := by
  by_cases hx : 340282366920938463463374607431768211456 ≤ x
  · exact Or.inr hx
  left
  have e : x = x % 18446744073709551616 + 18446744073709551616 * (x / 18446744073709551616 % 4294967296 + 4294967296 * (x / 18446744073709551616 / 4294967296)) := by omega
  have b1 : x / 18446744073709551616 / 4294967296 < 4294967296 := by omega
  have b0 : x / 18446744073709551616 % 4294967296 < 4294967296 := by omega
  generalize x % 18446744073709551616 = lo at *
  generalize x / 18446744073709551616 % 4294967296 = h0 at *
  generalize x / 18446744073709551616 / 4294967296 = h1 at *
  rw [fA_eq, fS_eq, Nat.mod_add_mod]
  have e1 : h1 % P = h1 := Nat.mod_eq_of_lt (by unfold P; omega)
  rw [e1]
  have e2 : x + P = lo + (P - h1) + h0 * 4294967295 + P * (h0 + h1 * 4294967297) := by
    rw [e]; unfold P; omega
  have e3 : x % P = (x + P) % P := by simp
  rw [e3, e2, Nat.add_mul_mod_self_left]

theorem mul_walk (a b hi lo h1 h0 : Nat) (c : ∀ w, Calls Tryz.prog 84 #[.int .u64 a, .int .u64 b] w fun e w' => e = .returned (.tuple #[.int .u64 (hi : Int), .int .u64 (lo : Int)]) ∧ w' = w)
    (hlo : (lo : Int) < 18446744073709551616) (e1 : (hi : Int) / 4294967296 = (h1 : Int)) (e0 : bits .and .u64 (hi : Int) 4294967295 = (h0 : Int)) (b1 : (h1 : Int) < 4294967296) (b0 : (h0 : Int) < 4294967296) (w : World) :
    Calls Tryz.prog 44 #[.int .u64 (a : Int), .int .u64 (b : Int)] w fun e w' => e = .returned (.int .u64 ((fA (fS lo h1) (h0 * 4294967295) : Nat) : Int)) ∧ w' = w := by
  have bs := fS_lt lo h1
  have cs := field_Sub lo h1 hlo (by omega)
  have ca := field_Add (fS lo h1) (h0 * 4294967295) (by omega) (by omega)
  rw [Int.natCast_mul] at ca
  have e4 : ((4294967295 : Nat) : Int) = 4294967295 := rfl
  rw [e4] at ca
  clear e4
  go_enter Tryz.func44, Tryz.ntmps44
  go_wp2_with (first
    | (go_at_call 84; refine Calls.mono (c _) ?_; rintro e w' ⟨rfl, hw⟩; rw [hw]; clear hw)
    | (go_at_call 43; refine Calls.mono (cs _) ?_; rintro e w' ⟨rfl, hw⟩; rw [hw]; clear hw)
    | (go_at_call 42; refine Calls.mono (ca _) ?_; rintro e w' ⟨rfl, hw⟩; rw [hw]; clear hw))
  go_ret
  exact ⟨rfl, rfl⟩

theorem field_Mul (a b : Nat) (ha : (a : Int) < 18446744073709551616) (hb : (b : Int) < 18446744073709551616) (w : World) :
    Calls Tryz.prog 44 #[.int .u64 (a : Int), .int .u64 (b : Int)] w fun e w' => e = .returned (.int .u64 ((fM a b : Nat) : Int)) ∧ w' = w := by
  have hlt : a * b < 340282366920938463463374607431768211456 := by
    have := Nat.mul_le_mul (show a ≤ 18446744073709551615 by omega) (show b ≤ 18446744073709551615 by omega)
    omega
  have e : fA (fS (a * b % 18446744073709551616) (a * b / 18446744073709551616 / 4294967296)) (a * b / 18446744073709551616 % 4294967296 * 4294967295) = fM a b := by
    rw [fM_eq]
    rcases mul_red (a * b) with h | h
    · exact h
    · omega
  rw [← e]
  refine mul_walk a b _ _ _ _ (bits_Mul64 a b (by omega) (by omega)) (by omega) (high_half _) (low_half _ (by omega)) (by omega) (by omega) w

/-! ### Pow -/
theorem pow_even (r s n : Nat) : r * (fM s s) ^ (n / 2) % P = r * s ^ n % P ∨ n % 2 = 1 := by
  rcases Nat.mod_two_eq_zero_or_one n with h | h
  · left
    have e : n = 2 * (n / 2) := by omega
    rw [fM_eq]
    conv => rhs; rw [e, Nat.pow_mul, Nat.pow_two]
    rw [Nat.mul_mod, ← Nat.pow_mod, ← Nat.mul_mod]
  · exact Or.inr h
theorem pow_odd (r s n : Nat) : (fM r s) * (fM s s) ^ (n / 2) % P = r * s ^ n % P ∨ n % 2 = 0 := by
  rcases Nat.mod_two_eq_zero_or_one n with h | h
  · exact Or.inr h
  · left
    have e : n = 2 * (n / 2) + 1 := by omega
    rw [fM_eq, fM_eq]
    conv => rhs; rw [e, Nat.pow_succ, Nat.pow_mul, Nat.pow_two]
    rw [Nat.mul_mod, ← Nat.pow_mod, Nat.mod_mod, ← Nat.mul_mod, Nat.mul_assoc, Nat.mul_comm s]

set_option maxHeartbeats 1000000 in
theorem field_Pow (a m : Nat) (ha : (a : Int) < 18446744073709551616) (hm : (m : Int) < 18446744073709551616) (w : World) :
    Calls Tryz.prog 45 #[.int .u64 (a : Int), .int .u64 (m : Int)] w fun e w' => e = .returned (.int .u64 ((fW a m : Nat) : Int)) ∧ w' = w := by
  go_enter Tryz.func45, Tryz.ntmps45
  go_wp2
  go_loop [1, 5, 6] (fun vn vr vs => ∃ n r s : Nat, vn = .int .u64 (n : Int) ∧ vr = .int .u64 (r : Int) ∧ vs = .int .u64 (s : Int) ∧ (n : Int) < 18446744073709551616 ∧ (r : Int) < 18446744069414584321 ∧ (s : Int) < 18446744073709551616 ∧ Hid (r * s ^ n % P = fW a m))
    (fun vn _ _ => (intOf vn).toNat)
  case atStart => exact ⟨m, 1, a, rfl, rfl, rfl, hm, by omega, ha, by rw [Nat.one_mul]; exact (fW_eq a m).symm⟩
  case round =>
    obtain ⟨n, r, s, rfl, rfl, rfl, hn, hr, hs, hinv⟩ := hrel
    have b1 := fM_lt r s
    have b2 := fM_lt s s
    rcases Nat.eq_zero_or_pos n with h0 | h0
    · subst h0
      have e : r = fW a m := by
        have := hinv.out
        rw [Nat.pow_zero, Nat.mul_one, Nat.mod_eq_of_lt (by unfold P; omega)] at this
        exact this
      subst e
      go_wp2
      go_ret
      exact ⟨rfl, rfl⟩
    · have hb := and_one_u64 (n : Int) (by omega) (by omega)
      rcases Nat.mod_two_eq_zero_or_one n with h | h
      · have h2 : (n : Int) % 2 = 0 := by omega
        rw [h2] at hb
        have hp := pow_even r s n
        rw [h] at hp
        have hp2 : Hid (r * (fM s s) ^ (n / 2) % P = fW a m) := by
          rcases hp with hp | hp
          · exact hp.trans hinv.out
          · omega
        clear hp h2
        go_wp2_with (go_at_call 44; refine Calls.mono (field_Mul _ _ ?_ ?_ _) ?_; omega; omega; rintro e w' ⟨rfl, hw⟩; rw [hw]; clear hw)
        go_round
        case rel => exact ⟨n / 2, r, fM s s, by go_num, rfl, rfl, by omega, hr, by omega, hp2⟩
        case measure => simp only [intOf]; omega
      · have h2 : (n : Int) % 2 = 1 := by omega
        rw [h2] at hb
        have hp := pow_odd r s n
        rw [h] at hp
        have hp2 : Hid ((fM r s) * (fM s s) ^ (n / 2) % P = fW a m) := by
          rcases hp with hp | hp
          · exact hp.trans hinv.out
          · omega
        clear hp h2
        go_wp2_with (go_at_call 44; refine Calls.mono (field_Mul _ _ ?_ ?_ _) ?_; omega; omega; rintro e w' ⟨rfl, hw⟩; rw [hw]; clear hw)
        go_round
        case rel => exact ⟨n / 2, fM r s, fM s s, by go_num, rfl, rfl, by omega, b1, by omega, hp2⟩
        case measure => simp only [intOf]; omega

end Go.Proofs.YtmggccepmicjhacGreatDoor

/-! What the helpers of package poly answer: a list too large, the normal form, a multiple added, a value. -/
namespace Go.Proofs.YtmggccepmicjhacGreatDoor
open Go.RowKit

set_option maxHeartbeats 2000000 in
theorem poly_valueAt (w : World) (v : Value) (xs : List Nat) (x : Nat) (h : IsU w v xs) (hl : xs.length ≤ 1000000000) (hx : (x : Int) < 18446744073709551616) :
    Calls Tryz.prog 142 #[v, .int .u64 (x : Int)] w fun e w' => e = .returned (.int .u64 ((pE xs x : Nat) : Int)) ∧ ∃ m, w' = w.drewN m := by
  obtain ⟨a, cap, rfl, hcap, hmax, hc, hr⟩ := h
  clear hcap hmax
  go_enter Tryz.func142, Tryz.ntmps142
  go_wp2
  go_loopw [5, 6] (fun vo vi wr => ∃ (z : Int) (j : Nat), j ≤ xs.length ∧ z = (j : Int) - 1 ∧ vi = .int .i64 z ∧ vo = .int .u64 ((hv xs x j : Nat) : Int) ∧ Hid (∃ m, wr = w.drewN m))
    (fun _ vi _ => (intOf vi + 1).toNat)
  case atStart => exact ⟨_, xs.length, Nat.le_refl _, rfl, rfl, by rw [hv_end]; rfl, ⟨0, rfl⟩⟩
  case round =>
    obtain ⟨z, j, hj, hz, rfl, rfl, hq⟩ := hrel
    rcases Nat.eq_zero_or_pos j with hj0 | hj0
    · have e : z = -1 := by omega
      subst e
      subst hj0
      rw [hv_zero]
      clear hc hz
      go_wp2
      go_ret
      exact ⟨rfl, hq.out⟩
    · obtain ⟨i, rfl⟩ : ∃ i, j = i + 1 := ⟨j - 1, by omega⟩
      have e : z = (i : Int) := by omega
      subst e
      have hil : i < xs.length := by omega
      obtain ⟨b, off, rfl, hcell0⟩ := hc i hil
      have hcell : wr.cell? ⟨b, off + i, none⟩ = some (.int .u64 ((xs.getD i 0 : Nat) : Int)) := by obtain ⟨m, rfl⟩ := hq.out; exact hcell0
      clear hcell0
      have x1 := range_getD hr i
      have c1 := field_Mul (hv xs x (i + 1)) x (by have := hv_lt xs x (i + 1); omega) hx
      have c2 := field_Add (fM (hv xs x (i + 1)) x) (xs.getD i 0) (by have := fM_lt (hv xs x (i + 1)) x; omega) x1
      rw [hv_step xs x i hil] at c2
      clear hc hr x1 hx hz hj hj0
      generalize fM (hv xs x (i + 1)) x = p at *
      generalize xs.getD i 0 = y at *
      generalize hv xs x (i + 1) = q at *
      go_wp2
      go_quiet (first | (go_at_call 44; exact Calls.quiet_of_same (c1 _)) | (go_at_call 42; exact Calls.quiet_of_same (c2 _)))
      go_wp2
      go_roundw
      case rel => exact ⟨_, i, by omega, rfl, by go_num, rfl, by obtain ⟨m, rfl⟩ := hq.out; exact ⟨m + _, World.drewN_drewN _ _ _⟩⟩
      case measure => simp only [intOf]; omega

set_option maxHeartbeats 2000000 in
theorem poly_anyLarge (w : World) (g n : Nat) (lens : List Nat) (h : ∀ i, i < n → ∃ a c, w.cell? ⟨g, i, none⟩ = some (.slice a (lens.getD i 0) c)) (hm : ∀ i, i < n → lens.getD i 0 ≤ 2048) (hn9 : n ≤ 2) :
    Calls Tryz.prog 141 #[.slice (some ⟨g, 0, none⟩) n n] w fun e w' => e = .returned (.bool false) ∧ w' = w := by
  go_enter Tryz.func141, Tryz.ntmps141
  go_wp2
  go_loop [7] (fun vi => ∃ k : Nat, k ≤ n ∧ vi = .int .i64 (k : Int)) (fun vi => n - (intOf vi).toNat)
  case atStart => exact ⟨0, Nat.zero_le _, rfl⟩
  case round =>
    obtain ⟨k, hk, rfl⟩ := hrel
    by_cases hlt : k < n
    · obtain ⟨a, c, hcell⟩ := h k hlt
      have hle := hm k hlt
      clear h hm
      generalize lens.getD k 0 = l at *
      go_wp2
      go_round
      case rel => exact ⟨k + 1, by omega, by go_num⟩
      case measure => simp only [intOf]; omega
    · have e : k = n := by omega
      subst e
      clear h hm
      go_wp2
      go_ret
      exact ⟨rfl, rfl⟩
set_option maxHeartbeats 2000000 in
theorem poly_anyLarge_yes (w : World) (g n : Nat) (lens : List Nat) (h : ∀ i, i < n → ∃ a c, w.cell? ⟨g, i, none⟩ = some (.slice a (lens.getD i 0) c)) (hm : ∃ i, i < n ∧ 2048 < lens.getD i 0) (hn9 : n ≤ 2) (hb : ∀ i, lens.getD i 0 ≤ 9223372036854775807) :
    Calls Tryz.prog 141 #[.slice (some ⟨g, 0, none⟩) n n] w fun e w' => e = .returned (.bool true) ∧ w' = w := by
  obtain ⟨i0, hi0, hl0⟩ := hm
  go_enter Tryz.func141, Tryz.ntmps141
  go_wp2
  go_loop [7] (fun vi => ∃ k : Nat, k ≤ i0 ∧ vi = .int .i64 (k : Int)) (fun vi => n - (intOf vi).toNat)
  case atStart => exact ⟨0, Nat.zero_le _, rfl⟩
  case round =>
    obtain ⟨k, hk, rfl⟩ := hrel
    obtain ⟨a, c, hcell⟩ := h k (by omega)
    have hlt : k < n := by omega
    have hbk := hb k
    by_cases hle : lens.getD k 0 ≤ 2048
    · have hne : k ≠ i0 := fun e => by subst e; omega
      clear h hb hl0
      generalize lens.getD k 0 = l at *
      go_wp2
      go_round
      case rel => exact ⟨k + 1, by omega, by go_num⟩
      case measure => simp only [intOf]; omega
    · have hgt : 2048 < lens.getD k 0 := by omega
      clear h hb hl0 hle
      generalize lens.getD k 0 = l at *
      go_wp2
      go_ret
      exact ⟨rfl, rfl⟩

end Go.Proofs.YtmggccepmicjhacGreatDoor
