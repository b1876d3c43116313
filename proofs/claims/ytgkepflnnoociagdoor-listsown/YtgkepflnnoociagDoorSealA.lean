/-
  Places that are chosen of each axis, and the numbers that they make: the corners, and what comes to each place of a shifted array; no program in sight.
-/
import Derived.Test.YtgkepflnnoociagDoorSealX
import Derived.Test.YtgkepflnnoociagDoorManyL
namespace Go.Proofs.YtgkepflnnoociagDoor

/-! ### One axis more -/
def wA (a : List Nat) (d : Nat) (ch : List Nat) : List Nat := a.flatMap fun m => ch.map fun p => m * d + p
def nA (ds : List Nat) (ch : Nat → List Nat) : Nat → List Nat
  | 0 => [0]
  | x + 1 => wA (nA ds ch x) (sz ds x) (ch x)
theorem wA_length (a : List Nat) (d : Nat) (ch : List Nat) : (wA a d ch).length = a.length * ch.length := by
  unfold wA
  induction a with
  | nil => simp
  | cons m a ih => rw [List.flatMap_cons, List.length_append, List.length_map, ih, List.length_cons, Nat.add_mul, Nat.one_mul, Nat.add_comm]
theorem wA_lt {a : List Nat} {d n : Nat} {ch : List Nat} (ha : ∀ m ∈ a, m < n) (hc : ∀ p ∈ ch, p < d) : ∀ z ∈ wA a d ch, z < n * d := fun z h => by
  unfold wA at h
  obtain ⟨m, hm, hz⟩ := List.mem_flatMap.mp h
  obtain ⟨p, hp, rfl⟩ := List.mem_map.mp hz
  have h1 := ha m hm
  have h2 := hc p hp
  have h3 : (m + 1) * d ≤ n * d := Nat.mul_le_mul_right _ h1
  rw [Nat.add_mul, Nat.one_mul] at h3
  omega
/-- Under way: i numbers with all places, and the next one with j of them. -/
def wB (a : List Nat) (d : Nat) (ch : List Nat) (i j : Nat) : List Nat := wA (a.take i) d ch ++ (ch.take j).map fun p => a.getD i 0 * d + p
theorem wB_zero (a : List Nat) (d : Nat) (ch : List Nat) : wB a d ch 0 0 = [] := by simp [wB, wA]
theorem wB_step (a : List Nat) (d : Nat) (ch : List Nat) (i j : Nat) (hj : j < ch.length) : wB a d ch i (j + 1) = wB a d ch i j ++ [a.getD i 0 * d + ch.getD j 0] := by
  unfold wB
  rw [List.take_add_one, List.map_append, List.append_assoc]
  simp [List.getD, hj]
theorem wB_line (a : List Nat) (d : Nat) (ch : List Nat) (i : Nat) (hi : i < a.length) : wB a d ch i ch.length = wB a d ch (i + 1) 0 := by
  unfold wB wA
  rw [List.take_add_one, List.flatMap_append, List.take_length]
  simp [List.getD, hi]
theorem wB_end (a : List Nat) (d : Nat) (ch : List Nat) : wB a d ch a.length 0 = wA a d ch := by simp [wB]
theorem wB_len (a : List Nat) (d : Nat) (ch : List Nat) (i j : Nat) (ha : a.length ≤ 1024) (hc : ch.length ≤ 1024) : (wB a d ch i j).length ≤ 10000000 := by
  unfold wB
  rw [List.length_append, wA_length, List.length_map, List.length_take, List.length_take]
  have h1 : min i a.length * ch.length ≤ 1024 * 1024 := Nat.mul_le_mul (by omega) hc
  omega
theorem nA_len {ds : List Nat} {ch : Nat → List Nat} (h : ∀ y, y < ds.length → (ch y).length ≤ sz ds y) (x : Nat) (hx : x ≤ ds.length) : (nA ds ch x).length ≤ prd2 (ds.take x) := by
  induction x with
  | zero => exact Nat.le_refl _
  | succ x ih =>
    rw [nA, wA_length, prd2_take ds x (by omega)]
    exact Nat.mul_le_mul (ih (by omega)) (h x (by omega))
theorem nA_lt {ds : List Nat} {ch : Nat → List Nat} (h : ∀ y, y < ds.length → ∀ p ∈ ch y, p < sz ds y) (x : Nat) (hx : x ≤ ds.length) : ∀ z ∈ nA ds ch x, z < prd2 (ds.take x) := by
  induction x with
  | zero => intro z hz; rw [nA, List.mem_singleton] at hz; rw [hz]; exact Nat.zero_lt_one
  | succ x ih =>
    rw [nA, prd2_take ds x (by omega)]
    exact wA_lt (ih (by omega)) (h x (by omega))
theorem rng_split (n d : Nat) : List.range (n * d) = (List.range n).flatMap fun m => (List.range d).map fun p => m * d + p := by
  induction n with
  | zero => simp
  | succ n ih =>
    rw [Nat.add_mul, Nat.one_mul, List.range_add, ih, List.range_succ, List.flatMap_append]
    simp
theorem split_div {m d p : Nat} (h : p < d) : (m * d + p) / d = m ∧ (m * d + p) % d = p := by
  have h0 : 0 < d := by omega
  constructor
  · rw [Nat.add_comm, Nat.add_mul_div_right _ _ h0, Nat.div_eq_of_lt h, Nat.zero_add]
  · rw [Nat.add_comm, Nat.add_mul_mod_self_right, Nat.mod_eq_of_lt h]
theorem flatMap_congr' {α β : Type} {l : List α} {f g : α → List β} (h : ∀ a ∈ l, f a = g a) : l.flatMap f = l.flatMap g := by
  induction l with
  | nil => rfl
  | cons a l ih => rw [List.flatMap_cons, List.flatMap_cons, h a (by simp), ih fun b hb => h b (by simp [hb])]
/-- Of all places of an axis each told by a function. -/
theorem wA_map (n d : Nat) (g f : Nat → Nat) : wA ((List.range n).map g) d ((List.range d).map f) = (List.range (n * d)).map fun k => g (k / d) * d + f (k % d) := by
  unfold wA
  rw [rng_split, List.map_flatMap, List.flatMap_map]
  refine flatMap_congr' fun m _ => ?_
  rw [List.map_map, List.map_map]
  refine List.map_congr_left fun p hp => ?_
  have h := split_div (m := m) (List.mem_range.mp hp)
  simp only [Function.comp, h.1, h.2]
/-- Some of the places of an axis. -/
theorem wA_filter (n d : Nat) (c q : Nat → Bool) : wA ((List.range n).filter c) d ((List.range d).filter q) = (List.range (n * d)).filter fun k => c (k / d) && q (k % d) := by
  unfold wA
  rw [rng_split, List.filter_flatMap]
  have e : ∀ (l : List Nat) (f : Nat → List Nat), (l.filter c).flatMap f = l.flatMap fun m => if c m then f m else [] := fun l f => by
    induction l with
    | nil => rfl
    | cons a l ih =>
      rw [List.filter_cons]
      cases h : c a with
      | true => simp [h, ih]
      | false => simp [h, ih]
  rw [e]
  refine flatMap_congr' fun m _ => ?_
  rw [List.filter_map]
  have e2 : (List.range d).filter ((fun k => c (k / d) && q (k % d)) ∘ fun p => m * d + p) = (List.range d).filter fun p => c m && q p := by
    refine List.filter_congr fun p hp => ?_
    have h := split_div (m := m) (List.mem_range.mp hp)
    simp only [Function.comp, h.1, h.2]
  rw [e2]
  cases h : c m with
  | true => simp
  | false => simp

/-! ### A shift -/
def shX (d : Nat) (b : Int) : List Nat := (List.range d).map fun p => (((p : Nat) : Int) - b % (d : Int)) % (d : Int) |>.toNat
theorem shX_length (d : Nat) (b : Int) : (shX d b).length = d := by simp [shX]
theorem shX_get (d : Nat) (b : Int) (p : Nat) (hp : p < d) : (shX d b).getD p 0 = ((((p : Nat) : Int) - b % (d : Int)) % (d : Int)).toNat := by simp [shX, List.getD, hp]
theorem shX_lt (d : Nat) (b : Int) : ∀ p ∈ shX d b, p < d := fun p hp => by
  obtain ⟨q, hq, rfl⟩ := List.mem_map.mp hp
  have h0 := List.mem_range.mp hq
  have h1 := Int.emod_lt_of_pos (((q : Nat) : Int) - b % (d : Int)) (show (0 : Int) < (d : Int) by omega)
  have h2 := Int.emod_nonneg (((q : Nat) : Int) - b % (d : Int)) (show (d : Int) ≠ 0 by omega)
  omega
def shG (ds : List Nat) (bs : List Int) : Nat → Nat → Nat
  | 0, _ => 0
  | x + 1, k => shG ds bs x (k / sz ds x) * sz ds x + ((((k % sz ds x : Nat) : Int) - bs.getD x 0 % (sz ds x : Int)) % (sz ds x : Int)).toNat
theorem nA_shift (ds : List Nat) (bs : List Int) (x : Nat) (hx : x ≤ ds.length) : nA ds (fun y => shX (sz ds y) (bs.getD y 0)) x = (List.range (prd2 (ds.take x))).map (shG ds bs x) := by
  induction x with
  | zero => rfl
  | succ x ih =>
    rw [nA, ih (by omega), prd2_take ds x (by omega)]
    exact wA_map _ _ _ _
theorem shG_plf {ds : List Nat} (bs : List Int) (k x : Nat) (hx : x ≤ ds.length) : shG ds bs x (k / beh ds x) = plf ds (shP ds bs k ds.length) x := by
  induction x with
  | zero => rfl
  | succ x ih =>
    rw [shG, plf, ← ih (by omega), Nat.div_div_eq_div_mul, ← beh_step ds x (by omega), shP_get _ _ _ _ _ (by omega), if_pos (by omega)]
    rfl
theorem nA_shN (ds : List Nat) (bs : List Int) : nA ds (fun y => shX (sz ds y) (bs.getD y 0)) ds.length = (List.range (prd2 ds)).map (shN ds bs) := by
  rw [nA_shift ds bs _ (Nat.le_refl _), List.take_length]
  refine List.map_congr_left fun k _ => ?_
  have := shG_plf (ds := ds) bs k ds.length (Nat.le_refl _)
  rw [beh_end, Nat.div_one] at this
  exact this

/-! ### Corners -/
def crX (d : Nat) : List Nat := if d = 1 then [0] else [0, d / 2]
theorem crX_lt {d : Nat} (h : 0 < d) : ∀ p ∈ crX d, p < d := fun p hp => by
  unfold crX at hp
  split at hp
  · simp at hp; omega
  · simp at hp; omega
theorem crX_len {d : Nat} (h : 0 < d) : (crX d).length ≤ d := by
  unfold crX
  split
  · simp; omega
  · simp; omega
theorem filter_one (n a : Nat) (q : Nat → Bool) (h0 : q a = true) (h : ∀ p, p < n → 0 < p → q (a + p) = false) (hn : 0 < n) : ((List.range n).map fun p => a + p).filter q = [a] := by
  obtain ⟨m, rfl⟩ : ∃ m, n = m + 1 := ⟨n - 1, by omega⟩
  rw [List.range_succ_eq_map, List.map_cons, Nat.add_zero, List.filter_cons_of_pos h0]
  congr 1
  rw [List.filter_eq_nil_iff]
  intro z hz
  obtain ⟨y, hy, rfl⟩ := List.mem_map.mp hz
  obtain ⟨t, ht, rfl⟩ := List.mem_map.mp hy
  have := List.mem_range.mp ht
  rw [h (t + 1) (by omega) (by omega)]
  decide
theorem crX_eq {d : Nat} (h : P2 d) : crX d = (List.range d).filter fun p => decide (p = 0 ∨ 2 * p = d) := by
  unfold crX
  by_cases e : d = 1
  · subst e; decide
  · rw [if_neg e]
    obtain ⟨k, rfl⟩ := h
    cases k with
    | zero => exact absurd rfl e
    | succ k =>
      have hp : 0 < 2 ^ k := Nat.pow_pos (by decide)
      rw [Nat.pow_succ]
      generalize 2 ^ k = m at *
      rw [show m * 2 / 2 = m by omega, show m * 2 = m + m by omega, List.range_add, List.filter_append]
      have e1 := filter_one m 0 (fun p => decide (p = 0 ∨ 2 * p = m + m)) (by simp) (fun p h1 h2 => by simp; omega) hp
      have e2 := filter_one m m (fun p => decide (p = 0 ∨ 2 * p = m + m)) (by simp; omega) (fun p h1 h2 => by simp; omega) hp
      rw [e2]
      simp only [Nat.zero_add, List.map_id'] at e1
      rw [e1]
      rfl
def crC (ds : List Nat) : Nat → Nat → Bool
  | 0, _ => true
  | x + 1, k => crC ds x (k / sz ds x) && decide (k % sz ds x = 0 ∨ 2 * (k % sz ds x) = sz ds x)
theorem nA_crC {ds : List Nat} (hS : Shp ds) (x : Nat) (hx : x ≤ ds.length) : nA ds (fun y => crX (sz ds y)) x = (List.range (prd2 (ds.take x))).filter (crC ds x) := by
  induction x with
  | zero => rfl
  | succ x ih =>
    rw [nA, ih (by omega), prd2_take ds x (by omega), crX_eq (hS.at x (by omega))]
    exact wA_filter _ _ _ _
theorem crC_crn (ds : List Nat) (k x : Nat) (hx : x ≤ ds.length) : crC ds x (k / beh ds x) = decide (∀ t, t < x → CrY ds k t) := by
  induction x with
  | zero => simp [crC]
  | succ x ih =>
    rw [crC, Nat.div_div_eq_div_mul, ← beh_step ds x (by omega), ih (by omega)]
    rw [Bool.eq_iff_iff, Bool.and_eq_true, decide_eq_true_eq, decide_eq_true_eq, decide_eq_true_eq]
    constructor
    · rintro ⟨h1, h2⟩ t ht
      rcases Nat.lt_or_ge t x with q | q
      · exact h1 t q
      · obtain rfl : t = x := by omega
        exact h2
    · intro h
      exact ⟨fun t ht => h t (by omega), h x (by omega)⟩
theorem nA_crs {ds : List Nat} (hS : Shp ds) : nA ds (fun y => crX (sz ds y)) ds.length = crs ds (prd2 ds) := by
  rw [nA_crC hS _ (Nat.le_refl _), List.take_length]
  unfold crs
  refine List.filter_congr fun k _ => ?_
  have := crC_crn ds k ds.length (Nat.le_refl _)
  rw [beh_end, Nat.div_one] at this
  rw [this]
  rfl

/-! ### Numbers at places -/
theorem at_shW (ds : List Nat) (bs : List Int) (xs : List Nat) : (nA ds (fun y => shX (sz ds y) (bs.getD y 0)) ds.length).map (fun q => fN (xs.getD q 0)) = shW ds bs xs := by
  rw [nA_shN, List.map_map]
  unfold shW mk
  refine List.map_congr_left fun k _ => ?_
  rw [Function.comp, fN_val]
  rfl
theorem at_crW {ds : List Nat} (hS : Shp ds) (xs : List Nat) : (nA ds (fun y => crX (sz ds y)) ds.length).map (fun q => fN ((mk (prd2 ds) (who ds false (cf xs) ds.length)).getD q 0)) = crW ds xs := by
  rw [nA_crs hS]
  unfold crW
  refine List.map_congr_left fun q hq => ?_
  rw [mk_getD _ _ _ (crs_mem hq).1]
  have := val_lt (who ds false (cf xs) ds.length q)
  rw [fN_eq, Nat.mod_eq_of_lt this]
/-- Under way: the first k numbers of a list, then noughts. -/
def fil (L : List Nat) (k : Nat) : List Nat := tb L.length fun t => if t < k then L.getD t 0 else 0
theorem fil_length (L : List Nat) (k : Nat) : (fil L k).length = L.length := tb_length _ _
theorem fil_zero (L : List Nat) : fil L 0 = List.replicate L.length 0 := by
  have e : fil L 0 = tb L.length (fun _ => 0) := tb_congr fun p _ => if_neg (by omega)
  rw [e]
  unfold tb
  rw [List.map_const', List.length_range]
theorem fil_set (L : List Nat) (k : Nat) : (fil L k).set k (L.getD k 0) = fil L (k + 1) := by
  unfold fil
  rw [tb_set]
  refine tb_congr fun t _ => ?_
  by_cases e : t = k
  · rw [if_pos e, if_pos (by omega), e]
  · rw [if_neg e]
    by_cases h : t < k
    · rw [if_pos h, if_pos (by omega)]
    · rw [if_neg h, if_neg (by omega)]
theorem fil_end (L : List Nat) : fil L L.length = L := by
  have e : fil L L.length = tb L.length (fun p => L.getD p 0) := tb_congr fun p hp => if_pos hp
  rw [e, tb_self]

end Go.Proofs.YtgkepflnnoociagDoor
