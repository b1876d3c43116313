/-
  Arrays shifted round all axes, and their corners: a shift takes each number of the transform times a power of the roots, at corners 1 or -1; no program in sight.
-/
import Derived.Test.YtgkepflnnoociagDoorManyN
import Derived.Test.YtgkepflnnoociagDoorRefInAll
namespace Go.Proofs.YtgkepflnnoociagDoor

/-! ### Places that make a number -/
theorem und_beh (ds : List Nat) (i : Nat) : und ds i = beh ds (i + 1) := rfl
theorem plf_div {ds : List Nat} (p : List Nat) (hp : ∀ i, i < ds.length → p.getD i 0 < sz ds i) (x : Nat) (hx : x ≤ ds.length) : plf ds p ds.length / beh ds x = plf ds p x := by
  obtain ⟨m, hm⟩ : ∃ m, m = ds.length - x := ⟨_, rfl⟩
  induction m generalizing x with
  | zero =>
    obtain rfl : x = ds.length := by omega
    rw [beh_end, Nat.div_one]
  | succ m ih =>
    have h1 := ih (x + 1) (by omega) (by omega)
    rw [beh_step ds x (by omega), ← Nat.div_div_eq_div_mul, h1, plf]
    exact div_of (hp x (by omega))
theorem plc_plf {ds : List Nat} (p : List Nat) (hp : ∀ i, i < ds.length → p.getD i 0 < sz ds i) (y : Nat) (hy : y < ds.length) : plc ds (plf ds p ds.length) y = p.getD y 0 := by
  unfold plc
  rw [und_beh, plf_div p hp (y + 1) (by omega), plf]
  exact mod_of (hp y hy)
theorem plf_lt {ds : List Nat} (p : List Nat) (hp : ∀ i, i < ds.length → p.getD i 0 < sz ds i) : plf ds p ds.length < prd2 ds := by
  have h : ∀ x, x ≤ ds.length → plf ds p x < prd2 (ds.take x) := by
    intro x
    induction x with
    | zero => intro _; exact Nat.zero_lt_one
    | succ x ih =>
      intro hx
      rw [plf, prd2_take ds x (by omega)]
      have h1 := ih (by omega)
      have h2 := hp x (by omega)
      have h3 : (plf ds p x + 1) * ds.getD x 0 ≤ prd2 (ds.take x) * ds.getD x 0 := Nat.mul_le_mul_right _ h1
      rw [Nat.add_mul, Nat.one_mul] at h3
      unfold sz at h2
      omega
  have := h ds.length (Nat.le_refl _)
  rw [List.take_length] at this
  exact this
theorem plc_lt {ds : List Nat} (hS : Shp ds) (k y : Nat) (hy : y < ds.length) : plc ds k y < sz ds y := Nat.mod_lt _ (P2_pos (hS.at y hy))

/-! ### Shifts -/
/-- Where the number at place y of the shifted array comes from. -/
def shY (ds : List Nat) (bs : List Int) (k y : Nat) : Nat := ((((plc ds k y : Nat) : Int) - bs.getD y 0 % (sz ds y : Int)) % (sz ds y : Int)).toNat
def shP (ds : List Nat) (bs : List Int) (k x : Nat) : List Nat := (List.range ds.length).map fun y => if y < x then shY ds bs k y else plc ds k y
theorem shP_length (ds : List Nat) (bs : List Int) (k x : Nat) : (shP ds bs k x).length = ds.length := by simp [shP]
theorem shP_get (ds : List Nat) (bs : List Int) (k x y : Nat) (hy : y < ds.length) : (shP ds bs k x).getD y 0 = if y < x then shY ds bs k y else plc ds k y := by simp [shP, List.getD, hy]
theorem shP_zero (ds : List Nat) (bs : List Int) (k : Nat) : shP ds bs k 0 = plcs ds k ds.length := by
  unfold shP plcs
  exact List.map_congr_left fun y _ => if_neg (Nat.not_lt_zero _)
theorem shP_set (ds : List Nat) (bs : List Int) (k x : Nat) : (shP ds bs k x).set x (shY ds bs k x) = shP ds bs k (x + 1) := by
  apply List.ext_getElem
  · rw [List.length_set, shP_length, shP_length]
  · intro y h1 h2
    rw [List.getElem_set]
    by_cases e : x = y
    · rw [if_pos e]; simp [shP, e]
    · rw [if_neg e]
      simp only [shP, List.getElem_map, List.getElem_range]
      by_cases h : y < x
      · rw [if_pos h, if_pos (by omega)]
      · rw [if_neg h, if_neg (by omega)]
theorem shY_lt {ds : List Nat} (hS : Shp ds) (bs : List Int) (k y : Nat) (hy : y < ds.length) : shY ds bs k y < sz ds y := by
  have h0 := P2_pos (hS.at y hy)
  have h1 := Int.emod_lt_of_pos (((plc ds k y : Nat) : Int) - bs.getD y 0 % (sz ds y : Int)) (show (0 : Int) < (sz ds y : Int) by omega)
  have h2 := Int.emod_nonneg (((plc ds k y : Nat) : Int) - bs.getD y 0 % (sz ds y : Int)) (show (sz ds y : Int) ≠ 0 by omega)
  unfold shY
  omega
theorem shY_int {ds : List Nat} (hS : Shp ds) (bs : List Int) (k y : Nat) (hy : y < ds.length) : ((shY ds bs k y : Nat) : Int) = (((plc ds k y : Nat) : Int) - bs.getD y 0 % (sz ds y : Int)) % (sz ds y : Int) := by
  have h0 := P2_pos (hS.at y hy)
  have h2 := Int.emod_nonneg (((plc ds k y : Nat) : Int) - bs.getD y 0 % (sz ds y : Int)) (show (sz ds y : Int) ≠ 0 by omega)
  unfold shY
  omega
/-- The number that comes to k. -/
def shN (ds : List Nat) (bs : List Int) (k : Nat) : Nat := plf ds (shP ds bs k ds.length) ds.length
theorem shP_lt {ds : List Nat} (hS : Shp ds) (bs : List Int) (k : Nat) : ∀ i, i < ds.length → (shP ds bs k ds.length).getD i 0 < sz ds i := fun i hi => by
  rw [shP_get _ _ _ _ _ hi, if_pos hi]; exact shY_lt hS bs k i hi
theorem shN_lt {ds : List Nat} (hS : Shp ds) (bs : List Int) (k : Nat) : shN ds bs k < prd2 ds := plf_lt _ (shP_lt hS bs k)
theorem plc_shN {ds : List Nat} (hS : Shp ds) (bs : List Int) (k y : Nat) (hy : y < ds.length) : plc ds (shN ds bs k) y = shY ds bs k y := by
  unfold shN
  rw [plc_plf _ (shP_lt hS bs k) y hy, shP_get _ _ _ _ _ hy, if_pos hy]
/-- Numbers with the same places are one. -/
theorem plc_inj {ds : List Nat} (hS : Shp ds) {k j : Nat} (hk : k < prd2 ds) (hj : j < prd2 ds) (h : ∀ y, y < ds.length → plc ds k y = plc ds j y) : k = j := by
  have e1 := plf_plcs ds k hS.pos hk ds.length (Nat.le_refl _)
  have e2 := plf_plcs ds j hS.pos hj ds.length (Nat.le_refl _)
  rw [List.drop_length, prd2, Nat.div_one] at e1 e2
  have e3 : plcs ds k ds.length = plcs ds j ds.length := by
    unfold plcs
    exact List.map_congr_left fun y hy => h y (List.mem_range.mp hy)
  rw [← e1, ← e2, e3]
/-- Shifts that differ by whole axes. -/
theorem shN_mod {ds : List Nat} (hS : Shp ds) {bs cs : List Int} (h : ∀ y, y < ds.length → bs.getD y 0 % (sz ds y : Int) = cs.getD y 0 % (sz ds y : Int)) (k : Nat) : shN ds bs k = shN ds cs k := by
  refine plc_inj hS (shN_lt hS bs k) (shN_lt hS cs k) fun y hy => ?_
  rw [plc_shN hS bs k y hy, plc_shN hS cs k y hy]
  unfold shY
  rw [h y hy]
/-- There and back. -/
theorem shN_back {ds : List Nat} (hS : Shp ds) {bs cs : List Int} (h : ∀ y, y < ds.length → (bs.getD y 0 + cs.getD y 0) % (sz ds y : Int) = 0) {k : Nat} (hk : k < prd2 ds) : shN ds bs (shN ds cs k) = k := by
  refine plc_inj hS (shN_lt hS bs _) hk fun y hy => ?_
  rw [plc_shN hS bs _ y hy]
  have h0 := P2_pos (hS.at y hy)
  have h1 := plc_lt hS k y hy
  have e1 := shY_int hS bs (shN ds cs k) y hy
  rw [plc_shN hS cs k y hy, shY_int hS cs k y hy] at e1
  have e2 : ((((plc ds k y : Nat) : Int) - cs.getD y 0 % (sz ds y : Int)) % (sz ds y : Int) - bs.getD y 0 % (sz ds y : Int)) % (sz ds y : Int) = (plc ds k y : Nat) := by
    rw [Int.sub_emod, Int.emod_emod_of_dvd _ (Int.dvd_refl _), Int.emod_emod_of_dvd _ (Int.dvd_refl _), ← Int.sub_emod]
    have e3 : (((plc ds k y : Nat) : Int) - cs.getD y 0 % (sz ds y : Int) - bs.getD y 0) % (sz ds y : Int) = (((plc ds k y : Nat) : Int) - (bs.getD y 0 + cs.getD y 0)) % (sz ds y : Int) := by
      have := Int.emod_add_mul_ediv (cs.getD y 0) (sz ds y : Int)
      have e4 : ((plc ds k y : Nat) : Int) - cs.getD y 0 % (sz ds y : Int) - bs.getD y 0 = ((plc ds k y : Nat) : Int) - (bs.getD y 0 + cs.getD y 0) + (sz ds y : Int) * (cs.getD y 0 / (sz ds y : Int)) := by omega
      rw [e4, Int.add_mul_emod_self_left]
    rw [e3, Int.sub_emod, h y hy, Int.sub_zero, Int.emod_emod_of_dvd _ (Int.dvd_refl _)]
    exact Int.emod_eq_of_lt (by omega) (by omega)
  omega

/-! ### What a shift does to the transform -/
/-- Sums don't hang on the order. -/
theorem S_perm (n : Nat) (g : Nat → F) (a b : Nat → Nat) (ha : ∀ k, k < n → a k < n) (hb : ∀ k, k < n → b k < n) (hab : ∀ k, k < n → a (b k) = k) (hba : ∀ k, k < n → b (a k) = k) : S n (fun k => g (a k)) = S n g := by
  have e1 : S n (fun k => g (a k)) = S n (fun k => S n (fun q => if q = a k then g q else 0)) := S_congr fun k hk => by
    rw [S_delta n (a k) (ha k hk) _ (fun j _ hne => by rw [if_neg hne]), if_pos rfl]
  rw [e1, S_comm]
  refine S_congr fun q hq => ?_
  rw [S_delta n (b q) (hb q hq) _ (fun j hj hne => by
    rw [if_neg]
    intro e
    exact hne (by rw [e, hba j hj])), if_pos (hab q hq).symm]
def smQ (ds : List Nat) (i j : Nat) : List Nat := (List.range ds.length).map fun y => (plc ds i y + plc ds j y) % sz ds y
theorem smQ_get (ds : List Nat) (i j y : Nat) (hy : y < ds.length) : (smQ ds i j).getD y 0 = (plc ds i y + plc ds j y) % sz ds y := by simp [smQ, List.getD, hy]
theorem plf_smQ {ds : List Nat} (i j x : Nat) (hx : x ≤ ds.length) : plf ds (smQ ds i j) x = atN (sz ds) x (i / beh ds x) (j / beh ds x) := by
  induction x with
  | zero => rfl
  | succ x ih =>
    rw [plf, ih (by omega), smQ_get _ _ _ _ (by omega), atN, Nat.div_div_eq_div_mul, Nat.div_div_eq_div_mul, ← beh_step ds x (by omega)]
    rfl
theorem plc_at {ds : List Nat} (hS : Shp ds) (i j y : Nat) (hy : y < ds.length) : plc ds (atN (sz ds) ds.length i j) y = (plc ds i y + plc ds j y) % sz ds y := by
  have e := plf_smQ (ds := ds) i j ds.length (Nat.le_refl _)
  rw [beh_end, Nat.div_one, Nat.div_one] at e
  rw [← e, plc_plf _ (fun k hk => by rw [smQ_get _ _ _ _ hk]; exact Nat.mod_lt _ (P2_pos (hS.at k hk))) y hy, smQ_get _ _ _ _ hy]
/-- The shift as a number. -/
def shR (ds : List Nat) (bs : List Int) : Nat := shN ds (bs.map fun b => -b) 0
theorem getD_neg (bs : List Int) (y : Nat) : (bs.map fun b => -b).getD y 0 = - bs.getD y 0 := by
  rw [List.getD, List.getD, List.getElem?_map]
  cases bs[y]? <;> simp
theorem plc_zero (ds : List Nat) (y : Nat) : plc ds 0 y = 0 := by unfold plc; rw [Nat.zero_div, Nat.zero_mod]
theorem at_shN {ds : List Nat} (hS : Shp ds) (bs : List Int) {k : Nat} (hk : k < prd2 ds) : atN (sz ds) ds.length (shN ds bs k) (shR ds bs) = k := by
  have hlt : atN (sz ds) ds.length (shN ds bs k) (shR ds bs) < prd2 ds := by
    have := atN_lt (sz ds) ds.length (fun y hy => P2_pos (hS.at y hy)) (shN ds bs k) (shR ds bs)
    rw [sizN_all] at this
    exact this
  refine plc_inj hS hlt hk fun y hy => ?_
  rw [plc_at hS _ _ y hy, plc_shN hS bs k y hy]
  unfold shR
  rw [plc_shN hS _ 0 y hy]
  have h0 := P2_pos (hS.at y hy)
  have h1 := plc_lt hS k y hy
  have e1 := shY_int hS bs k y hy
  have e2 := shY_int hS (bs.map fun b => -b) 0 y hy
  rw [plc_zero, getD_neg] at e2
  have e3 : ((((shY ds bs k y + shY ds (bs.map fun b => -b) 0 y) % sz ds y : Nat)) : Int) = (plc ds k y : Nat) := by
    rw [Int.natCast_emod, Int.natCast_add, e1, e2]
    rw [← Int.add_emod]
    have a1 := Int.emod_add_mul_ediv (bs.getD y 0) (sz ds y : Int)
    have a2 := Int.emod_add_mul_ediv (- bs.getD y 0) (sz ds y : Int)
    have e4 : ((plc ds k y : Nat) : Int) - bs.getD y 0 % (sz ds y : Int) + (((0 : Nat) : Int) - (- bs.getD y 0) % (sz ds y : Int)) = ((plc ds k y : Nat) : Int) + (sz ds y : Int) * (bs.getD y 0 / (sz ds y : Int) + (- bs.getD y 0) / (sz ds y : Int)) := by
      rw [Int.mul_add]
      omega
    rw [e4, Int.add_mul_emod_self_left]
    exact Int.emod_eq_of_lt (by omega) (by omega)
  omega
theorem shN_inv {ds : List Nat} (hS : Shp ds) (bs : List Int) {k : Nat} (hk : k < prd2 ds) : shN ds bs (shN ds (bs.map fun b => -b) k) = k ∧ shN ds (bs.map fun b => -b) (shN ds bs k) = k :=
  ⟨shN_back hS (fun y _ => by rw [getD_neg, Int.add_right_neg, Int.zero_emod]) hk, shN_back hS (fun y _ => by rw [getD_neg, Int.add_left_neg, Int.zero_emod]) hk⟩
/-- Each number of the transform is taken times what the shift is worth there. -/
theorem who_shift {ds : List Nat} (hS : Shp ds) (hn : prd2 ds ≤ 1024) (bs : List Int) (f g : Nat → F) (hg : ∀ k, k < prd2 ds → g k = f (shN ds bs k)) (p : Nat) (hp : p < prd2 ds) :
    who ds false g ds.length p = chi (fun y => axW false (sz ds y)) (sz ds) ds.length (shR ds bs) p * who ds false f ds.length p := by
  have hw1 : ∀ y, y < ds.length → pw (axW false (sz ds y)) (sz ds y) = 1 := fun y hy => by
    obtain ⟨k, hk, _, ho, _⟩ := axW_ord hS hn y hy
    rw [hk] at ho ⊢
    exact ho.one
  rw [who_chi hS false g p hp, who_chi hS false f p hp, cfs_false]
  have e1 : S (prd2 ds) (fun q => g q * chi (fun y => axW false (sz ds y)) (sz ds) ds.length q p) = S (prd2 ds) (fun q => chi (fun y => axW false (sz ds y)) (sz ds) ds.length (shR ds bs) p * (f (shN ds bs q) * chi (fun y => axW false (sz ds y)) (sz ds) ds.length (shN ds bs q) p)) := S_congr fun q hq => by
    have e2 := chi_at (fun y => axW false (sz ds y)) (sz ds) ds.length hw1 (fun y hy => P2_pos (hS.at y hy)) (shN ds bs q) (shR ds bs) p
    rw [at_shN hS bs hq] at e2
    rw [hg q hq, e2]
    grind
  rw [e1, S_mul, S_perm (prd2 ds) (fun q => f q * chi (fun y => axW false (sz ds y)) (sz ds) ds.length q p) (shN ds bs) (shN ds (bs.map fun b => -b)) (fun k _ => shN_lt hS bs k) (fun k _ => shN_lt hS _ k) (fun k hk => (shN_inv hS bs hk).1) (fun k hk => (shN_inv hS bs hk).2)]
  grind
/-! ### Corners -/
def CrY (ds : List Nat) (k y : Nat) : Prop := plc ds k y = 0 ∨ 2 * plc ds k y = sz ds y
instance (ds : List Nat) (k y : Nat) : Decidable (CrY ds k y) := by unfold CrY; infer_instance
def Crn (ds : List Nat) (k : Nat) : Prop := ∀ y, y < ds.length → CrY ds k y
instance (ds : List Nat) (k : Nat) : Decidable (Crn ds k) := by unfold Crn; infer_instance
/-- The corners among the first n numbers. -/
def crs (ds : List Nat) (n : Nat) : List Nat := (List.range n).filter fun k => decide (Crn ds k)
theorem crs_succ (ds : List Nat) (n : Nat) : crs ds (n + 1) = if Crn ds n then crs ds n ++ [n] else crs ds n := by
  unfold crs
  rw [List.range_succ, List.filter_append]
  by_cases h : Crn ds n
  · rw [if_pos h]; simp [h]
  · rw [if_neg h]; simp [h]
theorem crn_zero (ds : List Nat) : Crn ds 0 := fun y _ => .inl (plc_zero ds y)
theorem crs_head {ds : List Nat} {n : Nat} (h : 0 < n) : ∃ t, crs ds n = 0 :: t := by
  obtain ⟨m, rfl⟩ : ∃ m, n = m + 1 := ⟨n - 1, by omega⟩
  unfold crs
  rw [List.range_succ_eq_map, List.filter_cons_of_pos (by simp [crn_zero])]
  exact ⟨_, rfl⟩
theorem crs_mem {ds : List Nat} {n k : Nat} (h : k ∈ crs ds n) : k < n ∧ Crn ds k := by
  unfold crs at h
  rw [List.mem_filter] at h
  exact ⟨List.mem_range.mp h.1, by simpa using h.2⟩
theorem neg_pw (a : Nat) : pw (-1) a = 1 ∨ pw (-1) a = -1 := by
  induction a with
  | zero => exact .inl rfl
  | succ a ih =>
    rw [pw_succ]
    rcases ih with h | h
    · right; rw [h]; grind
    · left; rw [h]; grind
/-- At a corner a number is worth 1 or -1. -/
theorem chi_corner {ds : List Nat} (hS : Shp ds) (hn : prd2 ds ≤ 1024) (q p : Nat) (hp : Crn ds p) (x : Nat) (hx : x ≤ ds.length) :
    chi (fun y => axW false (sz ds y)) (sz ds) x (q / beh ds x) (p / beh ds x) = 1 ∨ chi (fun y => axW false (sz ds y)) (sz ds) x (q / beh ds x) (p / beh ds x) = -1 := by
  induction x with
  | zero => exact .inl rfl
  | succ x ih =>
    have h1 := ih (by omega)
    rw [chi, Nat.div_div_eq_div_mul, Nat.div_div_eq_div_mul, ← beh_step ds x (by omega)]
    have h2 : pw (axW false (sz ds x)) (q / beh ds (x + 1) % sz ds x * (p / beh ds (x + 1) % sz ds x)) = 1 ∨ pw (axW false (sz ds x)) (q / beh ds (x + 1) % sz ds x * (p / beh ds (x + 1) % sz ds x)) = -1 := by
      have e : p / beh ds (x + 1) % sz ds x = plc ds p x := rfl
      rw [e]
      rcases hp x (by omega) with h | h
      · left; rw [h, Nat.mul_zero]; rfl
      · obtain ⟨k, hk, _, ho, _⟩ := axW_ord hS hn x (by omega)
        cases k with
        | zero => rw [hk] at h; simp at h; omega
        | succ k =>
          rw [hk] at ho h ⊢
          have e2 : plc ds p x = 2 ^ k := by rw [Nat.pow_succ] at h; omega
          rw [e2, Nat.mul_comm, pw_mul, ho.half k rfl]
          exact neg_pw _
    rcases h1 with h1 | h1 <;> rcases h2 with h2 | h2 <;> rw [h1, h2]
    · left; grind
    · right; grind
    · right; grind
    · left; grind
theorem chi_none (w : Nat → F) (d : Nat → Nat) (x q : Nat) : chi w d x q 0 = 1 := by
  induction x generalizing q with
  | zero => rfl
  | succ x ih => rw [chi, Nat.zero_div, ih, Nat.zero_mod, Nat.mul_zero, pw_zero]; grind
/-- The first corner is the sum of all. -/
theorem who_sum {ds : List Nat} (hS : Shp ds) (f : Nat → F) : who ds false f ds.length 0 = S (prd2 ds) f := by
  rw [who_chi hS false f 0 (prd2_pos hS.pos), cfs_false]
  have : S (prd2 ds) (fun q => f q * chi (fun y => axW false (sz ds y)) (sz ds) ds.length q 0) = S (prd2 ds) f := S_congr fun q _ => by rw [chi_none]; grind
  rw [this]; grind
theorem who_corner {ds : List Nat} (hS : Shp ds) (hn : prd2 ds ≤ 1024) (bs : List Int) (f g : Nat → F) (hg : ∀ k, k < prd2 ds → g k = f (shN ds bs k)) (p : Nat) (hp : p < prd2 ds) (hc : Crn ds p) :
    who ds false g ds.length p = who ds false f ds.length p ∨ who ds false g ds.length p = - who ds false f ds.length p := by
  rw [who_shift hS hn bs f g hg p hp]
  have h := chi_corner hS hn (shR ds bs) p hc ds.length (Nat.le_refl _)
  rw [beh_end, Nat.div_one, Nat.div_one] at h
  rcases h with h | h
  · left; rw [h]; grind
  · right; rw [h]; grind
theorem who_first {ds : List Nat} (hS : Shp ds) (hn : prd2 ds ≤ 1024) (bs : List Int) (f g : Nat → F) (hg : ∀ k, k < prd2 ds → g k = f (shN ds bs k)) : who ds false g ds.length 0 = who ds false f ds.length 0 := by
  rw [who_shift hS hn bs f g hg 0 (prd2_pos hS.pos), chi_none]
  grind

end Go.Proofs.YtgkepflnnoociagDoor
