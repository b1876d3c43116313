/-
  Texts that stood one behind the other, as one.
-/
import Derived.Test.YtmggccepmicjhagGreatDoorManyN
import Derived.Test.YtmggccepmicjhagGreatDoorRefPlacesAll
import Derived.Test.YtmggccepmicjhagGreatDoorSlT
import Derived.BigQuiet
/-! The lines of an axis by their numbers; an array some of whose lines are transformed. -/
namespace Go.Proofs.YtmggccepmicjhagGreatDoor

/-- Number k of line i; the line of number p. -/
def ps (u d i k : Nat) : Nat := i / u * (u * d) + i % u + k * u
def lnO (u d p : Nat) : Nat := p / (u * d) * u + p % u
theorem ps_low {u d i k : Nat} (hu : 0 < u) (hk : k < d) : k * u + i % u < u * d := low_lt hk (Nat.mod_lt _ hu)
theorem ps_eq (u d i k : Nat) : ps u d i k = i / u * (u * d) + (k * u + i % u) := by unfold ps; omega
theorem ps_div {u d i k : Nat} (hu : 0 < u) (hk : k < d) : ps u d i k / (u * d) = i / u := by
  rw [ps_eq]; exact div_of (ps_low hu hk)
theorem ps_mod {u d i k : Nat} (hu : 0 < u) : ps u d i k % u = i % u := by
  unfold ps
  have e : i / u * (u * d) + i % u + k * u = (i / u * d + k) * u + i % u := by grind
  rw [e]; exact mod_of (Nat.mod_lt _ hu)
theorem ps_dg {u d i k : Nat} (hu : 0 < u) (hk : k < d) : dg u d (ps u d i k) = k := by
  unfold dg ps
  have e : i / u * (u * d) + i % u + k * u = (i / u * d + k) * u + i % u := by grind
  rw [e, div_of (Nat.mod_lt _ hu)]
  exact mod_of hk
theorem ps_ln {u d i k : Nat} (hu : 0 < u) (hk : k < d) : lnO u d (ps u d i k) = i := by
  unfold lnO
  rw [ps_div hu hk, ps_mod hu, Nat.mul_comm, Nat.div_add_mod]
theorem ps_st {u d i k : Nat} (hu : 0 < u) (hk : k < d) (s : Nat) : st u d (ps u d i k) s = ps u d i s := by
  unfold st
  rw [ps_div hu hk, ps_mod hu]
  unfold ps; omega
theorem ps_of {u d : Nat} (hu : 0 < u) (p : Nat) : ps u d (lnO u d p) (dg u d p) = p := by
  have h1 : lnO u d p / u = p / (u * d) := div_of (Nat.mod_lt _ hu)
  have h2 : lnO u d p % u = p % u := mod_of (Nat.mod_lt _ hu)
  unfold ps
  rw [h1, h2]
  have := st_self u d p
  unfold st at this
  omega
theorem ps_lt {u d m i k : Nat} (hu : 0 < u) (hi : i < u * m) (hk : k < d) : ps u d i k < u * d * m := by
  rw [ps_eq]
  have h1 : i / u < m := Nat.div_lt_of_lt_mul hi
  have h2 : (i / u + 1) * (u * d) ≤ m * (u * d) := Nat.mul_le_mul_right _ h1
  have h3 := ps_low (i := i) hu hk
  rw [Nat.add_mul, Nat.one_mul, Nat.mul_comm m] at h2
  omega
theorem ln_lt {u d m p : Nat} (hu : 0 < u) (hp : p < u * d * m) : lnO u d p < u * m := by
  unfold lnO
  have h1 : p / (u * d) < m := Nat.div_lt_of_lt_mul hp
  have h2 : (p / (u * d) + 1) * u ≤ m * u := Nat.mul_le_mul_right _ h1
  have h3 := Nat.mod_lt p hu
  rw [Nat.add_mul, Nat.one_mul, Nat.mul_comm m] at h2
  omega

/-- How many lines begin ahead of number k. -/
def cnL (u d k : Nat) : Nat := k / (u * d) * u + min (k % (u * d)) u
theorem cnL_step {u d : Nat} (hu : 0 < u) (hd : 0 < d) (k : Nat) : (dg u d k = 0 → cnL u d (k + 1) = cnL u d k + 1 ∧ ps u d (cnL u d k) 0 = k) ∧ (dg u d k ≠ 0 → cnL u d (k + 1) = cnL u d k) := by
  have hD : 0 < u * d := Nat.mul_pos hu hd
  have hle : u ≤ u * d := Nat.le_mul_of_pos_right _ hd
  obtain ⟨q, r, hr, rfl⟩ : ∃ q r, r < u * d ∧ k = q * (u * d) + r := ⟨k / (u * d), k % (u * d), Nat.mod_lt _ hD, by rw [Nat.mul_comm, Nat.div_add_mod]⟩
  have hdg : dg u d (q * (u * d) + r) = r / u := by
    unfold dg
    have e : q * (u * d) + r = u * (d * q) + r := by grind
    rw [e, Nat.mul_add_div hu, Nat.mul_add_mod, Nat.mod_eq_of_lt (Nat.div_lt_of_lt_mul hr)]
  have hc : cnL u d (q * (u * d) + r) = q * u + min r u := by
    unfold cnL; rw [div_of hr, mod_of hr]
  have hc1 : cnL u d (q * (u * d) + r + 1) = if r + 1 < u * d then q * u + min (r + 1) u else (q + 1) * u := by
    unfold cnL
    by_cases h : r + 1 < u * d
    · rw [if_pos h, Nat.add_assoc, div_of h, mod_of h]
    · have e : q * (u * d) + r + 1 = (q + 1) * (u * d) + 0 := by rw [Nat.add_mul, Nat.one_mul]; omega
      rw [if_neg h, e, div_of hD, mod_of hD, Nat.zero_min, Nat.add_zero]
  rw [hdg, hc1, hc]
  refine ⟨fun h0 => ?_, fun h0 => ?_⟩
  · have hru : r < u := by
      rcases Nat.lt_or_ge r u with h | h
      · exact h
      · have := Nat.div_pos h hu; omega
    rw [show min r u = r from Nat.min_eq_left (by omega)]
    refine ⟨?_, ?_⟩
    · by_cases h : r + 1 < u * d
      · rw [if_pos h, Nat.min_eq_left (by omega)]; omega
      · rw [if_neg h, Nat.add_mul, Nat.one_mul]; omega
    · unfold ps
      rw [div_of hru, mod_of hru]; omega
  · have hru : u ≤ r := by
      rcases Nat.lt_or_ge r u with h | h
      · rw [Nat.div_eq_of_lt h] at h0; omega
      · exact h
    rw [Nat.min_eq_right hru]
    by_cases h : r + 1 < u * d
    · rw [if_pos h, Nat.min_eq_right (by omega)]
    · rw [if_neg h, Nat.add_mul, Nat.one_mul]
theorem lns_eqK {ds : List Nat} (h : Shp ds) (x : Nat) (hx : x < ds.length) (k : Nat) : lns ds x k = (List.range (cnL (beh ds (x + 1)) (sz ds x) k)).map fun i => lin ds x (ps (beh ds (x + 1)) (sz ds x) i 0) (sz ds x) := by
  have hu := beh_pos h (x + 1)
  have hd := P2_pos (h.at x hx)
  induction k with
  | zero => simp [lns, cnL]
  | succ k ih =>
    have hst := cnL_step hu hd k
    rw [lns]
    by_cases h0 : plc ds k x = 0
    · rw [if_pos h0, (hst.1 h0).1, List.range_succ, List.map_append, ih]
      congr 1
      show [lin ds x k (ds.getD x 0)] = [lin ds x (ps (beh ds (x + 1)) (sz ds x) (cnL (beh ds (x + 1)) (sz ds x) k) 0) (sz ds x)]
      rw [(hst.1 h0).2]; rfl
    · rw [if_neg h0, hst.2 h0, ih]
theorem cnL_end {u d : Nat} (hu : 0 < u) (hd : 0 < d) (m : Nat) : cnL u d (u * d * m) = u * m := by
  unfold cnL
  have hD : 0 < u * d := Nat.mul_pos hu hd
  rw [Nat.mul_div_cancel_left _ hD, Nat.mul_mod_right, Nat.zero_min, Nat.add_zero, Nat.mul_comm]
/-- How many lines an axis has. -/
def nln (ds : List Nat) (x : Nat) : Nat := beh ds (x + 1) * prd2 (ds.take x)
theorem lns_eq {ds : List Nat} (h : Shp ds) (x : Nat) (hx : x < ds.length) : lns ds x (prd2 ds) = (List.range (nln ds x)).map fun i => lin ds x (ps (beh ds (x + 1)) (sz ds x) i 0) (sz ds x) := by
  rw [lns_eqK h x hx, prd2_at ds x hx, cnL_end (beh_pos h _) (P2_pos (h.at x hx))]; rfl
theorem nln_div {ds : List Nat} (h : Shp ds) (x : Nat) (hx : x < ds.length) : prd2 ds / sz ds x = nln ds x := by
  have hd := P2_pos (h.at x hx)
  rw [prd2_at ds x hx]
  unfold nln
  rw [show beh ds (x + 1) * sz ds x * prd2 (ds.take x) = sz ds x * (beh ds (x + 1) * prd2 (ds.take x)) by grind, Nat.mul_div_cancel_left _ hd]
theorem lin_ps (ds : List Nat) (x i t : Nat) (ht : t < sz ds x) : (lin ds x (ps (beh ds (x + 1)) (sz ds x) i 0) (sz ds x)).getD t 0 = ps (beh ds (x + 1)) (sz ds x) i t := by
  simp only [lin, List.getD, List.getElem?_map, List.getElem?_range ht, Option.map_some, Option.getD_some]
  unfold ps
  rw [Nat.zero_mul, Nat.add_zero]; rfl

/-- A list by its numbers. -/
def tb (n : Nat) (g : Nat → Nat) : List Nat := (List.range n).map g
theorem tb_length (n : Nat) (g : Nat → Nat) : (tb n g).length = n := by simp [tb]
theorem tb_get (n : Nat) (g : Nat → Nat) (i : Nat) (h : i < n) : (tb n g).getD i 0 = g i := by simp [tb, List.getD, h]
theorem tb_congr {n : Nat} {g h : Nat → Nat} (e : ∀ i, i < n → g i = h i) : tb n g = tb n h := by
  unfold tb
  exact List.map_congr_left fun i hi => e i (List.mem_range.mp hi)
theorem tb_self (xs : List Nat) : tb xs.length (fun p => xs.getD p 0) = xs := by
  apply List.ext_getElem
  · exact tb_length _ _
  · intro i h1 h2
    simp [tb, List.getD, h2]
theorem tb_set (n : Nat) (g : Nat → Nat) (j v : Nat) : (tb n g).set j v = tb n (fun p => if p = j then v else g p) := by
  apply List.ext_getElem
  · rw [List.length_set, tb_length, tb_length]
  · intro i h1 h2
    rw [List.getElem_set]
    rw [tb_length] at h2
    by_cases e : j = i
    · rw [if_pos e]; simp [tb, e]
    · rw [if_neg e]; simp [tb, Ne.symm e]
/-- Lines from f up to i - 1 transformed, and the first k numbers of line i. -/
def trK (ds : List Nat) (xs : List Nat) (x f : Nat) (back : Bool) (i k : Nat) : List Nat :=
  tb (prd2 ds) fun p => if f ≤ lnO (beh ds (x + 1)) (sz ds x) p ∧ (lnO (beh ds (x + 1)) (sz ds x) p < i ∨ (lnO (beh ds (x + 1)) (sz ds x) p = i ∧ dg (beh ds (x + 1)) (sz ds x) p < k)) then (alo ds x back (cf xs) p).val else xs.getD p 0
/-- Lines from f up to l - 1 transformed. -/
def trn (ds : List Nat) (xs : List Nat) (x f l : Nat) (back : Bool) : List Nat := trK ds xs x f back l 0
theorem trK_length (ds xs : List Nat) (x f : Nat) (back : Bool) (i k : Nat) : (trK ds xs x f back i k).length = prd2 ds := tb_length _ _
theorem trK_start {ds xs : List Nat} (hl : xs.length = prd2 ds) (x f : Nat) (back : Bool) : trK ds xs x f back f 0 = xs := by
  have : trK ds xs x f back f 0 = tb xs.length (fun p => xs.getD p 0) := by
    unfold trK
    rw [hl]
    exact tb_congr fun p _ => if_neg (by omega)
  rw [this, tb_self]
theorem trK_line {ds : List Nat} (h : Shp ds) (xs : List Nat) (x : Nat) (hx : x < ds.length) (f : Nat) (back : Bool) (i : Nat) : f ≤ i → trK ds xs x f back i (sz ds x) = trK ds xs x f back (i + 1) 0 := by
  intro _
  unfold trK
  refine tb_congr fun p _ => ?_
  have hd := dg_lt (u := beh ds (x + 1)) (p := p) (P2_pos (h.at x hx))
  congr 1
  simp only [eq_iff_iff]
  omega
theorem trK_set {ds : List Nat} (h : Shp ds) (xs : List Nat) (x : Nat) (f : Nat) (back : Bool) (i k : Nat) (hf : f ≤ i) (hk : k < sz ds x) :
    (trK ds xs x f back i k).set (ps (beh ds (x + 1)) (sz ds x) i k) (alo ds x back (cf xs) (ps (beh ds (x + 1)) (sz ds x) i k)).val = trK ds xs x f back i (k + 1) := by
  have hu := beh_pos h (x + 1)
  unfold trK
  rw [tb_set]
  refine tb_congr fun p _ => ?_
  by_cases e : p = ps (beh ds (x + 1)) (sz ds x) i k
  · rw [if_pos e, e, ps_ln hu hk, ps_dg hu hk, if_pos (by omega)]
  · rw [if_neg e]
    have hne : ¬ (lnO (beh ds (x + 1)) (sz ds x) p = i ∧ dg (beh ds (x + 1)) (sz ds x) p = k) := fun ⟨h1, h2⟩ => by
      apply e
      rw [← ps_of hu p, h1, h2]
    congr 1
    simp only [eq_iff_iff]
    omega
/-- Number k of a line's transform is number k of that line of the array's. -/
theorem alo_line {ds : List Nat} (h : Shp ds) (xs : List Nat) (x : Nat) (back : Bool) (i k kk : Nat) (hk : k < sz ds x) (hkk : sz ds x = 2 ^ kk) (ys : List Nat) (hy : ∀ t, t < sz ds x → ys.getD t 0 = xs.getD (ps (beh ds (x + 1)) (sz ds x) i t) 0) :
    alo ds x back (cf xs) (ps (beh ds (x + 1)) (sz ds x) i k) = (if back then bw ys kk k else fw ys kk k) := by
  have hu := beh_pos h (x + 1)
  have hlg : Nat.log2 (sz ds x) = kk := by rw [hkk]; exact Nat.log2_two_pow
  unfold alo ax
  have e : dft (axW back (sz ds x)) (sz ds x) (fun s => cf xs (st (beh ds (x + 1)) (sz ds x) (ps (beh ds (x + 1)) (sz ds x) i k) s)) (dg (beh ds (x + 1)) (sz ds x) (ps (beh ds (x + 1)) (sz ds x) i k)) = dft (axW back (sz ds x)) (2 ^ kk) (cf ys) k := by
    rw [ps_dg hu hk, ← hkk]
    refine dft_congr (fun s hs => ?_) k
    rw [ps_st hu hk]
    unfold cf
    rw [hy s hs]
  rw [e]
  cases back
  · show 1 * dft (toF (rt (Nat.log2 (sz ds x)))) (2 ^ kk) (cf ys) k = fw ys kk k
    rw [hlg]; unfold fw; grind
  · show inv (toF (sz ds x)) * dft (inv (toF (rt (Nat.log2 (sz ds x))))) (2 ^ kk) (cf ys) k = bw ys kk k
    rw [hlg, hkk]; rfl
theorem trn_all {ds : List Nat} (h : Shp ds) (xs : List Nat) (x : Nat) (hx : x < ds.length) (back : Bool) : trn ds xs x 0 (nln ds x) back = mk (prd2 ds) (alo ds x back (cf xs)) := by
  unfold trn trK tb mk
  refine List.map_congr_left fun p hp => ?_
  have := List.mem_range.mp hp
  rw [prd2_at ds x hx] at this
  have h1 := ln_lt (beh_pos h (x + 1)) this
  rw [if_pos]
  unfold nln
  omega

end Go.Proofs.YtmggccepmicjhagGreatDoor

/-! What Plan of package goldref answers: for each axis its lines, so many a task; the errors. -/
namespace Go.Proofs.YtmggccepmicjhagGreatDoor
open Go.RowKit
set_option maxRecDepth 100000

/-- The phases of the first x axes. -/
def pls (ds : List Nat) (c x : Nat) : List (List (List Int)) := (List.range x).map fun y => chn y c (nln ds y)
theorem pls_length (ds : List Nat) (c x : Nat) : (pls ds c x).length = x := by simp [pls]
theorem pls_succ (ds : List Nat) (c x : Nat) : pls ds c (x + 1) = pls ds c x ++ [chn x c (nln ds x)] := by simp [pls, List.range_succ]

/-- None of the first x phases has more tasks than it may. -/
def Few (ds : List Nat) (c x : Nat) : Prop := ∀ y, y < x → (chn y c (nln ds y)).length ≤ 64

end Go.Proofs.YtmggccepmicjhagGreatDoor

/-! Tasks and phases that are right; lines transformed in whatever order; no program in sight. -/
namespace Go.Proofs.YtmggccepmicjhagGreatDoor

/-- A right task of an axis of n lines; how often a line is met. -/
def Vld (n x : Nat) (r : List Int) : Prop := r.getD 0 0 = (x : Int) ∧ 0 ≤ r.getD 1 0 ∧ r.getD 2 0 ≤ (n : Int) ∧ r.getD 1 0 < r.getD 2 0
def hit (r : List Int) (k : Nat) : Nat := if r.getD 1 0 ≤ (k : Int) ∧ (k : Int) < r.getD 2 0 then 1 else 0
def hits (T : List (List Int)) (k : Nat) : Nat := (T.map fun r => hit r k).sum
def RgtP (n x : Nat) (T : List (List Int)) : Prop := (∀ r ∈ T, Vld n x r) ∧ ∀ k, k < n → hits T k = 1
def Fine (ds : List Nat) (L : List (List (List Int))) : Prop := L.length = ds.length ∧ ∀ y, y < ds.length → RgtP (nln ds y) y (L.getD y [])
def BigP (L : List (List (List Int))) (x : Nat) : Prop := ∃ y, y < x ∧ 64 < (L.getD y []).length
theorem hits_succ (T : List (List Int)) (i k : Nat) (hi : i < T.length) : hits (T.take (i + 1)) k = hits (T.take i) k + hit (T.getD i []) k := by
  unfold hits
  rw [List.take_add_one, List.getElem?_eq_getElem hi, List.map_append, List.sum_append]
  simp [List.getD, List.getElem?_eq_getElem hi]
theorem hits_le (T : List (List Int)) (k : Nat) : hits T k ≤ T.length := by
  induction T with
  | nil => simp [hits]
  | cons r T ih =>
    have h1 : hit r k ≤ 1 := by unfold hit; split <;> omega
    simp only [hits, List.map_cons, List.sum_cons, List.length_cons] at ih ⊢
    omega
theorem valid_succ {n x : Nat} {T : List (List Int)} {i : Nat} (hi : i < T.length) (h : ∀ r ∈ T.take i, Vld n x r) (h1 : Vld n x (T.getD i [])) : ∀ r ∈ T.take (i + 1), Vld n x r := by
  intro r hr
  rw [List.take_add_one, List.getElem?_eq_getElem hi] at hr
  rcases List.mem_append.mp hr with h2 | h2
  · exact h r h2
  · simp only [Option.toList_some, List.mem_singleton] at h2
    rw [h2]
    simpa [List.getD, List.getElem?_eq_getElem hi] using h1
theorem getD_mem {T : List (List Int)} {i : Nat} (hi : i < T.length) : T.getD i [] ∈ T := by
  rw [List.getD, List.getElem?_eq_getElem hi]
  exact List.getElem_mem hi
/-- Those lines of axis x transformed of which D says so. -/
def trS (ds xs : List Nat) (x : Nat) (back : Bool) (D : Nat → Bool) : List Nat :=
  tb (prd2 ds) fun p => if D (lnO (beh ds (x + 1)) (sz ds x) p) = true then (alo ds x back (cf xs) p).val else xs.getD p 0
theorem trS_length (ds xs : List Nat) (x : Nat) (back : Bool) (D : Nat → Bool) : (trS ds xs x back D).length = prd2 ds := tb_length _ _
theorem trS_none {ds xs : List Nat} (hl : xs.length = prd2 ds) (x : Nat) (back : Bool) : trS ds xs x back (fun _ => false) = xs := by
  have : trS ds xs x back (fun _ => false) = tb xs.length (fun p => xs.getD p 0) := by
    unfold trS; rw [hl]
    exact tb_congr fun p _ => if_neg (by simp)
  rw [this, tb_self]
/-- A number of a line hangs on that line alone. -/
theorem alo_same {ds : List Nat} (h : Shp ds) (x : Nat) (hx : x < ds.length) (b : Bool) {f g : Nat → F} (p : Nat) (hp : p < prd2 ds)
    (hfg : ∀ q, q < prd2 ds → lnO (beh ds (x + 1)) (sz ds x) q = lnO (beh ds (x + 1)) (sz ds x) p → f q = g q) : alo ds x b f p = alo ds x b g p := by
  have hu := beh_pos h (x + 1)
  have hd := P2_pos (h.at x hx)
  have hk := dg_lt (u := beh ds (x + 1)) (p := p) hd
  unfold alo ax
  congr 1
  refine dft_congr (fun s hs => ?_) _
  have e : st (beh ds (x + 1)) (sz ds x) p s = ps (beh ds (x + 1)) (sz ds x) (lnO (beh ds (x + 1)) (sz ds x) p) s := by
    have := ps_st (i := lnO (beh ds (x + 1)) (sz ds x) p) hu hk s
    rw [ps_of hu p] at this
    exact this
  rw [e]
  refine hfg _ ?_ (ps_ln hu hs)
  have hln : lnO (beh ds (x + 1)) (sz ds x) p < beh ds (x + 1) * prd2 (ds.take x) := by
    rw [prd2_at ds x hx] at hp
    exact ln_lt hu hp
  rw [prd2_at ds x hx]
  exact ps_lt hu hln hs
theorem trS_step {ds : List Nat} (h : Shp ds) (xs : List Nat) (x : Nat) (hx : x < ds.length) (back : Bool) (D : Nat → Bool) (f l : Nat) (hD : ∀ i, f ≤ i → i < l → D i = false) :
    trn ds (trS ds xs x back D) x f l back = trS ds xs x back (fun i => D i || (decide (f ≤ i) && decide (i < l))) := by
  unfold trn trK
  conv => rhs; unfold trS
  refine tb_congr fun p hp => ?_
  by_cases hin : f ≤ lnO (beh ds (x + 1)) (sz ds x) p ∧ lnO (beh ds (x + 1)) (sz ds x) p < l
  · rw [if_pos ⟨hin.1, .inl hin.2⟩, if_pos (by simp [hin.1, hin.2])]
    congr 1
    refine alo_same h x hx back p hp fun q hq e => ?_
    unfold cf
    congr 1
    unfold trS
    rw [tb_get _ _ _ hq, e, if_neg (by rw [hD _ hin.1 hin.2]; simp)]
  · rw [if_neg (by omega)]
    have e : ((D (lnO (beh ds (x + 1)) (sz ds x) p) || (decide (f ≤ lnO (beh ds (x + 1)) (sz ds x) p) && decide (lnO (beh ds (x + 1)) (sz ds x) p < l))) = true) = (D (lnO (beh ds (x + 1)) (sz ds x) p) = true) := by
      by_cases h1 : f ≤ lnO (beh ds (x + 1)) (sz ds x) p
      · have h2 : ¬ lnO (beh ds (x + 1)) (sz ds x) p < l := fun h2 => hin ⟨h1, h2⟩
        simp [h1, h2]
      · simp [h1]
    simp only [e]
    unfold trS
    rw [tb_get _ _ _ hp]
theorem trS_all {ds : List Nat} (h : Shp ds) (xs : List Nat) (x : Nat) (hx : x < ds.length) (back : Bool) (D : Nat → Bool) (hD : ∀ i, i < nln ds x → D i = true) : trS ds xs x back D = mk (prd2 ds) (alo ds x back (cf xs)) := by
  unfold trS tb mk
  refine List.map_congr_left fun p hp => ?_
  have := List.mem_range.mp hp
  rw [prd2_at ds x hx] at this
  rw [if_pos (hD _ (ln_lt (beh_pos h (x + 1)) this))]

/-- A list, each number by P. -/
def nmL (xs : List Nat) : List Nat := xs.map fN
theorem nmL_length (xs : List Nat) : (nmL xs).length = xs.length := by simp [nmL]
theorem nmL_get (xs : List Nat) (i : Nat) : (nmL xs).getD i 0 = fN (xs.getD i 0) := by
  unfold nmL
  rw [List.getD, List.getD, List.getElem?_map]
  cases xs[i]? <;> rfl
theorem cf_nmL (xs : List Nat) : cf (nmL xs) = cf xs := funext fun i => by
  unfold cf
  rw [nmL_get, toF_fN]
theorem fN_small {a : Nat} (h : a < P) : fN a = a := by rw [fN_eq, Nat.mod_eq_of_lt h]
theorem nmL_tb (n : Nat) (g : Nat → Nat) : nmL (tb n g) = tb n (fun p => fN (g p)) := by simp [nmL, tb]
theorem nmL_trS (ds xs : List Nat) (x : Nat) (back : Bool) (D : Nat → Bool) : nmL (trS ds xs x back D) = trS ds (nmL xs) x back D := by
  unfold trS
  rw [nmL_tb, cf_nmL]
  refine tb_congr fun p _ => ?_
  split
  · exact fN_small (Fin.isLt _)
  · rw [nmL_get]
theorem trS_stepN {ds : List Nat} (h : Shp ds) (xs : List Nat) (x : Nat) (hx : x < ds.length) (back : Bool) (D : Nat → Bool) (f l : Nat) (hD : ∀ i, f ≤ i → i < l → D i = false) :
    trn ds (nmL (trS ds xs x back D)) x f l back = trS ds (nmL xs) x back (fun i => D i || (decide (f ≤ i) && decide (i < l))) := by
  rw [nmL_trS]
  exact trS_step h (nmL xs) x hx back D f l hD

end Go.Proofs.YtmggccepmicjhagGreatDoor
