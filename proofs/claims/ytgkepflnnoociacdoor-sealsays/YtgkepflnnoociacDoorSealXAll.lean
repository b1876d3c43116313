/-
  Texts that stood one behind the other, as one.
-/
import Derived.Test.YtgkepflnnoociacDoorSealM
import Derived.Test.YtgkepflnnoociacDoorRefLines
import Derived.Test.YtgkepflnnoociacDoorManyN
import Derived.Test.YtgkepflnnoociacDoorSl
import Derived.Test.YtgkepflnnoociacDoorSlIAll
/-! What package seal answers, as functions of what it is handed. -/
namespace Go.Proofs.YtgkepflnnoociacDoor

/-- The transform's numbers at the corners; the numbers of the shifted array. -/
def crW (ds xs : List Nat) : List Nat := (crs ds (prd2 ds)).map fun q => (who ds false (cf xs) ds.length q).val
def shW (ds : List Nat) (bs : List Int) (xs : List Nat) : List Nat := mk (prd2 ds) (fun k => cf xs (shN ds bs k))
/-- The axes of a shape. -/
def dsZ (zs : List Int) : List Nat := zs.map Int.toNat
theorem dsZ_of {zs : List Int} {ds : List Nat} (h : Good zs ds) : dsZ zs = ds := by
  unfold dsZ
  rw [h.2.2.1, List.map_map]
  have hid : (Int.toNat ∘ fun (d : Nat) => (d : Int)) = id := funext fun d => by simp
  rw [hid, List.map_id]
open Classical in
/-- A shape's error; that of an array of so many numbers. -/
noncomputable def spE (zs : List Int) : Int := if Good zs (dsZ zs) then (if prd2 (dsZ zs) ≤ 1024 then 0 else 2) else 1
noncomputable def slE (zs : List Int) (n : Nat) : Int := if spE zs = 0 then (if n = prd2 (dsZ zs) then 0 else 5) else spE zs
noncomputable def siE (zs : List Int) (n b : Nat) : Int := if slE zs n = 0 then (if b = zs.length then 0 else 1) else slE zs n
noncomputable def ofV (zs : List Int) (xs : List Nat) (key : Nat) : Nat := if slE zs xs.length = 0 then pE xs key else 0
noncomputable def coL (zs : List Int) (xs : List Nat) : List Nat := if slE zs xs.length = 0 then crW (dsZ zs) xs else []
noncomputable def siL (zs : List Int) (xs : List Nat) (bs : List Int) : List Nat := if siE zs xs.length bs.length = 0 then shW (dsZ zs) bs xs else []
theorem spE_ok {zs : List Int} {ds : List Nat} (h : Good zs ds) (hn : prd2 ds ≤ 1024) : spE zs = 0 := by
  unfold spE
  rw [dsZ_of h, if_pos h, if_pos hn]
theorem spE_large {zs : List Int} {ds : List Nat} (h : Good zs ds) (hn : 1024 < prd2 ds) : spE zs = 2 := by
  unfold spE
  rw [dsZ_of h, if_pos h, if_neg (by omega)]
theorem spE_bad {zs : List Int} (h : ∀ ds, ¬ Good zs ds) : spE zs = 1 := by
  unfold spE
  rw [if_neg (h _)]
theorem sl_bad {zs : List Int} (h : spE zs ≠ 0) (xs : List Nat) (bs : List Int) (key : Nat) : slE zs xs.length = spE zs ∧ siE zs xs.length bs.length = spE zs ∧ ofV zs xs key = 0 ∧ coL zs xs = [] ∧ siL zs xs bs = [] := by
  have e1 : slE zs xs.length = spE zs := by unfold slE; rw [if_neg h]
  have e2 : siE zs xs.length bs.length = spE zs := by unfold siE; rw [e1, if_neg h]
  refine ⟨e1, e2, ?_, ?_, ?_⟩
  · unfold ofV; rw [e1, if_neg h]
  · unfold coL; rw [e1, if_neg h]
  · unfold siL; rw [e2, if_neg h]
theorem sl_form {zs : List Int} (h : spE zs = 0) (xs : List Nat) (bs : List Int) (key : Nat) (hl : xs.length ≠ prd2 (dsZ zs)) : slE zs xs.length = 5 ∧ siE zs xs.length bs.length = 5 ∧ ofV zs xs key = 0 ∧ coL zs xs = [] ∧ siL zs xs bs = [] := by
  have e1 : slE zs xs.length = 5 := by unfold slE; rw [if_pos h, if_neg hl]
  have e2 : siE zs xs.length bs.length = 5 := by unfold siE; rw [e1, if_neg (by decide)]
  refine ⟨e1, e2, ?_, ?_, ?_⟩
  · unfold ofV; rw [e1, if_neg (by decide)]
  · unfold coL; rw [e1, if_neg (by decide)]
  · unfold siL; rw [e2, if_neg (by decide)]
theorem sl_arg {zs : List Int} (h : spE zs = 0) (xs : List Nat) (bs : List Int) (key : Nat) (hl : xs.length = prd2 (dsZ zs)) (hb : bs.length ≠ zs.length) : slE zs xs.length = 0 ∧ siE zs xs.length bs.length = 1 ∧ ofV zs xs key = pE xs key ∧ coL zs xs = crW (dsZ zs) xs ∧ siL zs xs bs = [] := by
  have e1 : slE zs xs.length = 0 := by unfold slE; rw [if_pos h, if_pos hl]
  have e2 : siE zs xs.length bs.length = 1 := by unfold siE; rw [e1, if_pos rfl, if_neg hb]
  refine ⟨e1, e2, ?_, ?_, ?_⟩
  · unfold ofV; rw [e1, if_pos rfl]
  · unfold coL; rw [e1, if_pos rfl]
  · unfold siL; rw [e2, if_neg (by decide)]
theorem sl_ok {zs : List Int} (h : spE zs = 0) (xs : List Nat) (bs : List Int) (key : Nat) (hl : xs.length = prd2 (dsZ zs)) (hb : bs.length = zs.length) : slE zs xs.length = 0 ∧ siE zs xs.length bs.length = 0 ∧ ofV zs xs key = pE xs key ∧ coL zs xs = crW (dsZ zs) xs ∧ siL zs xs bs = shW (dsZ zs) bs xs := by
  have e1 : slE zs xs.length = 0 := by unfold slE; rw [if_pos h, if_pos hl]
  have e2 : siE zs xs.length bs.length = 0 := by unfold siE; rw [e1, if_pos rfl, if_pos hb]
  refine ⟨e1, e2, ?_, ?_, ?_⟩
  · unfold ofV; rw [e1, if_pos rfl]
  · unfold coL; rw [e1, if_pos rfl]
  · unfold siL; rw [e2, if_pos rfl]

end Go.Proofs.YtgkepflnnoociacDoor

/-! The lines of an axis by their numbers; an array some of whose lines are transformed. -/
namespace Go.Proofs.YtgkepflnnoociacDoor

/-- Number k of line i; the line of number p. -/
def ps (u d i k : Nat) : Nat := i / u * (u * d) + i % u + k * u
def lnO (u d p : Nat) : Nat := p / (u * d) * u + p % u
theorem ps_low {u d i k : Nat} (hu : 0 < u) (hk : k < d) : k * u + i % u < u * d := low_lt hk (Nat.mod_lt _ hu)
theorem ps_eq (u d i k : Nat) : ps u d i k = i / u * (u * d) + (k * u + i % u) := by unfold ps; omega
theorem ps_div {u d i k : Nat} (hu : 0 < u) (hk : k < d) : ps u d i k / (u * d) = i / u := by
  rw [ps_eq]; exact div_of (ps_low hu hk)
theorem ps_mod {u d i k : Nat} (hu : 0 < u) : ps u d i k % u = i % u := by
  unfold ps
  have e : i / u * (u * d) + i % u + k * u = (i / u * d + k) * u + i % u := by grind
  rw [e]; exact mod_of (Nat.mod_lt _ hu)
theorem ps_dg {u d i k : Nat} (hu : 0 < u) (hk : k < d) : dg u d (ps u d i k) = k := by
  unfold dg ps
  have e : i / u * (u * d) + i % u + k * u = (i / u * d + k) * u + i % u := by grind
  rw [e, div_of (Nat.mod_lt _ hu)]
  exact mod_of hk
theorem ps_ln {u d i k : Nat} (hu : 0 < u) (hk : k < d) : lnO u d (ps u d i k) = i := by
  unfold lnO
  rw [ps_div hu hk, ps_mod hu, Nat.mul_comm, Nat.div_add_mod]
theorem ps_st {u d i k : Nat} (hu : 0 < u) (hk : k < d) (s : Nat) : st u d (ps u d i k) s = ps u d i s := by
  unfold st
  rw [ps_div hu hk, ps_mod hu]
  unfold ps; omega
theorem ps_of {u d : Nat} (hu : 0 < u) (p : Nat) : ps u d (lnO u d p) (dg u d p) = p := by
  have h1 : lnO u d p / u = p / (u * d) := div_of (Nat.mod_lt _ hu)
  have h2 : lnO u d p % u = p % u := mod_of (Nat.mod_lt _ hu)
  unfold ps
  rw [h1, h2]
  have := st_self u d p
  unfold st at this
  omega
theorem ps_lt {u d m i k : Nat} (hu : 0 < u) (hi : i < u * m) (hk : k < d) : ps u d i k < u * d * m := by
  rw [ps_eq]
  have h1 : i / u < m := Nat.div_lt_of_lt_mul hi
  have h2 : (i / u + 1) * (u * d) ≤ m * (u * d) := Nat.mul_le_mul_right _ h1
  have h3 := ps_low (i := i) hu hk
  rw [Nat.add_mul, Nat.one_mul, Nat.mul_comm m] at h2
  omega
theorem ln_lt {u d m p : Nat} (hu : 0 < u) (hp : p < u * d * m) : lnO u d p < u * m := by
  unfold lnO
  have h1 : p / (u * d) < m := Nat.div_lt_of_lt_mul hp
  have h2 : (p / (u * d) + 1) * u ≤ m * u := Nat.mul_le_mul_right _ h1
  have h3 := Nat.mod_lt p hu
  rw [Nat.add_mul, Nat.one_mul, Nat.mul_comm m] at h2
  omega

/-- How many lines begin ahead of number k. -/
def cnL (u d k : Nat) : Nat := k / (u * d) * u + min (k % (u * d)) u
theorem cnL_step {u d : Nat} (hu : 0 < u) (hd : 0 < d) (k : Nat) : (dg u d k = 0 → cnL u d (k + 1) = cnL u d k + 1 ∧ ps u d (cnL u d k) 0 = k) ∧ (dg u d k ≠ 0 → cnL u d (k + 1) = cnL u d k) := by
  have hD : 0 < u * d := Nat.mul_pos hu hd
  have hle : u ≤ u * d := Nat.le_mul_of_pos_right _ hd
  obtain ⟨q, r, hr, rfl⟩ : ∃ q r, r < u * d ∧ k = q * (u * d) + r := ⟨k / (u * d), k % (u * d), Nat.mod_lt _ hD, by rw [Nat.mul_comm, Nat.div_add_mod]⟩
  have hdg : dg u d (q * (u * d) + r) = r / u := by
    unfold dg
    have e : q * (u * d) + r = u * (d * q) + r := by grind
    rw [e, Nat.mul_add_div hu, Nat.mul_add_mod, Nat.mod_eq_of_lt (Nat.div_lt_of_lt_mul hr)]
  have hc : cnL u d (q * (u * d) + r) = q * u + min r u := by
    unfold cnL; rw [div_of hr, mod_of hr]
  have hc1 : cnL u d (q * (u * d) + r + 1) = if r + 1 < u * d then q * u + min (r + 1) u else (q + 1) * u := by
    unfold cnL
    by_cases h : r + 1 < u * d
    · rw [if_pos h, Nat.add_assoc, div_of h, mod_of h]
    · have e : q * (u * d) + r + 1 = (q + 1) * (u * d) + 0 := by rw [Nat.add_mul, Nat.one_mul]; omega
      rw [if_neg h, e, div_of hD, mod_of hD, Nat.zero_min, Nat.add_zero]
  rw [hdg, hc1, hc]
  refine ⟨fun h0 => ?_, fun h0 => ?_⟩
  · have hru : r < u := by
      rcases Nat.lt_or_ge r u with h | h
      · exact h
      · have := Nat.div_pos h hu; omega
    rw [show min r u = r from Nat.min_eq_left (by omega)]
    refine ⟨?_, ?_⟩
    · by_cases h : r + 1 < u * d
      · rw [if_pos h, Nat.min_eq_left (by omega)]; omega
      · rw [if_neg h, Nat.add_mul, Nat.one_mul]; omega
    · unfold ps
      rw [div_of hru, mod_of hru]; omega
  · have hru : u ≤ r := by
      rcases Nat.lt_or_ge r u with h | h
      · rw [Nat.div_eq_of_lt h] at h0; omega
      · exact h
    rw [Nat.min_eq_right hru]
    by_cases h : r + 1 < u * d
    · rw [if_pos h, Nat.min_eq_right (by omega)]
    · rw [if_neg h, Nat.add_mul, Nat.one_mul]
theorem lns_eqK {ds : List Nat} (h : Shp ds) (x : Nat) (hx : x < ds.length) (k : Nat) : lns ds x k = (List.range (cnL (beh ds (x + 1)) (sz ds x) k)).map fun i => lin ds x (ps (beh ds (x + 1)) (sz ds x) i 0) (sz ds x) := by
  have hu := beh_pos h (x + 1)
  have hd := P2_pos (h.at x hx)
  induction k with
  | zero => simp [lns, cnL]
  | succ k ih =>
    have hst := cnL_step hu hd k
    rw [lns]
    by_cases h0 : plc ds k x = 0
    · rw [if_pos h0, (hst.1 h0).1, List.range_succ, List.map_append, ih]
      congr 1
      show [lin ds x k (ds.getD x 0)] = [lin ds x (ps (beh ds (x + 1)) (sz ds x) (cnL (beh ds (x + 1)) (sz ds x) k) 0) (sz ds x)]
      rw [(hst.1 h0).2]; rfl
    · rw [if_neg h0, hst.2 h0, ih]
theorem cnL_end {u d : Nat} (hu : 0 < u) (hd : 0 < d) (m : Nat) : cnL u d (u * d * m) = u * m := by
  unfold cnL
  have hD : 0 < u * d := Nat.mul_pos hu hd
  rw [Nat.mul_div_cancel_left _ hD, Nat.mul_mod_right, Nat.zero_min, Nat.add_zero, Nat.mul_comm]
/-- How many lines an axis has. -/
def nln (ds : List Nat) (x : Nat) : Nat := beh ds (x + 1) * prd2 (ds.take x)
theorem lns_eq {ds : List Nat} (h : Shp ds) (x : Nat) (hx : x < ds.length) : lns ds x (prd2 ds) = (List.range (nln ds x)).map fun i => lin ds x (ps (beh ds (x + 1)) (sz ds x) i 0) (sz ds x) := by
  rw [lns_eqK h x hx, prd2_at ds x hx, cnL_end (beh_pos h _) (P2_pos (h.at x hx))]; rfl
theorem nln_div {ds : List Nat} (h : Shp ds) (x : Nat) (hx : x < ds.length) : prd2 ds / sz ds x = nln ds x := by
  have hd := P2_pos (h.at x hx)
  rw [prd2_at ds x hx]
  unfold nln
  rw [show beh ds (x + 1) * sz ds x * prd2 (ds.take x) = sz ds x * (beh ds (x + 1) * prd2 (ds.take x)) by grind, Nat.mul_div_cancel_left _ hd]
theorem lin_ps (ds : List Nat) (x i t : Nat) (ht : t < sz ds x) : (lin ds x (ps (beh ds (x + 1)) (sz ds x) i 0) (sz ds x)).getD t 0 = ps (beh ds (x + 1)) (sz ds x) i t := by
  simp only [lin, List.getD, List.getElem?_map, List.getElem?_range ht, Option.map_some, Option.getD_some]
  unfold ps
  rw [Nat.zero_mul, Nat.add_zero]; rfl

/-- A list by its numbers. -/
def tb (n : Nat) (g : Nat → Nat) : List Nat := (List.range n).map g
theorem tb_length (n : Nat) (g : Nat → Nat) : (tb n g).length = n := by simp [tb]
theorem tb_get (n : Nat) (g : Nat → Nat) (i : Nat) (h : i < n) : (tb n g).getD i 0 = g i := by simp [tb, List.getD, h]
theorem tb_congr {n : Nat} {g h : Nat → Nat} (e : ∀ i, i < n → g i = h i) : tb n g = tb n h := by
  unfold tb
  exact List.map_congr_left fun i hi => e i (List.mem_range.mp hi)
theorem tb_self (xs : List Nat) : tb xs.length (fun p => xs.getD p 0) = xs := by
  apply List.ext_getElem
  · exact tb_length _ _
  · intro i h1 h2
    simp [tb, List.getD, h2]
theorem tb_set (n : Nat) (g : Nat → Nat) (j v : Nat) : (tb n g).set j v = tb n (fun p => if p = j then v else g p) := by
  apply List.ext_getElem
  · rw [List.length_set, tb_length, tb_length]
  · intro i h1 h2
    rw [List.getElem_set]
    rw [tb_length] at h2
    by_cases e : j = i
    · rw [if_pos e]; simp [tb, e]
    · rw [if_neg e]; simp [tb, Ne.symm e]
/-- Lines from f up to i - 1 transformed, and the first k numbers of line i. -/
def trK (ds : List Nat) (xs : List Nat) (x f : Nat) (back : Bool) (i k : Nat) : List Nat :=
  tb (prd2 ds) fun p => if f ≤ lnO (beh ds (x + 1)) (sz ds x) p ∧ (lnO (beh ds (x + 1)) (sz ds x) p < i ∨ (lnO (beh ds (x + 1)) (sz ds x) p = i ∧ dg (beh ds (x + 1)) (sz ds x) p < k)) then (alo ds x back (cf xs) p).val else xs.getD p 0
/-- Lines from f up to l - 1 transformed. -/
def trn (ds : List Nat) (xs : List Nat) (x f l : Nat) (back : Bool) : List Nat := trK ds xs x f back l 0
theorem trK_length (ds xs : List Nat) (x f : Nat) (back : Bool) (i k : Nat) : (trK ds xs x f back i k).length = prd2 ds := tb_length _ _
theorem trK_start {ds xs : List Nat} (hl : xs.length = prd2 ds) (x f : Nat) (back : Bool) : trK ds xs x f back f 0 = xs := by
  have : trK ds xs x f back f 0 = tb xs.length (fun p => xs.getD p 0) := by
    unfold trK
    rw [hl]
    exact tb_congr fun p _ => if_neg (by omega)
  rw [this, tb_self]
theorem trK_line {ds : List Nat} (h : Shp ds) (xs : List Nat) (x : Nat) (hx : x < ds.length) (f : Nat) (back : Bool) (i : Nat) : f ≤ i → trK ds xs x f back i (sz ds x) = trK ds xs x f back (i + 1) 0 := by
  intro _
  unfold trK
  refine tb_congr fun p _ => ?_
  have hd := dg_lt (u := beh ds (x + 1)) (p := p) (P2_pos (h.at x hx))
  congr 1
  simp only [eq_iff_iff]
  omega
theorem trK_set {ds : List Nat} (h : Shp ds) (xs : List Nat) (x : Nat) (f : Nat) (back : Bool) (i k : Nat) (hf : f ≤ i) (hk : k < sz ds x) :
    (trK ds xs x f back i k).set (ps (beh ds (x + 1)) (sz ds x) i k) (alo ds x back (cf xs) (ps (beh ds (x + 1)) (sz ds x) i k)).val = trK ds xs x f back i (k + 1) := by
  have hu := beh_pos h (x + 1)
  unfold trK
  rw [tb_set]
  refine tb_congr fun p _ => ?_
  by_cases e : p = ps (beh ds (x + 1)) (sz ds x) i k
  · rw [if_pos e, e, ps_ln hu hk, ps_dg hu hk, if_pos (by omega)]
  · rw [if_neg e]
    have hne : ¬ (lnO (beh ds (x + 1)) (sz ds x) p = i ∧ dg (beh ds (x + 1)) (sz ds x) p = k) := fun ⟨h1, h2⟩ => by
      apply e
      rw [← ps_of hu p, h1, h2]
    congr 1
    simp only [eq_iff_iff]
    omega
/-- Number k of a line's transform is number k of that line of the array's. -/
theorem alo_line {ds : List Nat} (h : Shp ds) (xs : List Nat) (x : Nat) (back : Bool) (i k kk : Nat) (hk : k < sz ds x) (hkk : sz ds x = 2 ^ kk) (ys : List Nat) (hy : ∀ t, t < sz ds x → ys.getD t 0 = xs.getD (ps (beh ds (x + 1)) (sz ds x) i t) 0) :
    alo ds x back (cf xs) (ps (beh ds (x + 1)) (sz ds x) i k) = (if back then bw ys kk k else fw ys kk k) := by
  have hu := beh_pos h (x + 1)
  have hlg : Nat.log2 (sz ds x) = kk := by rw [hkk]; exact Nat.log2_two_pow
  unfold alo ax
  have e : dft (axW back (sz ds x)) (sz ds x) (fun s => cf xs (st (beh ds (x + 1)) (sz ds x) (ps (beh ds (x + 1)) (sz ds x) i k) s)) (dg (beh ds (x + 1)) (sz ds x) (ps (beh ds (x + 1)) (sz ds x) i k)) = dft (axW back (sz ds x)) (2 ^ kk) (cf ys) k := by
    rw [ps_dg hu hk, ← hkk]
    refine dft_congr (fun s hs => ?_) k
    rw [ps_st hu hk]
    unfold cf
    rw [hy s hs]
  rw [e]
  cases back
  · show 1 * dft (toF (rt (Nat.log2 (sz ds x)))) (2 ^ kk) (cf ys) k = fw ys kk k
    rw [hlg]; unfold fw; grind
  · show inv (toF (sz ds x)) * dft (inv (toF (rt (Nat.log2 (sz ds x))))) (2 ^ kk) (cf ys) k = bw ys kk k
    rw [hlg, hkk]; rfl
theorem trn_all {ds : List Nat} (h : Shp ds) (xs : List Nat) (x : Nat) (hx : x < ds.length) (back : Bool) : trn ds xs x 0 (nln ds x) back = mk (prd2 ds) (alo ds x back (cf xs)) := by
  unfold trn trK tb mk
  refine List.map_congr_left fun p hp => ?_
  have := List.mem_range.mp hp
  rw [prd2_at ds x hx] at this
  have h1 := ln_lt (beh_pos h (x + 1)) this
  rw [if_pos]
  unfold nln
  omega

end Go.Proofs.YtgkepflnnoociacDoor

/-! Places that are chosen of each axis, and the numbers that they make: the corners, and what comes to each place of a shifted array; no program in sight. -/
namespace Go.Proofs.YtgkepflnnoociacDoor

/-! ### One axis more -/
def wA (a : List Nat) (d : Nat) (ch : List Nat) : List Nat := a.flatMap fun m => ch.map fun p => m * d + p
def nA (ds : List Nat) (ch : Nat → List Nat) : Nat → List Nat
  | 0 => [0]
  | x + 1 => wA (nA ds ch x) (sz ds x) (ch x)
theorem wA_length (a : List Nat) (d : Nat) (ch : List Nat) : (wA a d ch).length = a.length * ch.length := by
  unfold wA
  induction a with
  | nil => simp
  | cons m a ih => rw [List.flatMap_cons, List.length_append, List.length_map, ih, List.length_cons, Nat.add_mul, Nat.one_mul, Nat.add_comm]
theorem wA_lt {a : List Nat} {d n : Nat} {ch : List Nat} (ha : ∀ m ∈ a, m < n) (hc : ∀ p ∈ ch, p < d) : ∀ z ∈ wA a d ch, z < n * d := fun z h => by
  unfold wA at h
  obtain ⟨m, hm, hz⟩ := List.mem_flatMap.mp h
  obtain ⟨p, hp, rfl⟩ := List.mem_map.mp hz
  have h1 := ha m hm
  have h2 := hc p hp
  have h3 : (m + 1) * d ≤ n * d := Nat.mul_le_mul_right _ h1
  rw [Nat.add_mul, Nat.one_mul] at h3
  omega
/-- Under way: i numbers with all places, and the next one with j of them. -/
def wB (a : List Nat) (d : Nat) (ch : List Nat) (i j : Nat) : List Nat := wA (a.take i) d ch ++ (ch.take j).map fun p => a.getD i 0 * d + p
theorem wB_zero (a : List Nat) (d : Nat) (ch : List Nat) : wB a d ch 0 0 = [] := by simp [wB, wA]
theorem wB_step (a : List Nat) (d : Nat) (ch : List Nat) (i j : Nat) (hj : j < ch.length) : wB a d ch i (j + 1) = wB a d ch i j ++ [a.getD i 0 * d + ch.getD j 0] := by
  unfold wB
  rw [List.take_add_one, List.map_append, List.append_assoc]
  simp [List.getD, hj]
theorem wB_line (a : List Nat) (d : Nat) (ch : List Nat) (i : Nat) (hi : i < a.length) : wB a d ch i ch.length = wB a d ch (i + 1) 0 := by
  unfold wB wA
  rw [List.take_add_one, List.flatMap_append, List.take_length]
  simp [List.getD, hi]
theorem wB_end (a : List Nat) (d : Nat) (ch : List Nat) : wB a d ch a.length 0 = wA a d ch := by simp [wB]
theorem wB_len (a : List Nat) (d : Nat) (ch : List Nat) (i j : Nat) (ha : a.length ≤ 1024) (hc : ch.length ≤ 1024) : (wB a d ch i j).length ≤ 10000000 := by
  unfold wB
  rw [List.length_append, wA_length, List.length_map, List.length_take, List.length_take]
  have h1 : min i a.length * ch.length ≤ 1024 * 1024 := Nat.mul_le_mul (by omega) hc
  omega
theorem nA_len {ds : List Nat} {ch : Nat → List Nat} (h : ∀ y, y < ds.length → (ch y).length ≤ sz ds y) (x : Nat) (hx : x ≤ ds.length) : (nA ds ch x).length ≤ prd2 (ds.take x) := by
  induction x with
  | zero => exact Nat.le_refl _
  | succ x ih =>
    rw [nA, wA_length, prd2_take ds x (by omega)]
    exact Nat.mul_le_mul (ih (by omega)) (h x (by omega))
theorem nA_lt {ds : List Nat} {ch : Nat → List Nat} (h : ∀ y, y < ds.length → ∀ p ∈ ch y, p < sz ds y) (x : Nat) (hx : x ≤ ds.length) : ∀ z ∈ nA ds ch x, z < prd2 (ds.take x) := by
  induction x with
  | zero => intro z hz; rw [nA, List.mem_singleton] at hz; rw [hz]; exact Nat.zero_lt_one
  | succ x ih =>
    rw [nA, prd2_take ds x (by omega)]
    exact wA_lt (ih (by omega)) (h x (by omega))
theorem rng_split (n d : Nat) : List.range (n * d) = (List.range n).flatMap fun m => (List.range d).map fun p => m * d + p := by
  induction n with
  | zero => simp
  | succ n ih =>
    rw [Nat.add_mul, Nat.one_mul, List.range_add, ih, List.range_succ, List.flatMap_append]
    simp
theorem split_div {m d p : Nat} (h : p < d) : (m * d + p) / d = m ∧ (m * d + p) % d = p := by
  have h0 : 0 < d := by omega
  constructor
  · rw [Nat.add_comm, Nat.add_mul_div_right _ _ h0, Nat.div_eq_of_lt h, Nat.zero_add]
  · rw [Nat.add_comm, Nat.add_mul_mod_self_right, Nat.mod_eq_of_lt h]
theorem flatMap_congr' {α β : Type} {l : List α} {f g : α → List β} (h : ∀ a ∈ l, f a = g a) : l.flatMap f = l.flatMap g := by
  induction l with
  | nil => rfl
  | cons a l ih => rw [List.flatMap_cons, List.flatMap_cons, h a (by simp), ih fun b hb => h b (by simp [hb])]
/-- Of all places of an axis each told by a function. -/
theorem wA_map (n d : Nat) (g f : Nat → Nat) : wA ((List.range n).map g) d ((List.range d).map f) = (List.range (n * d)).map fun k => g (k / d) * d + f (k % d) := by
  unfold wA
  rw [rng_split, List.map_flatMap, List.flatMap_map]
  refine flatMap_congr' fun m _ => ?_
  rw [List.map_map, List.map_map]
  refine List.map_congr_left fun p hp => ?_
  have h := split_div (m := m) (List.mem_range.mp hp)
  simp only [Function.comp, h.1, h.2]
/-- Some of the places of an axis. -/
theorem wA_filter (n d : Nat) (c q : Nat → Bool) : wA ((List.range n).filter c) d ((List.range d).filter q) = (List.range (n * d)).filter fun k => c (k / d) && q (k % d) := by
  unfold wA
  rw [rng_split, List.filter_flatMap]
  have e : ∀ (l : List Nat) (f : Nat → List Nat), (l.filter c).flatMap f = l.flatMap fun m => if c m then f m else [] := fun l f => by
    induction l with
    | nil => rfl
    | cons a l ih =>
      rw [List.filter_cons]
      cases h : c a with
      | true => simp [h, ih]
      | false => simp [h, ih]
  rw [e]
  refine flatMap_congr' fun m _ => ?_
  rw [List.filter_map]
  have e2 : (List.range d).filter ((fun k => c (k / d) && q (k % d)) ∘ fun p => m * d + p) = (List.range d).filter fun p => c m && q p := by
    refine List.filter_congr fun p hp => ?_
    have h := split_div (m := m) (List.mem_range.mp hp)
    simp only [Function.comp, h.1, h.2]
  rw [e2]
  cases h : c m with
  | true => simp
  | false => simp

/-! ### A shift -/
def shX (d : Nat) (b : Int) : List Nat := (List.range d).map fun p => (((p : Nat) : Int) - b % (d : Int)) % (d : Int) |>.toNat
theorem shX_length (d : Nat) (b : Int) : (shX d b).length = d := by simp [shX]
theorem shX_get (d : Nat) (b : Int) (p : Nat) (hp : p < d) : (shX d b).getD p 0 = ((((p : Nat) : Int) - b % (d : Int)) % (d : Int)).toNat := by simp [shX, List.getD, hp]
theorem shX_lt (d : Nat) (b : Int) : ∀ p ∈ shX d b, p < d := fun p hp => by
  obtain ⟨q, hq, rfl⟩ := List.mem_map.mp hp
  have h0 := List.mem_range.mp hq
  have h1 := Int.emod_lt_of_pos (((q : Nat) : Int) - b % (d : Int)) (show (0 : Int) < (d : Int) by omega)
  have h2 := Int.emod_nonneg (((q : Nat) : Int) - b % (d : Int)) (show (d : Int) ≠ 0 by omega)
  omega
def shG (ds : List Nat) (bs : List Int) : Nat → Nat → Nat
  | 0, _ => 0
  | x + 1, k => shG ds bs x (k / sz ds x) * sz ds x + ((((k % sz ds x : Nat) : Int) - bs.getD x 0 % (sz ds x : Int)) % (sz ds x : Int)).toNat
theorem nA_shift (ds : List Nat) (bs : List Int) (x : Nat) (hx : x ≤ ds.length) : nA ds (fun y => shX (sz ds y) (bs.getD y 0)) x = (List.range (prd2 (ds.take x))).map (shG ds bs x) := by
  induction x with
  | zero => rfl
  | succ x ih =>
    rw [nA, ih (by omega), prd2_take ds x (by omega)]
    exact wA_map _ _ _ _
theorem shG_plf {ds : List Nat} (bs : List Int) (k x : Nat) (hx : x ≤ ds.length) : shG ds bs x (k / beh ds x) = plf ds (shP ds bs k ds.length) x := by
  induction x with
  | zero => rfl
  | succ x ih =>
    rw [shG, plf, ← ih (by omega), Nat.div_div_eq_div_mul, ← beh_step ds x (by omega), shP_get _ _ _ _ _ (by omega), if_pos (by omega)]
    rfl
theorem nA_shN (ds : List Nat) (bs : List Int) : nA ds (fun y => shX (sz ds y) (bs.getD y 0)) ds.length = (List.range (prd2 ds)).map (shN ds bs) := by
  rw [nA_shift ds bs _ (Nat.le_refl _), List.take_length]
  refine List.map_congr_left fun k _ => ?_
  have := shG_plf (ds := ds) bs k ds.length (Nat.le_refl _)
  rw [beh_end, Nat.div_one] at this
  exact this

/-! ### Corners -/
def crX (d : Nat) : List Nat := if d = 1 then [0] else [0, d / 2]
theorem crX_lt {d : Nat} (h : 0 < d) : ∀ p ∈ crX d, p < d := fun p hp => by
  unfold crX at hp
  split at hp
  · simp at hp; omega
  · simp at hp; omega
theorem crX_len {d : Nat} (h : 0 < d) : (crX d).length ≤ d := by
  unfold crX
  split
  · simp; omega
  · simp; omega
theorem filter_one (n a : Nat) (q : Nat → Bool) (h0 : q a = true) (h : ∀ p, p < n → 0 < p → q (a + p) = false) (hn : 0 < n) : ((List.range n).map fun p => a + p).filter q = [a] := by
  obtain ⟨m, rfl⟩ : ∃ m, n = m + 1 := ⟨n - 1, by omega⟩
  rw [List.range_succ_eq_map, List.map_cons, Nat.add_zero, List.filter_cons_of_pos h0]
  congr 1
  rw [List.filter_eq_nil_iff]
  intro z hz
  obtain ⟨y, hy, rfl⟩ := List.mem_map.mp hz
  obtain ⟨t, ht, rfl⟩ := List.mem_map.mp hy
  have := List.mem_range.mp ht
  rw [h (t + 1) (by omega) (by omega)]
  decide
theorem crX_eq {d : Nat} (h : P2 d) : crX d = (List.range d).filter fun p => decide (p = 0 ∨ 2 * p = d) := by
  unfold crX
  by_cases e : d = 1
  · subst e; decide
  · rw [if_neg e]
    obtain ⟨k, rfl⟩ := h
    cases k with
    | zero => exact absurd rfl e
    | succ k =>
      have hp : 0 < 2 ^ k := Nat.pow_pos (by decide)
      rw [Nat.pow_succ]
      generalize 2 ^ k = m at *
      rw [show m * 2 / 2 = m by omega, show m * 2 = m + m by omega, List.range_add, List.filter_append]
      have e1 := filter_one m 0 (fun p => decide (p = 0 ∨ 2 * p = m + m)) (by simp) (fun p h1 h2 => by simp; omega) hp
      have e2 := filter_one m m (fun p => decide (p = 0 ∨ 2 * p = m + m)) (by simp; omega) (fun p h1 h2 => by simp; omega) hp
      rw [e2]
      simp only [Nat.zero_add, List.map_id'] at e1
      rw [e1]
      rfl
def crC (ds : List Nat) : Nat → Nat → Bool
  | 0, _ => true
  | x + 1, k => crC ds x (k / sz ds x) && decide (k % sz ds x = 0 ∨ 2 * (k % sz ds x) = sz ds x)
theorem nA_crC {ds : List Nat} (hS : Shp ds) (x : Nat) (hx : x ≤ ds.length) : nA ds (fun y => crX (sz ds y)) x = (List.range (prd2 (ds.take x))).filter (crC ds x) := by
  induction x with
  | zero => rfl
  | succ x ih =>
    rw [nA, ih (by omega), prd2_take ds x (by omega), crX_eq (hS.at x (by omega))]
    exact wA_filter _ _ _ _
theorem crC_crn (ds : List Nat) (k x : Nat) (hx : x ≤ ds.length) : crC ds x (k / beh ds x) = decide (∀ t, t < x → CrY ds k t) := by
  induction x with
  | zero => simp [crC]
  | succ x ih =>
    rw [crC, Nat.div_div_eq_div_mul, ← beh_step ds x (by omega), ih (by omega)]
    rw [Bool.eq_iff_iff, Bool.and_eq_true, decide_eq_true_eq, decide_eq_true_eq, decide_eq_true_eq]
    constructor
    · rintro ⟨h1, h2⟩ t ht
      rcases Nat.lt_or_ge t x with q | q
      · exact h1 t q
      · obtain rfl : t = x := by omega
        exact h2
    · intro h
      exact ⟨fun t ht => h t (by omega), h x (by omega)⟩
theorem nA_crs {ds : List Nat} (hS : Shp ds) : nA ds (fun y => crX (sz ds y)) ds.length = crs ds (prd2 ds) := by
  rw [nA_crC hS _ (Nat.le_refl _), List.take_length]
  unfold crs
  refine List.filter_congr fun k _ => ?_
  have := crC_crn ds k ds.length (Nat.le_refl _)
  rw [beh_end, Nat.div_one] at this
  rw [this]
  rfl

/-! ### Numbers at places -/
theorem at_shW (ds : List Nat) (bs : List Int) (xs : List Nat) : (nA ds (fun y => shX (sz ds y) (bs.getD y 0)) ds.length).map (fun q => fN (xs.getD q 0)) = shW ds bs xs := by
  rw [nA_shN, List.map_map]
  unfold shW mk
  refine List.map_congr_left fun k _ => ?_
  rw [Function.comp, fN_val]
  rfl
theorem at_crW {ds : List Nat} (hS : Shp ds) (xs : List Nat) : (nA ds (fun y => crX (sz ds y)) ds.length).map (fun q => fN ((mk (prd2 ds) (who ds false (cf xs) ds.length)).getD q 0)) = crW ds xs := by
  rw [nA_crs hS]
  unfold crW
  refine List.map_congr_left fun q hq => ?_
  rw [mk_getD _ _ _ (crs_mem hq).1]
  have := val_lt (who ds false (cf xs) ds.length q)
  rw [fN_eq, Nat.mod_eq_of_lt this]
/-- Under way: the first k numbers of a list, then noughts. -/
def fil (L : List Nat) (k : Nat) : List Nat := tb L.length fun t => if t < k then L.getD t 0 else 0
theorem fil_length (L : List Nat) (k : Nat) : (fil L k).length = L.length := tb_length _ _
theorem fil_zero (L : List Nat) : fil L 0 = List.replicate L.length 0 := by
  have e : fil L 0 = tb L.length (fun _ => 0) := tb_congr fun p _ => if_neg (by omega)
  rw [e]
  unfold tb
  rw [List.map_const', List.length_range]
theorem fil_set (L : List Nat) (k : Nat) : (fil L k).set k (L.getD k 0) = fil L (k + 1) := by
  unfold fil
  rw [tb_set]
  refine tb_congr fun t _ => ?_
  by_cases e : t = k
  · rw [if_pos e, if_pos (by omega), e]
  · rw [if_neg e]
    by_cases h : t < k
    · rw [if_pos h, if_pos (by omega)]
    · rw [if_neg h, if_neg (by omega)]
theorem fil_end (L : List Nat) : fil L L.length = L := by
  have e : fil L L.length = tb L.length (fun p => L.getD p 0) := tb_congr fun p hp => if_pos hp
  rw [e, tb_self]

end Go.Proofs.YtgkepflnnoociacDoor

/-! Worlds of which one block alone has changed; slices that lie elsewhere. -/
namespace Go.Proofs.YtgkepflnnoociacDoor
open Go.RowKit

/-- Of what was there, block g alone may have changed. -/
structure Bar (g : Nat) (w w' : World) : Prop where
  os : w'.os = w.os
  tape : w'.tape = w.tape
  output : w'.output = w.output
  size : w.heap.size ≤ w'.heap.size
  block : ∀ k, k < w.heap.size → k ≠ g → w'.heap[k]? = w.heap[k]?

theorem Bar.refl (g : Nat) (w : World) : Bar g w w := ⟨rfl, rfl, rfl, Nat.le_refl _, fun _ _ _ => rfl⟩
theorem Bar.trans {g : Nat} {a b c : World} (h : Bar g a b) (k : Bar g b c) : Bar g a c :=
  ⟨k.os.trans h.os, k.tape.trans h.tape, k.output.trans h.output, Nat.le_trans h.size k.size, fun i hi hg => (k.block i (Nat.lt_of_lt_of_le hi h.size) hg).trans (h.block i hi hg)⟩
theorem Bar.drewN {g : Nat} {a b : World} (h : Bar g a b) (n : Nat) : Bar g a (b.drewN n) := ⟨h.os, h.tape, h.output, h.size, h.block⟩
theorem Bar.setCell {g : Nat} {a b : World} (h : Bar g a b) (i : Nat) (u : Value) : Bar g a (b.setCell ⟨g, i, none⟩ u) :=
  h.trans ⟨rfl, rfl, rfl, by simp [World.setCell], fun k _ hg => Below.heap_setCell _ _ _ _ hg⟩
theorem Bar.of_below {g : Nat} {a b : World} (h : Below a.heap.size a b) : Bar g a b := ⟨h.os, h.tape, h.output, h.size, fun k hk _ => h.block k hk⟩
theorem Bar.below {g B : Nat} {a b : World} (h : Bar g a b) (hg : B ≤ g) (hB : B ≤ a.heap.size) : Below B a b := ⟨h.os, h.tape, h.output, h.size, fun k hk => h.block k (by omega) (by omega)⟩
/-- A block that was not there when a call began may change. -/
theorem Bar.fresh {g : Nat} {a b c : World} (h : Below a.heap.size a b) (hg : a.heap.size ≤ g) (k : Bar g b c) : Below a.heap.size a c :=
  h.trans (k.below hg h.size)

/-- The slice value v lies not in block g. -/
def Apart (v : Value) (g : Nat) : Prop := ∀ b off s l c, v = .slice (some ⟨b, off, s⟩) l c → 0 < l → b ≠ g
theorem IsU.bar {w w' : World} {v : Value} {xs : List Nat} {g : Nat} (h : IsU w v xs) (ha : Apart v g) (hb : Bar g w w') : IsU w' v xs := by
  obtain ⟨a, cap, rfl, h1, h2, hc, hr⟩ := h
  refine ⟨a, cap, rfl, h1, h2, fun i hi => ?_, hr⟩
  obtain ⟨b, off, rfl, hcell⟩ := hc i hi
  exact ⟨b, off, rfl, (World.cell?_of_block (w := w) (hb.block b (block_lt hcell) (ha b off none _ _ rfl (by omega)))).trans hcell⟩
theorem IsU.apart {w : World} {v : Value} {xs : List Nat} {g : Nat} (h : IsU w v xs) (hg : w.heap.size ≤ g) : Apart v g := by
  obtain ⟨a, cap, rfl, h1, h2, hc, hr⟩ := h
  intro b off s l c e hl
  simp only [Value.slice.injEq] at e
  obtain ⟨rfl, rfl, rfl⟩ := e
  obtain ⟨b', off', e2, hcell⟩ := hc 0 hl
  simp only [Option.some.injEq, Addr.mk.injEq] at e2
  obtain ⟨rfl, rfl, _⟩ := e2
  have := block_lt hcell
  omega
theorem apart_of {b off l c g : Nat} (h : b ≠ g) : Apart (.slice (some ⟨b, off, none⟩) l c) g := by
  intro b' off' s l' c' e _
  simp only [Value.slice.injEq, Option.some.injEq, Addr.mk.injEq] at e
  omega

end Go.Proofs.YtgkepflnnoociacDoor

/-! Blocks that hold a list of ints and nothing else; what a store and a make do to them. -/
namespace Go.Proofs.YtgkepflnnoociacDoor
open Go.RowKit

/-- Block g holds the ints xs, and nothing else. -/
def RowI (w : World) (g : Nat) (xs : List Nat) : Prop := w.heap[g]? = some (.cells (cellsI xs).toArray 3 (0, 0))
theorem RowI.lt {w : World} {g : Nat} {xs : List Nat} (h : RowI w g xs) : g < w.heap.size := by
  obtain ⟨hlt, _⟩ := Array.getElem?_eq_some_iff.1 h
  exact hlt
theorem RowI.cell {w : World} {g : Nat} {xs : List Nat} (h : RowI w g xs) (i : Nat) (hi : i < xs.length) : w.cell? ⟨g, i, none⟩ = some (.int .i64 ((xs.getD i 0 : Nat) : Int)) := by
  have hh : w.heap[g]? = _ := h
  have hc := cellsI_get xs i hi
  simp only [World.cell?, hh, List.getElem?_toArray]
  rw [hc]; rfl
theorem RowI.frozen {w : World} {g : Nat} {xs : List Nat} (h : RowI w g xs) (i : Nat) : w.frozen? ⟨g, i, none⟩ = false := by
  have hh : w.heap[g]? = _ := h
  simp [World.frozen?, hh]
theorem RowI.set {w : World} {g : Nat} {xs : List Nat} (h : RowI w g xs) (i x : Nat) : RowI (w.setCell ⟨g, i, none⟩ (.int .i64 (x : Int))) g (xs.set i x) := by
  have hh : w.heap[g]? = _ := h
  unfold RowI
  rw [← cellsI_set]
  simp [World.setCell, Array.getElem?_modify, hh]
theorem RowI.block {w w' : World} {g : Nat} {xs : List Nat} (h : RowI w g xs) (e : w'.heap[g]? = w.heap[g]?) : RowI w' g xs := e.trans h
theorem RowI.below {w w' : World} {g : Nat} {xs : List Nat} (h : RowI w g xs) (hb : Below w.heap.size w w') : RowI w' g xs := h.block (hb.block g h.lt)
theorem RowI.bar {w w' : World} {g g' : Nat} {xs : List Nat} (h : RowI w g' xs) (hne : g' ≠ g) (hb : Bar g w w') : RowI w' g' xs := h.block (hb.block g' h.lt hne)
theorem RowI.cast {w : World} {g : Nat} {xs ys : List Nat} (h : RowI w g xs) (e : xs = ys) : RowI w g ys := e ▸ h
theorem RowI.isIN {w : World} {g n : Nat} {xs : List Nat} (h : RowI w g xs) (hl : xs.length ≤ 1000000000) (hn : xs.length = n) : IsI w (.slice (some ⟨g, 0, none⟩) n n) xs := by
  subst hn
  exact ⟨some ⟨g, 0, none⟩, xs.length, rfl, Nat.le_refl _, by unfold maxLen; omega, fun i hi => ⟨g, 0, rfl, by rw [Nat.zero_add]; exact h.cell i hi⟩⟩
theorem made_int (n : Nat) : (madeCells (Value.int .i64 0).cells (n * 1)).toList = cellsI (List.replicate n 0) := by
  rw [show (Value.int .i64 0).cells = #[Value.int .i64 0] from rfl, Nat.mul_one, toList_madeCells_one]
  unfold cellsI
  rw [List.map_replicate]; rfl
theorem wp_makeI {ops : Array Oper} {rest : List Oper} {o : Oper} {a : Act} {Q : Exit → Act → World → Prop} {w : World} (hgd : o.guard = none) (l c : Operand) (ho : o.op = Op.makeSlice 22 l c) (n : Nat)
    (hl : a.eval l = .int .i64 (n : Int)) (hc : a.eval c = .int .i64 (n : Int)) (hn : n ≤ 1000000000)
    (h : ∀ g w', Hid (g = w.heap.size) → RowI w' g (List.replicate n 0) → Below w.heap.size w w' → wpList Tryd.prog ops Q rest (a.put o.dst (.slice (some ⟨g, 0, none⟩) n n)) w') :
    wpList Tryd.prog ops Q (o :: rest) a w := by
  obtain ⟨i0, hi, hz0, hz1, hz2⟩ := info_parts info_int
  refine wpList_make_full w hgd l c 22 ho w.heap.size 3 i0 (.int .i64 0) 1 Tryd.underlying22 hi hz0 hz1 .i64 .i64 n n n hl hc rfl rfl (by rw [hz2]; omega) (by unfold maxLen; omega) (Nat.le_refl _) ?_
  intro w' hown hgrow
  rw [made_int] at hown
  refine h w.heap.size w' rfl ?_ ((Below.refl _ _).grown hgrow (Nat.le_refl _) (fun k hk => by cases hk))
  rcases hown.2 with ⟨hv, _⟩ | ⟨g', cap', cur, hv, hg, hh, h1, h2, h3, h4⟩
  · cases hv
  · simp only [Value.slice.injEq, Option.some.injEq, Addr.mk.injEq, and_true, true_and] at hv
    obtain ⟨rfl, rfl⟩ := hv
    have hcur : cur.toList = cellsI (List.replicate n 0) := by rw [← h4, Nat.mul_one, List.take_of_length_le (by simp [h3])]
    have hcur2 : cur = (cellsI (List.replicate n 0)).toArray := by rw [← hcur]
    rw [hcur2] at hh
    exact hh

end Go.Proofs.YtgkepflnnoociacDoor
