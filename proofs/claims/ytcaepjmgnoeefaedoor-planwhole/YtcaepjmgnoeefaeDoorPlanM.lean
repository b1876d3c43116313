/-
  Tasks and phases that are right; lines transformed in whatever order; no program in sight.
-/
import Derived.Test.YtcaepjmgnoeefaeDoorManyL
namespace Go.Proofs.YtcaepjmgnoeefaeDoor

/-- A right task of an axis of n lines; how often a line is met. -/
def Vld (n x : Nat) (r : List Int) : Prop := r.getD 0 0 = (x : Int) ∧ 0 ≤ r.getD 1 0 ∧ r.getD 2 0 ≤ (n : Int) ∧ r.getD 1 0 < r.getD 2 0
def hit (r : List Int) (k : Nat) : Nat := if r.getD 1 0 ≤ (k : Int) ∧ (k : Int) < r.getD 2 0 then 1 else 0
def hits (T : List (List Int)) (k : Nat) : Nat := (T.map fun r => hit r k).sum
def RgtP (n x : Nat) (T : List (List Int)) : Prop := (∀ r ∈ T, Vld n x r) ∧ ∀ k, k < n → hits T k = 1
def Fine (ds : List Nat) (L : List (List (List Int))) : Prop := L.length = ds.length ∧ ∀ y, y < ds.length → RgtP (nln ds y) y (L.getD y [])
def BigP (L : List (List (List Int))) (x : Nat) : Prop := ∃ y, y < x ∧ 64 < (L.getD y []).length
theorem hits_succ (T : List (List Int)) (i k : Nat) (hi : i < T.length) : hits (T.take (i + 1)) k = hits (T.take i) k + hit (T.getD i []) k := by
  unfold hits
  rw [List.take_add_one, List.getElem?_eq_getElem hi, List.map_append, List.sum_append]
  simp [List.getD, List.getElem?_eq_getElem hi]
theorem hits_le (T : List (List Int)) (k : Nat) : hits T k ≤ T.length := by
  induction T with
  | nil => simp [hits]
  | cons r T ih =>
    have h1 : hit r k ≤ 1 := by unfold hit; split <;> omega
    simp only [hits, List.map_cons, List.sum_cons, List.length_cons] at ih ⊢
    omega
theorem valid_succ {n x : Nat} {T : List (List Int)} {i : Nat} (hi : i < T.length) (h : ∀ r ∈ T.take i, Vld n x r) (h1 : Vld n x (T.getD i [])) : ∀ r ∈ T.take (i + 1), Vld n x r := by
  intro r hr
  rw [List.take_add_one, List.getElem?_eq_getElem hi] at hr
  rcases List.mem_append.mp hr with h2 | h2
  · exact h r h2
  · simp only [Option.toList_some, List.mem_singleton] at h2
    rw [h2]
    simpa [List.getD, List.getElem?_eq_getElem hi] using h1
theorem getD_mem {T : List (List Int)} {i : Nat} (hi : i < T.length) : T.getD i [] ∈ T := by
  rw [List.getD, List.getElem?_eq_getElem hi]
  exact List.getElem_mem hi
/-- Those lines of axis x transformed of which D says so. -/
def trS (ds xs : List Nat) (x : Nat) (back : Bool) (D : Nat → Bool) : List Nat :=
  tb (prd2 ds) fun p => if D (lnO (beh ds (x + 1)) (sz ds x) p) = true then (alo ds x back (cf xs) p).val else xs.getD p 0
theorem trS_length (ds xs : List Nat) (x : Nat) (back : Bool) (D : Nat → Bool) : (trS ds xs x back D).length = prd2 ds := tb_length _ _
theorem trS_none {ds xs : List Nat} (hl : xs.length = prd2 ds) (x : Nat) (back : Bool) : trS ds xs x back (fun _ => false) = xs := by
  have : trS ds xs x back (fun _ => false) = tb xs.length (fun p => xs.getD p 0) := by
    unfold trS; rw [hl]
    exact tb_congr fun p _ => if_neg (by simp)
  rw [this, tb_self]
/-- A number of a line hangs on that line alone. -/
theorem alo_same {ds : List Nat} (h : Shp ds) (x : Nat) (hx : x < ds.length) (b : Bool) {f g : Nat → F} (p : Nat) (hp : p < prd2 ds)
    (hfg : ∀ q, q < prd2 ds → lnO (beh ds (x + 1)) (sz ds x) q = lnO (beh ds (x + 1)) (sz ds x) p → f q = g q) : alo ds x b f p = alo ds x b g p := by
  have hu := beh_pos h (x + 1)
  have hd := P2_pos (h.at x hx)
  have hk := dg_lt (u := beh ds (x + 1)) (p := p) hd
  unfold alo ax
  congr 1
  refine dft_congr (fun s hs => ?_) _
  have e : st (beh ds (x + 1)) (sz ds x) p s = ps (beh ds (x + 1)) (sz ds x) (lnO (beh ds (x + 1)) (sz ds x) p) s := by
    have := ps_st (i := lnO (beh ds (x + 1)) (sz ds x) p) hu hk s
    rw [ps_of hu p] at this
    exact this
  rw [e]
  refine hfg _ ?_ (ps_ln hu hs)
  have hln : lnO (beh ds (x + 1)) (sz ds x) p < beh ds (x + 1) * prd2 (ds.take x) := by
    rw [prd2_at ds x hx] at hp
    exact ln_lt hu hp
  rw [prd2_at ds x hx]
  exact ps_lt hu hln hs
theorem trS_step {ds : List Nat} (h : Shp ds) (xs : List Nat) (x : Nat) (hx : x < ds.length) (back : Bool) (D : Nat → Bool) (f l : Nat) (hD : ∀ i, f ≤ i → i < l → D i = false) :
    trn ds (trS ds xs x back D) x f l back = trS ds xs x back (fun i => D i || (decide (f ≤ i) && decide (i < l))) := by
  unfold trn trK
  conv => rhs; unfold trS
  refine tb_congr fun p hp => ?_
  by_cases hin : f ≤ lnO (beh ds (x + 1)) (sz ds x) p ∧ lnO (beh ds (x + 1)) (sz ds x) p < l
  · rw [if_pos ⟨hin.1, .inl hin.2⟩, if_pos (by simp [hin.1, hin.2])]
    congr 1
    refine alo_same h x hx back p hp fun q hq e => ?_
    unfold cf
    congr 1
    unfold trS
    rw [tb_get _ _ _ hq, e, if_neg (by rw [hD _ hin.1 hin.2]; simp)]
  · rw [if_neg (by omega)]
    have e : ((D (lnO (beh ds (x + 1)) (sz ds x) p) || (decide (f ≤ lnO (beh ds (x + 1)) (sz ds x) p) && decide (lnO (beh ds (x + 1)) (sz ds x) p < l))) = true) = (D (lnO (beh ds (x + 1)) (sz ds x) p) = true) := by
      by_cases h1 : f ≤ lnO (beh ds (x + 1)) (sz ds x) p
      · have h2 : ¬ lnO (beh ds (x + 1)) (sz ds x) p < l := fun h2 => hin ⟨h1, h2⟩
        simp [h1, h2]
      · simp [h1]
    simp only [e]
    unfold trS
    rw [tb_get _ _ _ hp]
theorem trS_all {ds : List Nat} (h : Shp ds) (xs : List Nat) (x : Nat) (hx : x < ds.length) (back : Bool) (D : Nat → Bool) (hD : ∀ i, i < nln ds x → D i = true) : trS ds xs x back D = mk (prd2 ds) (alo ds x back (cf xs)) := by
  unfold trS tb mk
  refine List.map_congr_left fun p hp => ?_
  have := List.mem_range.mp hp
  rw [prd2_at ds x hx] at this
  rw [if_pos (hD _ (ln_lt (beh_pos h (x + 1)) this))]

/-- A list, each number by P. -/
def nmL (xs : List Nat) : List Nat := xs.map fN
theorem nmL_length (xs : List Nat) : (nmL xs).length = xs.length := by simp [nmL]
theorem nmL_get (xs : List Nat) (i : Nat) : (nmL xs).getD i 0 = fN (xs.getD i 0) := by
  unfold nmL
  rw [List.getD, List.getD, List.getElem?_map]
  cases xs[i]? <;> rfl
theorem cf_nmL (xs : List Nat) : cf (nmL xs) = cf xs := funext fun i => by
  unfold cf
  rw [nmL_get, toF_fN]
theorem fN_small {a : Nat} (h : a < P) : fN a = a := by rw [fN_eq, Nat.mod_eq_of_lt h]
theorem nmL_tb (n : Nat) (g : Nat → Nat) : nmL (tb n g) = tb n (fun p => fN (g p)) := by simp [nmL, tb]
theorem nmL_trS (ds xs : List Nat) (x : Nat) (back : Bool) (D : Nat → Bool) : nmL (trS ds xs x back D) = trS ds (nmL xs) x back D := by
  unfold trS
  rw [nmL_tb, cf_nmL]
  refine tb_congr fun p _ => ?_
  split
  · exact fN_small (Fin.isLt _)
  · rw [nmL_get]
theorem trS_stepN {ds : List Nat} (h : Shp ds) (xs : List Nat) (x : Nat) (hx : x < ds.length) (back : Bool) (D : Nat → Bool) (f l : Nat) (hD : ∀ i, f ≤ i → i < l → D i = false) :
    trn ds (nmL (trS ds xs x back D)) x f l back = trS ds (nmL xs) x back (fun i => D i || (decide (f ≤ i) && decide (i < l))) := by
  rw [nmL_trS]
  exact trS_step h (nmL xs) x hx back D f l hD

end Go.Proofs.YtcaepjmgnoeefaeDoor
