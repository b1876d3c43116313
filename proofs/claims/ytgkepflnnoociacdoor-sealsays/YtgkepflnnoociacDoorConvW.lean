/-
  The steps of the landed conv: numbers weighed by powers, two lists multiplied number by number, the bits of a size; no program in sight.
-/
import Derived.Test.YtgkepflnnoociacDoorPure
import Derived.Test.YtgkepflnnoociacDoorNttBAll
namespace Go.Proofs.YtgkepflnnoociacDoor

theorem list_cf (zs : List Nat) (n : Nat) (f : Nat → F) (hl : zs.length = n) (hz : ∀ x ∈ zs, x < P) (h : ∀ i, i < n → cf zs i = f i) : zs = mk n f := by
  refine List.ext_getElem (by rw [hl, mk_length]) fun i h1 h2 => ?_
  have e1 := h i (by omega)
  have e2 : zs[i] = zs.getD i 0 := by simp [List.getD, List.getElem?_eq_getElem h1]
  have e3 : (mk n f)[i] = (mk n f).getD i 0 := by simp [List.getD, List.getElem?_eq_getElem h2]
  have hlt : zs.getD i 0 < P := by rw [← e2]; exact hz _ (List.getElem_mem h1)
  rw [e2, e3, mk_getD _ _ _ (by omega), ← e1]
  show zs.getD i 0 = (toF (zs.getD i 0)).val
  exact (Nat.mod_eq_of_lt hlt).symm

/-- The powers of r, one by one. -/
def pwN (r : Nat) : Nat → Nat
  | 0 => 1
  | i + 1 => fM (pwN r i) r
theorem toF_pwN (r i : Nat) : toF (pwN r i) = pw (toF r) i := by
  induction i with
  | zero => rfl
  | succ i ih => rw [pwN, toF_fM, ih, pw_succ]
theorem pwN_lt (r i : Nat) : ((pwN r i : Nat) : Int) < 18446744073709551616 := by
  cases i with
  | zero => show ((1 : Nat) : Int) < _; decide
  | succ i => have := fM_lt (pwN r i) r; rw [pwN]; omega
/-- The first i numbers weighed. -/
def wgK (xs : List Nat) (r : Nat) : Nat → List Nat
  | 0 => List.replicate xs.length 0
  | i + 1 => (wgK xs r i).set i (fM (xs.getD i 0) (pwN r i))
theorem wgK_length (xs : List Nat) (r i : Nat) : (wgK xs r i).length = xs.length := by
  induction i with
  | zero => exact List.length_replicate
  | succ i ih => rw [wgK, List.length_set, ih]
theorem wgK_P (xs : List Nat) (r i : Nat) : ∀ x ∈ wgK xs r i, x < P := by
  induction i with
  | zero => intro x hx; rw [List.eq_of_mem_replicate hx]; decide
  | succ i ih =>
    intro x hx
    rw [wgK] at hx
    rcases List.mem_or_eq_of_mem_set hx with h1 | h1
    · exact ih x h1
    · rw [h1]; have := fM_lt (xs.getD i 0) (pwN r i); unfold P; omega
theorem cf_wgK (xs : List Nat) (r i : Nat) (hi : i ≤ xs.length) (j : Nat) : cf (wgK xs r i) j = if j < i then cf xs j * pw (toF r) j else 0 := by
  induction i generalizing j with
  | zero =>
    rw [if_neg (by omega)]
    show toF ((List.replicate xs.length 0).getD j 0) = 0
    rw [List.getD, List.getElem?_replicate]
    split <;> rfl
  | succ i ih =>
    rw [wgK, cf_setN _ _ _ _ (by rw [wgK_length]; omega), toF_fM, toF_pwN]
    by_cases e : j = i
    · rw [if_pos e, if_pos (by omega), e]; rfl
    · rw [if_neg e, ih (by omega) j]
      by_cases e2 : j < i
      · rw [if_pos e2, if_pos (by omega)]
      · rw [if_neg e2, if_neg (by omega)]
/-- All of them. -/
def wg (xs : List Nat) (r : Nat) : List Nat := wgK xs r xs.length
theorem wg_length (xs : List Nat) (r : Nat) : (wg xs r).length = xs.length := wgK_length _ _ _
theorem cf_wg (xs : List Nat) (r j : Nat) : cf (wg xs r) j = cf xs j * pw (toF r) j := by
  unfold wg
  rw [cf_wgK _ _ _ (Nat.le_refl _)]
  by_cases h : j < xs.length
  · rw [if_pos h]
  · rw [if_neg h, cf_ge (by omega)]; grind

/-- The first i numbers of two lists multiplied. -/
def muK (zs ys : List Nat) : Nat → List Nat
  | 0 => zs
  | i + 1 => (muK zs ys i).set i (fM ((muK zs ys i).getD i 0) (ys.getD i 0))
theorem muK_length (zs ys : List Nat) (i : Nat) : (muK zs ys i).length = zs.length := by
  induction i with
  | zero => rfl
  | succ i ih => rw [muK, List.length_set, ih]
theorem muK_P (zs ys : List Nat) (i : Nat) (hz : ∀ x ∈ zs, x < P) : ∀ x ∈ muK zs ys i, x < P := by
  induction i with
  | zero => exact hz
  | succ i ih =>
    intro x hx
    rw [muK] at hx
    rcases List.mem_or_eq_of_mem_set hx with h1 | h1
    · exact ih x h1
    · rw [h1]; have := fM_lt ((muK zs ys i).getD i 0) (ys.getD i 0); unfold P; omega
theorem cf_muK (zs ys : List Nat) (i : Nat) (hi : i ≤ zs.length) (j : Nat) : cf (muK zs ys i) j = if j < i then cf zs j * cf ys j else cf zs j := by
  induction i generalizing j with
  | zero => rw [if_neg (by omega)]; rfl
  | succ i ih =>
    have h1 := ih (by omega) i
    rw [if_neg (by omega)] at h1
    rw [muK, cf_setN _ _ _ _ (by rw [muK_length]; omega), toF_fM]
    show (if j = i then cf (muK zs ys i) i * cf ys i else cf (muK zs ys i) j) = _
    rw [h1]
    by_cases e : j = i
    · rw [if_pos e, if_pos (by omega), e]
    · rw [if_neg e, ih (by omega) j]
      by_cases e2 : j < i
      · rw [if_pos e2, if_pos (by omega)]
      · rw [if_neg e2, if_neg (by omega)]

/-- There, number by number, and back: of the lists that the transforms answer. -/
theorem cyc_mu (A B : List Nat) (k : Nat) (hk : k ≤ 32) (hA : A.length = 2 ^ k) (hB : B.length = 2 ^ k) :
    mk (2 ^ k) (bw (muK (mk (2 ^ k) (fw A k)) (mk (2 ^ k) (fw B k)) (2 ^ k)) k) = mk (2 ^ k) (rnd A B false) := by
  refine cyc_way A B k hk hA hB _ fun t ht => ?_
  rw [cf_muK _ _ _ (by rw [mk_length]; exact Nat.le_refl _), if_pos ht, cf_mk, if_pos ht, cf_mk, if_pos ht]
/-- Skew: weighed, round, and the weights taken off. -/
theorem skew_way (A B : List Nat) (k : Nat) (hk : k ≤ 10) (hA : A.length = 2 ^ k) (_hB : B.length = 2 ^ k) (c v : Nat) (hc : c = rt (k + 1)) (hv : v = fW c 18446744069414584319) :
    wg (mk A.length (rnd (wg A c) (wg B c) false)) v = mk A.length (rnd A B true) := by
  have hone : toF c * toF v = 1 := by rw [hv, toF_inv, hc]; exact rt_inv (k + 1) (by omega)
  refine list_cf _ _ _ (by rw [wg_length, mk_length]) (wgK_P _ _ _) fun i hi => ?_
  rw [cf_wg, cf_mk, if_pos hi, rnd_skewK A B (wg A c) (wg B c) (toF c) (wg_length _ _) (by rw [hA, hc]; exact rt_neg k (by omega)) (fun j => cf_wg A c j) (fun j => cf_wg B c j)]
  have e : pw (toF c) i * pw (toF v) i = 1 := by rw [← pw_mul_base, hone, pw_one]
  calc pw (toF c) i * rnd A B true i * pw (toF v) i = (pw (toF c) i * pw (toF v) i) * rnd A B true i := by grind
    _ = rnd A B true i := by rw [e]; grind

end Go.Proofs.YtgkepflnnoociacDoor
