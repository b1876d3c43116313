/-
  Texts that stood one behind the other, as one.
-/
import Derived.Test.YtgkepflnnoociagDoorPure
import Derived.Test.YtgkepflnnoociagDoorSlZAll
import Derived.Test.YtgkepflnnoociagDoorSlAppAll
import Derived.Test.YtgkepflnnoociagDoorFieldAll
import Derived.Lib.Walk
import Derived.Lib.BitFns
import Derived.Deep.Light
import Derived.Test.YtgkepflnnoociagDoorRows
import Derived.WalkKit
import Derived.WalkSpells
import Derived.WalkLawsBesides
import Derived.Test.YtgkepflnnoociagDoorTabD
import Derived.Laws.Bits64b
/-! Transforms by halves, in the order of turned bits: what the steps of package ntt do to lists; no program in sight. -/
namespace Go.Proofs.YtgkepflnnoociagDoor

theorem rvK_step (m b c j : Nat) (hc : c < 2) : rvK (m + 1) (2 * b + c) (j + 1) = c * 2 ^ m + rvK m b j := by
  induction j with
  | zero =>
    show 0 + (2 * b + c) / 2 ^ 0 % 2 * 2 ^ (m + 1 - 1 - 0) = c * 2 ^ m + 0
    rw [Nat.pow_zero, Nat.div_one, show (2 * b + c) % 2 = c by omega, show m + 1 - 1 - 0 = m by omega]; omega
  | succ j ih =>
    rw [rvK, ih, show rvK m b (j + 1) = rvK m b j + b / 2 ^ j % 2 * 2 ^ (m - 1 - j) from rfl]
    have e : (2 * b + c) / 2 ^ (j + 1) = b / 2 ^ j := by
      rw [show 2 ^ (j + 1) = 2 * 2 ^ j by rw [Nat.pow_succ]; omega, ← Nat.div_div_eq_div_mul, show (2 * b + c) / 2 = b by omega]
    rw [e, show m + 1 - 1 - (j + 1) = m - 1 - j by omega]; omega
theorem rv_even (m b : Nat) : rv (m + 1) (2 * b) = rv m b := by
  have := rvK_step m b 0 m (by decide)
  unfold rv
  rw [show 2 * b + 0 = 2 * b from rfl] at this
  rw [this]; omega
theorem rv_odd (m b : Nat) : rv (m + 1) (2 * b + 1) = rv m b + 2 ^ m := by
  have := rvK_step m b 1 m (by decide)
  unfold rv
  rw [this]; omega
theorem rv_lt (k i : Nat) : rv k i < 2 ^ k := by
  have := rvK_le k i k (Nat.le_refl _)
  rw [Nat.sub_self, Nat.pow_zero] at this
  unfold rv; omega

/-- Of 2^k numbers f: the transform of part b of those that step s has, each 2^(k-s)-th of them. -/
def Dk (w : F) (k : Nat) (f : Nat → F) (s b t : Nat) : F := dft (pw w (2 ^ (k - s))) (2 ^ s) (fun i => f (rv (k - s) b + i * 2 ^ (k - s))) t

theorem Dk_zero (w : F) (k : Nat) (f : Nat → F) (b : Nat) : Dk w k f 0 b 0 = f (rv k b) := by
  unfold Dk dft
  rw [Nat.pow_zero, S_succ, S_zero, Nat.mul_zero, pw_zero, Nat.sub_zero]
  show 0 + f (rv k b + 0 * 2 ^ k) * 1 = f (rv k b)
  rw [Nat.zero_mul, Nat.add_zero]; grind
theorem Dk_end (w : F) (k : Nat) (f : Nat → F) (t : Nat) : Dk w k f k 0 t = dft w (2 ^ k) f t := by
  unfold Dk
  have e : pw w 1 = w := by rw [show (1 : Nat) = 0 + 1 from rfl, pw_succ, pw_zero]; grind
  rw [Nat.sub_self, Nat.pow_zero, e]
  refine dft_congr (fun i _ => ?_) t
  rw [show rv 0 0 = 0 from rfl, Nat.mul_one, Nat.zero_add]
theorem Ord.pow {w : F} {k m s : Nat} (h : Ord w k) (e : m + s = k) : Ord (pw w (2 ^ m)) s := by
  refine ⟨?_, fun j hj => ?_⟩
  · rw [← pw_mul, ← Nat.pow_add, e]; exact h.one
  · rw [← pw_mul, ← Nat.pow_add]; exact h.half (m + j) (by omega)
theorem pw_double (w : F) (m : Nat) : pw w (2 ^ m) * pw w (2 ^ m) = pw w (2 ^ (m + 1)) := by
  rw [← pw_add]; congr 1; rw [Nat.pow_succ]; omega
theorem Dk_parts (w : F) (f : Nat → F) (m s b t : Nat) : dft (pw w (2 ^ m) * pw w (2 ^ m)) (2 ^ s) (fun i => f (rv m b + 2 * i * 2 ^ m)) t = Dk w (s + 1 + m) f s (2 * b) t ∧
    dft (pw w (2 ^ m) * pw w (2 ^ m)) (2 ^ s) (fun i => f (rv m b + (2 * i + 1) * 2 ^ m)) t = Dk w (s + 1 + m) f s (2 * b + 1) t := by
  unfold Dk
  rw [pw_double, show s + 1 + m - s = m + 1 by omega, rv_even, rv_odd]
  refine ⟨dft_congr (fun i _ => ?_) t, dft_congr (fun i _ => ?_) t⟩
  · congr 1; rw [Nat.pow_succ]; grind
  · congr 1; rw [Nat.pow_succ]; grind
theorem Dk_low (w : F) (f : Nat → F) (m s b t : Nat) : Dk w (s + 1 + m) f (s + 1) b t = Dk w (s + 1 + m) f s (2 * b) t + Dk w (s + 1 + m) f s (2 * b + 1) t * pw (pw w (2 ^ m)) t := by
  obtain ⟨h1, h2⟩ := Dk_parts w f m s b t
  rw [← h1, ← h2]
  conv => lhs; unfold Dk
  rw [show s + 1 + m - (s + 1) = m by omega, Nat.pow_succ, Nat.mul_comm (2 ^ s) 2, dft_halves]
  grind
theorem Dk_high {w : F} {m s : Nat} (h : Ord w (s + 1 + m)) (f : Nat → F) (b t : Nat) : Dk w (s + 1 + m) f (s + 1) b (t + 2 ^ s) = Dk w (s + 1 + m) f s (2 * b) t - Dk w (s + 1 + m) f s (2 * b + 1) t * pw (pw w (2 ^ m)) t := by
  obtain ⟨h1, h2⟩ := Dk_parts w f m s b t
  rw [← h1, ← h2]
  conv => lhs; unfold Dk
  rw [show s + 1 + m - (s + 1) = m by omega, Nat.pow_succ, Nat.mul_comm (2 ^ s) 2, dft_upper (h.pow (m := m) (s := s + 1) (by omega))]
  grind

/-- Powers, one by one. -/
def pwJ (r : Nat) : Nat → Nat
  | 0 => 1
  | i + 1 => fM (pwJ r i) r
theorem pwJ_F (r i : Nat) : toF (pwJ r i) = pw (toF r) i := by
  induction i with
  | zero => rw [pwJ, pw_zero, toF_one]
  | succ i ih => rw [pwJ, toF_fM, ih, pw_succ]
theorem pwJ_lt (r i : Nat) : ((pwJ r i : Nat) : Int) < 18446744073709551616 := by
  cases i with
  | zero => show ((1 : Nat) : Int) < _; decide
  | succ i => rw [pwJ]; have := fM_lt (pwJ r i) r; omega

theorem cf_setN (l : List Nat) (i x t : Nat) (hi : i < l.length) : cf (l.set i x) t = if t = i then toF x else cf l t := by
  unfold cf
  by_cases h : t = i
  · subst h; simp [List.getD, hi]
  · rw [if_neg h]; simp [List.getD, Ne.symm h]

/-- The halves of 2h numbers from the place o on, i of each joined by the powers of r. -/
def joinK (zs : List Nat) (o h r : Nat) : Nat → List Nat
  | 0 => zs
  | i + 1 => ((joinK zs o h r i).set (o + i) (fA ((joinK zs o h r i).getD (o + i) 0) (fM ((joinK zs o h r i).getD (o + (i + h)) 0) (pwJ r i)))).set (o + (i + h)) (fS ((joinK zs o h r i).getD (o + i) 0) (fM ((joinK zs o h r i).getD (o + (i + h)) 0) (pwJ r i)))
theorem joinK_length (zs : List Nat) (o h r i : Nat) : (joinK zs o h r i).length = zs.length := by
  induction i with
  | zero => rfl
  | succ i ih => rw [joinK, List.length_set, List.length_set, ih]
theorem joinK_P (zs : List Nat) (o h r i : Nat) (hz : ∀ x ∈ zs, x < P) : ∀ x ∈ joinK zs o h r i, x < P := by
  induction i with
  | zero => exact hz
  | succ i ih =>
    intro x hx
    rw [joinK] at hx
    rcases List.mem_or_eq_of_mem_set hx with h1 | h1
    · rcases List.mem_or_eq_of_mem_set h1 with h2 | h2
      · exact ih x h2
      · rw [h2]; have := fA_lt ((joinK zs o h r i).getD (o + i) 0) (fM ((joinK zs o h r i).getD (o + (i + h)) 0) (pwJ r i)); unfold P; omega
    · rw [h1]; have := fS_lt ((joinK zs o h r i).getD (o + i) 0) (fM ((joinK zs o h r i).getD (o + (i + h)) 0) (pwJ r i)); unfold P; omega
theorem cf_joinK (zs : List Nat) (o h r i : Nat) (hi : i ≤ h) (hl : o + 2 * h ≤ zs.length) (j : Nat) : cf (joinK zs o h r i) j =
    if o ≤ j ∧ j < o + i then cf zs j + cf zs (j + h) * pw (toF r) (j - o)
    else if o + h ≤ j ∧ j < o + h + i then cf zs (j - h) - cf zs j * pw (toF r) (j - h - o) else cf zs j := by
  induction i generalizing j with
  | zero => rw [if_neg (by omega), if_neg (by omega)]; rfl
  | succ i ih =>
    have h1 := ih (by omega) (o + i)
    have h2 := ih (by omega) (o + (i + h))
    rw [if_neg (by omega), if_neg (by omega)] at h1 h2
    rw [joinK, cf_setN _ _ _ _ (by rw [List.length_set, joinK_length]; omega), cf_setN _ _ _ _ (by rw [joinK_length]; omega), toF_fA, toF_fS, toF_fM, pwJ_F]
    show (if j = o + (i + h) then cf (joinK zs o h r i) (o + i) - cf (joinK zs o h r i) (o + (i + h)) * pw (toF r) i else if j = o + i then cf (joinK zs o h r i) (o + i) + cf (joinK zs o h r i) (o + (i + h)) * pw (toF r) i else cf (joinK zs o h r i) j) = _
    rw [h1, h2]
    by_cases e1 : j = o + (i + h)
    · rw [if_pos e1, if_neg (by omega), if_pos (by omega), show j - h = o + i by omega, show o + i - o = i by omega, e1]
    · rw [if_neg e1]
      by_cases e2 : j = o + i
      · rw [if_pos e2, if_pos (by omega), show j - o = i by omega, e2, show o + i + h = o + (i + h) by omega]
      · rw [if_neg e2, ih (by omega) j]
        by_cases e3 : o ≤ j ∧ j < o + i
        · rw [if_pos e3, if_pos (by omega)]
        · rw [if_neg e3, if_neg (show ¬(o ≤ j ∧ j < o + (i + 1)) by omega)]
          by_cases e4 : o + h ≤ j ∧ j < o + h + i
          · rw [if_pos e4, if_pos (by omega)]
          · rw [if_neg e4, if_neg (by omega)]

/-- Step s is done. -/
structure Alls (w : F) (k : Nat) (f : Nat → F) (s : Nat) (zs : List Nat) : Prop where
  len : zs.length = 2 ^ k
  low : ∀ x ∈ zs, x < P
  all : ∀ b t, b < 2 ^ (k - s) → t < 2 ^ s → cf zs (b * 2 ^ s + t) = Dk w k f s b t
/-- Step s is done, and of the next one the first B parts. -/
structure Halfs (w : F) (k : Nat) (f : Nat → F) (s B : Nat) (zs : List Nat) : Prop where
  len : zs.length = 2 ^ k
  low : ∀ x ∈ zs, x < P
  done : ∀ b t, b < B → t < 2 ^ (s + 1) → cf zs (b * 2 ^ (s + 1) + t) = Dk w k f (s + 1) b t
  left : ∀ b t, 2 * B ≤ b → b < 2 ^ (k - s) → t < 2 ^ s → cf zs (b * 2 ^ s + t) = Dk w k f s b t
theorem Alls.start {w : F} {k s : Nat} {f : Nat → F} {zs : List Nat} (h : Alls w k f s zs) : Halfs w k f s 0 zs :=
  ⟨h.len, h.low, fun _ _ hb _ => absurd hb (Nat.not_lt_zero _), fun b t _ hb ht => h.all b t hb ht⟩
theorem Halfs.stop {w : F} {k s B : Nat} {f : Nat → F} {zs : List Nat} (h : Halfs w k f s B zs) (hB : B = 2 ^ (k - (s + 1))) : Alls w k f (s + 1) zs :=
  ⟨h.len, h.low, fun b t hb ht => h.done b t (hB ▸ hb) ht⟩
theorem Halfs.step {w : F} {k s B r : Nat} {f : Nat → F} {zs : List Nat} (h : Halfs w k f s B zs) (hw : Ord w k) (hs : s + 1 ≤ k) (hB : B < 2 ^ (k - (s + 1))) (hr : toF r = pw w (2 ^ (k - (s + 1)))) :
    Halfs w k f s (B + 1) (joinK zs (B * 2 ^ (s + 1)) (2 ^ s) r (2 ^ s)) := by
  obtain ⟨m, rfl⟩ : ∃ m, k = s + 1 + m := ⟨k - (s + 1), by omega⟩
  rw [show s + 1 + m - (s + 1) = m by omega] at hB hr
  have hlen := h.len
  have hleft := h.left
  have hdone := h.done
  have hlow := Dk_low w f m s
  have hhigh := Dk_high hw f
  have e1 : 2 ^ (s + 1) = 2 * 2 ^ s := by rw [Nat.pow_succ]; omega
  have e2 : 2 ^ (s + 1 + m) = 2 ^ m * (2 * 2 ^ s) := by rw [Nat.pow_add, e1, Nat.mul_comm]
  have e3 : 2 ^ (s + 1 + m - s) = 2 ^ m * 2 := by rw [show s + 1 + m - s = m + 1 by omega, Nat.pow_succ]
  rw [e2] at hlen
  rw [e3] at hleft
  rw [e1] at hdone ⊢
  rw [← hr] at hlow hhigh
  have hp : 0 < 2 ^ s := Nat.pow_pos (by decide)
  have hfit : (B + 1) * (2 * 2 ^ s) ≤ zs.length := by rw [hlen]; exact Nat.mul_le_mul_right _ hB
  rw [Nat.add_mul, Nat.one_mul] at hfit
  have hcf := cf_joinK zs (B * (2 * 2 ^ s)) (2 ^ s) r (2 ^ s) (Nat.le_refl _) hfit
  refine ⟨by rw [joinK_length]; exact h.len, joinK_P _ _ _ _ _ h.low, ?_, ?_⟩
  · intro b t hb ht
    rw [e1] at ht ⊢
    rw [hcf]
    rcases Nat.lt_or_ge b B with hb1 | hb1
    · have h3 : (b + 1) * (2 * 2 ^ s) ≤ B * (2 * 2 ^ s) := Nat.mul_le_mul_right _ hb1
      rw [Nat.add_mul, Nat.one_mul] at h3
      rw [if_neg (by omega), if_neg (by omega)]
      exact hdone b t hb1 ht
    · have hbB : b = B := by omega
      subst hbB
      have a1 : ∀ u, b * (2 * 2 ^ s) + u = 2 * b * 2 ^ s + u := fun u => by grind
      have a2 : ∀ u, b * (2 * 2 ^ s) + u + 2 ^ s = (2 * b + 1) * 2 ^ s + u := fun u => by grind
      rcases Nat.lt_or_ge t (2 ^ s) with ht1 | ht1
      · rw [if_pos (by omega), show b * (2 * 2 ^ s) + t - b * (2 * 2 ^ s) = t by omega, a2, a1, hleft (2 * b) t (by omega) (by omega) ht1, hleft (2 * b + 1) t (by omega) (by omega) ht1, hlow]
      · obtain ⟨u, rfl⟩ : ∃ u, t = u + 2 ^ s := ⟨t - 2 ^ s, by omega⟩
        rw [if_neg (by omega), if_pos (by omega), show b * (2 * 2 ^ s) + (u + 2 ^ s) - 2 ^ s = b * (2 * 2 ^ s) + u by omega, show b * (2 * 2 ^ s) + u - b * (2 * 2 ^ s) = u by omega,
          show b * (2 * 2 ^ s) + (u + 2 ^ s) = b * (2 * 2 ^ s) + u + 2 ^ s by omega, a2, a1, hleft (2 * b) u (by omega) (by omega) (by omega), hleft (2 * b + 1) u (by omega) (by omega) (by omega), hhigh]
  · intro b t hb1 hb2 ht
    rw [e3] at hb2
    have h3 : (2 * (B + 1)) * 2 ^ s ≤ b * 2 ^ s := Nat.mul_le_mul_right _ hb1
    have h4 : (2 * (B + 1)) * 2 ^ s = B * (2 * 2 ^ s) + 2 * 2 ^ s := by grind
    rw [hcf, if_neg (by omega), if_neg (by omega)]
    exact hleft b t (by omega) hb2 ht

end Go.Proofs.YtgkepflnnoociagDoor

/-! The steps of the landed conv: numbers weighed by powers, two lists multiplied number by number, the bits of a size; no program in sight. -/
namespace Go.Proofs.YtgkepflnnoociagDoor

theorem list_cf (zs : List Nat) (n : Nat) (f : Nat → F) (hl : zs.length = n) (hz : ∀ x ∈ zs, x < P) (h : ∀ i, i < n → cf zs i = f i) : zs = mk n f := by
  refine List.ext_getElem (by rw [hl, mk_length]) fun i h1 h2 => ?_
  have e1 := h i (by omega)
  have e2 : zs[i] = zs.getD i 0 := by simp [List.getD, List.getElem?_eq_getElem h1]
  have e3 : (mk n f)[i] = (mk n f).getD i 0 := by simp [List.getD, List.getElem?_eq_getElem h2]
  have hlt : zs.getD i 0 < P := by rw [← e2]; exact hz _ (List.getElem_mem h1)
  rw [e2, e3, mk_getD _ _ _ (by omega), ← e1]
  show zs.getD i 0 = (toF (zs.getD i 0)).val
  exact (Nat.mod_eq_of_lt hlt).symm

/-- The powers of r, one by one. -/
def pwN (r : Nat) : Nat → Nat
  | 0 => 1
  | i + 1 => fM (pwN r i) r
theorem toF_pwN (r i : Nat) : toF (pwN r i) = pw (toF r) i := by
  induction i with
  | zero => rfl
  | succ i ih => rw [pwN, toF_fM, ih, pw_succ]
theorem pwN_lt (r i : Nat) : ((pwN r i : Nat) : Int) < 18446744073709551616 := by
  cases i with
  | zero => show ((1 : Nat) : Int) < _; decide
  | succ i => have := fM_lt (pwN r i) r; rw [pwN]; omega
/-- The first i numbers weighed. -/
def wgK (xs : List Nat) (r : Nat) : Nat → List Nat
  | 0 => List.replicate xs.length 0
  | i + 1 => (wgK xs r i).set i (fM (xs.getD i 0) (pwN r i))
theorem wgK_length (xs : List Nat) (r i : Nat) : (wgK xs r i).length = xs.length := by
  induction i with
  | zero => exact List.length_replicate
  | succ i ih => rw [wgK, List.length_set, ih]
theorem wgK_P (xs : List Nat) (r i : Nat) : ∀ x ∈ wgK xs r i, x < P := by
  induction i with
  | zero => intro x hx; rw [List.eq_of_mem_replicate hx]; decide
  | succ i ih =>
    intro x hx
    rw [wgK] at hx
    rcases List.mem_or_eq_of_mem_set hx with h1 | h1
    · exact ih x h1
    · rw [h1]; have := fM_lt (xs.getD i 0) (pwN r i); unfold P; omega
theorem cf_wgK (xs : List Nat) (r i : Nat) (hi : i ≤ xs.length) (j : Nat) : cf (wgK xs r i) j = if j < i then cf xs j * pw (toF r) j else 0 := by
  induction i generalizing j with
  | zero =>
    rw [if_neg (by omega)]
    show toF ((List.replicate xs.length 0).getD j 0) = 0
    rw [List.getD, List.getElem?_replicate]
    split <;> rfl
  | succ i ih =>
    rw [wgK, cf_setN _ _ _ _ (by rw [wgK_length]; omega), toF_fM, toF_pwN]
    by_cases e : j = i
    · rw [if_pos e, if_pos (by omega), e]; rfl
    · rw [if_neg e, ih (by omega) j]
      by_cases e2 : j < i
      · rw [if_pos e2, if_pos (by omega)]
      · rw [if_neg e2, if_neg (by omega)]
/-- All of them. -/
def wg (xs : List Nat) (r : Nat) : List Nat := wgK xs r xs.length
theorem wg_length (xs : List Nat) (r : Nat) : (wg xs r).length = xs.length := wgK_length _ _ _
theorem cf_wg (xs : List Nat) (r j : Nat) : cf (wg xs r) j = cf xs j * pw (toF r) j := by
  unfold wg
  rw [cf_wgK _ _ _ (Nat.le_refl _)]
  by_cases h : j < xs.length
  · rw [if_pos h]
  · rw [if_neg h, cf_ge (by omega)]; grind

/-- The first i numbers of two lists multiplied. -/
def muK (zs ys : List Nat) : Nat → List Nat
  | 0 => zs
  | i + 1 => (muK zs ys i).set i (fM ((muK zs ys i).getD i 0) (ys.getD i 0))
theorem muK_length (zs ys : List Nat) (i : Nat) : (muK zs ys i).length = zs.length := by
  induction i with
  | zero => rfl
  | succ i ih => rw [muK, List.length_set, ih]
theorem muK_P (zs ys : List Nat) (i : Nat) (hz : ∀ x ∈ zs, x < P) : ∀ x ∈ muK zs ys i, x < P := by
  induction i with
  | zero => exact hz
  | succ i ih =>
    intro x hx
    rw [muK] at hx
    rcases List.mem_or_eq_of_mem_set hx with h1 | h1
    · exact ih x h1
    · rw [h1]; have := fM_lt ((muK zs ys i).getD i 0) (ys.getD i 0); unfold P; omega
theorem cf_muK (zs ys : List Nat) (i : Nat) (hi : i ≤ zs.length) (j : Nat) : cf (muK zs ys i) j = if j < i then cf zs j * cf ys j else cf zs j := by
  induction i generalizing j with
  | zero => rw [if_neg (by omega)]; rfl
  | succ i ih =>
    have h1 := ih (by omega) i
    rw [if_neg (by omega)] at h1
    rw [muK, cf_setN _ _ _ _ (by rw [muK_length]; omega), toF_fM]
    show (if j = i then cf (muK zs ys i) i * cf ys i else cf (muK zs ys i) j) = _
    rw [h1]
    by_cases e : j = i
    · rw [if_pos e, if_pos (by omega), e]
    · rw [if_neg e, ih (by omega) j]
      by_cases e2 : j < i
      · rw [if_pos e2, if_pos (by omega)]
      · rw [if_neg e2, if_neg (by omega)]

/-- There, number by number, and back: of the lists that the transforms answer. -/
theorem cyc_mu (A B : List Nat) (k : Nat) (hk : k ≤ 32) (hA : A.length = 2 ^ k) (hB : B.length = 2 ^ k) :
    mk (2 ^ k) (bw (muK (mk (2 ^ k) (fw A k)) (mk (2 ^ k) (fw B k)) (2 ^ k)) k) = mk (2 ^ k) (rnd A B false) := by
  refine cyc_way A B k hk hA hB _ fun t ht => ?_
  rw [cf_muK _ _ _ (by rw [mk_length]; exact Nat.le_refl _), if_pos ht, cf_mk, if_pos ht, cf_mk, if_pos ht]
/-- Skew: weighed, round, and the weights taken off. -/
theorem skew_way (A B : List Nat) (k : Nat) (hk : k ≤ 10) (hA : A.length = 2 ^ k) (_hB : B.length = 2 ^ k) (c v : Nat) (hc : c = rt (k + 1)) (hv : v = fW c 18446744069414584319) :
    wg (mk A.length (rnd (wg A c) (wg B c) false)) v = mk A.length (rnd A B true) := by
  have hone : toF c * toF v = 1 := by rw [hv, toF_inv, hc]; exact rt_inv (k + 1) (by omega)
  refine list_cf _ _ _ (by rw [wg_length, mk_length]) (wgK_P _ _ _) fun i hi => ?_
  rw [cf_wg, cf_mk, if_pos hi, rnd_skewK A B (wg A c) (wg B c) (toF c) (wg_length _ _) (by rw [hA, hc]; exact rt_neg k (by omega)) (fun j => cf_wg A c j) (fun j => cf_wg B c j)]
  have e : pw (toF c) i * pw (toF v) i = 1 := by rw [← pw_mul_base, hone, pw_one]
  calc pw (toF c) i * rnd A B true i * pw (toF v) i = (pw (toF c) i * pw (toF v) i) * rnd A B true i := by grind
    _ = rnd A B true i := by rw [e]; grind

end Go.Proofs.YtgkepflnnoociagDoor

/-! Lists of any length that a program's memory can hold: made, and read as slices. -/
namespace Go.Proofs.YtgkepflnnoociagDoor
open Go.RowKit

theorem IsU.len {w : World} {a : Option Addr} {n c : Nat} {xs : List Nat} (h : IsU w (.slice a n c) xs) : xs.length = n := by
  obtain ⟨a', c', e, -⟩ := h
  simp only [Value.slice.injEq] at e
  exact e.2.1.symm
theorem RowU.isUW {w : World} {g n : Nat} {xs : List Nat} (h : RowU w g xs) (hr : Rng xs) (hl : xs.length ≤ 35184372088832) (hn : xs.length = n) : IsU w (.slice (some ⟨g, 0, none⟩) n n) xs := by
  subst hn
  exact ⟨some ⟨g, 0, none⟩, xs.length, rfl, Nat.le_refl _, by unfold maxLen; omega, fun i hi => ⟨g, 0, rfl, by rw [Nat.zero_add]; exact h.cell i hi⟩, hr⟩

theorem wp_makeW {ops : Array Oper} {rest : List Oper} {o : Oper} {a : Act} {Q : Exit → Act → World → Prop} {w : World} (hgd : o.guard = none) (l c : Operand) (ho : o.op = Op.makeSlice 23 l c) (n : Nat)
    (hl : a.eval l = .int .i64 (n : Int)) (hc : a.eval c = .int .i64 (n : Int)) (hn : n ≤ 35184372088832)
    (h : ∀ g w', Hid (g = w.heap.size) → RowU w' g (List.replicate n 0) → Below w.heap.size w w' → wpList Tryd.prog ops Q rest (a.put o.dst (.slice (some ⟨g, 0, none⟩) n n)) w') :
    wpList Tryd.prog ops Q (o :: rest) a w := by
  obtain ⟨i0, hi, hz0, hz1, hz2⟩ := info_parts info_u64
  refine wpList_make_full w hgd l c 23 ho w.heap.size 27 i0 (.int .u64 0) 1 Tryd.underlying23 hi hz0 hz1 .i64 .i64 n n n hl hc rfl rfl (by rw [hz2]; omega) (by unfold maxLen; omega) (Nat.le_refl _) ?_
  intro w' hown hgrow
  rw [made_u64] at hown
  exact h w.heap.size w' rfl (RowU.of_owns hown) ((Below.refl _ _).grown hgrow (Nat.le_refl _) (fun k hk => by cases hk))

end Go.Proofs.YtgkepflnnoociagDoor

/-! What the helpers of package conv answer: a list weighed by the powers of a number, a list among zeros. -/
namespace Go.Proofs.YtgkepflnnoociagDoor
open Go.RowKit

set_option maxHeartbeats 2000000 in
theorem conv_weighed (w : World) (v : Value) (xs : List Nat) (r : Nat) (h : IsU w v xs) (hr64 : (r : Int) < 18446744073709551616) (hn : xs.length ≤ 35184372088832) :
    Calls Tryd.prog 68 #[v, .int .u64 (r : Int)] w fun e w' => ∃ g, e = .returned (.slice (some ⟨g, 0, none⟩) xs.length xs.length) ∧ w.heap.size ≤ g ∧ RowU w' g (wg xs r) ∧ Below w.heap.size w w' := by
  have h0 := h
  obtain ⟨a, cap, rfl, hcap, hmax, hc, hr⟩ := h
  clear hcap hmax
  go_enter Tryd.func68, Tryd.ntmps68
  go_wp2_with (at_make; refine wp_makeW rfl _ _ rfl xs.length rfl rfl hn ?_; intro g w2 hg hrow hb; replace hg : w.heap.size ≤ g := (by rw [hg.out]; exact Nat.le_refl _))
  go_loopw [6, 14] (fun vp vi wr => ∃ i : Nat, i ≤ xs.length ∧ vi = .int .i64 (i : Int) ∧ vp = .int .u64 ((pwN r i : Nat) : Int) ∧ RowU wr g (wgK xs r i) ∧ Below w.heap.size w wr)
    (fun _ vi _ => xs.length - (intOf vi).toNat)
  case atStart => exact ⟨0, Nat.zero_le _, rfl, rfl, hrow, hb⟩
  case round =>
    clear hrow hb
    obtain ⟨i, hi, rfl, rfl, hrow, hnx⟩ := hrel
    by_cases hlt : i < xs.length
    · obtain ⟨b, o', rfl, -⟩ := hc i hlt
      have hcell := (h0.below hnx).cell i hlt
      have hcS := hrow.cell i (by rw [wgK_length]; exact hlt)
      have hfr := hrow.frozen i
      have hset : Hid (RowU (wr.setCell ⟨g, i, none⟩ (.int .u64 ((fM (xs.getD i 0) (pwN r i) : Nat) : Int))) g (wgK xs r (i + 1))) := hrow.set i _
      have hp2 : Hid (pwN r (i + 1) = fM (pwN r i) r) := rfl
      have c1 := field_Mul (xs.getD i 0) (pwN r i) (range_getD hr i) (pwN_lt r i)
      have c2 := field_Mul (pwN r i) r (pwN_lt r i) hr64
      have hB2 := fun (u : Value) => hnx.setCell (p := ⟨g, i, none⟩) hg u
      have hi9 : i ≤ 35184372088832 := by omega
      clear hrow hc hr h0 hr64 hn
      generalize fM (xs.getD i 0) (pwN r i) = z at *
      generalize fM (pwN r i) r = p2 at *
      generalize (wgK xs r i).getD i 0 = old at *
      generalize pwN r i = p at *
      generalize xs.getD i 0 = x at *
      go_wp2_with (first
        | (go_at_call 66; refine Calls.mono (c1 _) ?_; rintro e w' ⟨rfl, hw⟩; rw [hw]; clear hw c1)
        | (go_at_call 66; refine Calls.mono (c2 _) ?_; rintro e w' ⟨rfl, hw⟩; rw [hw]; clear hw))
      go_roundw
      case rel => exact ⟨i + 1, by omega, by go_num, by rw [hp2.out], hset.out, hB2 _⟩
      case measure => simp only [intOf]; omega
    · have e : i = xs.length := by omega
      subst e
      have hge : xs.length ≤ xs.length := Nat.le_refl _
      clear hc hr h0
      go_wp2
      go_ret
      exact ⟨g, rfl, hg, hrow, hnx⟩

theorem conv_widened (w : World) (v : Value) (xs : List Nat) (n : Nat) (h : IsU w v xs) (hl : xs.length ≤ n) (hn : n ≤ 1000000000) :
    Calls Tryd.prog 69 #[v, .int .i64 (n : Int)] w fun e w' => ∃ g, e = .returned (.slice (some ⟨g, 0, none⟩) n n) ∧ w.heap.size ≤ g ∧ RowU w' g (lay (List.replicate n 0) 0 xs) ∧ Below w.heap.size w w' := by
  have h0 := h
  obtain ⟨a, cap, rfl, -⟩ := h
  have hof : 0 + n ≤ (List.replicate n 0).length := by simp
  go_enter Tryd.func69, Tryd.ntmps69
  go_wp2_with (first
    | (at_make; refine wp_makeG rfl _ _ rfl n rfl rfl hn ?_; intro g w2 hg hrow hb; replace hg : w.heap.size ≤ g := (by rw [hg.out]; exact Nat.le_refl _); replace h0 := h0.below hb)
    | (refine wp_copyR rfl _ _ rfl g 0 n n _ (List.replicate n 0) xs rfl rfl h0 hrow hof hl hb hg ?_; intro w3 z hrow3 hb3))
  go_ret
  exact ⟨g, rfl, hg, hrow3, hb3⟩

end Go.Proofs.YtgkepflnnoociagDoor

/-! What Len of package math/bits answers: how many bits a number has. -/
namespace Go.Proofs.YtgkepflnnoociagDoor
open Go.RowKit

/-- The bits of a number of 8, 16, 32, 64 bits. -/
def bl8 (x : Nat) : Nat := (Lib.len8 (x : Int)).toNat
def bl16 (x : Nat) : Nat := if 256 ≤ x then bl8 (x / 256) + 8 else bl8 x
def bl32 (x : Nat) : Nat := if 65536 ≤ x then bl16 (x / 65536) + 16 else bl16 x
def bl64 (x : Nat) : Nat := if 4294967296 ≤ x then bl32 (x / 4294967296) + 32 else bl32 x
theorem bl8_all : ((List.range 256).all fun x => decide (bl8 x ≤ 8)) = true := by decide +kernel
theorem bl8_le (x : Nat) (h : x < 256) : bl8 x ≤ 8 :=
  of_decide_eq_true (List.all_eq_true.mp bl8_all x (List.mem_range.mpr h))
theorem bl64_all : ((List.range 11).all fun k => bl64 (2 ^ k) == k + 1) = true := by decide +kernel
theorem bl64_pow (k : Nat) (hk : k ≤ 10) : bl64 (2 ^ k) = k + 1 :=
  beq_iff_eq.mp (List.all_eq_true.mp bl64_all k (List.mem_range.mpr (by omega)))
theorem bl64_room_all : ((List.range 1024).all fun x => decide (bl64 x ≤ 10) && decide (x < 2 ^ bl64 x)) = true := by decide +kernel
theorem bl64_room (x : Nat) (hx : x < 1024) : bl64 x ≤ 10 ∧ x < 2 ^ bl64 x := by
  have h1 := List.all_eq_true.mp bl64_room_all x (List.mem_range.mpr hx)
  simp only [Bool.and_eq_true, decide_eq_true_eq] at h1
  exact h1
theorem bl64_le (x : Nat) (hx : x < 18446744073709551616) : bl64 x ≤ 64 := by
  have h16 : ∀ y, y < 65536 → bl16 y ≤ 16 := fun y hy => by
    unfold bl16; split
    · have := bl8_le (y / 256) (by omega); omega
    · have := bl8_le y (by omega); omega
  have h32 : ∀ y, y < 4294967296 → bl32 y ≤ 32 := fun y hy => by
    unfold bl32; split
    · have := h16 (y / 65536) (by omega); omega
    · have := h16 y (by omega); omega
  unfold bl64; split
  · have := h32 (x / 4294967296) (by omega); omega
  · have := h32 x (by omega); omega
theorem bl_a1 (x : Int) (h0 : 0 ≤ x) (h : 4294967296 ≤ x) : bl64 x.toNat = bl32 (x / 4294967296).toNat + 32 := by
  obtain ⟨n, rfl⟩ := Int.eq_ofNat_of_zero_le h0
  rw [show ((n : Int) / 4294967296) = ((n / 4294967296 : Nat) : Int) by omega, Int.toNat_natCast, Int.toNat_natCast]
  unfold bl64
  rw [if_pos (by omega)]
theorem bl_a0 (x : Int) (h : x < 4294967296) : bl64 x.toNat = bl32 x.toNat := by
  show (if 4294967296 ≤ x.toNat then _ else _) = _
  rw [if_neg (by omega)]
theorem bl_b1 (x : Int) (h0 : 0 ≤ x) (h : 65536 ≤ x) : bl32 x.toNat = bl16 (x / 65536).toNat + 16 := by
  obtain ⟨n, rfl⟩ := Int.eq_ofNat_of_zero_le h0
  rw [show ((n : Int) / 65536) = ((n / 65536 : Nat) : Int) by omega, Int.toNat_natCast, Int.toNat_natCast]
  unfold bl32
  rw [if_pos (by omega)]
theorem bl_b0 (x : Int) (h : x < 65536) : bl32 x.toNat = bl16 x.toNat := by
  show (if 65536 ≤ x.toNat then _ else _) = _
  rw [if_neg (by omega)]
theorem bl_c1 (x : Int) (h0 : 0 ≤ x) (h : 256 ≤ x) : bl16 x.toNat = bl8 (x / 256).toNat + 8 := by
  obtain ⟨n, rfl⟩ := Int.eq_ofNat_of_zero_le h0
  rw [show ((n : Int) / 256) = ((n / 256 : Nat) : Int) by omega, Int.toNat_natCast, Int.toNat_natCast]
  unfold bl16
  rw [if_pos (by omega)]
theorem bl_c0 (x : Int) (h : x < 256) : bl16 x.toNat = bl8 x.toNat := by
  show (if 256 ≤ x.toNat then _ else _) = _
  rw [if_neg (by omega)]
theorem tab_size : Lib.len8tab.size = 256 := by decide +kernel
theorem tab_get (y : Int) (h : y.toNat < Lib.len8tab.size) (h0 : 0 ≤ y) : ((Lib.len8tab[y.toNat]'h).toNat : Int) = ((bl8 y.toNat : Nat) : Int) := by
  unfold bl8
  rw [Int.toNat_of_nonneg h0]
  unfold Lib.len8
  rw [getElem?_pos Lib.len8tab y.toNat h]
  simp
theorem wrap_sum (k r n : Nat) (hr : r ≤ 8) (hk : k ≤ 56) (hn : n = r + k) : wrap64 ((k : Int) + wrap64 (r : Int)) = (n : Int) := by
  unfold wrap64; omega
theorem wrap_sum0 (r : Nat) (hr : r ≤ 8) : wrap64 (wrap64 (r : Int)) = (r : Int) := by
  unfold wrap64; omega
set_option maxRecDepth 100000 in
/-- The table's text, as the translation writes it, is the table. -/
@[go_sem high] theorem fold_len8 : (⟨((([0, 1, 2, 2, 3, 3, 3, 3, 4, 4, 4, 4, 4, 4, 4, 4, 5, 5, 5, 5, 5, 5, 5, 5, 5, 5, 5, 5, 5, 5, 5, 5, 6, 6, 6, 6, 6, 6, 6, 6, 6, 6, 6, 6, 6, 6, 6, 6, 6, 6, 6, 6, 6, 6, 6, 6, 6, 6, 6, 6, 6, 6, 6, 6] : List UInt8).append [7, 7, 7, 7, 7, 7, 7, 7, 7, 7, 7, 7, 7, 7, 7, 7, 7, 7, 7, 7, 7, 7, 7, 7, 7, 7, 7, 7, 7, 7, 7, 7, 7, 7, 7, 7, 7, 7, 7, 7, 7, 7, 7, 7, 7, 7, 7, 7, 7, 7, 7, 7, 7, 7, 7, 7, 7, 7, 7, 7, 7, 7, 7, 7]).append (([8, 8, 8, 8, 8, 8, 8, 8, 8, 8, 8, 8, 8, 8, 8, 8, 8, 8, 8, 8, 8, 8, 8, 8, 8, 8, 8, 8, 8, 8, 8, 8, 8, 8, 8, 8, 8, 8, 8, 8, 8, 8, 8, 8, 8, 8, 8, 8, 8, 8, 8, 8, 8, 8, 8, 8, 8, 8, 8, 8, 8, 8, 8, 8] : List UInt8).append [8, 8, 8, 8, 8, 8, 8, 8, 8, 8, 8, 8, 8, 8, 8, 8, 8, 8, 8, 8, 8, 8, 8, 8, 8, 8, 8, 8, 8, 8, 8, 8, 8, 8, 8, 8, 8, 8, 8, 8, 8, 8, 8, 8, 8, 8, 8, 8, 8, 8, 8, 8, 8, 8, 8, 8, 8, 8, 8, 8, 8, 8, 8, 8])).toArray⟩ : ByteArray) = Lib.len8tab := rfl

set_option maxHeartbeats 4000000 in
set_option maxRecDepth 100000 in
theorem bits_Len64 (x : Int) (w : World) (h0 : 0 ≤ x) (h1 : x ≤ 18446744073709551615) :
    Calls Tryd.prog 100 #[.int .u64 x] w fun e w' => e = .returned (.int .i64 ((bl64 x.toNat : Nat) : Int)) ∧ w' = w := by
  go_enter Tryd.func100, Tryd.ntmps100
  go_wp2
  all_goals first
    | (go_ret; refine ⟨congrArg Ending.returned (congrArg (Value.int IntKind.i64) ?_), rfl⟩; go_light)
    | (exfalso
       go_light
       have hs := tab_size
       omega)
  · rw [tab_get (((x / 4294967296) / 65536) / 256) _ (by omega), bl_a1 x h0 (by assumption), bl_b1 (x / 4294967296) (by omega) (by assumption), bl_c1 ((x / 4294967296) / 65536) (by omega) (by assumption)]
    have l8 := bl8_le (((x / 4294967296) / 65536) / 256).toNat (by omega)
    exact wrap_sum 56 _ _ l8 (by decide) (by omega)
  · rw [tab_get ((x / 4294967296) / 65536) _ (by omega), bl_a1 x h0 (by assumption), bl_b1 (x / 4294967296) (by omega) (by assumption), bl_c0 ((x / 4294967296) / 65536) (by omega)]
    have l8 := bl8_le ((x / 4294967296) / 65536).toNat (by omega)
    exact wrap_sum 48 _ _ l8 (by decide) (by omega)
  · rw [tab_get ((x / 4294967296) / 256) _ (by omega), bl_a1 x h0 (by assumption), bl_b0 (x / 4294967296) (by omega), bl_c1 (x / 4294967296) (by omega) (by assumption)]
    have l8 := bl8_le ((x / 4294967296) / 256).toNat (by omega)
    exact wrap_sum 40 _ _ l8 (by decide) (by omega)
  · rw [tab_get (x / 4294967296) _ (by omega), bl_a1 x h0 (by assumption), bl_b0 (x / 4294967296) (by omega), bl_c0 (x / 4294967296) (by omega)]
    have l8 := bl8_le (x / 4294967296).toNat (by omega)
    exact wrap_sum 32 _ _ l8 (by decide) (by omega)
  · rw [tab_get ((x / 65536) / 256) _ (by omega), bl_a0 x (by omega), bl_b1 x (by omega) (by assumption), bl_c1 (x / 65536) (by omega) (by assumption)]
    have l8 := bl8_le ((x / 65536) / 256).toNat (by omega)
    exact wrap_sum 24 _ _ l8 (by decide) (by omega)
  · rw [tab_get (x / 65536) _ (by omega), bl_a0 x (by omega), bl_b1 x (by omega) (by assumption), bl_c0 (x / 65536) (by omega)]
    have l8 := bl8_le (x / 65536).toNat (by omega)
    exact wrap_sum 16 _ _ l8 (by decide) (by omega)
  · rw [tab_get (x / 256) _ (by omega), bl_a0 x (by omega), bl_b0 x (by omega), bl_c1 x (by omega) (by assumption)]
    have l8 := bl8_le (x / 256).toNat (by omega)
    exact wrap_sum 8 _ _ l8 (by decide) (by omega)
  · rw [tab_get x _ (by omega), bl_a0 x (by omega), bl_b0 x (by omega), bl_c0 x (by omega)]
    have l8 := bl8_le x.toNat (by omega)
    exact wrap_sum0 _ l8

theorem bits_Len (x : Nat) (w : World) (hx : x < 18446744073709551616) :
    Calls Tryd.prog 67 #[.int .u64 (x : Int)] w fun e w' => e = .returned (.int .i64 ((bl64 x : Nat) : Int)) ∧ w' = w := by
  have c := bits_Len64 (x : Int) w (by omega) (by omega)
  rw [Int.toNat_natCast] at c
  generalize bl64 x = n at *
  go_enter Tryd.func67, Tryd.ntmps67
  go_wp2_with (go_at_call 100; refine Calls.mono c ?_; rintro e w' ⟨rfl, hw⟩; rw [hw]; clear hw)
  go_ret
  exact ⟨rfl, rfl⟩

end Go.Proofs.YtgkepflnnoociagDoor

/-! Blocks that hold a list of ints and nothing else; what a store and a make do to them. -/
namespace Go.Proofs.YtgkepflnnoociagDoor
open Go.RowKit

/-- Block g holds the ints xs, and nothing else. -/
def RowI (w : World) (g : Nat) (xs : List Nat) : Prop := w.heap[g]? = some (.cells (cellsI xs).toArray 3 (0, 0))
theorem RowI.lt {w : World} {g : Nat} {xs : List Nat} (h : RowI w g xs) : g < w.heap.size := by
  obtain ⟨hlt, _⟩ := Array.getElem?_eq_some_iff.1 h
  exact hlt
theorem RowI.cell {w : World} {g : Nat} {xs : List Nat} (h : RowI w g xs) (i : Nat) (hi : i < xs.length) : w.cell? ⟨g, i, none⟩ = some (.int .i64 ((xs.getD i 0 : Nat) : Int)) := by
  have hh : w.heap[g]? = _ := h
  have hc := cellsI_get xs i hi
  simp only [World.cell?, hh, List.getElem?_toArray]
  rw [hc]; rfl
theorem RowI.frozen {w : World} {g : Nat} {xs : List Nat} (h : RowI w g xs) (i : Nat) : w.frozen? ⟨g, i, none⟩ = false := by
  have hh : w.heap[g]? = _ := h
  simp [World.frozen?, hh]
theorem RowI.set {w : World} {g : Nat} {xs : List Nat} (h : RowI w g xs) (i x : Nat) : RowI (w.setCell ⟨g, i, none⟩ (.int .i64 (x : Int))) g (xs.set i x) := by
  have hh : w.heap[g]? = _ := h
  unfold RowI
  rw [← cellsI_set]
  simp [World.setCell, Array.getElem?_modify, hh]
theorem RowI.block {w w' : World} {g : Nat} {xs : List Nat} (h : RowI w g xs) (e : w'.heap[g]? = w.heap[g]?) : RowI w' g xs := e.trans h
theorem RowI.below {w w' : World} {g : Nat} {xs : List Nat} (h : RowI w g xs) (hb : Below w.heap.size w w') : RowI w' g xs := h.block (hb.block g h.lt)
theorem RowI.bar {w w' : World} {g g' : Nat} {xs : List Nat} (h : RowI w g' xs) (hne : g' ≠ g) (hb : Bar g w w') : RowI w' g' xs := h.block (hb.block g' h.lt hne)
theorem RowI.cast {w : World} {g : Nat} {xs ys : List Nat} (h : RowI w g xs) (e : xs = ys) : RowI w g ys := e ▸ h
theorem RowI.isIN {w : World} {g n : Nat} {xs : List Nat} (h : RowI w g xs) (hl : xs.length ≤ 1000000000) (hn : xs.length = n) : IsI w (.slice (some ⟨g, 0, none⟩) n n) xs := by
  subst hn
  exact ⟨some ⟨g, 0, none⟩, xs.length, rfl, Nat.le_refl _, by unfold maxLen; omega, fun i hi => ⟨g, 0, rfl, by rw [Nat.zero_add]; exact h.cell i hi⟩⟩
theorem made_int (n : Nat) : (madeCells (Value.int .i64 0).cells (n * 1)).toList = cellsI (List.replicate n 0) := by
  rw [show (Value.int .i64 0).cells = #[Value.int .i64 0] from rfl, Nat.mul_one, toList_madeCells_one]
  unfold cellsI
  rw [List.map_replicate]; rfl
theorem wp_makeI {ops : Array Oper} {rest : List Oper} {o : Oper} {a : Act} {Q : Exit → Act → World → Prop} {w : World} (hgd : o.guard = none) (l c : Operand) (ho : o.op = Op.makeSlice 22 l c) (n : Nat)
    (hl : a.eval l = .int .i64 (n : Int)) (hc : a.eval c = .int .i64 (n : Int)) (hn : n ≤ 1000000000)
    (h : ∀ g w', Hid (g = w.heap.size) → RowI w' g (List.replicate n 0) → Below w.heap.size w w' → wpList Tryd.prog ops Q rest (a.put o.dst (.slice (some ⟨g, 0, none⟩) n n)) w') :
    wpList Tryd.prog ops Q (o :: rest) a w := by
  obtain ⟨i0, hi, hz0, hz1, hz2⟩ := info_parts info_int
  refine wpList_make_full w hgd l c 22 ho w.heap.size 3 i0 (.int .i64 0) 1 Tryd.underlying22 hi hz0 hz1 .i64 .i64 n n n hl hc rfl rfl (by rw [hz2]; omega) (by unfold maxLen; omega) (Nat.le_refl _) ?_
  intro w' hown hgrow
  rw [made_int] at hown
  refine h w.heap.size w' rfl ?_ ((Below.refl _ _).grown hgrow (Nat.le_refl _) (fun k hk => by cases hk))
  rcases hown.2 with ⟨hv, _⟩ | ⟨g', cap', cur, hv, hg, hh, h1, h2, h3, h4⟩
  · cases hv
  · simp only [Value.slice.injEq, Option.some.injEq, Addr.mk.injEq, and_true, true_and] at hv
    obtain ⟨rfl, rfl⟩ := hv
    have hcur : cur.toList = cellsI (List.replicate n 0) := by rw [← h4, Nat.mul_one, List.take_of_length_le (by simp [h3])]
    have hcur2 : cur = (cellsI (List.replicate n 0)).toArray := by rw [← hcur]
    rw [hcur2] at hh
    exact hh

end Go.Proofs.YtgkepflnnoociagDoor

/-! What Log of package goldref answers: of 2^k, k from 0 to 10, k; of other numbers -1. -/
namespace Go.Proofs.YtgkepflnnoociagDoor
open Go.RowKit

theorem two_pow_bound (j : Nat) (hj : j ≤ 10) : ((2 : Int) ^ j) = ((2 ^ j : Nat) : Int) ∧ 2 ^ j ≤ 1024 := by
  refine ⟨by rw [Int.natCast_pow]; rfl, ?_⟩
  exact Nat.le_trans (Nat.pow_le_pow_right (by decide) hj) (by decide)


end Go.Proofs.YtgkepflnnoociagDoor

/-! What Reverse64 and TrailingZeros of package math/bits answer, as far as package ntt asks them: bits read from the other end; the place of the one bit of a power of two. -/
namespace Go.Proofs.YtgkepflnnoociagDoor
open Go.RowKit

/-- Neighbours of s bits change places: those of the mask m and those beside them. -/
def swp (s m x : Nat) : Nat := (x / s &&& m) ||| ((x &&& m) * s % 18446744073709551616)
def swL (x : Nat) : Nat := x / 4294967296 ||| (x * 4294967296 % 18446744073709551616)
def rev64 (x : Nat) : Nat := swL (swp 65536 281470681808895 (swp 256 71777214294589695 (swp 16 1085102592571150095 (swp 4 3689348814741910323 (swp 2 6148914691236517205 x)))))
theorem swp_lt (s m x : Nat) (hm : m < 18446744073709551616) : swp s m x < 18446744073709551616 := by
  have h1 : x / s &&& m < 2 ^ 64 := Nat.and_lt_two_pow _ (by omega)
  have h2 : (x &&& m) * s % 18446744073709551616 < 2 ^ 64 := by omega
  have := Nat.or_lt_two_pow h1 h2
  unfold swp; omega
theorem swp_bits (s m x : Nat) (S M : Int) (hS : (s : Int) = S) (hM : (m : Int) = M) (hx : x < 18446744073709551616) (hm : m < 18446744073709551616) :
    bits .or .u64 (bits .and .u64 ((x : Int) / S) M) (IntKind.u64.wrap (bits .and .u64 (x : Int) M * S)) = ((swp s m x : Nat) : Int) := by
  subst hS hM
  have hd : x / s < 18446744073709551616 := Nat.lt_of_le_of_lt (Nat.div_le_self _ _) hx
  have h1 : x / s &&& m < 2 ^ 64 := Nat.and_lt_two_pow _ (by omega)
  rw [← Int.natCast_ediv, bits_and_u64_nat _ m hd hm, bits_and_u64_nat x m hx hm, ← Int.natCast_mul, IntKind.wrap_u64]
  have e : (((x &&& m) * s : Nat) : Int) % 18446744073709551616 = (((x &&& m) * s % 18446744073709551616 : Nat) : Int) := by omega
  rw [e, bits_or_u64_nat _ _ (by omega) (by omega)]; rfl
theorem swL_bits (x : Nat) (hx : x < 18446744073709551616) :
    bits .or .u64 ((x : Int) / 4294967296) (IntKind.u64.wrap ((x : Int) * 4294967296)) = ((swL x : Nat) : Int) := by
  rw [IntKind.wrap_u64, show (x : Int) / 4294967296 = ((x / 4294967296 : Nat) : Int) by omega, show (x : Int) * 4294967296 % 18446744073709551616 = ((x * 4294967296 % 18446744073709551616 : Nat) : Int) by omega,
    bits_or_u64_nat _ _ (by omega) (by omega)]; rfl

theorem bits_ReverseBytes64 (x : Nat) (hx : x < 18446744073709551616) (w : World) :
    Calls Tryd.prog 125 #[.int .u64 (x : Int)] w fun e w' => e = .returned (.int .u64 ((swL (swp 65536 281470681808895 (swp 256 71777214294589695 x)) : Nat) : Int)) ∧ w' = w := by
  have e1 := swp_bits 256 71777214294589695 x 256 71777214294589695 rfl rfl hx (by decide)
  have l1 := swp_lt 256 71777214294589695 x (by decide)
  generalize swp 256 71777214294589695 x = y at *
  have e2 := swp_bits 65536 281470681808895 y 65536 281470681808895 rfl rfl l1 (by decide)
  have l2 := swp_lt 65536 281470681808895 y (by decide)
  generalize swp 65536 281470681808895 y = z at *
  have e3 := swL_bits z l2
  generalize swL z = u at *
  clear l1 l2 hx
  go_enter Tryd.func125, Tryd.ntmps125
  go_wp2
  go_ret
  exact ⟨rfl, rfl⟩

theorem bits_Reverse64 (x : Nat) (hx : x < 18446744073709551616) (w : World) :
    Calls Tryd.prog 115 #[.int .u64 (x : Int)] w fun e w' => e = .returned (.int .u64 ((rev64 x : Nat) : Int)) ∧ w' = w := by
  unfold rev64
  have e1 := swp_bits 2 6148914691236517205 x 2 6148914691236517205 rfl rfl hx (by decide)
  have l1 := swp_lt 2 6148914691236517205 x (by decide)
  generalize swp 2 6148914691236517205 x = y at *
  have e2 := swp_bits 4 3689348814741910323 y 4 3689348814741910323 rfl rfl l1 (by decide)
  have l2 := swp_lt 4 3689348814741910323 y (by decide)
  generalize swp 4 3689348814741910323 y = z at *
  have e3 := swp_bits 16 1085102592571150095 z 16 1085102592571150095 rfl rfl l2 (by decide)
  have l3 := swp_lt 16 1085102592571150095 z (by decide)
  generalize swp 16 1085102592571150095 z = u at *
  have c := bits_ReverseBytes64 u l3
  generalize swL (swp 65536 281470681808895 (swp 256 71777214294589695 u)) = v at *
  clear l1 l2 l3 hx
  go_enter Tryd.func115, Tryd.ntmps115
  go_wp2_with (go_at_call 125; refine Calls.mono (c _) ?_; rintro e w' ⟨rfl, hw⟩; rw [hw]; clear hw)
  go_ret
  exact ⟨rfl, rfl⟩

/-- Of numbers of few bits. -/
theorem rev64_all : ((List.range 11).all fun k => (List.range (2 ^ k)).all fun i => rev64 i / 2 ^ (64 - k) == rv k i) = true := by decide +kernel
theorem rev64_rv (k i : Nat) (hk : k ≤ 10) (hi : i < 2 ^ k) : rev64 i / 2 ^ (64 - k) = rv k i := by
  have h1 := List.all_eq_true.mp rev64_all k (List.mem_range.mpr (by omega))
  have h2 := List.all_eq_true.mp h1 i (List.mem_range.mpr hi)
  exact beq_iff_eq.mp h2

def tzI (k : Nat) : Nat := 2 ^ k * 285870213051353865 % 18446744073709551616 / 288230376151711744
theorem tz_all : ((List.range 11).all fun k => decide (tzI k < 64) && (tz64.getD (tzI k) 0 == k) && ((2 ^ k &&& (18446744073709551616 - 2 ^ k)) == 2 ^ k)) = true := by decide +kernel

theorem tz_key (x a : Nat) (hx : x < 18446744073709551616) (hx0 : x ≠ 0) (hlow : x &&& (18446744073709551616 - x) = a) :
    IntKind.u64.wrap (bits .and .u64 (x : Int) (IntKind.u64.wrap (-(x : Int))) * 285870213051353865) / 288230376151711744 = ((a * 285870213051353865 % 18446744073709551616 / 288230376151711744 : Nat) : Int) := by
  have e1 : IntKind.u64.wrap (-(x : Int)) = ((18446744073709551616 - x : Nat) : Int) := by rw [IntKind.wrap_u64]; omega
  rw [e1, bits_and_u64_nat x _ hx (by omega), hlow, IntKind.wrap_u64]
  omega
set_option maxHeartbeats 1000000 in
theorem tz_core (x k q : Nat) (w : World) (hx0 : ((x : Int) == 0) = false)
    (key : IntKind.u64.wrap (bits .and .u64 (x : Int) (IntKind.u64.wrap (-(x : Int))) * 285870213051353865) / 288230376151711744 = (q : Int)) (hi : q < 64) (hk : k ≤ 10)
    (hcell : w.cell? ⟨1, q, none⟩ = some (.int .u8 (k : Int))) :
    Calls Tryd.prog 114 #[.int .u64 (x : Int)] w fun e w' => e = .returned (.int .i64 (k : Int)) ∧ w' = w := by
  go_enter Tryd.func114, Tryd.ntmps114
  go_wp2_with (simp only [key])
  go_ret
  exact ⟨rfl, rfl⟩
theorem bits_TrailingZeros (k : Nat) (hk : k ≤ 10) (w : World) (ht : Tab w) :
    Calls Tryd.prog 94 #[.int .u64 ((2 ^ k : Nat) : Int)] w fun e w' => e = .returned (.int .i64 (k : Int)) ∧ w' = w := by
  have h1 := List.all_eq_true.mp tz_all k (List.mem_range.mpr (by omega))
  simp only [Bool.and_eq_true, decide_eq_true_eq, beq_iff_eq] at h1
  obtain ⟨⟨hi, hv⟩, hand⟩ := h1
  have hcell := ht.1 _ hi
  rw [hv] at hcell
  have hx := (two_pow_bound k hk).2
  have hp : 0 < 2 ^ k := Nat.pow_pos (by decide)
  have key := tz_key (2 ^ k) (2 ^ k) (by omega) (by omega) hand
  have hx0 : (((2 ^ k : Nat) : Int) == 0) = false := by rw [beq_eq_false_iff_ne]; omega
  have c64 := tz_core (2 ^ k) k (tzI k) w hx0 key hi hk hcell
  clear key hcell hx0 hand hv ht hi hp
  generalize 2 ^ k = x at *
  go_enter Tryd.func94, Tryd.ntmps94
  go_wp2_with (go_at_call 114; refine Calls.mono c64 ?_; rintro e w' ⟨rfl, hw⟩; rw [hw]; clear hw)
  go_ret
  exact ⟨rfl, rfl⟩

end Go.Proofs.YtgkepflnnoociagDoor

/-! What turned and Order of package ntt answer. -/
namespace Go.Proofs.YtgkepflnnoociagDoor
open Go.RowKit

/-- The first m of n ints, noughts behind them. -/
def SI (n m : Nat) (f : Nat → Nat) : List Nat := (List.range m).map f ++ List.replicate (n - m) 0
theorem SI_zero (n : Nat) (f : Nat → Nat) : SI n 0 f = List.replicate n 0 := by simp [SI]
theorem SI_length {n m : Nat} (f : Nat → Nat) (h : m ≤ n) : (SI n m f).length = n := by
  unfold SI
  simp; omega
theorem SI_set {n m : Nat} (f : Nat → Nat) (h : m < n) : (SI n m f).set m (f m) = SI n (m + 1) f := by
  unfold SI
  obtain ⟨r, hr⟩ : ∃ r, n - m = r + 1 := ⟨n - m - 1, by omega⟩
  rw [hr, show n - (m + 1) = r by omega, List.set_append_right _ _ (by simp), List.length_map, List.length_range, Nat.sub_self, List.replicate_succ, List.set_cons_zero, List.range_succ, List.map_append, List.append_assoc]; rfl
theorem SI_full (n : Nat) (f : Nat → Nat) : SI n n f = (List.range n).map f := by simp [SI]

set_option maxHeartbeats 2000000 in
theorem ntt_turned (w : World) (k : Nat) (hk : k ≤ 10) :
    Calls Tryd.prog 96 #[.int .i64 (k : Int)] w fun e w' => ∃ g, e = .returned (.slice (some ⟨g, 0, none⟩) (2 ^ k) (2 ^ k)) ∧ w.heap.size ≤ g ∧ RowI w' g (ord k) ∧ Below w.heap.size w w' := by
  obtain ⟨hpow, hN9⟩ := two_pow_bound k hk
  have hrev : Hid (∀ i, i < 2 ^ k → rev64 i / 2 ^ (64 - k) = rv k i) := fun i hi => rev64_rv k i hk hi
  have hord : Hid (SI (2 ^ k) (2 ^ k) (rv k) = ord k) := SI_full _ _
  have hsub : (64 : Int) - (k : Int) = ((64 - k : Nat) : Int) := by omega
  have hlt : ∀ i, rv k i < 2 ^ k := fun i => by
    have := rvK_le k i k (Nat.le_refl _)
    rw [Nat.sub_self, Nat.pow_zero] at this
    unfold rv; omega
  generalize 2 ^ k = N at *
  have hn9 : N ≤ 1000000000 := by omega
  go_enter Tryd.func96, Tryd.ntmps96
  go_wp2_with (at_make; refine wp_makeI rfl _ _ rfl N rfl rfl hn9 ?_; intro g w2 hg hrow hb)
  have hgw : w.heap.size ≤ g := Nat.le_of_eq hg.out.symm
  clear hg
  go_loopw [10] (fun vi wr => ∃ i : Nat, i ≤ N ∧ vi = .int .i64 (i : Int) ∧ RowI wr g (SI N i (rv k)) ∧ Below w.heap.size w wr)
    (fun vi _ => N - (intOf vi).toNat)
  case atStart => exact ⟨0, Nat.zero_le _, rfl, hrow.cast (SI_zero _ _).symm, hb⟩
  case round =>
    clear hrow hb
    obtain ⟨i, hi, rfl, hrow, hnx⟩ := hrel
    by_cases hlti : i < N
    · have hc := hrow.cell i (by rw [SI_length _ hi]; exact hlti)
      have hfr := hrow.frozen i
      have hset := hrow.set i (rv k i)
      rw [SI_set _ hlti] at hset
      have hB2 := fun (u : Value) => hnx.setCell (p := ⟨g, i, none⟩) hgw u
      have cR := bits_Reverse64 i (by omega)
      have hq := hrev.out i hlti
      have hrl := hlt i
      have hsh : ((rev64 i : Nat) : Int) / 2 ^ (64 - k) = ((rv k i : Nat) : Int) := by
        rw [← hq, Int.natCast_ediv, Int.natCast_pow]; rfl
      clear hq hrev hlt
      generalize (SI N i (rv k)).getD i 0 = old at *
      generalize rev64 i = r at *
      generalize rv k i = z at *
      go_wp2_with (go_at_call 115; refine Calls.mono (cR _) ?_; rintro e w' ⟨rfl, hw⟩; rw [hw]; clear hw)
      go_roundw
      case rel => exact ⟨i + 1, by omega, by go_num, hset, hB2 _⟩
      case measure => simp only [intOf]; omega
    · have e : i = N := by omega
      subst e
      rw [hord.out] at hrow
      have hge : i ≤ i := Nat.le_refl _
      clear hrev hlt hpow hord
      go_wp2
      go_ret
      exact ⟨g, rfl, hgw, hrow, hnx⟩


end Go.Proofs.YtgkepflnnoociagDoor
