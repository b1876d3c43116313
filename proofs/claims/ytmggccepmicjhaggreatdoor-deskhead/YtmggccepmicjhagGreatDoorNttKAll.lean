/-
  Texts that stood one behind the other, as one.
-/
import Derived.Test.YtmggccepmicjhagGreatDoorPure
import Derived.Test.YtmggccepmicjhagGreatDoorSlZAll
import Derived.Test.YtmggccepmicjhagGreatDoorSlMakeAll
import Derived.Test.YtmggccepmicjhagGreatDoorFieldBAll
import Derived.BigQuiet
import Derived.Deep.RegionWith
/-! Transforms by halves, in the order of turned bits: what the steps of package ntt do to lists; no program in sight. -/
namespace Go.Proofs.YtmggccepmicjhagGreatDoor

theorem rvK_step (m b c j : Nat) (hc : c < 2) : rvK (m + 1) (2 * b + c) (j + 1) = c * 2 ^ m + rvK m b j := by
  induction j with
  | zero =>
    show 0 + (2 * b + c) / 2 ^ 0 % 2 * 2 ^ (m + 1 - 1 - 0) = c * 2 ^ m + 0
    rw [Nat.pow_zero, Nat.div_one, show (2 * b + c) % 2 = c by omega, show m + 1 - 1 - 0 = m by omega]; omega
  | succ j ih =>
    rw [rvK, ih, show rvK m b (j + 1) = rvK m b j + b / 2 ^ j % 2 * 2 ^ (m - 1 - j) from rfl]
    have e : (2 * b + c) / 2 ^ (j + 1) = b / 2 ^ j := by
      rw [show 2 ^ (j + 1) = 2 * 2 ^ j by rw [Nat.pow_succ]; omega, ← Nat.div_div_eq_div_mul, show (2 * b + c) / 2 = b by omega]
    rw [e, show m + 1 - 1 - (j + 1) = m - 1 - j by omega]; omega
theorem rv_even (m b : Nat) : rv (m + 1) (2 * b) = rv m b := by
  have := rvK_step m b 0 m (by decide)
  unfold rv
  rw [show 2 * b + 0 = 2 * b from rfl] at this
  rw [this]; omega
theorem rv_odd (m b : Nat) : rv (m + 1) (2 * b + 1) = rv m b + 2 ^ m := by
  have := rvK_step m b 1 m (by decide)
  unfold rv
  rw [this]; omega
theorem rv_lt (k i : Nat) : rv k i < 2 ^ k := by
  have := rvK_le k i k (Nat.le_refl _)
  rw [Nat.sub_self, Nat.pow_zero] at this
  unfold rv; omega

/-- Of 2^k numbers f: the transform of part b of those that step s has, each 2^(k-s)-th of them. -/
def Dk (w : F) (k : Nat) (f : Nat → F) (s b t : Nat) : F := dft (pw w (2 ^ (k - s))) (2 ^ s) (fun i => f (rv (k - s) b + i * 2 ^ (k - s))) t

theorem Dk_zero (w : F) (k : Nat) (f : Nat → F) (b : Nat) : Dk w k f 0 b 0 = f (rv k b) := by
  unfold Dk dft
  rw [Nat.pow_zero, S_succ, S_zero, Nat.mul_zero, pw_zero, Nat.sub_zero]
  show 0 + f (rv k b + 0 * 2 ^ k) * 1 = f (rv k b)
  rw [Nat.zero_mul, Nat.add_zero]; grind
theorem Dk_end (w : F) (k : Nat) (f : Nat → F) (t : Nat) : Dk w k f k 0 t = dft w (2 ^ k) f t := by
  unfold Dk
  have e : pw w 1 = w := by rw [show (1 : Nat) = 0 + 1 from rfl, pw_succ, pw_zero]; grind
  rw [Nat.sub_self, Nat.pow_zero, e]
  refine dft_congr (fun i _ => ?_) t
  rw [show rv 0 0 = 0 from rfl, Nat.mul_one, Nat.zero_add]
theorem Ord.pow {w : F} {k m s : Nat} (h : Ord w k) (e : m + s = k) : Ord (pw w (2 ^ m)) s := by
  refine ⟨?_, fun j hj => ?_⟩
  · rw [← pw_mul, ← Nat.pow_add, e]; exact h.one
  · rw [← pw_mul, ← Nat.pow_add]; exact h.half (m + j) (by omega)
theorem pw_double (w : F) (m : Nat) : pw w (2 ^ m) * pw w (2 ^ m) = pw w (2 ^ (m + 1)) := by
  rw [← pw_add]; congr 1; rw [Nat.pow_succ]; omega
theorem Dk_parts (w : F) (f : Nat → F) (m s b t : Nat) : dft (pw w (2 ^ m) * pw w (2 ^ m)) (2 ^ s) (fun i => f (rv m b + 2 * i * 2 ^ m)) t = Dk w (s + 1 + m) f s (2 * b) t ∧
    dft (pw w (2 ^ m) * pw w (2 ^ m)) (2 ^ s) (fun i => f (rv m b + (2 * i + 1) * 2 ^ m)) t = Dk w (s + 1 + m) f s (2 * b + 1) t := by
  unfold Dk
  rw [pw_double, show s + 1 + m - s = m + 1 by omega, rv_even, rv_odd]
  refine ⟨dft_congr (fun i _ => ?_) t, dft_congr (fun i _ => ?_) t⟩
  · congr 1; rw [Nat.pow_succ]; grind
  · congr 1; rw [Nat.pow_succ]; grind
theorem Dk_low (w : F) (f : Nat → F) (m s b t : Nat) : Dk w (s + 1 + m) f (s + 1) b t = Dk w (s + 1 + m) f s (2 * b) t + Dk w (s + 1 + m) f s (2 * b + 1) t * pw (pw w (2 ^ m)) t := by
  obtain ⟨h1, h2⟩ := Dk_parts w f m s b t
  rw [← h1, ← h2]
  conv => lhs; unfold Dk
  rw [show s + 1 + m - (s + 1) = m by omega, Nat.pow_succ, Nat.mul_comm (2 ^ s) 2, dft_halves]
  grind
theorem Dk_high {w : F} {m s : Nat} (h : Ord w (s + 1 + m)) (f : Nat → F) (b t : Nat) : Dk w (s + 1 + m) f (s + 1) b (t + 2 ^ s) = Dk w (s + 1 + m) f s (2 * b) t - Dk w (s + 1 + m) f s (2 * b + 1) t * pw (pw w (2 ^ m)) t := by
  obtain ⟨h1, h2⟩ := Dk_parts w f m s b t
  rw [← h1, ← h2]
  conv => lhs; unfold Dk
  rw [show s + 1 + m - (s + 1) = m by omega, Nat.pow_succ, Nat.mul_comm (2 ^ s) 2, dft_upper (h.pow (m := m) (s := s + 1) (by omega))]
  grind

/-- Powers, one by one. -/
def pwJ (r : Nat) : Nat → Nat
  | 0 => 1
  | i + 1 => fM (pwJ r i) r
theorem pwJ_F (r i : Nat) : toF (pwJ r i) = pw (toF r) i := by
  induction i with
  | zero => rw [pwJ, pw_zero, toF_one]
  | succ i ih => rw [pwJ, toF_fM, ih, pw_succ]
theorem pwJ_lt (r i : Nat) : ((pwJ r i : Nat) : Int) < 18446744073709551616 := by
  cases i with
  | zero => show ((1 : Nat) : Int) < _; decide
  | succ i => rw [pwJ]; have := fM_lt (pwJ r i) r; omega

theorem cf_setN (l : List Nat) (i x t : Nat) (hi : i < l.length) : cf (l.set i x) t = if t = i then toF x else cf l t := by
  unfold cf
  by_cases h : t = i
  · subst h; simp [List.getD, hi]
  · rw [if_neg h]; simp [List.getD, Ne.symm h]

/-- The halves of 2h numbers from the place o on, i of each joined by the powers of r. -/
def joinK (zs : List Nat) (o h r : Nat) : Nat → List Nat
  | 0 => zs
  | i + 1 => ((joinK zs o h r i).set (o + i) (fA ((joinK zs o h r i).getD (o + i) 0) (fM ((joinK zs o h r i).getD (o + (i + h)) 0) (pwJ r i)))).set (o + (i + h)) (fS ((joinK zs o h r i).getD (o + i) 0) (fM ((joinK zs o h r i).getD (o + (i + h)) 0) (pwJ r i)))
theorem joinK_length (zs : List Nat) (o h r i : Nat) : (joinK zs o h r i).length = zs.length := by
  induction i with
  | zero => rfl
  | succ i ih => rw [joinK, List.length_set, List.length_set, ih]
theorem joinK_P (zs : List Nat) (o h r i : Nat) (hz : ∀ x ∈ zs, x < P) : ∀ x ∈ joinK zs o h r i, x < P := by
  induction i with
  | zero => exact hz
  | succ i ih =>
    intro x hx
    rw [joinK] at hx
    rcases List.mem_or_eq_of_mem_set hx with h1 | h1
    · rcases List.mem_or_eq_of_mem_set h1 with h2 | h2
      · exact ih x h2
      · rw [h2]; have := fA_lt ((joinK zs o h r i).getD (o + i) 0) (fM ((joinK zs o h r i).getD (o + (i + h)) 0) (pwJ r i)); unfold P; omega
    · rw [h1]; have := fS_lt ((joinK zs o h r i).getD (o + i) 0) (fM ((joinK zs o h r i).getD (o + (i + h)) 0) (pwJ r i)); unfold P; omega
theorem cf_joinK (zs : List Nat) (o h r i : Nat) (hi : i ≤ h) (hl : o + 2 * h ≤ zs.length) (j : Nat) : cf (joinK zs o h r i) j =
    if o ≤ j ∧ j < o + i then cf zs j + cf zs (j + h) * pw (toF r) (j - o)
    else if o + h ≤ j ∧ j < o + h + i then cf zs (j - h) - cf zs j * pw (toF r) (j - h - o) else cf zs j := by
  induction i generalizing j with
  | zero => rw [if_neg (by omega), if_neg (by omega)]; rfl
  | succ i ih =>
    have h1 := ih (by omega) (o + i)
    have h2 := ih (by omega) (o + (i + h))
    rw [if_neg (by omega), if_neg (by omega)] at h1 h2
    rw [joinK, cf_setN _ _ _ _ (by rw [List.length_set, joinK_length]; omega), cf_setN _ _ _ _ (by rw [joinK_length]; omega), toF_fA, toF_fS, toF_fM, pwJ_F]
    show (if j = o + (i + h) then cf (joinK zs o h r i) (o + i) - cf (joinK zs o h r i) (o + (i + h)) * pw (toF r) i else if j = o + i then cf (joinK zs o h r i) (o + i) + cf (joinK zs o h r i) (o + (i + h)) * pw (toF r) i else cf (joinK zs o h r i) j) = _
    rw [h1, h2]
    by_cases e1 : j = o + (i + h)
    · rw [if_pos e1, if_neg (by omega), if_pos (by omega), show j - h = o + i by omega, show o + i - o = i by omega, e1]
    · rw [if_neg e1]
      by_cases e2 : j = o + i
      · rw [if_pos e2, if_pos (by omega), show j - o = i by omega, e2, show o + i + h = o + (i + h) by omega]
      · rw [if_neg e2, ih (by omega) j]
        by_cases e3 : o ≤ j ∧ j < o + i
        · rw [if_pos e3, if_pos (by omega)]
        · rw [if_neg e3, if_neg (show ¬(o ≤ j ∧ j < o + (i + 1)) by omega)]
          by_cases e4 : o + h ≤ j ∧ j < o + h + i
          · rw [if_pos e4, if_pos (by omega)]
          · rw [if_neg e4, if_neg (by omega)]

/-- Step s is done. -/
structure Alls (w : F) (k : Nat) (f : Nat → F) (s : Nat) (zs : List Nat) : Prop where
  len : zs.length = 2 ^ k
  low : ∀ x ∈ zs, x < P
  all : ∀ b t, b < 2 ^ (k - s) → t < 2 ^ s → cf zs (b * 2 ^ s + t) = Dk w k f s b t
/-- Step s is done, and of the next one the first B parts. -/
structure Halfs (w : F) (k : Nat) (f : Nat → F) (s B : Nat) (zs : List Nat) : Prop where
  len : zs.length = 2 ^ k
  low : ∀ x ∈ zs, x < P
  done : ∀ b t, b < B → t < 2 ^ (s + 1) → cf zs (b * 2 ^ (s + 1) + t) = Dk w k f (s + 1) b t
  left : ∀ b t, 2 * B ≤ b → b < 2 ^ (k - s) → t < 2 ^ s → cf zs (b * 2 ^ s + t) = Dk w k f s b t
theorem Alls.start {w : F} {k s : Nat} {f : Nat → F} {zs : List Nat} (h : Alls w k f s zs) : Halfs w k f s 0 zs :=
  ⟨h.len, h.low, fun _ _ hb _ => absurd hb (Nat.not_lt_zero _), fun b t _ hb ht => h.all b t hb ht⟩
theorem Halfs.stop {w : F} {k s B : Nat} {f : Nat → F} {zs : List Nat} (h : Halfs w k f s B zs) (hB : B = 2 ^ (k - (s + 1))) : Alls w k f (s + 1) zs :=
  ⟨h.len, h.low, fun b t hb ht => h.done b t (hB ▸ hb) ht⟩
theorem Halfs.step {w : F} {k s B r : Nat} {f : Nat → F} {zs : List Nat} (h : Halfs w k f s B zs) (hw : Ord w k) (hs : s + 1 ≤ k) (hB : B < 2 ^ (k - (s + 1))) (hr : toF r = pw w (2 ^ (k - (s + 1)))) :
    Halfs w k f s (B + 1) (joinK zs (B * 2 ^ (s + 1)) (2 ^ s) r (2 ^ s)) := by
  obtain ⟨m, rfl⟩ : ∃ m, k = s + 1 + m := ⟨k - (s + 1), by omega⟩
  rw [show s + 1 + m - (s + 1) = m by omega] at hB hr
  have hlen := h.len
  have hleft := h.left
  have hdone := h.done
  have hlow := Dk_low w f m s
  have hhigh := Dk_high hw f
  have e1 : 2 ^ (s + 1) = 2 * 2 ^ s := by rw [Nat.pow_succ]; omega
  have e2 : 2 ^ (s + 1 + m) = 2 ^ m * (2 * 2 ^ s) := by rw [Nat.pow_add, e1, Nat.mul_comm]
  have e3 : 2 ^ (s + 1 + m - s) = 2 ^ m * 2 := by rw [show s + 1 + m - s = m + 1 by omega, Nat.pow_succ]
  rw [e2] at hlen
  rw [e3] at hleft
  rw [e1] at hdone ⊢
  rw [← hr] at hlow hhigh
  have hp : 0 < 2 ^ s := Nat.pow_pos (by decide)
  have hfit : (B + 1) * (2 * 2 ^ s) ≤ zs.length := by rw [hlen]; exact Nat.mul_le_mul_right _ hB
  rw [Nat.add_mul, Nat.one_mul] at hfit
  have hcf := cf_joinK zs (B * (2 * 2 ^ s)) (2 ^ s) r (2 ^ s) (Nat.le_refl _) hfit
  refine ⟨by rw [joinK_length]; exact h.len, joinK_P _ _ _ _ _ h.low, ?_, ?_⟩
  · intro b t hb ht
    rw [e1] at ht ⊢
    rw [hcf]
    rcases Nat.lt_or_ge b B with hb1 | hb1
    · have h3 : (b + 1) * (2 * 2 ^ s) ≤ B * (2 * 2 ^ s) := Nat.mul_le_mul_right _ hb1
      rw [Nat.add_mul, Nat.one_mul] at h3
      rw [if_neg (by omega), if_neg (by omega)]
      exact hdone b t hb1 ht
    · have hbB : b = B := by omega
      subst hbB
      have a1 : ∀ u, b * (2 * 2 ^ s) + u = 2 * b * 2 ^ s + u := fun u => by grind
      have a2 : ∀ u, b * (2 * 2 ^ s) + u + 2 ^ s = (2 * b + 1) * 2 ^ s + u := fun u => by grind
      rcases Nat.lt_or_ge t (2 ^ s) with ht1 | ht1
      · rw [if_pos (by omega), show b * (2 * 2 ^ s) + t - b * (2 * 2 ^ s) = t by omega, a2, a1, hleft (2 * b) t (by omega) (by omega) ht1, hleft (2 * b + 1) t (by omega) (by omega) ht1, hlow]
      · obtain ⟨u, rfl⟩ : ∃ u, t = u + 2 ^ s := ⟨t - 2 ^ s, by omega⟩
        rw [if_neg (by omega), if_pos (by omega), show b * (2 * 2 ^ s) + (u + 2 ^ s) - 2 ^ s = b * (2 * 2 ^ s) + u by omega, show b * (2 * 2 ^ s) + u - b * (2 * 2 ^ s) = u by omega,
          show b * (2 * 2 ^ s) + (u + 2 ^ s) = b * (2 * 2 ^ s) + u + 2 ^ s by omega, a2, a1, hleft (2 * b) u (by omega) (by omega) (by omega), hleft (2 * b + 1) u (by omega) (by omega) (by omega), hhigh]
  · intro b t hb1 hb2 ht
    rw [e3] at hb2
    have h3 : (2 * (B + 1)) * 2 ^ s ≤ b * 2 ^ s := Nat.mul_le_mul_right _ hb1
    have h4 : (2 * (B + 1)) * 2 ^ s = B * (2 * 2 ^ s) + 2 * 2 ^ s := by grind
    rw [hcf, if_neg (by omega), if_neg (by omega)]
    exact hleft b t (by omega) hb2 ht

end Go.Proofs.YtmggccepmicjhagGreatDoor

/-! What join of package ntt does to a list: two transforms become one. -/
namespace Go.Proofs.YtmggccepmicjhagGreatDoor
open Go.RowKit
set_option maxRecDepth 100000

set_option maxHeartbeats 2000000 in
theorem ntt_join (w : World) (g o h n c r : Nat) (zs : List Nat) (hrow : RowU w g zs) (hz : ∀ x ∈ zs, x < P) (hl : o + 2 * h ≤ zs.length) (hm : zs.length ≤ 1024) (hn : n = 2 * h) (hr : (r : Int) < 18446744073709551616) :
    Calls Tryz.prog 90 #[.slice (some ⟨g, o, none⟩) n c, .int .u64 (r : Int)] w fun e w' => e = .returned (.tuple #[]) ∧ RowU w' g (joinK zs o h r h) ∧ Bar g w w' := by
  have hq : Int.tdiv (n : Int) 2 = (h : Int) := by rw [Int.tdiv_eq_ediv_of_nonneg (by omega)]; omega
  have hh9 : h ≤ 1024 := by omega
  have hw : IntKind.i64.wrap (h : Int) = (h : Int) := by rw [IntKind.wrap_i64]; omega
  have hn' : Hid (n = 2 * h) := hn
  have hn9 : n ≤ 1024 := by omega
  clear hn
  go_enter Tryz.func90, Tryz.ntmps90
  go_wp2
  go_loopw [5, 13] (fun vp vi wr => ∃ i : Nat, i ≤ h ∧ vi = .int .i64 (i : Int) ∧ vp = .int .u64 ((pwJ r i : Nat) : Int) ∧ RowU wr g (joinK zs o h r i) ∧ Bar g w wr)
    (fun _ vi _ => h - (intOf vi).toNat)
  case atStart => exact ⟨0, Nat.zero_le _, rfl, rfl, hrow, Bar.refl _ _⟩
  case round =>
    clear hrow
    obtain ⟨i, hi, rfl, rfl, hrow, hbar⟩ := hrel
    by_cases hlt : i < h
    · have hlz := joinK_length zs o h r i
      have hnn := hn'.out
      have hcA := hrow.cell (o + i) (by omega)
      have hcB := hrow.cell (o + (i + h)) (by omega)
      have hfA := hrow.frozen (o + i)
      have hr0 := Rng_of_P (joinK_P zs o h r i hz)
      have c1 := field_Mul ((joinK zs o h r i).getD (o + (i + h)) 0) (pwJ r i) (range_getD hr0 _) (pwJ_lt r i)
      have hod : ((fM ((joinK zs o h r i).getD (o + (i + h)) 0) (pwJ r i) : Nat) : Int) < 18446744073709551616 := by have := fM_lt ((joinK zs o h r i).getD (o + (i + h)) 0) (pwJ r i); omega
      have c2 := field_Add ((joinK zs o h r i).getD (o + i) 0) (fM ((joinK zs o h r i).getD (o + (i + h)) 0) (pwJ r i)) (range_getD hr0 _) hod
      have c3 := field_Sub ((joinK zs o h r i).getD (o + i) 0) (fM ((joinK zs o h r i).getD (o + (i + h)) 0) (pwJ r i)) (range_getD hr0 _) hod
      have c4 := field_Mul (pwJ r i) r (pwJ_lt r i) hr
      rw [show fM (pwJ r i) r = pwJ r (i + 1) from rfl] at c4
      have hW1 : Hid (∀ m : Nat, ∀ x : Nat, RowU ((wr.drewN m).setCell ⟨g, o + i, none⟩ (.int .u64 (x : Int))) g ((joinK zs o h r i).set (o + i) x)) := fun m x => (hrow.drewN m).set _ _
      have hc2 : ∀ m : Nat, ∀ x : Nat, ((wr.drewN m).setCell ⟨g, o + i, none⟩ (.int .u64 (x : Int))).cell? ⟨g, o + (i + h), none⟩ = some (.int .u64 ((((joinK zs o h r i).set (o + i) x).getD (o + (i + h)) 0 : Nat) : Int)) := fun m x => (hW1.out m x).cell _ (by rw [List.length_set]; omega)
      have hf2 : ∀ m : Nat, ∀ x : Nat, ((wr.drewN m).setCell ⟨g, o + i, none⟩ (.int .u64 (x : Int))).frozen? ⟨g, o + (i + h), none⟩ = false := fun m x => (hW1.out m x).frozen _
      have hfin : Hid (∀ m : Nat, RowU (((wr.drewN m).setCell ⟨g, o + i, none⟩ (.int .u64 ((fA ((joinK zs o h r i).getD (o + i) 0) (fM ((joinK zs o h r i).getD (o + (i + h)) 0) (pwJ r i)) : Nat) : Int))).setCell ⟨g, o + (i + h), none⟩ (.int .u64 ((fS ((joinK zs o h r i).getD (o + i) 0) (fM ((joinK zs o h r i).getD (o + (i + h)) 0) (pwJ r i)) : Nat) : Int))) g (joinK zs o h r (i + 1))) := fun m => (hW1.out m _).set _ _
      have hin : i < n := by omega
      have hwr : IntKind.i64.wrap ((i : Int) + (h : Int)) = ((i + h : Nat) : Int) := by rw [IntKind.wrap_i64]; omega
      have hihn : i + h < n := by omega
      clear hlz hr0 hod hnn hz hr hW1
      generalize fA ((joinK zs o h r i).getD (o + i) 0) (fM ((joinK zs o h r i).getD (o + (i + h)) 0) (pwJ r i)) = y1 at *
      generalize fS ((joinK zs o h r i).getD (o + i) 0) (fM ((joinK zs o h r i).getD (o + (i + h)) 0) (pwJ r i)) = y2 at *
      generalize fM ((joinK zs o h r i).getD (o + (i + h)) 0) (pwJ r i) = od at *
      generalize (joinK zs o h r i).getD (o + (i + h)) 0 = vb at *
      generalize (joinK zs o h r i).getD (o + i) 0 = va at *
      generalize pwJ r i = p1 at *
      go_wp2
      go_quiet (first | (go_at_call 36; exact Calls.quiet_of_same (c1 _)))
      have k1 := hc2 nq y1
      have k2 := hf2 nq y1
      have k3 := hfin.out nq
      have k4 : Bar g w (wr.drewN nq) := hbar.drewN nq
      have k5 : (wr.drewN nq).cell? ⟨g, o + i, none⟩ = some (.int .u64 (va : Int)) := hcA
      have k6 : (wr.drewN nq).frozen? ⟨g, o + i, none⟩ = false := hfA
      have k7 : Hid (RowU (((wr.drewN nq).setCell ⟨g, o + i, none⟩ (.int .u64 (y1 : Int))).setCell ⟨g, o + (i + h), none⟩ (.int .u64 (y2 : Int))) g (joinK zs o h r (i + 1))) := k3
      clear hc2 hf2 hfin hcA hfA hcB hbar hrow c1 k3
      generalize wr.drewN nq = W at *
      generalize ((joinK zs o h r i).set (o + i) y1).getD (o + (i + h)) 0 = vc at *
      go_wp2_with (first
        | (go_at_call 34; refine Calls.mono (c2 _) ?_; rintro e w' ⟨rfl, hw⟩; rw [hw]; clear hw)
        | (go_at_call 35; refine Calls.mono (c3 _) ?_; rintro e w' ⟨rfl, hw⟩; rw [hw]; clear hw)
        | (go_at_call 36; refine Calls.mono (c4 _) ?_; rintro e w' ⟨rfl, hw⟩; rw [hw]; clear hw))
      go_roundw
      case rel => exact ⟨i + 1, by omega, by go_num, rfl, k7.out, (k4.setCell _ _).setCell _ _⟩
      case measure => simp only [intOf]; omega
    · have e : i = h := by omega
      subst e
      have hge : i ≤ i := Nat.le_refl _
      go_wp2
      go_end0
      exact ⟨rfl, hrow, hbar⟩

end Go.Proofs.YtmggccepmicjhagGreatDoor
