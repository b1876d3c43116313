/-
  EUCLID: what is divided is told by one quotient and one rest alone; BEZOUT: divided by (the power 1 less a number) the rest is the value there; no program in sight.
-/
import Derived.Test.YtpoekkbofhdnnadPolyL
namespace Go.Proofs.Ytpoekkbofhdnnad

theorem conv_sub (f g h : Nat → F) (k : Nat) : conv (fun i => f i - g i) h k = conv f h k - conv g h k := by
  have e : conv f h k = conv (fun i => f i - g i) h k + conv g h k := by
    unfold conv
    rw [← S_add]
    exact S_congr fun i _ => by grind
  grind

theorem Divs_unique {a b q r q' r' : List Nat} (h : Divs a b q r) (h' : Divs a b q' r') : q = q' ∧ r = r' := by
  obtain ⟨hq, hr, hl, he⟩ := h
  obtain ⟨hq', hr', hl', he'⟩ := h'
  have hd : ∀ i, conv (fun j => cf q j - cf q' j) (cf b) i = cf r' i - cf r i := by
    intro i
    have h1 := he i
    have h2 := he' i
    rw [conv_sub]
    grind
  have hsb : sig b ≠ 0 := by rw [pN_length] at hl; omega
  obtain ⟨n, hn⟩ : ∃ n, sig b = n + 1 := ⟨sig b - 1, by omega⟩
  rw [pN_length] at hl hl'
  have hD : ∀ i, cf (mk (max q.length q'.length) (fun j => cf q j - cf q' j)) i = cf q i - cf q' i := cf_mk_of fun i hi => by
    rw [cf_ge (a := q) (by omega), cf_ge (a := q') (by omega)]; grind
  have hs : sig (mk (max q.length q'.length) (fun j => cf q j - cf q' j)) = 0 := by
    refine Classical.byContradiction fun hne => ?_
    obtain ⟨m, hm⟩ : ∃ m, sig (mk (max q.length q'.length) (fun j => cf q j - cf q' j)) = m + 1 := ⟨sig (mk (max q.length q'.length) (fun j => cf q j - cf q' j)) - 1, by omega⟩
    have htop := sig_last _ hne
    rw [hm, Nat.add_sub_cancel, hD] at htop
    have hbt := sig_last b hsb
    rw [hn, Nat.add_sub_cancel] at hbt
    have hz : ∀ i, m + 1 ≤ i → (fun j => cf q j - cf q' j) i = 0 := fun i hi => by
      have := sig_zero _ i (show sig (mk (max q.length q'.length) (fun j => cf q j - cf q' j)) ≤ i by omega)
      rw [hD] at this
      exact this
    have hc := conv_top hz (fun i hi => sig_zero b i (by omega) : ∀ i, n + 1 ≤ i → cf b i = 0)
    rw [hd (m + n), cf_ge (a := r') (by omega), cf_ge (a := r) (by omega)] at hc
    have hz2 : (cf q m - cf q' m) * cf b n = 0 := by grind
    rcases mul_ne hz2 with h3 | h3
    · exact htop h3
    · exact hbt h3
  have hqe : ∀ i, cf q i = cf q' i := fun i => by
    have := sig_zero _ i (show sig (mk (max q.length q'.length) (fun j => cf q j - cf q' j)) ≤ i by omega)
    rw [hD] at this
    grind
  have h1 : q = q' := by rw [← hq, ← hq']; exact pN_ext hqe
  refine ⟨h1, ?_⟩
  rw [← hr, ← hr']
  refine pN_ext fun i => ?_
  have h2 := he i
  have h3 := he' i
  rw [h1] at h2
  grind

theorem Divs_ev {a b q r : List Nat} (h : Divs a b q r) (x : F) : evF (a.map toF) x = evF (q.map toF) x * evF (b.map toF) x + evF (r.map toF) x := by
  rw [← ev_pM, ← ev_pS]
  exact evF_ext (fun i => by rw [← cf_gf, ← cf_gf, cf_pS, cf_pM, h.2.2.2 i]) x

/-- Divided by (the power 1 less x): the rest has one number at most, the value at x; none: the value is 0. -/
theorem lin_length (x : Nat) : (pN [fS 0 x, 1]).length = 2 := by
  rw [pN_length]
  have h : fN 1 ≠ 0 := by decide
  simp [sig, h]
theorem Divs_lin {a q r : List Nat} {x : Nat} (h : Divs a [fS 0 x, 1] q r) : (r = [] ∧ pE a x = 0) ∨ r = [pE a x] := by
  have hl := h.2.2.1
  rw [lin_length] at hl
  have he := Divs_ev h (toF x)
  rw [ev_lin] at he
  have he2 : evF (a.map toF) (toF x) = evF (r.map toF) (toF x) := by grind
  match r, hl, h.2.1, he2 with
  | [], _, _, he2 =>
    left
    refine ⟨rfl, ?_⟩
    unfold pE
    rw [he2]; rfl
  | [c], _, hn, he2 =>
    right
    unfold pE
    rw [he2, ev_one, val_toF]
    have hc : c ∈ pN [c] := by rw [hn]; simp
    rw [Nat.mod_eq_of_lt (pN_lt _ c hc)]

theorem Divs_lin' {a q r : List Nat} {x : Nat} (h : Divs a [fS 0 x, 1] q r) : (pE a x = 0 → r = []) ∧ (pE a x ≠ 0 → r = [pE a x]) := by
  rcases Divs_lin h with ⟨h1, h2⟩ | h1
  · exact ⟨fun _ => h1, fun h3 => absurd h2 h3⟩
  · refine ⟨fun h2 => ?_, fun _ => h1⟩
    rw [h2] at h1
    have hn := h.2.1
    rw [h1] at hn
    exact absurd hn (by decide)
theorem Divs_sum' {a b q r : List Nat} (h : Divs a b q r) : pN (pS (pM (pN q) (pN b)) r) = pN a := by rw [h.1]; exact Divs_sum h
/-- A quotient has no more numbers than what is divided. -/
theorem Divs_qlen {a b q r : List Nat} (h : Divs a b q r) : q.length ≤ a.length := by
  have hq : sig q = q.length := by rw [← pN_length, h.1]
  rcases Nat.eq_zero_or_pos q.length with h0 | h0
  · omega
  have hl := h.2.2.1
  rw [pN_length] at hl
  obtain ⟨m, hm⟩ : ∃ m, sig q = m + 1 := ⟨sig q - 1, by omega⟩
  obtain ⟨n, hn⟩ : ∃ n, sig b = n + 1 := ⟨sig b - 1, by omega⟩
  have h1 := sig_last q (by omega)
  have h2 := sig_last b (by omega)
  rw [hm, Nat.add_sub_cancel] at h1
  rw [hn, Nat.add_sub_cancel] at h2
  have hc := conv_top (fun i hi => sig_zero q i (by omega) : ∀ i, m + 1 ≤ i → cf q i = 0) (fun i hi => sig_zero b i (by omega) : ∀ i, n + 1 ≤ i → cf b i = 0)
  have he := h.2.2.2 (m + n)
  rw [hc, cf_ge (a := r) (by omega)] at he
  refine Classical.byContradiction fun hlt => ?_
  rw [cf_ge (a := a) (by omega)] at he
  have hz : cf q m * cf b n = 0 := by grind
  rcases mul_ne hz with h3 | h3
  · exact h1 h3
  · exact h2 h3

/-! ### The examples of the laws -/
theorem ex_mul : pM (pN [1, 1]) (pN [18446744069414584320, 1]) = [18446744069414584320, 0, 1] := by decide +kernel
theorem ex_div : Divs [18446744069414584320, 0, 1] [1, 1] [18446744069414584320, 1] [] := by
  refine ⟨by decide +kernel, by decide +kernel, by decide +kernel, fun i => ?_⟩
  rcases Nat.lt_or_ge i 3 with h | h
  · match i, h with
    | 0, _ => decide +kernel
    | 1, _ => decide +kernel
    | 2, _ => decide +kernel
  · rw [cf_ge (by simpa using h), cf_ge (by simp), conv_above (m := 2) (n := 2) (fun j hj => cf_ge (by simpa using hj)) (fun j hj => cf_ge (by simpa using hj)) i (by omega)]
    decide
theorem ex_goes : Goes [5, 2] 2 (cf [0, 1]) (cf [5, 7]) := by
  refine ⟨by decide +kernel, by simp, fun j hj => ?_⟩
  match j, hj with
  | 0, _ => decide +kernel
  | 1, _ => decide +kernel

end Go.Proofs.Ytpoekkbofhdnnad
