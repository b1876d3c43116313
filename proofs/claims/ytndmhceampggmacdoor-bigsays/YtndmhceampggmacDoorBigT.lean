/-
  Great numbers as texts: which text is less, which are the same; what Check answers; what goldref's Great answers of any text.
-/
import Derived.Test.YtndmhceampggmacDoorRefGreat
namespace Go.Proofs.YtndmhceampggmacDoor
open Go.RowKit

theorem u8_lt {d e : Nat} (hd : d ≤ 9) (he : e ≤ 9) : (UInt8.ofNat (48 + d) < UInt8.ofNat (48 + e)) ↔ d < e := by
  rw [UInt8.lt_iff_toNat_lt, UInt8.toNat_ofNat', UInt8.toNat_ofNat']
  omega
theorem u8_eq {d e : Nat} (hd : d ≤ 9) (he : e ≤ 9) : (UInt8.ofNat (48 + d) = UInt8.ofNat (48 + e)) ↔ d = e := by
  rw [← UInt8.toNat_inj, UInt8.toNat_ofNat', UInt8.toNat_ofNat']
  omega
theorem less_tx {a b : List Nat} (ha : Dg a) (hb : Dg b) (hl : a.length = b.length) : Op.bytesLess (tx a) (tx b) = decide (val a < val b) := by
  induction a generalizing b with
  | nil => cases b with
    | nil => rfl
    | cons _ _ => simp at hl
  | cons d a ih => cases b with
    | nil => simp at hl
    | cons e b =>
      obtain ⟨hd, ha'⟩ := Dg.cons.mp ha
      obtain ⟨he, hb'⟩ := Dg.cons.mp hb
      have hl' : a.length = b.length := by simpa using hl
      rw [tx_cons, tx_cons, Op.bytesLess, ih ha' hb' hl', val_cons, val_cons, hl']
      have h1 := dval_lt ha'
      have h2 := dval_lt hb'
      rw [hl'] at h1
      have u1 := u8_lt hd he
      have u2 := u8_eq hd he
      rcases Nat.lt_trichotomy d e with q | q | q
      · have : (d + 1) * 10 ^ b.length ≤ e * 10 ^ b.length := Nat.mul_le_mul_right _ q
        rw [Nat.add_mul, Nat.one_mul] at this
        simp only [u1.mpr q, decide_true, Bool.true_or]
        symm; rw [decide_eq_true_eq]; omega
      · subst q
        simp
      · have : (e + 1) * 10 ^ b.length ≤ d * 10 ^ b.length := Nat.mul_le_mul_right _ q
        rw [Nat.add_mul, Nat.one_mul] at this
        have n1 : ¬ UInt8.ofNat (48 + d) < UInt8.ofNat (48 + e) := fun h => by have := u1.mp h; omega
        have n2 : (UInt8.ofNat (48 + d) == UInt8.ofNat (48 + e)) = false := by rw [beq_eq_false_iff_ne]; exact fun h => by have := u2.mp h; omega
        rw [decide_eq_false n1, n2, Bool.false_or, Bool.false_and]
        symm; rw [decide_eq_false_iff_not]; omega
theorem bsX_toList (l : List UInt8) : (bsX l).toList = l := by rw [ByteArray.toList_eq]; rfl
theorem Gs.less {s t : ByteArray} {a b : List Nat} (h : Gs s a) (h' : Gs t b) (hl : a.length = b.length) : Op.bytesLess s.toList t.toList = decide (val a < val b) := by
  rw [h.text, h'.text, bsX_toList, bsX_toList]
  exact less_tx h.1.1 h'.1.1 hl
theorem Gs.eqv {s t : ByteArray} {a b : List Nat} (h : Gs s a) (h' : Gs t b) : (s.toList == t.toList) = decide (val a = val b) := by
  by_cases e : val a = val b
  · rw [h.same h' e, decide_eq_true e]; simp
  · rw [decide_eq_false e, beq_eq_false_iff_ne]
    intro q
    rw [ByteArray.toList_eq, ByteArray.toList_eq] at q
    have q2 : s = t := by
      cases s; cases t
      simp at q
      rw [q]
    subst q2
    apply e
    have h1 := h.2.1
    have h2 := h'.2.1
    have : a = b := by
      apply List.ext_getElem
      · rw [by'_length] at h1 h2; omega
      · intro i i1 i2
        have b1 := h.byte i i1 (by rw [h.size]; exact i1)
        have b2 := h'.byte i i2 (by rw [h'.size]; exact i2)
        rw [b1] at b2
        simp [List.getD, i1, i2] at b2
        exact b2
    rw [this]
theorem Gs.one' {s : ByteArray} {a b : List Nat} (h : Gs s a) (h' : Gs s b) : val a = val b := by
  have := h.eqv h'
  simpa using this
/-- Each number is told. -/
theorem ex_dg (n : Nat) : ∃ c, Gt c ∧ val c = n := by
  induction n using Nat.strongRecOn with
  | _ n ih =>
    by_cases h : n < 10
    · refine ⟨[n], ⟨fun d hd => ?_, by simp, fun h2 => by simp at h2⟩, by simp [val]⟩
      simp at hd; omega
    · obtain ⟨c, hc, hv⟩ := ih (n / 10) (by omega)
      refine ⟨c ++ [n % 10], ⟨fun d hd => ?_, by simp, fun _ => ?_⟩, by rw [val_snoc, hv]; omega⟩
      · rcases List.mem_append.mp hd with q | q
        · exact hc.1 d q
        · simp at q; omega
      · cases c with
        | nil => exact absurd rfl hc.2.1
        | cons x c =>
          simp only [List.cons_append, List.headD_cons]
          intro h0
          cases c with
          | nil =>
            rw [h0] at hv
            simp [val] at hv
            omega
          | cons y c => exact hc.2.2 (by simp) h0
noncomputable def dgs (n : Nat) : List Nat := Classical.choose (ex_dg n)
theorem dgs_gt (n : Nat) : Gt (dgs n) := (Classical.choose_spec (ex_dg n)).1
theorem dgs_val (n : Nat) : val (dgs n) = n := (Classical.choose_spec (ex_dg n)).2
theorem dgs_of {c : List Nat} {n : Nat} (h : Gt c) (hv : val c = n) : c = dgs n := h.one (dgs_gt n) (by rw [dgs_val, hv])
/-- A number's text. -/
noncomputable def txtN (n : Nat) : ByteArray := bsX (tx (dgs n))
theorem txt_gs (n : Nat) : Gs (txtN n) (dgs n) := Gs.txt (dgs_gt n)
theorem Gs.txt_eq {s : ByteArray} {a : List Nat} (h : Gs s a) : s = txtN (val a) := h.same (txt_gs _) (dgs_val _).symm
/-- As a is less than b, as great, greater. -/
def cmpN (x y : Nat) : Int := if x < y then -1 else if x = y then 0 else 1
/-- A text that is told as a great number and isn't too long. -/
def Gd (s : ByteArray) (ds : List Nat) : Prop := Gs s ds ∧ ds.length ≤ 2000
open Classical in
/-- What Check answers. -/
noncomputable def gchk (s : ByteArray) : Int := if 2000 < s.size then 2 else if ∃ ds, Gs s ds then 0 else 3
theorem gchk_ok {s : ByteArray} {ds : List Nat} (h : Gd s ds) : gchk s = 0 := by
  unfold gchk
  rw [if_neg (by rw [h.1.size]; have := h.2; omega), if_pos ⟨ds, h.1⟩]
theorem gchk_zero {s : ByteArray} (h : gchk s = 0) : ∃ ds, Gd s ds := by
  unfold gchk at h
  split at h
  · cases h
  · next h1 =>
    split at h
    · next h2 =>
      obtain ⟨ds, hd⟩ := h2
      exact ⟨ds, hd, by rw [← hd.size]; omega⟩
    · cases h
theorem gchk_cases (s : ByteArray) : (gchk s ≠ 0 ∧ (gchk s = 2 ∨ gchk s = 3)) ∨ (gchk s = 0 ∧ ∃ ds, Gd s ds) := by
  by_cases h : gchk s = 0
  · exact .inr ⟨h, gchk_zero h⟩
  · refine .inl ⟨h, ?_⟩
    unfold gchk at h ⊢
    split at h
    · next h1 => rw [if_pos h1]; exact .inl rfl
    · next h1 =>
      split at h
      · exact absurd rfl h
      · next h2 => rw [if_neg h1, if_neg h2]; exact .inr rfl
/-- The error of the first, of the second. -/
noncomputable def gchk2 (s t : ByteArray) : Int := if gchk s = 0 then gchk t else gchk s
theorem ref_Great (w : World) (s : ByteArray) : Calls Tryd.prog 21 #[.string s] w fun e w' => e = .returned (.int .i64 (gchk s)) ∧ w' = w := by
  by_cases h1 : 2000 < s.size
  · have e : gchk s = 2 := by unfold gchk; rw [if_pos h1]
    rw [e]; exact ref_Great_large w s h1
  · by_cases h2 : ∃ ds, Gs s ds
    · have e : gchk s = 0 := by unfold gchk; rw [if_neg h1, if_pos h2]
      obtain ⟨ds, hd⟩ := h2
      rw [e]; exact ref_Great_ok w s ds hd (by rw [← hd.size]; omega)
    · have e : gchk s = 3 := by unfold gchk; rw [if_neg h1, if_neg h2]
      rw [e]; exact ref_Great_bad w s (by omega) (fun ds h => h2 ⟨ds, h⟩)

end Go.Proofs.YtndmhceampggmacDoor
