/-
  Texts that stood one behind the other, as one.
-/
import Derived.Test.YtmggccepmicjhacGreatDoorRefGreatAll
/-! Great numbers as texts: which text is less, which are the same; what Check answers; what goldref's Great answers of any text. -/
namespace Go.Proofs.YtmggccepmicjhacGreatDoor
open Go.RowKit

theorem u8_lt {d e : Nat} (hd : d ≤ 9) (he : e ≤ 9) : (UInt8.ofNat (48 + d) < UInt8.ofNat (48 + e)) ↔ d < e := by
  rw [UInt8.lt_iff_toNat_lt, UInt8.toNat_ofNat', UInt8.toNat_ofNat']
  omega
theorem u8_eq {d e : Nat} (hd : d ≤ 9) (he : e ≤ 9) : (UInt8.ofNat (48 + d) = UInt8.ofNat (48 + e)) ↔ d = e := by
  rw [← UInt8.toNat_inj, UInt8.toNat_ofNat', UInt8.toNat_ofNat']
  omega
theorem less_tx {a b : List Nat} (ha : Dg a) (hb : Dg b) (hl : a.length = b.length) : Op.bytesLess (tx a) (tx b) = decide (val a < val b) := by
  induction a generalizing b with
  | nil => cases b with
    | nil => rfl
    | cons _ _ => simp at hl
  | cons d a ih => cases b with
    | nil => simp at hl
    | cons e b =>
      obtain ⟨hd, ha'⟩ := Dg.cons.mp ha
      obtain ⟨he, hb'⟩ := Dg.cons.mp hb
      have hl' : a.length = b.length := by simpa using hl
      rw [tx_cons, tx_cons, Op.bytesLess, ih ha' hb' hl', val_cons, val_cons, hl']
      have h1 := dval_lt ha'
      have h2 := dval_lt hb'
      rw [hl'] at h1
      have u1 := u8_lt hd he
      have u2 := u8_eq hd he
      rcases Nat.lt_trichotomy d e with q | q | q
      · have : (d + 1) * 10 ^ b.length ≤ e * 10 ^ b.length := Nat.mul_le_mul_right _ q
        rw [Nat.add_mul, Nat.one_mul] at this
        simp only [u1.mpr q, decide_true, Bool.true_or]
        symm; rw [decide_eq_true_eq]; omega
      · subst q
        simp
      · have : (e + 1) * 10 ^ b.length ≤ d * 10 ^ b.length := Nat.mul_le_mul_right _ q
        rw [Nat.add_mul, Nat.one_mul] at this
        have n1 : ¬ UInt8.ofNat (48 + d) < UInt8.ofNat (48 + e) := fun h => by have := u1.mp h; omega
        have n2 : (UInt8.ofNat (48 + d) == UInt8.ofNat (48 + e)) = false := by rw [beq_eq_false_iff_ne]; exact fun h => by have := u2.mp h; omega
        rw [decide_eq_false n1, n2, Bool.false_or, Bool.false_and]
        symm; rw [decide_eq_false_iff_not]; omega
theorem bsX_toList (l : List UInt8) : (bsX l).toList = l := by rw [ByteArray.toList_eq]; rfl
theorem Gs.less {s t : ByteArray} {a b : List Nat} (h : Gs s a) (h' : Gs t b) (hl : a.length = b.length) : Op.bytesLess s.toList t.toList = decide (val a < val b) := by
  rw [h.text, h'.text, bsX_toList, bsX_toList]
  exact less_tx h.1.1 h'.1.1 hl
theorem Gs.eqv {s t : ByteArray} {a b : List Nat} (h : Gs s a) (h' : Gs t b) : (s.toList == t.toList) = decide (val a = val b) := by
  by_cases e : val a = val b
  · rw [h.same h' e, decide_eq_true e]; simp
  · rw [decide_eq_false e, beq_eq_false_iff_ne]
    intro q
    rw [ByteArray.toList_eq, ByteArray.toList_eq] at q
    have q2 : s = t := by
      cases s; cases t
      simp at q
      rw [q]
    subst q2
    apply e
    have h1 := h.2.1
    have h2 := h'.2.1
    have : a = b := by
      apply List.ext_getElem
      · rw [by'_length] at h1 h2; omega
      · intro i i1 i2
        have b1 := h.byte i i1 (by rw [h.size]; exact i1)
        have b2 := h'.byte i i2 (by rw [h'.size]; exact i2)
        rw [b1] at b2
        simp [List.getD, i1, i2] at b2
        exact b2
    rw [this]
theorem Gs.one' {s : ByteArray} {a b : List Nat} (h : Gs s a) (h' : Gs s b) : val a = val b := by
  have := h.eqv h'
  simpa using this
/-- Each number is told. -/
theorem ex_dg (n : Nat) : ∃ c, Gt c ∧ val c = n := by
  induction n using Nat.strongRecOn with
  | _ n ih =>
    by_cases h : n < 10
    · refine ⟨[n], ⟨fun d hd => ?_, by simp, fun h2 => by simp at h2⟩, by simp [val]⟩
      simp at hd; omega
    · obtain ⟨c, hc, hv⟩ := ih (n / 10) (by omega)
      refine ⟨c ++ [n % 10], ⟨fun d hd => ?_, by simp, fun _ => ?_⟩, by rw [val_snoc, hv]; omega⟩
      · rcases List.mem_append.mp hd with q | q
        · exact hc.1 d q
        · simp at q; omega
      · cases c with
        | nil => exact absurd rfl hc.2.1
        | cons x c =>
          simp only [List.cons_append, List.headD_cons]
          intro h0
          cases c with
          | nil =>
            rw [h0] at hv
            simp [val] at hv
            omega
          | cons y c => exact hc.2.2 (by simp) h0
noncomputable def dgs (n : Nat) : List Nat := Classical.choose (ex_dg n)
theorem dgs_gt (n : Nat) : Gt (dgs n) := (Classical.choose_spec (ex_dg n)).1
theorem dgs_val (n : Nat) : val (dgs n) = n := (Classical.choose_spec (ex_dg n)).2
theorem dgs_of {c : List Nat} {n : Nat} (h : Gt c) (hv : val c = n) : c = dgs n := h.one (dgs_gt n) (by rw [dgs_val, hv])
/-- A number's text. -/
noncomputable def txtN (n : Nat) : ByteArray := bsX (tx (dgs n))
theorem txt_gs (n : Nat) : Gs (txtN n) (dgs n) := Gs.txt (dgs_gt n)
theorem Gs.txt_eq {s : ByteArray} {a : List Nat} (h : Gs s a) : s = txtN (val a) := h.same (txt_gs _) (dgs_val _).symm
/-- As a is less than b, as great, greater. -/
def cmpN (x y : Nat) : Int := if x < y then -1 else if x = y then 0 else 1
/-- A text that is told as a great number and isn't too long. -/
def Gd (s : ByteArray) (ds : List Nat) : Prop := Gs s ds ∧ ds.length ≤ 2000
open Classical in
/-- What Check answers. -/
noncomputable def gchk (s : ByteArray) : Int := if 2000 < s.size then 2 else if ∃ ds, Gs s ds then 0 else 3
theorem gchk_ok {s : ByteArray} {ds : List Nat} (h : Gd s ds) : gchk s = 0 := by
  unfold gchk
  rw [if_neg (by rw [h.1.size]; have := h.2; omega), if_pos ⟨ds, h.1⟩]
theorem gchk_zero {s : ByteArray} (h : gchk s = 0) : ∃ ds, Gd s ds := by
  unfold gchk at h
  split at h
  · cases h
  · next h1 =>
    split at h
    · next h2 =>
      obtain ⟨ds, hd⟩ := h2
      exact ⟨ds, hd, by rw [← hd.size]; omega⟩
    · cases h
theorem gchk_cases (s : ByteArray) : (gchk s ≠ 0 ∧ (gchk s = 2 ∨ gchk s = 3)) ∨ (gchk s = 0 ∧ ∃ ds, Gd s ds) := by
  by_cases h : gchk s = 0
  · exact .inr ⟨h, gchk_zero h⟩
  · refine .inl ⟨h, ?_⟩
    unfold gchk at h ⊢
    split at h
    · next h1 => rw [if_pos h1]; exact .inl rfl
    · next h1 =>
      split at h
      · exact absurd rfl h
      · next h2 => rw [if_neg h1, if_neg h2]; exact .inr rfl
/-- The error of the first, of the second. -/
noncomputable def gchk2 (s t : ByteArray) : Int := if gchk s = 0 then gchk t else gchk s
theorem ref_Great (w : World) (s : ByteArray) : Calls Tryz.prog 32 #[.string s] w fun e w' => e = .returned (.int .i64 (gchk s)) ∧ w' = w := by
  by_cases h1 : 2000 < s.size
  · have e : gchk s = 2 := by unfold gchk; rw [if_pos h1]
    rw [e]; exact ref_Great_large w s h1
  · by_cases h2 : ∃ ds, Gs s ds
    · have e : gchk s = 0 := by unfold gchk; rw [if_neg h1, if_pos h2]
      obtain ⟨ds, hd⟩ := h2
      rw [e]; exact ref_Great_ok w s ds hd (by rw [← hd.size]; omega)
    · have e : gchk s = 3 := by unfold gchk; rw [if_neg h1, if_neg h2]
      rw [e]; exact ref_Great_bad w s (by omega) (fun ds h => h2 ⟨ds, h⟩)

end Go.Proofs.YtmggccepmicjhacGreatDoor

/-! What isNumber, Check, checkBoth, value of package big answer. -/
namespace Go.Proofs.YtmggccepmicjhacGreatDoor
open Go.RowKit

theorem ne_empty {s : ByteArray} (h : 0 < s.size) : ¬ s.toList = [] := by
  intro e
  rw [ByteArray.toList_eq] at e
  have h1 : s.data.size = 0 := by rw [← Array.length_toList, e]; rfl
  have h2 : s.size = s.data.size := rfl
  omega
theorem ne_empty2 {s : ByteArray} (h : 0 < s.size) : s.toList.isEmpty = false := by
  rw [List.isEmpty_eq_false_iff]; exact ne_empty h
theorem is_empty {s : ByteArray} (h : s.size = 0) : s = { data := #[] } := by
  cases s with
  | mk d =>
    have : d = #[] := Array.eq_empty_of_size_eq_zero h
    rw [this]

set_option maxHeartbeats 1000000 in
theorem big_isNumber_ok (w : World) (s : ByteArray) (ds : List Nat) (h : Gs s ds) (h9 : ds.length ≤ 2000) :
    Calls Tryz.prog 140 #[.string s] w fun e w' => e = .returned (.bool true) ∧ w' = w := by
  have hsz := h.size
  have hby : Hid (∀ i, i < ds.length → ∀ hs : i < s.size, (s[i]'hs).toNat = 48 + ds.getD i 0) := h.byte
  have hdg : Hid (∀ i, ds.getD i 0 ≤ 9) := h.dg
  have hne : 0 < ds.length := by
    rcases Nat.eq_zero_or_pos ds.length with e | e
    · exact absurd (List.eq_nil_of_length_eq_zero e) h.1.2.1
    · exact e
  have hemp := ne_empty (s := s) (by rw [hsz]; exact hne)
  have hemp2 := ne_empty2 (s := s) (by rw [hsz]; exact hne)
  have hhd : Hid (2 ≤ ds.length → ds.getD 0 0 ≠ 0) := fun q => by
    have := h.1.2.2 q
    cases ds with
    | nil => simp at q
    | cons d l => exact this
  clear h
  generalize hn : ds.length = n at *
  clear hn
  have hb0 := hby.out 0 hne
  have hd0 := hhd.out
  have hd9 := hdg.out 0
  generalize ds.getD 0 0 = d0 at *
  go_enter Tryz.func140, Tryz.ntmps140
  have hcase : (((48 : Int) + (d0 : Int) == 48) = false) ∨ (((48 : Int) + (d0 : Int) == 48) = true ∧ decide ((1 : Int) < (n : Int)) = false) := by
    rcases Nat.eq_zero_or_pos d0 with q | q
    · right
      refine ⟨by rw [beq_iff_eq]; omega, decide_eq_false ?_⟩
      intro h1
      exact hd0 (by omega) q
    · left
      rw [beq_eq_false_iff_ne]; omega
  clear hd0
  rcases hcase with hc | ⟨hc, hc2⟩
  · go_wp2
    clear hb0 hemp hemp2
    go_loopw [18] (fun vi wr => ∃ (i : Nat), i ≤ n ∧ vi = .int .i64 (i : Int) ∧ wr = w)
      (fun vi _ => n - (intOf vi).toNat)
    case atStart => exact ⟨0, Nat.zero_le _, rfl, rfl⟩
    case round =>
      obtain ⟨i, hi, rfl, hwr⟩ := hrel
      rw [hwr]
      clear hc
      by_cases hlt : i < n
      · have hb := hby.out i hlt
        have hd := hdg.out i
        generalize ds.getD i 0 = d at *
        go_wp2
        go_roundw
        case rel => exact ⟨i + 1, by omega, by go_num, by trivial⟩
        case measure => simp only [intOf]; omega
      · have hge : n ≤ i := by omega
        go_wp2
        go_ret
        exact ⟨rfl, rfl⟩
  · go_wp2
    clear hb0 hemp hemp2
    go_loopw [18] (fun vi wr => ∃ (i : Nat), i ≤ n ∧ vi = .int .i64 (i : Int) ∧ wr = w)
      (fun vi _ => n - (intOf vi).toNat)
    case atStart => exact ⟨0, Nat.zero_le _, rfl, rfl⟩
    case round =>
      obtain ⟨i, hi, rfl, hwr⟩ := hrel
      rw [hwr]
      clear hc
      by_cases hlt : i < n
      · have hb := hby.out i hlt
        have hd := hdg.out i
        generalize ds.getD i 0 = d at *
        go_wp2
        go_roundw
        case rel => exact ⟨i + 1, by omega, by go_num, by trivial⟩
        case measure => simp only [intOf]; omega
      · have hge : n ≤ i := by omega
        go_wp2
        go_ret
        exact ⟨rfl, rfl⟩

set_option maxHeartbeats 1000000 in
theorem big_isNumber_bad (w : World) (s : ByteArray) (h9 : s.size ≤ 2000) (hno : ∀ ds, ¬ Gs s ds) :
    Calls Tryz.prog 140 #[.string s] w fun e w' => e = .returned (.bool false) ∧ w' = w := by
  rcases Nat.eq_zero_or_pos s.size with hz | hz
  · have := is_empty hz
    subst this
    go_enter Tryz.func140, Tryz.ntmps140
    go_wp2
    go_ret
    exact ⟨rfl, rfl⟩
  obtain ⟨X, hX⟩ : ∃ X, Bt s X := ⟨_, Bt.all s⟩
  have hsz := hX.1
  have hby : Hid (∀ i, i < X.length → ∀ hs : i < s.size, (s[i]'hs).toNat = X.getD i 0) := fun i _ hs => hX.2 i hs
  have h256 : Hid (∀ i, X.getD i 0 < 256) := hX.lt
  have hend : Hid ((∀ i, i < X.length → 48 ≤ X.getD i 0 ∧ X.getD i 0 ≤ 57) → 2 ≤ X.length ∧ X.getD 0 0 = 48) := fun hd => by
    have hXe : by' (X.map fun x => x - 48) = X := by
      unfold by'
      rw [List.map_map]
      conv => rhs; rw [← List.map_id X]
      refine List.map_congr_left fun x hx => ?_
      obtain ⟨i, hi, rfl⟩ := List.mem_iff_getElem.mp hx
      have := hd i hi
      rw [show X.getD i 0 = X[i] by simp [List.getD, hi]] at this
      simp only [Function.comp, id]
      omega
    have hDg : Dg (X.map fun x => x - 48) := fun d hd2 => by
      obtain ⟨x, hx, rfl⟩ := List.mem_map.mp hd2
      obtain ⟨i, hi, rfl⟩ := List.mem_iff_getElem.mp hx
      have := hd i hi
      rw [show X.getD i 0 = X[i] by simp [List.getD, hi]] at this
      omega
    have hn := hno (X.map fun x => x - 48)
    have q : 0 < X.length := by omega
    by_cases h2 : 2 ≤ X.length
    · refine ⟨h2, ?_⟩
      by_cases h0 : X.getD 0 0 = 48
      · exact h0
      · exfalso
        refine hn ⟨⟨hDg, fun e => ?_, fun _ => ?_⟩, by rw [hXe]; exact hX⟩
        · have := congrArg List.length e; simp at this; rw [this] at q; simp at q
        · cases X with
          | nil => simp at q
          | cons x X =>
            have h48 := hd 0 (by simp)
            simp only [List.getD_cons_zero] at h0 h48
            simp only [List.map_cons, List.headD_cons]
            omega
    · exfalso
      refine hn ⟨⟨hDg, fun e => ?_, fun e => ?_⟩, by rw [hXe]; exact hX⟩
      · have := congrArg List.length e; simp at this; rw [this] at q; simp at q
      · simp at e; omega
  have hemp := ne_empty hz
  have hemp2 := ne_empty2 hz
  clear hno hX
  generalize hn : X.length = n at *
  clear hn
  have hb0 := hby.out 0 (by omega)
  have h250 := h256.out 0
  have hend2 : Hid (¬ (2 ≤ n ∧ X.getD 0 0 = 48) → ¬ ∀ i, i < n → 48 ≤ X.getD i 0 ∧ X.getD i 0 ≤ 57) := fun a b => a (hend.out b)
  generalize X.getD 0 0 = x0 at *
  by_cases hfirst : 2 ≤ n ∧ x0 = 48
  · obtain ⟨h2, rfl⟩ := hfirst
    have h21 : (1 : Int) < (n : Int) := by omega
    clear hend hend2
    go_enter Tryz.func140, Tryz.ntmps140
    go_wp2
    go_ret
    exact ⟨rfl, rfl⟩
  · have hall : Hid (¬ ∀ i, i < n → 48 ≤ X.getD i 0 ∧ X.getD i 0 ≤ 57) := hend2.out hfirst
    have hcase : (((x0 : Int) == 48) = false) ∨ (((x0 : Int) == 48) = true ∧ decide ((1 : Int) < (n : Int)) = false) := by
      rcases Nat.lt_trichotomy x0 48 with q | q | q
      · left; rw [beq_eq_false_iff_ne]; omega
      · right
        refine ⟨by rw [beq_iff_eq]; omega, decide_eq_false ?_⟩
        intro h1
        exact hfirst ⟨by omega, q⟩
      · left; rw [beq_eq_false_iff_ne]; omega
    clear hend hend2 hfirst
    go_enter Tryz.func140, Tryz.ntmps140
    rcases hcase with hc | ⟨hc, hc2⟩
    · go_wp2
      clear hb0 hemp hemp2 h250
      go_loopw [18] (fun vi wr => ∃ (i : Nat), i ≤ n ∧ vi = .int .i64 (i : Int) ∧ Hid (∀ j, j < i → 48 ≤ X.getD j 0 ∧ X.getD j 0 ≤ 57) ∧ wr = w)
        (fun vi _ => n - (intOf vi).toNat)
      case atStart => exact ⟨0, Nat.zero_le _, rfl, fun j hj => absurd hj (by omega), rfl⟩
      case round =>
        obtain ⟨i, hi, rfl, hgo, hwr⟩ := hrel
        rw [hwr]
        clear hc
        by_cases hlt : i < n
        · have hb := hby.out i hlt
          have h25 := h256.out i
          by_cases hg : 48 ≤ X.getD i 0 ∧ X.getD i 0 ≤ 57
          · have hall2 : Hid (∀ j, j < i + 1 → 48 ≤ X.getD j 0 ∧ X.getD j 0 ≤ 57) := fun j hj => by
              rcases Nat.lt_or_ge j i with q | q
              · exact hgo.out j q
              · obtain rfl : j = i := by omega
                exact hg
            obtain ⟨g1, g2⟩ := hg
            generalize X.getD i 0 = x at *
            go_wp2
            go_roundw
            case rel => exact ⟨i + 1, by omega, by go_num, hall2, by trivial⟩
            case measure => simp only [intOf]; omega
          · generalize X.getD i 0 = x at *
            rcases Nat.lt_or_ge x 48 with q | q
            · go_wp2
              go_ret
              exact ⟨rfl, rfl⟩
            · have q2 : 57 < x := by omega
              clear hg
              go_wp2
              go_ret
              exact ⟨rfl, rfl⟩
        · exact absurd (fun j hj => hgo.out j (by omega)) hall.out
    · go_wp2
      clear hb0 hemp hemp2 h250
      go_loopw [18] (fun vi wr => ∃ (i : Nat), i ≤ n ∧ vi = .int .i64 (i : Int) ∧ Hid (∀ j, j < i → 48 ≤ X.getD j 0 ∧ X.getD j 0 ≤ 57) ∧ wr = w)
        (fun vi _ => n - (intOf vi).toNat)
      case atStart => exact ⟨0, Nat.zero_le _, rfl, fun j hj => absurd hj (by omega), rfl⟩
      case round =>
        obtain ⟨i, hi, rfl, hgo, hwr⟩ := hrel
        rw [hwr]
        clear hc
        by_cases hlt : i < n
        · have hb := hby.out i hlt
          have h25 := h256.out i
          by_cases hg : 48 ≤ X.getD i 0 ∧ X.getD i 0 ≤ 57
          · have hall2 : Hid (∀ j, j < i + 1 → 48 ≤ X.getD j 0 ∧ X.getD j 0 ≤ 57) := fun j hj => by
              rcases Nat.lt_or_ge j i with q | q
              · exact hgo.out j q
              · obtain rfl : j = i := by omega
                exact hg
            obtain ⟨g1, g2⟩ := hg
            generalize X.getD i 0 = x at *
            go_wp2
            go_roundw
            case rel => exact ⟨i + 1, by omega, by go_num, hall2, by trivial⟩
            case measure => simp only [intOf]; omega
          · generalize X.getD i 0 = x at *
            rcases Nat.lt_or_ge x 48 with q | q
            · go_wp2
              go_ret
              exact ⟨rfl, rfl⟩
            · have q2 : 57 < x := by omega
              clear hg
              go_wp2
              go_ret
              exact ⟨rfl, rfl⟩
        · exact absurd (fun j hj => hgo.out j (by omega)) hall.out

set_option maxHeartbeats 1000000 in
theorem big_Check0 (w : World) (s : ByteArray) :
    Calls Tryz.prog 118 #[.string s] w fun e w' => e = .returned (.int .i64 (gchk s)) ∧ w' = w := by
  by_cases h1 : 2000 < s.size
  · have e : gchk s = 2 := by unfold gchk; rw [if_pos h1]
    rw [e]
    go_enter Tryz.func118, Tryz.ntmps118
    go_wp2
    go_ret
    exact ⟨rfl, rfl⟩
  · by_cases h2 : ∃ ds, Gs s ds
    · have e : gchk s = 0 := by unfold gchk; rw [if_neg h1, if_pos h2]
      obtain ⟨ds, hd⟩ := h2
      have c := fun W => big_isNumber_ok W s ds hd (by rw [← hd.size]; omega)
      rw [e]
      clear e hd
      go_enter Tryz.func118, Tryz.ntmps118
      go_wp2_with (go_at_call 140; refine Calls.mono (c _) ?_; rintro e w' ⟨rfl, hw⟩; rw [hw]; clear hw)
      go_ret
      exact ⟨rfl, rfl⟩
    · have e : gchk s = 3 := by unfold gchk; rw [if_neg h1, if_neg h2]
      have c := fun W => big_isNumber_bad W s (by omega) (fun ds h => h2 ⟨ds, h⟩)
      rw [e]
      clear e h2
      go_enter Tryz.func118, Tryz.ntmps118
      go_wp2_with (go_at_call 140; refine Calls.mono (c _) ?_; rintro e w' ⟨rfl, hw⟩; rw [hw]; clear hw)
      go_ret
      exact ⟨rfl, rfl⟩

set_option maxHeartbeats 1000000 in
theorem big_checkBoth (w : World) (s t : ByteArray) :
    Calls Tryz.prog 92 #[.string s, .string t] w fun e w' => e = .returned (.int .i64 (gchk2 s t)) ∧ w' = w := by
  have c := big_Check0
  by_cases h : gchk s = 0
  · have e : gchk2 s t = gchk t := by unfold gchk2; rw [if_pos h]
    rw [e]
    clear e
    go_enter Tryz.func92, Tryz.ntmps92
    go_wp2_with (go_at_call 118; refine Calls.mono (c _ _) ?_; rintro e w' ⟨rfl, hw⟩; rw [hw]; clear hw; (try rw [h]))
    go_ret
    exact ⟨rfl, rfl⟩
  · have e : gchk2 s t = gchk s := by unfold gchk2; rw [if_neg h]
    rw [e]
    have cs := c w s
    clear e c
    generalize gchk s = k at *
    have hb : (k == 0) = false := by rw [beq_eq_false_iff_ne]; exact h
    go_enter Tryz.func92, Tryz.ntmps92
    go_wp2_with (go_at_call 118; refine Calls.mono cs ?_; rintro e w' ⟨rfl, hw⟩; rw [hw]; clear hw)
    go_ret
    exact ⟨rfl, rfl⟩

end Go.Proofs.YtmggccepmicjhacGreatDoor
