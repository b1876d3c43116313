/-
  Texts that stood one behind the other, as one.
-/
import Derived.Test.YtckoipoejaafhaaDoorCdFtAll
import Derived.Shelf.Strings.Builder1
import Derived.Shelf.Strings.BuilderF
import Derived.Shelf.Strings.BuilderK
import Derived.Shelf.Strconv.Itoa0
import Derived.Shelf.Strconv.Itoa1
import Derived.Shelf.LaysM
import Derived.Shelf.Strconv.Itoa2
import Derived.Shelf.Bits.Mul64
import Derived.Test.YtckoipoejaafhaaDoorProg
namespace Go.Proofs.YtckoipoejaafhaaDoor
open Go.RowKit
set_option maxRecDepth 100000
theorem ne_empty {s : ByteArray} (h : 0 < s.size) : ¬ s.toList = [] := by
  intro e
  rw [ByteArray.toList_eq] at e
  have h1 : s.data.size = 0 := by rw [← Array.length_toList, e]; rfl
  have h2 : s.size = s.data.size := rfl
  omega
theorem ne_empty2 {s : ByteArray} (h : 0 < s.size) : s.toList.isEmpty = false := by
  rw [List.isEmpty_eq_false_iff]; exact ne_empty h
theorem is_empty {s : ByteArray} (h : s.size = 0) : s = { data := #[] } := by
  cases s with
  | mk d =>
    have : d = #[] := Array.eq_empty_of_size_eq_zero h
    rw [this]
set_option maxHeartbeats 1000000 in
theorem big_isNumber_ok (w : World) (s : ByteArray) (ds : List Nat) (h : Gs s ds) (h9 : ds.length ≤ 2000) :
    Calls Tryd.prog 136 #[.string s] w fun e w' => e = .returned (.bool true) ∧ w' = w := by
  have hsz := h.size
  have hby : Hid (∀ i, i < ds.length → ∀ hs : i < s.size, (s[i]'hs).toNat = 48 + ds.getD i 0) := h.byte
  have hdg : Hid (∀ i, ds.getD i 0 ≤ 9) := h.dg
  have hne : 0 < ds.length := by
    rcases Nat.eq_zero_or_pos ds.length with e | e
    · exact absurd (List.eq_nil_of_length_eq_zero e) h.1.2.1
    · exact e
  have hemp := ne_empty (s := s) (by rw [hsz]; exact hne)
  have hemp2 := ne_empty2 (s := s) (by rw [hsz]; exact hne)
  have hhd : Hid (2 ≤ ds.length → ds.getD 0 0 ≠ 0) := fun q => by
    have := h.1.2.2 q
    cases ds with
    | nil => simp at q
    | cons d l => exact this
  clear h
  generalize hn : ds.length = n at *
  clear hn
  have hb0 := hby.out 0 hne
  have hd0 := hhd.out
  have hd9 := hdg.out 0
  generalize ds.getD 0 0 = d0 at *
  go_enter Tryd.func136, Tryd.ntmps136
  have hcase : (((48 : Int) + (d0 : Int) == 48) = false) ∨ (((48 : Int) + (d0 : Int) == 48) = true ∧ decide ((1 : Int) < (n : Int)) = false) := by
    rcases Nat.eq_zero_or_pos d0 with q | q
    · right
      refine ⟨by rw [beq_iff_eq]; omega, decide_eq_false ?_⟩
      intro h1
      exact hd0 (by omega) q
    · left
      rw [beq_eq_false_iff_ne]; omega
  clear hd0
  rcases hcase with hc | ⟨hc, hc2⟩
  · go_wp2
    clear hb0 hemp hemp2
    go_loopw [18] (fun vi wr => ∃ (i : Nat), i ≤ n ∧ vi = .int .i64 (i : Int) ∧ wr = w)
      (fun vi _ => n - (intOf vi).toNat)
    case atStart => exact ⟨0, Nat.zero_le _, rfl, rfl⟩
    case round =>
      obtain ⟨i, hi, rfl, hwr⟩ := hrel
      rw [hwr]
      clear hc
      by_cases hlt : i < n
      · have hb := hby.out i hlt
        have hd := hdg.out i
        generalize ds.getD i 0 = d at *
        go_wp2
        go_roundw
        case rel => exact ⟨i + 1, by omega, by go_num, by trivial⟩
        case measure => simp only [intOf]; omega
      · have hge : n ≤ i := by omega
        go_wp2
        go_ret
        exact ⟨rfl, rfl⟩
  · go_wp2
    clear hb0 hemp hemp2
    go_loopw [18] (fun vi wr => ∃ (i : Nat), i ≤ n ∧ vi = .int .i64 (i : Int) ∧ wr = w)
      (fun vi _ => n - (intOf vi).toNat)
    case atStart => exact ⟨0, Nat.zero_le _, rfl, rfl⟩
    case round =>
      obtain ⟨i, hi, rfl, hwr⟩ := hrel
      rw [hwr]
      clear hc
      by_cases hlt : i < n
      · have hb := hby.out i hlt
        have hd := hdg.out i
        generalize ds.getD i 0 = d at *
        go_wp2
        go_roundw
        case rel => exact ⟨i + 1, by omega, by go_num, by trivial⟩
        case measure => simp only [intOf]; omega
      · have hge : n ≤ i := by omega
        go_wp2
        go_ret
        exact ⟨rfl, rfl⟩
set_option maxHeartbeats 1000000 in
theorem big_isNumber_bad (w : World) (s : ByteArray) (h9 : s.size ≤ 2000) (hno : ∀ ds, ¬ Gs s ds) :
    Calls Tryd.prog 136 #[.string s] w fun e w' => e = .returned (.bool false) ∧ w' = w := by
  rcases Nat.eq_zero_or_pos s.size with hz | hz
  · have := is_empty hz
    subst this
    go_enter Tryd.func136, Tryd.ntmps136
    go_wp2
    go_ret
    exact ⟨rfl, rfl⟩
  obtain ⟨X, hX⟩ : ∃ X, Bt s X := ⟨_, Bt.all s⟩
  have hsz := hX.1
  have hby : Hid (∀ i, i < X.length → ∀ hs : i < s.size, (s[i]'hs).toNat = X.getD i 0) := fun i _ hs => hX.2 i hs
  have h256 : Hid (∀ i, X.getD i 0 < 256) := hX.lt
  have hend : Hid ((∀ i, i < X.length → 48 ≤ X.getD i 0 ∧ X.getD i 0 ≤ 57) → 2 ≤ X.length ∧ X.getD 0 0 = 48) := fun hd => by
    have hXe : by' (X.map fun x => x - 48) = X := by
      unfold by'
      rw [List.map_map]
      conv => rhs; rw [← List.map_id X]
      refine List.map_congr_left fun x hx => ?_
      obtain ⟨i, hi, rfl⟩ := List.mem_iff_getElem.mp hx
      have := hd i hi
      rw [show X.getD i 0 = X[i] by simp [List.getD, hi]] at this
      simp only [Function.comp, id]
      omega
    have hDg : Dg (X.map fun x => x - 48) := fun d hd2 => by
      obtain ⟨x, hx, rfl⟩ := List.mem_map.mp hd2
      obtain ⟨i, hi, rfl⟩ := List.mem_iff_getElem.mp hx
      have := hd i hi
      rw [show X.getD i 0 = X[i] by simp [List.getD, hi]] at this
      omega
    have hn := hno (X.map fun x => x - 48)
    have q : 0 < X.length := by omega
    by_cases h2 : 2 ≤ X.length
    · refine ⟨h2, ?_⟩
      by_cases h0 : X.getD 0 0 = 48
      · exact h0
      · exfalso
        refine hn ⟨⟨hDg, fun e => ?_, fun _ => ?_⟩, by rw [hXe]; exact hX⟩
        · have := congrArg List.length e; simp at this; rw [this] at q; simp at q
        · cases X with
          | nil => simp at q
          | cons x X =>
            have h48 := hd 0 (by simp)
            simp only [List.getD_cons_zero] at h0 h48
            simp only [List.map_cons, List.headD_cons]
            omega
    · exfalso
      refine hn ⟨⟨hDg, fun e => ?_, fun e => ?_⟩, by rw [hXe]; exact hX⟩
      · have := congrArg List.length e; simp at this; rw [this] at q; simp at q
      · simp at e; omega
  have hemp := ne_empty hz
  have hemp2 := ne_empty2 hz
  clear hno hX
  generalize hn : X.length = n at *
  clear hn
  have hb0 := hby.out 0 (by omega)
  have h250 := h256.out 0
  have hend2 : Hid (¬ (2 ≤ n ∧ X.getD 0 0 = 48) → ¬ ∀ i, i < n → 48 ≤ X.getD i 0 ∧ X.getD i 0 ≤ 57) := fun a b => a (hend.out b)
  generalize X.getD 0 0 = x0 at *
  by_cases hfirst : 2 ≤ n ∧ x0 = 48
  · obtain ⟨h2, rfl⟩ := hfirst
    have h21 : (1 : Int) < (n : Int) := by omega
    clear hend hend2
    go_enter Tryd.func136, Tryd.ntmps136
    go_wp2
    go_ret
    exact ⟨rfl, rfl⟩
  · have hall : Hid (¬ ∀ i, i < n → 48 ≤ X.getD i 0 ∧ X.getD i 0 ≤ 57) := hend2.out hfirst
    have hcase : (((x0 : Int) == 48) = false) ∨ (((x0 : Int) == 48) = true ∧ decide ((1 : Int) < (n : Int)) = false) := by
      rcases Nat.lt_trichotomy x0 48 with q | q | q
      · left; rw [beq_eq_false_iff_ne]; omega
      · right
        refine ⟨by rw [beq_iff_eq]; omega, decide_eq_false ?_⟩
        intro h1
        exact hfirst ⟨by omega, q⟩
      · left; rw [beq_eq_false_iff_ne]; omega
    clear hend hend2 hfirst
    go_enter Tryd.func136, Tryd.ntmps136
    rcases hcase with hc | ⟨hc, hc2⟩
    · go_wp2
      clear hb0 hemp hemp2 h250
      go_loopw [18] (fun vi wr => ∃ (i : Nat), i ≤ n ∧ vi = .int .i64 (i : Int) ∧ Hid (∀ j, j < i → 48 ≤ X.getD j 0 ∧ X.getD j 0 ≤ 57) ∧ wr = w)
        (fun vi _ => n - (intOf vi).toNat)
      case atStart => exact ⟨0, Nat.zero_le _, rfl, fun j hj => absurd hj (by omega), rfl⟩
      case round =>
        obtain ⟨i, hi, rfl, hgo, hwr⟩ := hrel
        rw [hwr]
        clear hc
        by_cases hlt : i < n
        · have hb := hby.out i hlt
          have h25 := h256.out i
          by_cases hg : 48 ≤ X.getD i 0 ∧ X.getD i 0 ≤ 57
          · have hall2 : Hid (∀ j, j < i + 1 → 48 ≤ X.getD j 0 ∧ X.getD j 0 ≤ 57) := fun j hj => by
              rcases Nat.lt_or_ge j i with q | q
              · exact hgo.out j q
              · obtain rfl : j = i := by omega
                exact hg
            obtain ⟨g1, g2⟩ := hg
            generalize X.getD i 0 = x at *
            go_wp2
            go_roundw
            case rel => exact ⟨i + 1, by omega, by go_num, hall2, by trivial⟩
            case measure => simp only [intOf]; omega
          · generalize X.getD i 0 = x at *
            rcases Nat.lt_or_ge x 48 with q | q
            · go_wp2
              go_ret
              exact ⟨rfl, rfl⟩
            · have q2 : 57 < x := by omega
              clear hg
              go_wp2
              go_ret
              exact ⟨rfl, rfl⟩
        · exact absurd (fun j hj => hgo.out j (by omega)) hall.out
    · go_wp2
      clear hb0 hemp hemp2 h250
      go_loopw [18] (fun vi wr => ∃ (i : Nat), i ≤ n ∧ vi = .int .i64 (i : Int) ∧ Hid (∀ j, j < i → 48 ≤ X.getD j 0 ∧ X.getD j 0 ≤ 57) ∧ wr = w)
        (fun vi _ => n - (intOf vi).toNat)
      case atStart => exact ⟨0, Nat.zero_le _, rfl, fun j hj => absurd hj (by omega), rfl⟩
      case round =>
        obtain ⟨i, hi, rfl, hgo, hwr⟩ := hrel
        rw [hwr]
        clear hc
        by_cases hlt : i < n
        · have hb := hby.out i hlt
          have h25 := h256.out i
          by_cases hg : 48 ≤ X.getD i 0 ∧ X.getD i 0 ≤ 57
          · have hall2 : Hid (∀ j, j < i + 1 → 48 ≤ X.getD j 0 ∧ X.getD j 0 ≤ 57) := fun j hj => by
              rcases Nat.lt_or_ge j i with q | q
              · exact hgo.out j q
              · obtain rfl : j = i := by omega
                exact hg
            obtain ⟨g1, g2⟩ := hg
            generalize X.getD i 0 = x at *
            go_wp2
            go_roundw
            case rel => exact ⟨i + 1, by omega, by go_num, hall2, by trivial⟩
            case measure => simp only [intOf]; omega
          · generalize X.getD i 0 = x at *
            rcases Nat.lt_or_ge x 48 with q | q
            · go_wp2
              go_ret
              exact ⟨rfl, rfl⟩
            · have q2 : 57 < x := by omega
              clear hg
              go_wp2
              go_ret
              exact ⟨rfl, rfl⟩
        · exact absurd (fun j hj => hgo.out j (by omega)) hall.out
set_option maxHeartbeats 1000000 in
theorem big_Check0 (w : World) (s : ByteArray) :
    Calls Tryd.prog 94 #[.string s] w fun e w' => e = .returned (.int .i64 (gchk s)) ∧ w' = w := by
  by_cases h1 : 2000 < s.size
  · have e : gchk s = 2 := by unfold gchk; rw [if_pos h1]
    rw [e]
    go_enter Tryd.func94, Tryd.ntmps94
    go_wp2
    go_ret
    exact ⟨rfl, rfl⟩
  · by_cases h2 : ∃ ds, Gs s ds
    · have e : gchk s = 0 := by unfold gchk; rw [if_neg h1, if_pos h2]
      obtain ⟨ds, hd⟩ := h2
      have c := fun W => big_isNumber_ok W s ds hd (by rw [← hd.size]; omega)
      rw [e]
      clear e hd
      go_enter Tryd.func94, Tryd.ntmps94
      go_wp2_with (go_at_call 136; refine Calls.mono (c _) ?_; rintro e w' ⟨rfl, hw⟩; rw [hw]; clear hw)
      go_ret
      exact ⟨rfl, rfl⟩
    · have e : gchk s = 3 := by unfold gchk; rw [if_neg h1, if_neg h2]
      have c := fun W => big_isNumber_bad W s (by omega) (fun ds h => h2 ⟨ds, h⟩)
      rw [e]
      clear e h2
      go_enter Tryd.func94, Tryd.ntmps94
      go_wp2_with (go_at_call 136; refine Calls.mono (c _) ?_; rintro e w' ⟨rfl, hw⟩; rw [hw]; clear hw)
      go_ret
      exact ⟨rfl, rfl⟩
set_option maxHeartbeats 1000000 in
theorem big_checkBoth (w : World) (s t : ByteArray) :
    Calls Tryd.prog 54 #[.string s, .string t] w fun e w' => e = .returned (.int .i64 (gchk2 s t)) ∧ w' = w := by
  have c := big_Check0
  by_cases h : gchk s = 0
  · have e : gchk2 s t = gchk t := by unfold gchk2; rw [if_pos h]
    rw [e]
    clear e
    go_enter Tryd.func54, Tryd.ntmps54
    go_wp2_with (go_at_call 94; refine Calls.mono (c _ _) ?_; rintro e w' ⟨rfl, hw⟩; rw [hw]; clear hw; (try rw [h]))
    go_ret
    exact ⟨rfl, rfl⟩
  · have e : gchk2 s t = gchk s := by unfold gchk2; rw [if_neg h]
    rw [e]
    have cs := c w s
    clear e c
    generalize gchk s = k at *
    have hb : (k == 0) = false := by rw [beq_eq_false_iff_ne]; exact h
    go_enter Tryd.func54, Tryd.ntmps54
    go_wp2_with (go_at_call 94; refine Calls.mono cs ?_; rintro e w' ⟨rfl, hw⟩; rw [hw]; clear hw)
    go_ret
    exact ⟨rfl, rfl⟩
end Go.Proofs.YtckoipoejaafhaaDoor

namespace Go.Proofs.YtckoipoejaafhaaDoor
theorem val_set (l : List Nat) (k x : Nat) (hk : k < l.length) : val (l.set k x) + l.getD k 0 * 10 ^ (l.length - 1 - k) = val l + x * 10 ^ (l.length - 1 - k) := by
  induction l generalizing k with
  | nil => simp at hk
  | cons d l ih =>
    cases k with
    | zero =>
      simp only [List.set_cons_zero, List.getD_cons_zero, val_cons, List.length_cons, Nat.add_sub_cancel, Nat.sub_zero]
      omega
    | succ k =>
      simp only [List.length_cons, Nat.add_lt_add_iff_right] at hk
      simp only [List.set_cons_succ, List.getD_cons_succ, val_cons, List.length_set, List.length_cons, Nat.add_sub_cancel]
      have := ih k hk
      rw [show l.length - (k + 1) = l.length - 1 - k by omega]
      omega
theorem val_take_succ (l : List Nat) (i : Nat) (h : i < l.length) : val (l.take (i + 1)) = val (l.take i) * 10 + l.getD i 0 := by
  rw [List.take_add_one, List.getElem?_eq_getElem h, Option.toList_some, val_snoc]
  simp [List.getD, h]
theorem getD_set_nat (l : List Nat) (k j x : Nat) (hk : k < l.length) : (l.set k x).getD j 0 = if j = k then x else l.getD j 0 := by
  by_cases e : j = k
  · subst e; simp [List.getD, hk]
  · rw [if_neg e, List.getD, List.getElem?_set_ne (Ne.symm e)]; rfl
structure Pd (a b l : List Nat) (i j : Nat) : Prop where
  len : l.length = a.length + b.length
  eq : val l = val (a.take i) * 10 ^ (a.length - i) * val b + a.getD i 0 * (val (b.take j) * 10 ^ (b.length - j)) * 10 ^ (a.length - 1 - i)
  bd : ∀ k, l.getD k 0 ≤ 81 * i + (if k < i + j + 1 then 81 else 0)
theorem Pd.start (a b : List Nat) : Pd a b (List.replicate (a.length + b.length) 0) 0 0 := by
  have hv : ∀ n, val (List.replicate n 0) = 0 := fun n => by
    induction n with
    | zero => rfl
    | succ n ih => rw [List.replicate_succ, val_cons, ih]; simp
  refine ⟨by simp, by rw [hv]; simp [val_nil], fun k => ?_⟩
  have : (List.replicate (a.length + b.length) 0).getD k 0 = 0 := by
    rw [List.getD, List.getElem?_replicate]
    split <;> rfl
  rw [this]; exact Nat.zero_le _
theorem Pd.inner {a b l : List Nat} {i j : Nat} (h : Pd a b l i j) (ha : Dg a) (hb : Dg b) (hi : i < a.length) (hj : j < b.length) : Pd a b (l.set (i + j + 1) (l.getD (i + j + 1) 0 + a.getD i 0 * b.getD j 0)) i (j + 1) := by
  have hlen := h.len
  have hk : i + j + 1 < l.length := by omega
  have hA : a.getD i 0 ≤ 9 := by rw [show a.getD i 0 = a[i] by simp [List.getD, hi]]; exact ha _ (List.getElem_mem hi)
  have hB : b.getD j 0 ≤ 9 := by rw [show b.getD j 0 = b[j] by simp [List.getD, hj]]; exact hb _ (List.getElem_mem hj)
  have hAB : a.getD i 0 * b.getD j 0 ≤ 81 := Nat.mul_le_mul hA hB
  refine ⟨by rw [List.length_set]; exact hlen, ?_, fun k => ?_⟩
  · have hs := val_set l (i + j + 1) (l.getD (i + j + 1) 0 + a.getD i 0 * b.getD j 0) hk
    rw [show l.length - 1 - (i + j + 1) = (a.length - 1 - i) + (b.length - 1 - j) by omega, Nat.pow_add] at hs
    rw [val_take_succ b j hj, show b.length - (j + 1) = b.length - 1 - j by omega]
    have he := h.eq
    rw [show b.length - j = (b.length - 1 - j) + 1 by omega, Nat.pow_succ] at he
    generalize val (a.take i) * 10 ^ (a.length - i) * val b = A at *
    generalize 10 ^ (a.length - 1 - i) = U at *
    generalize 10 ^ (b.length - 1 - j) = W at *
    generalize a.getD i 0 = x at *
    generalize b.getD j 0 = y at *
    generalize val (b.take j) = V at *
    generalize l.getD (i + j + 1) 0 = z at *
    have e1 : (z + x * y) * (U * W) = z * (U * W) + x * y * (U * W) := Nat.add_mul _ _ _
    have e2 : x * ((V * 10 + y) * W) * U = x * (V * (W * 10)) * U + x * y * (U * W) := by grind
    omega
  · rw [getD_set_nat l _ _ _ hk]
    have h0 := h.bd k
    have h1 := h.bd (i + j + 1)
    rw [if_neg (by omega)] at h1
    by_cases e : k = i + j + 1
    · rw [if_pos e, if_pos (by omega)]; omega
    · rw [if_neg e]
      by_cases e2 : k < i + j + 1
      · rw [if_pos e2] at h0; rw [if_pos (by omega)]; exact h0
      · rw [if_neg e2] at h0; rw [if_neg (by omega)]; exact h0
theorem Pd.outer {a b l : List Nat} {i : Nat} (h : Pd a b l i b.length) (hi : i < a.length) : Pd a b l (i + 1) 0 := by
  refine ⟨h.len, ?_, fun k => ?_⟩
  · have he := h.eq
    rw [List.take_length, Nat.sub_self, Nat.pow_zero, Nat.mul_one, show a.length - i = (a.length - 1 - i) + 1 by omega, Nat.pow_succ] at he
    rw [val_take_succ a i hi, show a.length - (i + 1) = a.length - 1 - i by omega, List.take_zero, val_nil, Nat.zero_mul, Nat.mul_zero, Nat.zero_mul, Nat.add_zero, he]
    generalize 10 ^ (a.length - 1 - i) = U
    generalize val (a.take i) = V
    generalize a.getD i 0 = x
    generalize val b = B
    grind
  · have := h.bd k
    split at this <;> split <;> omega
theorem Pd.full {a b l : List Nat} (h : Pd a b l a.length 0) : val l = val a * val b := by
  have he := h.eq
  rw [List.take_length, Nat.sub_self, Nat.pow_zero, Nat.mul_one, List.take_zero, val_nil, Nat.zero_mul, Nat.mul_zero, Nat.zero_mul, Nat.add_zero] at he
  exact he
structure Cy (v : Nat) (l : List Nat) (N k : Nat) : Prop where
  len : l.length = N
  eq : val l = v
  low : ∀ j, j < k → l.getD j 0 ≤ 170000
  at' : l.getD k 0 ≤ 190000
  dg : ∀ j, k < j → l.getD j 0 ≤ 9
theorem Cy.start {a b l : List Nat} (h : Pd a b l a.length 0) (ha : a.length ≤ 2000) (hN : 1 ≤ a.length + b.length) : Cy (val a * val b) l (a.length + b.length) (a.length + b.length - 1) := by
  have hall : ∀ k, l.getD k 0 ≤ 81 * a.length + 81 := fun k => by
    have := h.bd k
    split at this <;> omega
  have hlen := h.len
  refine ⟨hlen, h.full, fun j _ => by have := hall j; omega, by have := hall (a.length + b.length - 1); omega, fun j hj => ?_⟩
  rw [List.getD, List.getElem?_eq_none (by omega)]; exact Nat.zero_le _
theorem Cy.step {v : Nat} {l : List Nat} {N k : Nat} (h : Cy v l N (k + 1)) (hk : k + 1 < N) : Cy v ((l.set k (l.getD k 0 + l.getD (k + 1) 0 / 10)).set (k + 1) (l.getD (k + 1) 0 % 10)) N k := by
  have hlen := h.len
  have h1 := val_set l k (l.getD k 0 + l.getD (k + 1) 0 / 10) (by omega)
  have h2 := val_set (l.set k (l.getD k 0 + l.getD (k + 1) 0 / 10)) (k + 1) (l.getD (k + 1) 0 % 10) (by rw [List.length_set]; omega)
  have hg : ∀ j, ((l.set k (l.getD k 0 + l.getD (k + 1) 0 / 10)).set (k + 1) (l.getD (k + 1) 0 % 10)).getD j 0 = if j = k + 1 then l.getD (k + 1) 0 % 10 else if j = k then l.getD k 0 + l.getD (k + 1) 0 / 10 else l.getD j 0 := fun j => by
    rw [getD_set_nat _ _ _ _ (by rw [List.length_set]; omega), getD_set_nat _ _ _ _ (by omega)]
  have hl := h.low k (by omega)
  have ha := h.at'
  refine ⟨by rw [List.length_set, List.length_set]; exact hlen, ?_, fun j hj => ?_, ?_, fun j hj => ?_⟩
  · have he := h.eq
    rw [getD_set_nat _ _ _ _ (by omega), if_neg (by omega), List.length_set] at h2
    rw [show l.length - 1 - k = (l.length - 1 - (k + 1)) + 1 by omega, Nat.pow_succ] at h1
    have hd : l.getD (k + 1) 0 % 10 + 10 * (l.getD (k + 1) 0 / 10) = l.getD (k + 1) 0 := Nat.mod_add_div _ _
    generalize 10 ^ (l.length - 1 - (k + 1)) = W at *
    generalize l.getD (k + 1) 0 / 10 = q at *
    generalize l.getD (k + 1) 0 % 10 = r at *
    generalize l.getD k 0 = x at *
    rw [← hd] at h2
    have e1 : (x + q) * (W * 10) = x * (W * 10) + q * 10 * W := by grind
    have e2 : (r + 10 * q) * W = r * W + q * 10 * W := by grind
    omega
  · rw [hg, if_neg (by omega), if_neg (by omega)]; exact h.low j (by omega)
  · rw [hg, if_neg (by omega), if_pos rfl]; omega
  · rw [hg]
    by_cases e : j = k + 1
    · rw [if_pos e]; omega
    · rw [if_neg e, if_neg (by omega)]; exact h.dg j (by omega)
theorem Cy.ends {v : Nat} {l : List Nat} {N : Nat} (h : Cy v l N 0) (hN : 1 ≤ N) (hv : v < 10 ^ N) : Dg l := by
  have hlen := h.len
  have he := h.eq
  have hd := h.dg
  cases l with
  | nil => simp at hlen; omega
  | cons d t =>
    rw [Dg.cons]
    rw [List.length_cons] at hlen
    constructor
    · rw [val_cons] at he
      rw [← hlen, Nat.pow_succ] at hv
      rcases Nat.lt_or_ge 9 d with q | q
      · have : 10 * 10 ^ t.length ≤ d * 10 ^ t.length := Nat.mul_le_mul_right _ q
        omega
      · exact q
    · intro x hx
      obtain ⟨i, hi, rfl⟩ := List.mem_iff_getElem.mp hx
      have := hd (i + 1) (by omega)
      rw [List.getD_cons_succ] at this
      rw [show t.getD i 0 = t[i] by simp [List.getD, hi]] at this
      exact this
theorem val_mul_lt {a b : List Nat} (ha : Dg a) (hb : Dg b) : val a * val b < 10 ^ (a.length + b.length) := by
  rw [Nat.pow_add]
  have h1 := dval_lt ha
  have h2 := dval_lt hb
  calc val a * val b ≤ val a * 10 ^ b.length := Nat.mul_le_mul_left _ (by omega)
    _ < 10 ^ a.length * 10 ^ b.length := Nat.mul_lt_mul_of_pos_right h1 (pow_pos10 _)
theorem val_drop {l : List Nat} {o : Nat} (ho : o < l.length) (h0 : l.getD o 0 = 0) : val (l.drop (o + 1)) = val (l.drop o) := by
  rw [List.drop_eq_getElem_cons ho, val_cons]
  rw [show l.getD o 0 = l[o] by simp [List.getD, ho]] at h0
  rw [h0]; simp
theorem Gt.drop {l : List Nat} {o : Nat} (h : Dg l) (ho : o < l.length) (h1 : o + 1 = l.length ∨ l.getD o 0 ≠ 0) : Gt (l.drop o) := by
  refine ⟨fun d hd => h d (List.mem_of_mem_drop hd), fun e => ?_, fun h2 => ?_⟩
  · have := congrArg List.length e
    simp at this
    omega
  · rw [List.length_drop] at h2
    rw [List.drop_eq_getElem_cons ho, List.headD_cons]
    rcases h1 with h1 | h1
    · omega
    · rw [show l.getD o 0 = l[o] by simp [List.getD, ho]] at h1
      exact h1
end Go.Proofs.YtckoipoejaafhaaDoor

namespace Go.Proofs
open Go.Shelf
def Tryd.lays283_ren : Go.Shelf.Ren := ⟨fun | 283 => 154 | n => n, fun | 3 => 3 | 9 => 9 | 4 => 4 | n => n, fun | n => n⟩
theorem Tryd.lays283 : Go.Proofs.Lays.n283 Tryd.prog Tryd.lays283_ren := {
  mixed := by kernel_rfl
  f283 := Tryd.func154.trans (congrArg some (by kernel_rfl))
  t3 := Tryd.underlying3
  a3 := Tryd.isAgg3
  z3 := Tryd.sizeOf3
  v3 := Tryd.zeroValue3
  t4 := Tryd.underlying4
  a4 := Tryd.isAgg4
  z4 := Tryd.sizeOf4
  v4 := Tryd.zeroValue4
  t9 := Tryd.underlying9
  a9 := Tryd.isAgg9
  z9 := Tryd.sizeOf9
  v9 := Tryd.zeroValue9 }
open Go.Lib in
theorem Tryd.internal_strconv_small (i : Nat) (h : i < 100) (w : World) :
    Calls Tryd.prog 154 #[.int .i64 i] w fun e w' => e = .returned (.string ⟨(Lib.decDigits i).toArray⟩) ∧ w' = w := Any.internal_strconv_small Tryd.lays283 i h w
def Tryd.laysM284_ren : Go.Shelf.Ren := ⟨fun | 284 => 155 | 129 => 100 | 317 => 161 | 318 => 162 | n => n, fun | 53 => 34 | 3 => 3 | 212 => 203 | 0 => 0 | 4 => 4 | 46 => 88 | 5 => 5 | 9 => 9 | n => n, fun | 17 => 0 | n => n⟩
theorem Tryd.laysM284 : Go.Proofs.LaysM.n284 Tryd.prog Tryd.laysM284_ren := {
  mixed := by kernel_rfl
  f129 := Tryd.func100.trans (congrArg some (by kernel_rfl))
  f284 := Tryd.func155.trans (congrArg some (by kernel_rfl))
  f317 := Tryd.func161.trans (congrArg some (by kernel_rfl))
  f318 := Tryd.func162.trans (congrArg some (by kernel_rfl))
  t0 := Tryd.underlying0
  a0 := Tryd.isAgg0
  z0 := Tryd.sizeOf0
  v0 := Tryd.zeroValue0
  t3 := Tryd.underlying3
  a3 := Tryd.isAgg3
  z3 := Tryd.sizeOf3
  v3 := Tryd.zeroValue3
  t4 := Tryd.underlying4
  a4 := Tryd.isAgg4
  z4 := Tryd.sizeOf4
  v4 := Tryd.zeroValue4
  t5 := Tryd.underlying5
  a5 := Tryd.isAgg5
  z5 := Tryd.sizeOf5
  v5 := Tryd.zeroValue5
  t9 := Tryd.underlying9
  a9 := Tryd.isAgg9
  z9 := Tryd.sizeOf9
  v9 := Tryd.zeroValue9
  t46 := Tryd.underlying88
  a46 := Tryd.isAgg88
  z46 := Tryd.sizeOf88
  v46 := Tryd.zeroValue88
  t53 := Tryd.underlying34
  a53 := Tryd.isAgg34
  z53 := Tryd.sizeOf34
  v53 := Tryd.zeroValue34
  t212 := Tryd.underlying203
  a212 := Tryd.isAgg203
  z212 := Tryd.sizeOf203
  v212 := Tryd.zeroValue203
  g17 := by kernel_rfl
  i0 := by kernel_rfl
  i3 := by kernel_rfl
  i4 := by kernel_rfl
  i5 := by kernel_rfl
  i9 := by kernel_rfl
  i46 := by kernel_rfl
  i53 := by kernel_rfl
  i212 := by kernel_rfl
  m17 := by kernel_rfl }
open Go.Lib in
theorem Tryd.internal_strconv_numDigits (u : Nat) (h1 : 1 ≤ u) (h2 : u < 18446744073709551616) (w : World) (htab : Lib.TabIs Tryd.prog w "internal/strconv.uint64pow10" .u64 Lib.pow10Tab) :
    Calls Tryd.prog 155 #[.int .u64 u] w fun e w' => e = .returned (.int .i64 (Lib.nDigits u)) ∧ w' = w := Any.internal_strconv_numDigits Tryd.laysM284 u h1 h2 w htab
def Tryd.lays285_ren : Go.Shelf.Ren := ⟨fun | 285 => 156 | n => n, fun | 37 => 55 | 53 => 34 | 3 => 3 | 4 => 4 | 51 => 119 | 9 => 9 | 5 => 5 | 0 => 0 | n => n, fun | n => n⟩
theorem Tryd.lays285 : Go.Proofs.Lays.n285 Tryd.prog Tryd.lays285_ren := {
  mixed := by kernel_rfl
  f285 := Tryd.func156.trans (congrArg some (by kernel_rfl))
  t0 := Tryd.underlying0
  a0 := Tryd.isAgg0
  z0 := Tryd.sizeOf0
  v0 := Tryd.zeroValue0
  t3 := Tryd.underlying3
  a3 := Tryd.isAgg3
  z3 := Tryd.sizeOf3
  v3 := Tryd.zeroValue3
  t4 := Tryd.underlying4
  a4 := Tryd.isAgg4
  z4 := Tryd.sizeOf4
  v4 := Tryd.zeroValue4
  t5 := Tryd.underlying5
  a5 := Tryd.isAgg5
  z5 := Tryd.sizeOf5
  v5 := Tryd.zeroValue5
  t9 := Tryd.underlying9
  a9 := Tryd.isAgg9
  z9 := Tryd.sizeOf9
  v9 := Tryd.zeroValue9
  t37 := Tryd.underlying55
  a37 := Tryd.isAgg55
  z37 := Tryd.sizeOf55
  v37 := Tryd.zeroValue55
  t51 := Tryd.underlying119
  a51 := Tryd.isAgg119
  z51 := Tryd.sizeOf119
  v51 := Tryd.zeroValue119
  t53 := Tryd.underlying34
  a53 := Tryd.isAgg34
  z53 := Tryd.sizeOf34
  v53 := Tryd.zeroValue34 }
open Go.RowKit Go.Sort Go.Lib in
theorem Tryd.internal_strconv_formatBase10 (blk off cap : Nat) (u : Nat) (d : Array UInt8) (w : World) (hH : Holds (fun (b : UInt8) => Value.int .u8 (b.toNat : Int)) w blk off d) (hu : u < 10 ^ d.size) (hu64 : u < 18446744073709551616) (hsz : d.size < 4611686018427387904) :
    Calls Tryd.prog 156 #[.slice (some ⟨blk, off, none⟩) d.size cap, .int .u64 u] w fun e w' =>
      e = .returned (.tuple #[]) ∧ ∃ (n v' : Nat) (dk : Array UInt8), w' = (putRow (fun (b : UInt8) => Value.int .u8 (b.toNat : Int)) w blk off dk).drewN n ∧ FmtInv d.size u 0 v' dk := Any.internal_strconv_formatBase10 Tryd.lays285 blk off cap u d w hH hu hu64 hsz
end Go.Proofs
