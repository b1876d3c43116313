/-
  What isNumber, Check, checkBoth, value of package big answer.
-/
import Derived.Test.YtmggccepmicjhagGreatDoorConvCAll
namespace Go.Proofs.YtmggccepmicjhagGreatDoor
open Go.RowKit
set_option maxRecDepth 100000

theorem ne_empty {s : ByteArray} (h : 0 < s.size) : ¬ s.toList = [] := by
  intro e
  rw [ByteArray.toList_eq] at e
  have h1 : s.data.size = 0 := by rw [← Array.length_toList, e]; rfl
  have h2 : s.size = s.data.size := rfl
  omega
theorem ne_empty2 {s : ByteArray} (h : 0 < s.size) : s.toList.isEmpty = false := by
  rw [List.isEmpty_eq_false_iff]; exact ne_empty h
theorem is_empty {s : ByteArray} (h : s.size = 0) : s = { data := #[] } := by
  cases s with
  | mk d =>
    have : d = #[] := Array.eq_empty_of_size_eq_zero h
    rw [this]

set_option maxHeartbeats 1000000 in
theorem big_isNumber_ok (w : World) (s : ByteArray) (ds : List Nat) (h : Gs s ds) (h9 : ds.length ≤ 2000) :
    Calls Tryz.prog 112 #[.string s] w fun e w' => e = .returned (.bool true) ∧ w' = w := by
  have hsz := h.size
  have hby : Hid (∀ i, i < ds.length → ∀ hs : i < s.size, (s[i]'hs).toNat = 48 + ds.getD i 0) := h.byte
  have hdg : Hid (∀ i, ds.getD i 0 ≤ 9) := h.dg
  have hne : 0 < ds.length := by
    rcases Nat.eq_zero_or_pos ds.length with e | e
    · exact absurd (List.eq_nil_of_length_eq_zero e) h.1.2.1
    · exact e
  have hemp := ne_empty (s := s) (by rw [hsz]; exact hne)
  have hemp2 := ne_empty2 (s := s) (by rw [hsz]; exact hne)
  have hhd : Hid (2 ≤ ds.length → ds.getD 0 0 ≠ 0) := fun q => by
    have := h.1.2.2 q
    cases ds with
    | nil => simp at q
    | cons d l => exact this
  clear h
  generalize hn : ds.length = n at *
  clear hn
  have hb0 := hby.out 0 hne
  have hd0 := hhd.out
  have hd9 := hdg.out 0
  generalize ds.getD 0 0 = d0 at *
  go_enter Tryz.func112, Tryz.ntmps112
  have hcase : (((48 : Int) + (d0 : Int) == 48) = false) ∨ (((48 : Int) + (d0 : Int) == 48) = true ∧ decide ((1 : Int) < (n : Int)) = false) := by
    rcases Nat.eq_zero_or_pos d0 with q | q
    · right
      refine ⟨by rw [beq_iff_eq]; omega, decide_eq_false ?_⟩
      intro h1
      exact hd0 (by omega) q
    · left
      rw [beq_eq_false_iff_ne]; omega
  clear hd0
  rcases hcase with hc | ⟨hc, hc2⟩
  · go_wp2
    clear hb0 hemp hemp2
    go_loopw [18] (fun vi wr => ∃ (i : Nat), i ≤ n ∧ vi = .int .i64 (i : Int) ∧ wr = w)
      (fun vi _ => n - (intOf vi).toNat)
    case atStart => exact ⟨0, Nat.zero_le _, rfl, rfl⟩
    case round =>
      obtain ⟨i, hi, rfl, hwr⟩ := hrel
      rw [hwr]
      clear hc
      by_cases hlt : i < n
      · have hb := hby.out i hlt
        have hd := hdg.out i
        generalize ds.getD i 0 = d at *
        go_wp2
        go_roundw
        case rel => exact ⟨i + 1, by omega, by go_num, by trivial⟩
        case measure => simp only [intOf]; omega
      · have hge : n ≤ i := by omega
        go_wp2
        go_ret
        exact ⟨rfl, rfl⟩
  · go_wp2
    clear hb0 hemp hemp2
    go_loopw [18] (fun vi wr => ∃ (i : Nat), i ≤ n ∧ vi = .int .i64 (i : Int) ∧ wr = w)
      (fun vi _ => n - (intOf vi).toNat)
    case atStart => exact ⟨0, Nat.zero_le _, rfl, rfl⟩
    case round =>
      obtain ⟨i, hi, rfl, hwr⟩ := hrel
      rw [hwr]
      clear hc
      by_cases hlt : i < n
      · have hb := hby.out i hlt
        have hd := hdg.out i
        generalize ds.getD i 0 = d at *
        go_wp2
        go_roundw
        case rel => exact ⟨i + 1, by omega, by go_num, by trivial⟩
        case measure => simp only [intOf]; omega
      · have hge : n ≤ i := by omega
        go_wp2
        go_ret
        exact ⟨rfl, rfl⟩

set_option maxHeartbeats 1000000 in
theorem big_isNumber_bad (w : World) (s : ByteArray) (h9 : s.size ≤ 2000) (hno : ∀ ds, ¬ Gs s ds) :
    Calls Tryz.prog 112 #[.string s] w fun e w' => e = .returned (.bool false) ∧ w' = w := by
  rcases Nat.eq_zero_or_pos s.size with hz | hz
  · have := is_empty hz
    subst this
    go_enter Tryz.func112, Tryz.ntmps112
    go_wp2
    go_ret
    exact ⟨rfl, rfl⟩
  obtain ⟨X, hX⟩ : ∃ X, Bt s X := ⟨_, Bt.all s⟩
  have hsz := hX.1
  have hby : Hid (∀ i, i < X.length → ∀ hs : i < s.size, (s[i]'hs).toNat = X.getD i 0) := fun i _ hs => hX.2 i hs
  have h256 : Hid (∀ i, X.getD i 0 < 256) := hX.lt
  have hend : Hid ((∀ i, i < X.length → 48 ≤ X.getD i 0 ∧ X.getD i 0 ≤ 57) → 2 ≤ X.length ∧ X.getD 0 0 = 48) := fun hd => by
    have hXe : by' (X.map fun x => x - 48) = X := by
      unfold by'
      rw [List.map_map]
      conv => rhs; rw [← List.map_id X]
      refine List.map_congr_left fun x hx => ?_
      obtain ⟨i, hi, rfl⟩ := List.mem_iff_getElem.mp hx
      have := hd i hi
      rw [show X.getD i 0 = X[i] by simp [List.getD, hi]] at this
      simp only [Function.comp, id]
      omega
    have hDg : Dg (X.map fun x => x - 48) := fun d hd2 => by
      obtain ⟨x, hx, rfl⟩ := List.mem_map.mp hd2
      obtain ⟨i, hi, rfl⟩ := List.mem_iff_getElem.mp hx
      have := hd i hi
      rw [show X.getD i 0 = X[i] by simp [List.getD, hi]] at this
      omega
    have hn := hno (X.map fun x => x - 48)
    have q : 0 < X.length := by omega
    by_cases h2 : 2 ≤ X.length
    · refine ⟨h2, ?_⟩
      by_cases h0 : X.getD 0 0 = 48
      · exact h0
      · exfalso
        refine hn ⟨⟨hDg, fun e => ?_, fun _ => ?_⟩, by rw [hXe]; exact hX⟩
        · have := congrArg List.length e; simp at this; rw [this] at q; simp at q
        · cases X with
          | nil => simp at q
          | cons x X =>
            have h48 := hd 0 (by simp)
            simp only [List.getD_cons_zero] at h0 h48
            simp only [List.map_cons, List.headD_cons]
            omega
    · exfalso
      refine hn ⟨⟨hDg, fun e => ?_, fun e => ?_⟩, by rw [hXe]; exact hX⟩
      · have := congrArg List.length e; simp at this; rw [this] at q; simp at q
      · simp at e; omega
  have hemp := ne_empty hz
  have hemp2 := ne_empty2 hz
  clear hno hX
  generalize hn : X.length = n at *
  clear hn
  have hb0 := hby.out 0 (by omega)
  have h250 := h256.out 0
  have hend2 : Hid (¬ (2 ≤ n ∧ X.getD 0 0 = 48) → ¬ ∀ i, i < n → 48 ≤ X.getD i 0 ∧ X.getD i 0 ≤ 57) := fun a b => a (hend.out b)
  generalize X.getD 0 0 = x0 at *
  by_cases hfirst : 2 ≤ n ∧ x0 = 48
  · obtain ⟨h2, rfl⟩ := hfirst
    have h21 : (1 : Int) < (n : Int) := by omega
    clear hend hend2
    go_enter Tryz.func112, Tryz.ntmps112
    go_wp2
    go_ret
    exact ⟨rfl, rfl⟩
  · have hall : Hid (¬ ∀ i, i < n → 48 ≤ X.getD i 0 ∧ X.getD i 0 ≤ 57) := hend2.out hfirst
    have hcase : (((x0 : Int) == 48) = false) ∨ (((x0 : Int) == 48) = true ∧ decide ((1 : Int) < (n : Int)) = false) := by
      rcases Nat.lt_trichotomy x0 48 with q | q | q
      · left; rw [beq_eq_false_iff_ne]; omega
      · right
        refine ⟨by rw [beq_iff_eq]; omega, decide_eq_false ?_⟩
        intro h1
        exact hfirst ⟨by omega, q⟩
      · left; rw [beq_eq_false_iff_ne]; omega
    clear hend hend2 hfirst
    go_enter Tryz.func112, Tryz.ntmps112
    rcases hcase with hc | ⟨hc, hc2⟩
    · go_wp2
      clear hb0 hemp hemp2 h250
      go_loopw [18] (fun vi wr => ∃ (i : Nat), i ≤ n ∧ vi = .int .i64 (i : Int) ∧ Hid (∀ j, j < i → 48 ≤ X.getD j 0 ∧ X.getD j 0 ≤ 57) ∧ wr = w)
        (fun vi _ => n - (intOf vi).toNat)
      case atStart => exact ⟨0, Nat.zero_le _, rfl, fun j hj => absurd hj (by omega), rfl⟩
      case round =>
        obtain ⟨i, hi, rfl, hgo, hwr⟩ := hrel
        rw [hwr]
        clear hc
        by_cases hlt : i < n
        · have hb := hby.out i hlt
          have h25 := h256.out i
          by_cases hg : 48 ≤ X.getD i 0 ∧ X.getD i 0 ≤ 57
          · have hall2 : Hid (∀ j, j < i + 1 → 48 ≤ X.getD j 0 ∧ X.getD j 0 ≤ 57) := fun j hj => by
              rcases Nat.lt_or_ge j i with q | q
              · exact hgo.out j q
              · obtain rfl : j = i := by omega
                exact hg
            obtain ⟨g1, g2⟩ := hg
            generalize X.getD i 0 = x at *
            go_wp2
            go_roundw
            case rel => exact ⟨i + 1, by omega, by go_num, hall2, by trivial⟩
            case measure => simp only [intOf]; omega
          · generalize X.getD i 0 = x at *
            rcases Nat.lt_or_ge x 48 with q | q
            · go_wp2
              go_ret
              exact ⟨rfl, rfl⟩
            · have q2 : 57 < x := by omega
              clear hg
              go_wp2
              go_ret
              exact ⟨rfl, rfl⟩
        · exact absurd (fun j hj => hgo.out j (by omega)) hall.out
    · go_wp2
      clear hb0 hemp hemp2 h250
      go_loopw [18] (fun vi wr => ∃ (i : Nat), i ≤ n ∧ vi = .int .i64 (i : Int) ∧ Hid (∀ j, j < i → 48 ≤ X.getD j 0 ∧ X.getD j 0 ≤ 57) ∧ wr = w)
        (fun vi _ => n - (intOf vi).toNat)
      case atStart => exact ⟨0, Nat.zero_le _, rfl, fun j hj => absurd hj (by omega), rfl⟩
      case round =>
        obtain ⟨i, hi, rfl, hgo, hwr⟩ := hrel
        rw [hwr]
        clear hc
        by_cases hlt : i < n
        · have hb := hby.out i hlt
          have h25 := h256.out i
          by_cases hg : 48 ≤ X.getD i 0 ∧ X.getD i 0 ≤ 57
          · have hall2 : Hid (∀ j, j < i + 1 → 48 ≤ X.getD j 0 ∧ X.getD j 0 ≤ 57) := fun j hj => by
              rcases Nat.lt_or_ge j i with q | q
              · exact hgo.out j q
              · obtain rfl : j = i := by omega
                exact hg
            obtain ⟨g1, g2⟩ := hg
            generalize X.getD i 0 = x at *
            go_wp2
            go_roundw
            case rel => exact ⟨i + 1, by omega, by go_num, hall2, by trivial⟩
            case measure => simp only [intOf]; omega
          · generalize X.getD i 0 = x at *
            rcases Nat.lt_or_ge x 48 with q | q
            · go_wp2
              go_ret
              exact ⟨rfl, rfl⟩
            · have q2 : 57 < x := by omega
              clear hg
              go_wp2
              go_ret
              exact ⟨rfl, rfl⟩
        · exact absurd (fun j hj => hgo.out j (by omega)) hall.out

set_option maxHeartbeats 1000000 in
theorem big_Check0 (w : World) (s : ByteArray) :
    Calls Tryz.prog 93 #[.string s] w fun e w' => e = .returned (.int .i64 (gchk s)) ∧ w' = w := by
  by_cases h1 : 2000 < s.size
  · have e : gchk s = 2 := by unfold gchk; rw [if_pos h1]
    rw [e]
    go_enter Tryz.func93, Tryz.ntmps93
    go_wp2
    go_ret
    exact ⟨rfl, rfl⟩
  · by_cases h2 : ∃ ds, Gs s ds
    · have e : gchk s = 0 := by unfold gchk; rw [if_neg h1, if_pos h2]
      obtain ⟨ds, hd⟩ := h2
      have c := fun W => big_isNumber_ok W s ds hd (by rw [← hd.size]; omega)
      rw [e]
      clear e hd
      go_enter Tryz.func93, Tryz.ntmps93
      go_wp2_with (go_at_call 112; refine Calls.mono (c _) ?_; rintro e w' ⟨rfl, hw⟩; rw [hw]; clear hw)
      go_ret
      exact ⟨rfl, rfl⟩
    · have e : gchk s = 3 := by unfold gchk; rw [if_neg h1, if_neg h2]
      have c := fun W => big_isNumber_bad W s (by omega) (fun ds h => h2 ⟨ds, h⟩)
      rw [e]
      clear e h2
      go_enter Tryz.func93, Tryz.ntmps93
      go_wp2_with (go_at_call 112; refine Calls.mono (c _) ?_; rintro e w' ⟨rfl, hw⟩; rw [hw]; clear hw)
      go_ret
      exact ⟨rfl, rfl⟩

set_option maxHeartbeats 1000000 in
theorem big_checkBoth (w : World) (s t : ByteArray) :
    Calls Tryz.prog 70 #[.string s, .string t] w fun e w' => e = .returned (.int .i64 (gchk2 s t)) ∧ w' = w := by
  have c := big_Check0
  by_cases h : gchk s = 0
  · have e : gchk2 s t = gchk t := by unfold gchk2; rw [if_pos h]
    rw [e]
    clear e
    go_enter Tryz.func70, Tryz.ntmps70
    go_wp2_with (go_at_call 93; refine Calls.mono (c _ _) ?_; rintro e w' ⟨rfl, hw⟩; rw [hw]; clear hw; (try rw [h]))
    go_ret
    exact ⟨rfl, rfl⟩
  · have e : gchk2 s t = gchk s := by unfold gchk2; rw [if_neg h]
    rw [e]
    have cs := c w s
    clear e c
    generalize gchk s = k at *
    have hb : (k == 0) = false := by rw [beq_eq_false_iff_ne]; exact h
    go_enter Tryz.func70, Tryz.ntmps70
    go_wp2_with (go_at_call 93; refine Calls.mono cs ?_; rintro e w' ⟨rfl, hw⟩; rw [hw]; clear hw)
    go_ret
    exact ⟨rfl, rfl⟩

end Go.Proofs.YtmggccepmicjhagGreatDoor
