/-
  What follows is not seen in what was answered; each answered line has a byte 10 at its end; two texts and their answers. No program in sight.
-/
import Derived.Test.YtmggccepmicjhagGreatDoorDkLAll
namespace Go.Proofs.YtmggccepmicjhagGreatDoor

theorem pcS_front (b : UInt8) (X : List (List UInt8)) (m : List UInt8) (p : List (List UInt8) × List UInt8) : m.foldl (pcS b) (X ++ p.1, p.2) = (X ++ (m.foldl (pcS b) p).1, (m.foldl (pcS b) p).2) := by
  induction m generalizing p with
  | nil => rfl
  | cons c m ih =>
    rw [List.foldl_cons, List.foldl_cons]
    have e : pcS b (X ++ p.1, p.2) c = (X ++ (pcS b p c).1, (pcS b p c).2) := by
      unfold pcS
      split <;> simp
    rw [e]
    exact ih _
theorem pcP_sep (b : UInt8) (t m : List UInt8) : pcP b (t ++ [b] ++ m) = (pcs b t ++ (pcP b m).1, (pcP b m).2) := by
  unfold pcP
  rw [List.foldl_append, List.foldl_append, List.foldl_cons, List.foldl_nil]
  have e0 : ∀ p, pcS b p b = (p.1 ++ [p.2], []) := fun p => by unfold pcS; rw [if_pos rfl]
  have e : pcS b (t.foldl (pcS b) ([], [])) b = (pcs b t ++ [], []) := by
    rw [e0, List.append_nil]
    rfl
  rw [e]
  exact pcS_front b (pcs b t) m ([], [])
theorem tlns_sep (t m : List UInt8) : tlns (t ++ [10] ++ m) = pcs 10 t ++ tlns m := by
  unfold tlns
  rw [pcP_sep]
  show (if (pcP 10 m).2 = [] then _ else _) = _
  split
  · rfl
  · unfold pcs
    rw [pcP_sep]
    unfold pcs
    simp
theorem outK_flat (L : List (List UInt8)) (i : Nat) (h : i ≤ L.length) : outK L i = ((L.take i).map ansL).flatten := by
  induction i with
  | zero => simp [outK]
  | succ i ih =>
    have e : L.getD i [] = L[i]'(by omega) := by simp [List.getD, show i < L.length by omega]
    rw [show outK L (i + 1) = outK L i ++ ansL (L.getD i []) from rfl, ih (by omega), List.take_succ_eq_append_getElem (by omega), List.map_append, List.flatten_append, e]
    show _ = _ ++ (ansL _ ++ [])
    rw [List.append_nil]
theorem out_all (L : List (List UInt8)) : outK L L.length = (L.map ansL).flatten := by rw [outK_flat L L.length (Nat.le_refl _), List.take_length]
theorem ansL_nil : ansL [] = [] := by
  unfold ansL
  rw [show wds [] = [] by decide]
theorem out_lines (t : List UInt8) : ((pcs 10 t).map ansL).flatten = ((tlns t).map ansL).flatten := by
  unfold tlns
  split
  · next h =>
    unfold pcs
    rw [h]
    simp [ansL_nil]
  · rfl
theorem tlns_le (t : List UInt8) : (tlns t).length ≤ (pcs 10 t).length := by
  unfold tlns
  split
  · rw [pcs_length]; omega
  · exact Nat.le_refl _
/-- The answers of the first lines stand ahead. -/
theorem dskV_head (t m : List UInt8) (h : ¬ (65536 < (t ++ [10] ++ m).length ∨ 200 < (tlns (t ++ [10] ++ m)).length)) : dskV (t ++ [10] ++ m) = dskV t ++ ((tlns m).map ansL).flatten := by
  have h2 : ¬ (65536 < t.length ∨ 200 < (tlns t).length) := by
    rintro (q | q)
    · exact h (.inl (by simp; omega))
    · refine h (.inr ?_)
      rw [tlns_sep, List.length_append]
      have := tlns_le t
      omega
  unfold dskV
  rw [if_neg h, if_neg h2, out_all, out_all, tlns_sep, List.map_append, List.flatten_append, out_lines]
/-- Is a line answered? -/
def ansB (l : List UInt8) : Bool := match wds l with
  | [] => false
  | v :: _ => !(v.headD 0 == 35)
def cntB (L : List (List UInt8)) : Nat := (L.filter ansB).length
def tens (l : List UInt8) : Nat := l.count 10
theorem ansL_no {l : List UInt8} (h : ansB l = false) : ansL l = [] := by
  unfold ansB at h
  unfold ansL
  split
  · rfl
  · next v W e =>
    rw [e] at h
    have h' : (v.headD 0 == 35) = true := by
      cases q : (v.headD 0 == 35) with
      | true => rfl
      | false =>
        have h2 : (!(v.headD 0 == 35)) = false := h
        rw [q] at h2
        cases h2
    rw [if_pos (eq_of_beq h')]
theorem ansL_yes {l : List UInt8} (h : ansB l = true) : ∃ x, ansL l = x ++ [10] := by
  unfold ansB at h
  unfold ansL
  split
  · next e => rw [e] at h; cases h
  · next v W e =>
    rw [e] at h
    have h' : ¬ v.headD 0 = 35 := fun q => by
      have h2 : (!(v.headD 0 == 35)) = true := h
      rw [q] at h2
      exact absurd h2 (by decide)
    rw [if_neg h']
    exact ⟨_, rfl⟩
theorem tens_flat (L : List (List UInt8)) : cntB L ≤ tens ((L.map ansL).flatten) := by
  induction L with
  | nil => simp [cntB, tens]
  | cons l L ih =>
    rw [List.map_cons, List.flatten_cons]
    unfold tens at ih ⊢
    rw [List.count_append]
    unfold cntB at ih ⊢
    cases h : ansB l with
    | false => rw [List.filter_cons_of_neg (by rw [h]; decide)]; omega
    | true =>
      rw [List.filter_cons_of_pos h, List.length_cons]
      obtain ⟨x, e⟩ := ansL_yes h
      rw [e, List.count_append]
      have : List.count (10 : UInt8) [10] = 1 := by decide
      omega
theorem last_flat (L : List (List UInt8)) : (L.map ansL).flatten = [] ∨ ∃ x, (L.map ansL).flatten = x ++ [10] := by
  induction L with
  | nil => exact .inl rfl
  | cons l L ih =>
    rw [List.map_cons, List.flatten_cons]
    rcases ih with e | ⟨x, e⟩
    · rw [e, List.append_nil]
      cases h : ansB l with
      | false => exact .inl (ansL_no h)
      | true => exact .inr (ansL_yes h)
    · rw [e]
      exact .inr ⟨ansL l ++ x, by rw [List.append_assoc]⟩
/-! ### Two texts -/
theorem dec_num (c : List Nat) {n : Nat} (h : Gt c) (hv : val c = n) : Lib.decDigits n = tx c := by rw [← hv]; exact dec_of h
theorem numB_of (s : List UInt8) (c : List Nat) (h : Gt c) (hv : val c = nv s) (hs : tx c = s) : numB s = true := by
  unfold numB
  rw [dec_num c h hv, hs]
  exact decide_eq_true rfl
theorem gt1 (d : Nat) (h : d ≤ 9) : Gt [d] := ⟨fun x hx => by simp at hx; omega, by simp, fun q => by simp at q⟩
theorem gt2 (d e : Nat) (h : d ≤ 9) (h' : e ≤ 9) (h0 : d ≠ 0) : Gt [d, e] := ⟨fun x hx => by simp at hx; omega, by simp, fun _ => h0⟩
theorem say1 (n : Nat) (c : List Nat) (h : Gt c) (hv : val c = n) : sayN [n] = tx c := by
  unfold sayN
  rw [if_neg (by simp)]
  show (if 0 < 0 then _ else _) ++ _ = _
  rw [if_neg (by omega)]
  show [] ++ Lib.decDigits n = _
  rw [List.nil_append, dec_num c h hv]
theorem line_add : ansL [97, 100, 100, 32, 51, 32, 52] = [55, 10] := by
  have e : wds [97, 100, 100, 32, 51, 32, 52] = [[97, 100, 100], [51], [52]] := by decide
  have hn : numsB [[51], [52]] = true := by
    unfold numsB
    rw [List.all_cons, List.all_cons, numB_of [51] [3] (gt1 3 (by decide)) (by decide) (by decide), numB_of [52] [4] (gt1 4 (by decide)) (by decide) (by decide)]
    rfl
  have hl : numsL [[51], [52]] = [3, 4] := by decide
  unfold ansL
  rw [e]
  show (if _ then _ else linV [97, 100, 100] [[51], [52]] ++ [10]) = _
  rw [if_neg (by decide), linV_num ⟨by decide, by decide, by decide, by decide⟩]
  unfold numV
  rw [if_pos ⟨hn, by unfold CntK; decide⟩, hl, ansV_add]
  have e2 : fA ([3, 4].getD 0 0) ([3, 4].getD 1 0) = 7 := by decide
  rw [e2, say1 7 [7] (gt1 7 (by decide)) (by decide)]
  decide
theorem line_root1 : ansL [114, 111, 111, 116, 32, 49] = tx [1, 8, 4, 4, 6, 7, 4, 4, 0, 6, 9, 4, 1, 4, 5, 8, 4, 3, 2, 0] ++ [10] := by
  have e : wds [114, 111, 111, 116, 32, 49] = [[114, 111, 111, 116], [49]] := by decide
  have hn : numsB [[49]] = true := by
    unfold numsB
    rw [List.all_cons, numB_of [49] [1] (gt1 1 (by decide)) (by decide) (by decide)]
    rfl
  have hl : numsL [[49]] = [1] := by decide
  unfold ansL
  rw [e]
  show (if _ then _ else linV [114, 111, 111, 116] [[49]] ++ [10]) = _
  rw [if_neg (by decide), linV_num ⟨by decide, by decide, by decide, by decide⟩]
  unfold numV
  rw [if_pos ⟨hn, by unfold CntK; decide⟩, hl, ansV_root, if_neg (by decide), show rt ([1].getD 0 0) = 18446744069414584320 from rt_one,
    say1 18446744069414584320 [1, 8, 4, 4, 6, 7, 4, 4, 0, 6, 9, 4, 1, 4, 5, 8, 4, 3, 2, 0] ⟨by unfold Dg; decide, by decide, fun _ => by decide⟩ (by decide)]
theorem line_ntt : ansL [110, 116, 116, 32, 49, 32, 48] = [49, 32, 49, 10] := by
  have e : wds [110, 116, 116, 32, 49, 32, 48] = [[110, 116, 116], [49], [48]] := by decide
  have hn : numsB [[49], [48]] = true := by
    unfold numsB
    rw [List.all_cons, List.all_cons, numB_of [49] [1] (gt1 1 (by decide)) (by decide) (by decide), numB_of [48] [0] (gt1 0 (by decide)) (by decide) (by decide)]
    rfl
  have hl : numsL [[49], [48]] = [1, 0] := by decide
  have h1 : ∀ j, fw [1, 0] 1 j = 1 := fun j => by
    unfold fw
    rw [dft_cf _ _ 1 j rfl]
    have e0 : toF 0 = 0 := by decide
    have e1 : toF 1 = 1 := by decide
    show evF [toF 1, toF 0] _ = 1
    rw [e0, e1]
    simp only [evF]
    grind
  have hf : mk 2 (fw [1, 0] 1) = [1, 1] := by
    show [(fw [1, 0] 1 0).val, (fw [1, 0] 1 1).val] = _
    rw [h1, h1]
    decide
  have hs : sayN [1, 1] = [49, 32, 49] := by
    unfold sayN
    rw [if_neg (by simp)]
    show ((if 0 < 1 then ((if 0 < 0 then _ else _) ++ Lib.decDigits 1) ++ [32] else _) ++ Lib.decDigits 1) = _
    rw [if_pos (by decide), if_neg (by decide), dec_num [1] (gt1 1 (by decide)) (by decide)]
    show ([] ++ tx [1]) ++ [32] ++ tx [1] = _
    decide
  unfold ansL
  rw [e]
  show (if _ then _ else linV [110, 116, 116] [[49], [48]] ++ [10]) = _
  rw [if_neg (by decide), linV_num ⟨by decide, by decide, by decide, by decide⟩]
  unfold numV
  rw [if_pos ⟨hn, by unfold CntK; decide⟩, hl, ansV_ntt, nttV_ok (k := 1) (by decide) rfl]
  show sayN (mk 2 (fw [1, 0] 1)) ++ [10] = _
  rw [hf, hs]
  rfl
theorem line_times : ansL [116, 105, 109, 101, 115, 32, 49, 50, 32, 49, 50] = [49, 52, 52, 10] := by
  have e : wds [116, 105, 109, 101, 115, 32, 49, 50, 32, 49, 50] = [[116, 105, 109, 101, 115], [49, 50], [49, 50]] := by decide
  have hg : greE [49, 50] = 0 := greE_ok (ds := [1, 2]) (Gs.txt (gt2 1 2 (by decide) (by decide) (by decide))) (by decide)
  unfold ansL
  rw [e]
  show (if _ then _ else linV [116, 105, 109, 101, 115] [[49, 50], [49, 50]] ++ [10]) = _
  rw [if_neg (by decide), linV_times]
  unfold bigV
  rw [if_pos (show ([[49, 50], [49, 50]] : List (List UInt8)).length = 2 from rfl)]
  show (if greE [49, 50] ≠ 0 then _ else if greE [49, 50] ≠ 0 then _ else greT true [49, 50] [49, 50]) ++ [10] = _
  rw [if_neg (fun q => q hg), if_neg (fun q => q hg)]
  unfold greT
  rw [if_pos rfl, show val (dgT [49, 50]) * val (dgT [49, 50]) = 144 by decide, dec_num [1, 4, 4] ⟨by unfold Dg; decide, by decide, fun _ => by decide⟩ (by decide)]
  decide
theorem line_root33 : ansL [114, 111, 111, 116, 32, 51, 51] = [101, 114, 114, 111, 114, 32, 49, 10] := by
  have e : wds [114, 111, 111, 116, 32, 51, 51] = [[114, 111, 111, 116], [51, 51]] := by decide
  have hn : numsB [[51, 51]] = true := by
    unfold numsB
    rw [List.all_cons, numB_of [51, 51] [3, 3] (gt2 3 3 (by decide) (by decide) (by decide)) (by decide) (by decide)]
    rfl
  have hl : numsL [[51, 51]] = [33] := by decide
  unfold ansL
  rw [e]
  show (if _ then _ else linV [114, 111, 111, 116] [[51, 51]] ++ [10]) = _
  rw [if_neg (by decide), linV_num ⟨by decide, by decide, by decide, by decide⟩]
  unfold numV
  rw [if_pos ⟨hn, by unfold CntK; decide⟩, hl, ansV_root, if_pos (by decide)]
  unfold wrg
  rw [show Lib.itoa 1 = Lib.decDigits 1 from Lib.itoa_nonneg 1, dec_num [1] (gt1 1 (by decide)) (by decide)]
  decide
theorem line_hash : ansL [35] = [] := ansL_no (by decide)
theorem text_head : dskV [97, 100, 100, 32, 51, 32, 52, 10, 114, 111, 111, 116, 32, 49, 10, 110, 116, 116, 32, 49, 32, 48, 10, 116, 105, 109, 101, 115, 32, 49, 50, 32, 49, 50, 10] = [55, 10] ++ (tx [1, 8, 4, 4, 6, 7, 4, 4, 0, 6, 9, 4, 1, 4, 5, 8, 4, 3, 2, 0] ++ [10]) ++ [49, 32, 49, 10] ++ [49, 52, 52, 10] := by
  have e : tlns [97, 100, 100, 32, 51, 32, 52, 10, 114, 111, 111, 116, 32, 49, 10, 110, 116, 116, 32, 49, 32, 48, 10, 116, 105, 109, 101, 115, 32, 49, 50, 32, 49, 50, 10] = [[97, 100, 100, 32, 51, 32, 52], [114, 111, 111, 116, 32, 49], [110, 116, 116, 32, 49, 32, 48], [116, 105, 109, 101, 115, 32, 49, 50, 32, 49, 50]] := by decide
  unfold dskV
  rw [e, if_neg (by decide), out_all]
  rw [List.map_cons, List.map_cons, List.map_cons, List.map_cons, List.map_nil, line_add, line_root1, line_ntt, line_times]
  simp
theorem text_count : dskV [35, 10, 10, 114, 111, 111, 116, 32, 51, 51] = [101, 114, 114, 111, 114, 32, 49, 10] := by
  have e : tlns [35, 10, 10, 114, 111, 111, 116, 32, 51, 51] = [[35], [], [114, 111, 111, 116, 32, 51, 51]] := by decide
  unfold dskV
  rw [e, if_neg (by decide), out_all, List.map_cons, List.map_cons, List.map_cons, List.map_nil, line_hash, ansL_nil, line_root33]
  rfl

end Go.Proofs.YtmggccepmicjhagGreatDoor
