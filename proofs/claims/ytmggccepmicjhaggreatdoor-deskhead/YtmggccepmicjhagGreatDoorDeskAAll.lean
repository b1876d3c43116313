/-
  Texts that stood one behind the other, as one.
-/
import Derived.Test.YtmggccepmicjhagGreatDoorDeskD
import Derived.Test.YtmggccepmicjhagGreatDoorStrbAll
import Derived.Deep.Cut
import Derived.Test.YtmggccepmicjhagGreatDoorDkLAll
import Derived.Test.YtmggccepmicjhagGreatDoorSlAll
/-! What answer and Run of package desk tell. -/
namespace Go.Proofs.YtmggccepmicjhagGreatDoor
open Go.RowKit
set_option maxRecDepth 100000

theorem says_len {t R : List UInt8} {k : Int} (h : Says t k R) : k = 0 ∧ t = R ∨ (k != 0) = true ∧ wrg k = R ∧ 0 ≤ k ∧ k ≤ 100 := by
  obtain ⟨h0, h1, h2, h3⟩ := h
  by_cases q : k = 0
  · exact .inl ⟨q, h2 q⟩
  · exact .inr ⟨by rw [bne_iff_ne]; exact q, h3 q, h0, h1⟩
set_option maxRecDepth 100000 in
set_option maxHeartbeats 2000000 in
theorem desk_answer (w : World) (g cap : Nat) (vb : List UInt8) (W : List (List UInt8)) (hI : IsB w (.slice (some ⟨g, 0, none⟩) (W.length + 1) cap) (vb :: W)) (hs : ∀ l ∈ W, l.length ≤ 1000000000) (h9 : W.length ≤ 65536) (ht : Tab w) :
    Calls Tryz.prog 15 #[.slice (some ⟨g, 0, none⟩) (W.length + 1) cap] w fun e w' => e = .returned (.string (bs (linV vb W))) ∧ Below w.heap.size w w' := by
  obtain ⟨b, off, e, hdr⟩ := IsB.drop (L := vb :: W) (a := some ⟨g, 0, none⟩) (cap := cap) hI (by simp)
  simp only [Option.some.injEq, Addr.mk.injEq, and_true] at e
  obtain ⟨rfl, rfl⟩ := e
  have hdr1 : IsB w (.slice (some ⟨g, 1, none⟩) W.length (cap - 1)) W := hdr 1 (by simp)
  obtain ⟨a', cap', e, q1, q2, hc⟩ := hI
  simp only [List.length_cons, Value.slice.injEq, true_and] at e
  obtain ⟨rfl, rfl⟩ := e
  obtain ⟨b', off', e, q0⟩ := hc 0 (by simp)
  simp only [Option.some.injEq, Addr.mk.injEq, and_true] at e
  obtain ⟨rfl, rfl⟩ := e
  replace q0 : w.cell? ⟨g, 0, none⟩ = some (.string (bs vb)) := q0
  rw [List.length_cons] at q1
  have hcm : cap ≤ 9223372036854775807 := by unfold maxLen at q2; exact q2
  have hdm : IsB w.drew (.slice (if cap = 1 then some ⟨g, 0, none⟩ else some ⟨g, 1, none⟩) W.length (cap - 1)) W := by
    by_cases q : cap = 1
    · rw [if_pos q]
      have hW0 : W = [] := List.eq_nil_of_length_eq_zero (by omega)
      rw [hW0]
      exact ⟨_, _, rfl, by simp, by unfold maxLen; omega, fun i hi => absurd hi (by simp)⟩
    · rw [if_neg q]
      exact hdr1.below (drew_below (Below.refl _ _))
  have cD := desk_do w.drew _ vb W hdm hs (by omega) (ht.below (drew_below (Below.refl _ _)))
  have cE : Hid (∀ (X : World) (k : Int), 0 ≤ k → k ≤ 100 → Below w.heap.size w X → Calls Tryz.prog 10 #[.int .i64 k] X fun e w' => e = .returned (.string (bs (wrg k))) ∧ Below X.heap.size X w') := fun X k h0 h1 hb => desk_printError k h0 h1 X (ht.below hb)
  clear hdr hdr1 hdm hc hs q2
  generalize linV vb W = R at *
  generalize bs vb = V at *
  by_cases hq : cap = 1
  · subst hq
    have hW0 : W = [] := List.eq_nil_of_length_eq_zero (by omega)
    subst hW0
    rw [if_pos rfl, List.length_nil, Nat.sub_self] at cD
    rw [List.length_nil, Nat.zero_add]
    go_enter Tryz.func15, Tryz.ntmps15
    go_wp2
    go_region_with (go_at_call 28; refine Calls.mono cD ?_; rintro e w3 ⟨t, k, rfl, hS, hB3⟩)
    all_goals
      have hB4 : Below w.heap.size w w3 := (drew_below (Below.refl _ _)).trans hB3
      rcases says_len hS with ⟨hk, ht2⟩ | ⟨hk, ht2, k0, k1⟩
      · subst hk
        subst ht2
        clear hS
        go_wp2
        go_ret
        exact ⟨rfl, hB4⟩
      · have c := cE.out w3 k k0 k1 hB4
        rw [ht2] at c
        clear hS ht2 k0 k1
        go_wp2_with (go_at_call 10; refine Calls.mono c ?_; rintro e w5 ⟨rfl, hb5⟩; clear c; replace hB4 := hB4.trans (hb5.mono hB4.size))
        go_ret
        exact ⟨rfl, hB4⟩
  · rw [if_neg hq] at cD
    have hm1 : W.length + 1 - 1 = W.length := by omega
    have hlt0 : 0 < W.length + 1 := by omega
    have hle1 : 1 ≤ W.length + 1 := by omega
    generalize hm : W.length + 1 = m at *
    replace hm : Hid _ := hm
    go_enter Tryz.func15, Tryz.ntmps15
    go_wp2
    go_region_with (go_at_call 28; refine Calls.mono cD ?_; rintro e w3 ⟨t, k, rfl, hS, hB3⟩)
    all_goals
      have hB4 : Below w.heap.size w w3 := (drew_below (Below.refl _ _)).trans hB3
      rcases says_len hS with ⟨hk, ht2⟩ | ⟨hk, ht2, k0, k1⟩
      · subst hk
        subst ht2
        clear hS
        go_wp2
        go_ret
        exact ⟨rfl, hB4⟩
      · have c := cE.out w3 k k0 k1 hB4
        rw [ht2] at c
        clear hS ht2 k0 k1
        go_wp2_with (go_at_call 10; refine Calls.mono c ?_; rintro e w5 ⟨rfl, hb5⟩; clear c; replace hB4 := hB4.trans (hb5.mono hB4.size))
        go_ret
        exact ⟨rfl, hB4⟩

end Go.Proofs.YtmggccepmicjhagGreatDoor

/-! The contract of package desk: what Run tells. -/
namespace Go.Proofs.YtmggccepmicjhagGreatDoor
open Go.RowKit
set_option maxRecDepth 100000

theorem wrg_two : wrg 2 ++ [10] = [101, 114, 114, 111, 114, 32, 50, 10] := by
  unfold wrg
  have e : Lib.itoa 2 = [50] := by
    unfold Lib.itoa
    rw [if_neg (by decide), show Int.toNat 2 = 2 from rfl, Lib.decDigits_one (by decide)]
    rfl
  rw [e]
  rfl
theorem ansL_silent {l : List UInt8} (h : silB (wds l) = true) : ansL l = [] := by
  unfold ansL
  cases hw : wds l with
  | nil => rfl
  | cons v W =>
    rw [hw] at h
    dsimp only
    rw [if_pos (of_decide_eq_true h)]
theorem ansL_told {l : List UInt8} (h : silB (wds l) = false) : ∃ v W, wds l = v :: W ∧ ansL l = linV v W ++ [10] := by
  unfold ansL
  cases hw : wds l with
  | nil => rw [hw] at h; cases h
  | cons v W =>
    rw [hw] at h
    refine ⟨v, W, rfl, ?_⟩
    dsimp only
    rw [if_neg (of_decide_eq_false h)]
theorem outK_next (L : List (List UInt8)) (i : Nat) : outK L (i + 1) = outK L i ++ ansL (L.getD i []) := rfl
set_option maxRecDepth 100000 in
set_option maxHeartbeats 8000000 in
theorem desk_Run (w : World) (s : List UInt8) (ht : Tab w) :
    Calls Tryz.prog 5 #[.string (bs s)] w fun e w' => e = .returned (.string (bs (dskV s))) ∧ Below w.heap.size w w' := by
  have hsz : (bs s).size = s.length := bs_size s
  have hV : Hid (dskV s = if 65536 < s.length ∨ 200 < (tlns s).length then [101, 114, 114, 111, 114, 32, 50, 10] else outK (tlns s) (tlns s).length) := by
    show _ = _
    unfold dskV
    congr
  have cE : Hid (∀ W, Below w.heap.size w W → Calls Tryz.prog 10 #[.int .i64 2] W fun e w' => e = .returned (.string (bs (wrg 2))) ∧ Below W.heap.size W w') := fun W hb => desk_printError 2 (by decide) (by decide) W (ht.below hb)
  have he1 : bs (wrg 2) ++ ({ data := #[10] } : ByteArray) = bs [101, 114, 114, 111, 114, 32, 50, 10] := by
    rw [← wrg_two]
    exact bs_append _ [10]
  have he2 : (bs (wrg 2)).size ≤ 1000 := by
    rw [bs_size]
    have := wrg_len 2 (by decide) (by decide)
    omega
  generalize bs (wrg 2) = EE at *
  by_cases h1 : 65536 < s.length
  · have hR := hV.out
    rw [if_pos (.inl h1)] at hR
    rw [hR]
    have h1i : (65536 : Int) < (s.length : Int) := by omega
    have c := cE.out w (Below.refl _ _)
    clear hV hR cE h1
    generalize bs [101, 114, 114, 111, 114, 32, 50, 10] = RR at *
    generalize s.length = n at *
    generalize bs s = S at *
    go_enter Tryz.func5, Tryz.ntmps5
    go_wp2_with (go_at_call 10; refine Calls.mono c ?_; rintro e w1 ⟨rfl, hB⟩; clear c)
    go_ret
    exact ⟨rfl, hB⟩
  · have h1i : ¬ ((65536 : Int) < (s.length : Int)) := by omega
    have cL := desk_linesOf w s (by omega) ht
    have hlm : Hid (∀ i, i < (tlns s).length → ((tlns s).getD i []).length ≤ 65536) := fun i hi => by
      have := tlns_mem (s := s) (l := (tlns s).getD i []) (by
        rw [List.getD, List.getElem?_eq_getElem hi]
        exact List.getElem_mem hi)
      omega
    by_cases h2 : 200 < (tlns s).length
    · have hR := hV.out
      rw [if_pos (.inr h2)] at hR
      rw [hR]
      have h2i : (200 : Int) < ((tlns s).length : Int) := by omega
      have c := fun (W : World) (hb : Below w.heap.size w W) => cE.out W hb
      clear hV hR cE h1 h2 hlm
      generalize tlns s = L at *
      generalize bs [101, 114, 114, 111, 114, 32, 50, 10] = RR at *
      generalize s.length = n at *
      generalize bs s = S at *
      go_enter Tryz.func5, Tryz.ntmps5
      go_wp2_with (first
        | (go_at_call 11; refine Calls.mono cL ?_; rintro e w1 ⟨u, rfl, hI, hB⟩; obtain ⟨a, cap, e1⟩ := hI.len; subst e1; clear cL hI)
        | (go_at_call 10; refine Calls.mono (c _ hB) ?_; rintro e w2 ⟨rfl, hb⟩; replace hB := hB.trans (hb.mono hB.size); clear c hb))
      go_ret
      exact ⟨rfl, hB⟩
    · have hR := hV.out
      rw [if_neg (fun q => q.elim h1 h2)] at hR
      have hR' : Hid (dskV s = outK (tlns s) (tlns s).length) := hR
      have h2i : ¬ ((200 : Int) < ((tlns s).length : Int)) := by omega
      clear hV hR cE h1 he1 he2
      generalize dskV s = R at *
      generalize tlns s = L at *
      generalize s.length = n at *
      generalize bs s = S at *
      have hl9 : L.length ≤ 9223372036854775807 := by omega
      have hl200 : L.length ≤ 200 := by omega
      clear h2
      go_enter Tryz.func5, Tryz.ntmps5
      go_upto_region 6 with (first
        | (go_at_call 11; refine Calls.mono cL ?_; rintro e w1 ⟨u, rfl, hI, hB1⟩; have hI0 := hI; obtain ⟨a, cap, e1, -, -, hc0⟩ := hI0; subst e1; clear cL hI))
      have hc : Hid (∀ i, i < L.length → ∃ b off, a = some ⟨b, off, none⟩ ∧ w1.cell? ⟨b, off + i, none⟩ = some (.string (bs (L.getD i [])))) := hc0
      have hBn := bld_new w1
      have hW2 : Below w1.heap.size w1 (w1.alloc (.cells #[.pointer none, .slice none 0 0] 33)) := below_alloc1 _ _
      clear hc0
      go_wp2
      generalize hg : w1.heap.size = g at *
      replace hg : Hid _ := hg
      generalize w1.alloc (.cells #[.pointer none, .slice none 0 0] 33) = w2 at *
      go_loopw [22] (fun vi wr => ∃ i : Nat, i ≤ L.length ∧ vi = .int .i64 (i : Int) ∧ Bld g g (outK L i) wr ∧ Below g w1 wr)
        (fun vi _ => L.length - (intOf vi).toNat)
      case atStart => exact ⟨0, Nat.zero_le _, rfl, hBn, hW2⟩
      case round =>
        clear hBn hW2
        obtain ⟨i, hi, rfl, hBd, hB2⟩ := hrel
        have hgl : g ≤ wr.heap.size := Nat.le_of_lt hBd.lt
        have hB2' : Below w1.heap.size w1 wr := by rw [hg.out]; exact hB2
        have hTr : Tab wr := (ht.below hB1).below hB2'
        by_cases hlt : i < L.length
        · obtain ⟨b, off, rfl, hcell0⟩ := hc.out i hlt
          have hcell := (hB2'.cell (block_lt hcell0)).trans hcell0
          have hll := hlm.out i hlt
          have cW := desk_wordsOf wr (L.getD i []) (by omega)
          have hsu := outK_next L i
          have hol := outK_len L i
          have hwm : Hid (∀ l ∈ wds (L.getD i []), l ≠ [] ∧ l.length ≤ 65536) := fun l hl => by
            have := wds_mem hl
            exact ⟨this.1, by omega⟩
          have hwl : (wds (L.getD i [])).length ≤ 65537 := by have := wds_le (L.getD i []); omega
          have cS : Hid (∀ (W : World) (u : Value), IsB W u (wds (L.getD i [])) → Calls Tryz.prog 13 #[u] W fun e w' => e = .returned (.bool (silB (wds (L.getD i [])))) ∧ w' = W) := fun W u hI => desk_isSilent W u _ hI (fun l hl => (hwm.out l hl).1)
          clear hcell0
          cases hq : silB (wds (L.getD i [])) with
          | true =>
            have ha := ansL_silent hq
            rw [hq] at cS
            rw [ha, List.append_nil] at hsu
            have hsu' : Hid (outK L (i + 1) = outK L i) := hsu
            clear hsu ha hq hwm hwl hol hll
            generalize wds (L.getD i []) = Q at *
            generalize bs (L.getD i []) = X at *
            go_wp2_with (first
              | (go_at_call 12; refine Calls.mono cW ?_; rintro e w3 ⟨u, rfl, hO, hb⟩; obtain ⟨a2, cap2, e2⟩ := hO.isB.len; subst e2; have hBd3 := hBd.below hb; have hB3 : Below g w1 w3 := hB2.trans (hb.mono hgl); have cS' := cS.out _ _ hO.isB; clear cW hO hb cS)
              | (go_at_call 13; refine Calls.mono cS' ?_; rintro e w' ⟨rfl, hw⟩; rw [hw]; clear hw cS'))
            go_roundw
            case rel => exact ⟨i + 1, by omega, by go_num, by rw [hsu'.out]; exact hBd3, hB3⟩
            case measure => simp only [intOf]; omega
          | false =>
            obtain ⟨v, W, hvW, ha⟩ := ansL_told hq
            rw [hq] at cS
            rw [ha] at hsu
            have hsu' : Hid (outK L (i + 1) = outK L i ++ linV v W ++ [10]) := by
              show _ = _
              rw [hsu, List.append_assoc]
            have hlv := linV_len v W
            have hWs : Hid (∀ l ∈ W, l.length ≤ 1000000000) := fun l hl => by
              have := (hwm.out l (by rw [hvW]; exact List.mem_cons_of_mem _ hl)).2
              omega
            rw [hvW] at cW cS hwl
            rw [List.length_cons] at hwl
            have cA : Hid (∀ (X : World) (gg cap : Nat), IsB X (.slice (some ⟨gg, 0, none⟩) (W.length + 1) cap) (v :: W) → Tab X → Calls Tryz.prog 15 #[.slice (some ⟨gg, 0, none⟩) (W.length + 1) cap] X fun e w' => e = .returned (.string (bs (linV v W))) ∧ Below X.heap.size X w') := fun X gg cap hI hT => desk_answer X gg cap v W hI hWs.out (by omega) hT
            have cWs : Hid (∀ X : World, Bld g g (outK L i) X → g ≤ X.heap.size → Calls Tryz.prog 14 #[.pointer (some ⟨g, 0, none⟩), .string (bs (linV v W))] X fun e w' => ∃ r, e = .returned (.tuple #[r, .nilIface]) ∧ Bld g g (outK L i ++ linV v W) w' ∧ Below g X w') := fun X hBX hgX => by
              refine (bld_str g g (outK L i) (linV v W) X hBX (by omega) hgX).mono ?_
              rintro e w' ⟨rfl, h1, h2⟩
              exact ⟨_, rfl, h1, h2⟩
            have cWb : Hid (∀ X : World, Bld g g (outK L i ++ linV v W) X → g ≤ X.heap.size → Calls Tryz.prog 16 #[.pointer (some ⟨g, 0, none⟩), .int .u8 10] X fun e w' => e = .returned .nilIface ∧ Bld g g (outK L i ++ linV v W ++ [10]) w' ∧ Below g X w') := fun X hBX hgX => by
              refine (bld_byte g g (outK L i ++ linV v W) 10 X hBX (by rw [List.length_append]; omega) hgX).mono ?_
              rintro e w' ⟨rfl, h1, h2, _⟩
              exact ⟨rfl, h1, h2⟩
            have hlen1 : (v :: W).length = W.length + 1 := rfl
            clear hsu ha hq hwm hwl hol hll hvW hlv hWs
            generalize hy2 : outK L i ++ linV v W ++ [10] = o2 at *
            generalize hy1 : outK L i ++ linV v W = o1 at *
            generalize bs (linV v W) = A at *
            generalize bs (L.getD i []) = X at *
            go_wp2_with (first
              | (go_at_call 12; refine Calls.mono cW ?_; rintro e w3 ⟨u, rfl, hO, hb⟩; have hI3 := hO.isB; obtain ⟨gg, cap2, e2, -, -, -, -⟩ := hO.form (by rw [hlen1]; omega); rw [hlen1] at e2; subst e2; have hBd3 := hBd.below hb; have hB3 : Below g w1 w3 := hB2.trans (hb.mono hgl); have hT3 := hTr.below hb; have hg3 : g ≤ w3.heap.size := Nat.le_of_lt hBd3.lt; have cS' := cS.out _ _ hI3; have cA' := cA.out _ _ _ hI3 hT3; clear cW hO hb cS cA)
              | (go_at_call 13; refine Calls.mono cS' ?_; rintro e w' ⟨rfl, hw⟩; rw [hw]; clear hw cS')
              | (go_at_call 15; refine Calls.mono cA' ?_; rintro e w4 ⟨rfl, hb4⟩; have hBd4 := hBd3.below hb4; have hB4 : Below g w1 w4 := hB3.trans (hb4.mono hg3); have hg4 : g ≤ w4.heap.size := Nat.le_of_lt hBd4.lt; have cWs' := cWs.out _ hBd4 hg4; clear cA' cWs hb4)
              | (go_at_call 14; refine Calls.mono cWs' ?_; rintro e w5 ⟨r, rfl, hBd5, hb5⟩; have hB5 : Below g w1 w5 := hB4.trans hb5; have hg5 : g ≤ w5.heap.size := Nat.le_of_lt hBd5.lt; have cWb' := cWb.out _ hBd5 hg5; clear cWs' cWb hb5)
              | (go_at_call 16; refine Calls.mono cWb' ?_; rintro e w6 ⟨rfl, hBd6, hb6⟩; have hB6 : Below g w1 w6 := hB5.trans hb6; clear cWb' hb6))
            go_roundw
            case rel => exact ⟨i + 1, by omega, by go_num, by rw [hsu'.out]; exact hBd6, hB6⟩
            case measure => simp only [intOf]; omega
        · have e : i = L.length := by omega
          subst e
          have hnl : ¬ L.length < L.length := Nat.lt_irrefl _
          have cT := bld_text g g (outK L L.length) wr hBd hgl
          have hT2 : Hid (Ending.returned (.string ⟨(outK L L.length).toArray⟩) = Ending.returned (.string (bs R))) := by
            show _ = _
            rw [hR'.out]
            rfl
          clear hc hlm hBd
          generalize (⟨(outK L L.length).toArray⟩ : ByteArray) = OO at *
          go_wp2_with (go_at_call 17; refine Calls.mono cT ?_; rintro e w7 ⟨rfl, hb7⟩; have hB7 : Below g w1 w7 := hB2.trans hb7; clear cT hb7)
          go_ret
          exact ⟨hT2.out, hB1.trans (hB7.mono (by have := hB1.size; have := hg.out; omega))⟩

end Go.Proofs.YtmggccepmicjhagGreatDoor
