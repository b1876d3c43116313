/-
  What Desk of package goldref answers.
-/
import Derived.Test.YtmggccepmicjhacGreatDoorRefLineP
import Derived.Test.YtmggccepmicjhacGreatDoorRefLineB
import Derived.Test.YtmggccepmicjhacGreatDoorDkNAll
import Derived.Deep.RegionWith
import Derived.Deep.Cut
namespace Go.Proofs.YtmggccepmicjhacGreatDoor
open Go.RowKit
set_option maxRecDepth 100000

theorem pcP_no (b : UInt8) (s : List UInt8) : (∀ l ∈ (pcP b s).1, b ∉ l) ∧ b ∉ (pcP b s).2 := by
  suffices h : ∀ (p : List (List UInt8) × List UInt8), (∀ l ∈ p.1, b ∉ l) ∧ b ∉ p.2 → (∀ l ∈ (s.foldl (pcS b) p).1, b ∉ l) ∧ b ∉ (s.foldl (pcS b) p).2 from h ([], []) ⟨fun l hl => (by cases hl), (by simp)⟩
  induction s with
  | nil => intro p h; exact h
  | cons c s ih =>
    intro p h
    rw [List.foldl_cons]
    refine ih _ ?_
    unfold pcS
    split
    · refine ⟨fun l hl => ?_, by simp⟩
      rcases List.mem_append.mp hl with q | q
      · exact h.1 l q
      · simp only [List.mem_singleton] at q
        subst q
        exact h.2
    · next hc =>
      refine ⟨h.1, fun q => ?_⟩
      rcases List.mem_append.mp q with q | q
      · exact h.2 q
      · simp only [List.mem_singleton] at q
        exact hc q.symm
theorem wds_no {s l : List UInt8} (h : l ∈ wds s) : (32 : UInt8) ∉ l := by
  unfold wds at h
  rw [List.mem_filter] at h
  have hp := pcP_no 32 s
  unfold pcs at h
  rcases List.mem_append.mp h.1 with q | q
  · exact hp.1 l q
  · simp only [List.mem_singleton] at q
    subst q
    exact hp.2
theorem ref_lineAll (w : World) (v : Value) (verb : List UInt8) (W : List (List UInt8)) (h : IsB w v W) (hs : ∀ l ∈ W, l.length ≤ 1000000000) (h9 : W.length ≤ 1000000) (hbl : (32 : UInt8) ∉ verb) (ht : Tab w) :
    Calls Tryz.prog 16 #[.string (bs verb), v] w fun e w' => e = .returned (.string (bs (linV verb W))) ∧ Below w.heap.size w w' := by
  by_cases k0 : verb = [99, 121, 99, 108, 105, 99]
  · subst k0
    exact ref_line_cyclic w v W h hs h9 ht
  by_cases k1 : verb = [108, 105, 110, 101, 97, 114]
  · subst k1
    exact ref_line_linear w v W h hs h9 ht
  by_cases k2 : verb = [115, 117, 109]
  · subst k2
    exact ref_line_sum w v W h ht
  by_cases k3 : verb = [116, 105, 109, 101, 115]
  · subst k3
    exact ref_line_times w v W h ht
  exact ref_line_num w v verb W h hs h9 ⟨k0, k1, k2, k3⟩ hbl ht
theorem outK_succ (L : List (List UInt8)) (i : Nat) : outK L (i + 1) = outK L i ++ ansL (L.getD i []) := rfl
set_option maxRecDepth 100000 in
set_option maxHeartbeats 4000000 in
theorem ref_Desk (w : World) (s : List UInt8) (h9 : s.length < 1000000000) (ht : Tab w) :
    Calls Tryz.prog 5 #[.string (bs s)] w fun e w' => e = .returned (.string (bs (dskV s))) ∧ Below w.heap.size w w' := by
  have cT := ref_TextLines w s h9
  have hsz : (bs s).size = s.length := bs_size s
  have hV : Hid (dskV s = if 65536 < s.length ∨ 200 < (tlns s).length then [101, 114, 114, 111, 114, 32, 50, 10] else outK (tlns s) (tlns s).length) := by
    show _ = _
    unfold dskV
    congr
  have hlm : Hid (∀ i, i < (tlns s).length → ((tlns s).getD i []).length ≤ s.length) := fun i hi => tlns_mem (by
    rw [List.getD, List.getElem?_eq_getElem hi]
    exact List.getElem_mem hi)
  generalize dskV s = R at *
  generalize tlns s = L at *
  generalize s.length = n at *
  generalize bs s = S at *
  by_cases h1 : 65536 < n
  · have hR := hV.out
    rw [if_pos (.inl h1)] at hR
    subst hR
    have h1i : (65536 : Int) < (n : Int) := by omega
    clear hV hlm h1
    go_enter Tryz.func5, Tryz.ntmps5
    go_wp2_with (go_at_call 14; refine Calls.mono cT ?_; rintro e w1 ⟨u, rfl, hI, hB⟩; clear cT)
    go_ret
    exact ⟨rfl, hB⟩
  · have h1i : ¬ ((65536 : Int) < (n : Int)) := by omega
    by_cases h2 : 200 < L.length
    · have hR := hV.out
      rw [if_pos (.inr h2)] at hR
      subst hR
      have h2i : (200 : Int) < (L.length : Int) := by omega
      clear hV hlm h2 h1
      go_enter Tryz.func5, Tryz.ntmps5
      go_wp2_with (go_at_call 14; refine Calls.mono cT ?_; rintro e w1 ⟨u, rfl, hI, hB⟩; obtain ⟨a, cap, e1⟩ := hI.len; subst e1; clear cT)
      go_ret
      exact ⟨rfl, hB⟩
    · have hR := hV.out
      rw [if_neg (fun q => q.elim h1 h2)] at hR
      have hR' : Hid (R = outK L L.length) := hR
      have h2i : ¬ ((200 : Int) < (L.length : Int)) := by omega
      clear hV hR
      go_enter Tryz.func5, Tryz.ntmps5
      go_wp2_with (go_at_call 14; refine Calls.mono cT ?_; rintro e w1 ⟨u, rfl, hI, hB1⟩; have hI0 := hI; obtain ⟨a, cap, e1, -, -, hc0⟩ := hI0; subst e1; clear cT)
      have hc : Hid (∀ i, i < L.length → ∃ b off, a = some ⟨b, off, none⟩ ∧ w1.cell? ⟨b, off + i, none⟩ = some (.string (bs (L.getD i [])))) := hc0
      clear hc0 hI
      have hl9 : L.length ≤ 9223372036854775807 := by omega
      go_loopw [4, 5] (fun vs vi wr => ∃ i : Nat, i ≤ L.length ∧ vi = .int .i64 (i : Int) ∧ vs = .string (bs (outK L i)) ∧ Below w1.heap.size w1 wr)
        (fun _ vi _ => L.length - (intOf vi).toNat)
      case atStart => exact ⟨0, Nat.zero_le _, rfl, rfl, Below.refl _ _⟩
      case round =>
        obtain ⟨i, hi, rfl, rfl, hB2⟩ := hrel
        by_cases hlt : i < L.length
        · obtain ⟨b, off, rfl, hcell0⟩ := hc.out i hlt
          have hcell := (hB2.cell (block_lt hcell0)).trans hcell0
          have hll := hlm.out i hlt
          have hBw : Below w.heap.size w wr := hB1.trans (hB2.mono hB1.size)
          have cW := ref_Words wr (L.getD i []) (by omega)
          have hsu := outK_succ L i
          have hol := outK_len L i
          have hwm : Hid (∀ l ∈ wds (L.getD i []), l ≠ [] ∧ l.length ≤ 65536 ∧ (32 : UInt8) ∉ l) := fun l hl => by
            have := wds_mem hl
            exact ⟨this.1, by omega, wds_no hl⟩
          have hwl : (wds (L.getD i [])).length ≤ 65537 := by have := wds_le (L.getD i []); omega
          have hA : Hid (ansL (L.getD i []) = match wds (L.getD i []) with | [] => [] | v :: W => if v.headD 0 = 35 then [] else linV v W ++ [10]) := rfl
          cases hw : wds (L.getD i []) with
          | nil =>
            have hA0 := hA.out
            rw [hw] at hA0 cW
            rw [hA0, List.append_nil] at hsu
            clear hA hA0 hw hwm hwl hcell0 hll hol
            generalize L.getD i [] = l at *
            go_wp2_with (go_at_call 15; refine Calls.mono cW ?_; rintro e w2 ⟨u2, rfl, hO, hb⟩; have hI2 := hO.isB; obtain ⟨a2, cap2, e2⟩ := hI2.len; subst e2; replace hB2 := hB2.trans (hb.mono hB2.size); clear hb cW hcell hO hI2)
            go_roundw
            case rel => exact ⟨i + 1, by omega, by go_num, by rw [hsu], hB2⟩
            case measure => simp only [intOf]; omega
          | cons v W =>
            have hA0 := hA.out
            rw [hw] at hA0 cW
            have hA1 : ansL (L.getD i []) = if v.headD 0 = 35 then [] else linV v W ++ [10] := hA0
            rw [hA1] at hsu
            obtain ⟨hv0, hv1, hv2⟩ := hwm.out v (by rw [hw]; exact List.mem_cons_self ..)
            have hWs : Hid (∀ l ∈ W, l.length ≤ 1000000000) := fun l hl => by
              have := (hwm.out l (by rw [hw]; exact List.mem_cons_of_mem _ hl)).2.1
              omega
            have hWl : W.length ≤ 65536 := by rw [hw, List.length_cons] at hwl; omega
            obtain ⟨c, vr, hvc⟩ : ∃ c vr, v = c :: vr := by
              cases v with
              | nil => exact absurd rfl hv0
              | cons c vr => exact ⟨c, vr, rfl⟩
            have hby : ∀ hs : 0 < (bs v).size, ((bs v)[0]'hs).toNat = c.toNat := fun hs => by
              have := bs_get v 0 hs (by rw [hvc]; simp)
              rw [this]
              simp [hvc]
            have hvs : 0 < (bs v).size := by rw [bs_size, hvc]; simp
            have hhd : v.headD 0 = c := by rw [hvc]; rfl
            rw [hhd] at hsu
            have hlv := linV_len v W
            clear hA hA0 hA1 hw hwm hwl hcell0 hv0 hvc hhd
            generalize L.getD i [] = l at *
            go_upto_region 9 with (go_at_call 15; refine Calls.mono cW ?_; rintro e w2 ⟨u2, rfl, hO, hb⟩; replace hBw := hBw.trans (hb.mono hBw.size); replace hB2 := hB2.trans (hb.mono hB2.size); clear hb cW hcell)
            have hI2 := hO.isB
            obtain ⟨g, cap2, rfl, hg, hcx, hlc, hcl⟩ := hO.form (by simp)
            obtain ⟨q0, _⟩ := hcl 0 (by simp)
            replace q0 : w2.cell? ⟨g, 0, none⟩ = some (.string (bs v)) := q0
            obtain ⟨b', off', e', hdr⟩ := hI2.drop (by simp)
            simp only [Option.some.injEq, Addr.mk.injEq, and_true] at e'
            obtain ⟨rfl, rfl⟩ := e'
            have hdr1 := hdr 1 (by simp)
            rw [List.length_cons] at hdr1 hlc
            replace hdr1 : IsB w2 (.slice (some ⟨g, 1, none⟩) W.length (cap2 - 1)) W := hdr1
            clear hdr hcl hI2 hO
            have hcm : cap2 ≤ 9223372036854775807 := by unfold maxLen at hcx; exact hcx
            clear hcx
            by_cases h35 : c = 35
            · rw [if_pos h35, List.append_nil] at hsu
              have hb35 : c.toNat = 35 := by rw [h35]; rfl
              rw [hb35] at hby
              clear h35 hb35 hdr1 hWs hlv hol
              go_wp2
              go_roundw
              case rel => exact ⟨i + 1, by omega, by go_num, by rw [hsu], hB2⟩
              case measure => simp only [intOf]; omega
            · rw [if_neg h35, ← List.append_assoc] at hsu
              have hb35 : ((c.toNat : Int) != 35) = true := by
                rw [bne_iff_ne]
                exact fun q => h35 (UInt8.toNat_inj.mp (by show c.toNat = 35; omega))
              have hdm : IsB w2.drew (.slice (if cap2 = 1 then some ⟨g, 0, none⟩ else some ⟨g, 1, none⟩) W.length (cap2 - 1)) W := by
                by_cases q : cap2 = 1
                · rw [if_pos q]
                  have hW0 : W = [] := List.eq_nil_of_length_eq_zero (by omega)
                  rw [hW0]
                  exact ⟨_, _, rfl, by simp, by unfold maxLen; omega, fun i hi => absurd hi (by simp)⟩
                · rw [if_neg q]
                  exact hdr1.below (below_drewN (Below.refl _ _) 1)
              have cL := ref_lineAll w2.drew _ v W hdm hWs.out (by omega) hv2 (ht.below (below_drewN hBw 1))
              have e1 : bs (linV v W) ++ ({ data := #[10] } : ByteArray) = bs (linV v W ++ [10]) := bs_append _ [10]
              have e2 : bs (outK L i) ++ bs (linV v W ++ [10]) = bs (outK L (i + 1)) := by rw [bs_append, hsu, List.append_assoc]
              have z1 : (bs (linV v W)).size ≤ 1000000 := by rw [bs_size]; exact hlv
              have z2 : (bs (linV v W ++ [10])).size ≤ 1000001 := by rw [bs_size, List.length_append]; simp; exact hlv
              have z3 : (bs (outK L i)).size ≤ 300000000 := by rw [bs_size]; omega
              clear hdr1 hWs hlv hol hsu hdm h35
              generalize hx2 : outK L (i + 1) = o2 at *
              replace hx2 : Hid _ := hx2
              generalize linV v W ++ [10] = y1 at *
              generalize linV v W = y0 at *
              generalize outK L i = o1 at *
              generalize c.toNat = cc at *
              generalize bs v = V at *
              by_cases hq : cap2 = 1
              · subst hq
                have hW0 : W = [] := List.eq_nil_of_length_eq_zero (by omega)
                subst hW0
                rw [if_pos rfl, List.length_nil, Nat.sub_self] at cL
                go_wp2
                go_region_with (go_at_call 16; refine Calls.mono cL ?_; rintro e w3 ⟨rfl, hB3⟩)
                all_goals
                  have hB4 : Below w1.heap.size w1 w3 := hB2.trans (((below_drewN (Below.refl _ _) 1).trans hB3).mono hB2.size)
                  go_wp2
                  go_roundw
                  case rel => exact ⟨i + 1, by omega, by go_num, by rw [hx2.out], hB4⟩
                  case measure => simp only [intOf]; omega
              · rw [if_neg hq] at cL
                go_wp2
                go_region_with (go_at_call 16; refine Calls.mono cL ?_; rintro e w3 ⟨rfl, hB3⟩)
                all_goals
                  have hB4 : Below w1.heap.size w1 w3 := hB2.trans (((below_drewN (Below.refl _ _) 1).trans hB3).mono hB2.size)
                  go_wp2
                  go_roundw
                  case rel => exact ⟨i + 1, by omega, by go_num, by rw [hx2.out], hB4⟩
                  case measure => simp only [intOf]; omega
        · have e : i = L.length := by omega
          subst e
          have hnl : ¬ L.length < L.length := Nat.lt_irrefl _
          have hB : Below w.heap.size w wr := hB1.trans (hB2.mono hB1.size)
          go_wp2
          go_ret
          exact ⟨by rw [hR'.out]; rfl, hB⟩

end Go.Proofs.YtmggccepmicjhacGreatDoor
