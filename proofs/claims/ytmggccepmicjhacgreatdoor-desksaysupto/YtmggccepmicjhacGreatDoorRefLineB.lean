/-
  What line of package goldref answers to sum and times.
-/
import Derived.Test.YtmggccepmicjhacGreatDoorRefLineAll
import Derived.Test.YtmggccepmicjhacGreatDoorRefGreatSumAll
import Derived.Test.YtmggccepmicjhacGreatDoorRefGreatProd
import Derived.BigQuiet
namespace Go.Proofs.YtmggccepmicjhacGreatDoor
open Go.RowKit
set_option maxRecDepth 100000

theorem ref_GreatE (w : World) (s : List UInt8) : Calls Tryz.prog 32 #[.string (bs s)] w fun e w' => e = .returned (.int .i64 (greE s)) ∧ w' = w := by
  by_cases h1 : 2000 < s.length
  · rw [greE_large h1]
    exact ref_Great_large w _ (by rw [bs_size]; exact h1)
  · by_cases h2 : ∃ ds, Gs (bs s) ds
    · obtain ⟨ds, h2⟩ := h2
      have hl : ds.length = s.length := by have := h2.size; rw [bs_size] at this; exact this.symm
      rw [greE_ok h2 (by omega)]
      exact ref_Great_ok w _ ds h2 (by omega)
    · have h3 : ∀ ds, ¬ Gs (bs s) ds := fun ds q => h2 ⟨ds, q⟩
      rw [greE_bad (by omega) h3]
      exact ref_Great_bad w _ (by rw [bs_size]; omega) h3
theorem ref_GreatSumT (w : World) (s t : List UInt8) (h1 : greE s = 0) (h2 : greE t = 0) (ht : Tab w) :
    Calls Tryz.prog 33 #[.string (bs s), .string (bs t)] w fun e w' => e = .returned (.string (bs (greT false s t))) ∧ Below w.heap.size w w' := by
  obtain ⟨l1, a, ha⟩ := greE_zero h1
  obtain ⟨l2, b, hb⟩ := greE_zero h2
  have e1 := ha.size
  have e2 := hb.size
  rw [bs_size] at e1 e2
  refine (ref_GreatSum w _ _ a b ha hb (by omega) (by omega) ht).mono ?_
  rintro e w' ⟨c, rfl, hc, hv, hB⟩
  refine ⟨?_, hB⟩
  have hT : greT false s t = tx c := by
    unfold greT
    rw [Gs_dgs ha, Gs_dgs hb, if_neg (by decide), ← hv]
    exact dec_of hc
  rw [hT]
  rfl
set_option maxRecDepth 100000 in
set_option maxHeartbeats 4000000 in
theorem ref_line_sum (w : World) (v : Value) (W : List (List UInt8)) (h : IsB w v W) (ht : Tab w) :
    Calls Tryz.prog 16 #[.string { data := #[115, 117, 109] }, v] w fun e w' => e = .returned (.string (bs (linV [115, 117, 109] W))) ∧ Below w.heap.size w w' := by
  rw [linV_sum]
  have cW : ∀ (n : Int) (_ : 0 ≤ n ∧ n ≤ 100), Calls Tryz.prog 26 #[.int .i64 n] w fun e w' => e = .returned (.string (bs (wrg n))) ∧ Below w.heap.size w w' := fun n hn => ref_wrong n hn.1 hn.2 w ht
  by_cases h2 : W.length = 2
  · have hV : Hid (bigV false W = if greE (W.getD 0 []) ≠ 0 then wrg (greE (W.getD 0 [])) else if greE (W.getD 1 []) ≠ 0 then wrg (greE (W.getD 1 [])) else greT false (W.getD 0 []) (W.getD 1 [])) := by
      show _ = _
      unfold bigV
      rw [if_pos h2]
    have cG := ref_GreatE w
    have cF := fun (h0 : greE (W.getD 0 []) = 0) (h1 : greE (W.getD 1 []) = 0) => ref_GreatSumT w.drew (W.getD 0 []) (W.getD 1 []) h0 h1 (ht.below (below_drewN (Below.refl _ _) 1))
    have b0 := greE_le (W.getD 0 [])
    have b1 := greE_le (W.getD 1 [])
    have cG0 := cG (W.getD 0 [])
    have cG1 := cG (W.getD 1 [])
    obtain ⟨a, cap, rfl, hcap, hmx, hc⟩ := h
    obtain ⟨b, off, rfl, hc0⟩ := hc 0 (by omega)
    obtain ⟨b', off', e, hc1⟩ := hc 1 (by omega)
    simp only [Option.some.injEq, Addr.mk.injEq, and_true] at e
    obtain ⟨rfl, rfl⟩ := e
    rw [Nat.add_zero] at hc0
    rw [h2]
    clear hc cG hcap hmx
    generalize W.getD 0 [] = s at *
    generalize W.getD 1 [] = t at *
    by_cases z0 : greE s = 0
    · by_cases z1 : greE t = 0
      · have hR : bigV false W = greT false s t := by rw [hV.out, if_neg (fun q => q z0), if_neg (fun q => q z1)]
        rw [hR]
        replace cF := cF z0 z1
        rw [z0] at cG0
        rw [z1] at cG1
        clear hV hR z0 z1 b0 b1 h2 cW
        generalize greT false s t = R at *
        generalize bs s = S at *
        generalize bs t = T at *
        go_enter Tryz.func16, Tryz.ntmps16
        go_wp2
        go_loopw [10] (fun vi wr => (vi = .int .i64 0 ∨ vi = .int .i64 1 ∨ vi = .int .i64 2) ∧ wr = w)
          (fun vi _ => 2 - (intOf vi).toNat)
        case atStart => exact ⟨.inl rfl, rfl⟩
        case round =>
          obtain ⟨hvi, hwr⟩ := hrel
          rw [hwr]
          clear hwr
          rcases hvi with rfl | rfl | rfl
          · go_wp2_with (go_at_call 32; refine Calls.mono cG0 ?_; rintro e w' ⟨rfl, hw⟩; rw [hw]; clear hw)
            exact ⟨⟨.inr (.inl rfl), trivial⟩, by decide⟩
          · go_wp2_with (go_at_call 32; refine Calls.mono cG1 ?_; rintro e w' ⟨rfl, hw⟩; rw [hw]; clear hw)
            exact ⟨⟨.inr (.inr rfl), trivial⟩, by decide⟩
          · go_wp2
            go_region_with (go_at_call 33; refine Calls.mono cF ?_; rintro e w3 ⟨rfl, hB3⟩)
            all_goals
              have hB : Below w.heap.size w w3 := (below_drewN (Below.refl _ _) 1).trans hB3
              go_wp2
              go_ret
              exact ⟨rfl, hB⟩
      · have hR : bigV false W = wrg (greE t) := by rw [hV.out, if_neg (fun q => q z0), if_pos z1]
        rw [hR]
        replace cW := cW (greE t) (by omega)
        have hne : (greE t != 0) = true := by simpa using z1
        rw [z0] at cG0
        clear hV hR z0 z1 b0 b1 h2 cF
        generalize wrg (greE t) = R at *
        generalize greE t = er at *
        generalize bs s = S at *
        generalize bs t = T at *
        go_enter Tryz.func16, Tryz.ntmps16
        go_wp2
        go_loopw [10] (fun vi wr => (vi = .int .i64 0 ∨ vi = .int .i64 1) ∧ wr = w)
          (fun vi _ => 2 - (intOf vi).toNat)
        case atStart => exact ⟨.inl rfl, rfl⟩
        case round =>
          obtain ⟨hvi, hwr⟩ := hrel
          rw [hwr]
          clear hwr
          rcases hvi with rfl | rfl
          · go_wp2_with (go_at_call 32; refine Calls.mono cG0 ?_; rintro e w' ⟨rfl, hw⟩; rw [hw]; clear hw)
            exact ⟨⟨.inr rfl, trivial⟩, by decide⟩
          · go_wp2_with (first
              | (go_at_call 32; refine Calls.mono cG1 ?_; rintro e w' ⟨rfl, hw⟩; rw [hw]; clear hw)
              | (go_at_call 26; refine Calls.mono cW ?_; rintro e w3 ⟨rfl, hB⟩))
            go_ret
            exact ⟨rfl, hB⟩
    · have hR : bigV false W = wrg (greE s) := by rw [hV.out, if_pos z0]
      rw [hR]
      replace cW := cW (greE s) (by omega)
      have hne : (greE s != 0) = true := by simpa using z0
      clear hV hR z0 b0 b1 h2 cF
      generalize wrg (greE s) = R at *
      generalize greE s = er at *
      generalize bs s = S at *
      generalize bs t = T at *
      go_enter Tryz.func16, Tryz.ntmps16
      go_wp2
      go_loopw [10] (fun vi wr => vi = .int .i64 0 ∧ wr = w)
        (fun vi _ => 2 - (intOf vi).toNat)
      case atStart => exact ⟨rfl, rfl⟩
      case round =>
        obtain ⟨rfl, hwr⟩ := hrel
        rw [hwr]
        clear hwr
        go_wp2_with (first
          | (go_at_call 32; refine Calls.mono cG0 ?_; rintro e w' ⟨rfl, hw⟩; rw [hw]; clear hw)
          | (go_at_call 26; refine Calls.mono cW ?_; rintro e w3 ⟨rfl, hB⟩))
        go_ret
        exact ⟨rfl, hB⟩
  · have hR : bigV false W = wrg 3 := by unfold bigV; rw [if_neg h2]
    rw [hR]
    replace cW := cW 3 (by decide)
    have hne : ((W.length : Int) != 2) = true := by rw [bne_iff_ne]; omega
    obtain ⟨a, cap, rfl⟩ := h.len
    clear hR h2 h
    generalize wrg 3 = R at *
    generalize W.length = m at *
    go_enter Tryz.func16, Tryz.ntmps16
    go_wp2_with (go_at_call 26; refine Calls.mono cW ?_; rintro e w3 ⟨rfl, hB⟩)
    go_ret
    exact ⟨rfl, hB⟩
theorem ref_GreatProductT (w : World) (s t : List UInt8) (h1 : greE s = 0) (h2 : greE t = 0) (_ht : Tab w) :
    Calls Tryz.prog 34 #[.string (bs s), .string (bs t)] w fun e w' => e = .returned (.string (bs (greT true s t))) ∧ Below w.heap.size w w' := by
  obtain ⟨l1, a, ha⟩ := greE_zero h1
  obtain ⟨l2, b, hb⟩ := greE_zero h2
  have e1 := ha.size
  have e2 := hb.size
  rw [bs_size] at e1 e2
  refine (ref_GreatProduct w _ _ a b ha hb (by omega) (by omega)).mono ?_
  rintro e w' ⟨c, rfl, hc, hv, hB⟩
  refine ⟨?_, hB⟩
  have hT : greT true s t = tx c := by
    unfold greT
    rw [Gs_dgs ha, Gs_dgs hb, if_pos rfl, ← hv]
    exact dec_of hc
  rw [hT]
  rfl
set_option maxRecDepth 100000 in
set_option maxHeartbeats 4000000 in
theorem ref_line_times (w : World) (v : Value) (W : List (List UInt8)) (h : IsB w v W) (ht : Tab w) :
    Calls Tryz.prog 16 #[.string { data := #[116, 105, 109, 101, 115] }, v] w fun e w' => e = .returned (.string (bs (linV [116, 105, 109, 101, 115] W))) ∧ Below w.heap.size w w' := by
  rw [linV_times]
  have cW : ∀ (n : Int) (_ : 0 ≤ n ∧ n ≤ 100), Calls Tryz.prog 26 #[.int .i64 n] w fun e w' => e = .returned (.string (bs (wrg n))) ∧ Below w.heap.size w w' := fun n hn => ref_wrong n hn.1 hn.2 w ht
  by_cases h2 : W.length = 2
  · have hV : Hid (bigV true W = if greE (W.getD 0 []) ≠ 0 then wrg (greE (W.getD 0 [])) else if greE (W.getD 1 []) ≠ 0 then wrg (greE (W.getD 1 [])) else greT true (W.getD 0 []) (W.getD 1 [])) := by
      show _ = _
      unfold bigV
      rw [if_pos h2]
    have cG := ref_GreatE w
    have cF := fun (h0 : greE (W.getD 0 []) = 0) (h1 : greE (W.getD 1 []) = 0) => ref_GreatProductT w.drew (W.getD 0 []) (W.getD 1 []) h0 h1 (ht.below (below_drewN (Below.refl _ _) 1))
    have b0 := greE_le (W.getD 0 [])
    have b1 := greE_le (W.getD 1 [])
    have cG0 := cG (W.getD 0 [])
    have cG1 := cG (W.getD 1 [])
    obtain ⟨a, cap, rfl, hcap, hmx, hc⟩ := h
    obtain ⟨b, off, rfl, hc0⟩ := hc 0 (by omega)
    obtain ⟨b', off', e, hc1⟩ := hc 1 (by omega)
    simp only [Option.some.injEq, Addr.mk.injEq, and_true] at e
    obtain ⟨rfl, rfl⟩ := e
    rw [Nat.add_zero] at hc0
    rw [h2]
    clear hc cG hcap hmx
    generalize W.getD 0 [] = s at *
    generalize W.getD 1 [] = t at *
    by_cases z0 : greE s = 0
    · by_cases z1 : greE t = 0
      · have hR : bigV true W = greT true s t := by rw [hV.out, if_neg (fun q => q z0), if_neg (fun q => q z1)]
        rw [hR]
        replace cF := cF z0 z1
        rw [z0] at cG0
        rw [z1] at cG1
        clear hV hR z0 z1 b0 b1 h2 cW
        generalize greT true s t = R at *
        generalize bs s = S at *
        generalize bs t = T at *
        go_enter Tryz.func16, Tryz.ntmps16
        go_wp2
        go_loopw [10] (fun vi wr => (vi = .int .i64 0 ∨ vi = .int .i64 1 ∨ vi = .int .i64 2) ∧ wr = w)
          (fun vi _ => 2 - (intOf vi).toNat)
        case atStart => exact ⟨.inl rfl, rfl⟩
        case round =>
          obtain ⟨hvi, hwr⟩ := hrel
          rw [hwr]
          clear hwr
          rcases hvi with rfl | rfl | rfl
          · go_wp2_with (go_at_call 32; refine Calls.mono cG0 ?_; rintro e w' ⟨rfl, hw⟩; rw [hw]; clear hw)
            exact ⟨⟨.inr (.inl rfl), trivial⟩, by decide⟩
          · go_wp2_with (go_at_call 32; refine Calls.mono cG1 ?_; rintro e w' ⟨rfl, hw⟩; rw [hw]; clear hw)
            exact ⟨⟨.inr (.inr rfl), trivial⟩, by decide⟩
          · go_wp2
            go_region_with (go_at_call 34; refine Calls.mono cF ?_; rintro e w3 ⟨rfl, hB3⟩)
            all_goals
              have hB : Below w.heap.size w w3 := (below_drewN (Below.refl _ _) 1).trans hB3
              go_wp2
              go_ret
              exact ⟨rfl, hB⟩
      · have hR : bigV true W = wrg (greE t) := by rw [hV.out, if_neg (fun q => q z0), if_pos z1]
        rw [hR]
        replace cW := cW (greE t) (by omega)
        have hne : (greE t != 0) = true := by simpa using z1
        rw [z0] at cG0
        clear hV hR z0 z1 b0 b1 h2 cF
        generalize wrg (greE t) = R at *
        generalize greE t = er at *
        generalize bs s = S at *
        generalize bs t = T at *
        go_enter Tryz.func16, Tryz.ntmps16
        go_wp2
        go_loopw [10] (fun vi wr => (vi = .int .i64 0 ∨ vi = .int .i64 1) ∧ wr = w)
          (fun vi _ => 2 - (intOf vi).toNat)
        case atStart => exact ⟨.inl rfl, rfl⟩
        case round =>
          obtain ⟨hvi, hwr⟩ := hrel
          rw [hwr]
          clear hwr
          rcases hvi with rfl | rfl
          · go_wp2_with (go_at_call 32; refine Calls.mono cG0 ?_; rintro e w' ⟨rfl, hw⟩; rw [hw]; clear hw)
            exact ⟨⟨.inr rfl, trivial⟩, by decide⟩
          · go_wp2_with (first
              | (go_at_call 32; refine Calls.mono cG1 ?_; rintro e w' ⟨rfl, hw⟩; rw [hw]; clear hw)
              | (go_at_call 26; refine Calls.mono cW ?_; rintro e w3 ⟨rfl, hB⟩))
            go_ret
            exact ⟨rfl, hB⟩
    · have hR : bigV true W = wrg (greE s) := by rw [hV.out, if_pos z0]
      rw [hR]
      replace cW := cW (greE s) (by omega)
      have hne : (greE s != 0) = true := by simpa using z0
      clear hV hR z0 b0 b1 h2 cF
      generalize wrg (greE s) = R at *
      generalize greE s = er at *
      generalize bs s = S at *
      generalize bs t = T at *
      go_enter Tryz.func16, Tryz.ntmps16
      go_wp2
      go_loopw [10] (fun vi wr => vi = .int .i64 0 ∧ wr = w)
        (fun vi _ => 2 - (intOf vi).toNat)
      case atStart => exact ⟨rfl, rfl⟩
      case round =>
        obtain ⟨rfl, hwr⟩ := hrel
        rw [hwr]
        clear hwr
        go_wp2_with (first
          | (go_at_call 32; refine Calls.mono cG0 ?_; rintro e w' ⟨rfl, hw⟩; rw [hw]; clear hw)
          | (go_at_call 26; refine Calls.mono cW ?_; rintro e w3 ⟨rfl, hB⟩))
        go_ret
        exact ⟨rfl, hB⟩
  · have hR : bigV true W = wrg 3 := by unfold bigV; rw [if_neg h2]
    rw [hR]
    replace cW := cW 3 (by decide)
    have hne : ((W.length : Int) != 2) = true := by rw [bne_iff_ne]; omega
    obtain ⟨a, cap, rfl⟩ := h.len
    clear hR h2 h
    generalize wrg 3 = R at *
    generalize W.length = m at *
    go_enter Tryz.func16, Tryz.ntmps16
    go_wp2_with (go_at_call 26; refine Calls.mono cW ?_; rintro e w3 ⟨rfl, hB⟩)
    go_ret
    exact ⟨rfl, hB⟩

end Go.Proofs.YtmggccepmicjhacGreatDoor
