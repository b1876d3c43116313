/-
  What line of package goldref answers to cyclic and linear.
-/
import Derived.Test.YtmggccepmicjhacGreatDoorRefLineAll
import Derived.Test.YtmggccepmicjhacGreatDoorRefLineAll
import Derived.Test.YtmggccepmicjhacGreatDoorRefAtAll
namespace Go.Proofs.YtmggccepmicjhacGreatDoor
open Go.RowKit
set_option maxRecDepth 100000

theorem numA_len (L : List (List UInt8)) : (numA L).length ≤ L.length := by
  unfold numA
  split
  · simp [numsL]
  · simp
set_option maxRecDepth 100000 in
set_option maxHeartbeats 4000000 in
theorem ref_line_cyclic (w : World) (v : Value) (W : List (List UInt8)) (h : IsB w v W) (hs : ∀ l ∈ W, l.length ≤ 1000000000) (h9 : W.length ≤ 1000000) (ht : Tab w) :
    Calls Tryz.prog 16 #[.string { data := #[99, 121, 99, 108, 105, 99] }, v] w fun e w' => e = .returned (.string (bs (linV [99, 121, 99, 108, 105, 99] W))) ∧ Below w.heap.size w w' := by
  rw [linV_cyclic]
  have cX0 : Calls Tryz.prog 25 #[v, .string { data := #[47] }] w fun e w' => e = .returned (.int .i64 (ixV W [47])) ∧ w' = w := slices_IndexT w v W [47] h
  have cW0 : ∀ (n : Int) (_ : 0 ≤ n ∧ n ≤ 100) (W1 : World), Below w.heap.size w W1 → Calls Tryz.prog 26 #[.int .i64 n] W1 fun e w' => e = .returned (.string (bs (wrg n))) ∧ Below w.heap.size w w' := fun n hn W1 hb1 => by
    refine (ref_wrong n hn.1 hn.2 _ (ht.below hb1)).mono ?_
    rintro e w' ⟨rfl, hb3⟩
    exact ⟨rfl, hb1.trans (hb3.mono hb1.size)⟩
  obtain ⟨a0, cap0, rfl⟩ := h.len
  cases hix : ixO W [47] with
  | none =>
    have hR : pairV false W = wrg 3 := by unfold pairV; rw [hix]
    have hX : ixV W [47] = -1 := by unfold ixV; rw [hix]
    rw [hR]
    rw [hX] at cX0
    have cX := cX0
    have cW := cW0 3 (by decide) w (Below.refl _ _)
    clear h hs hR hX hix cX0 cW0
    generalize wrg 3 = R at *
    generalize W.length = m at *
    go_enter Tryz.func16, Tryz.ntmps16
    go_wp2_with (first
      | (go_at_call 25; refine Calls.mono cX ?_; rintro e w' ⟨rfl, hw⟩; rw [hw]; clear hw)
      | (go_at_call 26; refine Calls.mono cW ?_; rintro e w3 ⟨rfl, hB⟩))
    go_ret
    exact ⟨rfl, hB⟩
  | some k =>
    have hX : ixV W [47] = (k : Int) := by unfold ixV; rw [hix]
    rw [hX] at cX0
    have cX := cX0
    have hk := ixO_lt hix
    have hV : Hid (pairV false W = if numsB (W.take k) = true ∧ numsB (W.drop (k + 1)) = true then prdV false (numsL (W.take k)) (numsL (W.drop (k + 1))) else wrg 3) := by
      show _ = _
      unfold pairV
      rw [hix]
    have hcap : W.length ≤ cap0 ∧ cap0 ≤ 9223372036854775807 := by
      obtain ⟨a', cap', e, q1, q2, _⟩ := h
      simp only [Value.slice.injEq, true_and] at e
      obtain ⟨_, rfl⟩ := e
      unfold maxLen at q2
      omega
    obtain ⟨b, off, e, hdr⟩ := h.drop (by omega)
    subst e
    have hT := h.take (k := k) (by omega)
    have cN1 := ref_numbers w _ (W.take k) hT (fun l hl => hs l (List.mem_of_mem_take hl)) (by rw [List.length_take]; omega) ht
    have hD2 : IsB w (.slice (if cap0 = k + 1 then some ⟨b, off, none⟩ else some ⟨b, off + (k + 1), none⟩) (W.length - (k + 1)) (cap0 - (k + 1))) (W.drop (k + 1)) := by
      by_cases q : cap0 = k + 1
      · rw [if_pos q]
        have hl0 : W.length = k + 1 := by omega
        have hl1 : W.drop (k + 1) = [] := List.drop_of_length_le (by omega)
        rw [hl1]
        exact ⟨some ⟨b, off, none⟩, cap0 - (k + 1), by rw [hl0, Nat.sub_self]; rfl, by simp, by unfold maxLen; omega, fun i hi => absurd hi (by simp)⟩
      · rw [if_neg q]
        exact hdr (k + 1) (by omega)
    have cN2 := fun (W1 : World) (hb1 : Below w.heap.size w W1) => ref_numbers W1 _ (W.drop (k + 1)) (hD2.below hb1) (fun l hl => hs l (List.mem_of_mem_drop hl)) (by rw [List.length_drop]; omega) (ht.below hb1)
    have hz1 : (numA (W.take k)).length ≤ 1000000 := by have := numA_len (W.take k); rw [List.length_take] at this; omega
    have hz2 : (numA (W.drop (k + 1))).length ≤ 1000000 := by have := numA_len (W.drop (k + 1)); rw [List.length_drop] at this; omega
    have cS : ∀ (L : List Nat) (_ : L.length ≤ 1000000) (W1 : World) (u : Value), Below w.heap.size w W1 → IsU W1 u L → Calls Tryz.prog 28 #[u] W1 fun e w' => e = .returned (.string (bs (sayN L))) ∧ Below w.heap.size w w' := fun L hL W1 u hb hU => by
      refine (ref_said W1 u L hU hL (ht.below hb)).mono ?_
      rintro e w' ⟨rfl, hb2⟩
      exact ⟨rfl, hb.trans (hb2.mono hb.size)⟩
    have hk1 : k + 1 ≤ W.length := by omega
    have hnk : ¬ ((k : Int) < 0) := by omega
    clear hs hX hix cX0 hdr hT h hD2
    -- one arm or the other has no numbers
    by_cases hgood : numsB (W.take k) = true ∧ numsB (W.drop (k + 1)) = true
    · obtain ⟨q1, q2⟩ := hgood
      rw [if_pos (show numsB (W.take k) = true ∧ numsB (W.drop (k + 1)) = true from ⟨q1, q2⟩)] at hV
      rw [q1] at cN1
      rw [q2] at cN2
      have e1 : numA (W.take k) = numsL (W.take k) := by unfold numA; rw [if_pos q1]
      have e2 : numA (W.drop (k + 1)) = numsL (W.drop (k + 1)) := by unfold numA; rw [if_pos q2]
      rw [e1] at cN1 hz1
      rw [e2] at cN2 hz2
      rw [hV.out]
      clear hV e1 e2 q1 q2
      generalize numsL (W.take k) = A at *
      generalize numsL (W.drop (k + 1)) = C at *
      have hA9 : A.length ≤ 9223372036854775807 := by omega
      have hC9 : C.length ≤ 9223372036854775807 := by omega
      by_cases z1 : A.length = C.length
      · have i1 : ((A.length : Int) != (C.length : Int)) = false := by rw [z1]; simp
        by_cases z2 : IsPw A.length
        · have hR : prdV false A C = sayN (mk A.length (rnd A C false)) := by unfold prdV; rw [if_neg (by decide), if_pos ⟨z1, z2⟩]
          rw [hR]
          obtain ⟨j, hj, hl⟩ := z2
          have cL : ∀ W1, Calls Tryz.prog 30 #[.int .i64 (A.length : Int)] W1 fun e w' => e = .returned (.int .i64 (j : Int)) ∧ w' = W1 := fun W1 => by rw [hl]; exact ref_Log_ok j hj W1
          have hj0 : ¬ ((j : Int) < 0) := by omega
          have hA1 : A.length ≤ 1024 := by
            rw [hl]
            exact Nat.le_trans (Nat.pow_le_pow_right (by decide) hj) (by decide)
          have cP : ∀ (W1 : World) (u1 u2 : Value), Below w.heap.size w W1 → IsU W1 u1 A → IsU W1 u2 C → Calls Tryz.prog 31 #[u1, u2, .bool false] W1 fun e w' => ∃ u, e = .returned u ∧ IsU w' u (mk A.length (rnd A C false)) ∧ Below w.heap.size w w' := fun W1 u1 u2 hb h1 h2 => by
            refine (ref_Round W1 u1 u2 A C false h1 h2 (by omega) (by omega)).mono ?_
            rintro e w' ⟨u, rfl, hU, hb2⟩
            exact ⟨u, rfl, hU, hb.trans (hb2.mono hb.size)⟩
          replace cS := cS (mk A.length (rnd A C false)) (by rw [mk_length]; omega)
          clear cW0 hR hl hj hA1 z1
          generalize sayN (mk A.length (rnd A C false)) = R at *
          generalize mk A.length (rnd A C false) = Y at *
          generalize W.length = m at *
          by_cases hcc : cap0 = k + 1
          · subst hcc
            obtain rfl : m = k + 1 := by omega
            rw [if_pos rfl, Nat.sub_self] at cN2
            clear hcap
            go_enter Tryz.func16, Tryz.ntmps16
            go_wp2_with (first
              | (go_at_call 25; refine Calls.mono cX ?_; rintro e w' ⟨rfl, hw⟩; rw [hw]; clear hw)
              | (go_at_call 27; refine Calls.mono cN1 ?_; rintro e w1 ⟨u1, rfl, hU1, hB1⟩; obtain ⟨a1, cap1, e1⟩ := isU_form hU1; subst e1; clear cN1)
              | (go_at_call 27; refine Calls.mono (cN2 _ hB1) ?_; rintro e w2 ⟨u2, rfl, hU2, hB2⟩; obtain ⟨a2, cap2, e2⟩ := isU_form hU2; subst e2; replace hU1 := hU1.below hB2; replace hB2 := hB1.trans (hB2.mono hB1.size); clear cN2)
              | (go_at_call 30; refine Calls.mono (cL _) ?_; rintro e w' ⟨rfl, hw⟩; rw [hw]; clear hw)
              | (go_at_call 31; refine Calls.mono (cP _ _ _ hB2 hU1 hU2) ?_; rintro e w3 ⟨u3, rfl, hU3, hB3⟩)
              | (go_at_call 28; refine Calls.mono (cS _ _ hB3 hU3) ?_; rintro e w4 ⟨rfl, hB⟩))
            go_ret
            exact ⟨rfl, hB⟩
          · rw [if_neg hcc] at cN2
            go_enter Tryz.func16, Tryz.ntmps16
            go_wp2_with (first
              | (go_at_call 25; refine Calls.mono cX ?_; rintro e w' ⟨rfl, hw⟩; rw [hw]; clear hw)
              | (go_at_call 27; refine Calls.mono cN1 ?_; rintro e w1 ⟨u1, rfl, hU1, hB1⟩; obtain ⟨a1, cap1, e1⟩ := isU_form hU1; subst e1; clear cN1)
              | (go_at_call 27; refine Calls.mono (cN2 _ hB1) ?_; rintro e w2 ⟨u2, rfl, hU2, hB2⟩; obtain ⟨a2, cap2, e2⟩ := isU_form hU2; subst e2; replace hU1 := hU1.below hB2; replace hB2 := hB1.trans (hB2.mono hB1.size); clear cN2)
              | (go_at_call 30; refine Calls.mono (cL _) ?_; rintro e w' ⟨rfl, hw⟩; rw [hw]; clear hw)
              | (go_at_call 31; refine Calls.mono (cP _ _ _ hB2 hU1 hU2) ?_; rintro e w3 ⟨u3, rfl, hU3, hB3⟩)
              | (go_at_call 28; refine Calls.mono (cS _ _ hB3 hU3) ?_; rintro e w4 ⟨rfl, hB⟩))
            go_ret
            exact ⟨rfl, hB⟩
        · have hR : prdV false A C = wrg 5 := by unfold prdV; rw [if_neg (by decide), if_neg (fun q => z2 q.2)]
          rw [hR]
          have cW := cW0 5 (by decide)
          clear cW0 cS hR
          generalize wrg 5 = R at *
          have cL : ∀ W1, Calls Tryz.prog 30 #[.int .i64 (A.length : Int)] W1 fun e w' => e = .returned (.int .i64 (-1)) ∧ w' = W1 := fun W1 => ref_Log_none A.length (fun j hj q => z2 ⟨j, hj, q⟩) W1
          clear z1 z2
          generalize W.length = m at *
          by_cases hcc : cap0 = k + 1
          · subst hcc
            obtain rfl : m = k + 1 := by omega
            rw [if_pos rfl, Nat.sub_self] at cN2
            clear hcap
            go_enter Tryz.func16, Tryz.ntmps16
            go_wp2_with (first
              | (go_at_call 25; refine Calls.mono cX ?_; rintro e w' ⟨rfl, hw⟩; rw [hw]; clear hw)
              | (go_at_call 27; refine Calls.mono cN1 ?_; rintro e w1 ⟨u1, rfl, hU1, hB1⟩; obtain ⟨a1, cap1, e1⟩ := isU_form hU1; subst e1; clear cN1)
              | (go_at_call 27; refine Calls.mono (cN2 _ hB1) ?_; rintro e w2 ⟨u2, rfl, hU2, hB2⟩; obtain ⟨a2, cap2, e2⟩ := isU_form hU2; subst e2; replace hU1 := hU1.below hB2; replace hB2 := hB1.trans (hB2.mono hB1.size); clear cN2)
              | (go_at_call 30; refine Calls.mono (cL _) ?_; rintro e w' ⟨rfl, hw⟩; rw [hw]; clear hw)
              | (go_at_call 26; refine Calls.mono (cW _ hB2) ?_; rintro e w3 ⟨rfl, hB⟩))
            go_ret
            exact ⟨rfl, hB⟩
          · rw [if_neg hcc] at cN2
            go_enter Tryz.func16, Tryz.ntmps16
            go_wp2_with (first
              | (go_at_call 25; refine Calls.mono cX ?_; rintro e w' ⟨rfl, hw⟩; rw [hw]; clear hw)
              | (go_at_call 27; refine Calls.mono cN1 ?_; rintro e w1 ⟨u1, rfl, hU1, hB1⟩; obtain ⟨a1, cap1, e1⟩ := isU_form hU1; subst e1; clear cN1)
              | (go_at_call 27; refine Calls.mono (cN2 _ hB1) ?_; rintro e w2 ⟨u2, rfl, hU2, hB2⟩; obtain ⟨a2, cap2, e2⟩ := isU_form hU2; subst e2; replace hU1 := hU1.below hB2; replace hB2 := hB1.trans (hB2.mono hB1.size); clear cN2)
              | (go_at_call 30; refine Calls.mono (cL _) ?_; rintro e w' ⟨rfl, hw⟩; rw [hw]; clear hw)
              | (go_at_call 26; refine Calls.mono (cW _ hB2) ?_; rintro e w3 ⟨rfl, hB⟩))
            go_ret
            exact ⟨rfl, hB⟩
      · have i1 : ((A.length : Int) != (C.length : Int)) = true := by rw [bne_iff_ne]; omega
        have hR : prdV false A C = wrg 5 := by unfold prdV; rw [if_neg (by decide), if_neg (fun q => z1 q.1)]
        rw [hR]
        have cW := cW0 5 (by decide)
        clear cW0 cS hR
        generalize wrg 5 = R at *
        clear z1
        generalize W.length = m at *
        by_cases hcc : cap0 = k + 1
        · subst hcc
          obtain rfl : m = k + 1 := by omega
          rw [if_pos rfl, Nat.sub_self] at cN2
          clear hcap
          go_enter Tryz.func16, Tryz.ntmps16
          go_wp2_with (first
            | (go_at_call 25; refine Calls.mono cX ?_; rintro e w' ⟨rfl, hw⟩; rw [hw]; clear hw)
            | (go_at_call 27; refine Calls.mono cN1 ?_; rintro e w1 ⟨u1, rfl, hU1, hB1⟩; obtain ⟨a1, cap1, e1⟩ := isU_form hU1; subst e1; clear cN1)
            | (go_at_call 27; refine Calls.mono (cN2 _ hB1) ?_; rintro e w2 ⟨u2, rfl, hU2, hB2⟩; obtain ⟨a2, cap2, e2⟩ := isU_form hU2; subst e2; replace hU1 := hU1.below hB2; replace hB2 := hB1.trans (hB2.mono hB1.size); clear cN2)
            | (go_at_call 26; refine Calls.mono (cW _ hB2) ?_; rintro e w3 ⟨rfl, hB⟩))
          go_ret
          exact ⟨rfl, hB⟩
        · rw [if_neg hcc] at cN2
          go_enter Tryz.func16, Tryz.ntmps16
          go_wp2_with (first
            | (go_at_call 25; refine Calls.mono cX ?_; rintro e w' ⟨rfl, hw⟩; rw [hw]; clear hw)
            | (go_at_call 27; refine Calls.mono cN1 ?_; rintro e w1 ⟨u1, rfl, hU1, hB1⟩; obtain ⟨a1, cap1, e1⟩ := isU_form hU1; subst e1; clear cN1)
            | (go_at_call 27; refine Calls.mono (cN2 _ hB1) ?_; rintro e w2 ⟨u2, rfl, hU2, hB2⟩; obtain ⟨a2, cap2, e2⟩ := isU_form hU2; subst e2; replace hU1 := hU1.below hB2; replace hB2 := hB1.trans (hB2.mono hB1.size); clear cN2)
            | (go_at_call 26; refine Calls.mono (cW _ hB2) ?_; rintro e w3 ⟨rfl, hB⟩))
          go_ret
          exact ⟨rfl, hB⟩
    · have hR : pairV false W = wrg 3 := by rw [hV.out, if_neg hgood]
      rw [hR]
      have cW := cW0 3 (by decide)
      clear cW0 cS hV hR
      generalize wrg 3 = R at *
      generalize numA (W.take k) = A at *
      generalize numA (W.drop (k + 1)) = C at *
      cases hq1 : numsB (W.take k) with
      | true =>
        cases hq2 : numsB (W.drop (k + 1)) with
        | true => exact absurd ⟨hq1, hq2⟩ hgood
        | false =>
          rw [hq1] at cN1
          rw [hq2] at cN2
          clear hgood hq1 hq2
          generalize W.length = m at *
          by_cases hcc : cap0 = k + 1
          · subst hcc
            obtain rfl : m = k + 1 := by omega
            rw [if_pos rfl, Nat.sub_self] at cN2
            clear hcap
            go_enter Tryz.func16, Tryz.ntmps16
            go_wp2_with (first
              | (go_at_call 25; refine Calls.mono cX ?_; rintro e w' ⟨rfl, hw⟩; rw [hw]; clear hw)
              | (go_at_call 27; refine Calls.mono cN1 ?_; rintro e w1 ⟨u1, rfl, hU1, hB1⟩; obtain ⟨a1, cap1, e1⟩ := isU_form hU1; subst e1; clear cN1)
              | (go_at_call 27; refine Calls.mono (cN2 _ hB1) ?_; rintro e w2 ⟨u2, rfl, hU2, hB2⟩; obtain ⟨a2, cap2, e2⟩ := isU_form hU2; subst e2; replace hU1 := hU1.below hB2; replace hB2 := hB1.trans (hB2.mono hB1.size); clear cN2)
              | (go_at_call 26; refine Calls.mono (cW _ hB2) ?_; rintro e w3 ⟨rfl, hB⟩))
            go_ret
            exact ⟨rfl, hB⟩
          · rw [if_neg hcc] at cN2
            go_enter Tryz.func16, Tryz.ntmps16
            go_wp2_with (first
              | (go_at_call 25; refine Calls.mono cX ?_; rintro e w' ⟨rfl, hw⟩; rw [hw]; clear hw)
              | (go_at_call 27; refine Calls.mono cN1 ?_; rintro e w1 ⟨u1, rfl, hU1, hB1⟩; obtain ⟨a1, cap1, e1⟩ := isU_form hU1; subst e1; clear cN1)
              | (go_at_call 27; refine Calls.mono (cN2 _ hB1) ?_; rintro e w2 ⟨u2, rfl, hU2, hB2⟩; obtain ⟨a2, cap2, e2⟩ := isU_form hU2; subst e2; replace hU1 := hU1.below hB2; replace hB2 := hB1.trans (hB2.mono hB1.size); clear cN2)
              | (go_at_call 26; refine Calls.mono (cW _ hB2) ?_; rintro e w3 ⟨rfl, hB⟩))
            go_ret
            exact ⟨rfl, hB⟩
      | false =>
        rw [hq1] at cN1
        clear hgood hq1
        generalize numsB (W.drop (k + 1)) = B2 at *
        generalize W.length = m at *
        by_cases hcc : cap0 = k + 1
        · subst hcc
          obtain rfl : m = k + 1 := by omega
          rw [if_pos rfl, Nat.sub_self] at cN2
          clear hcap
          go_enter Tryz.func16, Tryz.ntmps16
          go_wp2_with (first
            | (go_at_call 25; refine Calls.mono cX ?_; rintro e w' ⟨rfl, hw⟩; rw [hw]; clear hw)
            | (go_at_call 27; refine Calls.mono cN1 ?_; rintro e w1 ⟨u1, rfl, hU1, hB1⟩; obtain ⟨a1, cap1, e1⟩ := isU_form hU1; subst e1; clear cN1)
            | (go_at_call 27; refine Calls.mono (cN2 _ hB1) ?_; rintro e w2 ⟨u2, rfl, hU2, hB2⟩; obtain ⟨a2, cap2, e2⟩ := isU_form hU2; subst e2; replace hU1 := hU1.below hB2; replace hB2 := hB1.trans (hB2.mono hB1.size); clear cN2)
            | (go_at_call 26; refine Calls.mono (cW _ hB2) ?_; rintro e w3 ⟨rfl, hB⟩))
          go_ret
          exact ⟨rfl, hB⟩
        · rw [if_neg hcc] at cN2
          go_enter Tryz.func16, Tryz.ntmps16
          go_wp2_with (first
            | (go_at_call 25; refine Calls.mono cX ?_; rintro e w' ⟨rfl, hw⟩; rw [hw]; clear hw)
            | (go_at_call 27; refine Calls.mono cN1 ?_; rintro e w1 ⟨u1, rfl, hU1, hB1⟩; obtain ⟨a1, cap1, e1⟩ := isU_form hU1; subst e1; clear cN1)
            | (go_at_call 27; refine Calls.mono (cN2 _ hB1) ?_; rintro e w2 ⟨u2, rfl, hU2, hB2⟩; obtain ⟨a2, cap2, e2⟩ := isU_form hU2; subst e2; replace hU1 := hU1.below hB2; replace hB2 := hB1.trans (hB2.mono hB1.size); clear cN2)
            | (go_at_call 26; refine Calls.mono (cW _ hB2) ?_; rintro e w3 ⟨rfl, hB⟩))
          go_ret
          exact ⟨rfl, hB⟩
set_option maxRecDepth 100000 in
set_option maxHeartbeats 4000000 in
theorem ref_line_linear (w : World) (v : Value) (W : List (List UInt8)) (h : IsB w v W) (hs : ∀ l ∈ W, l.length ≤ 1000000000) (h9 : W.length ≤ 1000000) (ht : Tab w) :
    Calls Tryz.prog 16 #[.string { data := #[108, 105, 110, 101, 97, 114] }, v] w fun e w' => e = .returned (.string (bs (linV [108, 105, 110, 101, 97, 114] W))) ∧ Below w.heap.size w w' := by
  rw [linV_linear]
  have cX0 : Calls Tryz.prog 25 #[v, .string { data := #[47] }] w fun e w' => e = .returned (.int .i64 (ixV W [47])) ∧ w' = w := slices_IndexT w v W [47] h
  have cW0 : ∀ (n : Int) (_ : 0 ≤ n ∧ n ≤ 100) (W1 : World), Below w.heap.size w W1 → Calls Tryz.prog 26 #[.int .i64 n] W1 fun e w' => e = .returned (.string (bs (wrg n))) ∧ Below w.heap.size w w' := fun n hn W1 hb1 => by
    refine (ref_wrong n hn.1 hn.2 _ (ht.below hb1)).mono ?_
    rintro e w' ⟨rfl, hb3⟩
    exact ⟨rfl, hb1.trans (hb3.mono hb1.size)⟩
  obtain ⟨a0, cap0, rfl⟩ := h.len
  cases hix : ixO W [47] with
  | none =>
    have hR : pairV true W = wrg 3 := by unfold pairV; rw [hix]
    have hX : ixV W [47] = -1 := by unfold ixV; rw [hix]
    rw [hR]
    rw [hX] at cX0
    have cX := cX0
    have cW := cW0 3 (by decide) w (Below.refl _ _)
    clear h hs hR hX hix cX0 cW0
    generalize wrg 3 = R at *
    generalize W.length = m at *
    go_enter Tryz.func16, Tryz.ntmps16
    go_wp2_with (first
      | (go_at_call 25; refine Calls.mono cX ?_; rintro e w' ⟨rfl, hw⟩; rw [hw]; clear hw)
      | (go_at_call 26; refine Calls.mono cW ?_; rintro e w3 ⟨rfl, hB⟩))
    go_ret
    exact ⟨rfl, hB⟩
  | some k =>
    have hX : ixV W [47] = (k : Int) := by unfold ixV; rw [hix]
    rw [hX] at cX0
    have cX := cX0
    have hk := ixO_lt hix
    have hV : Hid (pairV true W = if numsB (W.take k) = true ∧ numsB (W.drop (k + 1)) = true then prdV true (numsL (W.take k)) (numsL (W.drop (k + 1))) else wrg 3) := by
      show _ = _
      unfold pairV
      rw [hix]
    have hcap : W.length ≤ cap0 ∧ cap0 ≤ 9223372036854775807 := by
      obtain ⟨a', cap', e, q1, q2, _⟩ := h
      simp only [Value.slice.injEq, true_and] at e
      obtain ⟨_, rfl⟩ := e
      unfold maxLen at q2
      omega
    obtain ⟨b, off, e, hdr⟩ := h.drop (by omega)
    subst e
    have hT := h.take (k := k) (by omega)
    have cN1 := ref_numbers w _ (W.take k) hT (fun l hl => hs l (List.mem_of_mem_take hl)) (by rw [List.length_take]; omega) ht
    have hD2 : IsB w (.slice (if cap0 = k + 1 then some ⟨b, off, none⟩ else some ⟨b, off + (k + 1), none⟩) (W.length - (k + 1)) (cap0 - (k + 1))) (W.drop (k + 1)) := by
      by_cases q : cap0 = k + 1
      · rw [if_pos q]
        have hl0 : W.length = k + 1 := by omega
        have hl1 : W.drop (k + 1) = [] := List.drop_of_length_le (by omega)
        rw [hl1]
        exact ⟨some ⟨b, off, none⟩, cap0 - (k + 1), by rw [hl0, Nat.sub_self]; rfl, by simp, by unfold maxLen; omega, fun i hi => absurd hi (by simp)⟩
      · rw [if_neg q]
        exact hdr (k + 1) (by omega)
    have cN2 := fun (W1 : World) (hb1 : Below w.heap.size w W1) => ref_numbers W1 _ (W.drop (k + 1)) (hD2.below hb1) (fun l hl => hs l (List.mem_of_mem_drop hl)) (by rw [List.length_drop]; omega) (ht.below hb1)
    have hz1 : (numA (W.take k)).length ≤ 1000000 := by have := numA_len (W.take k); rw [List.length_take] at this; omega
    have hz2 : (numA (W.drop (k + 1))).length ≤ 1000000 := by have := numA_len (W.drop (k + 1)); rw [List.length_drop] at this; omega
    have cS : ∀ (L : List Nat) (_ : L.length ≤ 1000000) (W1 : World) (u : Value), Below w.heap.size w W1 → IsU W1 u L → Calls Tryz.prog 28 #[u] W1 fun e w' => e = .returned (.string (bs (sayN L))) ∧ Below w.heap.size w w' := fun L hL W1 u hb hU => by
      refine (ref_said W1 u L hU hL (ht.below hb)).mono ?_
      rintro e w' ⟨rfl, hb2⟩
      exact ⟨rfl, hb.trans (hb2.mono hb.size)⟩
    have hk1 : k + 1 ≤ W.length := by omega
    have hnk : ¬ ((k : Int) < 0) := by omega
    clear hs hX hix cX0 hdr hT h hD2
    -- one arm or the other has no numbers
    by_cases hgood : numsB (W.take k) = true ∧ numsB (W.drop (k + 1)) = true
    · obtain ⟨q1, q2⟩ := hgood
      rw [if_pos (show numsB (W.take k) = true ∧ numsB (W.drop (k + 1)) = true from ⟨q1, q2⟩)] at hV
      rw [q1] at cN1
      rw [q2] at cN2
      have e1 : numA (W.take k) = numsL (W.take k) := by unfold numA; rw [if_pos q1]
      have e2 : numA (W.drop (k + 1)) = numsL (W.drop (k + 1)) := by unfold numA; rw [if_pos q2]
      rw [e1] at cN1 hz1
      rw [e2] at cN2 hz2
      rw [hV.out]
      clear hV e1 e2 q1 q2
      generalize numsL (W.take k) = A at *
      generalize numsL (W.drop (k + 1)) = C at *
      have hA9 : A.length ≤ 9223372036854775807 := by omega
      have hC9 : C.length ≤ 9223372036854775807 := by omega
      by_cases z1 : 1024 < A.length
      · have i1 : (1024 : Int) < (A.length : Int) := by omega
        have hR : prdV true A C = wrg 2 := by unfold prdV; rw [if_pos rfl, if_pos (.inl z1)]
        rw [hR]
        have cW := cW0 2 (by decide)
        clear cW0 cS hR
        generalize wrg 2 = R at *
        generalize W.length = m at *
        by_cases hcc : cap0 = k + 1
        · subst hcc
          obtain rfl : m = k + 1 := by omega
          rw [if_pos rfl, Nat.sub_self] at cN2
          clear hcap
          go_enter Tryz.func16, Tryz.ntmps16
          go_wp2_with (first
            | (go_at_call 25; refine Calls.mono cX ?_; rintro e w' ⟨rfl, hw⟩; rw [hw]; clear hw)
            | (go_at_call 27; refine Calls.mono cN1 ?_; rintro e w1 ⟨u1, rfl, hU1, hB1⟩; obtain ⟨a1, cap1, e1⟩ := isU_form hU1; subst e1; clear cN1)
            | (go_at_call 27; refine Calls.mono (cN2 _ hB1) ?_; rintro e w2 ⟨u2, rfl, hU2, hB2⟩; obtain ⟨a2, cap2, e2⟩ := isU_form hU2; subst e2; replace hU1 := hU1.below hB2; replace hB2 := hB1.trans (hB2.mono hB1.size); clear cN2)
            | (go_at_call 26; refine Calls.mono (cW _ hB2) ?_; rintro e w3 ⟨rfl, hB⟩))
          go_ret
          exact ⟨rfl, hB⟩
        · rw [if_neg hcc] at cN2
          go_enter Tryz.func16, Tryz.ntmps16
          go_wp2_with (first
            | (go_at_call 25; refine Calls.mono cX ?_; rintro e w' ⟨rfl, hw⟩; rw [hw]; clear hw)
            | (go_at_call 27; refine Calls.mono cN1 ?_; rintro e w1 ⟨u1, rfl, hU1, hB1⟩; obtain ⟨a1, cap1, e1⟩ := isU_form hU1; subst e1; clear cN1)
            | (go_at_call 27; refine Calls.mono (cN2 _ hB1) ?_; rintro e w2 ⟨u2, rfl, hU2, hB2⟩; obtain ⟨a2, cap2, e2⟩ := isU_form hU2; subst e2; replace hU1 := hU1.below hB2; replace hB2 := hB1.trans (hB2.mono hB1.size); clear cN2)
            | (go_at_call 26; refine Calls.mono (cW _ hB2) ?_; rintro e w3 ⟨rfl, hB⟩))
          go_ret
          exact ⟨rfl, hB⟩
      have i1 : ¬ ((1024 : Int) < (A.length : Int)) := by omega
      by_cases z2 : 1024 < C.length
      · have i2 : (1024 : Int) < (C.length : Int) := by omega
        have hR : prdV true A C = wrg 2 := by unfold prdV; rw [if_pos rfl, if_pos (.inr (.inl z2))]
        rw [hR]
        have cW := cW0 2 (by decide)
        clear cW0 cS hR
        generalize wrg 2 = R at *
        generalize W.length = m at *
        by_cases hcc : cap0 = k + 1
        · subst hcc
          obtain rfl : m = k + 1 := by omega
          rw [if_pos rfl, Nat.sub_self] at cN2
          clear hcap
          go_enter Tryz.func16, Tryz.ntmps16
          go_wp2_with (first
            | (go_at_call 25; refine Calls.mono cX ?_; rintro e w' ⟨rfl, hw⟩; rw [hw]; clear hw)
            | (go_at_call 27; refine Calls.mono cN1 ?_; rintro e w1 ⟨u1, rfl, hU1, hB1⟩; obtain ⟨a1, cap1, e1⟩ := isU_form hU1; subst e1; clear cN1)
            | (go_at_call 27; refine Calls.mono (cN2 _ hB1) ?_; rintro e w2 ⟨u2, rfl, hU2, hB2⟩; obtain ⟨a2, cap2, e2⟩ := isU_form hU2; subst e2; replace hU1 := hU1.below hB2; replace hB2 := hB1.trans (hB2.mono hB1.size); clear cN2)
            | (go_at_call 26; refine Calls.mono (cW _ hB2) ?_; rintro e w3 ⟨rfl, hB⟩))
          go_ret
          exact ⟨rfl, hB⟩
        · rw [if_neg hcc] at cN2
          go_enter Tryz.func16, Tryz.ntmps16
          go_wp2_with (first
            | (go_at_call 25; refine Calls.mono cX ?_; rintro e w' ⟨rfl, hw⟩; rw [hw]; clear hw)
            | (go_at_call 27; refine Calls.mono cN1 ?_; rintro e w1 ⟨u1, rfl, hU1, hB1⟩; obtain ⟨a1, cap1, e1⟩ := isU_form hU1; subst e1; clear cN1)
            | (go_at_call 27; refine Calls.mono (cN2 _ hB1) ?_; rintro e w2 ⟨u2, rfl, hU2, hB2⟩; obtain ⟨a2, cap2, e2⟩ := isU_form hU2; subst e2; replace hU1 := hU1.below hB2; replace hB2 := hB1.trans (hB2.mono hB1.size); clear cN2)
            | (go_at_call 26; refine Calls.mono (cW _ hB2) ?_; rintro e w3 ⟨rfl, hB⟩))
          go_ret
          exact ⟨rfl, hB⟩
      have i2 : ¬ ((1024 : Int) < (C.length : Int)) := by omega
      by_cases z3 : 0 < A.length
      · have i3 : (0 : Int) < (A.length : Int) := by omega
        by_cases z4 : 0 < C.length
        · have i4 : (0 : Int) < (C.length : Int) := by omega
          by_cases z5 : 1025 < A.length + C.length
          · have i5 : (1025 : Int) < (A.length : Int) + (C.length : Int) := by omega
            have hR : prdV true A C = wrg 2 := by unfold prdV; rw [if_pos rfl, if_pos (.inr (.inr ⟨z3, z4, z5⟩))]
            rw [hR]
            have cW := cW0 2 (by decide)
            clear cW0 cS hR
            generalize wrg 2 = R at *
            generalize W.length = m at *
            by_cases hcc : cap0 = k + 1
            · subst hcc
              obtain rfl : m = k + 1 := by omega
              rw [if_pos rfl, Nat.sub_self] at cN2
              clear hcap
              go_enter Tryz.func16, Tryz.ntmps16
              go_wp2_with (first
                | (go_at_call 25; refine Calls.mono cX ?_; rintro e w' ⟨rfl, hw⟩; rw [hw]; clear hw)
                | (go_at_call 27; refine Calls.mono cN1 ?_; rintro e w1 ⟨u1, rfl, hU1, hB1⟩; obtain ⟨a1, cap1, e1⟩ := isU_form hU1; subst e1; clear cN1)
                | (go_at_call 27; refine Calls.mono (cN2 _ hB1) ?_; rintro e w2 ⟨u2, rfl, hU2, hB2⟩; obtain ⟨a2, cap2, e2⟩ := isU_form hU2; subst e2; replace hU1 := hU1.below hB2; replace hB2 := hB1.trans (hB2.mono hB1.size); clear cN2)
                | (go_at_call 26; refine Calls.mono (cW _ hB2) ?_; rintro e w3 ⟨rfl, hB⟩))
              go_ret
              exact ⟨rfl, hB⟩
            · rw [if_neg hcc] at cN2
              go_enter Tryz.func16, Tryz.ntmps16
              go_wp2_with (first
                | (go_at_call 25; refine Calls.mono cX ?_; rintro e w' ⟨rfl, hw⟩; rw [hw]; clear hw)
                | (go_at_call 27; refine Calls.mono cN1 ?_; rintro e w1 ⟨u1, rfl, hU1, hB1⟩; obtain ⟨a1, cap1, e1⟩ := isU_form hU1; subst e1; clear cN1)
                | (go_at_call 27; refine Calls.mono (cN2 _ hB1) ?_; rintro e w2 ⟨u2, rfl, hU2, hB2⟩; obtain ⟨a2, cap2, e2⟩ := isU_form hU2; subst e2; replace hU1 := hU1.below hB2; replace hB2 := hB1.trans (hB2.mono hB1.size); clear cN2)
                | (go_at_call 26; refine Calls.mono (cW _ hB2) ?_; rintro e w3 ⟨rfl, hB⟩))
              go_ret
              exact ⟨rfl, hB⟩
          · have i5 : ¬ ((1025 : Int) < (A.length : Int) + (C.length : Int)) := by omega
            have hR : prdV true A C = sayN (pM A C) := by unfold prdV; rw [if_pos rfl, if_neg (fun q => by rcases q with q | q | q <;> omega)]
            rw [hR]
            have cP : ∀ (W1 : World) (u1 u2 : Value), Below w.heap.size w W1 → IsU W1 u1 A → IsU W1 u2 C → Calls Tryz.prog 29 #[u1, u2] W1 fun e w' => ∃ u, e = .returned u ∧ IsU w' u (pM A C) ∧ Below w.heap.size w w' := fun W1 u1 u2 hb h1 h2 => by
              refine (ref_Product W1 u1 u2 A C h1 h2 (by omega) (by omega)).mono ?_
              rintro e w' ⟨u, rfl, hU, hb2⟩
              exact ⟨u, rfl, hU, hb.trans (hb2.mono hb.size)⟩
            replace cS := cS (pM A C) (by have := pM_length_le A C; omega)
            clear cW0 hR
            generalize sayN (pM A C) = R at *
            generalize pM A C = Y at *
            generalize W.length = m at *
            by_cases hcc : cap0 = k + 1
            · subst hcc
              obtain rfl : m = k + 1 := by omega
              rw [if_pos rfl, Nat.sub_self] at cN2
              clear hcap
              go_enter Tryz.func16, Tryz.ntmps16
              go_wp2_with (first
                | (go_at_call 25; refine Calls.mono cX ?_; rintro e w' ⟨rfl, hw⟩; rw [hw]; clear hw)
                | (go_at_call 27; refine Calls.mono cN1 ?_; rintro e w1 ⟨u1, rfl, hU1, hB1⟩; obtain ⟨a1, cap1, e1⟩ := isU_form hU1; subst e1; clear cN1)
                | (go_at_call 27; refine Calls.mono (cN2 _ hB1) ?_; rintro e w2 ⟨u2, rfl, hU2, hB2⟩; obtain ⟨a2, cap2, e2⟩ := isU_form hU2; subst e2; replace hU1 := hU1.below hB2; replace hB2 := hB1.trans (hB2.mono hB1.size); clear cN2)
                | (go_at_call 29; refine Calls.mono (cP _ _ _ hB2 hU1 hU2) ?_; rintro e w3 ⟨u3, rfl, hU3, hB3⟩)
                | (go_at_call 28; refine Calls.mono (cS _ _ hB3 hU3) ?_; rintro e w4 ⟨rfl, hB⟩))
              go_ret
              exact ⟨rfl, hB⟩
            · rw [if_neg hcc] at cN2
              go_enter Tryz.func16, Tryz.ntmps16
              go_wp2_with (first
                | (go_at_call 25; refine Calls.mono cX ?_; rintro e w' ⟨rfl, hw⟩; rw [hw]; clear hw)
                | (go_at_call 27; refine Calls.mono cN1 ?_; rintro e w1 ⟨u1, rfl, hU1, hB1⟩; obtain ⟨a1, cap1, e1⟩ := isU_form hU1; subst e1; clear cN1)
                | (go_at_call 27; refine Calls.mono (cN2 _ hB1) ?_; rintro e w2 ⟨u2, rfl, hU2, hB2⟩; obtain ⟨a2, cap2, e2⟩ := isU_form hU2; subst e2; replace hU1 := hU1.below hB2; replace hB2 := hB1.trans (hB2.mono hB1.size); clear cN2)
                | (go_at_call 29; refine Calls.mono (cP _ _ _ hB2 hU1 hU2) ?_; rintro e w3 ⟨u3, rfl, hU3, hB3⟩)
                | (go_at_call 28; refine Calls.mono (cS _ _ hB3 hU3) ?_; rintro e w4 ⟨rfl, hB⟩))
              go_ret
              exact ⟨rfl, hB⟩
        · have i4 : ¬ ((0 : Int) < (C.length : Int)) := by omega
          have hR : prdV true A C = sayN (pM A C) := by unfold prdV; rw [if_pos rfl, if_neg (fun q => by rcases q with q | q | q <;> omega)]
          rw [hR]
          have cP : ∀ (W1 : World) (u1 u2 : Value), Below w.heap.size w W1 → IsU W1 u1 A → IsU W1 u2 C → Calls Tryz.prog 29 #[u1, u2] W1 fun e w' => ∃ u, e = .returned u ∧ IsU w' u (pM A C) ∧ Below w.heap.size w w' := fun W1 u1 u2 hb h1 h2 => by
            refine (ref_Product W1 u1 u2 A C h1 h2 (by omega) (by omega)).mono ?_
            rintro e w' ⟨u, rfl, hU, hb2⟩
            exact ⟨u, rfl, hU, hb.trans (hb2.mono hb.size)⟩
          replace cS := cS (pM A C) (by have := pM_length_le A C; omega)
          clear cW0 hR
          generalize sayN (pM A C) = R at *
          generalize pM A C = Y at *
          generalize W.length = m at *
          by_cases hcc : cap0 = k + 1
          · subst hcc
            obtain rfl : m = k + 1 := by omega
            rw [if_pos rfl, Nat.sub_self] at cN2
            clear hcap
            go_enter Tryz.func16, Tryz.ntmps16
            go_wp2_with (first
              | (go_at_call 25; refine Calls.mono cX ?_; rintro e w' ⟨rfl, hw⟩; rw [hw]; clear hw)
              | (go_at_call 27; refine Calls.mono cN1 ?_; rintro e w1 ⟨u1, rfl, hU1, hB1⟩; obtain ⟨a1, cap1, e1⟩ := isU_form hU1; subst e1; clear cN1)
              | (go_at_call 27; refine Calls.mono (cN2 _ hB1) ?_; rintro e w2 ⟨u2, rfl, hU2, hB2⟩; obtain ⟨a2, cap2, e2⟩ := isU_form hU2; subst e2; replace hU1 := hU1.below hB2; replace hB2 := hB1.trans (hB2.mono hB1.size); clear cN2)
              | (go_at_call 29; refine Calls.mono (cP _ _ _ hB2 hU1 hU2) ?_; rintro e w3 ⟨u3, rfl, hU3, hB3⟩)
              | (go_at_call 28; refine Calls.mono (cS _ _ hB3 hU3) ?_; rintro e w4 ⟨rfl, hB⟩))
            go_ret
            exact ⟨rfl, hB⟩
          · rw [if_neg hcc] at cN2
            go_enter Tryz.func16, Tryz.ntmps16
            go_wp2_with (first
              | (go_at_call 25; refine Calls.mono cX ?_; rintro e w' ⟨rfl, hw⟩; rw [hw]; clear hw)
              | (go_at_call 27; refine Calls.mono cN1 ?_; rintro e w1 ⟨u1, rfl, hU1, hB1⟩; obtain ⟨a1, cap1, e1⟩ := isU_form hU1; subst e1; clear cN1)
              | (go_at_call 27; refine Calls.mono (cN2 _ hB1) ?_; rintro e w2 ⟨u2, rfl, hU2, hB2⟩; obtain ⟨a2, cap2, e2⟩ := isU_form hU2; subst e2; replace hU1 := hU1.below hB2; replace hB2 := hB1.trans (hB2.mono hB1.size); clear cN2)
              | (go_at_call 29; refine Calls.mono (cP _ _ _ hB2 hU1 hU2) ?_; rintro e w3 ⟨u3, rfl, hU3, hB3⟩)
              | (go_at_call 28; refine Calls.mono (cS _ _ hB3 hU3) ?_; rintro e w4 ⟨rfl, hB⟩))
            go_ret
            exact ⟨rfl, hB⟩
      · have i3 : ¬ ((0 : Int) < (A.length : Int)) := by omega
        have hR : prdV true A C = sayN (pM A C) := by unfold prdV; rw [if_pos rfl, if_neg (fun q => by rcases q with q | q | q <;> omega)]
        rw [hR]
        have cP : ∀ (W1 : World) (u1 u2 : Value), Below w.heap.size w W1 → IsU W1 u1 A → IsU W1 u2 C → Calls Tryz.prog 29 #[u1, u2] W1 fun e w' => ∃ u, e = .returned u ∧ IsU w' u (pM A C) ∧ Below w.heap.size w w' := fun W1 u1 u2 hb h1 h2 => by
          refine (ref_Product W1 u1 u2 A C h1 h2 (by omega) (by omega)).mono ?_
          rintro e w' ⟨u, rfl, hU, hb2⟩
          exact ⟨u, rfl, hU, hb.trans (hb2.mono hb.size)⟩
        replace cS := cS (pM A C) (by have := pM_length_le A C; omega)
        clear cW0 hR
        generalize sayN (pM A C) = R at *
        generalize pM A C = Y at *
        generalize W.length = m at *
        by_cases hcc : cap0 = k + 1
        · subst hcc
          obtain rfl : m = k + 1 := by omega
          rw [if_pos rfl, Nat.sub_self] at cN2
          clear hcap
          go_enter Tryz.func16, Tryz.ntmps16
          go_wp2_with (first
            | (go_at_call 25; refine Calls.mono cX ?_; rintro e w' ⟨rfl, hw⟩; rw [hw]; clear hw)
            | (go_at_call 27; refine Calls.mono cN1 ?_; rintro e w1 ⟨u1, rfl, hU1, hB1⟩; obtain ⟨a1, cap1, e1⟩ := isU_form hU1; subst e1; clear cN1)
            | (go_at_call 27; refine Calls.mono (cN2 _ hB1) ?_; rintro e w2 ⟨u2, rfl, hU2, hB2⟩; obtain ⟨a2, cap2, e2⟩ := isU_form hU2; subst e2; replace hU1 := hU1.below hB2; replace hB2 := hB1.trans (hB2.mono hB1.size); clear cN2)
            | (go_at_call 29; refine Calls.mono (cP _ _ _ hB2 hU1 hU2) ?_; rintro e w3 ⟨u3, rfl, hU3, hB3⟩)
            | (go_at_call 28; refine Calls.mono (cS _ _ hB3 hU3) ?_; rintro e w4 ⟨rfl, hB⟩))
          go_ret
          exact ⟨rfl, hB⟩
        · rw [if_neg hcc] at cN2
          go_enter Tryz.func16, Tryz.ntmps16
          go_wp2_with (first
            | (go_at_call 25; refine Calls.mono cX ?_; rintro e w' ⟨rfl, hw⟩; rw [hw]; clear hw)
            | (go_at_call 27; refine Calls.mono cN1 ?_; rintro e w1 ⟨u1, rfl, hU1, hB1⟩; obtain ⟨a1, cap1, e1⟩ := isU_form hU1; subst e1; clear cN1)
            | (go_at_call 27; refine Calls.mono (cN2 _ hB1) ?_; rintro e w2 ⟨u2, rfl, hU2, hB2⟩; obtain ⟨a2, cap2, e2⟩ := isU_form hU2; subst e2; replace hU1 := hU1.below hB2; replace hB2 := hB1.trans (hB2.mono hB1.size); clear cN2)
            | (go_at_call 29; refine Calls.mono (cP _ _ _ hB2 hU1 hU2) ?_; rintro e w3 ⟨u3, rfl, hU3, hB3⟩)
            | (go_at_call 28; refine Calls.mono (cS _ _ hB3 hU3) ?_; rintro e w4 ⟨rfl, hB⟩))
          go_ret
          exact ⟨rfl, hB⟩
    · have hR : pairV true W = wrg 3 := by rw [hV.out, if_neg hgood]
      rw [hR]
      have cW := cW0 3 (by decide)
      clear cW0 cS hV hR
      generalize wrg 3 = R at *
      generalize numA (W.take k) = A at *
      generalize numA (W.drop (k + 1)) = C at *
      cases hq1 : numsB (W.take k) with
      | true =>
        cases hq2 : numsB (W.drop (k + 1)) with
        | true => exact absurd ⟨hq1, hq2⟩ hgood
        | false =>
          rw [hq1] at cN1
          rw [hq2] at cN2
          clear hgood hq1 hq2
          generalize W.length = m at *
          by_cases hcc : cap0 = k + 1
          · subst hcc
            obtain rfl : m = k + 1 := by omega
            rw [if_pos rfl, Nat.sub_self] at cN2
            clear hcap
            go_enter Tryz.func16, Tryz.ntmps16
            go_wp2_with (first
              | (go_at_call 25; refine Calls.mono cX ?_; rintro e w' ⟨rfl, hw⟩; rw [hw]; clear hw)
              | (go_at_call 27; refine Calls.mono cN1 ?_; rintro e w1 ⟨u1, rfl, hU1, hB1⟩; obtain ⟨a1, cap1, e1⟩ := isU_form hU1; subst e1; clear cN1)
              | (go_at_call 27; refine Calls.mono (cN2 _ hB1) ?_; rintro e w2 ⟨u2, rfl, hU2, hB2⟩; obtain ⟨a2, cap2, e2⟩ := isU_form hU2; subst e2; replace hU1 := hU1.below hB2; replace hB2 := hB1.trans (hB2.mono hB1.size); clear cN2)
              | (go_at_call 26; refine Calls.mono (cW _ hB2) ?_; rintro e w3 ⟨rfl, hB⟩))
            go_ret
            exact ⟨rfl, hB⟩
          · rw [if_neg hcc] at cN2
            go_enter Tryz.func16, Tryz.ntmps16
            go_wp2_with (first
              | (go_at_call 25; refine Calls.mono cX ?_; rintro e w' ⟨rfl, hw⟩; rw [hw]; clear hw)
              | (go_at_call 27; refine Calls.mono cN1 ?_; rintro e w1 ⟨u1, rfl, hU1, hB1⟩; obtain ⟨a1, cap1, e1⟩ := isU_form hU1; subst e1; clear cN1)
              | (go_at_call 27; refine Calls.mono (cN2 _ hB1) ?_; rintro e w2 ⟨u2, rfl, hU2, hB2⟩; obtain ⟨a2, cap2, e2⟩ := isU_form hU2; subst e2; replace hU1 := hU1.below hB2; replace hB2 := hB1.trans (hB2.mono hB1.size); clear cN2)
              | (go_at_call 26; refine Calls.mono (cW _ hB2) ?_; rintro e w3 ⟨rfl, hB⟩))
            go_ret
            exact ⟨rfl, hB⟩
      | false =>
        rw [hq1] at cN1
        clear hgood hq1
        generalize numsB (W.drop (k + 1)) = B2 at *
        generalize W.length = m at *
        by_cases hcc : cap0 = k + 1
        · subst hcc
          obtain rfl : m = k + 1 := by omega
          rw [if_pos rfl, Nat.sub_self] at cN2
          clear hcap
          go_enter Tryz.func16, Tryz.ntmps16
          go_wp2_with (first
            | (go_at_call 25; refine Calls.mono cX ?_; rintro e w' ⟨rfl, hw⟩; rw [hw]; clear hw)
            | (go_at_call 27; refine Calls.mono cN1 ?_; rintro e w1 ⟨u1, rfl, hU1, hB1⟩; obtain ⟨a1, cap1, e1⟩ := isU_form hU1; subst e1; clear cN1)
            | (go_at_call 27; refine Calls.mono (cN2 _ hB1) ?_; rintro e w2 ⟨u2, rfl, hU2, hB2⟩; obtain ⟨a2, cap2, e2⟩ := isU_form hU2; subst e2; replace hU1 := hU1.below hB2; replace hB2 := hB1.trans (hB2.mono hB1.size); clear cN2)
            | (go_at_call 26; refine Calls.mono (cW _ hB2) ?_; rintro e w3 ⟨rfl, hB⟩))
          go_ret
          exact ⟨rfl, hB⟩
        · rw [if_neg hcc] at cN2
          go_enter Tryz.func16, Tryz.ntmps16
          go_wp2_with (first
            | (go_at_call 25; refine Calls.mono cX ?_; rintro e w' ⟨rfl, hw⟩; rw [hw]; clear hw)
            | (go_at_call 27; refine Calls.mono cN1 ?_; rintro e w1 ⟨u1, rfl, hU1, hB1⟩; obtain ⟨a1, cap1, e1⟩ := isU_form hU1; subst e1; clear cN1)
            | (go_at_call 27; refine Calls.mono (cN2 _ hB1) ?_; rintro e w2 ⟨u2, rfl, hU2, hB2⟩; obtain ⟨a2, cap2, e2⟩ := isU_form hU2; subst e2; replace hU1 := hU1.below hB2; replace hB2 := hB1.trans (hB2.mono hB1.size); clear cN2)
            | (go_at_call 26; refine Calls.mono (cW _ hB2) ?_; rintro e w3 ⟨rfl, hB⟩))
          go_ret
          exact ⟨rfl, hB⟩

end Go.Proofs.YtmggccepmicjhacGreatDoor
