/-
  What ofLists, ofTexts, readFirst, planOf and shareOf of package desk tell.
-/
import Derived.Test.YtmggccepmicjhagGreatDoorDkC3
import Derived.BigQuiet
namespace Go.Proofs.YtmggccepmicjhagGreatDoor
open Go.RowKit
set_option maxRecDepth 100000

set_option maxRecDepth 100000 in
set_option maxHeartbeats 4000000 in
theorem desk_ofLists (g : Nat) (eg : ∀ args w, (callFunc g args).run Tryz.prog w = .ok (.enter g args) w) (f : List Nat → List Nat → List Nat) (er : List Nat → List Nat → Int) (hf : ∀ xs ys, (f xs ys).length ≤ 1000000) (he : ∀ a b, 0 ≤ er a b ∧ er a b ≤ 100)
    (cF : ∀ (xs ys : List Nat) (u u' : Value) (W : World), IsU W u xs → IsU W u' ys → Tab W → Calls Tryz.prog g #[u, u'] W fun e w' => ∃ z, e = .returned (.tuple #[z, .int .i64 (er xs ys)]) ∧ IsU w' z (f xs ys) ∧ Below W.heap.size W w')
    (w : World) (v : Value) (L : List (List UInt8)) (h : IsB w v L) (hs : ∀ l ∈ L, l.length ≤ 1000000000) (h9 : L.length ≤ 1000000) (ht : Tab w) (R : List UInt8)
    (hR0 : ixO L [47] = none → R = wrg 3)
    (hR1 : ∀ k, ixO L [47] = some k → numsB (L.take k) = true ∧ numsB (L.drop (k + 1)) = true → R = if er (numsL (L.take k)) (numsL (L.drop (k + 1))) = 0 then sayN (f (numsL (L.take k)) (numsL (L.drop (k + 1)))) else wrg (er (numsL (L.take k)) (numsL (L.drop (k + 1)))))
    (hR2 : ∀ k, ixO L [47] = some k → ¬ (numsB (L.take k) = true ∧ numsB (L.drop (k + 1)) = true) → R = wrg 3) :
    Calls Tryz.prog 44 #[v, .func (.func g) #[] #[]] w fun e w' => ∃ t k, e = .returned (.tuple #[.string (bs t), .int .i64 k]) ∧ Says t k R ∧ Below w.heap.size w w' := by
  have cX0 : Calls Tryz.prog 67 #[v, .string { data := #[47] }] w fun e w' => e = .returned (.int .i64 (ixV L [47])) ∧ w' = w := slices_IndexT w v L [47] h
  obtain ⟨a0, cap0, rfl⟩ := h.len
  cases hix : ixO L [47] with
  | none =>
    have hR : Hid (R = wrg 3) := hR0 hix
    have hX : ixV L [47] = -1 := by unfold ixV; rw [hix]
    rw [hX] at cX0
    have cX := cX0
    clear h hs hR0 hR1 hR2 hX hix cX0 cF hf he
    generalize L.length = m at *
    go_enter Tryz.func44, Tryz.ntmps44
    go_wp2_with (first | (go_at_call 67; refine Calls.mono cX ?_; rintro e w' ⟨rfl, hw⟩; rw [hw]; clear hw))
    go_ret2
    exact ⟨[], 3, rfl, Says.err (by decide) (by decide) hR.out.symm, Below.refl _ _⟩
  | some k =>
    have hX : ixV L [47] = (k : Int) := by unfold ixV; rw [hix]
    rw [hX] at cX0
    have cX := cX0
    have hk := ixO_lt hix
    replace hR1 := hR1 k hix
    replace hR2 := hR2 k hix
    have hcap : L.length ≤ cap0 ∧ cap0 ≤ 9223372036854775807 := by
      obtain ⟨a', cap', e, q1, q2, _⟩ := h
      simp only [Value.slice.injEq, true_and] at e
      obtain ⟨_, rfl⟩ := e
      unfold maxLen at q2
      omega
    obtain ⟨b, off, e, hdr⟩ := h.drop (by omega)
    subst e
    have hT := h.take (k := k) (by omega)
    have cN1 := desk_readNumbers w _ (L.take k) hT (fun l hl => hs l (List.mem_of_mem_take hl)) (by rw [List.length_take]; omega) ht
    have hD2 : IsB w (.slice (if cap0 = k + 1 then some ⟨b, off, none⟩ else some ⟨b, off + (k + 1), none⟩) (L.length - (k + 1)) (cap0 - (k + 1))) (L.drop (k + 1)) := by
      by_cases q : cap0 = k + 1
      · rw [if_pos q]
        have hl0 : L.length = k + 1 := by omega
        have hl1 : L.drop (k + 1) = [] := List.drop_of_length_le (by omega)
        rw [hl1]
        exact ⟨some ⟨b, off, none⟩, cap0 - (k + 1), by rw [hl0, Nat.sub_self]; rfl, by simp, by unfold maxLen; omega, fun i hi => absurd hi (by simp)⟩
      · rw [if_neg q]
        exact hdr (k + 1) (by omega)
    have cN2 := fun (W1 : World) (hb1 : Below w.heap.size w W1) => desk_readNumbers W1 _ (L.drop (k + 1)) (hD2.below hb1) (fun l hl => hs l (List.mem_of_mem_drop hl)) (by rw [List.length_drop]; omega) (ht.below hb1)
    have hk1 : k + 1 ≤ L.length := by omega
    have hnk : ¬ ((k : Int) < 0) := by omega
    clear hs hX hix cX0 hdr hT h hD2 hR0
    cases q1 : numsB (L.take k) with
    | false =>
      have hR : Hid (R = wrg 3) := hR2 (fun q => by rw [q1] at q; cases q.1)
      rw [(numA_no q1).2] at cN1
      clear hR1 hR2 cN2 cF hf he q1
      generalize numA (L.take k) = A at *
      generalize L.length = m at *
      go_enter Tryz.func44, Tryz.ntmps44
      go_wp2_with (first
        | (go_at_call 67; refine Calls.mono cX ?_; rintro e w' ⟨rfl, hw⟩; rw [hw]; clear hw)
        | (go_at_call 58; refine Calls.mono cN1 ?_; rintro e w1 ⟨u1, rfl, hU1, hB1⟩; clear cN1))
      go_ret2
      exact ⟨[], 3, rfl, Says.err (by decide) (by decide) hR.out.symm, hB1⟩
    | true =>
      rw [(numA_ok q1).1, (numA_ok q1).2] at cN1
      cases q2 : numsB (L.drop (k + 1)) with
      | false =>
        have hR : Hid (R = wrg 3) := hR2 (fun q => by rw [q2] at q; cases q.2)
        rw [(numA_no q2).2] at cN2
        clear hR1 hR2 cF hf he q1 q2
        generalize numsL (L.take k) = A at *
        generalize numA (L.drop (k + 1)) = C at *
        generalize L.length = m at *
        by_cases hcc : cap0 = k + 1
        · subst hcc
          obtain rfl : m = k + 1 := by omega
          rw [if_pos rfl, Nat.sub_self] at cN2
          clear hcap
          go_enter Tryz.func44, Tryz.ntmps44
          go_wp2_with (first
            | (go_at_call 67; refine Calls.mono cX ?_; rintro e w' ⟨rfl, hw⟩; rw [hw]; clear hw)
            | (go_at_call 58; refine Calls.mono cN1 ?_; rintro e w1 ⟨u1, rfl, hU1, hB1⟩; clear cN1)
            | (go_at_call 58; refine Calls.mono (cN2 _ hB1) ?_; rintro e w2 ⟨u2, rfl, hU2, hB2⟩; replace hU1 := hU1.below hB2; replace hB2 := hB1.trans (hB2.mono hB1.size); have hT : Tab w2 := ht.below hB2; clear cN2))
          go_ret2
          exact ⟨[], 3, rfl, Says.err (by decide) (by decide) hR.out.symm, hB2⟩
        · rw [if_neg hcc] at cN2
          go_enter Tryz.func44, Tryz.ntmps44
          go_wp2_with (first
            | (go_at_call 67; refine Calls.mono cX ?_; rintro e w' ⟨rfl, hw⟩; rw [hw]; clear hw)
            | (go_at_call 58; refine Calls.mono cN1 ?_; rintro e w1 ⟨u1, rfl, hU1, hB1⟩; clear cN1)
            | (go_at_call 58; refine Calls.mono (cN2 _ hB1) ?_; rintro e w2 ⟨u2, rfl, hU2, hB2⟩; replace hU1 := hU1.below hB2; replace hB2 := hB1.trans (hB2.mono hB1.size); have hT : Tab w2 := ht.below hB2; clear cN2))
          go_ret2
          exact ⟨[], 3, rfl, Says.err (by decide) (by decide) hR.out.symm, hB2⟩
      | true =>
        rw [(numA_ok q2).1, (numA_ok q2).2] at cN2
        have hR0 := hR1 ⟨q1, q2⟩
        have cF' := fun (u u' : Value) (W : World) (hU : IsU W u (numsL (L.take k))) (hU' : IsU W u' (numsL (L.drop (k + 1)))) (hT : Tab W) => cF _ _ u u' W hU hU' hT
        have hfl := hf (numsL (L.take k)) (numsL (L.drop (k + 1)))
        have hel := he (numsL (L.take k)) (numsL (L.drop (k + 1)))
        clear hR1 hR2 cF hf he q1 q2
        generalize f (numsL (L.take k)) (numsL (L.drop (k + 1))) = B at *
        generalize er (numsL (L.take k)) (numsL (L.drop (k + 1))) = kk at *
        generalize numsL (L.take k) = A at *
        generalize numsL (L.drop (k + 1)) = C at *
        generalize L.length = m at *
        by_cases hk0 : kk = 0
        · rw [if_pos hk0] at hR0
          have hR : Hid (R = sayN B) := hR0
          subst hk0
          have cT := fun (u : Value) (W : World) (hU : IsU W u B) (hT : Tab W) => desk_listText_ok W u B hU hfl hT
          clear hR0 hel hfl
          generalize sayN B = D at *
          by_cases hcc : cap0 = k + 1
          · subst hcc
            obtain rfl : m = k + 1 := by omega
            rw [if_pos rfl, Nat.sub_self] at cN2
            clear hcap
            go_enter Tryz.func44, Tryz.ntmps44
            go_wp2_with (first
              | (go_at_call 67; refine Calls.mono cX ?_; rintro e w' ⟨rfl, hw⟩; rw [hw]; clear hw)
              | (go_at_call 58; refine Calls.mono cN1 ?_; rintro e w1 ⟨u1, rfl, hU1, hB1⟩; clear cN1)
              | (go_at_call 58; refine Calls.mono (cN2 _ hB1) ?_; rintro e w2 ⟨u2, rfl, hU2, hB2⟩; replace hU1 := hU1.below hB2; replace hB2 := hB1.trans (hB2.mono hB1.size); have hT : Tab w2 := ht.below hB2; clear cN2)
              | (go_at_fn g; refine Calls.mono (cF' _ _ _ hU1 hU2 hT) ?_; rintro e w3 ⟨z, rfl, hZ, hb3⟩; obtain ⟨az, cz, e3⟩ := isU_len hZ; subst e3; replace hT := hT.below hb3; replace hB2 := hB2.trans (hb3.mono hB2.size); clear hb3 cF')
              | (go_at_call 64; refine Calls.mono (cT _ _ hZ hT) ?_; rintro e w4 ⟨rfl, hb4⟩; replace hB2 := hB2.trans (hb4.mono hB2.size); clear cT hb4))
            go_ret2
            exact ⟨D, 0, rfl, by rw [hR.out]; exact Says.ok _, hB2⟩
          · rw [if_neg hcc] at cN2
            go_enter Tryz.func44, Tryz.ntmps44
            go_wp2_with (first
              | (go_at_call 67; refine Calls.mono cX ?_; rintro e w' ⟨rfl, hw⟩; rw [hw]; clear hw)
              | (go_at_call 58; refine Calls.mono cN1 ?_; rintro e w1 ⟨u1, rfl, hU1, hB1⟩; clear cN1)
              | (go_at_call 58; refine Calls.mono (cN2 _ hB1) ?_; rintro e w2 ⟨u2, rfl, hU2, hB2⟩; replace hU1 := hU1.below hB2; replace hB2 := hB1.trans (hB2.mono hB1.size); have hT : Tab w2 := ht.below hB2; clear cN2)
              | (go_at_fn g; refine Calls.mono (cF' _ _ _ hU1 hU2 hT) ?_; rintro e w3 ⟨z, rfl, hZ, hb3⟩; obtain ⟨az, cz, e3⟩ := isU_len hZ; subst e3; replace hT := hT.below hb3; replace hB2 := hB2.trans (hb3.mono hB2.size); clear hb3 cF')
              | (go_at_call 64; refine Calls.mono (cT _ _ hZ hT) ?_; rintro e w4 ⟨rfl, hb4⟩; replace hB2 := hB2.trans (hb4.mono hB2.size); clear cT hb4))
            go_ret2
            exact ⟨D, 0, rfl, by rw [hR.out]; exact Says.ok _, hB2⟩
        · rw [if_neg hk0] at hR0
          have hR : Hid (R = wrg kk) := hR0
          have hkk1 : (kk != 0) = true := by rw [bne_iff_ne]; exact hk0
          have hk2 : Hid (0 < kk ∧ kk ≤ 100) := ⟨by omega, hel.2⟩
          have cT := fun (a : Option Addr) (n cap : Nat) (W : World) => desk_listText_bad W a n cap kk hkk1
          clear hR0 hel hk0 hfl hkk1
          by_cases hcc : cap0 = k + 1
          · subst hcc
            obtain rfl : m = k + 1 := by omega
            rw [if_pos rfl, Nat.sub_self] at cN2
            clear hcap
            go_enter Tryz.func44, Tryz.ntmps44
            go_wp2_with (first
              | (go_at_call 67; refine Calls.mono cX ?_; rintro e w' ⟨rfl, hw⟩; rw [hw]; clear hw)
              | (go_at_call 58; refine Calls.mono cN1 ?_; rintro e w1 ⟨u1, rfl, hU1, hB1⟩; clear cN1)
              | (go_at_call 58; refine Calls.mono (cN2 _ hB1) ?_; rintro e w2 ⟨u2, rfl, hU2, hB2⟩; replace hU1 := hU1.below hB2; replace hB2 := hB1.trans (hB2.mono hB1.size); have hT : Tab w2 := ht.below hB2; clear cN2)
              | (go_at_fn g; refine Calls.mono (cF' _ _ _ hU1 hU2 hT) ?_; rintro e w3 ⟨z, rfl, hZ, hb3⟩; obtain ⟨az, cz, e3⟩ := isU_len hZ; subst e3; replace hT := hT.below hb3; replace hB2 := hB2.trans (hb3.mono hB2.size); clear hb3 cF')
              | (go_at_call 64; refine Calls.mono (cT _ _ _ _) ?_; rintro e w' ⟨rfl, hw⟩; rw [hw]; clear hw cT))
            go_ret2
            exact ⟨[], kk, rfl, Says.err hk2.out.1 hk2.out.2 hR.out.symm, hB2⟩
          · rw [if_neg hcc] at cN2
            go_enter Tryz.func44, Tryz.ntmps44
            go_wp2_with (first
              | (go_at_call 67; refine Calls.mono cX ?_; rintro e w' ⟨rfl, hw⟩; rw [hw]; clear hw)
              | (go_at_call 58; refine Calls.mono cN1 ?_; rintro e w1 ⟨u1, rfl, hU1, hB1⟩; clear cN1)
              | (go_at_call 58; refine Calls.mono (cN2 _ hB1) ?_; rintro e w2 ⟨u2, rfl, hU2, hB2⟩; replace hU1 := hU1.below hB2; replace hB2 := hB1.trans (hB2.mono hB1.size); have hT : Tab w2 := ht.below hB2; clear cN2)
              | (go_at_fn g; refine Calls.mono (cF' _ _ _ hU1 hU2 hT) ?_; rintro e w3 ⟨z, rfl, hZ, hb3⟩; obtain ⟨az, cz, e3⟩ := isU_len hZ; subst e3; replace hT := hT.below hb3; replace hB2 := hB2.trans (hb3.mono hB2.size); clear hb3 cF')
              | (go_at_call 64; refine Calls.mono (cT _ _ _ _) ?_; rintro e w' ⟨rfl, hw⟩; rw [hw]; clear hw cT))
            go_ret2
            exact ⟨[], kk, rfl, Says.err hk2.out.1 hk2.out.2 hR.out.symm, hB2⟩
set_option maxRecDepth 100000 in
set_option maxHeartbeats 2000000 in
theorem desk_ofTexts (g : Nat) (eg : ∀ args w, (callFunc g args).run Tryz.prog w = .ok (.enter g args) w) (f : List UInt8 → List UInt8 → List UInt8)
    (cF : ∀ (s t : List UInt8) (W : World), Tab W → Calls Tryz.prog g #[.string (bs s), .string (bs t)] W fun e w' => ∃ r k, e = .returned (.tuple #[.string (bs r), .int .i64 k]) ∧ Says r k (f s t) ∧ Below W.heap.size W w')
    (w : World) (v : Value) (L : List (List UInt8)) (h : IsB w v L) (ht : Tab w) (R : List UInt8) (hR1 : L.length = 2 → R = f (L.getD 0 []) (L.getD 1 [])) (hR2 : L.length ≠ 2 → R = wrg 3) :
    Calls Tryz.prog 47 #[v, .func (.func g) #[] #[]] w fun e w' => ∃ t k, e = .returned (.tuple #[.string (bs t), .int .i64 k]) ∧ Says t k R ∧ Below w.heap.size w w' := by
  obtain ⟨a, cap, rfl, h1, h2, hc⟩ := h
  by_cases hl : L.length = 2
  · have hR : Hid (R = f (L.getD 0 []) (L.getD 1 [])) := hR1 hl
    obtain ⟨b, off, rfl, hc0⟩ := hc 0 (by omega)
    obtain ⟨b', off', e, hc1⟩ := hc 1 (by omega)
    simp only [Option.some.injEq, Addr.mk.injEq, and_true] at e
    obtain ⟨rfl, rfl⟩ := e
    rw [Nat.add_zero] at hc0
    have cF' := cF (L.getD 0 []) (L.getD 1 []) w.drew (ht.below (drew_below (Below.refl _ _)))
    rw [hl] at h1 ⊢
    clear hc hR1 hR2 cF hl
    generalize f (L.getD 0 []) (L.getD 1 []) = F at *
    generalize bs (L.getD 0 []) = X at *
    generalize bs (L.getD 1 []) = Y at *
    go_enter Tryz.func47, Tryz.ntmps47
    go_wp2
    go_region_with (go_at_fn g; refine Calls.mono cF' ?_; rintro e w2 ⟨r, k, rfl, hS, hB2⟩; replace hS : Hid _ := hS)
    all_goals
      have hB : Below w.heap.size w w2 := (drew_below (Below.refl _ _)).trans hB2
      go_wp2
      go_ret2
      exact ⟨r, k, rfl, by rw [hR.out]; exact hS.out, hB⟩
  · have hR : Hid (R = wrg 3) := hR2 hl
    have hl2 : ((L.length : Int) != 2) = true := by rw [bne_iff_ne]; omega
    clear hc hR1 hR2 cF hl
    go_enter Tryz.func47, Tryz.ntmps47
    go_wp2
    go_ret2
    exact ⟨[], 3, rfl, Says.err (by decide) (by decide) hR.out.symm, Below.refl _ _⟩
/-- The numbers behind the first. -/
theorem isU_behind {w : World} {b off cap : Nat} {n : List Nat} (h : IsU w (.slice (some ⟨b, off, none⟩) n.length cap) n) (h1 : 0 < n.length) :
    n.length ≤ cap ∧ cap ≤ 9223372036854775807 ∧ IsU w (.slice (if cap = 1 then some ⟨b, off, none⟩ else some ⟨b, off + 1, none⟩) (n.length - 1) (cap - 1)) (n.drop 1) := by
  obtain ⟨a', cap', e, q1, q2, hc, hr⟩ := h
  simp only [Value.slice.injEq, true_and] at e
  obtain ⟨rfl, rfl⟩ := e
  refine ⟨q1, by unfold maxLen at q2; exact q2, _, _, by rw [List.length_drop], by rw [List.length_drop]; omega, by omega, fun i hi => ?_, fun x hx => hr x (List.mem_of_mem_drop hx)⟩
  rw [List.length_drop] at hi
  obtain ⟨b', off', e, c⟩ := hc (1 + i) (by omega)
  simp only [Option.some.injEq, Addr.mk.injEq, and_true] at e
  obtain ⟨rfl, rfl⟩ := e
  refine ⟨b, off + 1, by rw [if_neg (by omega)], ?_⟩
  rw [Nat.add_assoc, c]
  simp [List.getD, Nat.add_comm]
def errF (L : List (List UInt8)) : Int := if numsB L = true ∧ 0 < L.length then 0 else 3
theorem errF_ok {L : List (List UInt8)} (h : numsB L = true) (h1 : 0 < L.length) : errF L = 0 := by unfold errF; rw [if_pos ⟨h, h1⟩]
theorem errF_no {L : List (List UInt8)} (h : ¬ (numsB L = true ∧ 0 < L.length)) : errF L = 3 := by unfold errF; rw [if_neg h]
set_option maxRecDepth 100000 in
set_option maxHeartbeats 2000000 in
theorem desk_readFirst_ok (w : World) (v : Value) (L : List (List UInt8)) (h : IsB w v L) (hs : ∀ l ∈ L, l.length ≤ 1000000000) (h9 : L.length ≤ 1000000) (ht : Tab w) (hq : numsB L = true) (h1 : 0 < L.length) :
    Calls Tryz.prog 74 #[v] w fun e w' => ∃ u, e = .returned (.tuple #[.int .i64 ((smN ((numsL L).getD 0 0) : Nat) : Int), u, .int .i64 0]) ∧ IsU w' u ((numsL L).drop 1) ∧ Below w.heap.size w w' := by
  have c1 := desk_readNumbers w v L h hs h9 ht
  obtain ⟨av, cv, rfl⟩ := h.len
  rw [(numA_ok hq).1, (numA_ok hq).2] at c1
  have hnl := numsL_length L
  have hz : ((L.length : Int) == 0) = false := by rw [beq_eq_false_iff_ne]; omega
  have hop : Hid (∀ (W : World) (u : Value), IsU W u (numsL L) → ∃ b off cap, u = .slice (some ⟨b, off, none⟩) L.length cap ∧ W.cell? ⟨b, off, none⟩ = some (.int .u64 (((numsL L).getD 0 0 : Nat) : Int)) ∧ L.length ≤ cap ∧ cap ≤ 9223372036854775807 ∧ IsU W (.slice (if cap = 1 then some ⟨b, off, none⟩ else some ⟨b, off + 1, none⟩) (L.length - 1) (cap - 1)) ((numsL L).drop 1)) := fun W u hU => by
    obtain ⟨b, off, cap, e, hc⟩ := one_cell hU (by omega)
    subst e
    have hbe := isU_behind hU (by omega)
    rw [hnl] at hbe
    exact ⟨b, off, cap, by rw [hnl], hc, hbe⟩
  have cC := fun (W : World) => desk_count ((numsL L).getD 0 0) (range_getD (numsL_rng L) 0) W
  have hone : (L.length : Int) - 1 = ((L.length - 1 : Nat) : Int) := by omega
  clear h hs hq hnl
  generalize smN ((numsL L).getD 0 0) = c at *
  generalize (numsL L).getD 0 0 = x at *
  generalize hdr : (numsL L).drop 1 = B at *
  replace hdr : Hid _ := hdr
  generalize numsL L = A at *
  generalize L.length = m at *
  go_enter Tryz.func74, Tryz.ntmps74
  go_wp2_with (go_at_call 58; refine Calls.mono c1 ?_; rintro e w1 ⟨u, rfl, hU, hb⟩; clear c1; obtain ⟨b, off, cap, rfl, k0, q1, q2, hT⟩ := hop.out _ _ hU; clear hU hop)
  by_cases hcc : cap = 1
  · subst hcc
    obtain rfl : m = 1 := by omega
    rw [if_pos rfl, Nat.sub_self] at hT
    replace hT : Hid _ := hT
    clear q1 q2
    go_quiet (first | (go_at_call 63; exact Calls.quiet_of_same (cC _)))
    go_wp2
    go_ret3
    exact ⟨_, rfl, IsU.below hT.out (below_drewN (Below.refl _ _) _), below_drewN hb _⟩
  · rw [if_neg hcc] at hT
    replace hT : Hid _ := hT
    go_quiet (first | (go_at_call 63; exact Calls.quiet_of_same (cC _)))
    go_wp2
    go_ret3
    exact ⟨_, rfl, IsU.below hT.out (below_drewN (Below.refl _ _) _), below_drewN hb _⟩
set_option maxRecDepth 100000 in
set_option maxHeartbeats 2000000 in
theorem desk_readFirst_no (w : World) (v : Value) (L : List (List UInt8)) (h : IsB w v L) (hs : ∀ l ∈ L, l.length ≤ 1000000000) (h9 : L.length ≤ 1000000) (ht : Tab w) (hq : ¬ (numsB L = true ∧ 0 < L.length)) :
    Calls Tryz.prog 74 #[v] w fun e w' => e = .returned (.tuple #[.int .i64 0, .slice none 0 0, .int .i64 3]) ∧ Below w.heap.size w w' := by
  have c1 := desk_readNumbers w v L h hs h9 ht
  obtain ⟨av, cv, rfl⟩ := h.len
  cases q : numsB L with
  | false =>
    rw [(numA_no q).2] at c1
    clear h hs hq q
    generalize numA L = A at *
    go_enter Tryz.func74, Tryz.ntmps74
    go_wp2_with (go_at_call 58; refine Calls.mono c1 ?_; rintro e w1 ⟨u, rfl, hU, hb⟩; clear c1)
    go_ret3
    exact ⟨rfl, hb⟩
  | true =>
    rw [(numA_ok q).1, (numA_ok q).2] at c1
    have hl : L.length = 0 := by
      rcases Nat.eq_zero_or_pos L.length with e | e
      · exact e
      · exact absurd ⟨q, e⟩ hq
    obtain rfl := List.eq_nil_of_length_eq_zero hl
    have hop : Hid (∀ (W : World) (u : Value), IsU W u (numsL []) → ∃ a cap, u = .slice a 0 cap) := fun W u hU => isU_len hU
    clear h hs hq q hl
    generalize numsL [] = A at *
    rw [List.length_nil]
    go_enter Tryz.func74, Tryz.ntmps74
    go_wp2_with (go_at_call 58; refine Calls.mono c1 ?_; rintro e w1 ⟨u, rfl, hU, hb⟩; clear c1; obtain ⟨a, cap, rfl⟩ := hop.out _ _ hU; clear hU hop)
    go_ret3
    exact ⟨rfl, hb⟩

end Go.Proofs.YtmggccepmicjhagGreatDoor
