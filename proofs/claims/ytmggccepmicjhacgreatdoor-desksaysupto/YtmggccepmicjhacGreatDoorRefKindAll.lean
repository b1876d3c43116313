/-
  Texts that stood one behind the other, as one.
-/
import Derived.Test.YtmggccepmicjhacGreatDoorRefAns3All
import Derived.Test.YtmggccepmicjhacGreatDoorDkIAll
/-! What kind of package goldref answers; all answers of answer together. -/
namespace Go.Proofs.YtmggccepmicjhacGreatDoor
open Go.RowKit

set_option maxRecDepth 100000 in
set_option maxHeartbeats 4000000 in
theorem ref_kind_plan (w : World) : Calls Tryz.prog 35 #[.string { data := #[112, 108, 97, 110] }] w fun e w' => e = .returned (.string (bs (kdV [112, 108, 97, 110]))) ∧ w' = w := by
  have e : kdV [112, 108, 97, 110] = [112, 108, 97, 110, 32, 115, 104, 97, 114, 101] := by decide
  rw [e]
  go_enter Tryz.func35, Tryz.ntmps35
  go_wp2
  go_ret
  exact ⟨rfl, rfl⟩
set_option maxRecDepth 100000 in
set_option maxHeartbeats 4000000 in
theorem ref_kind_share (w : World) : Calls Tryz.prog 35 #[.string { data := #[115, 104, 97, 114, 101] }] w fun e w' => e = .returned (.string (bs (kdV [115, 104, 97, 114, 101]))) ∧ w' = w := by
  have e : kdV [115, 104, 97, 114, 101] = [112, 108, 97, 110, 32, 115, 104, 97, 114, 101] := by decide
  rw [e]
  go_enter Tryz.func35, Tryz.ntmps35
  go_wp2
  go_ret
  exact ⟨rfl, rfl⟩
set_option maxRecDepth 100000 in
set_option maxHeartbeats 4000000 in
theorem ref_kind_inv (w : World) : Calls Tryz.prog 35 #[.string { data := #[105, 110, 118] }] w fun e w' => e = .returned (.string (bs (kdV [105, 110, 118]))) ∧ w' = w := by
  have e : kdV [105, 110, 118] = [105, 110, 118, 32, 114, 111, 111, 116] := by decide
  rw [e]
  go_enter Tryz.func35, Tryz.ntmps35
  go_wp2
  go_ret
  exact ⟨rfl, rfl⟩
set_option maxRecDepth 100000 in
set_option maxHeartbeats 4000000 in
theorem ref_kind_root (w : World) : Calls Tryz.prog 35 #[.string { data := #[114, 111, 111, 116] }] w fun e w' => e = .returned (.string (bs (kdV [114, 111, 111, 116]))) ∧ w' = w := by
  have e : kdV [114, 111, 111, 116] = [105, 110, 118, 32, 114, 111, 111, 116] := by decide
  rw [e]
  go_enter Tryz.func35, Tryz.ntmps35
  go_wp2
  go_ret
  exact ⟨rfl, rfl⟩
set_option maxRecDepth 100000 in
set_option maxHeartbeats 4000000 in
theorem ref_kind_add (w : World) : Calls Tryz.prog 35 #[.string { data := #[97, 100, 100] }] w fun e w' => e = .returned (.string (bs (kdV [97, 100, 100]))) ∧ w' = w := by
  have e : kdV [97, 100, 100] = [97, 100, 100, 32, 115, 117, 98, 32, 109, 117, 108, 32, 112, 111, 119] := by decide
  rw [e]
  go_enter Tryz.func35, Tryz.ntmps35
  go_wp2
  go_ret
  exact ⟨rfl, rfl⟩
set_option maxRecDepth 100000 in
set_option maxHeartbeats 4000000 in
theorem ref_kind_sub (w : World) : Calls Tryz.prog 35 #[.string { data := #[115, 117, 98] }] w fun e w' => e = .returned (.string (bs (kdV [115, 117, 98]))) ∧ w' = w := by
  have e : kdV [115, 117, 98] = [97, 100, 100, 32, 115, 117, 98, 32, 109, 117, 108, 32, 112, 111, 119] := by decide
  rw [e]
  go_enter Tryz.func35, Tryz.ntmps35
  go_wp2
  go_ret
  exact ⟨rfl, rfl⟩
set_option maxRecDepth 100000 in
set_option maxHeartbeats 4000000 in
theorem ref_kind_mul (w : World) : Calls Tryz.prog 35 #[.string { data := #[109, 117, 108] }] w fun e w' => e = .returned (.string (bs (kdV [109, 117, 108]))) ∧ w' = w := by
  have e : kdV [109, 117, 108] = [97, 100, 100, 32, 115, 117, 98, 32, 109, 117, 108, 32, 112, 111, 119] := by decide
  rw [e]
  go_enter Tryz.func35, Tryz.ntmps35
  go_wp2
  go_ret
  exact ⟨rfl, rfl⟩
set_option maxRecDepth 100000 in
set_option maxHeartbeats 4000000 in
theorem ref_kind_pow (w : World) : Calls Tryz.prog 35 #[.string { data := #[112, 111, 119] }] w fun e w' => e = .returned (.string (bs (kdV [112, 111, 119]))) ∧ w' = w := by
  have e : kdV [112, 111, 119] = [97, 100, 100, 32, 115, 117, 98, 32, 109, 117, 108, 32, 112, 111, 119] := by decide
  rw [e]
  go_enter Tryz.func35, Tryz.ntmps35
  go_wp2
  go_ret
  exact ⟨rfl, rfl⟩
set_option maxRecDepth 100000 in
set_option maxHeartbeats 4000000 in
theorem ref_kind_no (w : World) (verb : List UInt8) (k0 : verb ≠ [112, 108, 97, 110]) (k1 : verb ≠ [115, 104, 97, 114, 101]) (k2 : verb ≠ [105, 110, 118]) (k3 : verb ≠ [114, 111, 111, 116]) (k4 : verb ≠ [97, 100, 100]) (k5 : verb ≠ [115, 117, 98]) (k6 : verb ≠ [109, 117, 108]) (k7 : verb ≠ [112, 111, 119]) :
    Calls Tryz.prog 35 #[.string (bs verb)] w fun e w' => e = .returned (.string (bs (kdV verb))) ∧ w' = w := by
  have e : kdV verb = verb := by
    unfold kdV
    rw [if_neg (fun q => q.elim k0 k1), if_neg (fun q => q.elim k2 k3), if_neg (fun q => q.elim k4 (fun q => q.elim k5 (fun q => q.elim k6 k7)))]
  rw [e]
  have hb := bs_list verb
  have g0 : ((bs verb).toList == [112, 108, 97, 110]) = false := by rw [hb, beq_eq_false_iff_ne]; exact k0
  have g1 : ((bs verb).toList == [115, 104, 97, 114, 101]) = false := by rw [hb, beq_eq_false_iff_ne]; exact k1
  have g2 : ((bs verb).toList == [105, 110, 118]) = false := by rw [hb, beq_eq_false_iff_ne]; exact k2
  have g3 : ((bs verb).toList == [114, 111, 111, 116]) = false := by rw [hb, beq_eq_false_iff_ne]; exact k3
  have g4 : ((bs verb).toList == [97, 100, 100]) = false := by rw [hb, beq_eq_false_iff_ne]; exact k4
  have g5 : ((bs verb).toList == [115, 117, 98]) = false := by rw [hb, beq_eq_false_iff_ne]; exact k5
  have g6 : ((bs verb).toList == [109, 117, 108]) = false := by rw [hb, beq_eq_false_iff_ne]; exact k6
  have g7 : ((bs verb).toList == [112, 111, 119]) = false := by rw [hb, beq_eq_false_iff_ne]; exact k7
  clear hb e k0 k1 k2 k3 k4 k5 k6 k7
  generalize bs verb = S at *
  go_enter Tryz.func35, Tryz.ntmps35
  go_wp2
  go_ret
  exact ⟨rfl, rfl⟩
theorem ref_kind (w : World) (verb : List UInt8) : Calls Tryz.prog 35 #[.string (bs verb)] w fun e w' => e = .returned (.string (bs (kdV verb))) ∧ w' = w := by
  by_cases k0 : verb = [112, 108, 97, 110]
  · subst k0
    exact ref_kind_plan w
  by_cases k1 : verb = [115, 104, 97, 114, 101]
  · subst k1
    exact ref_kind_share w
  by_cases k2 : verb = [105, 110, 118]
  · subst k2
    exact ref_kind_inv w
  by_cases k3 : verb = [114, 111, 111, 116]
  · subst k3
    exact ref_kind_root w
  by_cases k4 : verb = [97, 100, 100]
  · subst k4
    exact ref_kind_add w
  by_cases k5 : verb = [115, 117, 98]
  · subst k5
    exact ref_kind_sub w
  by_cases k6 : verb = [109, 117, 108]
  · subst k6
    exact ref_kind_mul w
  by_cases k7 : verb = [112, 111, 119]
  · subst k7
    exact ref_kind_pow w
  exact ref_kind_no w verb k0 k1 k2 k3 k4 k5 k6 k7
/-- All answers. -/
theorem ref_answer (w : World) (v : Value) (verb : List UInt8) (n : List Nat) (h : IsU w v n) (hc : CntK verb n.length) (h9 : n.length ≤ 1000000) (ht : Tab w) :
    Calls Tryz.prog 36 #[.string (bs verb), v] w fun e w' => e = .returned (.string (bs (ansV verb n))) ∧ Below w.heap.size w w' := by
  by_cases k0 : verb = [97, 100, 100]
  · subst k0
    have e : cntV [97, 100, 100] = 2 := by decide
    have hl : n.length = 2 := by have := hc.2 (by rw [e]; decide); rw [e] at this; omega
    exact ref_answer_add w v n h hl ht
  by_cases k1 : verb = [115, 117, 98]
  · subst k1
    have e : cntV [115, 117, 98] = 2 := by decide
    have hl : n.length = 2 := by have := hc.2 (by rw [e]; decide); rw [e] at this; omega
    exact ref_answer_sub w v n h hl ht
  by_cases k2 : verb = [109, 117, 108]
  · subst k2
    have e : cntV [109, 117, 108] = 2 := by decide
    have hl : n.length = 2 := by have := hc.2 (by rw [e]; decide); rw [e] at this; omega
    exact ref_answer_mul w v n h hl ht
  by_cases k3 : verb = [112, 111, 119]
  · subst k3
    have e : cntV [112, 111, 119] = 2 := by decide
    have hl : n.length = 2 := by have := hc.2 (by rw [e]; decide); rw [e] at this; omega
    exact ref_answer_pow w v n h hl ht
  by_cases k4 : verb = [105, 110, 118]
  · subst k4
    have e : cntV [105, 110, 118] = 1 := by decide
    have hl : n.length = 1 := by have := hc.2 (by rw [e]; decide); rw [e] at this; omega
    exact ref_answer_inv w v n h hl ht
  by_cases k5 : verb = [114, 111, 111, 116]
  · subst k5
    have e : cntV [114, 111, 111, 116] = 1 := by decide
    have hl : n.length = 1 := by have := hc.2 (by rw [e]; decide); rw [e] at this; omega
    exact ref_answer_root w v n h hl ht
  by_cases k6 : verb = [110, 116, 116]
  · subst k6
    exact ref_answer_ntt w v n h h9 ht
  by_cases k7 : verb = [98, 97, 99, 107]
  · subst k7
    exact ref_answer_back w v n h h9 ht
  by_cases k8 : verb = [112, 108, 97, 110]
  · subst k8
    have e : cntV [112, 108, 97, 110] = 0 := by decide
    exact ref_answer_plan w v n h (hc.1 e) h9 ht
  by_cases k9 : verb = [115, 104, 97, 114, 101]
  · subst k9
    have e : cntV [115, 104, 97, 114, 101] = 0 := by decide
    exact ref_answer_share w v n h (hc.1 e) h9 ht
  exact ref_answer_no w v verb n h ⟨k0, k1, k2, k3, k4, k5, k6, k7, k8, k9⟩ ht

end Go.Proofs.YtmggccepmicjhacGreatDoor

/-! What line of package goldref answers where numbers alone stand behind the verb. -/
namespace Go.Proofs.YtmggccepmicjhacGreatDoor
open Go.RowKit

theorem isB_kds (w : World) : IsB (w.alloc (.cells #[.string { data := #[112, 108, 97, 110, 32, 115, 104, 97, 114, 101] }, .string { data := #[105, 110, 118, 32, 114, 111, 111, 116] }, .string { data := #[97, 100, 100, 32, 115, 117, 98, 32, 109, 117, 108, 32, 112, 111, 119] }] 9)) (.slice (some ⟨w.heap.size, 0, none⟩) 3 3) kds := by
  refine ⟨_, 3, rfl, Nat.le_refl _, by unfold maxLen; omega, fun i hi => ⟨w.heap.size, 0, rfl, ?_⟩⟩
  rw [Nat.zero_add, World.cell?_alloc_at _ _ _ _ rfl]
  match i, hi with
  | 0, _ => rfl
  | 1, _ => rfl
  | 2, _ => rfl
theorem cntV_cases (verb : List UInt8) : cntV verb = 0 ∨ cntV verb = 1 ∨ cntV verb = 2 ∨ cntV verb = -1 := by
  unfold cntV
  split
  · exact .inl rfl
  · split
    · exact .inr (.inl rfl)
    · split
      · exact .inr (.inr (.inl rfl))
      · exact .inr (.inr (.inr rfl))
theorem isU_form {w : World} {v : Value} {l : List Nat} (h : IsU w v l) : ∃ a cap, v = .slice a l.length cap := by
  obtain ⟨a, cap, e, _⟩ := h
  exact ⟨a, cap, e⟩
open Classical in
set_option maxRecDepth 100000 in
set_option maxHeartbeats 4000000 in
theorem ref_line_num (w : World) (v : Value) (verb : List UInt8) (W : List (List UInt8)) (h : IsB w v W) (hs : ∀ l ∈ W, l.length ≤ 1000000000) (h9 : W.length ≤ 1000000) (hn : NoL verb) (hbl : (32 : UInt8) ∉ verb) (ht : Tab w) :
    Calls Tryz.prog 16 #[.string (bs verb), v] w fun e w' => e = .returned (.string (bs (linV verb W))) ∧ Below w.heap.size w w' := by
  rw [linV_num hn]
  obtain ⟨k0, k1, k2, k3⟩ := hn
  have hb := bs_list verb
  have g0 : ((bs verb).toList == [99, 121, 99, 108, 105, 99]) = false := by rw [hb, beq_eq_false_iff_ne]; exact k0
  have g1 : ((bs verb).toList == [108, 105, 110, 101, 97, 114]) = false := by rw [hb, beq_eq_false_iff_ne]; exact k1
  have g2 : ((bs verb).toList == [115, 117, 109]) = false := by rw [hb, beq_eq_false_iff_ne]; exact k2
  have g3 : ((bs verb).toList == [116, 105, 109, 101, 115]) = false := by rw [hb, beq_eq_false_iff_ne]; exact k3
  have cN := ref_numbers w v W h hs (by omega) ht
  have cK := fun W => ref_kind W verb
  have hV : Hid (numV verb W = if numsB W = true ∧ CntK verb W.length then ansV verb (numsL W) else wrg 3) := rfl
  have cW : ∀ (W1 : World) o, Below w.heap.size w W1 → Calls Tryz.prog 26 #[.int .i64 3] (W1.alloc o) fun e w' => e = .returned (.string (bs (wrg 3))) ∧ Below w.heap.size w w' := fun W1 o hb1 => by
    have hb2 : Below w.heap.size w (W1.alloc o) := hb1.trans ((below_alloc1 _ _).mono hb1.size)
    refine (ref_wrong 3 (by decide) (by decide) _ (ht.below hb2)).mono ?_
    rintro e w' ⟨rfl, hb3⟩
    exact ⟨rfl, hb2.trans (hb3.mono hb2.size)⟩
  have cX : ∀ W1 : World, Calls Tryz.prog 25 #[.slice (some ⟨W1.heap.size, 0, none⟩) 3 3, .string (bs (kdV verb))] (W1.alloc (.cells #[.string { data := #[112, 108, 97, 110, 32, 115, 104, 97, 114, 101] }, .string { data := #[105, 110, 118, 32, 114, 111, 111, 116] }, .string { data := #[97, 100, 100, 32, 115, 117, 98, 32, 109, 117, 108, 32, 112, 111, 119] }] 9)) fun e w' => e = .returned (.int .i64 (cntV verb)) ∧ w' = W1.alloc (.cells #[.string { data := #[112, 108, 97, 110, 32, 115, 104, 97, 114, 101] }, .string { data := #[105, 110, 118, 32, 114, 111, 111, 116] }, .string { data := #[97, 100, 100, 32, 115, 117, 98, 32, 109, 117, 108, 32, 112, 111, 119] }] 9) := fun W1 => by
    have := slices_IndexT _ _ kds (kdV verb) (isB_kds W1)
    rw [ixV_kd hbl] at this
    exact this
  have cA0 : CntK verb W.length → ∀ (W1 : World) o u, Below w.heap.size w W1 → IsU W1 u (numsL W) → Calls Tryz.prog 36 #[.string (bs verb), u] (W1.alloc o) fun e w' => e = .returned (.string (bs (ansV verb (numsL W)))) ∧ Below w.heap.size w w' := fun hc W1 o u hb1 hU => by
    have hb2 : Below w.heap.size w (W1.alloc o) := hb1.trans ((below_alloc1 _ _).mono hb1.size)
    have hl : (numsL W).length = W.length := by simp [numsL]
    refine (ref_answer _ u verb (numsL W) (hU.below (below_alloc1 _ _)) (by rw [hl]; exact hc) (by rw [hl]; exact h9) (ht.below hb2)).mono ?_
    rintro e w' ⟨rfl, hb3⟩
    exact ⟨rfl, hb2.trans (hb3.mono hb2.size)⟩
  have hlen : (numsL W).length = W.length := by simp [numsL]
  obtain ⟨a0, cap0, rfl⟩ := h.len
  clear h hs hb k0 k1 k2 k3 hbl
  have hcs := cntV_cases verb
  cases hq : numsB W with
  | false =>
    have hR : numV verb W = wrg 3 := by rw [hV.out, if_neg (fun q => by rw [hq] at q; exact absurd q.1 (by decide))]
    rw [hR]
    rw [hq] at cN
    have hA : numA W = [] := by unfold numA; rw [if_neg (by rw [hq]; decide)]
    rw [hA] at cN
    clear hR hV hA cA0 hlen hq hcs h9
    generalize wrg 3 = R at *
    generalize cntV verb = c at *
    generalize bs (kdV verb) = K at *
    generalize bs verb = S at *
    generalize W.length = m at *
    go_enter Tryz.func16, Tryz.ntmps16
    go_wp2_with (first
      | (go_at_call 27; refine Calls.mono cN ?_; rintro e w1 ⟨u, rfl, hU, hB1⟩; obtain ⟨a1, cap1, e1⟩ := isU_form hU; subst e1; clear cN)
      | (go_at_call 35; refine Calls.mono (cK _) ?_; rintro e w' ⟨rfl, hw⟩; rw [hw]; clear hw)
      | (go_at_call 25; refine Calls.mono (cX _) ?_; rintro e w' ⟨rfl, hw⟩; rw [hw]; clear hw)
      | (go_at_call 26; refine Calls.mono (cW _ _ hB1) ?_; rintro e w2 ⟨rfl, hB⟩))
    go_ret
    exact ⟨rfl, hB⟩
  | true =>
    rw [hq] at cN
    have hA : numA W = numsL W := by unfold numA; rw [if_pos hq]
    rw [hA] at cN
    clear hA
    rcases hcs with hc | hc | hc | hc
    · by_cases hm : W.length = 0
      · have hR : numV verb W = wrg 3 := by
          rw [hV.out, if_neg (fun q => ?_)]
          exact absurd (q.2.1 hc) (by omega)
        rw [hR]
        clear hR
        rw [hc] at cX
        have hm1 : (((numsL W).length : Int) == 0) = true := by rw [hlen, hm]; rfl
        have hlen0 := hlen
        clear hlen hm
        clear hV hq cA0 hlen0 h9 hc
        generalize wrg 3 = R at *
        generalize numsL W = ns at *
        generalize bs (kdV verb) = K at *
        generalize bs verb = S at *
        generalize W.length = m0 at *
        go_enter Tryz.func16, Tryz.ntmps16
        go_wp2_with (first
          | (go_at_call 27; refine Calls.mono cN ?_; rintro e w1 ⟨u, rfl, hU, hB1⟩; obtain ⟨a1, cap1, e1⟩ := isU_form hU; subst e1; clear cN)
          | (go_at_call 35; refine Calls.mono (cK _) ?_; rintro e w' ⟨rfl, hw⟩; rw [hw]; clear hw)
          | (go_at_call 25; refine Calls.mono (cX _) ?_; rintro e w' ⟨rfl, hw⟩; rw [hw]; clear hw)
          | (go_at_call 26; refine Calls.mono (cW _ _ hB1) ?_; rintro e w2 ⟨rfl, hB⟩))
        go_ret
        exact ⟨rfl, hB⟩
      · have hC : CntK verb W.length := ⟨fun q => by omega, fun q => by rw [hc] at q; exact absurd q (by decide)⟩
        have hR : numV verb W = ansV verb (numsL W) := by rw [hV.out, if_pos ⟨hq, hC⟩]
        rw [hR]
        have cA := cA0 hC
        clear hC hR
        rw [hc] at cX
        have hm1 : (((numsL W).length : Int) == 0) = false := by rw [hlen, beq_eq_false_iff_ne]; omega
        have hlen0 := hlen
        clear hlen hm
        clear hV hq cA0 hlen0 h9 hc
        generalize ansV verb (numsL W) = R at *
        generalize numsL W = ns at *
        generalize bs (kdV verb) = K at *
        generalize bs verb = S at *
        generalize W.length = m0 at *
        go_enter Tryz.func16, Tryz.ntmps16
        go_wp2_with (first
          | (go_at_call 27; refine Calls.mono cN ?_; rintro e w1 ⟨u, rfl, hU, hB1⟩; obtain ⟨a1, cap1, e1⟩ := isU_form hU; subst e1; clear cN)
          | (go_at_call 35; refine Calls.mono (cK _) ?_; rintro e w' ⟨rfl, hw⟩; rw [hw]; clear hw)
          | (go_at_call 25; refine Calls.mono (cX _) ?_; rintro e w' ⟨rfl, hw⟩; rw [hw]; clear hw)
          | (go_at_call 36; refine Calls.mono (cA _ _ _ hB1 hU) ?_; rintro e w2 ⟨rfl, hB⟩))
        go_ret
        exact ⟨rfl, hB⟩
    · by_cases hm : W.length = 1
      · have hC : CntK verb W.length := ⟨fun q => by rw [hc] at q; exact absurd q (by decide), fun q => by rw [hc, hm]; rfl⟩
        have hR : numV verb W = ansV verb (numsL W) := by rw [hV.out, if_pos ⟨hq, hC⟩]
        rw [hR]
        have cA := cA0 hC
        clear hC hR
        rw [hc] at cX
        have hm1 : (((numsL W).length : Int) != 1) = false := by rw [hlen, hm]; rfl
        have hlen0 := hlen
        clear hlen hm
        clear hV hq cA0 hlen0 h9 hc
        generalize ansV verb (numsL W) = R at *
        generalize numsL W = ns at *
        generalize bs (kdV verb) = K at *
        generalize bs verb = S at *
        generalize W.length = m0 at *
        go_enter Tryz.func16, Tryz.ntmps16
        go_wp2_with (first
          | (go_at_call 27; refine Calls.mono cN ?_; rintro e w1 ⟨u, rfl, hU, hB1⟩; obtain ⟨a1, cap1, e1⟩ := isU_form hU; subst e1; clear cN)
          | (go_at_call 35; refine Calls.mono (cK _) ?_; rintro e w' ⟨rfl, hw⟩; rw [hw]; clear hw)
          | (go_at_call 25; refine Calls.mono (cX _) ?_; rintro e w' ⟨rfl, hw⟩; rw [hw]; clear hw)
          | (go_at_call 36; refine Calls.mono (cA _ _ _ hB1 hU) ?_; rintro e w2 ⟨rfl, hB⟩))
        go_ret
        exact ⟨rfl, hB⟩
      · have hR : numV verb W = wrg 3 := by
          rw [hV.out, if_neg (fun q => ?_)]
          exact hm (by have := q.2.2 (by rw [hc]; decide); rw [hc] at this; omega)
        rw [hR]
        clear hR
        rw [hc] at cX
        have hm1 : (((numsL W).length : Int) != 1) = true := by
          rw [hlen, bne_iff_ne]
          omega
        have hlen0 := hlen
        clear hlen hm
        clear hV hq cA0 hlen0 h9 hc
        generalize wrg 3 = R at *
        generalize numsL W = ns at *
        generalize bs (kdV verb) = K at *
        generalize bs verb = S at *
        generalize W.length = m0 at *
        go_enter Tryz.func16, Tryz.ntmps16
        go_wp2_with (first
          | (go_at_call 27; refine Calls.mono cN ?_; rintro e w1 ⟨u, rfl, hU, hB1⟩; obtain ⟨a1, cap1, e1⟩ := isU_form hU; subst e1; clear cN)
          | (go_at_call 35; refine Calls.mono (cK _) ?_; rintro e w' ⟨rfl, hw⟩; rw [hw]; clear hw)
          | (go_at_call 25; refine Calls.mono (cX _) ?_; rintro e w' ⟨rfl, hw⟩; rw [hw]; clear hw)
          | (go_at_call 26; refine Calls.mono (cW _ _ hB1) ?_; rintro e w2 ⟨rfl, hB⟩))
        go_ret
        exact ⟨rfl, hB⟩
    · by_cases hm : W.length = 2
      · have hC : CntK verb W.length := ⟨fun q => by rw [hc] at q; exact absurd q (by decide), fun q => by rw [hc, hm]; rfl⟩
        have hR : numV verb W = ansV verb (numsL W) := by rw [hV.out, if_pos ⟨hq, hC⟩]
        rw [hR]
        have cA := cA0 hC
        clear hC hR
        rw [hc] at cX
        have hm1 : (((numsL W).length : Int) != 2) = false := by rw [hlen, hm]; rfl
        have hlen0 := hlen
        clear hlen hm
        clear hV hq cA0 hlen0 h9 hc
        generalize ansV verb (numsL W) = R at *
        generalize numsL W = ns at *
        generalize bs (kdV verb) = K at *
        generalize bs verb = S at *
        generalize W.length = m0 at *
        go_enter Tryz.func16, Tryz.ntmps16
        go_wp2_with (first
          | (go_at_call 27; refine Calls.mono cN ?_; rintro e w1 ⟨u, rfl, hU, hB1⟩; obtain ⟨a1, cap1, e1⟩ := isU_form hU; subst e1; clear cN)
          | (go_at_call 35; refine Calls.mono (cK _) ?_; rintro e w' ⟨rfl, hw⟩; rw [hw]; clear hw)
          | (go_at_call 25; refine Calls.mono (cX _) ?_; rintro e w' ⟨rfl, hw⟩; rw [hw]; clear hw)
          | (go_at_call 36; refine Calls.mono (cA _ _ _ hB1 hU) ?_; rintro e w2 ⟨rfl, hB⟩))
        go_ret
        exact ⟨rfl, hB⟩
      · have hR : numV verb W = wrg 3 := by
          rw [hV.out, if_neg (fun q => ?_)]
          exact hm (by have := q.2.2 (by rw [hc]; decide); rw [hc] at this; omega)
        rw [hR]
        clear hR
        rw [hc] at cX
        have hm1 : (((numsL W).length : Int) != 2) = true := by
          rw [hlen, bne_iff_ne]
          omega
        have hlen0 := hlen
        clear hlen hm
        clear hV hq cA0 hlen0 h9 hc
        generalize wrg 3 = R at *
        generalize numsL W = ns at *
        generalize bs (kdV verb) = K at *
        generalize bs verb = S at *
        generalize W.length = m0 at *
        go_enter Tryz.func16, Tryz.ntmps16
        go_wp2_with (first
          | (go_at_call 27; refine Calls.mono cN ?_; rintro e w1 ⟨u, rfl, hU, hB1⟩; obtain ⟨a1, cap1, e1⟩ := isU_form hU; subst e1; clear cN)
          | (go_at_call 35; refine Calls.mono (cK _) ?_; rintro e w' ⟨rfl, hw⟩; rw [hw]; clear hw)
          | (go_at_call 25; refine Calls.mono (cX _) ?_; rintro e w' ⟨rfl, hw⟩; rw [hw]; clear hw)
          | (go_at_call 26; refine Calls.mono (cW _ _ hB1) ?_; rintro e w2 ⟨rfl, hB⟩))
        go_ret
        exact ⟨rfl, hB⟩
    · have hm : True := trivial
      have hC : CntK verb W.length := ⟨fun q => by rw [hc] at q; exact absurd q (by decide), fun q => by rw [hc] at q; exact absurd q (by decide)⟩
      have hR : numV verb W = ansV verb (numsL W) := by rw [hV.out, if_pos ⟨hq, hC⟩]
      rw [hR]
      have cA := cA0 hC
      clear hC hR
      rw [hc] at cX
      have hlen0 := hlen
      clear hlen hm
      clear hV hq cA0 hlen0 h9 hc
      generalize ansV verb (numsL W) = R at *
      generalize numsL W = ns at *
      generalize bs (kdV verb) = K at *
      generalize bs verb = S at *
      generalize W.length = m0 at *
      go_enter Tryz.func16, Tryz.ntmps16
      go_wp2_with (first
        | (go_at_call 27; refine Calls.mono cN ?_; rintro e w1 ⟨u, rfl, hU, hB1⟩; obtain ⟨a1, cap1, e1⟩ := isU_form hU; subst e1; clear cN)
        | (go_at_call 35; refine Calls.mono (cK _) ?_; rintro e w' ⟨rfl, hw⟩; rw [hw]; clear hw)
        | (go_at_call 25; refine Calls.mono (cX _) ?_; rintro e w' ⟨rfl, hw⟩; rw [hw]; clear hw)
        | (go_at_call 36; refine Calls.mono (cA _ _ _ hB1 hU) ?_; rintro e w2 ⟨rfl, hB⟩))
      go_ret
      exact ⟨rfl, hB⟩

end Go.Proofs.YtmggccepmicjhacGreatDoor
