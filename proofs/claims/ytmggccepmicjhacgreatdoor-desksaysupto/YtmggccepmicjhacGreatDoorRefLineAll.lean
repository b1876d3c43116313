/-
  Texts that stood one behind the other, as one.
-/
import Derived.Test.YtmggccepmicjhacGreatDoorBigCAll
import Derived.Test.YtmggccepmicjhacGreatDoorPlanVAll
import Derived.Test.YtmggccepmicjhacGreatDoorSlRowAll
import Derived.BigQuiet
/-! What line of package goldref answers where numbers alone stand behind the verb. -/
namespace Go.Proofs.YtmggccepmicjhacGreatDoor
open Go.RowKit
set_option maxRecDepth 100000

theorem isB_kds (w : World) : IsB (w.alloc (.cells #[.string { data := #[112, 108, 97, 110, 32, 115, 104, 97, 114, 101] }, .string { data := #[105, 110, 118, 32, 114, 111, 111, 116] }, .string { data := #[97, 100, 100, 32, 115, 117, 98, 32, 109, 117, 108, 32, 112, 111, 119] }] 9)) (.slice (some ⟨w.heap.size, 0, none⟩) 3 3) kds := by
  refine ⟨_, 3, rfl, Nat.le_refl _, by unfold maxLen; omega, fun i hi => ⟨w.heap.size, 0, rfl, ?_⟩⟩
  rw [Nat.zero_add, World.cell?_alloc_at _ _ _ _ rfl]
  match i, hi with
  | 0, _ => rfl
  | 1, _ => rfl
  | 2, _ => rfl
theorem cntV_cases (verb : List UInt8) : cntV verb = 0 ∨ cntV verb = 1 ∨ cntV verb = 2 ∨ cntV verb = -1 := by
  unfold cntV
  split
  · exact .inl rfl
  · split
    · exact .inr (.inl rfl)
    · split
      · exact .inr (.inr (.inl rfl))
      · exact .inr (.inr (.inr rfl))
theorem isU_form {w : World} {v : Value} {l : List Nat} (h : IsU w v l) : ∃ a cap, v = .slice a l.length cap := by
  obtain ⟨a, cap, e, _⟩ := h
  exact ⟨a, cap, e⟩
open Classical in
set_option maxRecDepth 100000 in
set_option maxHeartbeats 4000000 in
theorem ref_line_num (w : World) (v : Value) (verb : List UInt8) (W : List (List UInt8)) (h : IsB w v W) (hs : ∀ l ∈ W, l.length ≤ 1000000000) (h9 : W.length ≤ 1000000) (hn : NoL verb) (hbl : (32 : UInt8) ∉ verb) (ht : Tab w) :
    Calls Tryz.prog 16 #[.string (bs verb), v] w fun e w' => e = .returned (.string (bs (linV verb W))) ∧ Below w.heap.size w w' := by
  rw [linV_num hn]
  obtain ⟨k0, k1, k2, k3⟩ := hn
  have hb := bs_list verb
  have g0 : ((bs verb).toList == [99, 121, 99, 108, 105, 99]) = false := by rw [hb, beq_eq_false_iff_ne]; exact k0
  have g1 : ((bs verb).toList == [108, 105, 110, 101, 97, 114]) = false := by rw [hb, beq_eq_false_iff_ne]; exact k1
  have g2 : ((bs verb).toList == [115, 117, 109]) = false := by rw [hb, beq_eq_false_iff_ne]; exact k2
  have g3 : ((bs verb).toList == [116, 105, 109, 101, 115]) = false := by rw [hb, beq_eq_false_iff_ne]; exact k3
  have cN := ref_numbers w v W h hs (by omega) ht
  have cK := fun W => ref_kind W verb
  have hV : Hid (numV verb W = if numsB W = true ∧ CntK verb W.length then ansV verb (numsL W) else wrg 3) := rfl
  have cW : ∀ (W1 : World) o, Below w.heap.size w W1 → Calls Tryz.prog 26 #[.int .i64 3] (W1.alloc o) fun e w' => e = .returned (.string (bs (wrg 3))) ∧ Below w.heap.size w w' := fun W1 o hb1 => by
    have hb2 : Below w.heap.size w (W1.alloc o) := hb1.trans ((below_alloc1 _ _).mono hb1.size)
    refine (ref_wrong 3 (by decide) (by decide) _ (ht.below hb2)).mono ?_
    rintro e w' ⟨rfl, hb3⟩
    exact ⟨rfl, hb2.trans (hb3.mono hb2.size)⟩
  have cX : ∀ W1 : World, Calls Tryz.prog 25 #[.slice (some ⟨W1.heap.size, 0, none⟩) 3 3, .string (bs (kdV verb))] (W1.alloc (.cells #[.string { data := #[112, 108, 97, 110, 32, 115, 104, 97, 114, 101] }, .string { data := #[105, 110, 118, 32, 114, 111, 111, 116] }, .string { data := #[97, 100, 100, 32, 115, 117, 98, 32, 109, 117, 108, 32, 112, 111, 119] }] 9)) fun e w' => e = .returned (.int .i64 (cntV verb)) ∧ w' = W1.alloc (.cells #[.string { data := #[112, 108, 97, 110, 32, 115, 104, 97, 114, 101] }, .string { data := #[105, 110, 118, 32, 114, 111, 111, 116] }, .string { data := #[97, 100, 100, 32, 115, 117, 98, 32, 109, 117, 108, 32, 112, 111, 119] }] 9) := fun W1 => by
    have := slices_IndexT _ _ kds (kdV verb) (isB_kds W1)
    rw [ixV_kd hbl] at this
    exact this
  have cA0 : CntK verb W.length → ∀ (W1 : World) o u, Below w.heap.size w W1 → IsU W1 u (numsL W) → Calls Tryz.prog 36 #[.string (bs verb), u] (W1.alloc o) fun e w' => e = .returned (.string (bs (ansV verb (numsL W)))) ∧ Below w.heap.size w w' := fun hc W1 o u hb1 hU => by
    have hb2 : Below w.heap.size w (W1.alloc o) := hb1.trans ((below_alloc1 _ _).mono hb1.size)
    have hl : (numsL W).length = W.length := by simp [numsL]
    refine (ref_answer _ u verb (numsL W) (hU.below (below_alloc1 _ _)) (by rw [hl]; exact hc) (by rw [hl]; exact h9) (ht.below hb2)).mono ?_
    rintro e w' ⟨rfl, hb3⟩
    exact ⟨rfl, hb2.trans (hb3.mono hb2.size)⟩
  have hlen : (numsL W).length = W.length := by simp [numsL]
  obtain ⟨a0, cap0, rfl⟩ := h.len
  clear h hs hb k0 k1 k2 k3 hbl
  have hcs := cntV_cases verb
  cases hq : numsB W with
  | false =>
    have hR : numV verb W = wrg 3 := by rw [hV.out, if_neg (fun q => by rw [hq] at q; exact absurd q.1 (by decide))]
    rw [hR]
    rw [hq] at cN
    have hA : numA W = [] := by unfold numA; rw [if_neg (by rw [hq]; decide)]
    rw [hA] at cN
    clear hR hV hA cA0 hlen hq hcs h9
    generalize wrg 3 = R at *
    generalize cntV verb = c at *
    generalize bs (kdV verb) = K at *
    generalize bs verb = S at *
    generalize W.length = m at *
    go_enter Tryz.func16, Tryz.ntmps16
    go_wp2_with (first
      | (go_at_call 27; refine Calls.mono cN ?_; rintro e w1 ⟨u, rfl, hU, hB1⟩; obtain ⟨a1, cap1, e1⟩ := isU_form hU; subst e1; clear cN)
      | (go_at_call 35; refine Calls.mono (cK _) ?_; rintro e w' ⟨rfl, hw⟩; rw [hw]; clear hw)
      | (go_at_call 25; refine Calls.mono (cX _) ?_; rintro e w' ⟨rfl, hw⟩; rw [hw]; clear hw)
      | (go_at_call 26; refine Calls.mono (cW _ _ hB1) ?_; rintro e w2 ⟨rfl, hB⟩))
    go_ret
    exact ⟨rfl, hB⟩
  | true =>
    rw [hq] at cN
    have hA : numA W = numsL W := by unfold numA; rw [if_pos hq]
    rw [hA] at cN
    clear hA
    rcases hcs with hc | hc | hc | hc
    · by_cases hm : W.length = 0
      · have hR : numV verb W = wrg 3 := by
          rw [hV.out, if_neg (fun q => ?_)]
          exact absurd (q.2.1 hc) (by omega)
        rw [hR]
        clear hR
        rw [hc] at cX
        have hm1 : (((numsL W).length : Int) == 0) = true := by rw [hlen, hm]; rfl
        have hlen0 := hlen
        clear hlen hm
        clear hV hq cA0 hlen0 h9 hc
        generalize wrg 3 = R at *
        generalize numsL W = ns at *
        generalize bs (kdV verb) = K at *
        generalize bs verb = S at *
        generalize W.length = m0 at *
        go_enter Tryz.func16, Tryz.ntmps16
        go_wp2_with (first
          | (go_at_call 27; refine Calls.mono cN ?_; rintro e w1 ⟨u, rfl, hU, hB1⟩; obtain ⟨a1, cap1, e1⟩ := isU_form hU; subst e1; clear cN)
          | (go_at_call 35; refine Calls.mono (cK _) ?_; rintro e w' ⟨rfl, hw⟩; rw [hw]; clear hw)
          | (go_at_call 25; refine Calls.mono (cX _) ?_; rintro e w' ⟨rfl, hw⟩; rw [hw]; clear hw)
          | (go_at_call 26; refine Calls.mono (cW _ _ hB1) ?_; rintro e w2 ⟨rfl, hB⟩))
        go_ret
        exact ⟨rfl, hB⟩
      · have hC : CntK verb W.length := ⟨fun q => by omega, fun q => by rw [hc] at q; exact absurd q (by decide)⟩
        have hR : numV verb W = ansV verb (numsL W) := by rw [hV.out, if_pos ⟨hq, hC⟩]
        rw [hR]
        have cA := cA0 hC
        clear hC hR
        rw [hc] at cX
        have hm1 : (((numsL W).length : Int) == 0) = false := by rw [hlen, beq_eq_false_iff_ne]; omega
        have hlen0 := hlen
        clear hlen hm
        clear hV hq cA0 hlen0 h9 hc
        generalize ansV verb (numsL W) = R at *
        generalize numsL W = ns at *
        generalize bs (kdV verb) = K at *
        generalize bs verb = S at *
        generalize W.length = m0 at *
        go_enter Tryz.func16, Tryz.ntmps16
        go_wp2_with (first
          | (go_at_call 27; refine Calls.mono cN ?_; rintro e w1 ⟨u, rfl, hU, hB1⟩; obtain ⟨a1, cap1, e1⟩ := isU_form hU; subst e1; clear cN)
          | (go_at_call 35; refine Calls.mono (cK _) ?_; rintro e w' ⟨rfl, hw⟩; rw [hw]; clear hw)
          | (go_at_call 25; refine Calls.mono (cX _) ?_; rintro e w' ⟨rfl, hw⟩; rw [hw]; clear hw)
          | (go_at_call 36; refine Calls.mono (cA _ _ _ hB1 hU) ?_; rintro e w2 ⟨rfl, hB⟩))
        go_ret
        exact ⟨rfl, hB⟩
    · by_cases hm : W.length = 1
      · have hC : CntK verb W.length := ⟨fun q => by rw [hc] at q; exact absurd q (by decide), fun q => by rw [hc, hm]; rfl⟩
        have hR : numV verb W = ansV verb (numsL W) := by rw [hV.out, if_pos ⟨hq, hC⟩]
        rw [hR]
        have cA := cA0 hC
        clear hC hR
        rw [hc] at cX
        have hm1 : (((numsL W).length : Int) != 1) = false := by rw [hlen, hm]; rfl
        have hlen0 := hlen
        clear hlen hm
        clear hV hq cA0 hlen0 h9 hc
        generalize ansV verb (numsL W) = R at *
        generalize numsL W = ns at *
        generalize bs (kdV verb) = K at *
        generalize bs verb = S at *
        generalize W.length = m0 at *
        go_enter Tryz.func16, Tryz.ntmps16
        go_wp2_with (first
          | (go_at_call 27; refine Calls.mono cN ?_; rintro e w1 ⟨u, rfl, hU, hB1⟩; obtain ⟨a1, cap1, e1⟩ := isU_form hU; subst e1; clear cN)
          | (go_at_call 35; refine Calls.mono (cK _) ?_; rintro e w' ⟨rfl, hw⟩; rw [hw]; clear hw)
          | (go_at_call 25; refine Calls.mono (cX _) ?_; rintro e w' ⟨rfl, hw⟩; rw [hw]; clear hw)
          | (go_at_call 36; refine Calls.mono (cA _ _ _ hB1 hU) ?_; rintro e w2 ⟨rfl, hB⟩))
        go_ret
        exact ⟨rfl, hB⟩
      · have hR : numV verb W = wrg 3 := by
          rw [hV.out, if_neg (fun q => ?_)]
          exact hm (by have := q.2.2 (by rw [hc]; decide); rw [hc] at this; omega)
        rw [hR]
        clear hR
        rw [hc] at cX
        have hm1 : (((numsL W).length : Int) != 1) = true := by
          rw [hlen, bne_iff_ne]
          omega
        have hlen0 := hlen
        clear hlen hm
        clear hV hq cA0 hlen0 h9 hc
        generalize wrg 3 = R at *
        generalize numsL W = ns at *
        generalize bs (kdV verb) = K at *
        generalize bs verb = S at *
        generalize W.length = m0 at *
        go_enter Tryz.func16, Tryz.ntmps16
        go_wp2_with (first
          | (go_at_call 27; refine Calls.mono cN ?_; rintro e w1 ⟨u, rfl, hU, hB1⟩; obtain ⟨a1, cap1, e1⟩ := isU_form hU; subst e1; clear cN)
          | (go_at_call 35; refine Calls.mono (cK _) ?_; rintro e w' ⟨rfl, hw⟩; rw [hw]; clear hw)
          | (go_at_call 25; refine Calls.mono (cX _) ?_; rintro e w' ⟨rfl, hw⟩; rw [hw]; clear hw)
          | (go_at_call 26; refine Calls.mono (cW _ _ hB1) ?_; rintro e w2 ⟨rfl, hB⟩))
        go_ret
        exact ⟨rfl, hB⟩
    · by_cases hm : W.length = 2
      · have hC : CntK verb W.length := ⟨fun q => by rw [hc] at q; exact absurd q (by decide), fun q => by rw [hc, hm]; rfl⟩
        have hR : numV verb W = ansV verb (numsL W) := by rw [hV.out, if_pos ⟨hq, hC⟩]
        rw [hR]
        have cA := cA0 hC
        clear hC hR
        rw [hc] at cX
        have hm1 : (((numsL W).length : Int) != 2) = false := by rw [hlen, hm]; rfl
        have hlen0 := hlen
        clear hlen hm
        clear hV hq cA0 hlen0 h9 hc
        generalize ansV verb (numsL W) = R at *
        generalize numsL W = ns at *
        generalize bs (kdV verb) = K at *
        generalize bs verb = S at *
        generalize W.length = m0 at *
        go_enter Tryz.func16, Tryz.ntmps16
        go_wp2_with (first
          | (go_at_call 27; refine Calls.mono cN ?_; rintro e w1 ⟨u, rfl, hU, hB1⟩; obtain ⟨a1, cap1, e1⟩ := isU_form hU; subst e1; clear cN)
          | (go_at_call 35; refine Calls.mono (cK _) ?_; rintro e w' ⟨rfl, hw⟩; rw [hw]; clear hw)
          | (go_at_call 25; refine Calls.mono (cX _) ?_; rintro e w' ⟨rfl, hw⟩; rw [hw]; clear hw)
          | (go_at_call 36; refine Calls.mono (cA _ _ _ hB1 hU) ?_; rintro e w2 ⟨rfl, hB⟩))
        go_ret
        exact ⟨rfl, hB⟩
      · have hR : numV verb W = wrg 3 := by
          rw [hV.out, if_neg (fun q => ?_)]
          exact hm (by have := q.2.2 (by rw [hc]; decide); rw [hc] at this; omega)
        rw [hR]
        clear hR
        rw [hc] at cX
        have hm1 : (((numsL W).length : Int) != 2) = true := by
          rw [hlen, bne_iff_ne]
          omega
        have hlen0 := hlen
        clear hlen hm
        clear hV hq cA0 hlen0 h9 hc
        generalize wrg 3 = R at *
        generalize numsL W = ns at *
        generalize bs (kdV verb) = K at *
        generalize bs verb = S at *
        generalize W.length = m0 at *
        go_enter Tryz.func16, Tryz.ntmps16
        go_wp2_with (first
          | (go_at_call 27; refine Calls.mono cN ?_; rintro e w1 ⟨u, rfl, hU, hB1⟩; obtain ⟨a1, cap1, e1⟩ := isU_form hU; subst e1; clear cN)
          | (go_at_call 35; refine Calls.mono (cK _) ?_; rintro e w' ⟨rfl, hw⟩; rw [hw]; clear hw)
          | (go_at_call 25; refine Calls.mono (cX _) ?_; rintro e w' ⟨rfl, hw⟩; rw [hw]; clear hw)
          | (go_at_call 26; refine Calls.mono (cW _ _ hB1) ?_; rintro e w2 ⟨rfl, hB⟩))
        go_ret
        exact ⟨rfl, hB⟩
    · have hm : True := trivial
      have hC : CntK verb W.length := ⟨fun q => by rw [hc] at q; exact absurd q (by decide), fun q => by rw [hc] at q; exact absurd q (by decide)⟩
      have hR : numV verb W = ansV verb (numsL W) := by rw [hV.out, if_pos ⟨hq, hC⟩]
      rw [hR]
      have cA := cA0 hC
      clear hC hR
      rw [hc] at cX
      have hlen0 := hlen
      clear hlen hm
      clear hV hq cA0 hlen0 h9 hc
      generalize ansV verb (numsL W) = R at *
      generalize numsL W = ns at *
      generalize bs (kdV verb) = K at *
      generalize bs verb = S at *
      generalize W.length = m0 at *
      go_enter Tryz.func16, Tryz.ntmps16
      go_wp2_with (first
        | (go_at_call 27; refine Calls.mono cN ?_; rintro e w1 ⟨u, rfl, hU, hB1⟩; obtain ⟨a1, cap1, e1⟩ := isU_form hU; subst e1; clear cN)
        | (go_at_call 35; refine Calls.mono (cK _) ?_; rintro e w' ⟨rfl, hw⟩; rw [hw]; clear hw)
        | (go_at_call 25; refine Calls.mono (cX _) ?_; rintro e w' ⟨rfl, hw⟩; rw [hw]; clear hw)
        | (go_at_call 36; refine Calls.mono (cA _ _ _ hB1 hU) ?_; rintro e w2 ⟨rfl, hB⟩))
      go_ret
      exact ⟨rfl, hB⟩

end Go.Proofs.YtmggccepmicjhacGreatDoor

/-! What Product of package goldref answers: the product of two polynomials, number by number, in new memory. -/
namespace Go.Proofs.YtmggccepmicjhacGreatDoor
open Go.RowKit
set_option maxRecDepth 100000

/-- The first i summands of number k of a product. -/
def cvK (xs ys : List Nat) (k i : Nat) : Nat := (S i (fun j => cf xs j * cf ys (k - j))).val
theorem cvK_succ (xs ys : List Nat) (k i : Nat) : fA (cvK xs ys k i) (fM (xs.getD i 0) (ys.getD (k - i) 0)) = cvK xs ys k (i + 1) := by
  unfold cvK
  rw [S_succ, fA_val, toF_val, toF_fM]; rfl
theorem cvK_start (xs ys : List Nat) (k : Nat) : cvK xs ys k (k + 1 - ys.length) = 0 := by
  unfold cvK
  rw [S_zeros]
  · rfl
  · intro i hi
    rw [cf_ge (a := ys) (by omega)]; grind
theorem cvK_end (xs ys : List Nat) (k : Nat) : cvK xs ys k (min xs.length (k + 1)) = (conv (cf xs) (cf ys) k).val := by
  unfold cvK conv
  rw [S_more (m := min xs.length (k + 1)) (n := k + 1) (by omega)]
  intro i h1 h2
  rw [cf_ge (a := xs) (by omega)]; grind

set_option maxHeartbeats 2000000 in
theorem ref_Product (w : World) (v v' : Value) (xs ys : List Nat) (h : IsU w v xs) (h' : IsU w v' ys) (hl : xs.length ≤ 30000) (hl' : ys.length ≤ 30000) :
    Calls Tryz.prog 29 #[v, v'] w fun e w' => ∃ u, e = .returned u ∧ IsU w' u (pM xs ys) ∧ Below w.heap.size w w' := by
  obtain ⟨a, cap, rfl, hcap, hmax, hc, hr⟩ := h
  obtain ⟨a', cap', rfl, hcap', hmax', hc', hr'⟩ := h'
  clear hcap hcap' hmax hmax'
  by_cases hz : xs.length = 0 ∨ ys.length = 0
  · have e : pM xs ys = [] := by unfold pM; rw [if_pos hz]
    rw [e]
    clear hc hc' hr hr' e
    by_cases hx : xs.length = 0
    · have hx0' : ((xs.length : Int) == 0) = true := by rw [beq_iff_eq]; omega
      go_enter Tryz.func29, Tryz.ntmps29
      go_wp2
      go_ret
      exact ⟨_, rfl, IsU.nil _, Below.refl _ _⟩
    · have hx0' : ((xs.length : Int) == 0) = false := by rw [beq_eq_false_iff_ne]; omega
      have hy0' : ((ys.length : Int) == 0) = true := by rw [beq_iff_eq]; omega
      go_enter Tryz.func29, Tryz.ntmps29
      go_wp2
      go_ret
      exact ⟨_, rfl, IsU.nil _, Below.refl _ _⟩
  · have e : pM xs ys = mk (xs.length + ys.length - 1) (conv (cf xs) (cf ys)) := by unfold pM; rw [if_neg hz]
    rw [e]
    clear e hr hr'
    have hx0 : 0 < xs.length := by omega
    have hy0 : 0 < ys.length := by omega
    have hx0' : ((xs.length : Int) == 0) = false := by rw [beq_eq_false_iff_ne]; omega
    have hy0' : ((ys.length : Int) == 0) = false := by rw [beq_eq_false_iff_ne]; omega
    go_enter Tryz.func29, Tryz.ntmps29
    go_wp2
    go_loopw [5, 6] (fun u vi wr => ∃ k : Nat, k ≤ xs.length + ys.length - 1 ∧ vi = .int .i64 (k : Int) ∧ wr.ownsRow w.heap.size 78 1 u k (rowK k (conv (cf xs) (cf ys))) ∧ Below w.heap.size w wr)
      (fun _ vi _ => xs.length + ys.length - 1 - (intOf vi).toNat)
    case atStart => exact ⟨0, Nat.zero_le _, rfl, World.ownsRow_nil _ _ _ _, Below.refl _ _⟩
    case round =>
      obtain ⟨k, hk, rfl, hown, hnx⟩ := hrel
      have hsz := hnx.size
      by_cases hlt : k < xs.length + ys.length - 1
      · have hd24 : decide ((k : Int) < (xs.length : Int) + (ys.length : Int) - 1) = true := decide_eq_true (by omega)
        by_cases hkb : k + 1 ≤ ys.length
        · have e0 : k + 1 - ys.length = 0 := by omega
          go_wp2
          obtain ⟨wo, hwo⟩ : ∃ wo : World, wo = wr := ⟨_, rfl⟩
          rw [← hwo] at hown hnx hsz ⊢
          clear hwo
          go_loopw [7, 8] (fun vn vi wi => ∃ i : Nat, i ≤ min xs.length (k + 1) ∧ k + 1 - ys.length ≤ i ∧ vi = .int .i64 (i : Int) ∧ vn = .int .u64 ((cvK xs ys k i : Nat) : Int) ∧ wi.ownsRow w.heap.size 78 1 u5 k (rowK k (conv (cf xs) (cf ys))) ∧ Below w.heap.size w wi)
            (fun _ vi _ => min xs.length (k + 1) - (intOf vi).toNat)
          case atStart => exact ⟨k + 1 - ys.length, by omega, Nat.le_refl _, by first | (rw [e0]; rfl) | (congr 1; omega), by rw [cvK_start]; rfl, hown, hnx⟩
          case round =>
            clear hown hnx hsz
            obtain ⟨i, hi1, hi2, rfl, rfl, hown, hnx⟩ := hrel
            by_cases hin : i < min xs.length (k + 1)
            · obtain ⟨b, off, rfl, hcell0⟩ := hc i (by omega)
              have hcell := (hnx.cell (block_lt hcell0)).trans hcell0
              obtain ⟨b', off', rfl, hcell0'⟩ := hc' (k - i) (by omega)
              have hcell' := (hnx.cell (block_lt hcell0')).trans hcell0'
              have c1 := ref_Mul (xs.getD i 0) (ys.getD (k - i) 0)
              have c2 := ref_Add (cvK xs ys k i) (fM (xs.getD i 0) (ys.getD (k - i) 0))
              rw [cvK_succ] at c2
              clear hcell0 hcell0' hc hc'
              generalize fM (xs.getD i 0) (ys.getD (k - i) 0) = m at *
              generalize xs.getD i 0 = x at *
              generalize ys.getD (k - i) 0 = y at *
              go_wp2
              go_quiet (first | (go_at_call 63; exact Calls.quiet_of_same (c1 _)) | (go_at_call 62; exact Calls.quiet_of_same (c2 _)))
              go_wp2
              go_roundw
              case rel => exact ⟨i + 1, by omega, by omega, by go_num, rfl, owns_drewN hown _, below_drewN hnx _⟩
              case measure => simp only [intOf]; omega
            · have e : i = min xs.length (k + 1) := by omega
              have hv := cvK_end xs ys k
              rw [← e] at hv
              have hnew := rowK_succ k (conv (cf xs) (cf ys))
              rw [← hv] at hnew
              have hrow : Hid (∀ (w1 : World) (u : Value), w1.ownsRow w.heap.size 78 1 u (k + 1) (rowK k (conv (cf xs) (cf ys)) ++ [.int .u64 ((cvK xs ys k i : Nat) : Int)]) → w1.ownsRow w.heap.size 78 1 u (k + 1) (rowK (k + 1) (conv (cf xs) (cf ys)))) := fun w1 u h => by rw [hnew]; exact h
              clear hnew hv hc hc'
              generalize cvK xs ys k i = z at *
              by_cases hix : i < xs.length
              · have hik : k < i := by omega
                have hd : decide (i ≤ k) = false := decide_eq_false (by omega)
                clear e hin
                go_wp2_with (at_builtin; refine wp_append1 rfl _ _ rfl _ _ _ _ rfl hown rfl ?c1a hnx ?_)
                case c1a => omega
                · intro u' w1 hown' hnx'
                  have hown2 := hrow.out _ _ hown'
                  clear hown' hown hrow hnx
                  go_wp2
                  go_roundw
                  case rel => exact ⟨k + 1, by omega, by go_num, hown2, hnx'⟩
                  case measure => simp only [intOf]; omega
              · have hix' : xs.length ≤ i := by omega
                clear e hin
                go_wp2_with (at_builtin; refine wp_append1 rfl _ _ rfl _ _ _ _ rfl hown rfl ?d1a hnx ?_)
                case d1a => omega
                · intro u' w1 hown' hnx'
                  have hown2 := hrow.out _ _ hown'
                  clear hown' hown hrow hnx
                  go_wp2
                  go_roundw
                  case rel => exact ⟨k + 1, by omega, by go_num, hown2, hnx'⟩
                  case measure => simp only [intOf]; omega
        · have e0 : ((k + 1 - ys.length : Nat) : Int) = (k : Int) - (ys.length : Int) + 1 := by omega
          go_wp2
          obtain ⟨wo, hwo⟩ : ∃ wo : World, wo = wr := ⟨_, rfl⟩
          rw [← hwo] at hown hnx hsz ⊢
          clear hwo
          go_loopw [7, 8] (fun vn vi wi => ∃ i : Nat, i ≤ min xs.length (k + 1) ∧ k + 1 - ys.length ≤ i ∧ vi = .int .i64 (i : Int) ∧ vn = .int .u64 ((cvK xs ys k i : Nat) : Int) ∧ wi.ownsRow w.heap.size 78 1 u5 k (rowK k (conv (cf xs) (cf ys))) ∧ Below w.heap.size w wi)
            (fun _ vi _ => min xs.length (k + 1) - (intOf vi).toNat)
          case atStart => exact ⟨k + 1 - ys.length, by omega, Nat.le_refl _, by first | (rw [e0]; done) | (congr 1; omega), by rw [cvK_start]; rfl, hown, hnx⟩
          case round =>
            clear hown hnx hsz
            obtain ⟨i, hi1, hi2, rfl, rfl, hown, hnx⟩ := hrel
            by_cases hin : i < min xs.length (k + 1)
            · obtain ⟨b, off, rfl, hcell0⟩ := hc i (by omega)
              have hcell := (hnx.cell (block_lt hcell0)).trans hcell0
              obtain ⟨b', off', rfl, hcell0'⟩ := hc' (k - i) (by omega)
              have hcell' := (hnx.cell (block_lt hcell0')).trans hcell0'
              have c1 := ref_Mul (xs.getD i 0) (ys.getD (k - i) 0)
              have c2 := ref_Add (cvK xs ys k i) (fM (xs.getD i 0) (ys.getD (k - i) 0))
              rw [cvK_succ] at c2
              clear hcell0 hcell0' hc hc'
              generalize fM (xs.getD i 0) (ys.getD (k - i) 0) = m at *
              generalize xs.getD i 0 = x at *
              generalize ys.getD (k - i) 0 = y at *
              go_wp2
              go_quiet (first | (go_at_call 63; exact Calls.quiet_of_same (c1 _)) | (go_at_call 62; exact Calls.quiet_of_same (c2 _)))
              go_wp2
              go_roundw
              case rel => exact ⟨i + 1, by omega, by omega, by go_num, rfl, owns_drewN hown _, below_drewN hnx _⟩
              case measure => simp only [intOf]; omega
            · have e : i = min xs.length (k + 1) := by omega
              have hv := cvK_end xs ys k
              rw [← e] at hv
              have hnew := rowK_succ k (conv (cf xs) (cf ys))
              rw [← hv] at hnew
              have hrow : Hid (∀ (w1 : World) (u : Value), w1.ownsRow w.heap.size 78 1 u (k + 1) (rowK k (conv (cf xs) (cf ys)) ++ [.int .u64 ((cvK xs ys k i : Nat) : Int)]) → w1.ownsRow w.heap.size 78 1 u (k + 1) (rowK (k + 1) (conv (cf xs) (cf ys)))) := fun w1 u h => by rw [hnew]; exact h
              clear hnew hv hc hc'
              generalize cvK xs ys k i = z at *
              by_cases hix : i < xs.length
              · have hik : k < i := by omega
                have hd : decide (i ≤ k) = false := decide_eq_false (by omega)
                clear e hin
                go_wp2_with (at_builtin; refine wp_append1 rfl _ _ rfl _ _ _ _ rfl hown rfl ?c1b hnx ?_)
                case c1b => omega
                · intro u' w1 hown' hnx'
                  have hown2 := hrow.out _ _ hown'
                  clear hown' hown hrow hnx
                  go_wp2
                  go_roundw
                  case rel => exact ⟨k + 1, by omega, by go_num, hown2, hnx'⟩
                  case measure => simp only [intOf]; omega
              · have hix' : xs.length ≤ i := by omega
                clear e hin
                go_wp2_with (at_builtin; refine wp_append1 rfl _ _ rfl _ _ _ _ rfl hown rfl ?d1b hnx ?_)
                case d1b => omega
                · intro u' w1 hown' hnx'
                  have hown2 := hrow.out _ _ hown'
                  clear hown' hown hrow hnx
                  go_wp2
                  go_roundw
                  case rel => exact ⟨k + 1, by omega, by go_num, hown2, hnx'⟩
                  case measure => simp only [intOf]; omega
      · have e : k = xs.length + ys.length - 1 := by omega
        have hU := rowK_isU hown
        rw [e] at hU
        clear hown hc hc'
        go_wp2
        go_ret
        exact ⟨_, rfl, hU, hnx⟩

end Go.Proofs.YtmggccepmicjhacGreatDoor
