/-
  What ofTwo, ofOne, ofList, ofLists, ofTexts, readFirst, planOf and shareOf of package desk tell.
-/
import Derived.Test.YtmggccepmicjhagGreatDoorDkC2
import Derived.Test.YtmggccepmicjhagGreatDoorDkLAll
import Derived.Test.YtmggccepmicjhagGreatDoorRefIAll
import Derived.Test.YtmggccepmicjhagGreatDoorPlanD
import Derived.Test.YtmggccepmicjhagGreatDoorPlanP
import Derived.Test.YtmggccepmicjhagGreatDoorPolyCAll
import Derived.Test.YtmggccepmicjhagGreatDoorRefPlacesAll
import Derived.Deep.RegionWith
namespace Go.Proofs.YtmggccepmicjhagGreatDoor
open Go.RowKit
set_option maxRecDepth 100000

theorem numA_ok {L : List (List UInt8)} (h : numsB L = true) : numA L = numsL L ∧ errN L = 0 := by unfold numA errN; rw [if_pos h, if_pos h]; exact ⟨rfl, rfl⟩
theorem numA_no {L : List (List UInt8)} (h : numsB L = false) : numA L = [] ∧ errN L = 3 := by unfold numA errN; rw [if_neg (by rw [h]; decide), if_neg (by rw [h]; decide)]; exact ⟨rfl, rfl⟩
theorem numsL_length (L : List (List UInt8)) : (numsL L).length = L.length := by unfold numsL; rw [List.length_map]
theorem numA_le (L : List (List UInt8)) : (numA L).length ≤ L.length := by
  unfold numA
  split
  · rw [numsL_length]; exact Nat.le_refl _
  · simp
theorem say_one (x : Nat) : sayN [x] = Lib.decDigits x := by simp [sayN, jnK]
theorem isU_len {w : World} {v : Value} {l : List Nat} (h : IsU w v l) : ∃ a cap, v = .slice a l.length cap := by
  obtain ⟨a, cap, e, -⟩ := h
  exact ⟨a, cap, e⟩
theorem drew_below {w W : World} (h : Below w.heap.size w W) : Below w.heap.size w W.drew := below_drewN h 1

set_option maxRecDepth 100000 in
set_option maxHeartbeats 2000000 in
theorem desk_ofTwo (g : Nat) (eg : ∀ args w, (callFunc g args).run Tryz.prog w = .ok (.enter g args) w) (f : Nat → Nat → Nat) (hf : ∀ a b, f a b < 18446744073709551616)
    (cF : ∀ (a b : Nat) (W : World), (a : Int) < 18446744073709551616 → (b : Int) < 18446744073709551616 → Calls Tryz.prog g #[.int .u64 (a : Int), .int .u64 (b : Int)] W fun e w' => e = .returned (.int .u64 ((f a b : Nat) : Int)) ∧ w' = W)
    (w : World) (v : Value) (L : List (List UInt8)) (h : IsB w v L) (hs : ∀ l ∈ L, l.length ≤ 1000000000) (h9 : L.length ≤ 1000000) (ht : Tab w) (R : List UInt8)
    (hR1 : numsB L = true → L.length = 2 → R = sayN [f ((numsL L).getD 0 0) ((numsL L).getD 1 0)]) (hR2 : ¬ (numsB L = true ∧ L.length = 2) → R = wrg 3) :
    Calls Tryz.prog 33 #[v, .func (.func g) #[] #[]] w fun e w' => ∃ t k, e = .returned (.tuple #[.string (bs t), .int .i64 k]) ∧ Says t k R ∧ Below w.heap.size w w' := by
  have c1 := desk_readNumbers w v L h hs h9 ht
  obtain ⟨av, cv, rfl⟩ := h.len
  cases hq : numsB L with
  | false =>
    obtain ⟨-, hE⟩ := numA_no hq
    rw [hE] at c1
    have hR : Hid (R = wrg 3) := hR2 (fun q => by rw [hq] at q; cases q.1)
    clear hR1 hR2 hE cF hf hq h hs
    generalize numA L = A at *
    go_enter Tryz.func33, Tryz.ntmps33
    go_wp2_with (go_at_call 58; refine Calls.mono c1 ?_; rintro e w1 ⟨u, rfl, hU, hb⟩; clear c1)
    go_ret2
    exact ⟨[], 3, rfl, Says.err (by decide) (by decide) hR.out.symm, hb⟩
  | true =>
    obtain ⟨hA, hE⟩ := numA_ok hq
    rw [hA, hE] at c1
    have hnl := numsL_length L
    by_cases h2 : L.length = 2
    · have hR : Hid (R = Lib.decDigits (f ((numsL L).getD 0 0) ((numsL L).getD 1 0))) := by
        show _ = _
        rw [hR1 hq h2, say_one]
      rw [h2] at hnl
      have hrg := numsL_rng L
      have cF' := fun (W : World) => cF ((numsL L).getD 0 0) ((numsL L).getD 1 0) W (range_getD hrg 0) (range_getD hrg 1)
      have hfl := hf ((numsL L).getD 0 0) ((numsL L).getD 1 0)
      have cN := fun (W : World) (hT : Tab W) => desk_printNumber (f ((numsL L).getD 0 0) ((numsL L).getD 1 0)) hfl W hT
      have hop : Hid (∀ (W : World) (u : Value), IsU W u (numsL L) → ∃ b off cap, u = .slice (some ⟨b, off, none⟩) 2 cap ∧ W.cell? ⟨b, off, none⟩ = some (.int .u64 (((numsL L).getD 0 0 : Nat) : Int)) ∧ W.cell? ⟨b, off + 1, none⟩ = some (.int .u64 (((numsL L).getD 1 0 : Nat) : Int))) := fun W u hU => two_cells hU hnl
      clear hR1 hR2 hA hE cF hf hq h hs hnl hrg hfl h2
      generalize Lib.decDigits (f ((numsL L).getD 0 0) ((numsL L).getD 1 0)) = D at *
      generalize f ((numsL L).getD 0 0) ((numsL L).getD 1 0) = r at *
      generalize (numsL L).getD 0 0 = x at *
      generalize (numsL L).getD 1 0 = y at *
      generalize numsL L = A at *
      go_enter Tryz.func33, Tryz.ntmps33
      go_wp2_with (go_at_call 58; refine Calls.mono c1 ?_; rintro e w1 ⟨u, rfl, hU, hb⟩; clear c1; obtain ⟨b, off, cap, rfl, k0, k1⟩ := hop.out _ _ hU; have hT : Tab w1.drew := ht.below (drew_below hb); clear hU hop)
      go_region_with (first
        | (go_at_fn g; refine Calls.mono (cF' _) ?_; rintro e w' ⟨rfl, hw⟩; rw [hw]; clear hw)
        | (go_at_call 59; refine Calls.mono (cN _ hT) ?_; rintro e w2 ⟨rfl, hB2⟩))
      all_goals
        have hB : Below w.heap.size w w2 := (drew_below hb).trans (hB2.mono (drew_below hb).size)
        go_wp2
        go_ret2
        exact ⟨D, 0, rfl, by rw [hR.out]; exact Says.ok _, hB⟩
    · have hR : Hid (R = wrg 3) := hR2 (fun q => h2 q.2)
      have h2i : ((L.length : Int) != 2) = true := by rw [bne_iff_ne]; omega
      have hop : Hid (∀ (W : World) (u : Value), IsU W u (numsL L) → ∃ a cap, u = .slice a L.length cap) := fun W u hU => by
        obtain ⟨a, cap, e⟩ := isU_len hU
        rw [hnl] at e
        exact ⟨a, cap, e⟩
      clear hR1 hR2 hA hE cF hf hq h hs hnl h2
      generalize numsL L = A at *
      go_enter Tryz.func33, Tryz.ntmps33
      go_wp2_with (go_at_call 58; refine Calls.mono c1 ?_; rintro e w1 ⟨u, rfl, hU, hb⟩; clear c1; obtain ⟨a, cap, rfl⟩ := hop.out _ _ hU; clear hU hop)
      go_ret2
      exact ⟨[], 3, rfl, Says.err (by decide) (by decide) hR.out.symm, hb⟩
set_option maxRecDepth 100000 in
set_option maxHeartbeats 2000000 in
theorem desk_ofOne (g : Nat) (eg : ∀ args w, (callFunc g args).run Tryz.prog w = .ok (.enter g args) w) (f : Nat → Nat) (er : Nat → Int) (hf : ∀ a, f a < 18446744073709551616) (he : ∀ a, 0 ≤ er a ∧ er a ≤ 100)
    (cF : ∀ (a : Nat) (W : World), (a : Int) < 18446744073709551616 → Calls Tryz.prog g #[.int .u64 (a : Int)] W fun e w' => e = .returned (.tuple #[.int .u64 ((f a : Nat) : Int), .int .i64 (er a)]) ∧ w' = W)
    (w : World) (v : Value) (L : List (List UInt8)) (h : IsB w v L) (hs : ∀ l ∈ L, l.length ≤ 1000000000) (h9 : L.length ≤ 1000000) (ht : Tab w) (R : List UInt8)
    (hR1 : numsB L = true → L.length = 1 → R = if er ((numsL L).getD 0 0) = 0 then sayN [f ((numsL L).getD 0 0)] else wrg (er ((numsL L).getD 0 0))) (hR2 : ¬ (numsB L = true ∧ L.length = 1) → R = wrg 3) :
    Calls Tryz.prog 38 #[v, .func (.func g) #[] #[]] w fun e w' => ∃ t k, e = .returned (.tuple #[.string (bs t), .int .i64 k]) ∧ Says t k R ∧ Below w.heap.size w w' := by
  have c1 := desk_readNumbers w v L h hs h9 ht
  obtain ⟨av, cv, rfl⟩ := h.len
  cases hq : numsB L with
  | false =>
    obtain ⟨-, hE⟩ := numA_no hq
    rw [hE] at c1
    have hR : Hid (R = wrg 3) := hR2 (fun q => by rw [hq] at q; cases q.1)
    clear hR1 hR2 hE cF hf hq h hs he
    generalize numA L = A at *
    go_enter Tryz.func38, Tryz.ntmps38
    go_wp2_with (go_at_call 58; refine Calls.mono c1 ?_; rintro e w1 ⟨u, rfl, hU, hb⟩; clear c1)
    go_ret2
    exact ⟨[], 3, rfl, Says.err (by decide) (by decide) hR.out.symm, hb⟩
  | true =>
    obtain ⟨hA, hE⟩ := numA_ok hq
    rw [hA, hE] at c1
    have hnl := numsL_length L
    by_cases h2 : L.length = 1
    · have hR0 := hR1 hq h2
      rw [say_one] at hR0
      rw [h2] at hnl
      have hrg := numsL_rng L
      have cF' := fun (W : World) => cF ((numsL L).getD 0 0) W (range_getD hrg 0)
      have hfl := hf ((numsL L).getD 0 0)
      have hel := he ((numsL L).getD 0 0)
      have cN := fun (W : World) (hT : Tab W) => desk_printNumber (f ((numsL L).getD 0 0)) hfl W hT
      have hop : Hid (∀ (W : World) (u : Value), IsU W u (numsL L) → ∃ b off cap, u = .slice (some ⟨b, off, none⟩) 1 cap ∧ W.cell? ⟨b, off, none⟩ = some (.int .u64 (((numsL L).getD 0 0 : Nat) : Int))) := fun W u hU => by
        have := one_cell hU (by rw [hnl]; decide)
        rw [hnl] at this
        exact this
      clear hR1 hR2 hA hE cF hf hq h hs hnl hrg hfl h2 he
      generalize Lib.decDigits (f ((numsL L).getD 0 0)) = D at *
      generalize f ((numsL L).getD 0 0) = r at *
      generalize er ((numsL L).getD 0 0) = k at *
      generalize (numsL L).getD 0 0 = x at *
      generalize numsL L = A at *
      by_cases hk : k = 0
      · rw [if_pos hk] at hR0
        have hR : Hid (R = D) := hR0
        subst hk
        clear hR0 hel
        go_enter Tryz.func38, Tryz.ntmps38
        go_wp2_with (first
          | (go_at_call 58; refine Calls.mono c1 ?_; rintro e w1 ⟨u, rfl, hU, hb⟩; clear c1; obtain ⟨b, off, cap, rfl, k0⟩ := hop.out _ _ hU; have hT : Tab w1 := ht.below hb; clear hU hop)
          | (go_at_fn g; refine Calls.mono (cF' _) ?_; rintro e w' ⟨rfl, hw⟩; rw [hw]; clear hw)
          | (go_at_call 59; refine Calls.mono (cN _ hT) ?_; rintro e w2 ⟨rfl, hB2⟩; replace hb := hb.trans (hB2.mono hb.size)))
        go_ret2
        exact ⟨D, 0, rfl, by rw [hR.out]; exact Says.ok _, hb⟩
      · rw [if_neg hk] at hR0
        have hR : Hid (R = wrg k) := hR0
        have hk1 : (k != 0) = true := by rw [bne_iff_ne]; exact hk
        have hk2 : Hid (0 < k ∧ k ≤ 100) := ⟨by omega, hel.2⟩
        clear hR0 hel hk
        go_enter Tryz.func38, Tryz.ntmps38
        go_wp2_with (first
          | (go_at_call 58; refine Calls.mono c1 ?_; rintro e w1 ⟨u, rfl, hU, hb⟩; clear c1; obtain ⟨b, off, cap, rfl, k0⟩ := hop.out _ _ hU; clear hU hop)
          | (go_at_fn g; refine Calls.mono (cF' _) ?_; rintro e w' ⟨rfl, hw⟩; rw [hw]; clear hw))
        go_ret2
        exact ⟨[], k, rfl, Says.err hk2.out.1 hk2.out.2 hR.out.symm, hb⟩
    · have hR : Hid (R = wrg 3) := hR2 (fun q => h2 q.2)
      have h2i : ((L.length : Int) != 1) = true := by rw [bne_iff_ne]; omega
      have hop : Hid (∀ (W : World) (u : Value), IsU W u (numsL L) → ∃ a cap, u = .slice a L.length cap) := fun W u hU => by
        obtain ⟨a, cap, e⟩ := isU_len hU
        rw [hnl] at e
        exact ⟨a, cap, e⟩
      clear hR1 hR2 hA hE cF hf hq h hs hnl h2 he
      generalize numsL L = A at *
      go_enter Tryz.func38, Tryz.ntmps38
      go_wp2_with (go_at_call 58; refine Calls.mono c1 ?_; rintro e w1 ⟨u, rfl, hU, hb⟩; clear c1; obtain ⟨a, cap, rfl⟩ := hop.out _ _ hU; clear hU hop)
      go_ret2
      exact ⟨[], 3, rfl, Says.err (by decide) (by decide) hR.out.symm, hb⟩
set_option maxRecDepth 100000 in
set_option maxHeartbeats 2000000 in
theorem desk_ofList (g : Nat) (eg : ∀ args w, (callFunc g args).run Tryz.prog w = .ok (.enter g args) w) (f : List Nat → List Nat) (er : List Nat → Int) (hf : ∀ xs, (f xs).length ≤ 1000000) (he : ∀ a, 0 ≤ er a ∧ er a ≤ 100)
    (cF : ∀ (xs : List Nat) (u : Value) (W : World), IsU W u xs → Tab W → Calls Tryz.prog g #[u] W fun e w' => ∃ z, e = .returned (.tuple #[z, .int .i64 (er xs)]) ∧ IsU w' z (f xs) ∧ Below W.heap.size W w')
    (w : World) (v : Value) (L : List (List UInt8)) (h : IsB w v L) (hs : ∀ l ∈ L, l.length ≤ 1000000000) (h9 : L.length ≤ 1000000) (ht : Tab w) (R : List UInt8)
    (hR1 : numsB L = true → R = if er (numsL L) = 0 then sayN (f (numsL L)) else wrg (er (numsL L))) (hR2 : numsB L = false → R = wrg 3) :
    Calls Tryz.prog 41 #[v, .func (.func g) #[] #[]] w fun e w' => ∃ t k, e = .returned (.tuple #[.string (bs t), .int .i64 k]) ∧ Says t k R ∧ Below w.heap.size w w' := by
  have c1 := desk_readNumbers w v L h hs h9 ht
  obtain ⟨av, cv, rfl⟩ := h.len
  cases hq : numsB L with
  | false =>
    obtain ⟨-, hE⟩ := numA_no hq
    rw [hE] at c1
    have hR : Hid (R = wrg 3) := hR2 hq
    clear hR1 hR2 hE cF hf hq h hs he
    generalize numA L = A at *
    go_enter Tryz.func41, Tryz.ntmps41
    go_wp2_with (go_at_call 58; refine Calls.mono c1 ?_; rintro e w1 ⟨u, rfl, hU, hb⟩; clear c1)
    go_ret2
    exact ⟨[], 3, rfl, Says.err (by decide) (by decide) hR.out.symm, hb⟩
  | true =>
    obtain ⟨hA, hE⟩ := numA_ok hq
    rw [hA, hE] at c1
    have hR0 := hR1 hq
    have cF' := fun (u : Value) (W : World) (hU : IsU W u (numsL L)) (hT : Tab W) => cF (numsL L) u W hU hT
    have hfl := hf (numsL L)
    have hel := he (numsL L)
    clear hR1 hR2 hA hE cF hf hq h hs he
    generalize f (numsL L) = B at *
    generalize er (numsL L) = k at *
    generalize numsL L = A at *
    by_cases hk : k = 0
    · rw [if_pos hk] at hR0
      have hR : Hid (R = sayN B) := hR0
      subst hk
      have cT := fun (u : Value) (W : World) (hU : IsU W u B) (hT : Tab W) => desk_listText_ok W u B hU hfl hT
      clear hR0 hel hfl
      generalize sayN B = D at *
      go_enter Tryz.func41, Tryz.ntmps41
      go_wp2_with (first
        | (go_at_call 58; refine Calls.mono c1 ?_; rintro e w1 ⟨u, rfl, hU, hb⟩; clear c1; have hT : Tab w1 := ht.below hb)
        | (go_at_fn g; refine Calls.mono (cF' _ _ hU hT) ?_; rintro e w2 ⟨z, rfl, hZ, hb2⟩; replace hT := hT.below hb2; replace hb := hb.trans (hb2.mono hb.size); clear hb2 cF' hU)
        | (go_at_call 64; refine Calls.mono (cT _ _ hZ hT) ?_; rintro e w3 ⟨rfl, hb3⟩; replace hb := hb.trans (hb3.mono hb.size); clear cT hb3))
      go_ret2
      exact ⟨D, 0, rfl, by rw [hR.out]; exact Says.ok _, hb⟩
    · rw [if_neg hk] at hR0
      have hR : Hid (R = wrg k) := hR0
      have hk1 : (k != 0) = true := by rw [bne_iff_ne]; exact hk
      have hk2 : Hid (0 < k ∧ k ≤ 100) := ⟨by omega, hel.2⟩
      have cT := fun (a : Option Addr) (n cap : Nat) (W : World) => desk_listText_bad W a n cap k hk1
      clear hR0 hel hk hfl hk1
      go_enter Tryz.func41, Tryz.ntmps41
      go_wp2_with (first
        | (go_at_call 58; refine Calls.mono c1 ?_; rintro e w1 ⟨u, rfl, hU, hb⟩; clear c1; have hT : Tab w1 := ht.below hb)
        | (go_at_fn g; refine Calls.mono (cF' _ _ hU hT) ?_; rintro e w2 ⟨z, rfl, hZ, hb2⟩; obtain ⟨az, cz, rfl⟩ := isU_len hZ; replace hb := hb.trans (hb2.mono hb.size); clear hb2 cF' hU hZ)
        | (go_at_call 64; refine Calls.mono (cT _ _ _ _) ?_; rintro e w' ⟨rfl, hw⟩; rw [hw]; clear hw cT))
      go_ret2
      exact ⟨[], k, rfl, Says.err hk2.out.1 hk2.out.2 hR.out.symm, hb⟩

end Go.Proofs.YtmggccepmicjhagGreatDoor
