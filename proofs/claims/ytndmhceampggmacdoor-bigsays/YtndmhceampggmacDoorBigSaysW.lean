/-
  BigSays returns true for all texts.
-/
import Derived.Test.YtndmhceampggmacDoorBigC
import Derived.Test.YtndmhceampggmacDoorRefGreatSum
import Derived.Test.YtndmhceampggmacDoorRefGreatProd
namespace Go.Proofs.YtndmhceampggmacDoor
open Go.RowKit

set_option maxRecDepth 100000 in
set_option maxHeartbeats 4000000 in
theorem bigSays_walk (s t : ByteArray) (_w0 : s.size ≤ maxLen) (_w1 : t.size ≤ maxLen) (w : World) (hTb : Tab w) :
    Calls Tryd.prog 5 #[.string s, .string t] w fun e w' => e = .returned (.bool true) ∧ Below w.heap.size w w' := by
  have cG := fun W => ref_Great W s
  have cK := fun W (hb : Below w.heap.size w W) => big_Check W s (hTb.below hb)
  rcases gchk_cases s with ⟨hs0, -⟩ | ⟨hs0, a, ha⟩
  · have h2 : gchk2 s t = gchk s := by unfold gchk2; rw [if_neg hs0]
    have hbad : gchk2 s t ≠ 0 := by rw [h2]; exact hs0
    have cC := fun W (hb : Below w.heap.size w W) => big_Cmp_bad W s t hbad (hTb.below hb)
    have cA := fun W (hb : Below w.heap.size w W) => big_Add_bad W s t hbad (hTb.below hb)
    have cM := fun W (hb : Below w.heap.size w W) => big_Mul_bad W s t hbad (hTb.below hb)
    rw [h2] at cC cA cM
    have hne : (gchk s == 0) = false := by rw [beq_eq_false_iff_ne]; exact hs0
    clear h2 hbad
    generalize gchk s = k at *
    have hB := Below.refl w.heap.size w
    go_enter Tryd.func5, Tryd.ntmps5
    go_wp2_with (first
      | (go_at_call 21; refine Calls.mono (cG _) ?_; rintro e w1 ⟨rfl, rfl⟩)
      | (go_at_call 22; refine Calls.mono (cK _ hB) ?_; rintro e w2 ⟨rfl, hb⟩; replace hB := hB.trans (hb.mono hB.size); clear hb)
      | (go_at_call 25; refine Calls.mono (cC _ hB) ?_; rintro e w3 ⟨rfl, hb⟩; replace hB := hB.trans (hb.mono hB.size); clear hb)
      | (go_at_call 26; refine Calls.mono (cA _ hB) ?_; rintro e w4 ⟨rfl, hb⟩; replace hB := hB.trans (hb.mono hB.size); clear hb)
      | (go_at_call 27; refine Calls.mono (cM _ hB) ?_; rintro e w5 ⟨rfl, hb⟩; replace hB := hB.trans (hb.mono hB.size); clear hb))
    go_ret
    exact ⟨rfl, hB⟩
  · rw [hs0] at cK
    clear cG
    rcases gchk_cases t with ⟨ht0, -⟩ | ⟨ht0, b, hb⟩
    · have h2 : gchk2 s t = gchk t := by unfold gchk2; rw [if_pos hs0]
      have hbad : gchk2 s t ≠ 0 := by rw [h2]; exact ht0
      have cC := fun W (hb : Below w.heap.size w W) => big_Cmp_bad W s t hbad (hTb.below hb)
      have cA := fun W (hb : Below w.heap.size w W) => big_Add_bad W s t hbad (hTb.below hb)
      have cM := fun W (hb : Below w.heap.size w W) => big_Mul_bad W s t hbad (hTb.below hb)
      rw [h2] at cC cA cM
      have hne : (gchk t == 0) = false := by rw [beq_eq_false_iff_ne]; exact ht0
      clear h2 hbad ha
      have hB := Below.refl w.heap.size w
      go_enter Tryd.func5, Tryd.ntmps5
      go_wp2_with (first
        | (go_at_call 21; refine Calls.mono (ref_Great _ _) ?_; rintro e w1 ⟨rfl, rfl⟩; (try rw [hs0]); (try rw [ht0]))
        | (go_at_call 22; refine Calls.mono (cK _ hB) ?_; rintro e w2 ⟨rfl, hb⟩; replace hB := hB.trans (hb.mono hB.size); clear hb)
        | (go_at_call 25; refine Calls.mono (cC _ hB) ?_; rintro e w3 ⟨rfl, hb⟩; replace hB := hB.trans (hb.mono hB.size); clear hb)
        | (go_at_call 26; refine Calls.mono (cA _ hB) ?_; rintro e w4 ⟨rfl, hb⟩; replace hB := hB.trans (hb.mono hB.size); clear hb)
        | (go_at_call 27; refine Calls.mono (cM _ hB) ?_; rintro e w5 ⟨rfl, hb⟩; replace hB := hB.trans (hb.mono hB.size); clear hb))
      go_ret
      exact ⟨rfl, hB⟩
    · have cC := fun W (h : Below w.heap.size w W) => big_Cmp_ok W s t a b ha hb (hTb.below h)
      have cA : ∀ W, Below w.heap.size w W → Calls Tryd.prog 26 #[.string s, .string t] W fun e w' => e = .returned (.tuple #[.string (txtN (val a + val b)), .int .i64 0]) ∧ Below W.heap.size W w' := fun W h => (big_Add_ok W s t a b ha hb (hTb.below h)).mono (by rintro e w' ⟨c, rfl, h1, h2, h3⟩; rw [dgs_of h1 h2]; exact ⟨rfl, h3⟩)
      have cM : ∀ W, Below w.heap.size w W → Calls Tryd.prog 27 #[.string s, .string t] W fun e w' => e = .returned (.tuple #[.string (txtN (val a * val b)), .int .i64 0]) ∧ Below W.heap.size W w' := fun W h => (big_Mul_ok W s t a b ha hb (hTb.below h)).mono (by rintro e w' ⟨c, rfl, h1, h2, h3⟩; rw [dgs_of h1 h2]; exact ⟨rfl, h3⟩)
      have cS : ∀ W, Below w.heap.size w W → Calls Tryd.prog 23 #[.string s, .string t] W fun e w' => e = .returned (.string (txtN (val a + val b))) ∧ Below W.heap.size W w' := fun W h => (ref_GreatSum W s t a b ha.1 hb.1 (by have := ha.2; omega) (by have := hb.2; omega) (hTb.below h)).mono (by rintro e w' ⟨c, rfl, h1, h2, h3⟩; rw [dgs_of h1 h2]; exact ⟨rfl, h3⟩)
      have cP : ∀ W, Calls Tryd.prog 24 #[.string s, .string t] W fun e w' => e = .returned (.string (txtN (val a * val b))) ∧ Below W.heap.size W w' := fun W => (ref_GreatProduct W s t a b ha.1 hb.1 ha.2 (by have := hb.2; omega)).mono (by rintro e w' ⟨c, rfl, h1, h2, h3⟩; rw [dgs_of h1 h2]; exact ⟨rfl, h3⟩)
      have hsz1 := ha.1.size
      have hsz2 := hb.1.size
      have heq := ha.1.eqv hb.1
      have hless := fun h => ha.1.less hb.1 h
      have hl1 := fun h => ha.1.1.less hb.1.1 h
      have hl2 := fun h => hb.1.1.less ha.1.1 h
      have hl9 := ha.2
      have hl9' := hb.2
      clear ha hb
      generalize txtN (val a + val b) = S at *
      generalize txtN (val a * val b) = M at *
      generalize val a = x at *
      generalize val b = y at *
      generalize a.length = la at *
      generalize b.length = lb at *
      rcases Nat.lt_trichotomy la lb with hl | hl | hl
      · have h1 := hl1 hl
        have hc : cmpN x y = -1 := if_pos h1
        rw [hc] at cC
        clear hl1 hl2 hless heq hc h1
        have hB := Below.refl w.heap.size w
        go_enter Tryd.func5, Tryd.ntmps5
        go_wp2_with (first
          | (go_at_call 21; refine Calls.mono (ref_Great _ _) ?_; rintro e w1 ⟨rfl, rfl⟩; (try rw [hs0]); (try rw [ht0]))
          | (go_at_call 23; refine Calls.mono (cS _ hB) ?_; rintro e w6 ⟨rfl, hb⟩; replace hB := hB.trans (hb.mono hB.size); clear hb)
          | (go_at_call 24; refine Calls.mono (cP _) ?_; rintro e w7 ⟨rfl, hb⟩; replace hB := hB.trans (hb.mono hB.size); clear hb)
          | (go_at_call 22; refine Calls.mono (cK _ hB) ?_; rintro e w2 ⟨rfl, hb⟩; replace hB := hB.trans (hb.mono hB.size); clear hb)
          | (go_at_call 25; refine Calls.mono (cC _ hB) ?_; rintro e w3 ⟨rfl, hb⟩; replace hB := hB.trans (hb.mono hB.size); clear hb)
          | (go_at_call 26; refine Calls.mono (cA _ hB) ?_; rintro e w4 ⟨rfl, hb⟩; replace hB := hB.trans (hb.mono hB.size); clear hb)
          | (go_at_call 27; refine Calls.mono (cM _ hB) ?_; rintro e w5 ⟨rfl, hb⟩; replace hB := hB.trans (hb.mono hB.size); clear hb))
        go_ret
        exact ⟨rfl, hB⟩
      · clear hl1 hl2
        subst hl
        rcases Nat.lt_trichotomy x y with hxy | hxy | hxy
        · have hc : cmpN x y = -1 := if_pos hxy
          have hless2 := hless rfl
          rw [decide_eq_true hxy] at hless2
          rw [hc] at cC
          clear hless heq hc
          have hB := Below.refl w.heap.size w
          go_enter Tryd.func5, Tryd.ntmps5
          go_wp2_with (first
            | (go_at_call 21; refine Calls.mono (ref_Great _ _) ?_; rintro e w1 ⟨rfl, rfl⟩; (try rw [hs0]); (try rw [ht0]))
            | (go_at_call 23; refine Calls.mono (cS _ hB) ?_; rintro e w6 ⟨rfl, hb⟩; replace hB := hB.trans (hb.mono hB.size); clear hb)
            | (go_at_call 24; refine Calls.mono (cP _) ?_; rintro e w7 ⟨rfl, hb⟩; replace hB := hB.trans (hb.mono hB.size); clear hb)
            | (go_at_call 22; refine Calls.mono (cK _ hB) ?_; rintro e w2 ⟨rfl, hb⟩; replace hB := hB.trans (hb.mono hB.size); clear hb)
            | (go_at_call 25; refine Calls.mono (cC _ hB) ?_; rintro e w3 ⟨rfl, hb⟩; replace hB := hB.trans (hb.mono hB.size); clear hb)
            | (go_at_call 26; refine Calls.mono (cA _ hB) ?_; rintro e w4 ⟨rfl, hb⟩; replace hB := hB.trans (hb.mono hB.size); clear hb)
            | (go_at_call 27; refine Calls.mono (cM _ hB) ?_; rintro e w5 ⟨rfl, hb⟩; replace hB := hB.trans (hb.mono hB.size); clear hb))
          go_ret
          exact ⟨rfl, hB⟩
        · subst hxy
          have hc : cmpN x x = 0 := by unfold cmpN; rw [if_neg (Nat.lt_irrefl _), if_pos rfl]
          have hless2 := hless rfl
          rw [decide_eq_false (Nat.lt_irrefl _)] at hless2
          rw [decide_eq_true rfl] at heq
          rw [hc] at cC
          clear hless hc
          have hB := Below.refl w.heap.size w
          go_enter Tryd.func5, Tryd.ntmps5
          go_wp2_with (first
            | (go_at_call 21; refine Calls.mono (ref_Great _ _) ?_; rintro e w1 ⟨rfl, rfl⟩; (try rw [hs0]); (try rw [ht0]))
            | (go_at_call 23; refine Calls.mono (cS _ hB) ?_; rintro e w6 ⟨rfl, hb⟩; replace hB := hB.trans (hb.mono hB.size); clear hb)
            | (go_at_call 24; refine Calls.mono (cP _) ?_; rintro e w7 ⟨rfl, hb⟩; replace hB := hB.trans (hb.mono hB.size); clear hb)
            | (go_at_call 22; refine Calls.mono (cK _ hB) ?_; rintro e w2 ⟨rfl, hb⟩; replace hB := hB.trans (hb.mono hB.size); clear hb)
            | (go_at_call 25; refine Calls.mono (cC _ hB) ?_; rintro e w3 ⟨rfl, hb⟩; replace hB := hB.trans (hb.mono hB.size); clear hb)
            | (go_at_call 26; refine Calls.mono (cA _ hB) ?_; rintro e w4 ⟨rfl, hb⟩; replace hB := hB.trans (hb.mono hB.size); clear hb)
            | (go_at_call 27; refine Calls.mono (cM _ hB) ?_; rintro e w5 ⟨rfl, hb⟩; replace hB := hB.trans (hb.mono hB.size); clear hb))
          go_ret
          exact ⟨rfl, hB⟩
        · have hc : cmpN x y = 1 := by unfold cmpN; rw [if_neg (by omega), if_neg (by omega)]
          have hless2 := hless rfl
          rw [decide_eq_false (by omega)] at hless2
          rw [decide_eq_false (by omega)] at heq
          rw [hc] at cC
          clear hless hc
          have hB := Below.refl w.heap.size w
          go_enter Tryd.func5, Tryd.ntmps5
          go_wp2_with (first
            | (go_at_call 21; refine Calls.mono (ref_Great _ _) ?_; rintro e w1 ⟨rfl, rfl⟩; (try rw [hs0]); (try rw [ht0]))
            | (go_at_call 23; refine Calls.mono (cS _ hB) ?_; rintro e w6 ⟨rfl, hb⟩; replace hB := hB.trans (hb.mono hB.size); clear hb)
            | (go_at_call 24; refine Calls.mono (cP _) ?_; rintro e w7 ⟨rfl, hb⟩; replace hB := hB.trans (hb.mono hB.size); clear hb)
            | (go_at_call 22; refine Calls.mono (cK _ hB) ?_; rintro e w2 ⟨rfl, hb⟩; replace hB := hB.trans (hb.mono hB.size); clear hb)
            | (go_at_call 25; refine Calls.mono (cC _ hB) ?_; rintro e w3 ⟨rfl, hb⟩; replace hB := hB.trans (hb.mono hB.size); clear hb)
            | (go_at_call 26; refine Calls.mono (cA _ hB) ?_; rintro e w4 ⟨rfl, hb⟩; replace hB := hB.trans (hb.mono hB.size); clear hb)
            | (go_at_call 27; refine Calls.mono (cM _ hB) ?_; rintro e w5 ⟨rfl, hb⟩; replace hB := hB.trans (hb.mono hB.size); clear hb))
          go_ret
          exact ⟨rfl, hB⟩
      · have h1 := hl2 hl
        have hc : cmpN x y = 1 := by unfold cmpN; rw [if_neg (by omega), if_neg (by omega)]
        rw [decide_eq_false (by omega)] at heq
        rw [hc] at cC
        clear hl1 hl2 hless hc h1
        have hB := Below.refl w.heap.size w
        go_enter Tryd.func5, Tryd.ntmps5
        go_wp2_with (first
          | (go_at_call 21; refine Calls.mono (ref_Great _ _) ?_; rintro e w1 ⟨rfl, rfl⟩; (try rw [hs0]); (try rw [ht0]))
          | (go_at_call 23; refine Calls.mono (cS _ hB) ?_; rintro e w6 ⟨rfl, hb⟩; replace hB := hB.trans (hb.mono hB.size); clear hb)
          | (go_at_call 24; refine Calls.mono (cP _) ?_; rintro e w7 ⟨rfl, hb⟩; replace hB := hB.trans (hb.mono hB.size); clear hb)
          | (go_at_call 22; refine Calls.mono (cK _ hB) ?_; rintro e w2 ⟨rfl, hb⟩; replace hB := hB.trans (hb.mono hB.size); clear hb)
          | (go_at_call 25; refine Calls.mono (cC _ hB) ?_; rintro e w3 ⟨rfl, hb⟩; replace hB := hB.trans (hb.mono hB.size); clear hb)
          | (go_at_call 26; refine Calls.mono (cA _ hB) ?_; rintro e w4 ⟨rfl, hb⟩; replace hB := hB.trans (hb.mono hB.size); clear hb)
          | (go_at_call 27; refine Calls.mono (cM _ hB) ?_; rintro e w5 ⟨rfl, hb⟩; replace hB := hB.trans (hb.mono hB.size); clear hb))
        go_ret
        exact ⟨rfl, hB⟩

end Go.Proofs.YtndmhceampggmacDoor
