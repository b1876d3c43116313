/-
  The walk of the law ManySays: whatever is handed in, Check and Lines of package many answer what package goldref answers, or the errors, and the law returns true.
-/
import Derived.Test.YtgfnjbkhncjhhabManyE
import Derived.Test.YtgfnjbkhncjhhabRefLines
import Derived.Test.YtgfnjbkhncjhhabSlEqL
namespace Go.Proofs.Ytgfnjbkhncjhhab
open Go.RowKit

set_option maxHeartbeats 4000000 in
theorem manySays_ok (w : World) (v : Value) (zs : List Int) (ds : List Nat) (x : Nat) (h : IsZ w v zs) (hG : Good zs ds) (hn : prd2 ds ≤ 1024) (hx : x < ds.length) :
    Calls Try.prog 3 #[v, .int .i64 (x : Int)] w fun e w' => e = .returned (.bool true) ∧ Below w.heap.size w w' := by
  have hlen : zs.length = ds.length := by rw [hG.2.2.1, List.length_map]
  have hZ := h
  obtain ⟨a, cap, rfl, hl⟩ := h
  clear hl
  have hW : Below w.heap.size w w := Below.refl _ _
  have cI : ∀ W, Calls Try.prog 7 #[.int .i64 (x : Int), .int .i64 0, .int .i64 ((zs.length : Int) - 1)] W fun e w' => e = .returned (.bool true) ∧ w' = W := fun W => ref_In_true x 0 _ (by omega) (by omega) W
  have cS := fun W hU => ref_Shape_ok W (.slice a zs.length cap) zs ds hU hG hn
  have cC := fun W hU => many_Check_ok W (.slice a zs.length cap) zs ds hU hG hn
  have cL := fun W hU => many_Lines_ok W (.slice a zs.length cap) zs ds x hU hG hn hx
  have rL := fun W hU => ref_Lines W (.slice a zs.length cap) zs ds x hU hG hn hx
  have hl3 : zs.length ≤ 3 := hG.2.1
  clear hG hlen hx
  generalize lns ds x (prd2 ds) = L at *
  go_enter Try.func3, Try.ntmps3
  go_wp2_with (first
    | (go_at_call 4; refine Calls.mono (cS _ hZ) ?_; rintro e w' ⟨rfl, hw⟩; rw [hw]; clear hw)
    | (go_at_call 5; refine Calls.mono (cC _ hZ) ?_; rintro e w1 ⟨rfl, hb⟩; replace hZ := hZ.below hb; replace hW := hW.trans (hb.mono hW.size); clear hb)
    | (go_at_call 6; refine Calls.mono (cL _ hZ) ?_; rintro e w2 ⟨u, rfl, hU, hb⟩; replace hZ := hZ.below hb; replace hW := hW.trans (hb.mono hW.size); clear hb)
    | (go_at_call 7; refine Calls.mono (cI _) ?_; rintro e w' ⟨rfl, hw⟩; rw [hw]; clear hw)
    | (go_at_call 8; refine Calls.mono (rL _ hZ) ?_; rintro e w3 ⟨u', rfl, hU', hb⟩; replace hU := hU.below hb; replace hW := hW.trans (hb.mono hW.size); clear hb)
    | (go_at_call 9; refine Calls.mono (slices_EqualFunc _ _ _ L hU hU') ?_; rintro e w4 ⟨rfl, hb⟩; replace hW := hW.trans (hb.mono hW.size); clear hb))
  go_ret
  exact ⟨rfl, hW⟩

set_option maxHeartbeats 4000000 in
theorem manySays_arg (w : World) (v : Value) (zs : List Int) (ds : List Nat) (x : Int) (h : IsZ w v zs) (hG : Good zs ds) (hn : prd2 ds ≤ 1024) (hx : x < 0 ∨ (ds.length : Int) ≤ x) (hw : (Lit.int .i64 x).wf = true) :
    Calls Try.prog 3 #[v, .int .i64 x] w fun e w' => e = .returned (.bool true) ∧ Below w.heap.size w w' := by
  have hlen : zs.length = ds.length := by rw [hG.2.2.1, List.length_map]
  have hZ := h
  obtain ⟨a, cap, rfl, hl⟩ := h
  clear hl
  have hW : Below w.heap.size w w := Below.refl _ _
  have cI : ∀ W, Calls Try.prog 7 #[.int .i64 x, .int .i64 0, .int .i64 ((zs.length : Int) - 1)] W fun e w' => e = .returned (.bool false) ∧ w' = W := by
    intro W
    rcases Int.lt_or_le x 0 with h1 | h1
    · exact ref_In_low x 0 _ h1 W
    · exact ref_In_high x 0 _ h1 (by omega) W
  have cS := fun W hU => ref_Shape_ok W (.slice a zs.length cap) zs ds hU hG hn
  have cC := fun W hU => many_Check_ok W (.slice a zs.length cap) zs ds hU hG hn
  have cL := fun W hU => many_Lines_arg W (.slice a zs.length cap) zs ds x hU hG hn hx hw
  have hl3 : zs.length ≤ 3 := hG.2.1
  clear hG hlen hx hw
  go_enter Try.func3, Try.ntmps3
  go_wp2_with (first
    | (go_at_call 4; refine Calls.mono (cS _ hZ) ?_; rintro e w' ⟨rfl, hw⟩; rw [hw]; clear hw)
    | (go_at_call 5; refine Calls.mono (cC _ hZ) ?_; rintro e w1 ⟨rfl, hb⟩; replace hZ := hZ.below hb; replace hW := hW.trans (hb.mono hW.size); clear hb)
    | (go_at_call 6; refine Calls.mono (cL _ hZ) ?_; rintro e w2 ⟨u, rfl, hU, hb⟩; replace hZ := hZ.below hb; replace hW := hW.trans (hb.mono hW.size); clear hb)
    | (go_at_call 7; refine Calls.mono (cI _) ?_; rintro e w' ⟨rfl, hw⟩; rw [hw]; clear hw)
    | (go_at_call 9; refine Calls.mono (slices_EqualFunc _ _ _ [] hU (IsL.nil _)) ?_; rintro e w4 ⟨rfl, hb⟩; replace hW := hW.trans (hb.mono hW.size); clear hb))
  go_ret
  exact ⟨rfl, hW⟩

set_option maxHeartbeats 4000000 in
theorem manySays_large (w : World) (v : Value) (zs : List Int) (ds : List Nat) (x : Int) (h : IsZ w v zs) (hG : Good zs ds) (hn : 1024 < prd2 ds) (hw : (Lit.int .i64 x).wf = true) :
    Calls Try.prog 3 #[v, .int .i64 x] w fun e w' => e = .returned (.bool true) ∧ Below w.heap.size w w' := by
  have hZ := h
  obtain ⟨a, cap, rfl, hl⟩ := h
  clear hl
  have hW : Below w.heap.size w w := Below.refl _ _
  have cS : ∀ (W : World), IsZ W (.slice a zs.length cap) zs → Calls Try.prog 4 #[.slice a zs.length cap] W fun e w' => e = .returned (.tuple #[.int .i64 0, .int .i64 2]) ∧ w' = W := by
    intro W hU
    refine (ref_Shape W _ zs hU).mono ?_
    rintro e w' ⟨rfl, ⟨ds', hG', hb, _⟩ | ⟨ds', _, _, rfl⟩ | ⟨hno, _⟩⟩
    · rw [Good_unique hG hG'] at hb; omega
    · exact ⟨rfl, rfl⟩
    · exact absurd hG (hno ds)
  have cC := fun W hU => many_Check_large W (.slice a zs.length cap) zs ds hU hG hn
  have cL := fun W hU => many_Lines_large W (.slice a zs.length cap) zs ds x hU hG hn hw
  clear hG hw hn
  go_enter Try.func3, Try.ntmps3
  go_wp2_with (first
    | (go_at_call 4; refine Calls.mono (cS _ hZ) ?_; rintro e w' ⟨rfl, hw⟩; rw [hw]; clear hw)
    | (go_at_call 5; refine Calls.mono (cC _ hZ) ?_; rintro e w1 ⟨rfl, hb⟩; replace hZ := hZ.below hb; replace hW := hW.trans (hb.mono hW.size); clear hb)
    | (go_at_call 6; refine Calls.mono (cL _ hZ) ?_; rintro e w2 ⟨u, rfl, hU, hb⟩; replace hZ := hZ.below hb; replace hW := hW.trans (hb.mono hW.size); clear hb)
    | (go_at_call 9; refine Calls.mono (slices_EqualFunc _ _ _ [] hU (IsL.nil _)) ?_; rintro e w4 ⟨rfl, hb⟩; replace hW := hW.trans (hb.mono hW.size); clear hb))
  go_ret
  exact ⟨rfl, hW⟩

set_option maxHeartbeats 4000000 in
theorem manySays_bad (w : World) (v : Value) (zs : List Int) (x : Int) (h : IsZ w v zs) (hG : ∀ ds, ¬ Good zs ds) (hw : (Lit.int .i64 x).wf = true) :
    Calls Try.prog 3 #[v, .int .i64 x] w fun e w' => e = .returned (.bool true) ∧ Below w.heap.size w w' := by
  have hZ := h
  obtain ⟨a, cap, rfl, hl⟩ := h
  clear hl
  have hW : Below w.heap.size w w := Below.refl _ _
  have cS : ∀ (W : World), IsZ W (.slice a zs.length cap) zs → Calls Try.prog 4 #[.slice a zs.length cap] W fun e w' => e = .returned (.tuple #[.int .i64 0, .int .i64 1]) ∧ w' = W := by
    intro W hU
    refine (ref_Shape W _ zs hU).mono ?_
    rintro e w' ⟨rfl, ⟨ds', hG', _⟩ | ⟨ds', hG', _⟩ | ⟨_, rfl⟩⟩
    · exact absurd hG' (hG ds')
    · exact absurd hG' (hG ds')
    · exact ⟨rfl, rfl⟩
  have cC := fun W hU => many_Check_bad W (.slice a zs.length cap) zs hU hG
  have cL := fun W hU => many_Lines_bad W (.slice a zs.length cap) zs x hU hG hw
  clear hG hw
  go_enter Try.func3, Try.ntmps3
  go_wp2_with (first
    | (go_at_call 4; refine Calls.mono (cS _ hZ) ?_; rintro e w' ⟨rfl, hw⟩; rw [hw]; clear hw)
    | (go_at_call 5; refine Calls.mono (cC _ hZ) ?_; rintro e w1 ⟨rfl, hb⟩; replace hZ := hZ.below hb; replace hW := hW.trans (hb.mono hW.size); clear hb)
    | (go_at_call 6; refine Calls.mono (cL _ hZ) ?_; rintro e w2 ⟨u, rfl, hU, hb⟩; replace hZ := hZ.below hb; replace hW := hW.trans (hb.mono hW.size); clear hb)
    | (go_at_call 9; refine Calls.mono (slices_EqualFunc _ _ _ [] hU (IsL.nil _)) ?_; rintro e w4 ⟨rfl, hb⟩; replace hW := hW.trans (hb.mono hW.size); clear hb))
  go_ret
  exact ⟨rfl, hW⟩

theorem manySays_walk (w : World) (v : Value) (zs : List Int) (h : IsZ w v zs) (a1 : Int) (w1 : (Lit.int .i64 a1).wf = true) :
    Calls Try.prog 3 #[v, .int .i64 a1] w fun e w' => e = .returned (.bool true) ∧ Below w.heap.size w w' := by
  by_cases hG : ∃ ds, Good zs ds
  · obtain ⟨ds, hG⟩ := hG
    by_cases hn : prd2 ds ≤ 1024
    · by_cases hx : a1 < 0 ∨ (ds.length : Int) ≤ a1
      · exact manySays_arg w v zs ds a1 h hG hn hx w1
      · obtain ⟨x, rfl⟩ : ∃ x : Nat, a1 = (x : Int) := ⟨a1.toNat, by omega⟩
        exact manySays_ok w v zs ds x h hG hn (by omega)
    · exact manySays_large w v zs ds a1 h hG (by omega) w1
  · exact manySays_bad w v zs a1 h (fun ds hh => hG ⟨ds, hh⟩) w1

end Go.Proofs.Ytgfnjbkhncjhhab
