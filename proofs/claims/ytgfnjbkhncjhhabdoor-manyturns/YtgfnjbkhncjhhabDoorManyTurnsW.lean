/-
  The walk of the law ManyTurns: whatever is handed in, Along, Forward, Inverse and Cyclic of package many answer what package goldref answers, or the errors, and the law returns true.
-/
import Derived.Test.YtgfnjbkhncjhhabDoorManyT
import Derived.Test.YtgfnjbkhncjhhabDoorRefWhole
import Derived.Test.YtgfnjbkhncjhhabDoorRefWrapped
import Derived.Test.YtgfnjbkhncjhhabDoorSlEq
namespace Go.Proofs.YtgfnjbkhncjhhabDoor
open Go.RowKit

theorem ref_Shape_large (w : World) (v : Value) (zs : List Int) (ds : List Nat) (h : IsZ w v zs) (hG : Good zs ds) (hn : 1024 < prd2 ds) :
    Calls Tryd.prog 12 #[v] w fun e w' => e = .returned (.tuple #[.int .i64 0, .int .i64 2]) ∧ w' = w := by
  refine (ref_Shape w v zs h).mono ?_
  rintro e w' ⟨rfl, ⟨ds', hG', hb, _⟩ | ⟨ds', hG', _, rfl⟩ | ⟨hno, _⟩⟩
  · rw [Good_unique hG hG'] at hb; omega
  · exact ⟨rfl, rfl⟩
  · exact absurd hG (hno ds)
theorem ref_Shape_bad (w : World) (v : Value) (zs : List Int) (h : IsZ w v zs) (hG : ∀ ds, ¬ Good zs ds) :
    Calls Tryd.prog 12 #[v] w fun e w' => e = .returned (.tuple #[.int .i64 0, .int .i64 1]) ∧ w' = w := by
  refine (ref_Shape w v zs h).mono ?_
  rintro e w' ⟨rfl, ⟨ds', hG', _⟩ | ⟨ds', hG', _⟩ | ⟨_, rfl⟩⟩
  · exact absurd hG' (hG ds')
  · exact absurd hG' (hG ds')
  · exact ⟨rfl, rfl⟩

set_option maxHeartbeats 8000000 in
theorem manyTurns_bad (w : World) (v va vb : Value) (zs : List Int) (xs ys : List Nat) (x : Int) (back : Bool) (hZ : IsZ w v zs) (hA : IsU w va xs) (hB : IsU w vb ys) (hG : ∀ ds, ¬ Good zs ds) (hw : (Lit.int .i64 x).wf = true) :
    Calls Tryd.prog 4 #[v, va, vb, .int .i64 x, .bool back] w fun e w' => e = .returned (.bool true) ∧ Below w.heap.size w w' := by
  have hW : Below w.heap.size w w := Below.refl _ _
  obtain ⟨az, cz, rfl, -⟩ := id hZ
  obtain ⟨aa, ca, rfl, -⟩ := id hA
  obtain ⟨ab, cb, rfl, -⟩ := id hB
  have cS := fun W hz => ref_Shape_bad W (.slice az zs.length cz) zs hz hG
  have mA := fun W hz ha => many_Along_bad W (.slice az zs.length cz) (.slice aa xs.length ca) zs xs x back hz ha hG hw
  have mF := fun W hz ha => many_Forward_bad W (.slice az zs.length cz) (.slice aa xs.length ca) zs xs hz ha hG
  have mI := fun W hz ha => many_Inverse_bad W (.slice az zs.length cz) (.slice aa xs.length ca) zs xs hz ha hG
  have mC := fun W hz ha hb => many_Cyclic_bad W (.slice az zs.length cz) (.slice aa xs.length ca) (.slice ab ys.length cb) zs xs ys hz ha hb hG
  clear hG hw
  have tk1 : True := trivial
  have tk2 : True := trivial
  have tk3 : True := trivial
  have tk4 : True := trivial
  have tk5 : True := trivial
  have tk6 : True := trivial
  have tk7 : True := trivial
  have tk8 : True := trivial
  have tk9 : True := trivial
  go_enter Tryd.func4, Tryd.ntmps4
  go_wp2_with (first
    | (go_at_call 12; have _t := tk1; refine Calls.mono (cS _ hZ) ?_; rintro e w' ⟨rfl, hw⟩; rw [hw]; clear hw tk1)
    | (go_at_call 17; have _t := tk2; refine Calls.mono (mA _ hZ hA) ?_; rintro e w102 ⟨q1, rfl, hQ1, hb⟩; clear tk2; replace hZ := hZ.below hb; replace hA := hA.below hb; replace hB := hB.below hb; replace hW := hW.trans (hb.mono hW.size); clear hb)
    | (go_at_call 18; have _t := tk3; refine Calls.mono (mF _ hZ hA) ?_; rintro e w103 ⟨q2, rfl, hQ2, hb⟩; clear tk3; replace hZ := hZ.below hb; replace hA := hA.below hb; replace hB := hB.below hb; replace hQ1 := hQ1.below hb; replace hW := hW.trans (hb.mono hW.size); clear hb)
    | (go_at_call 19; have _t := tk4; refine Calls.mono (mI _ hZ hA) ?_; rintro e w104 ⟨q3, rfl, hQ3, hb⟩; clear tk4; replace hZ := hZ.below hb; replace hA := hA.below hb; replace hB := hB.below hb; replace hQ1 := hQ1.below hb; replace hQ2 := hQ2.below hb; replace hW := hW.trans (hb.mono hW.size); clear hb)
    | (go_at_call 20; have _t := tk5; refine Calls.mono (mC _ hZ hA hB) ?_; rintro e w105 ⟨q4, rfl, hQ4, hb⟩; clear tk5; replace hZ := hZ.below hb; replace hA := hA.below hb; replace hB := hB.below hb; replace hQ1 := hQ1.below hb; replace hQ2 := hQ2.below hb; replace hQ3 := hQ3.below hb; replace hW := hW.trans (hb.mono hW.size); clear hb)
    | (go_at_call 11; have _t := tk6; refine Calls.mono (slices_Equal _ _ _ [] hQ1 (IsU.nil _)) ?_; rintro e w106 ⟨rfl, hb⟩; clear tk6; replace hZ := hZ.below hb; replace hA := hA.below hb; replace hB := hB.below hb; replace hQ1 := hQ1.below hb; replace hQ2 := hQ2.below hb; replace hQ3 := hQ3.below hb; replace hQ4 := hQ4.below hb; replace hW := hW.trans (hb.mono hW.size); clear hb)
    | (go_at_call 11; have _t := tk7; refine Calls.mono (slices_Equal _ _ _ [] hQ2 (IsU.nil _)) ?_; rintro e w107 ⟨rfl, hb⟩; clear tk7; replace hZ := hZ.below hb; replace hA := hA.below hb; replace hB := hB.below hb; replace hQ1 := hQ1.below hb; replace hQ2 := hQ2.below hb; replace hQ3 := hQ3.below hb; replace hQ4 := hQ4.below hb; replace hW := hW.trans (hb.mono hW.size); clear hb)
    | (go_at_call 11; have _t := tk8; refine Calls.mono (slices_Equal _ _ _ [] hQ3 (IsU.nil _)) ?_; rintro e w108 ⟨rfl, hb⟩; clear tk8; replace hZ := hZ.below hb; replace hA := hA.below hb; replace hB := hB.below hb; replace hQ1 := hQ1.below hb; replace hQ2 := hQ2.below hb; replace hQ3 := hQ3.below hb; replace hQ4 := hQ4.below hb; replace hW := hW.trans (hb.mono hW.size); clear hb)
    | (go_at_call 11; have _t := tk9; refine Calls.mono (slices_Equal _ _ _ [] hQ4 (IsU.nil _)) ?_; rintro e w109 ⟨rfl, hb⟩; clear tk9; replace hZ := hZ.below hb; replace hA := hA.below hb; replace hB := hB.below hb; replace hQ1 := hQ1.below hb; replace hQ2 := hQ2.below hb; replace hQ3 := hQ3.below hb; replace hQ4 := hQ4.below hb; replace hW := hW.trans (hb.mono hW.size); clear hb))
  go_ret
  exact ⟨rfl, hW⟩

set_option maxHeartbeats 8000000 in
theorem manyTurns_large (w : World) (v va vb : Value) (zs : List Int) (xs ys : List Nat) (ds : List Nat) (x : Int) (back : Bool) (hZ : IsZ w v zs) (hA : IsU w va xs) (hB : IsU w vb ys) (hG : Good zs ds) (hn : 1024 < prd2 ds) (hw : (Lit.int .i64 x).wf = true) :
    Calls Tryd.prog 4 #[v, va, vb, .int .i64 x, .bool back] w fun e w' => e = .returned (.bool true) ∧ Below w.heap.size w w' := by
  have hW : Below w.heap.size w w := Below.refl _ _
  obtain ⟨az, cz, rfl, -⟩ := id hZ
  obtain ⟨aa, ca, rfl, -⟩ := id hA
  obtain ⟨ab, cb, rfl, -⟩ := id hB
  have cS := fun W hz => ref_Shape_large W (.slice az zs.length cz) zs ds hz hG hn
  have mA := fun W hz ha => many_Along_large W (.slice az zs.length cz) (.slice aa xs.length ca) zs xs ds x back hz ha hG hn hw
  have mF := fun W hz ha => many_Forward_large W (.slice az zs.length cz) (.slice aa xs.length ca) zs xs ds hz ha hG hn
  have mI := fun W hz ha => many_Inverse_large W (.slice az zs.length cz) (.slice aa xs.length ca) zs xs ds hz ha hG hn
  have mC := fun W hz ha hb => many_Cyclic_large W (.slice az zs.length cz) (.slice aa xs.length ca) (.slice ab ys.length cb) zs xs ys ds hz ha hb hG hn
  clear hG hw hn
  have tk1 : True := trivial
  have tk2 : True := trivial
  have tk3 : True := trivial
  have tk4 : True := trivial
  have tk5 : True := trivial
  have tk6 : True := trivial
  have tk7 : True := trivial
  have tk8 : True := trivial
  have tk9 : True := trivial
  go_enter Tryd.func4, Tryd.ntmps4
  go_wp2_with (first
    | (go_at_call 12; have _t := tk1; refine Calls.mono (cS _ hZ) ?_; rintro e w' ⟨rfl, hw⟩; rw [hw]; clear hw tk1)
    | (go_at_call 17; have _t := tk2; refine Calls.mono (mA _ hZ hA) ?_; rintro e w102 ⟨q1, rfl, hQ1, hb⟩; clear tk2; replace hZ := hZ.below hb; replace hA := hA.below hb; replace hB := hB.below hb; replace hW := hW.trans (hb.mono hW.size); clear hb)
    | (go_at_call 18; have _t := tk3; refine Calls.mono (mF _ hZ hA) ?_; rintro e w103 ⟨q2, rfl, hQ2, hb⟩; clear tk3; replace hZ := hZ.below hb; replace hA := hA.below hb; replace hB := hB.below hb; replace hQ1 := hQ1.below hb; replace hW := hW.trans (hb.mono hW.size); clear hb)
    | (go_at_call 19; have _t := tk4; refine Calls.mono (mI _ hZ hA) ?_; rintro e w104 ⟨q3, rfl, hQ3, hb⟩; clear tk4; replace hZ := hZ.below hb; replace hA := hA.below hb; replace hB := hB.below hb; replace hQ1 := hQ1.below hb; replace hQ2 := hQ2.below hb; replace hW := hW.trans (hb.mono hW.size); clear hb)
    | (go_at_call 20; have _t := tk5; refine Calls.mono (mC _ hZ hA hB) ?_; rintro e w105 ⟨q4, rfl, hQ4, hb⟩; clear tk5; replace hZ := hZ.below hb; replace hA := hA.below hb; replace hB := hB.below hb; replace hQ1 := hQ1.below hb; replace hQ2 := hQ2.below hb; replace hQ3 := hQ3.below hb; replace hW := hW.trans (hb.mono hW.size); clear hb)
    | (go_at_call 11; have _t := tk6; refine Calls.mono (slices_Equal _ _ _ [] hQ1 (IsU.nil _)) ?_; rintro e w106 ⟨rfl, hb⟩; clear tk6; replace hZ := hZ.below hb; replace hA := hA.below hb; replace hB := hB.below hb; replace hQ1 := hQ1.below hb; replace hQ2 := hQ2.below hb; replace hQ3 := hQ3.below hb; replace hQ4 := hQ4.below hb; replace hW := hW.trans (hb.mono hW.size); clear hb)
    | (go_at_call 11; have _t := tk7; refine Calls.mono (slices_Equal _ _ _ [] hQ2 (IsU.nil _)) ?_; rintro e w107 ⟨rfl, hb⟩; clear tk7; replace hZ := hZ.below hb; replace hA := hA.below hb; replace hB := hB.below hb; replace hQ1 := hQ1.below hb; replace hQ2 := hQ2.below hb; replace hQ3 := hQ3.below hb; replace hQ4 := hQ4.below hb; replace hW := hW.trans (hb.mono hW.size); clear hb)
    | (go_at_call 11; have _t := tk8; refine Calls.mono (slices_Equal _ _ _ [] hQ3 (IsU.nil _)) ?_; rintro e w108 ⟨rfl, hb⟩; clear tk8; replace hZ := hZ.below hb; replace hA := hA.below hb; replace hB := hB.below hb; replace hQ1 := hQ1.below hb; replace hQ2 := hQ2.below hb; replace hQ3 := hQ3.below hb; replace hQ4 := hQ4.below hb; replace hW := hW.trans (hb.mono hW.size); clear hb)
    | (go_at_call 11; have _t := tk9; refine Calls.mono (slices_Equal _ _ _ [] hQ4 (IsU.nil _)) ?_; rintro e w109 ⟨rfl, hb⟩; clear tk9; replace hZ := hZ.below hb; replace hA := hA.below hb; replace hB := hB.below hb; replace hQ1 := hQ1.below hb; replace hQ2 := hQ2.below hb; replace hQ3 := hQ3.below hb; replace hQ4 := hQ4.below hb; replace hW := hW.trans (hb.mono hW.size); clear hb))
  go_ret
  exact ⟨rfl, hW⟩

set_option maxHeartbeats 4000000 in
theorem manyTurns_more (w : World) (v va vb : Value) (zs : List Int) (ds : List Nat) (x : Int) (back : Bool) (hZ : IsZ w v zs) (hG : Good zs ds) (hn : prd2 ds ≤ 1024) (h64 : 64 < prd2 ds) :
    Calls Tryd.prog 4 #[v, va, vb, .int .i64 x, .bool back] w fun e w' => e = .returned (.bool true) ∧ Below w.heap.size w w' := by
  have hW : Below w.heap.size w w := Below.refl _ _
  have cS := ref_Shape_ok w v zs ds hZ hG hn
  have hd : decide ((64 : Int) < ((prd2 ds : Nat) : Int)) = true := decide_eq_true (by omega)
  clear hG hZ
  generalize prd2 ds = n at *
  go_enter Tryd.func4, Tryd.ntmps4
  go_wp2_with (go_at_call 12; refine Calls.mono cS ?_; rintro e w' ⟨rfl, hw⟩; rw [hw]; clear hw)
  go_ret
  exact ⟨rfl, hW⟩

set_option maxHeartbeats 8000000 in
theorem manyTurns_ok (w : World) (v va vb : Value) (zs : List Int) (xs ys : List Nat) (ds : List Nat) (x : Nat) (back : Bool) (hZ : IsZ w v zs) (hA : IsU w va xs) (hB : IsU w vb ys) (hTb : Tab w) (hG : Good zs ds) (hn : prd2 ds ≤ 64) (hl : xs.length = prd2 ds) (hx : x < ds.length) (hl2 : ys.length = prd2 ds) :
    Calls Tryd.prog 4 #[v, va, vb, .int .i64 (x : Int), .bool back] w fun e w' => e = .returned (.bool true) ∧ Below w.heap.size w w' := by
  have hW : Below w.heap.size w w := Below.refl _ _
  obtain ⟨az, cz, rfl, -⟩ := id hZ
  obtain ⟨aa, ca, rfl, -⟩ := id hA
  obtain ⟨ab, cb, rfl, -⟩ := id hB
  have hlen : zs.length = ds.length := by rw [hG.2.2.1, List.length_map]
  have hn9 : prd2 ds ≤ 1024 := by omega
  have hS : Shp ds := hG.2.2.2
  have hl3 : zs.length ≤ 3 := hG.2.1
  have hl1 : 1 ≤ zs.length := hG.1
  have cS := fun W hz => ref_Shape_ok W (.slice az zs.length cz) zs ds hz hG hn9
  have cIn : ∀ W, Calls Tryd.prog 13 #[.int .i64 (x : Int), .int .i64 0, .int .i64 ((zs.length : Int) - 1)] W fun e w' => e = .returned (.bool true) ∧ w' = W := fun W => ref_In_true x 0 _ (by omega) (by omega) W
  have cW1 := fun W hz ha => ref_Whole W (.slice az zs.length cz) (.slice aa xs.length ca) zs ds xs false hz ha hG hn9 hl
  have cW2 := fun W hz ha => ref_Whole W (.slice az zs.length cz) (.slice aa xs.length ca) zs ds xs true hz ha hG hn9 hl
  have cR := fun W hz ha hb => ref_Wrapped W (.slice az zs.length cz) (.slice aa xs.length ca) (.slice ab ys.length cb) zs ds xs ys hz ha hb hG hn9 hl hl2
  have cT : ∀ W : World, IsZ W (.slice az zs.length cz) zs → IsU W (.slice aa xs.length ca) xs → Calls Tryd.prog 14 #[.slice az zs.length cz, .slice aa xs.length ca, .int .i64 (x : Int), .int .i64 0, .int .i64 ((nln ds x : Nat) : Int), .bool back] W fun e w' => ∃ u, e = .returned u ∧ IsU w' u (mk (prd2 ds) (alo ds x back (cf xs))) ∧ Below W.heap.size W w' := fun W hz ha => by
    have := ref_Turned W (.slice az zs.length cz) (.slice aa xs.length ca) zs ds xs x 0 (nln ds x) back hz ha hG hn9 hl hx (Nat.zero_le _) (Nat.le_refl _)
    rw [trn_all hS xs x hx back] at this
    exact this
  have hxz : x < zs.length := by omega
  obtain ⟨bz, oz, rfl, hcell⟩ : ∃ bz oz, az = some ⟨bz, oz, none⟩ ∧ w.cell? ⟨bz, oz + x, none⟩ = some (.int .i64 ((sz ds x : Nat) : Int)) := by
    obtain ⟨a', c', e, _, _, hc, _⟩ := id hZ
    simp only [Value.slice.injEq] at e
    obtain ⟨rfl, -, rfl⟩ := e
    obtain ⟨b, off, e, hcl⟩ := hc x (by omega)
    rw [(Good_get hG x (by omega)).1] at hcl
    exact ⟨b, off, e, hcl⟩
  have hquo : Int.tdiv ((prd2 ds : Nat) : Int) ((sz ds x : Nat) : Int) = ((nln ds x : Nat) : Int) := by rw [Int.tdiv_eq_ediv_of_nonneg (by omega), ← Int.natCast_ediv, nln_div hS x hx]
  have hnl9 : nln ds x ≤ 1024 := by rw [← nln_div hS x hx]; exact Nat.le_trans (Nat.div_le_self _ _) hn9
  have hwq : IntKind.i64.wrap ((nln ds x : Nat) : Int) = ((nln ds x : Nat) : Int) := wraps_i64 _ (Int.natCast_nonneg _) (by omega)
  have hd0 : ¬ sz ds x = 0 := by have := P2_pos (hS.at x hx); omega
  have mA := fun W hz ha (hB : Below w.heap.size w W) => many_Along_ok W (.slice (some ⟨bz, oz, none⟩) zs.length cz) (.slice aa xs.length ca) zs xs ds x back hz ha (hTb.below hB) hG hn9 hl hx
  have mF := fun W hz ha (hB : Below w.heap.size w W) => many_Forward_ok W (.slice (some ⟨bz, oz, none⟩) zs.length cz) (.slice aa xs.length ca) zs xs ds hz ha (hTb.below hB) hG hn9 hl
  have mI := fun W hz ha (hB : Below w.heap.size w W) => many_Inverse_ok W (.slice (some ⟨bz, oz, none⟩) zs.length cz) (.slice aa xs.length ca) zs xs ds hz ha (hTb.below hB) hG hn9 hl
  have mC := fun W hz ha hb (hB : Below w.heap.size w W) => many_Cyclic_ok W (.slice (some ⟨bz, oz, none⟩) zs.length cz) (.slice aa xs.length ca) (.slice ab ys.length cb) zs xs ys ds hz ha hb (hTb.below hB) hG hn9 hl hl2
  have hqa : (((xs.length : Nat) : Int) != ((prd2 ds : Nat) : Int)) = false := by rw [hl]; simp
  have hqb : (((ys.length : Nat) : Int) != ((prd2 ds : Nat) : Int)) = false := by rw [hl2]; simp
  have hn64 : ¬ (64 : Int) < ((prd2 ds : Nat) : Int) := by omega
  clear hG hS hl hx hl2 hlen
  generalize prd2 ds = n at *
  generalize mk (n) (alo ds x back (cf xs)) = LA at *
  generalize nln ds x = M at *
  generalize sz ds x = d at *
  generalize mk (n) (who ds false (cf xs) ds.length) = LF at *
  generalize mk (n) (who ds true (cf xs) ds.length) = LI at *
  generalize mk (n) (cyD ds (cf xs) (cf ys)) = LC at *
  have tk1 : True := trivial
  have tk2 : True := trivial
  have tk3 : True := trivial
  have tk4 : True := trivial
  have tk5 : True := trivial
  have tk6 : True := trivial
  have tk7 : True := trivial
  have tk8 : True := trivial
  have tk9 : True := trivial
  have tk10 : True := trivial
  have tk11 : True := trivial
  have tk12 : True := trivial
  have tk13 : True := trivial
  have tk14 : True := trivial
  go_enter Tryd.func4, Tryd.ntmps4
  go_wp2_with (first
    | (go_at_call 12; have _t := tk1; refine Calls.mono (cS _ hZ) ?_; rintro e w' ⟨rfl, hw⟩; rw [hw]; clear hw tk1)
    | (go_at_call 13; have _t := tk2; refine Calls.mono (cIn _) ?_; rintro e w' ⟨rfl, hw⟩; rw [hw]; clear hw tk2)
    | (go_at_call 14; have _t := tk3; refine Calls.mono (cT _ hZ hA) ?_; rintro e w103 ⟨p1, rfl, hP1, hb⟩; clear tk3; replace hZ := hZ.below hb; replace hA := hA.below hb; replace hB := hB.below hb; replace hW := hW.trans (hb.mono hW.size); clear hb)
    | (go_at_call 15; have _t := tk4; refine Calls.mono (cW1 _ hZ hA) ?_; rintro e w104 ⟨p2, rfl, hP2, hb⟩; clear tk4; replace hZ := hZ.below hb; replace hA := hA.below hb; replace hB := hB.below hb; replace hP1 := hP1.below hb; replace hW := hW.trans (hb.mono hW.size); clear hb)
    | (go_at_call 15; have _t := tk5; refine Calls.mono (cW2 _ hZ hA) ?_; rintro e w105 ⟨p3, rfl, hP3, hb⟩; clear tk5; replace hZ := hZ.below hb; replace hA := hA.below hb; replace hB := hB.below hb; replace hP1 := hP1.below hb; replace hP2 := hP2.below hb; replace hW := hW.trans (hb.mono hW.size); clear hb)
    | (go_at_call 16; have _t := tk6; refine Calls.mono (cR _ hZ hA hB) ?_; rintro e w106 ⟨p4, rfl, hP4, hb⟩; clear tk6; replace hZ := hZ.below hb; replace hA := hA.below hb; replace hB := hB.below hb; replace hP1 := hP1.below hb; replace hP2 := hP2.below hb; replace hP3 := hP3.below hb; replace hW := hW.trans (hb.mono hW.size); clear hb)
    | (go_at_call 17; have _t := tk7; refine Calls.mono (mA _ hZ hA hW) ?_; rintro e w107 ⟨q1, rfl, hQ1, hb⟩; clear tk7; replace hZ := hZ.below hb; replace hA := hA.below hb; replace hB := hB.below hb; replace hP1 := hP1.below hb; replace hP2 := hP2.below hb; replace hP3 := hP3.below hb; replace hP4 := hP4.below hb; replace hW := hW.trans (hb.mono hW.size); clear hb)
    | (go_at_call 18; have _t := tk8; refine Calls.mono (mF _ hZ hA hW) ?_; rintro e w108 ⟨q2, rfl, hQ2, hb⟩; clear tk8; replace hZ := hZ.below hb; replace hA := hA.below hb; replace hB := hB.below hb; replace hP1 := hP1.below hb; replace hP2 := hP2.below hb; replace hP3 := hP3.below hb; replace hP4 := hP4.below hb; replace hQ1 := hQ1.below hb; replace hW := hW.trans (hb.mono hW.size); clear hb)
    | (go_at_call 19; have _t := tk9; refine Calls.mono (mI _ hZ hA hW) ?_; rintro e w109 ⟨q3, rfl, hQ3, hb⟩; clear tk9; replace hZ := hZ.below hb; replace hA := hA.below hb; replace hB := hB.below hb; replace hP1 := hP1.below hb; replace hP2 := hP2.below hb; replace hP3 := hP3.below hb; replace hP4 := hP4.below hb; replace hQ1 := hQ1.below hb; replace hQ2 := hQ2.below hb; replace hW := hW.trans (hb.mono hW.size); clear hb)
    | (go_at_call 20; have _t := tk10; refine Calls.mono (mC _ hZ hA hB hW) ?_; rintro e w110 ⟨q4, rfl, hQ4, hb⟩; clear tk10; replace hZ := hZ.below hb; replace hA := hA.below hb; replace hB := hB.below hb; replace hP1 := hP1.below hb; replace hP2 := hP2.below hb; replace hP3 := hP3.below hb; replace hP4 := hP4.below hb; replace hQ1 := hQ1.below hb; replace hQ2 := hQ2.below hb; replace hQ3 := hQ3.below hb; replace hW := hW.trans (hb.mono hW.size); clear hb)
    | (go_at_call 11; have _t := tk11; refine Calls.mono (slices_Equal _ _ _ LA hQ1 hP1) ?_; rintro e w111 ⟨rfl, hb⟩; clear tk11; replace hZ := hZ.below hb; replace hA := hA.below hb; replace hB := hB.below hb; replace hP1 := hP1.below hb; replace hP2 := hP2.below hb; replace hP3 := hP3.below hb; replace hP4 := hP4.below hb; replace hQ1 := hQ1.below hb; replace hQ2 := hQ2.below hb; replace hQ3 := hQ3.below hb; replace hQ4 := hQ4.below hb; replace hW := hW.trans (hb.mono hW.size); clear hb)
    | (go_at_call 11; have _t := tk12; refine Calls.mono (slices_Equal _ _ _ LF hQ2 hP2) ?_; rintro e w112 ⟨rfl, hb⟩; clear tk12; replace hZ := hZ.below hb; replace hA := hA.below hb; replace hB := hB.below hb; replace hP1 := hP1.below hb; replace hP2 := hP2.below hb; replace hP3 := hP3.below hb; replace hP4 := hP4.below hb; replace hQ1 := hQ1.below hb; replace hQ2 := hQ2.below hb; replace hQ3 := hQ3.below hb; replace hQ4 := hQ4.below hb; replace hW := hW.trans (hb.mono hW.size); clear hb)
    | (go_at_call 11; have _t := tk13; refine Calls.mono (slices_Equal _ _ _ LI hQ3 hP3) ?_; rintro e w113 ⟨rfl, hb⟩; clear tk13; replace hZ := hZ.below hb; replace hA := hA.below hb; replace hB := hB.below hb; replace hP1 := hP1.below hb; replace hP2 := hP2.below hb; replace hP3 := hP3.below hb; replace hP4 := hP4.below hb; replace hQ1 := hQ1.below hb; replace hQ2 := hQ2.below hb; replace hQ3 := hQ3.below hb; replace hQ4 := hQ4.below hb; replace hW := hW.trans (hb.mono hW.size); clear hb)
    | (go_at_call 11; have _t := tk14; refine Calls.mono (slices_Equal _ _ _ LC hQ4 hP4) ?_; rintro e w114 ⟨rfl, hb⟩; clear tk14; replace hZ := hZ.below hb; replace hA := hA.below hb; replace hB := hB.below hb; replace hP1 := hP1.below hb; replace hP2 := hP2.below hb; replace hP3 := hP3.below hb; replace hP4 := hP4.below hb; replace hQ1 := hQ1.below hb; replace hQ2 := hQ2.below hb; replace hQ3 := hQ3.below hb; replace hQ4 := hQ4.below hb; replace hW := hW.trans (hb.mono hW.size); clear hb))
  go_ret
  exact ⟨rfl, hW⟩

set_option maxHeartbeats 8000000 in
theorem manyTurns_okb (w : World) (v va vb : Value) (zs : List Int) (xs ys : List Nat) (ds : List Nat) (x : Nat) (back : Bool) (hZ : IsZ w v zs) (hA : IsU w va xs) (hB : IsU w vb ys) (hTb : Tab w) (hG : Good zs ds) (hn : prd2 ds ≤ 64) (hl : xs.length = prd2 ds) (hx : x < ds.length) (hl2 : ys.length ≠ prd2 ds) :
    Calls Tryd.prog 4 #[v, va, vb, .int .i64 (x : Int), .bool back] w fun e w' => e = .returned (.bool true) ∧ Below w.heap.size w w' := by
  have hW : Below w.heap.size w w := Below.refl _ _
  obtain ⟨az, cz, rfl, -⟩ := id hZ
  obtain ⟨aa, ca, rfl, -⟩ := id hA
  obtain ⟨ab, cb, rfl, -⟩ := id hB
  have hlen : zs.length = ds.length := by rw [hG.2.2.1, List.length_map]
  have hn9 : prd2 ds ≤ 1024 := by omega
  have hS : Shp ds := hG.2.2.2
  have hl3 : zs.length ≤ 3 := hG.2.1
  have hl1 : 1 ≤ zs.length := hG.1
  have cS := fun W hz => ref_Shape_ok W (.slice az zs.length cz) zs ds hz hG hn9
  have cIn : ∀ W, Calls Tryd.prog 13 #[.int .i64 (x : Int), .int .i64 0, .int .i64 ((zs.length : Int) - 1)] W fun e w' => e = .returned (.bool true) ∧ w' = W := fun W => ref_In_true x 0 _ (by omega) (by omega) W
  have cW1 := fun W hz ha => ref_Whole W (.slice az zs.length cz) (.slice aa xs.length ca) zs ds xs false hz ha hG hn9 hl
  have cW2 := fun W hz ha => ref_Whole W (.slice az zs.length cz) (.slice aa xs.length ca) zs ds xs true hz ha hG hn9 hl
  have cT : ∀ W : World, IsZ W (.slice az zs.length cz) zs → IsU W (.slice aa xs.length ca) xs → Calls Tryd.prog 14 #[.slice az zs.length cz, .slice aa xs.length ca, .int .i64 (x : Int), .int .i64 0, .int .i64 ((nln ds x : Nat) : Int), .bool back] W fun e w' => ∃ u, e = .returned u ∧ IsU w' u (mk (prd2 ds) (alo ds x back (cf xs))) ∧ Below W.heap.size W w' := fun W hz ha => by
    have := ref_Turned W (.slice az zs.length cz) (.slice aa xs.length ca) zs ds xs x 0 (nln ds x) back hz ha hG hn9 hl hx (Nat.zero_le _) (Nat.le_refl _)
    rw [trn_all hS xs x hx back] at this
    exact this
  have hxz : x < zs.length := by omega
  obtain ⟨bz, oz, rfl, hcell⟩ : ∃ bz oz, az = some ⟨bz, oz, none⟩ ∧ w.cell? ⟨bz, oz + x, none⟩ = some (.int .i64 ((sz ds x : Nat) : Int)) := by
    obtain ⟨a', c', e, _, _, hc, _⟩ := id hZ
    simp only [Value.slice.injEq] at e
    obtain ⟨rfl, -, rfl⟩ := e
    obtain ⟨b, off, e, hcl⟩ := hc x (by omega)
    rw [(Good_get hG x (by omega)).1] at hcl
    exact ⟨b, off, e, hcl⟩
  have hquo : Int.tdiv ((prd2 ds : Nat) : Int) ((sz ds x : Nat) : Int) = ((nln ds x : Nat) : Int) := by rw [Int.tdiv_eq_ediv_of_nonneg (by omega), ← Int.natCast_ediv, nln_div hS x hx]
  have hnl9 : nln ds x ≤ 1024 := by rw [← nln_div hS x hx]; exact Nat.le_trans (Nat.div_le_self _ _) hn9
  have hwq : IntKind.i64.wrap ((nln ds x : Nat) : Int) = ((nln ds x : Nat) : Int) := wraps_i64 _ (Int.natCast_nonneg _) (by omega)
  have hd0 : ¬ sz ds x = 0 := by have := P2_pos (hS.at x hx); omega
  have mA := fun W hz ha (hB : Below w.heap.size w W) => many_Along_ok W (.slice (some ⟨bz, oz, none⟩) zs.length cz) (.slice aa xs.length ca) zs xs ds x back hz ha (hTb.below hB) hG hn9 hl hx
  have mF := fun W hz ha (hB : Below w.heap.size w W) => many_Forward_ok W (.slice (some ⟨bz, oz, none⟩) zs.length cz) (.slice aa xs.length ca) zs xs ds hz ha (hTb.below hB) hG hn9 hl
  have mI := fun W hz ha (hB : Below w.heap.size w W) => many_Inverse_ok W (.slice (some ⟨bz, oz, none⟩) zs.length cz) (.slice aa xs.length ca) zs xs ds hz ha (hTb.below hB) hG hn9 hl
  have mC := fun W hz ha hb => many_Cyclic_form W (.slice (some ⟨bz, oz, none⟩) zs.length cz) (.slice aa xs.length ca) (.slice ab ys.length cb) zs xs ys ds hz ha hb hG hn9 (.inr hl2)
  have hqa : (((xs.length : Nat) : Int) != ((prd2 ds : Nat) : Int)) = false := by rw [hl]; simp
  have hqb : (((ys.length : Nat) : Int) != ((prd2 ds : Nat) : Int)) = true := by rw [bne_iff_ne]; omega
  have hn64 : ¬ (64 : Int) < ((prd2 ds : Nat) : Int) := by omega
  clear hG hS hl hx hl2 hlen
  generalize prd2 ds = n at *
  generalize mk (n) (alo ds x back (cf xs)) = LA at *
  generalize nln ds x = M at *
  generalize sz ds x = d at *
  generalize mk (n) (who ds false (cf xs) ds.length) = LF at *
  generalize mk (n) (who ds true (cf xs) ds.length) = LI at *
  have tk1 : True := trivial
  have tk2 : True := trivial
  have tk3 : True := trivial
  have tk4 : True := trivial
  have tk5 : True := trivial
  have tk6 : True := trivial
  have tk7 : True := trivial
  have tk8 : True := trivial
  have tk9 : True := trivial
  have tk10 : True := trivial
  have tk11 : True := trivial
  have tk12 : True := trivial
  have tk13 : True := trivial
  go_enter Tryd.func4, Tryd.ntmps4
  go_wp2_with (first
    | (go_at_call 12; have _t := tk1; refine Calls.mono (cS _ hZ) ?_; rintro e w' ⟨rfl, hw⟩; rw [hw]; clear hw tk1)
    | (go_at_call 13; have _t := tk2; refine Calls.mono (cIn _) ?_; rintro e w' ⟨rfl, hw⟩; rw [hw]; clear hw tk2)
    | (go_at_call 14; have _t := tk3; refine Calls.mono (cT _ hZ hA) ?_; rintro e w103 ⟨p1, rfl, hP1, hb⟩; clear tk3; replace hZ := hZ.below hb; replace hA := hA.below hb; replace hB := hB.below hb; replace hW := hW.trans (hb.mono hW.size); clear hb)
    | (go_at_call 15; have _t := tk4; refine Calls.mono (cW1 _ hZ hA) ?_; rintro e w104 ⟨p2, rfl, hP2, hb⟩; clear tk4; replace hZ := hZ.below hb; replace hA := hA.below hb; replace hB := hB.below hb; replace hP1 := hP1.below hb; replace hW := hW.trans (hb.mono hW.size); clear hb)
    | (go_at_call 15; have _t := tk5; refine Calls.mono (cW2 _ hZ hA) ?_; rintro e w105 ⟨p3, rfl, hP3, hb⟩; clear tk5; replace hZ := hZ.below hb; replace hA := hA.below hb; replace hB := hB.below hb; replace hP1 := hP1.below hb; replace hP2 := hP2.below hb; replace hW := hW.trans (hb.mono hW.size); clear hb)
    | (go_at_call 17; have _t := tk6; refine Calls.mono (mA _ hZ hA hW) ?_; rintro e w106 ⟨q1, rfl, hQ1, hb⟩; clear tk6; replace hZ := hZ.below hb; replace hA := hA.below hb; replace hB := hB.below hb; replace hP1 := hP1.below hb; replace hP2 := hP2.below hb; replace hP3 := hP3.below hb; replace hW := hW.trans (hb.mono hW.size); clear hb)
    | (go_at_call 18; have _t := tk7; refine Calls.mono (mF _ hZ hA hW) ?_; rintro e w107 ⟨q2, rfl, hQ2, hb⟩; clear tk7; replace hZ := hZ.below hb; replace hA := hA.below hb; replace hB := hB.below hb; replace hP1 := hP1.below hb; replace hP2 := hP2.below hb; replace hP3 := hP3.below hb; replace hQ1 := hQ1.below hb; replace hW := hW.trans (hb.mono hW.size); clear hb)
    | (go_at_call 19; have _t := tk8; refine Calls.mono (mI _ hZ hA hW) ?_; rintro e w108 ⟨q3, rfl, hQ3, hb⟩; clear tk8; replace hZ := hZ.below hb; replace hA := hA.below hb; replace hB := hB.below hb; replace hP1 := hP1.below hb; replace hP2 := hP2.below hb; replace hP3 := hP3.below hb; replace hQ1 := hQ1.below hb; replace hQ2 := hQ2.below hb; replace hW := hW.trans (hb.mono hW.size); clear hb)
    | (go_at_call 20; have _t := tk9; refine Calls.mono (mC _ hZ hA hB) ?_; rintro e w109 ⟨q4, rfl, hQ4, hb⟩; clear tk9; replace hZ := hZ.below hb; replace hA := hA.below hb; replace hB := hB.below hb; replace hP1 := hP1.below hb; replace hP2 := hP2.below hb; replace hP3 := hP3.below hb; replace hQ1 := hQ1.below hb; replace hQ2 := hQ2.below hb; replace hQ3 := hQ3.below hb; replace hW := hW.trans (hb.mono hW.size); clear hb)
    | (go_at_call 11; have _t := tk10; refine Calls.mono (slices_Equal _ _ _ LA hQ1 hP1) ?_; rintro e w110 ⟨rfl, hb⟩; clear tk10; replace hZ := hZ.below hb; replace hA := hA.below hb; replace hB := hB.below hb; replace hP1 := hP1.below hb; replace hP2 := hP2.below hb; replace hP3 := hP3.below hb; replace hQ1 := hQ1.below hb; replace hQ2 := hQ2.below hb; replace hQ3 := hQ3.below hb; replace hQ4 := hQ4.below hb; replace hW := hW.trans (hb.mono hW.size); clear hb)
    | (go_at_call 11; have _t := tk11; refine Calls.mono (slices_Equal _ _ _ LF hQ2 hP2) ?_; rintro e w111 ⟨rfl, hb⟩; clear tk11; replace hZ := hZ.below hb; replace hA := hA.below hb; replace hB := hB.below hb; replace hP1 := hP1.below hb; replace hP2 := hP2.below hb; replace hP3 := hP3.below hb; replace hQ1 := hQ1.below hb; replace hQ2 := hQ2.below hb; replace hQ3 := hQ3.below hb; replace hQ4 := hQ4.below hb; replace hW := hW.trans (hb.mono hW.size); clear hb)
    | (go_at_call 11; have _t := tk12; refine Calls.mono (slices_Equal _ _ _ LI hQ3 hP3) ?_; rintro e w112 ⟨rfl, hb⟩; clear tk12; replace hZ := hZ.below hb; replace hA := hA.below hb; replace hB := hB.below hb; replace hP1 := hP1.below hb; replace hP2 := hP2.below hb; replace hP3 := hP3.below hb; replace hQ1 := hQ1.below hb; replace hQ2 := hQ2.below hb; replace hQ3 := hQ3.below hb; replace hQ4 := hQ4.below hb; replace hW := hW.trans (hb.mono hW.size); clear hb)
    | (go_at_call 11; have _t := tk13; refine Calls.mono (slices_Equal _ _ _ [] hQ4 (IsU.nil _)) ?_; rintro e w113 ⟨rfl, hb⟩; clear tk13; replace hZ := hZ.below hb; replace hA := hA.below hb; replace hB := hB.below hb; replace hP1 := hP1.below hb; replace hP2 := hP2.below hb; replace hP3 := hP3.below hb; replace hQ1 := hQ1.below hb; replace hQ2 := hQ2.below hb; replace hQ3 := hQ3.below hb; replace hQ4 := hQ4.below hb; replace hW := hW.trans (hb.mono hW.size); clear hb))
  go_ret
  exact ⟨rfl, hW⟩

set_option maxHeartbeats 8000000 in
theorem manyTurns_arg (w : World) (v va vb : Value) (zs : List Int) (xs ys : List Nat) (ds : List Nat) (x : Int) (back : Bool) (hZ : IsZ w v zs) (hA : IsU w va xs) (hB : IsU w vb ys) (hTb : Tab w) (hG : Good zs ds) (hn : prd2 ds ≤ 64) (hl : xs.length = prd2 ds) (hx : x < 0 ∨ (ds.length : Int) ≤ x) (hw : (Lit.int .i64 x).wf = true) (hl2 : ys.length = prd2 ds) :
    Calls Tryd.prog 4 #[v, va, vb, .int .i64 x, .bool back] w fun e w' => e = .returned (.bool true) ∧ Below w.heap.size w w' := by
  have hW : Below w.heap.size w w := Below.refl _ _
  obtain ⟨az, cz, rfl, -⟩ := id hZ
  obtain ⟨aa, ca, rfl, -⟩ := id hA
  obtain ⟨ab, cb, rfl, -⟩ := id hB
  have hlen : zs.length = ds.length := by rw [hG.2.2.1, List.length_map]
  have hn9 : prd2 ds ≤ 1024 := by omega
  have hS : Shp ds := hG.2.2.2
  have hl3 : zs.length ≤ 3 := hG.2.1
  have hl1 : 1 ≤ zs.length := hG.1
  have cS := fun W hz => ref_Shape_ok W (.slice az zs.length cz) zs ds hz hG hn9
  have cIn : ∀ W, Calls Tryd.prog 13 #[.int .i64 x, .int .i64 0, .int .i64 ((zs.length : Int) - 1)] W fun e w' => e = .returned (.bool false) ∧ w' = W := by
    intro W
    rcases Int.lt_or_le x 0 with h1 | h1
    · exact ref_In_low x 0 _ h1 W
    · exact ref_In_high x 0 _ h1 (by omega) W
  have cW1 := fun W hz ha => ref_Whole W (.slice az zs.length cz) (.slice aa xs.length ca) zs ds xs false hz ha hG hn9 hl
  have cW2 := fun W hz ha => ref_Whole W (.slice az zs.length cz) (.slice aa xs.length ca) zs ds xs true hz ha hG hn9 hl
  have cR := fun W hz ha hb => ref_Wrapped W (.slice az zs.length cz) (.slice aa xs.length ca) (.slice ab ys.length cb) zs ds xs ys hz ha hb hG hn9 hl hl2
  have mA := fun W hz ha => many_Along_arg W (.slice az zs.length cz) (.slice aa xs.length ca) zs xs ds x back hz ha hG hn9 hl hx hw
  have mF := fun W hz ha (hB : Below w.heap.size w W) => many_Forward_ok W (.slice az zs.length cz) (.slice aa xs.length ca) zs xs ds hz ha (hTb.below hB) hG hn9 hl
  have mI := fun W hz ha (hB : Below w.heap.size w W) => many_Inverse_ok W (.slice az zs.length cz) (.slice aa xs.length ca) zs xs ds hz ha (hTb.below hB) hG hn9 hl
  have mC := fun W hz ha hb (hB : Below w.heap.size w W) => many_Cyclic_ok W (.slice az zs.length cz) (.slice aa xs.length ca) (.slice ab ys.length cb) zs xs ys ds hz ha hb (hTb.below hB) hG hn9 hl hl2
  have hqa : (((xs.length : Nat) : Int) != ((prd2 ds : Nat) : Int)) = false := by rw [hl]; simp
  have hqb : (((ys.length : Nat) : Int) != ((prd2 ds : Nat) : Int)) = false := by rw [hl2]; simp
  have hn64 : ¬ (64 : Int) < ((prd2 ds : Nat) : Int) := by omega
  clear hG hS hl hx hl2 hw hlen
  generalize prd2 ds = n at *
  generalize mk (n) (who ds false (cf xs) ds.length) = LF at *
  generalize mk (n) (who ds true (cf xs) ds.length) = LI at *
  generalize mk (n) (cyD ds (cf xs) (cf ys)) = LC at *
  have tk1 : True := trivial
  have tk2 : True := trivial
  have tk3 : True := trivial
  have tk4 : True := trivial
  have tk5 : True := trivial
  have tk6 : True := trivial
  have tk7 : True := trivial
  have tk8 : True := trivial
  have tk9 : True := trivial
  have tk10 : True := trivial
  have tk11 : True := trivial
  have tk12 : True := trivial
  have tk13 : True := trivial
  go_enter Tryd.func4, Tryd.ntmps4
  go_wp2_with (first
    | (go_at_call 12; have _t := tk1; refine Calls.mono (cS _ hZ) ?_; rintro e w' ⟨rfl, hw⟩; rw [hw]; clear hw tk1)
    | (go_at_call 13; have _t := tk2; refine Calls.mono (cIn _) ?_; rintro e w' ⟨rfl, hw⟩; rw [hw]; clear hw tk2)
    | (go_at_call 15; have _t := tk3; refine Calls.mono (cW1 _ hZ hA) ?_; rintro e w103 ⟨p2, rfl, hP2, hb⟩; clear tk3; replace hZ := hZ.below hb; replace hA := hA.below hb; replace hB := hB.below hb; replace hW := hW.trans (hb.mono hW.size); clear hb)
    | (go_at_call 15; have _t := tk4; refine Calls.mono (cW2 _ hZ hA) ?_; rintro e w104 ⟨p3, rfl, hP3, hb⟩; clear tk4; replace hZ := hZ.below hb; replace hA := hA.below hb; replace hB := hB.below hb; replace hP2 := hP2.below hb; replace hW := hW.trans (hb.mono hW.size); clear hb)
    | (go_at_call 16; have _t := tk5; refine Calls.mono (cR _ hZ hA hB) ?_; rintro e w105 ⟨p4, rfl, hP4, hb⟩; clear tk5; replace hZ := hZ.below hb; replace hA := hA.below hb; replace hB := hB.below hb; replace hP2 := hP2.below hb; replace hP3 := hP3.below hb; replace hW := hW.trans (hb.mono hW.size); clear hb)
    | (go_at_call 17; have _t := tk6; refine Calls.mono (mA _ hZ hA) ?_; rintro e w106 ⟨q1, rfl, hQ1, hb⟩; clear tk6; replace hZ := hZ.below hb; replace hA := hA.below hb; replace hB := hB.below hb; replace hP2 := hP2.below hb; replace hP3 := hP3.below hb; replace hP4 := hP4.below hb; replace hW := hW.trans (hb.mono hW.size); clear hb)
    | (go_at_call 18; have _t := tk7; refine Calls.mono (mF _ hZ hA hW) ?_; rintro e w107 ⟨q2, rfl, hQ2, hb⟩; clear tk7; replace hZ := hZ.below hb; replace hA := hA.below hb; replace hB := hB.below hb; replace hP2 := hP2.below hb; replace hP3 := hP3.below hb; replace hP4 := hP4.below hb; replace hQ1 := hQ1.below hb; replace hW := hW.trans (hb.mono hW.size); clear hb)
    | (go_at_call 19; have _t := tk8; refine Calls.mono (mI _ hZ hA hW) ?_; rintro e w108 ⟨q3, rfl, hQ3, hb⟩; clear tk8; replace hZ := hZ.below hb; replace hA := hA.below hb; replace hB := hB.below hb; replace hP2 := hP2.below hb; replace hP3 := hP3.below hb; replace hP4 := hP4.below hb; replace hQ1 := hQ1.below hb; replace hQ2 := hQ2.below hb; replace hW := hW.trans (hb.mono hW.size); clear hb)
    | (go_at_call 20; have _t := tk9; refine Calls.mono (mC _ hZ hA hB hW) ?_; rintro e w109 ⟨q4, rfl, hQ4, hb⟩; clear tk9; replace hZ := hZ.below hb; replace hA := hA.below hb; replace hB := hB.below hb; replace hP2 := hP2.below hb; replace hP3 := hP3.below hb; replace hP4 := hP4.below hb; replace hQ1 := hQ1.below hb; replace hQ2 := hQ2.below hb; replace hQ3 := hQ3.below hb; replace hW := hW.trans (hb.mono hW.size); clear hb)
    | (go_at_call 11; have _t := tk10; refine Calls.mono (slices_Equal _ _ _ [] hQ1 (IsU.nil _)) ?_; rintro e w110 ⟨rfl, hb⟩; clear tk10; replace hZ := hZ.below hb; replace hA := hA.below hb; replace hB := hB.below hb; replace hP2 := hP2.below hb; replace hP3 := hP3.below hb; replace hP4 := hP4.below hb; replace hQ1 := hQ1.below hb; replace hQ2 := hQ2.below hb; replace hQ3 := hQ3.below hb; replace hQ4 := hQ4.below hb; replace hW := hW.trans (hb.mono hW.size); clear hb)
    | (go_at_call 11; have _t := tk11; refine Calls.mono (slices_Equal _ _ _ LF hQ2 hP2) ?_; rintro e w111 ⟨rfl, hb⟩; clear tk11; replace hZ := hZ.below hb; replace hA := hA.below hb; replace hB := hB.below hb; replace hP2 := hP2.below hb; replace hP3 := hP3.below hb; replace hP4 := hP4.below hb; replace hQ1 := hQ1.below hb; replace hQ2 := hQ2.below hb; replace hQ3 := hQ3.below hb; replace hQ4 := hQ4.below hb; replace hW := hW.trans (hb.mono hW.size); clear hb)
    | (go_at_call 11; have _t := tk12; refine Calls.mono (slices_Equal _ _ _ LI hQ3 hP3) ?_; rintro e w112 ⟨rfl, hb⟩; clear tk12; replace hZ := hZ.below hb; replace hA := hA.below hb; replace hB := hB.below hb; replace hP2 := hP2.below hb; replace hP3 := hP3.below hb; replace hP4 := hP4.below hb; replace hQ1 := hQ1.below hb; replace hQ2 := hQ2.below hb; replace hQ3 := hQ3.below hb; replace hQ4 := hQ4.below hb; replace hW := hW.trans (hb.mono hW.size); clear hb)
    | (go_at_call 11; have _t := tk13; refine Calls.mono (slices_Equal _ _ _ LC hQ4 hP4) ?_; rintro e w113 ⟨rfl, hb⟩; clear tk13; replace hZ := hZ.below hb; replace hA := hA.below hb; replace hB := hB.below hb; replace hP2 := hP2.below hb; replace hP3 := hP3.below hb; replace hP4 := hP4.below hb; replace hQ1 := hQ1.below hb; replace hQ2 := hQ2.below hb; replace hQ3 := hQ3.below hb; replace hQ4 := hQ4.below hb; replace hW := hW.trans (hb.mono hW.size); clear hb))
  go_ret
  exact ⟨rfl, hW⟩

set_option maxHeartbeats 8000000 in
theorem manyTurns_argb (w : World) (v va vb : Value) (zs : List Int) (xs ys : List Nat) (ds : List Nat) (x : Int) (back : Bool) (hZ : IsZ w v zs) (hA : IsU w va xs) (hB : IsU w vb ys) (hTb : Tab w) (hG : Good zs ds) (hn : prd2 ds ≤ 64) (hl : xs.length = prd2 ds) (hx : x < 0 ∨ (ds.length : Int) ≤ x) (hw : (Lit.int .i64 x).wf = true) (hl2 : ys.length ≠ prd2 ds) :
    Calls Tryd.prog 4 #[v, va, vb, .int .i64 x, .bool back] w fun e w' => e = .returned (.bool true) ∧ Below w.heap.size w w' := by
  have hW : Below w.heap.size w w := Below.refl _ _
  obtain ⟨az, cz, rfl, -⟩ := id hZ
  obtain ⟨aa, ca, rfl, -⟩ := id hA
  obtain ⟨ab, cb, rfl, -⟩ := id hB
  have hlen : zs.length = ds.length := by rw [hG.2.2.1, List.length_map]
  have hn9 : prd2 ds ≤ 1024 := by omega
  have hS : Shp ds := hG.2.2.2
  have hl3 : zs.length ≤ 3 := hG.2.1
  have hl1 : 1 ≤ zs.length := hG.1
  have cS := fun W hz => ref_Shape_ok W (.slice az zs.length cz) zs ds hz hG hn9
  have cIn : ∀ W, Calls Tryd.prog 13 #[.int .i64 x, .int .i64 0, .int .i64 ((zs.length : Int) - 1)] W fun e w' => e = .returned (.bool false) ∧ w' = W := by
    intro W
    rcases Int.lt_or_le x 0 with h1 | h1
    · exact ref_In_low x 0 _ h1 W
    · exact ref_In_high x 0 _ h1 (by omega) W
  have cW1 := fun W hz ha => ref_Whole W (.slice az zs.length cz) (.slice aa xs.length ca) zs ds xs false hz ha hG hn9 hl
  have cW2 := fun W hz ha => ref_Whole W (.slice az zs.length cz) (.slice aa xs.length ca) zs ds xs true hz ha hG hn9 hl
  have mA := fun W hz ha => many_Along_arg W (.slice az zs.length cz) (.slice aa xs.length ca) zs xs ds x back hz ha hG hn9 hl hx hw
  have mF := fun W hz ha (hB : Below w.heap.size w W) => many_Forward_ok W (.slice az zs.length cz) (.slice aa xs.length ca) zs xs ds hz ha (hTb.below hB) hG hn9 hl
  have mI := fun W hz ha (hB : Below w.heap.size w W) => many_Inverse_ok W (.slice az zs.length cz) (.slice aa xs.length ca) zs xs ds hz ha (hTb.below hB) hG hn9 hl
  have mC := fun W hz ha hb => many_Cyclic_form W (.slice az zs.length cz) (.slice aa xs.length ca) (.slice ab ys.length cb) zs xs ys ds hz ha hb hG hn9 (.inr hl2)
  have hqa : (((xs.length : Nat) : Int) != ((prd2 ds : Nat) : Int)) = false := by rw [hl]; simp
  have hqb : (((ys.length : Nat) : Int) != ((prd2 ds : Nat) : Int)) = true := by rw [bne_iff_ne]; omega
  have hn64 : ¬ (64 : Int) < ((prd2 ds : Nat) : Int) := by omega
  clear hG hS hl hx hl2 hw hlen
  generalize prd2 ds = n at *
  generalize mk (n) (who ds false (cf xs) ds.length) = LF at *
  generalize mk (n) (who ds true (cf xs) ds.length) = LI at *
  have tk1 : True := trivial
  have tk2 : True := trivial
  have tk3 : True := trivial
  have tk4 : True := trivial
  have tk5 : True := trivial
  have tk6 : True := trivial
  have tk7 : True := trivial
  have tk8 : True := trivial
  have tk9 : True := trivial
  have tk10 : True := trivial
  have tk11 : True := trivial
  have tk12 : True := trivial
  go_enter Tryd.func4, Tryd.ntmps4
  go_wp2_with (first
    | (go_at_call 12; have _t := tk1; refine Calls.mono (cS _ hZ) ?_; rintro e w' ⟨rfl, hw⟩; rw [hw]; clear hw tk1)
    | (go_at_call 13; have _t := tk2; refine Calls.mono (cIn _) ?_; rintro e w' ⟨rfl, hw⟩; rw [hw]; clear hw tk2)
    | (go_at_call 15; have _t := tk3; refine Calls.mono (cW1 _ hZ hA) ?_; rintro e w103 ⟨p2, rfl, hP2, hb⟩; clear tk3; replace hZ := hZ.below hb; replace hA := hA.below hb; replace hB := hB.below hb; replace hW := hW.trans (hb.mono hW.size); clear hb)
    | (go_at_call 15; have _t := tk4; refine Calls.mono (cW2 _ hZ hA) ?_; rintro e w104 ⟨p3, rfl, hP3, hb⟩; clear tk4; replace hZ := hZ.below hb; replace hA := hA.below hb; replace hB := hB.below hb; replace hP2 := hP2.below hb; replace hW := hW.trans (hb.mono hW.size); clear hb)
    | (go_at_call 17; have _t := tk5; refine Calls.mono (mA _ hZ hA) ?_; rintro e w105 ⟨q1, rfl, hQ1, hb⟩; clear tk5; replace hZ := hZ.below hb; replace hA := hA.below hb; replace hB := hB.below hb; replace hP2 := hP2.below hb; replace hP3 := hP3.below hb; replace hW := hW.trans (hb.mono hW.size); clear hb)
    | (go_at_call 18; have _t := tk6; refine Calls.mono (mF _ hZ hA hW) ?_; rintro e w106 ⟨q2, rfl, hQ2, hb⟩; clear tk6; replace hZ := hZ.below hb; replace hA := hA.below hb; replace hB := hB.below hb; replace hP2 := hP2.below hb; replace hP3 := hP3.below hb; replace hQ1 := hQ1.below hb; replace hW := hW.trans (hb.mono hW.size); clear hb)
    | (go_at_call 19; have _t := tk7; refine Calls.mono (mI _ hZ hA hW) ?_; rintro e w107 ⟨q3, rfl, hQ3, hb⟩; clear tk7; replace hZ := hZ.below hb; replace hA := hA.below hb; replace hB := hB.below hb; replace hP2 := hP2.below hb; replace hP3 := hP3.below hb; replace hQ1 := hQ1.below hb; replace hQ2 := hQ2.below hb; replace hW := hW.trans (hb.mono hW.size); clear hb)
    | (go_at_call 20; have _t := tk8; refine Calls.mono (mC _ hZ hA hB) ?_; rintro e w108 ⟨q4, rfl, hQ4, hb⟩; clear tk8; replace hZ := hZ.below hb; replace hA := hA.below hb; replace hB := hB.below hb; replace hP2 := hP2.below hb; replace hP3 := hP3.below hb; replace hQ1 := hQ1.below hb; replace hQ2 := hQ2.below hb; replace hQ3 := hQ3.below hb; replace hW := hW.trans (hb.mono hW.size); clear hb)
    | (go_at_call 11; have _t := tk9; refine Calls.mono (slices_Equal _ _ _ [] hQ1 (IsU.nil _)) ?_; rintro e w109 ⟨rfl, hb⟩; clear tk9; replace hZ := hZ.below hb; replace hA := hA.below hb; replace hB := hB.below hb; replace hP2 := hP2.below hb; replace hP3 := hP3.below hb; replace hQ1 := hQ1.below hb; replace hQ2 := hQ2.below hb; replace hQ3 := hQ3.below hb; replace hQ4 := hQ4.below hb; replace hW := hW.trans (hb.mono hW.size); clear hb)
    | (go_at_call 11; have _t := tk10; refine Calls.mono (slices_Equal _ _ _ LF hQ2 hP2) ?_; rintro e w110 ⟨rfl, hb⟩; clear tk10; replace hZ := hZ.below hb; replace hA := hA.below hb; replace hB := hB.below hb; replace hP2 := hP2.below hb; replace hP3 := hP3.below hb; replace hQ1 := hQ1.below hb; replace hQ2 := hQ2.below hb; replace hQ3 := hQ3.below hb; replace hQ4 := hQ4.below hb; replace hW := hW.trans (hb.mono hW.size); clear hb)
    | (go_at_call 11; have _t := tk11; refine Calls.mono (slices_Equal _ _ _ LI hQ3 hP3) ?_; rintro e w111 ⟨rfl, hb⟩; clear tk11; replace hZ := hZ.below hb; replace hA := hA.below hb; replace hB := hB.below hb; replace hP2 := hP2.below hb; replace hP3 := hP3.below hb; replace hQ1 := hQ1.below hb; replace hQ2 := hQ2.below hb; replace hQ3 := hQ3.below hb; replace hQ4 := hQ4.below hb; replace hW := hW.trans (hb.mono hW.size); clear hb)
    | (go_at_call 11; have _t := tk12; refine Calls.mono (slices_Equal _ _ _ [] hQ4 (IsU.nil _)) ?_; rintro e w112 ⟨rfl, hb⟩; clear tk12; replace hZ := hZ.below hb; replace hA := hA.below hb; replace hB := hB.below hb; replace hP2 := hP2.below hb; replace hP3 := hP3.below hb; replace hQ1 := hQ1.below hb; replace hQ2 := hQ2.below hb; replace hQ3 := hQ3.below hb; replace hQ4 := hQ4.below hb; replace hW := hW.trans (hb.mono hW.size); clear hb))
  go_ret
  exact ⟨rfl, hW⟩

set_option maxHeartbeats 8000000 in
theorem manyTurns_form (w : World) (v va vb : Value) (zs : List Int) (xs ys : List Nat) (ds : List Nat) (x : Int) (back : Bool) (hZ : IsZ w v zs) (hA : IsU w va xs) (hB : IsU w vb ys) (hG : Good zs ds) (hn : prd2 ds ≤ 64) (hl : xs.length ≠ prd2 ds) (hw : (Lit.int .i64 x).wf = true) (hl2 : ys.length = prd2 ds) :
    Calls Tryd.prog 4 #[v, va, vb, .int .i64 x, .bool back] w fun e w' => e = .returned (.bool true) ∧ Below w.heap.size w w' := by
  have hW : Below w.heap.size w w := Below.refl _ _
  obtain ⟨az, cz, rfl, -⟩ := id hZ
  obtain ⟨aa, ca, rfl, -⟩ := id hA
  obtain ⟨ab, cb, rfl, -⟩ := id hB
  have hlen : zs.length = ds.length := by rw [hG.2.2.1, List.length_map]
  have hn9 : prd2 ds ≤ 1024 := by omega
  have hS : Shp ds := hG.2.2.2
  have hl3 : zs.length ≤ 3 := hG.2.1
  have hl1 : 1 ≤ zs.length := hG.1
  have cS := fun W hz => ref_Shape_ok W (.slice az zs.length cz) zs ds hz hG hn9
  have mA := fun W hz ha => many_Along_form W (.slice az zs.length cz) (.slice aa xs.length ca) zs xs ds x back hz ha hG hn9 hl hw
  have mF := fun W hz ha => many_Forward_form W (.slice az zs.length cz) (.slice aa xs.length ca) zs xs ds hz ha hG hn9 hl
  have mI := fun W hz ha => many_Inverse_form W (.slice az zs.length cz) (.slice aa xs.length ca) zs xs ds hz ha hG hn9 hl
  have mC := fun W hz ha hb => many_Cyclic_form W (.slice az zs.length cz) (.slice aa xs.length ca) (.slice ab ys.length cb) zs xs ys ds hz ha hb hG hn9 (.inl hl)
  have hqa : (((xs.length : Nat) : Int) != ((prd2 ds : Nat) : Int)) = true := by rw [bne_iff_ne]; omega
  have hqb : (((ys.length : Nat) : Int) != ((prd2 ds : Nat) : Int)) = false := by rw [hl2]; simp
  have hn64 : ¬ (64 : Int) < ((prd2 ds : Nat) : Int) := by omega
  clear hG hS hl hl2 hw hlen
  generalize prd2 ds = n at *
  have tk1 : True := trivial
  have tk2 : True := trivial
  have tk3 : True := trivial
  have tk4 : True := trivial
  have tk5 : True := trivial
  have tk6 : True := trivial
  have tk7 : True := trivial
  have tk8 : True := trivial
  have tk9 : True := trivial
  go_enter Tryd.func4, Tryd.ntmps4
  go_wp2_with (first
    | (go_at_call 12; have _t := tk1; refine Calls.mono (cS _ hZ) ?_; rintro e w' ⟨rfl, hw⟩; rw [hw]; clear hw tk1)
    | (go_at_call 17; have _t := tk2; refine Calls.mono (mA _ hZ hA) ?_; rintro e w102 ⟨q1, rfl, hQ1, hb⟩; clear tk2; replace hZ := hZ.below hb; replace hA := hA.below hb; replace hB := hB.below hb; replace hW := hW.trans (hb.mono hW.size); clear hb)
    | (go_at_call 18; have _t := tk3; refine Calls.mono (mF _ hZ hA) ?_; rintro e w103 ⟨q2, rfl, hQ2, hb⟩; clear tk3; replace hZ := hZ.below hb; replace hA := hA.below hb; replace hB := hB.below hb; replace hQ1 := hQ1.below hb; replace hW := hW.trans (hb.mono hW.size); clear hb)
    | (go_at_call 19; have _t := tk4; refine Calls.mono (mI _ hZ hA) ?_; rintro e w104 ⟨q3, rfl, hQ3, hb⟩; clear tk4; replace hZ := hZ.below hb; replace hA := hA.below hb; replace hB := hB.below hb; replace hQ1 := hQ1.below hb; replace hQ2 := hQ2.below hb; replace hW := hW.trans (hb.mono hW.size); clear hb)
    | (go_at_call 20; have _t := tk5; refine Calls.mono (mC _ hZ hA hB) ?_; rintro e w105 ⟨q4, rfl, hQ4, hb⟩; clear tk5; replace hZ := hZ.below hb; replace hA := hA.below hb; replace hB := hB.below hb; replace hQ1 := hQ1.below hb; replace hQ2 := hQ2.below hb; replace hQ3 := hQ3.below hb; replace hW := hW.trans (hb.mono hW.size); clear hb)
    | (go_at_call 11; have _t := tk6; refine Calls.mono (slices_Equal _ _ _ [] hQ1 (IsU.nil _)) ?_; rintro e w106 ⟨rfl, hb⟩; clear tk6; replace hZ := hZ.below hb; replace hA := hA.below hb; replace hB := hB.below hb; replace hQ1 := hQ1.below hb; replace hQ2 := hQ2.below hb; replace hQ3 := hQ3.below hb; replace hQ4 := hQ4.below hb; replace hW := hW.trans (hb.mono hW.size); clear hb)
    | (go_at_call 11; have _t := tk7; refine Calls.mono (slices_Equal _ _ _ [] hQ2 (IsU.nil _)) ?_; rintro e w107 ⟨rfl, hb⟩; clear tk7; replace hZ := hZ.below hb; replace hA := hA.below hb; replace hB := hB.below hb; replace hQ1 := hQ1.below hb; replace hQ2 := hQ2.below hb; replace hQ3 := hQ3.below hb; replace hQ4 := hQ4.below hb; replace hW := hW.trans (hb.mono hW.size); clear hb)
    | (go_at_call 11; have _t := tk8; refine Calls.mono (slices_Equal _ _ _ [] hQ3 (IsU.nil _)) ?_; rintro e w108 ⟨rfl, hb⟩; clear tk8; replace hZ := hZ.below hb; replace hA := hA.below hb; replace hB := hB.below hb; replace hQ1 := hQ1.below hb; replace hQ2 := hQ2.below hb; replace hQ3 := hQ3.below hb; replace hQ4 := hQ4.below hb; replace hW := hW.trans (hb.mono hW.size); clear hb)
    | (go_at_call 11; have _t := tk9; refine Calls.mono (slices_Equal _ _ _ [] hQ4 (IsU.nil _)) ?_; rintro e w109 ⟨rfl, hb⟩; clear tk9; replace hZ := hZ.below hb; replace hA := hA.below hb; replace hB := hB.below hb; replace hQ1 := hQ1.below hb; replace hQ2 := hQ2.below hb; replace hQ3 := hQ3.below hb; replace hQ4 := hQ4.below hb; replace hW := hW.trans (hb.mono hW.size); clear hb))
  go_ret
  exact ⟨rfl, hW⟩

set_option maxHeartbeats 8000000 in
theorem manyTurns_formb (w : World) (v va vb : Value) (zs : List Int) (xs ys : List Nat) (ds : List Nat) (x : Int) (back : Bool) (hZ : IsZ w v zs) (hA : IsU w va xs) (hB : IsU w vb ys) (hG : Good zs ds) (hn : prd2 ds ≤ 64) (hl : xs.length ≠ prd2 ds) (hw : (Lit.int .i64 x).wf = true) (hl2 : ys.length ≠ prd2 ds) :
    Calls Tryd.prog 4 #[v, va, vb, .int .i64 x, .bool back] w fun e w' => e = .returned (.bool true) ∧ Below w.heap.size w w' := by
  have hW : Below w.heap.size w w := Below.refl _ _
  obtain ⟨az, cz, rfl, -⟩ := id hZ
  obtain ⟨aa, ca, rfl, -⟩ := id hA
  obtain ⟨ab, cb, rfl, -⟩ := id hB
  have hlen : zs.length = ds.length := by rw [hG.2.2.1, List.length_map]
  have hn9 : prd2 ds ≤ 1024 := by omega
  have hS : Shp ds := hG.2.2.2
  have hl3 : zs.length ≤ 3 := hG.2.1
  have hl1 : 1 ≤ zs.length := hG.1
  have cS := fun W hz => ref_Shape_ok W (.slice az zs.length cz) zs ds hz hG hn9
  have mA := fun W hz ha => many_Along_form W (.slice az zs.length cz) (.slice aa xs.length ca) zs xs ds x back hz ha hG hn9 hl hw
  have mF := fun W hz ha => many_Forward_form W (.slice az zs.length cz) (.slice aa xs.length ca) zs xs ds hz ha hG hn9 hl
  have mI := fun W hz ha => many_Inverse_form W (.slice az zs.length cz) (.slice aa xs.length ca) zs xs ds hz ha hG hn9 hl
  have mC := fun W hz ha hb => many_Cyclic_form W (.slice az zs.length cz) (.slice aa xs.length ca) (.slice ab ys.length cb) zs xs ys ds hz ha hb hG hn9 (.inl hl)
  have hqa : (((xs.length : Nat) : Int) != ((prd2 ds : Nat) : Int)) = true := by rw [bne_iff_ne]; omega
  have hqb : (((ys.length : Nat) : Int) != ((prd2 ds : Nat) : Int)) = true := by rw [bne_iff_ne]; omega
  have hn64 : ¬ (64 : Int) < ((prd2 ds : Nat) : Int) := by omega
  clear hG hS hl hl2 hw hlen
  generalize prd2 ds = n at *
  have tk1 : True := trivial
  have tk2 : True := trivial
  have tk3 : True := trivial
  have tk4 : True := trivial
  have tk5 : True := trivial
  have tk6 : True := trivial
  have tk7 : True := trivial
  have tk8 : True := trivial
  have tk9 : True := trivial
  go_enter Tryd.func4, Tryd.ntmps4
  go_wp2_with (first
    | (go_at_call 12; have _t := tk1; refine Calls.mono (cS _ hZ) ?_; rintro e w' ⟨rfl, hw⟩; rw [hw]; clear hw tk1)
    | (go_at_call 17; have _t := tk2; refine Calls.mono (mA _ hZ hA) ?_; rintro e w102 ⟨q1, rfl, hQ1, hb⟩; clear tk2; replace hZ := hZ.below hb; replace hA := hA.below hb; replace hB := hB.below hb; replace hW := hW.trans (hb.mono hW.size); clear hb)
    | (go_at_call 18; have _t := tk3; refine Calls.mono (mF _ hZ hA) ?_; rintro e w103 ⟨q2, rfl, hQ2, hb⟩; clear tk3; replace hZ := hZ.below hb; replace hA := hA.below hb; replace hB := hB.below hb; replace hQ1 := hQ1.below hb; replace hW := hW.trans (hb.mono hW.size); clear hb)
    | (go_at_call 19; have _t := tk4; refine Calls.mono (mI _ hZ hA) ?_; rintro e w104 ⟨q3, rfl, hQ3, hb⟩; clear tk4; replace hZ := hZ.below hb; replace hA := hA.below hb; replace hB := hB.below hb; replace hQ1 := hQ1.below hb; replace hQ2 := hQ2.below hb; replace hW := hW.trans (hb.mono hW.size); clear hb)
    | (go_at_call 20; have _t := tk5; refine Calls.mono (mC _ hZ hA hB) ?_; rintro e w105 ⟨q4, rfl, hQ4, hb⟩; clear tk5; replace hZ := hZ.below hb; replace hA := hA.below hb; replace hB := hB.below hb; replace hQ1 := hQ1.below hb; replace hQ2 := hQ2.below hb; replace hQ3 := hQ3.below hb; replace hW := hW.trans (hb.mono hW.size); clear hb)
    | (go_at_call 11; have _t := tk6; refine Calls.mono (slices_Equal _ _ _ [] hQ1 (IsU.nil _)) ?_; rintro e w106 ⟨rfl, hb⟩; clear tk6; replace hZ := hZ.below hb; replace hA := hA.below hb; replace hB := hB.below hb; replace hQ1 := hQ1.below hb; replace hQ2 := hQ2.below hb; replace hQ3 := hQ3.below hb; replace hQ4 := hQ4.below hb; replace hW := hW.trans (hb.mono hW.size); clear hb)
    | (go_at_call 11; have _t := tk7; refine Calls.mono (slices_Equal _ _ _ [] hQ2 (IsU.nil _)) ?_; rintro e w107 ⟨rfl, hb⟩; clear tk7; replace hZ := hZ.below hb; replace hA := hA.below hb; replace hB := hB.below hb; replace hQ1 := hQ1.below hb; replace hQ2 := hQ2.below hb; replace hQ3 := hQ3.below hb; replace hQ4 := hQ4.below hb; replace hW := hW.trans (hb.mono hW.size); clear hb)
    | (go_at_call 11; have _t := tk8; refine Calls.mono (slices_Equal _ _ _ [] hQ3 (IsU.nil _)) ?_; rintro e w108 ⟨rfl, hb⟩; clear tk8; replace hZ := hZ.below hb; replace hA := hA.below hb; replace hB := hB.below hb; replace hQ1 := hQ1.below hb; replace hQ2 := hQ2.below hb; replace hQ3 := hQ3.below hb; replace hQ4 := hQ4.below hb; replace hW := hW.trans (hb.mono hW.size); clear hb)
    | (go_at_call 11; have _t := tk9; refine Calls.mono (slices_Equal _ _ _ [] hQ4 (IsU.nil _)) ?_; rintro e w109 ⟨rfl, hb⟩; clear tk9; replace hZ := hZ.below hb; replace hA := hA.below hb; replace hB := hB.below hb; replace hQ1 := hQ1.below hb; replace hQ2 := hQ2.below hb; replace hQ3 := hQ3.below hb; replace hQ4 := hQ4.below hb; replace hW := hW.trans (hb.mono hW.size); clear hb))
  go_ret
  exact ⟨rfl, hW⟩

theorem manyTurns_walk (w : World) (v : Value) (zs : List Int) (hZ : IsZ w v zs) (va : Value) (xs : List Nat) (hA : IsU w va xs) (vb : Value) (ys : List Nat) (hB : IsU w vb ys) (a3 : Int) (w3 : (Lit.int .i64 a3).wf = true) (a4 : Bool) (hTb : Tab w) :
    Calls Tryd.prog 4 #[v, va, vb, .int .i64 a3, .bool a4] w fun e w' => e = .returned (.bool true) ∧ Below w.heap.size w w' := by
  by_cases hG : ∃ ds, Good zs ds
  · obtain ⟨ds, hG⟩ := hG
    rcases Nat.lt_or_ge 1024 (prd2 ds) with hn | hn
    · exact manyTurns_large w v va vb zs xs ys ds a3 a4 hZ hA hB hG hn w3
    · rcases Nat.lt_or_ge 64 (prd2 ds) with h64 | h64
      · exact manyTurns_more w v va vb zs ds a3 a4 hZ hG hn h64
      · by_cases hl2 : ys.length = prd2 ds
        · by_cases hl : xs.length = prd2 ds
          · by_cases hx : 0 ≤ a3 ∧ a3 < (ds.length : Int)
            · obtain ⟨x, rfl⟩ : ∃ x : Nat, a3 = (x : Int) := ⟨a3.toNat, by omega⟩
              exact manyTurns_ok w v va vb zs xs ys ds x a4 hZ hA hB hTb hG h64 hl (by omega) hl2
            · exact manyTurns_arg w v va vb zs xs ys ds a3 a4 hZ hA hB hTb hG h64 hl (by omega) w3 hl2
          · exact manyTurns_form w v va vb zs xs ys ds a3 a4 hZ hA hB hG h64 hl w3 hl2
        · by_cases hl : xs.length = prd2 ds
          · by_cases hx : 0 ≤ a3 ∧ a3 < (ds.length : Int)
            · obtain ⟨x, rfl⟩ : ∃ x : Nat, a3 = (x : Int) := ⟨a3.toNat, by omega⟩
              exact manyTurns_okb w v va vb zs xs ys ds x a4 hZ hA hB hTb hG h64 hl (by omega) hl2
            · exact manyTurns_argb w v va vb zs xs ys ds a3 a4 hZ hA hB hTb hG h64 hl (by omega) w3 hl2
          · exact manyTurns_formb w v va vb zs xs ys ds a3 a4 hZ hA hB hG h64 hl w3 hl2
  · exact manyTurns_bad w v va vb zs xs ys a3 a4 hZ hA hB (fun ds h => hG ⟨ds, h⟩) w3

end Go.Proofs.YtgfnjbkhncjhhabDoor
