/-
  The walk of the law PolyPoints: whatever two lists are handed in, through values of a polynomial goes that polynomial, and the law returns true.
-/
import Derived.Test.YtpoekkbofhdnnadPolyC
import Derived.Test.YtpoekkbofhdnnadPolyD
import Derived.Test.YtpoekkbofhdnnadKeepShort
import Derived.Test.YtpoekkbofhdnnadSlEq
import Derived.Test.YtpoekkbofhdnnadSlApp
import Derived.Test.YtpoekkbofhdnnadRefPoints
namespace Go.Proofs.Ytpoekkbofhdnnad
open Go.RowKit

theorem k_short30 (w : World) (v : Value) (xs : List Nat) (h : IsU w v xs) : Calls Try.prog 19 #[v, .int .i64 30] w fun e w' => (∃ u, e = .returned u ∧ IsU w u (xs.take 30)) ∧ w' = w := keep_short w v xs 30 h (by decide)
theorem ex_pts : Pts [0, 1] [5, 7] := by
  refine ⟨rfl, by decide, fun i' k' h1 h2 => ?_, fun k' h => absurd h (by omega)⟩
  obtain ⟨rfl, rfl⟩ : i' = 1 ∧ k' = 0 := by simp only [List.length_cons, List.length_nil] at h1; omega
  decide
theorem ex_dif : ∀ i j, i < j → j < ([0, 1] : List Nat).length → cf [0, 1] i ≠ cf [0, 1] j := by
  intro i j h1 h2
  obtain ⟨rfl, rfl⟩ : i = 0 ∧ j = 1 := by simp only [List.length_cons, List.length_nil] at h2; omega
  decide

/-- The values of a polynomial at the first k places. -/
def vals (A X : List Nat) (k : Nat) : List Nat := (X.take k).map fun x => pE A x
def rowE (A X : List Nat) (k : Nat) : List Value := cellsU (vals A X k)
theorem rowE_succ (A X : List Nat) (k : Nat) (h : k < X.length) : rowE A X (k + 1) = rowE A X k ++ [.int .u64 ((pE A (X.getD k 0) : Nat) : Int)] := by
  unfold rowE vals
  rw [take_succ_getD X k h, List.map_append, cellsU_append]; rfl
theorem pE_lt64 (xs : List Nat) (x : Nat) : (pE xs x : Int) < 18446744073709551616 := by
  have := lt_int (val_lt (evF (xs.map toF) (toF x)))
  unfold pE; omega
theorem rowE_isU {w : World} {base : Nat} {v : Value} {A X : List Nat} (h : w.ownsRow base 22 1 v X.length (rowE A X X.length)) : IsU w v (vals A X X.length) :=
  IsU.of_owns h (fun y hy => by
    obtain ⟨x, _, rfl⟩ := List.mem_map.mp hy
    exact pE_lt64 A x)
theorem vals_length (A X : List Nat) : (vals A X X.length).length = X.length := by simp [vals]
theorem vals_cf (A X : List Nat) (j : Nat) (hj : j < X.length) : cf (vals A X X.length) j = evF (A.map toF) (cf X j) := by
  unfold cf vals
  simp only [List.take_length, List.getD, List.getElem?_map, List.getElem?_eq_getElem hj, Option.map_some, Option.getD_some]
  exact toF_pE A _
theorem Pts_dif {X Y : List Nat} (h : Pts X Y) : ∀ i j, i < j → j < X.length → cf X i ≠ cf X j := by
  intro i j hij hj e
  apply h.2.2.1 j i hj hij
  rw [fN_val, fN_val]
  exact (congrArg Fin.val e).symm
theorem Goes_vals {A X : List Nat} (hl : A.length ≤ X.length) : Goes (pN A) X.length (cf X) (cf (vals A X X.length)) :=
  ⟨pN_pN A, by rw [pN_length]; have := sig_le A; omega, fun j hj => by rw [ev_pN, vals_cf A X j hj]⟩

set_option maxHeartbeats 4000000 in
theorem polyPoints_walk (w : World) (v : Value) (xs : List Nat) (h0 : IsU w v xs) (v' : Value) (ys : List Nat) (h1 : IsU w v' ys) :
    Calls Try.prog 8 #[v, v'] w fun e w' => e = .returned (.bool true) ∧ Below w.heap.size w w' := by
  have hW : Below w.heap.size w w := Below.refl _ _
  have hA := h0
  have hB := h1
  have hL1 : IsU ((w.alloc (.cells #[.int .u64 0, .int .u64 1] 22)).alloc (.cells #[.int .u64 5, .int .u64 7] 22)) (.slice (some ⟨w.heap.size, 0, none⟩) 2 2) [0, 1] := (IsU.lit2 w 22 0 1 (by decide) (by decide)).below (below_alloc1 _ _)
  have hL2 : IsU ((w.alloc (.cells #[.int .u64 0, .int .u64 1] 22)).alloc (.cells #[.int .u64 5, .int .u64 7] 22)) (.slice (some ⟨w.heap.size + 1, 0, none⟩) 2 2) [5, 7] := (IsU.lit2 (w.alloc (.cells #[.int .u64 0, .int .u64 1] 22)) 22 5 7 (by decide) (by decide)).at (by simp)
  have tX : (ys.take 30).length ≤ 30 := by simp; omega
  have hX9 : ((ys.take 30).length : Int) ≤ 9223372036854775807 := by omega
  have tA : (xs.take (ys.take 30).length).length ≤ (ys.take 30).length := by rw [List.length_take]; exact Nat.min_le_left _ _
  have k1 := fun (W : World) (h : IsU W v' ys) => k_short30 W v' ys h
  have k2 := fun (W : World) (h : IsU W v xs) => keep_short W v xs (ys.take 30).length h hX9
  generalize xs.take (ys.take 30).length = A at *
  generalize ys.take 30 = X at *
  clear h0 h1
  have tk1 : True := trivial
  have tk2 : True := trivial
  have tk3 : True := trivial
  have tk4 : True := trivial
  go_enter Try.func8, Try.ntmps8
  go_wp2_with (first
    | (go_at_call 25; have _t := tk1; refine Calls.mono (poly_Through_ok _ _ _ [0, 1] [5, 7] hL1 hL2 ex_pts) ?_; rintro e w101 ⟨u0, l, rfl, hQ, hG, hb⟩; clear tk1; replace hb := below_alloc hb; replace hb := below_alloc hb; replace hA := hA.below hb; replace hB := hB.below hb; replace hW := hW.trans (hb.mono hW.size); clear hb; obtain rfl := Goes_unique ex_dif hG ex_goes; clear hG)
    | (go_at_call 18; have _t := tk2; refine Calls.mono (slices_Equal _ _ _ [5, 2] (hQ.below (below_alloc1 _ _)) (IsU.lit2 _ 22 5 2 (by decide) (by decide))) ?_; rintro e w102 ⟨rfl, hb⟩; clear tk2; replace hb := below_alloc hb; replace hA := hA.below hb; replace hB := hB.below hb; replace hQ := hQ.below hb; replace hW := hW.trans (hb.mono hW.size); clear hb)
    | (go_at_call 19; have _t := tk3; refine Calls.mono (k1 _ hB) ?_; rintro e w' ⟨⟨sx, rfl, hsx⟩, hw⟩; rw [hw]; clear hw; have hs0 := hsx; obtain ⟨asx, csx, rfl, -⟩ := hs0; clear tk3)
    | (go_at_call 19; have _t := tk4; refine Calls.mono (k2 _ hA) ?_; rintro e w' ⟨⟨sa, rfl, hsa⟩, hw⟩; rw [hw]; clear hw; clear tk4))
  clear hA hB hQ hL1 hL2 k1 k2
  have hsx0 := hsx
  obtain ⟨asx', csx', e, _, _, hc, hr⟩ := hsx0
  simp only [Value.slice.injEq, true_and] at e
  obtain ⟨rfl, rfl⟩ := e
  have lA : A.length ≤ 2048 := by omega
  go_loopw [7, 38] (fun vy vi wr => ∃ k : Nat, k ≤ X.length ∧ vi = .int .i64 (k : Int) ∧ wr.ownsRow w102.heap.size 22 1 vy k (rowE A X k) ∧ Below w102.heap.size w102 wr)
    (fun _ vi _ => X.length - (intOf vi).toNat)
  case atStart => exact ⟨0, Nat.zero_le _, rfl, World.ownsRow_nil _ _ _ _, Below.refl _ _⟩
  case round =>
    obtain ⟨k, hk, rfl, hown, hnx⟩ := hrel
    by_cases hlt : k < X.length
    · have hd : decide (k < X.length) = true := decide_eq_true hlt
      obtain ⟨b, off, rfl, hcell0⟩ := hc k hlt
      have hcell := (hnx.cell (block_lt hcell0)).trans hcell0
      have cE := poly_Eval_ok wr sa A (X.getD k 0) (hsa.below hnx) lA (range_getD hr k)
      have hnew := rowE_succ A X k hlt
      have hrow : Hid (∀ (w1 : World) (u : Value), w1.ownsRow w102.heap.size 22 1 u (k + 1) (rowE A X k ++ [.int .u64 ((pE A (X.getD k 0) : Nat) : Int)]) → w1.ownsRow w102.heap.size 22 1 u (k + 1) (rowE A X (k + 1))) := fun w1 u h => by rw [hnew]; exact h
      clear hnew hcell0 hc hr
      generalize pE A (X.getD k 0) = z at *
      generalize X.getD k 0 = x at *
      go_wp2_with (first
        | (go_at_call 21; refine Calls.mono cE ?_; rintro e w2 ⟨rfl, hb⟩; have hown2 := owns_below hown hb; have hnx2 := hnx.trans (hb.mono hnx.size); clear hown hnx hb hcell)
        | (at_builtin; refine wp_append1 rfl _ _ rfl _ _ _ _ rfl hown2 rfl ?c3 hnx2 ?_))
      case c3 => omega
      · intro u' w1 hown' hnx'
        have hown3 := hrow.out _ _ hown'
        clear hown' hown2 hrow hnx2
        go_wp2
        go_roundw
        case rel => exact ⟨k + 1, by omega, by go_num, hown3, hnx'⟩
        case measure => simp only [intOf]; omega
    · have e : k = X.length := by omega
      subst e
      have hY := rowE_isU hown
      have hX := hsx.below hnx
      have hA2 := hsa.below hnx
      have hW2 : Below w.heap.size w wr := hW.trans (hnx.mono hW.size)
      clear hown hc hr hnx hW hsx hsa
      by_cases hP : Pts X (vals A X X.length)
      · go_wp2_with (first
          | (go_at_call 25; refine Calls.mono (poly_Through_ok _ _ _ X (vals A X X.length) hX hY hP) ?_; rintro e w3 ⟨p, l, rfl, hp, hG, hb⟩; replace hA2 := hA2.below hb; replace hW2 := hW2.trans (hb.mono hW2.size); clear hb)
          | (go_at_call 22; refine Calls.mono (poly_Norm_ok _ _ A hA2 lA) ?_; rintro e w4 ⟨n, rfl, hn, hb⟩; replace hp := hp.below hb; replace hW2 := hW2.trans (hb.mono hW2.size); clear hb)
          | (go_at_call 18; refine Calls.mono (slices_Equal _ _ _ (pN A) (hp.cast (Goes_unique (Pts_dif hP) hG (Goes_vals tA))) hn) ?_; rintro e w5 ⟨rfl, hb⟩; replace hW2 := hW2.trans (hb.mono hW2.size); clear hb))
        go_ret
        exact ⟨rfl, hW2⟩
      · have hl1 : X.length ≤ 2048 := by omega
        have hl2 : (vals A X X.length).length ≤ 2048 := by rw [vals_length]; omega
        go_wp2_with (first
          | (go_at_call 25; refine Calls.mono (poly_Through_form _ _ _ X (vals A X X.length) hX hY hl1 hl2 hP) ?_; rintro e w3 ⟨p, rfl, hp, hb⟩; replace hX := hX.below hb; replace hY := hY.below hb; replace hW2 := hW2.trans (hb.mono hW2.size); clear hb)
          | (go_at_call 26; refine Calls.mono (ref_Points _ _ _ X (vals A X X.length) hX hY) ?_; rintro e w4 ⟨bb, rfl, hbb, hb⟩; replace hW2 := hW2.trans (hb.mono hW2.size); clear hb; obtain rfl : bb = false := by cases bb; rfl; exact absurd (hbb.mp rfl) hP))
        go_ret
        exact ⟨rfl, hW2⟩

end Go.Proofs.Ytpoekkbofhdnnad
