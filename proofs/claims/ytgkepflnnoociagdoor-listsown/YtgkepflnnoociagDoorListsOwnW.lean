/-
  The walk of the law ListsOwn: whatever is handed in, lists that are handed in stay, what is told shares nothing with them, and the law returns true.
-/
import Derived.Test.YtgkepflnnoociagDoorRefInAll
import Derived.Test.YtgkepflnnoociagDoorPolyNw
import Derived.Test.YtgkepflnnoociagDoorConvNw
import Derived.Test.YtgkepflnnoociagDoorManyNw
import Derived.Test.YtgkepflnnoociagDoorKeepSized
import Derived.Test.YtgkepflnnoociagDoorKeepFour
import Derived.Test.YtgkepflnnoociagDoorKeepShort
import Derived.Test.YtgkepflnnoociagDoorSlEq
import Derived.Test.YtgkepflnnoociagDoorSlTaskAll
namespace Go.Proofs.YtgkepflnnoociagDoor
open Go.RowKit

theorem isZ_one (w : World) (e : Nat) (z : Int) (hz : -9223372036854775808 ≤ z ∧ z ≤ 9223372036854775807) : IsZ (w.alloc (.cells #[.int .i64 z] e)) (.slice (some ⟨w.heap.size, 0, none⟩) 1 1) [z] := by
  refine ⟨some ⟨w.heap.size, 0, none⟩, 1, rfl, Nat.le_refl _, by simp [maxLen], fun i hi => ⟨w.heap.size, 0, rfl, ?_⟩, fun y hy => by simp at hy; subst hy; exact hz⟩
  simp at hi
  subst hi
  rw [World.cell?_alloc_at _ _ _ _ rfl]
  rfl
theorem poly_Div_new (w : World) (v v' : Value) (xs ys : List Nat) (h : IsU w v xs) (h' : IsU w v' ys) (hl : xs.length ≤ 2048) (hl' : ys.length ≤ 2048) :
    Calls Tryd.prog 23 #[v, v'] w fun e w' => ∃ p l c p' l' c' z, e = .returned (.tuple #[.slice p l c, .slice p' l' c', .int .i64 z]) ∧ NewU w.heap.size w' (.slice p l c) ∧ NewU w.heap.size w' (.slice p' l' c') ∧ Below w.heap.size w w' := by
  by_cases hs : (pN ys).length = 0
  · refine (poly_Div_noneN w v v' xs ys h h' hl hl' hs).mono ?_
    rintro e w' ⟨u0, u1, rfl, h0, h1, hb⟩
    obtain ⟨p, l, c, rfl⟩ := h0.slice
    obtain ⟨p', l', c', rfl⟩ := h1.slice
    exact ⟨p, l, c, p', l', c', _, rfl, h0, h1, hb⟩
  · refine (poly_Div_okN w v v' xs ys h h' hl hl' hs).mono ?_
    rintro e w' ⟨u0, u1, rfl, h0, h1, hb⟩
    obtain ⟨p, l, c, rfl⟩ := h0.slice
    obtain ⟨p', l', c', rfl⟩ := h1.slice
    exact ⟨p, l, c, p', l', c', _, rfl, h0, h1, hb⟩

/-- What the law hands in and asks, once it has made it: it lies below w0. -/
structure Hand (w0 : World) (n ga ca gb cb gz : Nat) (A B : List Nat) : Prop where
  a : IsU w0 (.slice (some ⟨ga, 0, none⟩) n ca) A
  b : IsU w0 (.slice (some ⟨gb, 0, none⟩) n cb) B
  la : A.length = n
  lb : B.length = n
  rowA : RowX w0 ga ca (A ++ [7, 7])
  rowB : RowX w0 gb cb (B ++ [7, 7])
  ma : ca ≤ maxLen
  mb : cb ≤ maxLen
  z : IsZ w0 (.slice (some ⟨gz, 0, none⟩) 1 1) [(n : Int)]
  t : Tab w0
  p2 : ∃ j, j ≤ 6 ∧ n = 2 ^ j
theorem RowX.front {w : World} {g c n : Nat} {xs ys : List Nat} (h : RowX w g c (xs ++ ys)) (hl : xs.length = n) (hr : Rng xs) (hc : c ≤ maxLen) : IsU w (.slice (some ⟨g, 0, none⟩) n c) xs := by
  obtain ⟨cur, hh, hs, hlen, ht⟩ := h
  have h2 : RowX w g c xs := ⟨cur, hh, hs, by rw [List.length_append] at hlen; omega, by
    have := congrArg (List.take xs.length) ht
    rw [List.take_take, List.length_append, Nat.min_eq_left (by omega)] at this
    rw [this, cellsU_append, List.take_left' (cellsU_length xs)]⟩
  exact h2.isUN hr hc hl
theorem OutsN.ends {w0 w : World} {Bx m : Nat} (h : OutsN w0 Bx w m) (hm : 0 < m) : ∃ (g cap : Nat) (cur : Array Value), w.cell? ⟨Bx, 0, none⟩ = some (.slice (some ⟨g, 0, none⟩) m cap) ∧ w.heap[g]? = some (.cells cur 23 (0, 0)) ∧ (∀ i, i < m → ∃ u, cur[i]? = some u ∧ NewU w0.heap.size w u) ∧ Below w0.heap.size w0 w := by
  obtain ⟨vs, hl, ⟨v, h1, h2⟩, h3, h4, h5⟩ := h
  subst hl
  rcases h2.2 with ⟨rfl, h0⟩ | ⟨g, cap, cur, rfl, hg, hh, q1, q2, q3, q4⟩
  · omega
  · refine ⟨g, cap, cur, cell_of_one h1, hh, fun i hi => ?_, h5⟩
    have e : vs[i]? = cur[i]? := by
      rw [← q4, List.getElem?_take_of_lt (by omega), Array.getElem?_toList]
    refine ⟨vs[i], by rw [← e]; exact List.getElem?_eq_getElem hi, h3 _ (List.getElem_mem hi)⟩
/-- While lists are spoilt: the list of them stands, each of them lies in new memory, and whatever lay there at w0 lies as it lay. -/
def Spt (w0 : World) (G : Nat) (cur : Array Value) (w : World) : Prop := w.heap[G]? = some (.cells cur 23 (0, 0)) ∧ (∀ i, i < 16 → ∃ u, cur[i]? = some u ∧ NewU w0.heap.size w u) ∧ Below w0.heap.size w0 w
theorem Spt.next {w0 w w' : World} {G : Nat} {cur : Array Value} (h : Spt w0 G cur w) (h1 : Same w w') (h2 : Else w w') (h3 : Below w0.heap.size w w') : Spt w0 G cur w' := by
  refine ⟨h2 G cur _ _ (by decide) h.1, fun i hi => ?_, h.2.2.trans h3⟩
  obtain ⟨u, hu, hN⟩ := h.2.1 i hi
  exact ⟨u, hu, hN.same h1⟩
theorem cell_at {w : World} {g i t : Nat} {cur : Array Value} {u : Value} (h : w.heap[g]? = some (.cells cur t (0, 0))) (hu : cur[i]? = some u) : w.cell? ⟨g, i, none⟩ = some u := by
  simp only [World.cell?, h, hu]
  rfl
section
variable {w0 W : World} {n ga ca gb cb gz : Nat} {A B : List Nat}
theorem Hand.n64 (h : Hand w0 n ga ca gb cb gz A B) : 0 < n ∧ n ≤ 64 := by
  obtain ⟨j, hj, rfl⟩ := h.p2
  exact ⟨Nat.pow_pos (by decide), (two_pow_six j hj).2⟩
theorem Hand.good (h : Hand w0 n ga ca gb cb gz A B) : Good [(n : Int)] [n] := by
  obtain ⟨j, hj, e⟩ := h.p2
  refine ⟨by simp, by simp, rfl, fun d hd => ?_⟩
  rw [List.mem_singleton.mp hd, e]
  exact ⟨j, rfl⟩
theorem Hand.prd (_h : Hand w0 n ga ca gb cb gz A B) : prd2 [n] = n := by simp [prd2]
theorem Hand.norm (h : Hand w0 n ga ca gb cb gz A B) (hb : Below w0.heap.size w0 W) : Calls Tryd.prog 20 #[.slice (some ⟨ga, 0, none⟩) n ca] W (Tells W) :=
  (poly_Norm_okN W _ A (h.a.below hb) (by have := h.n64; have := h.la; omega)).mono fun _ _ => Tells.ofU
theorem Hand.add (h : Hand w0 n ga ca gb cb gz A B) (hb : Below w0.heap.size w0 W) : Calls Tryd.prog 21 #[.slice (some ⟨ga, 0, none⟩) n ca, .slice (some ⟨gb, 0, none⟩) n cb] W (Tells W) :=
  (poly_Add_okN W _ _ A B (h.a.below hb) (h.b.below hb) (by have := h.n64; have := h.la; omega) (by have := h.n64; have := h.lb; omega)).mono fun _ _ => Tells.ofU
theorem Hand.mul (h : Hand w0 n ga ca gb cb gz A B) (hb : Below w0.heap.size w0 W) : Calls Tryd.prog 22 #[.slice (some ⟨ga, 0, none⟩) n ca, .slice (some ⟨gb, 0, none⟩) n cb] W (Tells W) := by
  have h1 := h.n64
  have h2 := h.la
  have h3 := h.lb
  exact (poly_Mul_okN W _ _ A B (h.a.below hb) (h.b.below hb) (by omega) (by omega) (by have := pM_length_le (pN A) (pN B); have h3 := sig_le A; have h4 := sig_le B; rw [pN_length, pN_length] at this; omega)).mono fun _ _ => Tells.ofU
theorem Hand.div (h : Hand w0 n ga ca gb cb gz A B) (hb : Below w0.heap.size w0 W) : Calls Tryd.prog 23 #[.slice (some ⟨ga, 0, none⟩) n ca, .slice (some ⟨gb, 0, none⟩) n cb] W fun e w' => ∃ p l c p' l' c' z, e = .returned (.tuple #[.slice p l c, .slice p' l' c', .int .i64 z]) ∧ NewU W.heap.size w' (.slice p l c) ∧ NewU W.heap.size w' (.slice p' l' c') ∧ Below W.heap.size W w' :=
  poly_Div_new W _ _ A B (h.a.below hb) (h.b.below hb) (by have := h.n64; have := h.la; omega) (by have := h.n64; have := h.lb; omega)
theorem Hand.fwd (h : Hand w0 n ga ca gb cb gz A B) (hb : Below w0.heap.size w0 W) : Calls Tryd.prog 24 #[.slice (some ⟨ga, 0, none⟩) n ca] W (Tells W) := by
  obtain ⟨j, hj, e⟩ := h.p2
  exact (ntt_Forward_new W _ A j (h.a.below hb) (h.t.below hb) (by rw [h.la, e]) (by omega)).mono fun _ _ => Tells.of
theorem Hand.inv (h : Hand w0 n ga ca gb cb gz A B) (hb : Below w0.heap.size w0 W) : Calls Tryd.prog 25 #[.slice (some ⟨ga, 0, none⟩) n ca] W (Tells W) := by
  obtain ⟨j, hj, e⟩ := h.p2
  exact (ntt_Inverse_new W _ A j (h.a.below hb) (h.t.below hb) (by rw [h.la, e]) (by omega)).mono fun _ _ => Tells.ofU
theorem Hand.cyc (h : Hand w0 n ga ca gb cb gz A B) (hb : Below w0.heap.size w0 W) : Calls Tryd.prog 26 #[.slice (some ⟨ga, 0, none⟩) n ca, .slice (some ⟨gb, 0, none⟩) n cb] W (Tells W) := by
  obtain ⟨j, hj, e⟩ := h.p2
  exact (conv_Cyclic_okN W _ _ A B j (h.a.below hb) (h.b.below hb) (h.t.below hb) (by rw [h.la, e]) (by rw [h.lb, e]) (by omega)).mono fun _ _ => Tells.ofU
theorem Hand.skew (h : Hand w0 n ga ca gb cb gz A B) (hb : Below w0.heap.size w0 W) : Calls Tryd.prog 27 #[.slice (some ⟨ga, 0, none⟩) n ca, .slice (some ⟨gb, 0, none⟩) n cb] W (Tells W) := by
  obtain ⟨j, hj, e⟩ := h.p2
  exact (conv_Skew_okN W _ _ A B j (h.a.below hb) (h.b.below hb) (h.t.below hb) (by rw [h.la, e]) (by rw [h.lb, e]) (by omega)).mono fun _ _ => Tells.of
theorem Hand.lin (h : Hand w0 n ga ca gb cb gz A B) (hb : Below w0.heap.size w0 W) : Calls Tryd.prog 28 #[.slice (some ⟨ga, 0, none⟩) n ca, .slice (some ⟨gb, 0, none⟩) n cb] W (Tells W) := by
  have h1 := h.n64
  have h2 := h.la
  have h3 := h.lb
  exact (conv_Linear_someN W _ _ A B (h.a.below hb) (h.b.below hb) (h.t.below hb) (by omega) (by omega) (by omega)).mono fun _ _ => Tells.of
theorem Hand.mfw (h : Hand w0 n ga ca gb cb gz A B) (hb : Below w0.heap.size w0 W) : Calls Tryd.prog 29 #[.slice (some ⟨gz, 0, none⟩) 1 1, .slice (some ⟨ga, 0, none⟩) n ca] W (Tells W) :=
  (many_Forward_okN W _ _ _ A [n] (h.z.below hb) (h.a.below hb) (h.t.below hb) h.good (by rw [h.prd]; have := h.n64; omega) (by rw [h.prd, h.la])).mono fun _ _ => Tells.of
theorem Hand.mcy (h : Hand w0 n ga ca gb cb gz A B) (hb : Below w0.heap.size w0 W) : Calls Tryd.prog 30 #[.slice (some ⟨gz, 0, none⟩) 1 1, .slice (some ⟨ga, 0, none⟩) n ca, .slice (some ⟨gb, 0, none⟩) n cb] W (Tells W) :=
  (many_Cyclic_okN W _ _ _ _ A B [n] (h.z.below hb) (h.a.below hb) (h.b.below hb) (h.t.below hb) h.good (by rw [h.prd]; have := h.n64; omega) (by rw [h.prd, h.la]) (by rw [h.prd, h.lb])).mono fun _ _ => Tells.of
theorem Hand.pdo (h : Hand w0 n ga ca gb cb gz A B) (hb : Below w0.heap.size w0 W) : Calls Tryd.prog 31 #[.slice (some ⟨gz, 0, none⟩) 1 1, .slice (some ⟨ga, 0, none⟩) n ca, .agg #[.int .i64 0, .int .i64 0, .int .i64 1], .bool true] W (Tells W) :=
  (plan_Do_new W _ _ _ A [n] 0 0 1 true (h.z.below hb) (h.a.below hb) (h.t.below hb) h.good (by rw [h.prd]; have := h.n64; omega) (by rw [h.prd, h.la]) (by simp) (by decide) (by simp [nln, beh, prd2])).mono fun _ _ => Tells.of
end

set_option maxRecDepth 100000 in
set_option maxHeartbeats 16000000 in
theorem listsOwn_nat (w : World) (v v' : Value) (xs ys : List Nat) (k : Int) (j n : Nat) (h : IsU w v xs) (h' : IsU w v' ys) (hkj : k % 7 = (j : Int)) (hj6 : j ≤ 6) (hn0 : n = 2 ^ j) (hTb : Tab w)
    (hSh : ∀ (w0 W : World) (n ga ca gb cb gz g1 : Nat) (A B : List Nat), Hand w0 n ga ca gb cb gz A B → Below w0.heap.size w0 W → IsZ W (.slice (some ⟨g1, 0, none⟩) 1 1) [1] → Calls Tryd.prog 11 #[.slice (some ⟨gz, 0, none⟩) 1 1, .slice (some ⟨ga, 0, none⟩) n ca, .slice (some ⟨g1, 0, none⟩) 1 1] W (Tells W))
    (hCo : ∀ (w0 W : World) (n ga ca gb cb gz : Nat) (A B : List Nat), Hand w0 n ga ca gb cb gz A B → Below w0.heap.size w0 W → Calls Tryd.prog 7 #[.slice (some ⟨gz, 0, none⟩) 1 1, .slice (some ⟨ga, 0, none⟩) n ca] W (Tells W))
    (hEn : ∀ (W : World) (u : Value) (X : List Nat), IsU W u X → 0 < X.length → X.length ≤ 4 → Calls Tryd.prog 32 #[u, .int .i64 5] W (Tells W)) :
    Calls Tryd.prog 4 #[v, v', .int .i64 k] w fun e w' => e = .returned (.bool true) ∧ Below w.heap.size w w' := by
  have hn : Hid (n = 2 ^ j) := hn0
  have hW : Below w.heap.size w w := Below.refl _ _
  have hX := h
  have hY := h'
  have h64 : n ≤ 64 := by rw [hn0]; exact (two_pow_six j hj6).2
  have hpos : 0 < n := by rw [hn0]; exact Nat.pow_pos (by decide)
  have lA : (szd xs n).length = n := szd_length xs n
  have lB : (szd ys n).length = n := szd_length ys n
  obtain ⟨A, hA0⟩ : ∃ A, A = szd xs n := ⟨_, rfl⟩
  obtain ⟨B, hB0⟩ : ∃ B, B = szd ys n := ⟨_, rfl⟩
  have cSA : Hid (∀ W, IsU W v xs → Calls Tryd.prog 17 #[v, .int .i64 k] W fun e w' => ∃ g, e = .returned (.slice (some ⟨g, 0, none⟩) n n) ∧ IsU w' (.slice (some ⟨g, 0, none⟩) n n) A ∧ Below W.heap.size W w') := fun W hU => by rw [hA0]; exact keep_sizedU W v xs k j n hU hkj hj6 hn0
  have cSB : Hid (∀ W, IsU W v' ys → Calls Tryd.prog 17 #[v', .int .i64 k] W fun e w' => ∃ g, e = .returned (.slice (some ⟨g, 0, none⟩) n n) ∧ IsU w' (.slice (some ⟨g, 0, none⟩) n n) B ∧ Below W.heap.size W w') := fun W hU => by rw [hB0]; exact keep_sizedU W v' ys k j n hU hkj hj6 hn0
  rw [← hA0] at lA
  rw [← hB0] at lB
  have cR : Hid (∀ W u L, L.length = n → IsU W u L → Calls Tryd.prog 16 #[u, .int .u64 7] W fun e w' => ∃ g cap, e = .returned (.slice (some ⟨g, 0, none⟩) n cap) ∧ W.heap.size ≤ g ∧ cap ≤ maxLen ∧ RowX w' g cap (L ++ [7, 7]) ∧ Below W.heap.size W w') := fun W u L hL hU => by
    have q := keep_roomy W u L 7 hU (by omega) (by omega)
    rw [hL] at q
    exact q
  have cC : Hid (∀ W u L, L.length = n → IsU W u L → Calls Tryd.prog 18 #[u] W fun e w' => ∃ g cap, e = .returned (.slice (some ⟨g, 0, none⟩) n cap) ∧ IsU w' (.slice (some ⟨g, 0, none⟩) n cap) L ∧ Below W.heap.size W w') := fun W u L hL hU => by
    refine (slices_CloneU W u L hU (by omega) (by omega)).mono ?_
    rintro e w' ⟨g, cap, rfl, hown, hb⟩
    rw [hL] at hown ⊢
    exact ⟨g, cap, rfl, IsU.of_owns hown hU.range, hb⟩
  have hrA : Hid (∀ W g c L, L.length = n → Rng L → c ≤ maxLen → RowX W g c (L ++ [7, 7]) → IsU W (.slice (some ⟨g, 0, none⟩) n c) L) := fun W g c L hL hr hc h => h.front hL hr hc
  replace lA : Hid _ := lA
  replace lB : Hid _ := lB
  have hp2 : Hid (∃ j, j ≤ 6 ∧ n = 2 ^ j) := ⟨j, hj6, hn0⟩
  have c4 := keep_four w hTb
  have hT : Hid (Tab w) := hTb
  have tk1 : True := trivial
  have tk2 : True := trivial
  have tk3 : True := trivial
  have hO : Hid (OutsN w 0 w 0 → True) := fun _ => trivial
  clear hn0 h h' hA0 hB0 hTb hn hkj hj6
  go_enter Tryd.func4, Tryd.ntmps4
  go_wp2_with (first
    | (go_at_call 15; refine Calls.mono c4 ?_; rintro e w1 ⟨rfl, hb⟩; clear c4; replace hX := hX.below hb; replace hY := hY.below hb; replace hW := hW.trans (hb.mono hW.size); clear hb)
    | (go_at_call 17; have _t := tk1; refine Calls.mono (cSA.out _ hX) ?_; rintro e w2 ⟨g2, rfl, hU, hb⟩; clear tk1 cSA; replace hY := hY.below hb; replace hW := hW.trans (hb.mono hW.size); clear hb)
    | (go_at_call 16; have _t := tk2; refine Calls.mono (cR.out _ _ A lA.out hU) ?_; rintro e w3 ⟨ga, ca, rfl, -, hca, hRA, hb⟩; clear tk2; have hUA := hrA.out _ _ _ A lA.out hU.range hca hRA; clear hU; replace hY := hY.below hb; replace hW := hW.trans (hb.mono hW.size); clear hb)
    | (go_at_call 17; refine Calls.mono (cSB.out _ hY) ?_; rintro e w4 ⟨g4, rfl, hU, hb⟩; clear cSB; replace hRA := hRA.below hb; replace hUA := hUA.below hb; replace hW := hW.trans (hb.mono hW.size); clear hb)
    | (go_at_call 16; refine Calls.mono (cR.out _ _ B lB.out hU) ?_; rintro e w5 ⟨gb, cb, rfl, -, hcb, hRB, hb⟩; clear cR; have hUB := hrA.out _ _ _ B lB.out hU.range hcb hRB; clear hU; replace hRA := hRA.below hb; replace hUA := hUA.below hb; replace hW := hW.trans (hb.mono hW.size); clear hb)
    | (go_at_call 18; have _t := tk3; refine Calls.mono (cC.out _ _ A lA.out hUA) ?_; rintro e w6 ⟨gA, cA, rfl, hwas, hb⟩; clear tk3; replace hRA := hRA.below hb; replace hUA := hUA.below hb; replace hRB := hRB.below hb; replace hUB := hUB.below hb; replace hW := hW.trans (hb.mono hW.size); clear hb)
    | (go_at_call 18; refine Calls.mono (cC.out _ _ B lB.out hUB) ?_; rintro e w7 ⟨gB, cB, rfl, htoo, hb⟩; replace hRA := hRA.below hb; replace hUA := hUA.below hb; replace hRB := hRB.below hb; replace hUB := hUB.below hb; replace hwas := hwas.below hb; replace hW := hW.trans (hb.mono hW.size); clear hb cC; obtain ⟨w0, hw0⟩ : ∃ w0, w7.alloc (.cells #[.int .i64 (n : Int)] 3) = w0 := ⟨_, rfl⟩; have hb0 : Below w7.heap.size w7 w0 := (by rw [← hw0]; exact below_alloc1 _ _); have hZ0 : IsZ w0 (.slice (some ⟨w7.heap.size, 0, none⟩) 1 1) [(n : Int)] := (by rw [← hw0]; exact isZ_one _ _ _ (by omega)); have hH : Hid (Hand w0 n ga ca gb cb w7.heap.size A B) := ⟨hUA.below hb0, hUB.below hb0, lA.out, lB.out, hRA.below hb0, hRB.below hb0, hca, hcb, hZ0, hT.out.below (hW.trans (hb0.mono hW.size)), hp2.out⟩; replace hwas : Hid _ := hwas.below hb0; replace htoo : Hid _ := htoo.below hb0; replace hW : Hid _ := hW.trans (hb0.mono hW.size); clear hb0 hZ0 hRA hRB hUA hUB)
    | (go_at_call 20; replace hO : Hid (OutsN w0 w0.heap.size (w0.alloc (.cells #[.slice none 0 0] 42)) 0) := OutsN.start w0; refine Calls.mono (hH.out.norm (OutsN.keeps hO.out)) ?_; rintro e w2 ⟨p1, l1, c1, z1, rfl, hN, hb⟩; replace hN := hN.mono (OutsN.keeps hO.out).size; replace hO : Hid _ := OutsN.below hO.out hb; clear hb)
    | (go_at_call 21; refine Calls.mono (hH.out.add (OutsN.keeps hO.out)) ?_; rintro e w2 ⟨p1, l1, c1, z1, rfl, hN, hb⟩; replace hN := hN.mono (OutsN.keeps hO.out).size; replace hO : Hid _ := OutsN.below hO.out hb; clear hb)
    | (go_at_call 22; refine Calls.mono (hH.out.mul (OutsN.keeps hO.out)) ?_; rintro e w2 ⟨p1, l1, c1, z1, rfl, hN, hb⟩; replace hN := hN.mono (OutsN.keeps hO.out).size; replace hO : Hid _ := OutsN.below hO.out hb; clear hb)
    | (go_at_call 24; refine Calls.mono (hH.out.fwd (OutsN.keeps hO.out)) ?_; rintro e w2 ⟨p1, l1, c1, z1, rfl, hN, hb⟩; replace hN := hN.mono (OutsN.keeps hO.out).size; replace hO : Hid _ := OutsN.below hO.out hb; clear hb)
    | (go_at_call 25; refine Calls.mono (hH.out.inv (OutsN.keeps hO.out)) ?_; rintro e w2 ⟨p1, l1, c1, z1, rfl, hN, hb⟩; replace hN := hN.mono (OutsN.keeps hO.out).size; replace hO : Hid _ := OutsN.below hO.out hb; clear hb)
    | (go_at_call 26; refine Calls.mono (hH.out.cyc (OutsN.keeps hO.out)) ?_; rintro e w2 ⟨p1, l1, c1, z1, rfl, hN, hb⟩; replace hN := hN.mono (OutsN.keeps hO.out).size; replace hO : Hid _ := OutsN.below hO.out hb; clear hb)
    | (go_at_call 27; refine Calls.mono (hH.out.skew (OutsN.keeps hO.out)) ?_; rintro e w2 ⟨p1, l1, c1, z1, rfl, hN, hb⟩; replace hN := hN.mono (OutsN.keeps hO.out).size; replace hO : Hid _ := OutsN.below hO.out hb; clear hb)
    | (go_at_call 28; refine Calls.mono (hH.out.lin (OutsN.keeps hO.out)) ?_; rintro e w2 ⟨p1, l1, c1, z1, rfl, hN, hb⟩; replace hN := hN.mono (OutsN.keeps hO.out).size; replace hO : Hid _ := OutsN.below hO.out hb; clear hb)
    | (go_at_call 29; refine Calls.mono (hH.out.mfw (OutsN.keeps hO.out)) ?_; rintro e w2 ⟨p1, l1, c1, z1, rfl, hN, hb⟩; replace hN := hN.mono (OutsN.keeps hO.out).size; replace hO : Hid _ := OutsN.below hO.out hb; clear hb)
    | (go_at_call 30; refine Calls.mono (hH.out.mcy (OutsN.keeps hO.out)) ?_; rintro e w2 ⟨p1, l1, c1, z1, rfl, hN, hb⟩; replace hN := hN.mono (OutsN.keeps hO.out).size; replace hO : Hid _ := OutsN.below hO.out hb; clear hb)
    | (go_at_call 31; refine Calls.mono (hH.out.pdo (OutsN.keeps hO.out)) ?_; rintro e w2 ⟨p1, l1, c1, z1, rfl, hN, hb⟩; replace hN := hN.mono (OutsN.keeps hO.out).size; replace hO : Hid _ := OutsN.below hO.out hb; clear hb)
    | (go_at_call 23; refine Calls.mono (hH.out.div (OutsN.keeps hO.out)) ?_; rintro e w2 ⟨p1, l1, c1, p2, l2, c2, z1, rfl, hN, hN2, hb⟩; replace hN := hN.mono (OutsN.keeps hO.out).size; replace hN2 := hN2.mono (OutsN.keeps hO.out).size; replace hO : Hid _ := OutsN.below hO.out hb; clear hb; obtain ⟨vs, hvs, ⟨vv, hx1, hx2⟩, hx3, hx4, hx5⟩ := hO.out; have hcl := cell_of_one hx1; have hvs6 : vs.length ≤ 1000000 := (by rw [hvs]; decide); replace hvs : Hid _ := hvs; clear hO)
    | (at_builtin; refine wp_appendL2 rfl _ _ rfl vv _ _ _ _ _ _ _ _ rfl hx2 rfl hvs6 hx5 ?_; intro gq cq w3 hown3 hb3 hkeep; obtain ⟨hbx, hO3⟩ := Outs.add2 hx1 hx2 hx3 hx4 hN hN2 hown3 hb3 hkeep; have hO : Hid (OutsN w0 w0.heap.size _ 5) := ⟨_, (by rw [List.length_append, hvs.out]; rfl), hO3⟩; have hcl2 := cell_of_one hbx; have hfr2 := free_of_one hbx; clear hkeep hown3 hcl hbx hx1 hx2 hx3 hx4 hx5 hb3 hN hN2 hvs hvs6 hO3)
    | (go_at_call 11; refine Calls.mono (hSh w0 _ n ga ca gb cb w7.heap.size _ A B hH.out ((OutsN.keeps hO.out).trans ((below_alloc1 _ _).mono (OutsN.keeps hO.out).size)) (isZ_one _ _ 1 (by decide))) ?_; rintro e w2 ⟨p1, l1, c1, z1, rfl, hN, hb⟩; replace hO : Hid _ := OutsN.below hO.out (below_alloc1 _ (.cells #[.int .i64 1] 3)); replace hN := hN.mono (OutsN.keeps hO.out).size; replace hO : Hid _ := OutsN.below hO.out hb; clear hb)
    | (go_at_call 7; refine Calls.mono (hCo w0 _ n ga ca gb cb w7.heap.size A B hH.out (OutsN.keeps hO.out)) ?_; rintro e w2 ⟨p1, l1, c1, z1, rfl, hN, hb⟩; replace hN := hN.mono (OutsN.keeps hO.out).size; replace hO : Hid _ := OutsN.below hO.out hb; clear hb)
    | (go_at_call 33; refine Calls.mono (keep_short _ _ A 4 (hH.out.a.below (OutsN.keeps hO.out)) (by decide)) ?_; rintro e wS ⟨⟨u4, rfl, hU4⟩, hw⟩; rw [hw]; clear hw)
    | (go_at_call 32; refine Calls.mono (hEn _ _ _ hU4 (by rw [List.length_take, lA.out]; omega) (by rw [List.length_take]; omega)) ?_; rintro e w2 ⟨p1, l1, c1, z1, rfl, hN, hb⟩; replace hN := hN.mono (OutsN.keeps hO.out).size; replace hO : Hid _ := OutsN.below hO.out hb; clear hb; have tkE : Hid True := trivial; clear hU4)
    | (go_at_call 19; have _t := tkE; refine Calls.mono (own_addN w0 _ w0.heap.size _ _ _ _ _ hO.out hN (by decide)) ?_; rintro e w2 ⟨rfl, hO2⟩; obtain ⟨G, cG, cur, hcl9, hg9, hall, hk9⟩ := OutsN.ends hO2 (by decide); clear hO2 hO hN tkE _t; replace hall : Hid _ := hall)
    | (go_at_call 19; refine Calls.mono (own_addN w0 _ w0.heap.size _ _ _ _ _ hO.out hN (by decide)) ?_; rintro e w2 ⟨rfl, hO2⟩; replace hO : Hid _ := hO2; clear hO2 hN))
  clear hSh hCo hEn hrA
  go_loopw [149] (fun vi wr => ∃ i : Nat, i ≤ 16 ∧ vi = .int .i64 (i : Int) ∧ Hid (Spt w0 G cur wr))
    (fun vi _ => 16 - (intOf vi).toNat)
  case atStart => exact ⟨0, Nat.zero_le _, rfl, hg9, hall.out, hk9⟩
  case round =>
    clear hg9 hk9 hall
    obtain ⟨i, hi, rfl, hS⟩ := hrel
    by_cases hlt : i < 16
    · obtain ⟨u, hu, hN⟩ := hS.out.2.1 i hlt
      have hcl := cell_at hS.out.1 hu
      have cS := spoil_N wr w0.heap.size u 99 hN
      have hnext : Hid (∀ w', Same wr w' → Else wr w' → Below w0.heap.size wr w' → Spt w0 G cur w') := fun w' h1 h2 h3 => hS.out.next h1 h2 h3
      clear hN hS hu
      go_wp2_with (go_at_call 34; refine Calls.mono cS ?_; rintro e w3 ⟨rfl, q1, q2, q3⟩)
      have hS3 : Hid _ := hnext.out _ q1 q2 q3
      go_roundw
      case rel => exact ⟨i + 1, by omega, by go_num, hS3⟩
      case measure => simp only [intOf]; omega
    · have e : i = 16 := by omega
      subst e
      have hk : Hid _ := hS.out.2.2
      have hge : (16 : Int) ≤ 16 := Int.le_refl _
      have tk4 : True := trivial
      have tk5 : True := trivial
      clear hS
      go_wp2_with (first
        | (go_at_call 8; have _t := tk4; refine Calls.mono (slices_Equal _ _ _ A (hH.out.a.below (Hid.out hk)) (IsU.below hwas.out (Hid.out hk))) ?_; rintro e w3 ⟨rfl, hb⟩; clear tk4; replace hk : Hid _ := Below.trans (Hid.out hk) (hb.mono (Below.size (Hid.out hk))); clear hb)
        | (go_at_call 8; refine Calls.mono (slices_Equal _ _ _ B (hH.out.b.below (Hid.out hk)) (IsU.below htoo.out (Hid.out hk))) ?_; rintro e w3 ⟨rfl, hb⟩; replace hk : Hid _ := Below.trans (Hid.out hk) (hb.mono (Below.size (Hid.out hk))); clear hb)
        | (go_at_call 35; have _t := tk5; refine Calls.mono (keep_kept _ ga n ca 7 A (hH.out.rowA.below (Hid.out hk)) lA.out hH.out.ma) ?_; rintro e w3 ⟨rfl, hb⟩; clear tk5; replace hk : Hid _ := Below.trans (Hid.out hk) (hb.mono (Below.size (Hid.out hk))); clear hb)
        | (go_at_call 35; refine Calls.mono (keep_kept _ gb n cb 7 B (hH.out.rowB.below (Hid.out hk)) lB.out hH.out.mb) ?_; rintro e w3 ⟨rfl, hb⟩; replace hk : Hid _ := Below.trans (Hid.out hk) (hb.mono (Below.size (Hid.out hk))); clear hb))
      go_ret
      exact ⟨rfl, Below.trans hW.out ((Hid.out hk).mono (Below.size hW.out))⟩

end Go.Proofs.YtgkepflnnoociagDoor
