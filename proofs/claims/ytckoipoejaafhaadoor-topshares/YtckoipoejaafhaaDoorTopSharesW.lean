/-
  The law TopShares, beside leavers, whole.
-/
import Derived.Test.YtckoipoejaafhaaDoorCeUAll
import Derived.Test.YtckoipoejaafhaaDoorCeUAll
import Derived.Test.YtckoipoejaafhaaDoorShT
import Derived.Test.YtckoipoejaafhaaDoorPolyCAll
import Derived.Test.YtckoipoejaafhaaDoorCeUAll
namespace Go.Proofs.YtckoipoejaafhaaDoor
open Go.RowKit
set_option maxRecDepth 100000
noncomputable def lfT (ls : List Int) (m : Nat) (SY : List Nat) : Int → Option Nat := fun z => if z ∈ ls ∨ (m : Int) ≤ z then none else some (SY.getD z.toNat 0)
theorem shr_stop {f : Int → Option Nat} {m : Nat} (h : ∀ t : Nat, m ≤ t → f (t : Int) = none) : ∀ j, shr f (m + j) = shr f m
  | 0 => rfl
  | j + 1 => by rw [show m + (j + 1) = (m + j) + 1 by omega, shr_none (h _ (by omega)), shr_stop h j]
theorem lfT_all {ls : List Int} {m : Nat} {SY : List Nat} (hm : m ≤ 64) : shr (lfT ls m SY) 64 = shr (lfT ls m SY) m := by
  have := shr_stop (f := lfT ls m SY) (m := m) (fun t ht => by unfold lfT; rw [if_pos (.inr (by omega))]) (64 - m)
  rw [show m + (64 - m) = 64 by omega] at this
  exact this
theorem lfT_has {ls : List Int} {m : Nat} {xs : List Nat} : Has xs (shr (lfT ls m (mk m (symF xs))) m) (shr (lfT ls m (mk m (symF xs))) m).length := by
  rw [Has.iff]
  intro p hp
  obtain ⟨t, h1, h2, h3⟩ := mem_shr.mp hp
  unfold lfT at h3
  by_cases hc : (t : Int) ∈ ls ∨ (m : Int) ≤ (t : Int)
  · rw [if_pos hc] at h3; cases h3
  · rw [if_neg hc] at h3
    simp only [Option.some.injEq, Int.toNat_natCast] at h3
    rw [h2, ← h3, mk_getD _ _ _ h1, toF_val, Int.toNat_natCast]
    rfl
theorem lfT_rng {ls : List Int} {m : Nat} {xs : List Nat} (hm : m ≤ 64) : SRng (shr (lfT ls m (mk m (symF xs))) m) := fun p hp => by
  obtain ⟨t, h1, h2, h3⟩ := mem_shr.mp hp
  unfold lfT at h3
  by_cases hc : (t : Int) ∈ ls ∨ (m : Int) ≤ (t : Int)
  · rw [if_pos hc] at h3; cases h3
  · rw [if_neg hc] at h3
    simp only [Option.some.injEq, Int.toNat_natCast] at h3
    refine ⟨by omega, ?_⟩
    rw [← h3, mk_getD _ _ _ h1]
    have := (symF xs t).isLt
    omega
set_option maxRecDepth 100000 in
set_option maxHeartbeats 8000000 in
theorem topShares_bad (w : World) (av : Option Addr) (cv l0 k : Nat) (n : Int) (vp : Value) (xs : List Nat) (h : IsU w (.slice av k cv) xs) (hn : (Lit.int .i64 n).wf = true) (hTb : Tab w) (hOk : ¬ EnOk xs n) :
    (Cc.sq2 (Cc.sq2 (Cc.sq2 (Tryd.f8.body.getD .skip)))).wp Tryd.prog (bodyPost Tryd.prog Tryd.f8 fun e w' => e = .returned (.bool true) ∧ Below w.heap.size w w')
      ⟨#[.slice av k cv, .int .i64 n, vp, undef, undef, undef, .bool false, undef, undef, undef, undef, undef, undef, undef, undef, undef, undef, undef, undef, undef, undef, undef, undef, .bool true, .bool false, .slice av l0 cv, .slice av l0 cv, .int .i64 (l0 : Int), .int .i64 (k : Int), .slice av k cv, undef, undef, undef, undef, undef, undef, undef, undef, undef, undef, undef, undef, undef, undef, undef, undef, undef, undef, undef, undef, undef, undef, undef, undef, undef, undef, undef, undef, undef, undef, undef, undef, undef, undef, undef, undef, undef, undef, undef, undef, undef, undef, undef, undef, undef, undef, undef, undef, undef, undef, undef, undef, undef, undef, undef, undef, undef, undef, undef, undef, undef, undef, undef, undef, undef, undef, undef, undef, undef, undef, undef, undef, undef, undef, undef, undef, undef, undef, undef, undef, undef, undef, undef, undef, undef, undef, undef, undef, undef, undef, undef, undef, undef, undef], []⟩ w := by
  have cE := share_Encode w _ xs n h hn hTb
  have hEe : enE xs n = 1 := if_neg hOk
  rw [hEe] at cE
  clear hEe hOk
  refine Cc.rest3 (fn := Tryd.f8) rfl ?_
  go_wp2_with (go_at_call 28; refine Calls.mono cE ?_; rintro e w1 ⟨u1, rfl, hU1, hb1⟩; clear cE hU1)
  go_ret
  exact ⟨rfl, hb1⟩
theorem sh_new (w : World) (p : Int) (y : Nat) : (w.alloc (.cells #[.int .i64 p, .int .u64 (y : Int)] 64)).heap[w.heap.size]? = some (.cells #[.int .i64 p, .int .u64 (y : Int)] 64 (0, 0)) := by
  show (w.heap.push _)[w.heap.size]? = _
  simp
theorem pN_mkc {xs : List Nat} {L : List (Int × Nat)} (hS : ShK L L.length) (hl : xs.length ≤ L.length) (hH : Has xs L L.length) : pN (mk xs.length (cf xs)) = pN xs :=
  Has.one hS (by rw [mk_length]; exact hl) hl (fun i hi => by rw [ev_mk_cf (Nat.le_refl _)]; exact hH i hi) hH
set_option maxRecDepth 100000 in
set_option maxHeartbeats 8000000 in
theorem topShares_ok (w : World) (av : Option Addr) (cv l0 k m : Nat) (vp : Value) (xs : List Nat) (ls : List Int) (h : IsU w (.slice av k cv) xs) (hP : IsZ w vp ls) (hn : (Lit.int .i64 (m : Int)).wf = true) (hTb : Tab w) (hk : xs.length = k) (hk16 : k ≤ 16) (hOk : EnOk xs (m : Int)) :
    (Cc.sq2 (Cc.sq2 (Cc.sq2 (Tryd.f8.body.getD .skip)))).wp Tryd.prog (bodyPost Tryd.prog Tryd.f8 fun e w' => e = .returned (.bool true) ∧ Below w.heap.size w w')
      ⟨#[.slice av k cv, .int .i64 (m : Int), vp, undef, undef, undef, .bool false, undef, undef, undef, undef, undef, undef, undef, undef, undef, undef, undef, undef, undef, undef, undef, undef, .bool true, .bool false, .slice av l0 cv, .slice av l0 cv, .int .i64 (l0 : Int), .int .i64 (k : Int), .slice av k cv, undef, undef, undef, undef, undef, undef, undef, undef, undef, undef, undef, undef, undef, undef, undef, undef, undef, undef, undef, undef, undef, undef, undef, undef, undef, undef, undef, undef, undef, undef, undef, undef, undef, undef, undef, undef, undef, undef, undef, undef, undef, undef, undef, undef, undef, undef, undef, undef, undef, undef, undef, undef, undef, undef, undef, undef, undef, undef, undef, undef, undef, undef, undef, undef, undef, undef, undef, undef, undef, undef, undef, undef, undef, undef, undef, undef, undef, undef, undef, undef, undef, undef, undef, undef, undef, undef, undef, undef, undef, undef, undef, undef, undef, undef], []⟩ w := by
  have cE := share_Encode w _ xs (m : Int) h hn hTb
  have hEe : enE xs (m : Int) = 0 := if_pos hOk
  have hEl : enL xs (m : Int) = mk m (symF xs) := by unfold enL; rw [if_pos hOk]; rfl
  rw [hEe, hEl] at cE
  have hk1 : 1 ≤ k := by have := hOk.1; omega
  have hm64 : 1 ≤ m ∧ m ≤ 64 := by have := hOk.2.1; omega
  have hml : Hid ((mk m (symF xs)).length = m) := mk_length _ _
  have cR : ∀ W, Calls Tryd.prog 29 #[.int .i64 6] W fun e w' => e = .returned (.tuple #[.int .u64 ((rt 6 : Nat) : Int), .int .i64 0]) ∧ w' = W := fun W => field_Root_in 6 (by decide) W
  have hrt : ((rt 6 : Nat) : Int) < 18446744073709551616 := by have := fW_lt 7 (18446744069414584320 / 2 ^ 6); unfold rt; omega
  have hwk : (Lit.int .i64 (k : Int)).wf = true := by simp [Lit.wf, IntKind.min, IntKind.max, IntKind.signed, IntKind.bits]; omega
  have hSS0 : ShK (shr (lfT ls m (mk m (symF xs))) m) (shr (lfT ls m (mk m (symF xs))) m).length := by
    have := shr_ShK (lfT ls m (mk m (symF xs)))
    rw [lfT_all hm64.2] at this
    exact this
  have hHas : Has xs (shr (lfT ls m (mk m (symF xs))) m) (shr (lfT ls m (mk m (symF xs))) m).length := lfT_has
  have hRng : SRng (shr (lfT ls m (mk m (symF xs))) m) := lfT_rng hm64.2
  have hlf := shr_length (lfT ls m (mk m (symF xs))) m
  have cP : Hid (∀ i : Nat, i < 64 → ∀ s, lfT ls m (mk m (symF xs)) (i : Int) = some s → ∃ p : Nat, (∀ W, Calls Tryd.prog 31 #[.int .u64 ((rt 6 : Nat) : Int), .int .u64 (i : Int)] W fun e w' => e = .returned (.int .u64 (p : Int)) ∧ w' = W) ∧ XS (lfT ls m (mk m (symF xs))) (i + 1) = XS (lfT ls m (mk m (symF xs))) i ++ [p] ∧ YS (lfT ls m (mk m (symF xs))) (i + 1) = YS (lfT ls m (mk m (symF xs))) i ++ [s]) := fun i hi s hs => ⟨fW (rt 6) i, fun W => field_Pow (rt 6) i hrt (by omega) W, (XS_some hs).1, (XS_some hs).2⟩
  have hf : Hid (∀ i : Nat, i < m → (i : Int) ∉ ls → lfT ls m (mk m (symF xs)) (i : Int) = some ((mk m (symF xs)).getD i 0)) := fun i hi hx => by
    unfold lfT
    rw [if_neg (fun q => q.elim hx (fun q => by omega)), Int.toNat_natCast]
  have hf0 : Hid (∀ i : Nat, (i : Int) ∈ ls → lfT ls m (mk m (symF xs)) (i : Int) = none) := fun i hx => by
    unfold lfT
    rw [if_pos (.inl hx)]
  have hU0 : Hid (∀ W, Below w.heap.size w W → IsU W (.slice av k cv) xs) := fun W hW => h.below hW
  obtain ⟨ap, cp, rfl, -⟩ := id hP
  have cC : Hid (∀ W, Below w.heap.size w W → ∀ i : Nat, Calls Tryd.prog 30 #[.slice ap ls.length cp, .int .i64 (i : Int)] W fun e w' => e = .returned (.bool (decide ((i : Int) ∈ ls))) ∧ Below W.heap.size W w') := fun W hW i => slices_ContainsI W _ ls (hP.below hW) i
  have cF : Hid ((shr (lfT ls m (mk m (symF xs))) m).length < k → ∀ W v, Below w.heap.size w W → IsS W v (shr (lfT ls m (mk m (symF xs))) m) → Calls Tryd.prog 32 #[.int .i64 (k : Int), v] W fun e w' => ∃ u, e = .returned (.tuple #[u, .int .i64 4]) ∧ Below W.heap.size W w') := fun hl W v hW hv => by
    refine (share_Recover W k v _ hv hwk (hTb.below hW)).mono ?_
    rintro e w' ⟨u, rfl, _, hb⟩
    refine ⟨u, ?_, hb⟩
    rw [(rcE_few (shE_of (k := k) (by omega) hSS0) (by omega)).1]
  have cG : Hid (k ≤ (shr (lfT ls m (mk m (symF xs))) m).length → ∀ W v, Below w.heap.size w W → IsS W v (shr (lfT ls m (mk m (symF xs))) m) → Calls Tryd.prog 32 #[.int .i64 (k : Int), v] W fun e w' => ∃ u c, e = .returned (.tuple #[.slice u k c, .int .i64 0]) ∧ IsU w' (.slice u k c) (mk k (cf xs)) ∧ Below W.heap.size W w') := fun hl W v hW hv => by
    refine (share_Recover W k v _ hv hwk (hTb.below hW)).mono ?_
    rintro e w' ⟨u, rfl, hU, hb⟩
    have hr := rc_ok (xs := xs) (by omega) hSS0 (by omega) hHas
    rw [hk] at hr
    rw [hr.2] at hU
    obtain ⟨a, c, e, hh⟩ := id hU
    rw [mk_length] at e
    subst e
    exact ⟨a, c, by rw [hr.1], hU, hb⟩
  have cT : Hid (k ≤ (shr (lfT ls m (mk m (symF xs))) m).length → ∀ w1 W vx vy, Two w1 W vx vy (XS (lfT ls m (mk m (symF xs))) m) (YS (lfT ls m (mk m (symF xs))) m) → Calls Tryd.prog 33 #[vx, vy] W fun e w' => ∃ u0, e = .returned (.tuple #[u0, .int .i64 0]) ∧ IsU w' u0 (pN xs) ∧ Below W.heap.size W w') := fun hl w1 W vx vy hT => by
    have hrx := xsS_rng (shr (lfT ls m (mk m (symF xs))) m) (shr (lfT ls m (mk m (symF xs))) m).length
    have hry := ysS_rng (shr (lfT ls m (mk m (symF xs))) m) (shr (lfT ls m (mk m (symF xs))) m).length (fun i hi => (hRng _ (getS_mem hi)).2)
    obtain ⟨h1, h2⟩ := hT.isU hrx hry
    refine (poly_Through_ok W vx vy _ _ h1 h2 (pts_S hSS0 (by omega))).mono ?_
    rintro e w' ⟨u0, l, rfl, hU, hG, hb⟩
    unfold XS YS at hG
    rw [xsS_length] at hG
    have hl2 := hG.2.1
    have e1 : l = pN xs := by rw [← hG.1]; exact Has.one hSS0 hl2 (by omega) hG.has hHas
    exact ⟨u0, rfl, by rw [← e1]; exact hU, hb⟩
  have cN : Hid (∀ W, IsU W (.slice av k cv) xs → Calls Tryd.prog 34 #[.slice av k cv] W fun e w' => ∃ u0, e = .returned (.tuple #[u0, .int .i64 0]) ∧ IsU w' u0 (pN xs) ∧ Below W.heap.size W w') := fun W hU => poly_Norm_ok W _ xs hU (by omega)
  have cM : Hid (k ≤ (shr (lfT ls m (mk m (symF xs))) m).length → ∀ W v, IsU W v (mk k (cf xs)) → Calls Tryd.prog 34 #[v] W fun e w' => ∃ u0, e = .returned (.tuple #[u0, .int .i64 0]) ∧ IsU w' u0 (pN xs) ∧ Below W.heap.size W w') := fun hl W v hU => by
    have := poly_Norm_ok W v _ hU (by rw [mk_length]; omega)
    rw [← hk, pN_mkc hSS0 (by omega) hHas] at this
    exact this
  have cQ : Hid (∀ W v v', IsU W v (pN xs) → IsU W v' (pN xs) → Calls Tryd.prog 14 #[v, v'] W fun e w' => e = .returned (.bool true) ∧ Below W.heap.size W w') := fun W v v' h1 h2 => slices_Equal W v v' _ h1 h2
  have hS0 : Hid (∀ w1 W v, OwS w1 W v (shr (lfT ls m (mk m (symF xs))) m) → IsS W v (shr (lfT ls m (mk m (symF xs))) m)) := fun w1 W v h => h.isS hRng
  have hX0 : Hid (∀ i : Nat, lfT ls m (mk m (symF xs)) (i : Int) = none → shr (lfT ls m (mk m (symF xs))) (i + 1) = shr (lfT ls m (mk m (symF xs))) i ∧ XS (lfT ls m (mk m (symF xs))) (i + 1) = XS (lfT ls m (mk m (symF xs))) i ∧ YS (lfT ls m (mk m (symF xs))) (i + 1) = YS (lfT ls m (mk m (symF xs))) i) := fun i h => ⟨shr_none h, (XS_none h).1, (XS_none h).2⟩
  clear h hEe hEl hOk hk hP hTb hn hSS0 hHas hRng hlf hrt
  generalize lfT ls m (mk m (symF xs)) = f at *
  generalize mk m (symF xs) = SY at *
  generalize mk k (cf xs) = GT at *
  generalize pN xs = PN at *
  generalize rt 6 = r6 at *
  refine Cc.rest3 (fn := Tryd.f8) rfl ?_
  go_wp2_with (first
    | (go_at_call 28; refine Calls.mono cE ?_; rintro e w1 ⟨u1, rfl, hU1, hb1⟩; clear cE; obtain ⟨b1, o1, c1, rfl⟩ := hU1.placeN hml.out (by omega); replace hU1 : Hid (IsU w1 (.slice (some ⟨b1, o1, none⟩) m c1) SY) := hU1; replace hb1 : Hid (Below w.heap.size w w1) := hb1)
    | (go_at_call 29; refine Calls.mono (cR _) ?_; rintro e w2 ⟨rfl, hw⟩; rw [hw]; clear hw cR))
  have hT0 : Hid (Thr w1 w1 (.slice none 0 0) (.slice none 0 0) (.slice none 0 0) (shr f 0) (XS f 0) (YS f 0)) := Thr.start w1
  go_loopw [9, 10, 11, 44] (fun vl vx vy vi wr => ∃ i : Nat, i ≤ m ∧ vi = .int .i64 (i : Int) ∧ Hid (Thr w1 wr vl vx vy (shr f i) (XS f i) (YS f i)))
    (fun _ _ _ vi _ => m - (intOf vi).toNat)
  case atStart => exact ⟨0, Nat.zero_le _, rfl, hT0⟩
  case round =>
    clear hT0
    obtain ⟨i, hi, rfl, hT⟩ := hrel
    by_cases hlt : i < m
    · have hwi : (Lit.int .i64 (i : Int)).wf = true := by simp [Lit.wf, IntKind.min, IntKind.max, IntKind.signed, IntKind.bits]; omega
      have hbw : Hid (Below w.heap.size w wr) := hb1.out.trans (hT.out.two.bl.mono hb1.out.size)
      have hc0 := hU1.out.cell i (by rw [hml.out]; exact hlt)
      have hcell := (hT.out.two.bl.cell (block_lt hc0)).trans hc0
      have c0 := cC.out wr hbw.out i
      clear hc0
      by_cases hx : (i : Int) ∈ ls
      · rw [decide_eq_true hx] at c0
        obtain ⟨e0, e1, e2⟩ := hX0.out i (hf0.out i hx)
        rw [← e0, ← e1, ← e2] at hT
        clear e0 e1 e2 cP hf hf0 cC cF cG cT cN cM cQ hS0 hX0 hx hU0
        generalize SY.getD i 0 = s at *
        go_wp2_with (go_at_call 30; refine Calls.mono c0 ?_; rintro e w3 ⟨rfl, hb3⟩; replace hT : Hid (Thr w1 w3 _ _ _ _ _ _) := hT.out.below hb3; clear c0 hb3)
        go_roundw
        case rel => exact ⟨i + 1, by omega, by go_num, hT⟩
        case measure => simp only [intOf]; omega
      · rw [decide_eq_false hx] at c0
        have hfi := hf.out i hlt hx
        obtain ⟨p, cp, e1, e2⟩ := cP.out i (by omega) _ hfi
        have e0 := shr_some hfi
        have hl1 : (shr f i).length ≤ 1000 := by have := shr_length f i; omega
        have hl2 : (XS f i).length ≤ 1000 := by have := (XS_len f i).1; omega
        have hl3 : (YS f i).length ≤ 1000 := by have := (XS_len f i).2; omega
        clear cP hf hf0 cC cF cG cT cN cM cQ hS0 hX0 hx hU0 hfi
        generalize SY.getD i 0 = s at *
        have hup : Hid (∀ W vl vx vy, Thr w1 W vl vy vx (shr f i ++ [((i : Int), s)]) (YS f i ++ [s]) (XS f i ++ [p]) → Thr w1 W vl vx vy (shr f (i + 1)) (XS f (i + 1)) (YS f (i + 1))) := fun W vl vx vy h => by rw [e0, e1, e2]; exact h.swap
        clear e0 e1 e2
        go_wp2_with (first
          | (go_at_call 30; refine Calls.mono c0 ?_; rintro e w3 ⟨rfl, hb3⟩; replace hT : Hid (Thr w1 w3 _ _ _ _ _ _) := hT.out.below hb3; clear c0 hb3)
          | (go_at_call 31; refine Calls.mono (cp _) ?_; rintro e w' ⟨rfl, hw⟩; rw [hw]; clear hw cp)
          | (at_builtin; refine wp_appL rfl _ _ rfl (hT.out.below (below_alloc1 _ _)) (sh_new _ _ _) rfl rfl hl1 ?_; intro v1 w4 hT1; clear hT)
          | (at_builtin; refine wp_appX3 rfl _ _ rfl (hT1.below (below_alloc1 _ _)) (lt_new _ _) rfl rfl hl2 ?_; intro v2 w5 hT2; clear hT1)
          | (at_builtin; refine wp_appX3 rfl _ _ rfl (hT2.swap.below (below_alloc1 _ _)) (lt_new _ _) rfl rfl hl3 ?_; intro v3 w6 hT3; replace hT3 : Hid (Thr w1 w6 _ _ _ _ _ _) := hup.out _ _ _ _ hT3; clear hT2 hup))
        go_roundw
        case rel => exact ⟨i + 1, by omega, by go_num, hT3⟩
        case measure => simp only [intOf]; omega
    · obtain rfl : i = m := by omega
      have hbw : Hid (Below w.heap.size w wr) := hb1.out.trans (hT.out.two.bl.mono hb1.out.size)
      have hvs := hS0.out w1.heap.size wr _ hT.out.ol
      obtain ⟨al, cl, rfl, -⟩ := id hvs
      have hlf := shr_length f i
      clear cP hf hf0 cC hS0 hX0 hU1
      by_cases hfew : (shr f i).length < k
      · have cF' := cF.out hfew wr _ hbw.out hvs
        clear cF cG cT cN cM cQ hU0 hvs hT
        generalize (shr f i).length = q at *
        go_wp2_with (go_at_call 32; refine Calls.mono cF' ?_; rintro e w3 ⟨u, rfl, hb3⟩; clear cF')
        go_ret
        exact ⟨rfl, hbw.out.trans (hb3.mono hbw.out.size)⟩
      · have hge : k ≤ (shr f i).length := by omega
        have cG' := cG.out hge wr _ hbw.out hvs
        have cT' := cT.out hge
        have cM' := cM.out hge
        have hTw := hT.out.two
        clear cF cG cT cM hvs hT hfew
        replace hTw : Hid (Two w1 wr _ _ _ _) := hTw
        replace cT' : Hid (∀ w1 W vx vy, _) := cT'
        replace cM' : Hid (∀ W v, _) := cM'
        generalize (shr f i).length = q at *
        go_wp2_with (first
          | (go_at_call 32; refine Calls.mono cG' ?_; rintro e w3 ⟨u, c3, rfl, hG, hb3⟩; replace hG : Hid (IsU w3 _ GT) := hG; replace hTw : Hid (Two w1 w3 _ _ _ _) := hTw.out.below hb3; have hb3' : Hid (Below w.heap.size w w3) := hbw.out.trans (hb3.mono hbw.out.size); clear cG' hb3 hbw)
          | (go_at_call 33; refine Calls.mono (cT'.out _ _ _ _ hTw.out) ?_; rintro e w4 ⟨u4, rfl, h4, hb4⟩; replace h4 : Hid (IsU w4 u4 PN) := h4; replace hG : Hid (IsU w4 _ GT) := hG.out.below hb4; have hb4' : Hid (Below w.heap.size w w4) := hb3'.out.trans (hb4.mono hb3'.out.size); have hd4 := hU0.out w4 hb4'.out; clear cT' hb4 hb3' hTw)
          | (go_at_call 34; refine Calls.mono (cN.out _ hd4) ?_; rintro e w5 ⟨u5, rfl, h5, hb5⟩; replace h5 : Hid (IsU w5 u5 PN) := h5; replace h4 : Hid (IsU w5 u4 PN) := h4.out.below hb5; replace hG : Hid (IsU w5 _ GT) := hG.out.below hb5; have hb5' : Hid (Below w.heap.size w w5) := hb4'.out.trans (hb5.mono hb4'.out.size); clear cN hb5 hb4' hd4)
          | (go_at_call 34; refine Calls.mono (cM'.out _ _ hG.out) ?_; rintro e w6 ⟨u6, rfl, h6, hb6⟩; replace h6 : Hid (IsU w6 u6 PN) := h6; replace h5 : Hid (IsU w6 u5 PN) := h5.out.below hb6; replace h4 : Hid (IsU w6 u4 PN) := h4.out.below hb6; have hb6' : Hid (Below w.heap.size w w6) := hb5'.out.trans (hb6.mono hb5'.out.size); clear cM' hb6 hb5' hG)
          | (go_at_call 14; refine Calls.mono (cQ.out _ _ _ h6.out h5.out) ?_; rintro e w7 ⟨rfl, hb7⟩; replace h5 : Hid (IsU w7 u5 PN) := h5.out.below hb7; replace h4 : Hid (IsU w7 u4 PN) := h4.out.below hb7; have hb7' : Hid (Below w.heap.size w w7) := hb6'.out.trans (hb7.mono hb6'.out.size); clear hb7 hb6' h6)
          | (go_at_call 14; refine Calls.mono (cQ.out _ _ _ h4.out h5.out) ?_; rintro e w8 ⟨rfl, hb8⟩; have hb8' : Hid (Below w.heap.size w w8) := hb7'.out.trans (hb8.mono hb7'.out.size); clear hb8 hb7' h4 h5))
        go_ret
        exact ⟨rfl, hb8'.out⟩
theorem topShares_from (w : World) (av : Option Addr) (cv l0 k : Nat) (n : Int) (vp : Value) (xs : List Nat) (ls : List Int) (h : IsU w (.slice av k cv) xs) (hP : IsZ w vp ls) (hn : (Lit.int .i64 n).wf = true) (hTb : Tab w) (hk : xs.length = k) (hk16 : k ≤ 16) :
    (Cc.sq2 (Cc.sq2 (Cc.sq2 (Tryd.f8.body.getD .skip)))).wp Tryd.prog (bodyPost Tryd.prog Tryd.f8 fun e w' => e = .returned (.bool true) ∧ Below w.heap.size w w')
      ⟨#[.slice av k cv, .int .i64 n, vp, undef, undef, undef, .bool false, undef, undef, undef, undef, undef, undef, undef, undef, undef, undef, undef, undef, undef, undef, undef, undef, .bool true, .bool false, .slice av l0 cv, .slice av l0 cv, .int .i64 (l0 : Int), .int .i64 (k : Int), .slice av k cv, undef, undef, undef, undef, undef, undef, undef, undef, undef, undef, undef, undef, undef, undef, undef, undef, undef, undef, undef, undef, undef, undef, undef, undef, undef, undef, undef, undef, undef, undef, undef, undef, undef, undef, undef, undef, undef, undef, undef, undef, undef, undef, undef, undef, undef, undef, undef, undef, undef, undef, undef, undef, undef, undef, undef, undef, undef, undef, undef, undef, undef, undef, undef, undef, undef, undef, undef, undef, undef, undef, undef, undef, undef, undef, undef, undef, undef, undef, undef, undef, undef, undef, undef, undef, undef, undef, undef, undef, undef, undef, undef, undef, undef, undef], []⟩ w := by
  by_cases hOk : EnOk xs n
  · obtain ⟨m, rfl⟩ := Int.eq_ofNat_of_zero_le (show 0 ≤ n by have := hOk.2.1; omega)
    exact topShares_ok w av cv l0 k m vp xs ls h hP hn hTb hk hk16 hOk
  · exact topShares_bad w av cv l0 k n vp xs h hn hTb hOk
end Go.Proofs.YtckoipoejaafhaaDoor
namespace Go.Proofs.YtckoipoejaafhaaDoor.Cc
open Go Go.Conc Go.RowKit
section
variable {w : World} {ρ : Operand → Value} {x y : Operand} {d : Option Tmp} {ty : TypeId} {pos : String} {af : Array Edge} {gd : Option (Nat × Bool)}
theorem min_lo {a b : Int} (hab : a ≤ b) (hx : ρ x = .int .i64 a) (hy : ρ y = .int .i64 b) : (execOp ρ ⟨d, .call { callee := .builtin .min, args := #[x, y], argTypes := #[3, 3] }, ty, pos, af, gd⟩).runT Tryd.prog w #[] = (.ok (.value (.int .i64 a)) w, #[]) := by
  apply run_ev
  · simp [go_sem, hx, hy, Builtin.min_, Builtin.min2]
    omega
  · simp [go_sem, hx, hy, Builtin.min_, Builtin.min2]
theorem min_hi {a b : Int} (hab : b < a) (hx : ρ x = .int .i64 a) (hy : ρ y = .int .i64 b) : (execOp ρ ⟨d, .call { callee := .builtin .min, args := #[x, y], argTypes := #[3, 3] }, ty, pos, af, gd⟩).runT Tryd.prog w #[] = (.ok (.value (.int .i64 b)) w, #[]) := by
  apply run_ev
  · simp [go_sem, hx, hy, Builtin.min_, Builtin.min2]
    omega
  · simp [go_sem, hx, hy, Builtin.min_, Builtin.min2]
theorem slice_run {a : Option Addr} {l c k : Nat} (hk : k ≤ c) (hx : ρ x = .slice a l c) (hy : ρ y = .int .i64 (k : Int)) : (execOp ρ ⟨d, .slice 23 x none (some y) none, ty, pos, af, gd⟩).runT Tryd.prog w #[] = (.ok (.value (.slice a k c)) w, #[]) := by
  apply run_ev
  · simp [execOp, go_sem, hx, hy, hk]
  · simp [execOp, go_sem, hx, hy, hk, Instr.sliceAt, Instr.slice, Instr.sliceBounds, Instr.sliceBound, asIntOf]
end
set_option maxRecDepth 100000 in
set_option maxHeartbeats 16000000 in
theorem topShares_leads {w : World} {av : Option Addr} {cv : Nat} {n : Int} {vp : Value} {xs0 : List Nat} {ls : List Int} (h : IsU w (.slice av xs0.length cv) xs0) (hcv : xs0.length ≤ cv) (hn : (Lit.int .i64 n).wf = true) (hP : IsZ w vp ls) (hT : Tbs w.heap.size w) :
    Leads Tryd.prog w.heap.size (G (Frame.enter Tryd.prog 8 #[.slice av xs0.length cv, .int .i64 n, vp] .normal) []) w (EndT Tryd.prog w w.heap.size) := by
  rw [enter_fd #[.slice av xs0.length cv, .int .i64 n, vp] Tryd.func8 rfl (show 3 ≤ 124 by omega), Tryd.ntmps8]
  refine leads_seq ?_
  refine leads_region [0] rfl ?_
  refine leads_mv (some 6) rfl rfl rfl (.inr rfl) ?_
  refine leads_regionEnd ?_
  refine leads_seq ?_
  refine leads_seq ?_
  refine leads_region [0, 1] rfl ?_
  refine leads_enterD 15 #[] rfl rfl (fun w => run_ev (by simp [execOp, go_sem, evT_func]) (by simp [execOp, go_sem, evT_func, call_events Tryd.func15 (by kernel_rfl) rfl])) ?_
  refine Leads.then (said_leads hT) ?_
  rintro a' p1 ⟨rfl, b1⟩
  rw [finish_arr _ _ _ _ _ _ _ _ _ _ rfl]
  refine leads_pure (some 24) (.bool false) rfl rfl rfl (fun _ => run_ev (by simp [execOp, go_sem, evT_tmp, put_some]) (by simp [execOp, go_sem, evT_tmp, put_some])) ?_
  refine leads_regionEnd ?_
  refine leads_cond false (by simp [evT_tmp, put_some]) ?_
  refine leads_skip ?_
  by_cases h16 : xs0.length ≤ 16
  case pos =>
    refine leads_seq ?_
    refine leads_region [0, 1, 2, 3, 4, 5] rfl ?_
    refine leads_mv (some 25) rfl rfl rfl (.inl rfl) ?_
    refine leads_mv (some 26) rfl rfl rfl (.inl rfl) ?_
    refine leads_pure (some 27) (.int .i64 (xs0.length : Int)) rfl rfl rfl (fun w => run_ev (by simp [execOp, go_sem, evT_tmp, put_some]) (by simp [execOp, go_sem, evT_tmp, put_some])) ?_
    refine leads_pure (some 28) (.int .i64 (xs0.length : Int)) rfl rfl rfl (fun w => min_lo (a := (xs0.length : Int)) (b := 16) (by omega) (by simp [evT_tmp, put_some]) (by simp [evT_const])) ?_
    refine leads_pure (some 29) (.slice av (xs0.length) cv) rfl rfl rfl (fun w => slice_run (l := xs0.length) (k := xs0.length) (by omega) (by simp [evT_tmp, put_some]) (by simp [evT_tmp, put_some])) ?_
    refine leads_mv (some 0) rfl rfl rfl (.inr rfl) ?_
    refine leads_regionEnd ?_
    exact leads_rest (j := 6) (f := Tryd.f8) tAll _ (by kernel_rfl) Tryd.func8 (by kernel_rfl) rfl (by kernel_rfl) (by kernel_rfl) b1 fun τ d => topShares_from (tp p1 τ d) av cv xs0.length (xs0.length) n vp (xs0.take 16) ls (by rw [List.take_of_length_le (by omega)]; exact IsU.tp (IsU.blw h b1) τ d) (IsZ.tp (IsZ.blw hP b1) τ d) hn (hT.blw b1).tab (by rw [List.length_take]; omega) (by omega)
  case neg =>
    refine leads_seq ?_
    refine leads_region [0, 1, 2, 3, 4, 5] rfl ?_
    refine leads_mv (some 25) rfl rfl rfl (.inl rfl) ?_
    refine leads_mv (some 26) rfl rfl rfl (.inl rfl) ?_
    refine leads_pure (some 27) (.int .i64 (xs0.length : Int)) rfl rfl rfl (fun w => run_ev (by simp [execOp, go_sem, evT_tmp, put_some]) (by simp [execOp, go_sem, evT_tmp, put_some])) ?_
    refine leads_pure (some 28) (.int .i64 (16 : Int)) rfl rfl rfl (fun w => min_hi (a := (xs0.length : Int)) (b := 16) (by omega) (by simp [evT_tmp, put_some]) (by simp [evT_const])) ?_
    refine leads_pure (some 29) (.slice av (16) cv) rfl rfl rfl (fun w => slice_run (l := xs0.length) (k := 16) (by omega) (by simp [evT_tmp, put_some]) (by simp [evT_tmp, put_some])) ?_
    refine leads_mv (some 0) rfl rfl rfl (.inr rfl) ?_
    refine leads_regionEnd ?_
    exact leads_rest (j := 6) (f := Tryd.f8) tAll _ (by kernel_rfl) Tryd.func8 (by kernel_rfl) rfl (by kernel_rfl) (by kernel_rfl) b1 fun τ d => topShares_from (tp p1 τ d) av cv xs0.length (16) n vp (xs0.take 16) ls ((IsU.tp (IsU.blw h b1) τ d).take (by omega)) (IsZ.tp (IsZ.blw hP b1) τ d) hn (hT.blw b1).tab (by rw [List.length_take]; omega) (by omega)
end Go.Proofs.YtckoipoejaafhaaDoor.Cc
namespace Go.Proofs.YtckoipoejaafhaaDoor
open Go Go.Conc Go.RowKit
theorem topShares_walk (w : World) (v : Value) (xs0 : List Nat) (h : IsU w v xs0) (n : Int) (hn : (Lit.int .i64 n).wf = true) (vp : Value) (ls : List Int) (hP : IsZ w vp ls) (hsh : w.ShapedOpen Tryd.prog) (hTb : Tab w) :
    Cc.GoodRun Tryd.prog 8 #[v, .int .i64 n, vp] w := by
  obtain ⟨a, c, rfl, hc, -⟩ := id h
  exact Cc.good_run hsh (Cc.topShares_leads h hc hn hP (Cc.tbs_of hsh hTb))
end Go.Proofs.YtckoipoejaafhaaDoor
