/-
  The walk of the law ExecOnce: whatever is handed in, each task that was done was one of its phase, none twice, and no phase begins ahead of the end of the one ahead; the law returns true.
-/
import Derived.Test.YtmgfjcepebjnfafDoorExL
import Derived.Test.YtmgfjcepebjnfafDoorTskHas
namespace Go.Proofs.YtmgfjcepebjnfafDoor
open Go.RowKit

/-- How many tasks the law counts, by the first x phases. -/
def cntP (L : List (List (List Int))) (ph lf x : Nat) : Nat := (L.take (min x ph)).flatten.length + (if ph < x then (L.getD ph []).length - lf else 0)
theorem cnt_all {ds : List Nat} {L : List (List (List Int))} {xs : List Nat} {W : Nat} {back : Bool} {c : Crw} {P : List (List (List Int))} {dn : List (List Int)} (h : CInv ds L xs W back c P dn) : c.did.length = cntP L c.phase c.left L.length := by
  rw [h.count]
  unfold cntP
  have := h.ph
  rcases Nat.lt_or_ge c.phase L.length with q | q
  · rw [if_pos q, Nat.min_eq_right (by omega)]
    have := (h.room.1 q).2
    omega
  · rw [if_neg (by omega), Nat.min_eq_right (by omega), (h.none (by omega)).1]; rfl
theorem cnt_below (L : List (List (List Int))) (ph lf x : Nat) (hx : x < L.length) (h : x < ph) : cntP L ph lf (x + 1) = cntP L ph lf x + (L.getD x []).length := by
  unfold cntP
  rw [if_neg (by omega), if_neg (by omega), Nat.min_eq_left (by omega), Nat.min_eq_left (by omega), flat_take_succ _ _ hx]; omega
theorem cnt_at (L : List (List (List Int))) (ph lf : Nat) : cntP L ph lf (ph + 1) = cntP L ph lf ph + ((L.getD ph []).length - lf) := by
  unfold cntP
  rw [if_pos (by omega), if_neg (by omega), Nat.min_eq_right (by omega), Nat.min_eq_right (by omega)]; omega
theorem cnt_above (L : List (List (List Int))) (ph lf x : Nat) (h : ph < x) : cntP L ph lf (x + 1) = cntP L ph lf x := by
  unfold cntP
  rw [if_pos (by omega), if_pos h, Nat.min_eq_right (by omega), Nat.min_eq_right (by omega)]

set_option maxRecDepth 100000 in
set_option maxHeartbeats 16000000 in
theorem execOnce_main (w : World) (v vx vp : Value) (zs : List Int) (ds xs : List Nat) (c : Nat) (wk : Int) (K : List (List Int)) (hZ : IsZ w v zs) (hX : IsU w vx xs) (hK : IsR 2 w vp K) (hTb : Tab w) (hG : Good zs ds) (hds : prd2 ds ≤ 64) (hc : 1 ≤ c) (hc9 : (c : Int) ≤ 9223372036854775807) (hK9 : K.length ≤ 300) :
    Calls Tryd.prog 3 #[v, vx, .int .i64 (c : Int), .int .i64 wk, vp] w fun e w' => e = .returned (.bool true) ∧ Below w.heap.size w w' := by
  have hW : Below w.heap.size w w := Below.refl _ _
  have hS : Hid (Shp ds) := hG.2.2.2
  have hFew := few_small hS.out hds c
  have cR := keep_runs w hTb
  have cSh : Hid (∀ W, IsZ W v zs → IsU W vx xs → Calls Tryd.prog 6 #[v, vx] W fun e w' => ∃ g, e = .returned (.tuple #[.slice (some ⟨g, 0, none⟩) (prd2 ds) (prd2 ds), .bool true]) ∧ IsU w' (.slice (some ⟨g, 0, none⟩) (prd2 ds) (prd2 ds)) (szd xs (prd2 ds)) ∧ Below W.heap.size W w') := fun W hz hx => keep_shaped_ok W v vx zs ds xs hz hx hG hds
  have cMk : Hid (∀ W, IsZ W v zs → Calls Tryd.prog 7 #[v, .int .i64 (c : Int)] W fun e w' => ∃ u, e = .returned (.tuple #[u, .int .i64 0]) ∧ IsP 3 w' u (pls ds c ds.length) ∧ Below W.heap.size W w') := fun W hz => plan_Make_ok W v zs ds c hz hG (by omega) hc hc9 hFew
  have b1 := Int.emod_lt_of_pos wk (show (0 : Int) < 8 by omega)
  have b2 := Int.emod_nonneg wk (show (8 : Int) ≠ 0 by omega)
  have cRe := ref_Rest wk 8 (by omega) (by omega)
  obtain ⟨m, hm⟩ : ∃ m : Nat, wk % 8 = (m : Int) := ⟨(wk % 8).toNat, by omega⟩
  rw [hm] at cRe b1 b2
  have hm8 : m < 8 := by omega
  clear b1 b2 hm
  obtain ⟨Wn, hWn⟩ : ∃ Wn : Nat, Hid (Wn = m + 1) := ⟨_, rfl⟩
  have hN1 : Hid (1 + (m : Int) = (Wn : Int)) := by have := hWn.out; show _ = _; omega
  have hW1 : 1 ≤ Wn := by have := hWn.out; omega
  have hW8 : Wn ≤ 8 := by have := hWn.out; omega
  clear hWn
  have hlA : (szd xs (prd2 ds)).length = prd2 ds := szd_length _ _
  obtain ⟨A, hA⟩ : ∃ A, A = szd xs (prd2 ds) := ⟨_, rfl⟩
  rw [← hA] at cSh hlA
  have hst : Hid (Stc ds (pls ds c ds.length) (nmL A) Wn) := stc_of hG hds c hc A hlA Wn hW1 hW8
  have cN : Hid (∀ W u l, IsZ W v zs → IsU W u A → IsP 3 W l (pls ds c ds.length) → Calls Tryd.prog 8 #[v, u, l, .int .i64 (Wn : Int), .bool false] W fun e w' => ∃ p O, e = .returned (.tuple #[p, .int .i64 0]) ∧ Run w' p ds (pls ds c ds.length) (nmL A) Wn false (crew0 (pls ds c ds.length) (nmL A) Wn) O ∧ (∀ k, O k → W.heap.size ≤ k) ∧ Below W.heap.size W w') := fun W u l hz hu hp => exec_New W v u l zs ds A _ Wn false hz hu hp hG (by omega) hst.out.F hst.out.T9 (pls_notbig hFew) hlA hW1 hW8
  have cS : Hid (∀ (W : World) (p : Value) (cc : Crw) (O : Nat → Prop) (a b : Int), Run W p ds (pls ds c ds.length) (nmL A) Wn false cc O → Below w.heap.size w W → (∀ k, O k → w.heap.size ≤ k) → Calls Tryd.prog 10 #[p, .agg #[.int .i64 a, .int .i64 b]] W fun e w' => e = .returned (.int .i64 (pickE cc a b)) ∧ ∃ O', Run w' p ds (pls ds c ds.length) (nmL A) Wn false (pickC ds false (pls ds c ds.length) cc a b) O' ∧ (∀ k, O' k → O k ∨ W.heap.size ≤ k) ∧ But O W w') := fun W p cc O a b h hb hn => run_Step w hTb hb h hn hst.out hS.out a b
  have cLg : Hid (∀ (W : World) (p : Value) (cc : Crw) (O : Nat → Prop), Run W p ds (pls ds c ds.length) (nmL A) Wn false cc O → Calls Tryd.prog 11 #[p] W fun e w' => ∃ u, e = .returned u ∧ w'.ownsRow W.heap.size 45 3 u cc.did.length (tc cc.did) ∧ Below W.heap.size W w') := fun W p cc O h => run_Log h (by have := (h.few hst.out).1; omega)
  have cLe : Hid (∀ (W : World) (p : Value) (cc : Crw) (O : Nat → Prop), Run W p ds (pls ds c ds.length) (nmL A) Wn false cc O → Calls Tryd.prog 12 #[p] W fun e w' => e = .returned (.tuple #[.int .i64 (cc.phase : Int), .int .i64 (cc.left : Int)]) ∧ Below W.heap.size W w') := fun W p cc O h => run_Left h hst.out
  have hfacts : Hid (∀ (W : World) (p : Value) (cc : Crw) (O : Nat → Prop), Run W p ds (pls ds c ds.length) (nmL A) Wn false cc O → cc.did.length ≤ 192 ∧ cc.phase ≤ (pls ds c ds.length).length ∧ cc.left ≤ 64 ∧ T3 cc.did ∧ cc.fin = decide (cc.phase = (pls ds c ds.length).length) ∧ cc.did.length = cntP (pls ds c ds.length) cc.phase cc.left (pls ds c ds.length).length ∧ (cc.phase < (pls ds c ds.length).length → cc.left ≤ ((pls ds c ds.length).getD cc.phase []).length) ∧ cc.did.Pairwise (fun a b => a.getD 0 0 ≤ b.getD 0 0 ∧ a ≠ b) ∧ (∀ t ∈ cc.did, ∃ x : Nat, x < (pls ds c ds.length).length ∧ t.getD 0 0 = (x : Int) ∧ t ∈ (pls ds c ds.length).getD x [])) := fun W p cc O h => by
    obtain ⟨f1, _, f3, f4⟩ := h.few hst.out
    obtain ⟨P, dn, hI⟩ := h.inv
    obtain ⟨g1, g2⟩ := hI.log hst.out.F
    exact ⟨f1, hI.ph, f3, f4, hI.fin, cnt_all hI, fun q => by have := (hI.room.1 q).2; omega, g1, g2⟩
  have cD : Hid (∀ (W : World) (p : Value) (cc : Crw) (O : Nat → Prop), Run W p ds (pls ds c ds.length) (nmL A) Wn false cc O → Calls Tryd.prog 13 #[p] W fun e w' => e = .returned (.bool cc.fin) ∧ Below W.heap.size W w') := fun W p cc O h => run_Done h
  have hT9 : Hid (∀ i, ((pls ds c ds.length).getD i []).length ≤ 64) := hst.out.T9
  have hL3 : (pls ds c ds.length).length ≤ 3 := hst.out.L9
  have hfl := flat_most _ hst.out.T9
  have tk1 : True := trivial
  obtain ⟨ak, ck, rfl, -⟩ := id hK
  clear hG hA hlA hFew hst hc
  generalize pls ds c ds.length = L at *
  go_enter Tryd.func3, Tryd.ntmps3
  go_wp2_with (first
    | (go_at_call 5; refine Calls.mono cR ?_; rintro e w1 ⟨rfl, hb⟩; clear cR; replace hZ := hZ.below hb; replace hX := hX.below hb; replace hK := hK.below hb; replace hW := hb; clear hb)
    | (go_at_call 6; refine Calls.mono (cSh.out _ hZ hX) ?_; rintro e w3 ⟨ga, rfl, hU3, hb⟩; clear cSh hX; replace hZ := hZ.below hb; replace hK := hK.below hb; replace hW := hW.trans (hb.mono hW.size); clear hb)
    | (go_at_call 7; refine Calls.mono (cMk.out _ hZ) ?_; rintro e w4 ⟨u4, rfl, hP, hb⟩; clear cMk; replace hZ := hZ.below hb; replace hK := hK.below hb; replace hU3 := hU3.below hb; replace hW := hW.trans (hb.mono hW.size); clear hb; obtain ⟨al, cl, rfl, -⟩ := id hP)
    | (go_at_call 9; refine Calls.mono (cRe _) ?_; rintro e w' ⟨rfl, hw⟩; rw [hw]; clear hw cRe)
    | (go_at_call 8; rw [hN1.out]; refine Calls.mono (cN.out _ _ _ hZ hU3 hP) ?_; rintro e w5 ⟨p, O5, rfl, hR5, hO5, hb5⟩; clear cN; replace hR5 : Hid _ := hR5))
  have hs4 := hW.size
  have cS4 : Hid (∀ (W : World) (cc : Crw) (O : Nat → Prop) (a b : Int), Run W p ds L (nmL A) Wn false cc O → Below w4.heap.size w4 W → (∀ k, O k → w4.heap.size ≤ k) → Calls Tryd.prog 10 #[p, .agg #[.int .i64 a, .int .i64 b]] W fun e w' => e = .returned (.int .i64 (pickE cc a b)) ∧ ∃ O', Run w' p ds L (nmL A) Wn false (pickC ds false L cc a b) O' ∧ (∀ k, O' k → w4.heap.size ≤ k) ∧ Below w4.heap.size w4 w') := fun W cc O a b h hb hn => (cS.out W p cc O a b h (hW.trans (hb.mono hs4)) fun k q => Nat.le_trans hs4 (hn k q)).mono fun e w' hh => by
    obtain ⟨rfl, O', h1, h2, h3⟩ := hh
    obtain ⟨h4, h5⟩ := but_next hb hn h2 h3
    exact ⟨rfl, O', h1, h5, h4⟩
  clear cS
  go_loopw [63] (fun vi wr => ∃ (i : Nat) (O : Nat → Prop) (cc : Crw), i ≤ K.length ∧ vi = .int .i64 (i : Int) ∧ Hid (Run wr p ds L (nmL A) Wn false cc O) ∧ (∀ k, O k → w4.heap.size ≤ k) ∧ Below w4.heap.size w4 wr)
    (fun vi _ => K.length - (intOf vi).toNat)
  case atStart => exact ⟨0, O5, _, Nat.zero_le _, rfl, hR5, hO5, hb5⟩
  case round =>
    clear hR5 hO5 hb5
    obtain ⟨i, Oi, cc, hi, rfl, hR, hO, hb⟩ := hrel
    by_cases hlt : i < K.length
    · obtain ⟨b, off, cap, pa, pb, e0, x0, x1⟩ := pick_cells hK hb i hlt
      simp only [Value.slice.injEq] at e0
      obtain ⟨rfl, -, rfl⟩ := e0
      have cSi := fun (o : Obj) => cS4.out (wr.alloc o) cc Oi pa pb (hR.out.below (below_alloc1 wr o)) (hb.trans ((below_alloc1 wr o).mono hb.size)) hO
      clear hR
      go_wp2_with (first
        | (go_at_call 10; refine Calls.mono (cSi _) ?_; rintro e w6 ⟨rfl, O6, hR6, hO6, hb6⟩; clear cSi; have cG := cLg.out _ _ _ _ hR6; obtain ⟨cc6, hcc6⟩ : ∃ cc6, Hid (cc6 = pickC ds false L cc pa pb) := ⟨_, rfl⟩; rw [← hcc6.out] at hR6 cG; clear hcc6)
        | (go_at_call 11; refine Calls.mono cG ?_; rintro e w7 ⟨u7, rfl, hown7, hb7⟩; clear cG; have hR7 := hR6.below hb7; have hb7' := hb6.trans (hb7.mono hb6.size); have cE := cLe.out _ _ _ _ hR7)
        | (go_at_call 12; refine Calls.mono cE ?_; rintro e w8 ⟨rfl, hb8⟩; clear cE; have hb8' := hb7'.trans (hb8.mono hb7'.size)))
      obtain ⟨f1, f2, f9, f3, f4, f5, f6, f7, f8⟩ := hfacts.out _ _ _ _ hR7
      have hR8 : Hid _ := hR7.below hb8
      have hLog : Hid (IsR 3 w8 u7 cc6.did) := (IsR.of_owns hown7 f3).below hb8
      obtain ⟨au, cu, hu7, -⟩ := id hLog.out
      subst hu7
      have cD8 : Hid (∀ W, Below w8.heap.size w8 W → Calls Tryd.prog 13 #[p] W fun e w' => e = .returned (.bool cc6.fin) ∧ Below W.heap.size W w') := fun W hbW => cD.out W p _ O6 (Run.below hR8.out hbW)
      clear hR6 hR7 hb6 hb7 hb7' hb8 hown7 hb hO
      have hcl : Hid (∀ x, x < L.length → ∃ b off u n q, al = some ⟨b, off, none⟩ ∧ u = .slice q (L.getD x []).length n ∧ w8.cell? ⟨b, off + x, none⟩ = some u ∧ IsR 3 w8 u (L.getD x [])) := fun x hx => phase_cells hP hb8' x hx
      replace f3 : Hid _ := f3
      replace f5 : Hid _ := f5
      replace f6 : Hid _ := f6
      replace f7 : Hid _ := f7
      replace f8 : Hid _ := f8
      rw [f4] at cD8
      clear f4
      obtain ⟨ph, hph⟩ : ∃ ph, ph = cc6.phase := ⟨_, rfl⟩
      obtain ⟨lf, hlf⟩ : ∃ lf, lf = cc6.left := ⟨_, rfl⟩
      obtain ⟨nd, hnd⟩ : ∃ nd, nd = cc6.did.length := ⟨_, rfl⟩
      rw [← hph] at f2 f5 f6 cD8 ⊢
      rw [← hlf] at f5 f6 f9 ⊢
      rw [← hnd] at f1 f5 ⊢
      replace hnd : Hid _ := hnd
      clear hph hlf
      obtain ⟨wr0, hwr0⟩ : ∃ wr0 : World, wr0 = wr := ⟨_, rfl⟩
      clear hwr0
      go_loopw [21, 79] (fun vn vi wr => ∃ (y s : Nat), y ≤ L.length ∧ vi = .int .i64 (y : Int) ∧ vn = .int .i64 (s : Int) ∧ Hid (s = cntP L ph lf y) ∧ s ≤ 64 * y ∧ wr = w8)
        (fun _ vi _ => L.length - (intOf vi).toNat)
      case atStart => exact ⟨0, 0, Nat.zero_le _, rfl, rfl, by show _ = _; simp [cntP], Nat.zero_le _, rfl⟩
      case round =>
        obtain ⟨y, sn, hy, rfl, rfl, hsn, hsn9, hwr⟩ := hrel
        rw [hwr]
        by_cases hly : y < L.length
        · obtain ⟨b3, off3, u3, n3, q3, hal, hu3, hcy, -⟩ := hcl.out y hly
          subst hal hu3
          have hl2 := hT9.out y
          obtain ⟨ly, hlye⟩ : ∃ ly, Hid (ly = (L.getD y []).length) := ⟨_, rfl⟩
          rw [← hlye.out] at hcy hl2
          clear cD8 hR8 hLog
          rcases Nat.lt_trichotomy y ph with h1 | h1 | h1
          · have hs2 : Hid (sn + ly = cntP L ph lf (y + 1)) := by show _ = _; rw [cnt_below L ph lf y hly h1, ← hsn.out, hlye.out]
            go_wp2
            go_roundw
            case rel => exact ⟨y + 1, sn + ly, by omega, by go_num, by go_num, hs2, by omega, by trivial⟩
            case measure => simp only [intOf]; omega
          · subst h1
            have hle := f6.out hly
            rw [← hlye.out] at hle
            have hs2 : Hid (sn + (ly - lf) = cntP L y lf (y + 1)) := by show _ = _; rw [cnt_at L y lf, ← hsn.out, hlye.out]
            have hge : ¬ (y : Int) < (y : Int) := by omega
            go_wp2
            go_roundw
            case rel => exact ⟨y + 1, sn + (ly - lf), by omega, by go_num, by go_num, hs2, by omega, by trivial⟩
            case measure => simp only [intOf]; omega
          · have hs2 : Hid (sn = cntP L ph lf (y + 1)) := by show _ = _; rw [cnt_above L ph lf y h1, ← hsn.out]
            have hn1 : ¬ (y : Int) < (ph : Int) := by omega
            have hn2 : ((y : Int) == (ph : Int)) = false := by rw [beq_eq_false_iff_ne]; omega
            go_wp2
            go_roundw
            case rel => exact ⟨y + 1, sn, by omega, by go_num, rfl, hs2, by omega, by trivial⟩
            case measure => simp only [intOf]; omega
        · have hye : y = L.length := by omega
          have hgy : L.length ≤ y := by omega
          have hse : sn = nd := by rw [hsn.out, hye, ← f5.out]
          subst hse
          clear hsn hye f5 f6 hwr
          have hW9 : Below w8.heap.size w8 w8 := Below.refl _ _
          obtain ⟨fb, hfb⟩ : ∃ fb, fb = decide (ph = L.length) := ⟨_, rfl⟩
          rw [← hfb] at cD8
          have heq : ((ph : Int) == (L.length : Int)) = fb := by
            rw [hfb, Bool.eq_iff_iff, beq_iff_eq, decide_eq_true_iff]; omega
          clear hfb
          go_wp2_with (go_at_call 13; refine Calls.mono (cD8.out _ hW9) ?_; rintro e w9 ⟨rfl, hb9⟩; clear cD8)
          go_loopw [116] (fun vk wr => ∃ (k : Nat), k ≤ sn ∧ vk = .int .i64 (k : Int) ∧ Below w8.heap.size w8 wr)
            (fun vk _ => sn - (intOf vk).toNat)
          case atStart => exact ⟨0, Nat.zero_le _, rfl, hb9⟩
          case round =>
            clear hb9
            obtain ⟨k, hk, rfl, hb9⟩ := hrel
            by_cases hlk : k < sn
            · have hkd : k < cc6.did.length := by rw [← hnd.out]; exact hlk
              obtain ⟨a3, c3, e3, hcap3, hmx3, hrows, -⟩ := IsR.below hLog.out hb9
              simp only [Value.slice.injEq] at e3
              obtain ⟨rfl, -, rfl⟩ := e3
              obtain ⟨b2, o2, rfl, hcell0⟩ := hrows k hkd
              have hmem := getD_mem hkd
              obtain ⟨ta, tb, tcc, ht4⟩ := len_3 (f3.out _ hmem).1
              obtain ⟨x, hxL, hx0, hxm⟩ := f8.out _ hmem
              rw [ht4] at hcell0 hx0 hxm
              have hx0' : ta = (x : Int) := hx0
              subst hx0'
              obtain ⟨bl, ol, ux, cx, px, rfl, rfl, hcx, hRx⟩ := hcl.out x hxL
              have hlx64 := hT9.out x
              obtain ⟨lx, hlx⟩ : ∃ lx, lx = (L.getD x []).length := ⟨_, rfl⟩
              rw [← hlx] at hcx hRx hlx64
              have c0 : wr.cell? ⟨b2, o2 + k * 3, none⟩ = some (.int .i64 (x : Int)) := hcell0 0 (by omega)
              have c1 : wr.cell? ⟨b2, o2 + k * 3 + 1, none⟩ = some (.int .i64 tb) := by rw [Nat.add_assoc]; exact hcell0 1 (by omega)
              have c2 : wr.cell? ⟨b2, o2 + k * 3 + 2, none⟩ = some (.int .i64 tcc) := by rw [Nat.add_assoc]; exact hcell0 2 (by omega)
              have hnot : Hid ([(x : Int), tb, tcc] ∉ cc6.did.take k) := fun q => by
                obtain ⟨i, hi, e⟩ := List.mem_iff_getElem.mp q
                rw [List.length_take] at hi
                rw [List.getElem_take] at e
                have hpw := List.pairwise_iff_getElem.mp f7.out i k (by omega) hkd (by omega)
                exact hpw.2 (by rw [e, ← ht4]; simp [List.getD, hkd])
              have hTk : Hid (∀ W, Below w8.heap.size w8 W → IsR 3 W (.slice (some ⟨b2, o2, none⟩) k cu) (cc6.did.take k)) := fun W hbW => IsR.taken (IsR.below hLog.out hbW) k (by omega)
              have cQ0 : Hid (∀ W, Below w8.heap.size w8 W → Calls Tryd.prog 14 #[.slice (some ⟨b2, o2, none⟩) k cu, .agg #[.int .i64 (x : Int), .int .i64 tb, .int .i64 tcc]] W fun e w' => e = .returned (.bool false) ∧ Below W.heap.size W w') := fun W hbW => slices_ContainsQ W _ _ _ _ _ false (hTk.out W hbW) (by rw [List.length_take]; omega) ⟨fun q => (by cases q), fun q => absurd q hnot.out⟩
              have cP0 : Hid (∀ W, Below w8.heap.size w8 W → Calls Tryd.prog 15 #[.slice px lx cx, .agg #[.int .i64 (x : Int), .int .i64 tb, .int .i64 tcc]] W fun e w' => e = .returned (.bool true) ∧ Below W.heap.size W w') := fun W hbW => slices_ContainsP W _ _ _ _ _ true (hRx.below hbW) (by rw [← hlx]; omega) ⟨fun _ => hxm, fun _ => rfl⟩
              have hcap : k ≤ cu := by omega
              have hprev : Hid (∀ km, k = km + 1 → ∃ pa : Int, pa ≤ (x : Int) ∧ ∀ W, Below w8.heap.size w8 W → W.cell? ⟨b2, o2 + km * 3, none⟩ = some (.int .i64 pa)) := fun km hkm => by
                have hlt3 : km < cc6.did.length := by omega
                refine ⟨(cc6.did.getD km []).getD 0 0, ?_, fun W hbW => ?_⟩
                · have hpw := List.pairwise_iff_getElem.mp f7.out km k hlt3 hkd (by omega)
                  have q := hpw.1
                  have e1 : cc6.did[km] = cc6.did.getD km [] := by simp [List.getD, hlt3]
                  have e2 : cc6.did[k] = [(x : Int), tb, tcc] := by rw [← ht4]; simp [List.getD, hkd]
                  rw [e1, e2] at q
                  exact q
                · obtain ⟨a4, c4, e4, -, -, hr4, -⟩ := IsR.below hLog.out hbW
                  simp only [Value.slice.injEq] at e4
                  obtain ⟨rfl, -, rfl⟩ := e4
                  obtain ⟨b5, o5, e5, hce5⟩ := hr4 km hlt3
                  simp only [Option.some.injEq, Addr.mk.injEq, and_true] at e5
                  obtain ⟨rfl, rfl⟩ := e5
                  exact hce5 0 (by omega)
              have hcxW : Hid (∀ W, Below w8.heap.size w8 W → W.cell? ⟨bl, ol + x, none⟩ = some (.slice px lx cx)) := fun W hbW => (hbW.cell (block_lt hcx)).trans hcx
              have hX0 := new_row wr 45 [.int .i64 (x : Int), .int .i64 tb, .int .i64 tcc]
              have hbk0 := below_alloc1 wr (.cells #[.int .i64 (x : Int), .int .i64 tb, .int .i64 tcc] 45)
              change RowV 45 (wr.alloc (.cells #[.int .i64 (x : Int), .int .i64 tb, .int .i64 tcc] 45)) wr.heap.size [.int .i64 (x : Int), .int .i64 tb, .int .i64 tcc] at hX0
              replace hX0 : Hid _ := hX0
              replace hbk0 : Hid _ := hbk0
              clear hrows hcell0 hmem ht4 hx0 hxm hRx hcx hnot hTk hlx hcl f7 f8 f3 hLog hR8
              rcases Nat.eq_zero_or_pos k with hk0 | hk0
              · subst hk0
                clear hprev
                simp only [Nat.zero_mul, Nat.add_zero] at c0 c1 c2
                go_wp2
                generalize wr.alloc (.cells #[.int .i64 (x : Int), .int .i64 tb, .int .i64 tcc] 45) = wb at *
                obtain ⟨G, hG⟩ : ∃ G, G = wr.heap.size := ⟨_, rfl⟩
                rw [← hG] at hX0 ⊢
                replace hG : Hid _ := hG
                have hbk : Below wr.heap.size wr wb.drew := below_drewN hbk0.out 1
                have hbk8 := hb9.trans (hbk.mono hb9.size)
                have hSall : ∀ W, Below wb.drew.heap.size wb.drew W → (fun w' : World => w'.cell? ⟨G, 0, none⟩ = some (.int .i64 (x : Int)) ∧ w'.cell? ⟨G, 1, none⟩ = some (.int .i64 tb) ∧ w'.cell? ⟨G, 2, none⟩ = some (.int .i64 tcc) ∧ w'.cell? ⟨bl, ol + x, none⟩ = some (.slice px lx cx)) W := fun W hbW => by
                  have q := RowV.below (RowV.below hX0.out (below_drewN (Below.refl _ _) 1)) hbW
                  exact ⟨q.cell 0, q.cell 1, q.cell 2, hcxW.out W (hbk8.trans (hbW.mono hbk8.size))⟩
                have hSd := hSall wb.drew (Below.refl _ _)
                have cQ := cQ0.out wb.drew hbk8
                have cP := fun W (hbW : Below wb.drew.heap.size wb.drew W) => cP0.out W (hbk8.trans (hbW.mono hbk8.size))
                clear cQ0 cP0 hcxW hX0 hbk0
                refine wp_region_H (S := (fun w' : World => w'.cell? ⟨G, 0, none⟩ = some (.int .i64 (x : Int)) ∧ w'.cell? ⟨G, 1, none⟩ = some (.int .i64 tb) ∧ w'.cell? ⟨G, 2, none⟩ = some (.int .i64 tcc) ∧ w'.cell? ⟨bl, ol + x, none⟩ = some (.slice px lx cx))) (by kernel_rfl) ?_
                refine wpAnyH_take (i := 0) (v := ?vp0) rfl (by kernel_rfl) (by kernel_rfl) (by kernel_rfl) (fun _ _ _ h => h) (Or.inl ⟨by rfl, ?hyp0⟩) hSd ?restp0
                case hyp0 =>
                  intro w hSw
                  (try dsimp only at hSw)
                  go_simp
                  all_goals with_reducible rfl
                simp only [Act.put, List.getElem_toArray, List.getElem_cons_zero, List.setIfInBounds_toArray, List.set_cons_zero, List.set_cons_succ]
                refine wpAnyH_take (i := 1) (v := ?vp1) rfl (by kernel_rfl) (by kernel_rfl) (by kernel_rfl) (fun _ _ _ h => h) (Or.inl ⟨by rfl, ?hyp1⟩) hSd ?restp1
                case hyp1 =>
                  intro w hSw
                  (try dsimp only at hSw)
                  go_simp
                  all_goals with_reducible rfl
                simp only [Act.put, List.getElem_toArray, List.getElem_cons_succ, List.getElem_cons_zero, List.setIfInBounds_toArray, List.set_cons_zero, List.set_cons_succ]
                refine wpAnyH_take (i := 2) (v := ?vp2) rfl (by kernel_rfl) (by kernel_rfl) (by kernel_rfl) (fun _ _ _ h => h) (Or.inl ⟨by rfl, ?hyp2⟩) hSd ?restp2
                case hyp2 =>
                  intro w hSw
                  (try dsimp only at hSw)
                  go_simp
                  all_goals with_reducible rfl
                simp only [Act.put, List.getElem_toArray, List.getElem_cons_succ, List.getElem_cons_zero, List.setIfInBounds_toArray, List.set_cons_zero, List.set_cons_succ]
                refine wpAnyH_take (i := 3) (v := undef) rfl (by kernel_rfl) (by kernel_rfl) (by kernel_rfl) (fun _ _ _ h => h) (Or.inr ⟨by rfl, rfl⟩) hSd ?_
                simp only [Act.put, List.getElem_toArray, List.getElem_cons_succ, List.getElem_cons_zero, List.setIfInBounds_toArray, List.set_cons_zero, List.set_cons_succ]
                refine wpAnyH_take (i := 4) (v := undef) rfl (by kernel_rfl) (by kernel_rfl) (by kernel_rfl) (fun _ _ _ h => h) (Or.inr ⟨by rfl, rfl⟩) hSd ?_
                simp only [Act.put, List.getElem_toArray, List.getElem_cons_succ, List.getElem_cons_zero, List.setIfInBounds_toArray, List.set_cons_zero, List.set_cons_succ]
                refine wpAnyH_take (i := 5) (v := undef) rfl (by kernel_rfl) (by kernel_rfl) (by kernel_rfl) (fun _ _ _ h => h) (Or.inr ⟨by rfl, rfl⟩) hSd ?_
                simp only [Act.put, List.getElem_toArray, List.getElem_cons_succ, List.getElem_cons_zero, List.setIfInBounds_toArray, List.set_cons_zero, List.set_cons_succ]
                refine wpAnyH_take (i := 6) (v := undef) rfl (by kernel_rfl) (by kernel_rfl) (by kernel_rfl) (fun _ _ _ h => h) (Or.inr ⟨by rfl, rfl⟩) hSd ?_
                simp only [Act.put, List.getElem_toArray, List.getElem_cons_succ, List.getElem_cons_zero, List.setIfInBounds_toArray, List.set_cons_zero, List.set_cons_succ]
                refine wpAnyH_take (i := 7) (v := undef) rfl (by kernel_rfl) (by kernel_rfl) (by kernel_rfl) (fun _ _ _ h => h) (Or.inr ⟨by rfl, rfl⟩) hSd ?_
                simp only [Act.put, List.getElem_toArray, List.getElem_cons_succ, List.getElem_cons_zero, List.setIfInBounds_toArray, List.set_cons_zero, List.set_cons_succ]
                refine wpAnyH_take (i := 8) (v := undef) rfl (by kernel_rfl) (by kernel_rfl) (by kernel_rfl) (fun _ _ _ h => h) (Or.inr ⟨by rfl, rfl⟩) hSd ?_
                simp only [Act.put, List.getElem_toArray, List.getElem_cons_succ, List.getElem_cons_zero, List.setIfInBounds_toArray, List.set_cons_zero, List.set_cons_succ]
                refine wpAnyH_take (i := 9) (v := undef) rfl (by kernel_rfl) (by kernel_rfl) (by kernel_rfl) (fun _ _ _ h => h) (Or.inr ⟨by rfl, rfl⟩) hSd ?_
                simp only [Act.put, List.getElem_toArray, List.getElem_cons_succ, List.getElem_cons_zero, List.setIfInBounds_toArray, List.set_cons_zero, List.set_cons_succ]
                refine wpAnyH_take (i := 10) (v := undef) rfl (by kernel_rfl) (by kernel_rfl) (by kernel_rfl) (fun _ _ _ h => h) (Or.inr ⟨by rfl, rfl⟩) hSd ?_
                simp only [Act.put, List.getElem_toArray, List.getElem_cons_succ, List.getElem_cons_zero, List.setIfInBounds_toArray, List.set_cons_zero, List.set_cons_succ]
                refine wpAnyH_take (i := 11) (v := undef) rfl (by kernel_rfl) (by kernel_rfl) (by kernel_rfl) (fun _ _ _ h => h) (Or.inr ⟨by rfl, rfl⟩) hSd ?_
                simp only [Act.put, List.getElem_toArray, List.getElem_cons_succ, List.getElem_cons_zero, List.setIfInBounds_toArray, List.set_cons_zero, List.set_cons_succ]
                refine wpAnyH_take (i := 12) (v := ?vp12) rfl (by kernel_rfl) (by kernel_rfl) (by kernel_rfl) (fun _ _ _ h => h) (Or.inl ⟨by rfl, ?hyp12⟩) hSd ?restp12
                case hyp12 =>
                  intro w hSw
                  (try dsimp only at hSw)
                  go_simp
                  all_goals with_reducible rfl
                simp only [Act.put, List.getElem_toArray, List.getElem_cons_succ, List.getElem_cons_zero, List.setIfInBounds_toArray, List.set_cons_zero, List.set_cons_succ]
                refine wpAnyH_take (i := 13) (v := ?vp13) rfl (by kernel_rfl) (by kernel_rfl) (by kernel_rfl) (fun _ _ _ h => h) (Or.inl ⟨by rfl, ?hyp13⟩) hSd ?restp13
                case hyp13 =>
                  intro w hSw
                  (try dsimp only at hSw)
                  go_simp
                  all_goals with_reducible rfl
                simp only [Act.put, List.getElem_toArray, List.getElem_cons_succ, List.getElem_cons_zero, List.setIfInBounds_toArray, List.set_cons_zero, List.set_cons_succ]
                refine wpAnyH_take (i := 14) (v := ?vp14) rfl (by kernel_rfl) (by kernel_rfl) (by kernel_rfl) (fun _ _ _ h => h) (Or.inl ⟨by rfl, ?hyp14⟩) hSd ?restp14
                case hyp14 =>
                  intro w hSw
                  (try dsimp only at hSw)
                  go_simp
                  all_goals with_reducible rfl
                simp only [Act.put, List.getElem_toArray, List.getElem_cons_succ, List.getElem_cons_zero, List.setIfInBounds_toArray, List.set_cons_zero, List.set_cons_succ]
                refine wpAnyH_take (i := 15) (v := ?vp15) rfl (by kernel_rfl) (by kernel_rfl) (by kernel_rfl) (fun _ _ _ h => h) (Or.inl ⟨by rfl, ?hyp15⟩) hSd ?restp15
                case hyp15 =>
                  intro w hSw
                  (try dsimp only at hSw)
                  go_simp
                  all_goals with_reducible rfl
                simp only [Act.put, List.getElem_toArray, List.getElem_cons_succ, List.getElem_cons_zero, List.setIfInBounds_toArray, List.set_cons_zero, List.set_cons_succ]
                refine wpAnyH_take (i := 16) (v := ?vp16) rfl (by kernel_rfl) (by kernel_rfl) (by kernel_rfl) (fun _ _ _ h => h) (Or.inl ⟨by rfl, ?hyp16⟩) hSd ?restp16
                case hyp16 =>
                  intro w hSw
                  (try dsimp only at hSw)
                  go_simp
                  all_goals with_reducible rfl
                simp only [Act.put, List.getElem_toArray, List.getElem_cons_succ, List.getElem_cons_zero, List.setIfInBounds_toArray, List.set_cons_zero, List.set_cons_succ]
                refine wpAnyH_take (i := 17) (v := ?vp17) rfl (by kernel_rfl) (by kernel_rfl) (by kernel_rfl) (fun _ _ _ h => h) (Or.inl ⟨by rfl, ?hyp17⟩) hSd ?restp17
                case hyp17 =>
                  intro w hSw
                  (try dsimp only at hSw)
                  go_simp
                  all_goals with_reducible rfl
                simp only [Act.put, List.getElem_toArray, List.getElem_cons_succ, List.getElem_cons_zero, List.setIfInBounds_toArray, List.set_cons_zero, List.set_cons_succ]
                refine wpAnyH_one (i := 18) rfl (by kernel_rfl) (fun K hK => ?_)
                simp only [List.getElem_toArray, List.getElem_cons_succ, List.getElem_cons_zero]
                go_simp
                refine Calls.mono cQ ?_
                rintro e wc ⟨rfl, hbc⟩
                have hSd : (fun w' : World => w'.cell? ⟨G, 0, none⟩ = some (.int .i64 (x : Int)) ∧ w'.cell? ⟨G, 1, none⟩ = some (.int .i64 tb) ∧ w'.cell? ⟨G, 2, none⟩ = some (.int .i64 tcc) ∧ w'.cell? ⟨bl, ol + x, none⟩ = some (.slice px lx cx)) wc := hSall wc hbc
                refine hK.out _ _ hSd ?_
                clear hK K cQ
                refine wpAnyH_take (i := 19) (v := ?vp19) rfl (by kernel_rfl) (by kernel_rfl) (by kernel_rfl) (fun _ _ _ h => h) (Or.inl ⟨by rfl, ?hyp19⟩) hSd ?restp19
                case hyp19 =>
                  intro w hSw
                  (try dsimp only at hSw)
                  go_simp
                  all_goals with_reducible rfl
                simp only [Act.put, List.getElem_toArray, List.getElem_cons_succ, List.getElem_cons_zero, List.setIfInBounds_toArray, List.set_cons_zero, List.set_cons_succ]
                refine wpAnyH_take (i := 20) (v := ?vp20) rfl (by kernel_rfl) (by kernel_rfl) (by kernel_rfl) (fun _ _ _ h => h) (Or.inl ⟨by rfl, ?hyp20⟩) hSd ?restp20
                case hyp20 =>
                  intro w hSw
                  (try dsimp only at hSw)
                  go_simp
                  all_goals with_reducible rfl
                simp only [Act.put, List.getElem_toArray, List.getElem_cons_succ, List.getElem_cons_zero, List.setIfInBounds_toArray, List.set_cons_zero, List.set_cons_succ]
                refine wpAnyH_take (i := 21) (v := ?vp21) rfl (by kernel_rfl) (by kernel_rfl) (by kernel_rfl) (fun _ _ _ h => h) (Or.inl ⟨by rfl, ?hyp21⟩) hSd ?restp21
                case hyp21 =>
                  intro w hSw
                  (try dsimp only at hSw)
                  go_simp
                  all_goals with_reducible rfl
                simp only [Act.put, List.getElem_toArray, List.getElem_cons_succ, List.getElem_cons_zero, List.setIfInBounds_toArray, List.set_cons_zero, List.set_cons_succ]
                refine wpAnyH_take (i := 22) (v := ?vp22) rfl (by kernel_rfl) (by kernel_rfl) (by kernel_rfl) (fun _ _ _ h => h) (Or.inl ⟨by rfl, ?hyp22⟩) hSd ?restp22
                case hyp22 =>
                  intro w hSw
                  (try dsimp only at hSw)
                  go_simp
                  all_goals with_reducible rfl
                simp only [Act.put, List.getElem_toArray, List.getElem_cons_succ, List.getElem_cons_zero, List.setIfInBounds_toArray, List.set_cons_zero, List.set_cons_succ]
                refine wpAnyH_take (i := 23) (v := ?vp23) rfl (by kernel_rfl) (by kernel_rfl) (by kernel_rfl) (fun _ _ _ h => h) (Or.inl ⟨by rfl, ?hyp23⟩) hSd ?restp23
                case hyp23 =>
                  intro w hSw
                  (try dsimp only at hSw)
                  go_simp
                  all_goals with_reducible rfl
                simp only [Act.put, List.getElem_toArray, List.getElem_cons_succ, List.getElem_cons_zero, List.setIfInBounds_toArray, List.set_cons_zero, List.set_cons_succ]
                refine wpAnyH_take (i := 24) (v := ?vp24) rfl (by kernel_rfl) (by kernel_rfl) (by kernel_rfl) (fun _ _ _ h => h) (Or.inl ⟨by rfl, ?hyp24⟩) hSd ?restp24
                case hyp24 =>
                  intro w hSw
                  (try dsimp only at hSw)
                  go_simp
                  all_goals with_reducible rfl
                simp only [Act.put, List.getElem_toArray, List.getElem_cons_succ, List.getElem_cons_zero, List.setIfInBounds_toArray, List.set_cons_zero, List.set_cons_succ]
                refine wpAnyH_take (i := 25) (v := ?vp25) rfl (by kernel_rfl) (by kernel_rfl) (by kernel_rfl) (fun _ _ _ h => h) (Or.inl ⟨by rfl, ?hyp25⟩) hSd ?restp25
                case hyp25 =>
                  intro w hSw
                  (try dsimp only at hSw)
                  go_simp
                  all_goals with_reducible rfl
                simp only [Act.put, List.getElem_toArray, List.getElem_cons_succ, List.getElem_cons_zero, List.setIfInBounds_toArray, List.set_cons_zero, List.set_cons_succ]
                refine wpAnyH_take (i := 26) (v := ?vp26) rfl (by kernel_rfl) (by kernel_rfl) (by kernel_rfl) (fun _ _ _ h => h) (Or.inl ⟨by rfl, ?hyp26⟩) hSd ?restp26
                case hyp26 =>
                  intro w hSw
                  (try dsimp only at hSw)
                  go_simp
                  all_goals with_reducible rfl
                simp only [Act.put, List.getElem_toArray, List.getElem_cons_succ, List.getElem_cons_zero, List.setIfInBounds_toArray, List.set_cons_zero, List.set_cons_succ]
                refine wpAnyH_one (i := 27) rfl (by kernel_rfl) (fun K hK => ?_)
                simp only [List.getElem_toArray, List.getElem_cons_succ, List.getElem_cons_zero]
                go_simp
                refine Calls.mono (cP wc hbc) ?_
                rintro e wd ⟨rfl, hbd⟩
                have hbd' := hbc.trans (hbd.mono hbc.size)
                have hSd : (fun w' : World => w'.cell? ⟨G, 0, none⟩ = some (.int .i64 (x : Int)) ∧ w'.cell? ⟨G, 1, none⟩ = some (.int .i64 tb) ∧ w'.cell? ⟨G, 2, none⟩ = some (.int .i64 tcc) ∧ w'.cell? ⟨bl, ol + x, none⟩ = some (.slice px lx cx)) wd := hSall wd hbd'
                refine hK.out _ _ hSd ?_
                clear hK K cP
                refine wpAnyH_take (i := 28) (v := ?vp28) rfl (by kernel_rfl) (by kernel_rfl) (by kernel_rfl) (fun _ _ _ h => h) (Or.inl ⟨by rfl, ?hyp28⟩) hSd ?restp28
                case hyp28 =>
                  intro w hSw
                  (try dsimp only at hSw)
                  go_simp
                  all_goals with_reducible rfl
                simp only [Act.put, List.getElem_toArray, List.getElem_cons_succ, List.getElem_cons_zero, List.setIfInBounds_toArray, List.set_cons_zero, List.set_cons_succ]
                refine wpAnyH_take (i := 29) (v := ?vp29) rfl (by kernel_rfl) (by kernel_rfl) (by kernel_rfl) (fun _ _ _ h => h) (Or.inl ⟨by rfl, ?hyp29⟩) hSd ?restp29
                case hyp29 =>
                  intro w hSw
                  (try dsimp only at hSw)
                  go_simp
                  all_goals with_reducible rfl
                simp only [Act.put, List.getElem_toArray, List.getElem_cons_succ, List.getElem_cons_zero, List.setIfInBounds_toArray, List.set_cons_zero, List.set_cons_succ]
                refine wpAnyH_done (by kernel_rfl) ?_ _
                have hbf := hbk.trans (hbd'.mono hbk.size)
                clear hSd hSall hbd hbc
                go_wp2
                go_roundw
                case rel => exact ⟨0 + 1, by omega, by go_num, hb9.trans (hbf.mono hb9.size)⟩
                case measure => simp only [intOf]; omega
              · obtain ⟨km, hkm⟩ : ∃ km, k = km + 1 := ⟨k - 1, by omega⟩
                obtain ⟨pa, hpa, hprc⟩ := hprev.out km hkm
                subst hkm
                replace hprc : Hid _ := hprc
                have hpa2 : decide ((x : Int) < pa) = false := decide_eq_false (by omega)
                have hwr : IntKind.i64.wrap (km : Int) = (km : Int) := wraps_i64 _ (Int.natCast_nonneg _) (by omega)
                have hkm9 : (km : Int) < (sn : Int) := by omega
                have hcu9 : (km : Int) + 1 ≤ (cu : Int) := by omega
                have hkm0 : (0 : Int) ≤ (km : Int) + 1 := by omega
                clear hprev hk0
                go_wp2
                generalize wr.alloc (.cells #[.int .i64 (x : Int), .int .i64 tb, .int .i64 tcc] 45) = wb at *
                obtain ⟨G, hG⟩ : ∃ G, G = wr.heap.size := ⟨_, rfl⟩
                rw [← hG] at hX0 ⊢
                replace hG : Hid _ := hG
                have hbk : Below wr.heap.size wr wb.drew := below_drewN hbk0.out 1
                have hbk8 := hb9.trans (hbk.mono hb9.size)
                have hSall : ∀ W, Below wb.drew.heap.size wb.drew W → (fun w' : World => w'.cell? ⟨G, 0, none⟩ = some (.int .i64 (x : Int)) ∧ w'.cell? ⟨G, 1, none⟩ = some (.int .i64 tb) ∧ w'.cell? ⟨G, 2, none⟩ = some (.int .i64 tcc) ∧ w'.cell? ⟨bl, ol + x, none⟩ = some (.slice px lx cx) ∧ w'.cell? ⟨b2, o2 + km * 3, none⟩ = some (.int .i64 pa)) W := fun W hbW => by
                  have q := RowV.below (RowV.below hX0.out (below_drewN (Below.refl _ _) 1)) hbW
                  exact ⟨q.cell 0, q.cell 1, q.cell 2, hcxW.out W (hbk8.trans (hbW.mono hbk8.size)), hprc.out W (hbk8.trans (hbW.mono hbk8.size))⟩
                have hSd := hSall wb.drew (Below.refl _ _)
                have cQ := cQ0.out wb.drew hbk8
                have cP := fun W (hbW : Below wb.drew.heap.size wb.drew W) => cP0.out W (hbk8.trans (hbW.mono hbk8.size))
                clear cQ0 cP0 hcxW hX0 hbk0 hprc
                refine wp_region_H (S := (fun w' : World => w'.cell? ⟨G, 0, none⟩ = some (.int .i64 (x : Int)) ∧ w'.cell? ⟨G, 1, none⟩ = some (.int .i64 tb) ∧ w'.cell? ⟨G, 2, none⟩ = some (.int .i64 tcc) ∧ w'.cell? ⟨bl, ol + x, none⟩ = some (.slice px lx cx) ∧ w'.cell? ⟨b2, o2 + km * 3, none⟩ = some (.int .i64 pa))) (by kernel_rfl) ?_
                refine wpAnyH_take (i := 0) (v := ?vq0) rfl (by kernel_rfl) (by kernel_rfl) (by kernel_rfl) (fun _ _ _ h => h) (Or.inl ⟨by rfl, ?hyq0⟩) hSd ?restq0
                case hyq0 =>
                  intro w hSw
                  (try dsimp only at hSw)
                  go_simp
                  all_goals with_reducible rfl
                simp only [Act.put, List.getElem_toArray, List.getElem_cons_zero, List.setIfInBounds_toArray, List.set_cons_zero, List.set_cons_succ]
                refine wpAnyH_take (i := 1) (v := ?vq1) rfl (by kernel_rfl) (by kernel_rfl) (by kernel_rfl) (fun _ _ _ h => h) (Or.inl ⟨by rfl, ?hyq1⟩) hSd ?restq1
                case hyq1 =>
                  intro w hSw
                  (try dsimp only at hSw)
                  go_simp
                  all_goals with_reducible rfl
                simp only [Act.put, List.getElem_toArray, List.getElem_cons_succ, List.getElem_cons_zero, List.setIfInBounds_toArray, List.set_cons_zero, List.set_cons_succ]
                refine wpAnyH_take (i := 2) (v := ?vq2) rfl (by kernel_rfl) (by kernel_rfl) (by kernel_rfl) (fun _ _ _ h => h) (Or.inl ⟨by rfl, ?hyq2⟩) hSd ?restq2
                case hyq2 =>
                  intro w hSw
                  (try dsimp only at hSw)
                  go_simp
                  all_goals with_reducible rfl
                simp only [Act.put, List.getElem_toArray, List.getElem_cons_succ, List.getElem_cons_zero, List.setIfInBounds_toArray, List.set_cons_zero, List.set_cons_succ]
                refine wpAnyH_take (i := 3) (v := ?vq3) rfl (by kernel_rfl) (by kernel_rfl) (by kernel_rfl) (fun _ _ _ h => h) (Or.inl ⟨by rfl, ?hyq3⟩) hSd ?restq3
                case hyq3 =>
                  intro w hSw
                  (try dsimp only at hSw)
                  go_simp
                  all_goals with_reducible rfl
                simp only [Act.put, List.getElem_toArray, List.getElem_cons_succ, List.getElem_cons_zero, List.setIfInBounds_toArray, List.set_cons_zero, List.set_cons_succ]
                refine wpAnyH_take (i := 4) (v := ?vq4) rfl (by kernel_rfl) (by kernel_rfl) (by kernel_rfl) (fun _ _ _ h => h) (Or.inl ⟨by rfl, ?hyq4⟩) hSd ?restq4
                case hyq4 =>
                  intro w hSw
                  (try dsimp only at hSw)
                  go_simp
                  all_goals with_reducible rfl
                simp only [Act.put, List.getElem_toArray, List.getElem_cons_succ, List.getElem_cons_zero, List.setIfInBounds_toArray, List.set_cons_zero, List.set_cons_succ]
                refine wpAnyH_take (i := 5) (v := ?vq5) rfl (by kernel_rfl) (by kernel_rfl) (by kernel_rfl) (fun _ _ _ h => h) (Or.inl ⟨by rfl, ?hyq5⟩) hSd ?restq5
                case hyq5 =>
                  intro w hSw
                  (try dsimp only at hSw)
                  go_simp
                  all_goals with_reducible rfl
                simp only [Act.put, List.getElem_toArray, List.getElem_cons_succ, List.getElem_cons_zero, List.setIfInBounds_toArray, List.set_cons_zero, List.set_cons_succ]
                refine wpAnyH_take (i := 6) (v := ?vq6) rfl (by kernel_rfl) (by kernel_rfl) (by kernel_rfl) (fun _ _ _ h => h) (Or.inl ⟨by rfl, ?hyq6⟩) hSd ?restq6
                case hyq6 =>
                  intro w hSw
                  (try dsimp only at hSw)
                  go_simp
                  all_goals with_reducible rfl
                simp only [Act.put, List.getElem_toArray, List.getElem_cons_succ, List.getElem_cons_zero, List.setIfInBounds_toArray, List.set_cons_zero, List.set_cons_succ]
                refine wpAnyH_take (i := 7) (v := ?vq7) rfl (by kernel_rfl) (by kernel_rfl) (by kernel_rfl) (fun _ _ _ h => h) (Or.inl ⟨by rfl, ?hyq7⟩) hSd ?restq7
                case hyq7 =>
                  intro w hSw
                  (try dsimp only at hSw)
                  go_simp
                  all_goals with_reducible rfl
                simp only [Act.put, List.getElem_toArray, List.getElem_cons_succ, List.getElem_cons_zero, List.setIfInBounds_toArray, List.set_cons_zero, List.set_cons_succ]
                refine wpAnyH_take (i := 8) (v := ?vq8) rfl (by kernel_rfl) (by kernel_rfl) (by kernel_rfl) (fun _ _ _ h => h) (Or.inl ⟨by rfl, ?hyq8⟩) hSd ?restq8
                case hyq8 =>
                  intro w hSw
                  (try dsimp only at hSw)
                  go_simp
                  all_goals with_reducible rfl
                simp only [Act.put, List.getElem_toArray, List.getElem_cons_succ, List.getElem_cons_zero, List.setIfInBounds_toArray, List.set_cons_zero, List.set_cons_succ]
                refine wpAnyH_take (i := 9) (v := ?vq9) rfl (by kernel_rfl) (by kernel_rfl) (by kernel_rfl) (fun _ _ _ h => h) (Or.inl ⟨by rfl, ?hyq9⟩) hSd ?restq9
                case hyq9 =>
                  intro w hSw
                  (try dsimp only at hSw)
                  go_simp
                  all_goals with_reducible rfl
                simp only [Act.put, List.getElem_toArray, List.getElem_cons_succ, List.getElem_cons_zero, List.setIfInBounds_toArray, List.set_cons_zero, List.set_cons_succ]
                refine wpAnyH_take (i := 10) (v := ?vq10) rfl (by kernel_rfl) (by kernel_rfl) (by kernel_rfl) (fun _ _ _ h => h) (Or.inl ⟨by rfl, ?hyq10⟩) hSd ?restq10
                case hyq10 =>
                  intro w hSw
                  (try dsimp only at hSw)
                  go_simp
                  all_goals with_reducible rfl
                simp only [Act.put, List.getElem_toArray, List.getElem_cons_succ, List.getElem_cons_zero, List.setIfInBounds_toArray, List.set_cons_zero, List.set_cons_succ]
                refine wpAnyH_take (i := 11) (v := ?vq11) rfl (by kernel_rfl) (by kernel_rfl) (by kernel_rfl) (fun _ _ _ h => h) (Or.inl ⟨by rfl, ?hyq11⟩) hSd ?restq11
                case hyq11 =>
                  intro w hSw
                  (try dsimp only at hSw)
                  go_simp
                  all_goals with_reducible rfl
                simp only [Act.put, List.getElem_toArray, List.getElem_cons_succ, List.getElem_cons_zero, List.setIfInBounds_toArray, List.set_cons_zero, List.set_cons_succ]
                refine wpAnyH_take (i := 12) (v := ?vq12) rfl (by kernel_rfl) (by kernel_rfl) (by kernel_rfl) (fun _ _ _ h => h) (Or.inl ⟨by rfl, ?hyq12⟩) hSd ?restq12
                case hyq12 =>
                  intro w hSw
                  (try dsimp only at hSw)
                  go_simp
                  all_goals with_reducible rfl
                simp only [Act.put, List.getElem_toArray, List.getElem_cons_succ, List.getElem_cons_zero, List.setIfInBounds_toArray, List.set_cons_zero, List.set_cons_succ]
                refine wpAnyH_take (i := 13) (v := ?vq13) rfl (by kernel_rfl) (by kernel_rfl) (by kernel_rfl) (fun _ _ _ h => h) (Or.inl ⟨by rfl, ?hyq13⟩) hSd ?restq13
                case hyq13 =>
                  intro w hSw
                  (try dsimp only at hSw)
                  go_simp
                  all_goals with_reducible rfl
                simp only [Act.put, List.getElem_toArray, List.getElem_cons_succ, List.getElem_cons_zero, List.setIfInBounds_toArray, List.set_cons_zero, List.set_cons_succ]
                refine wpAnyH_take (i := 14) (v := ?vq14) rfl (by kernel_rfl) (by kernel_rfl) (by kernel_rfl) (fun _ _ _ h => h) (Or.inl ⟨by rfl, ?hyq14⟩) hSd ?restq14
                case hyq14 =>
                  intro w hSw
                  (try dsimp only at hSw)
                  go_simp
                  all_goals with_reducible rfl
                simp only [Act.put, List.getElem_toArray, List.getElem_cons_succ, List.getElem_cons_zero, List.setIfInBounds_toArray, List.set_cons_zero, List.set_cons_succ]
                refine wpAnyH_take (i := 15) (v := ?vq15) rfl (by kernel_rfl) (by kernel_rfl) (by kernel_rfl) (fun _ _ _ h => h) (Or.inl ⟨by rfl, ?hyq15⟩) hSd ?restq15
                case hyq15 =>
                  intro w hSw
                  (try dsimp only at hSw)
                  go_simp
                  all_goals with_reducible rfl
                simp only [Act.put, List.getElem_toArray, List.getElem_cons_succ, List.getElem_cons_zero, List.setIfInBounds_toArray, List.set_cons_zero, List.set_cons_succ]
                refine wpAnyH_take (i := 16) (v := ?vq16) rfl (by kernel_rfl) (by kernel_rfl) (by kernel_rfl) (fun _ _ _ h => h) (Or.inl ⟨by rfl, ?hyq16⟩) hSd ?restq16
                case hyq16 =>
                  intro w hSw
                  (try dsimp only at hSw)
                  go_simp
                  all_goals with_reducible rfl
                simp only [Act.put, List.getElem_toArray, List.getElem_cons_succ, List.getElem_cons_zero, List.setIfInBounds_toArray, List.set_cons_zero, List.set_cons_succ]
                refine wpAnyH_take (i := 17) (v := ?vq17) rfl (by kernel_rfl) (by kernel_rfl) (by kernel_rfl) (fun _ _ _ h => h) (Or.inl ⟨by rfl, ?hyq17⟩) hSd ?restq17
                case hyq17 =>
                  intro w hSw
                  (try dsimp only at hSw)
                  go_simp
                  all_goals with_reducible rfl
                simp only [Act.put, List.getElem_toArray, List.getElem_cons_succ, List.getElem_cons_zero, List.setIfInBounds_toArray, List.set_cons_zero, List.set_cons_succ]
                refine wpAnyH_one (i := 18) rfl (by kernel_rfl) (fun K hK => ?_)
                simp only [List.getElem_toArray, List.getElem_cons_succ, List.getElem_cons_zero]
                go_simp
                refine Calls.mono cQ ?_
                rintro e wc ⟨rfl, hbc⟩
                have hSd : (fun w' : World => w'.cell? ⟨G, 0, none⟩ = some (.int .i64 (x : Int)) ∧ w'.cell? ⟨G, 1, none⟩ = some (.int .i64 tb) ∧ w'.cell? ⟨G, 2, none⟩ = some (.int .i64 tcc) ∧ w'.cell? ⟨bl, ol + x, none⟩ = some (.slice px lx cx) ∧ w'.cell? ⟨b2, o2 + km * 3, none⟩ = some (.int .i64 pa)) wc := hSall wc hbc
                refine hK.out _ _ hSd ?_
                clear hK K cQ
                refine wpAnyH_take (i := 19) (v := ?vq19) rfl (by kernel_rfl) (by kernel_rfl) (by kernel_rfl) (fun _ _ _ h => h) (Or.inl ⟨by rfl, ?hyq19⟩) hSd ?restq19
                case hyq19 =>
                  intro w hSw
                  (try dsimp only at hSw)
                  go_simp
                  all_goals with_reducible rfl
                simp only [Act.put, List.getElem_toArray, List.getElem_cons_succ, List.getElem_cons_zero, List.setIfInBounds_toArray, List.set_cons_zero, List.set_cons_succ]
                refine wpAnyH_take (i := 20) (v := ?vq20) rfl (by kernel_rfl) (by kernel_rfl) (by kernel_rfl) (fun _ _ _ h => h) (Or.inl ⟨by rfl, ?hyq20⟩) hSd ?restq20
                case hyq20 =>
                  intro w hSw
                  (try dsimp only at hSw)
                  go_simp
                  all_goals with_reducible rfl
                simp only [Act.put, List.getElem_toArray, List.getElem_cons_succ, List.getElem_cons_zero, List.setIfInBounds_toArray, List.set_cons_zero, List.set_cons_succ]
                refine wpAnyH_take (i := 21) (v := ?vq21) rfl (by kernel_rfl) (by kernel_rfl) (by kernel_rfl) (fun _ _ _ h => h) (Or.inl ⟨by rfl, ?hyq21⟩) hSd ?restq21
                case hyq21 =>
                  intro w hSw
                  (try dsimp only at hSw)
                  go_simp
                  all_goals with_reducible rfl
                simp only [Act.put, List.getElem_toArray, List.getElem_cons_succ, List.getElem_cons_zero, List.setIfInBounds_toArray, List.set_cons_zero, List.set_cons_succ]
                refine wpAnyH_take (i := 22) (v := ?vq22) rfl (by kernel_rfl) (by kernel_rfl) (by kernel_rfl) (fun _ _ _ h => h) (Or.inl ⟨by rfl, ?hyq22⟩) hSd ?restq22
                case hyq22 =>
                  intro w hSw
                  (try dsimp only at hSw)
                  go_simp
                  all_goals with_reducible rfl
                simp only [Act.put, List.getElem_toArray, List.getElem_cons_succ, List.getElem_cons_zero, List.setIfInBounds_toArray, List.set_cons_zero, List.set_cons_succ]
                refine wpAnyH_take (i := 23) (v := ?vq23) rfl (by kernel_rfl) (by kernel_rfl) (by kernel_rfl) (fun _ _ _ h => h) (Or.inl ⟨by rfl, ?hyq23⟩) hSd ?restq23
                case hyq23 =>
                  intro w hSw
                  (try dsimp only at hSw)
                  go_simp
                  all_goals with_reducible rfl
                simp only [Act.put, List.getElem_toArray, List.getElem_cons_succ, List.getElem_cons_zero, List.setIfInBounds_toArray, List.set_cons_zero, List.set_cons_succ]
                refine wpAnyH_take (i := 24) (v := ?vq24) rfl (by kernel_rfl) (by kernel_rfl) (by kernel_rfl) (fun _ _ _ h => h) (Or.inl ⟨by rfl, ?hyq24⟩) hSd ?restq24
                case hyq24 =>
                  intro w hSw
                  (try dsimp only at hSw)
                  go_simp
                  all_goals with_reducible rfl
                simp only [Act.put, List.getElem_toArray, List.getElem_cons_succ, List.getElem_cons_zero, List.setIfInBounds_toArray, List.set_cons_zero, List.set_cons_succ]
                refine wpAnyH_take (i := 25) (v := ?vq25) rfl (by kernel_rfl) (by kernel_rfl) (by kernel_rfl) (fun _ _ _ h => h) (Or.inl ⟨by rfl, ?hyq25⟩) hSd ?restq25
                case hyq25 =>
                  intro w hSw
                  (try dsimp only at hSw)
                  go_simp
                  all_goals with_reducible rfl
                simp only [Act.put, List.getElem_toArray, List.getElem_cons_succ, List.getElem_cons_zero, List.setIfInBounds_toArray, List.set_cons_zero, List.set_cons_succ]
                refine wpAnyH_take (i := 26) (v := ?vq26) rfl (by kernel_rfl) (by kernel_rfl) (by kernel_rfl) (fun _ _ _ h => h) (Or.inl ⟨by rfl, ?hyq26⟩) hSd ?restq26
                case hyq26 =>
                  intro w hSw
                  (try dsimp only at hSw)
                  go_simp
                  all_goals with_reducible rfl
                simp only [Act.put, List.getElem_toArray, List.getElem_cons_succ, List.getElem_cons_zero, List.setIfInBounds_toArray, List.set_cons_zero, List.set_cons_succ]
                refine wpAnyH_one (i := 27) rfl (by kernel_rfl) (fun K hK => ?_)
                simp only [List.getElem_toArray, List.getElem_cons_succ, List.getElem_cons_zero]
                go_simp
                refine Calls.mono (cP wc hbc) ?_
                rintro e wd ⟨rfl, hbd⟩
                have hbd' := hbc.trans (hbd.mono hbc.size)
                have hSd : (fun w' : World => w'.cell? ⟨G, 0, none⟩ = some (.int .i64 (x : Int)) ∧ w'.cell? ⟨G, 1, none⟩ = some (.int .i64 tb) ∧ w'.cell? ⟨G, 2, none⟩ = some (.int .i64 tcc) ∧ w'.cell? ⟨bl, ol + x, none⟩ = some (.slice px lx cx) ∧ w'.cell? ⟨b2, o2 + km * 3, none⟩ = some (.int .i64 pa)) wd := hSall wd hbd'
                refine hK.out _ _ hSd ?_
                clear hK K cP
                refine wpAnyH_take (i := 28) (v := ?vq28) rfl (by kernel_rfl) (by kernel_rfl) (by kernel_rfl) (fun _ _ _ h => h) (Or.inl ⟨by rfl, ?hyq28⟩) hSd ?restq28
                case hyq28 =>
                  intro w hSw
                  (try dsimp only at hSw)
                  go_simp
                  all_goals with_reducible rfl
                simp only [Act.put, List.getElem_toArray, List.getElem_cons_succ, List.getElem_cons_zero, List.setIfInBounds_toArray, List.set_cons_zero, List.set_cons_succ]
                refine wpAnyH_take (i := 29) (v := ?vq29) rfl (by kernel_rfl) (by kernel_rfl) (by kernel_rfl) (fun _ _ _ h => h) (Or.inl ⟨by rfl, ?hyq29⟩) hSd ?restq29
                case hyq29 =>
                  intro w hSw
                  (try dsimp only at hSw)
                  go_simp
                  all_goals with_reducible rfl
                simp only [Act.put, List.getElem_toArray, List.getElem_cons_succ, List.getElem_cons_zero, List.setIfInBounds_toArray, List.set_cons_zero, List.set_cons_succ]
                refine wpAnyH_done (by kernel_rfl) ?_ _
                have hbf := hbk.trans (hbd'.mono hbk.size)
                clear hSd hSall hbd hbc
                go_wp2
                go_roundw
                case rel => exact ⟨km + 1 + 1, by omega, by go_num, hb9.trans (hbf.mono hb9.size)⟩
                case measure => simp only [intOf]; omega
            · have hgk : sn ≤ k := by omega
              have hR10 : Hid (Run wr p ds L (nmL A) Wn false cc6 O6) := Run.below hR8.out hb9
              have hb10 := hb8'.trans (hb9.mono hb8'.size)
              clear hcl f7 f8 f3 hLog hR8
              go_wp2
              go_roundw
              case rel => exact ⟨i + 1, O6, cc6, by omega, by go_num, hR10, hO6, hb10⟩
              case measure => simp only [intOf]; omega
    · have hge : K.length ≤ i := by omega
      go_wp2
      go_ret
      exact ⟨rfl, hW.trans (hb.mono hs4)⟩

set_option maxHeartbeats 4000000 in
theorem execOnce_no (w : World) (v vx vp : Value) (zs : List Int) (c wk : Int) (hZ : IsZ w v zs) (hTb : Tab w) (hno : ∀ ds, Good zs ds → 64 < prd2 ds) :
    Calls Tryd.prog 3 #[v, vx, .int .i64 c, .int .i64 wk, vp] w fun e w' => e = .returned (.bool true) ∧ Below w.heap.size w w' := by
  have cR := keep_runs w hTb
  have cSh := fun W (hz : IsZ W v zs) => keep_shaped_no W v vx zs hz hno
  clear hno
  go_enter Tryd.func3, Tryd.ntmps3
  go_wp2_with (first
    | (go_at_call 5; refine Calls.mono cR ?_; rintro e w1 ⟨rfl, hb⟩; clear cR; replace hZ := hZ.below hb)
    | (go_at_call 6; refine Calls.mono (cSh _ hZ) ?_; rintro e w' ⟨rfl, hw⟩; rw [hw]; clear hw))
  go_ret
  exact ⟨rfl, hb⟩
set_option maxHeartbeats 4000000 in
theorem execOnce_many (w : World) (v vx vp : Value) (zs : List Int) (ds xs : List Nat) (c wk : Int) (K : List (List Int)) (hZ : IsZ w v zs) (hX : IsU w vx xs) (hK : IsR 2 w vp K) (hTb : Tab w) (hG : Good zs ds) (hds : prd2 ds ≤ 64) (hK9 : 300 < K.length) :
    Calls Tryd.prog 3 #[v, vx, .int .i64 c, .int .i64 wk, vp] w fun e w' => e = .returned (.bool true) ∧ Below w.heap.size w w' := by
  have cR := keep_runs w hTb
  have cSh : Hid (∀ W, IsZ W v zs → IsU W vx xs → Calls Tryd.prog 6 #[v, vx] W fun e w' => ∃ g, e = .returned (.tuple #[.slice (some ⟨g, 0, none⟩) (prd2 ds) (prd2 ds), .bool true]) ∧ IsU w' (.slice (some ⟨g, 0, none⟩) (prd2 ds) (prd2 ds)) (szd xs (prd2 ds)) ∧ Below W.heap.size W w') := fun W hz hx => keep_shaped_ok W v vx zs ds xs hz hx hG hds
  obtain ⟨ak, ck, rfl, -⟩ := hK
  clear hG
  go_enter Tryd.func3, Tryd.ntmps3
  go_wp2_with (first
    | (go_at_call 5; refine Calls.mono cR ?_; rintro e w1 ⟨rfl, hb⟩; clear cR; replace hZ := hZ.below hb; replace hX := hX.below hb)
    | (go_at_call 6; refine Calls.mono (cSh.out _ hZ hX) ?_; rintro e w3 ⟨ga, rfl, hU3, hb3⟩; clear cSh))
  go_ret
  exact ⟨rfl, hb.trans (hb3.mono hb.size)⟩
set_option maxHeartbeats 4000000 in
theorem execOnce_cut (w : World) (v vx vp : Value) (zs : List Int) (ds xs : List Nat) (c wk : Int) (K : List (List Int)) (hZ : IsZ w v zs) (hX : IsU w vx xs) (hK : IsR 2 w vp K) (hTb : Tab w) (hG : Good zs ds) (hds : prd2 ds ≤ 64) (hK9 : K.length ≤ 300) (hc : c < 1) :
    Calls Tryd.prog 3 #[v, vx, .int .i64 c, .int .i64 wk, vp] w fun e w' => e = .returned (.bool true) ∧ Below w.heap.size w w' := by
  have cR := keep_runs w hTb
  have cSh : Hid (∀ W, IsZ W v zs → IsU W vx xs → Calls Tryd.prog 6 #[v, vx] W fun e w' => ∃ g, e = .returned (.tuple #[.slice (some ⟨g, 0, none⟩) (prd2 ds) (prd2 ds), .bool true]) ∧ IsU w' (.slice (some ⟨g, 0, none⟩) (prd2 ds) (prd2 ds)) (szd xs (prd2 ds)) ∧ Below W.heap.size W w') := fun W hz hx => keep_shaped_ok W v vx zs ds xs hz hx hG hds
  have cMk : Hid (∀ W, IsZ W v zs → Calls Tryd.prog 7 #[v, .int .i64 c] W fun e w' => ∃ u, e = .returned (.tuple #[u, .int .i64 1]) ∧ IsP 3 w' u [] ∧ Below W.heap.size W w') := fun W hz => plan_Make_cut W v zs ds c hz hG (by omega) hc
  obtain ⟨ak, ck, rfl, -⟩ := hK
  clear hG
  go_enter Tryd.func3, Tryd.ntmps3
  go_wp2_with (first
    | (go_at_call 5; refine Calls.mono cR ?_; rintro e w1 ⟨rfl, hb⟩; clear cR; replace hZ := hZ.below hb; replace hX := hX.below hb)
    | (go_at_call 6; refine Calls.mono (cSh.out _ hZ hX) ?_; rintro e w3 ⟨ga, rfl, hU3, hb3⟩; clear cSh; replace hZ := hZ.below hb3; have hb3' := hb.trans (hb3.mono hb.size))
    | (go_at_call 7; refine Calls.mono (cMk.out _ hZ) ?_; rintro e w4 ⟨u4, rfl, hP, hb4⟩; clear cMk; have hb4' := hb3'.trans (hb4.mono hb3'.size)))
  go_ret
  exact ⟨rfl, hb4'⟩

theorem execOnce_walk (w : World) (v : Value) (zs : List Int) (hZ : IsZ w v zs) (vx : Value) (xs : List Nat) (hX : IsU w vx xs) (c : Int) (hc : (Lit.int .i64 c).wf = true) (wk : Int) (_hwk : (Lit.int .i64 wk).wf = true) (vp : Value) (K : List (List Int)) (hK : IsR 2 w vp K) (hTb : Tab w) :
    Calls Tryd.prog 3 #[v, vx, .int .i64 c, .int .i64 wk, vp] w fun e w' => e = .returned (.bool true) ∧ Below w.heap.size w w' := by
  by_cases hG : ∃ ds, Good zs ds ∧ prd2 ds ≤ 64
  · obtain ⟨ds, hG, hn⟩ := hG
    rcases Nat.lt_or_ge 300 K.length with hk | hk
    · exact execOnce_many w v vx vp zs ds xs c wk K hZ hX hK hTb hG hn hk
    · by_cases h1 : c < 1
      · exact execOnce_cut w v vx vp zs ds xs c wk K hZ hX hK hTb hG hn hk h1
      · have hb := bounds_i64 hc
        obtain ⟨m, rfl⟩ := Int.eq_ofNat_of_zero_le (show 0 ≤ c by omega)
        exact execOnce_main w v vx vp zs ds xs m wk K hZ hX hK hTb hG hn (by omega) (by omega) hk
  · exact execOnce_no w v vx vp zs c wk hZ hTb (fun ds h => by
      rcases Nat.lt_or_ge 64 (prd2 ds) with h1 | h1
      · exact h1
      · exact absurd ⟨ds, h, h1⟩ hG)

end Go.Proofs.YtmgfjcepebjnfafDoor
