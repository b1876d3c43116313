/-
  Contracts of package seal: Of, Corners, Shift, for whatever is handed in.
-/
import Derived.Test.YtgkepflnnoociagDoorSealH
import Derived.Test.YtgkepflnnoociagDoorTabD
import Derived.Test.YtgkepflnnoociagDoorFieldAll
import Derived.Test.YtgkepflnnoociagDoorManyT
namespace Go.Proofs.YtgkepflnnoociagDoor
open Go.RowKit

theorem slE_zero {zs : List Int} {n : Nat} (h : slE zs n = 0) : ∃ ds, Good zs ds ∧ prd2 ds ≤ 1024 ∧ n = prd2 ds ∧ dsZ zs = ds ∧ spE zs = 0 := by
  unfold slE at h
  by_cases h0 : spE zs = 0
  · rw [if_pos h0] at h
    by_cases h1 : n = prd2 (dsZ zs)
    · refine ⟨dsZ zs, ?_, ?_, h1, rfl, h0⟩
      · unfold spE at h0
        by_cases hg : Good zs (dsZ zs)
        · exact hg
        · rw [if_neg hg] at h0; exact absurd h0 (by decide)
      · unfold spE at h0
        split at h0
        · split at h0
          · assumption
          · exact absurd h0 (by decide)
        · exact absurd h0 (by decide)
    · rw [if_neg h1] at h; exact absurd h (by decide)
  · rw [if_neg h0] at h; exact absurd h h0
theorem slE_cases (zs : List Int) (n : Nat) : slE zs n = 0 ∨ (∃ ds, Good zs ds ∧ prd2 ds ≤ 1024 ∧ n ≠ prd2 ds ∧ slE zs n = 5) ∨ (∃ ds, Good zs ds ∧ 1024 < prd2 ds ∧ slE zs n = 2) ∨ ((∀ ds, ¬ Good zs ds) ∧ slE zs n = 1) := by
  by_cases hg : ∃ ds, Good zs ds
  · obtain ⟨ds, hG⟩ := hg
    have hd := dsZ_of hG
    rcases Nat.lt_or_ge 1024 (prd2 ds) with h | h
    · refine .inr (.inr (.inl ⟨ds, hG, h, ?_⟩))
      unfold slE
      rw [spE_large hG h, if_neg (by decide)]
    · by_cases hn : n = prd2 ds
      · left
        unfold slE
        rw [spE_ok hG h, if_pos rfl, hd, if_pos hn]
      · refine .inr (.inl ⟨ds, hG, h, hn, ?_⟩)
        unfold slE
        rw [spE_ok hG h, if_pos rfl, hd, if_neg hn]
  · refine .inr (.inr (.inr ⟨fun ds h => hg ⟨ds, h⟩, ?_⟩))
    unfold slE
    rw [spE_bad fun ds h => hg ⟨ds, h⟩, if_neg (by decide)]

set_option maxHeartbeats 1000000 in
theorem seal_checkArray (w : World) (v v1 : Value) (zs : List Int) (xs : List Nat) (h : IsZ w v zs) (h1 : IsU w v1 xs) :
    Calls Tryd.prog 55 #[v, v1] w fun e w' => e = .returned (.int .i64 (slE zs xs.length)) ∧ w' = w := by
  have hm := len_max h1
  obtain ⟨a1, cap1, rfl, -⟩ := h1
  rcases slE_cases zs xs.length with q | ⟨ds, hG, hn, hl, q⟩ | ⟨ds, hG, hn, q⟩ | ⟨hno, q⟩
  · obtain ⟨ds, hG, hn, hl, -, -⟩ := slE_zero q
    have cC := many_Check_okW w v zs ds h hG hn
    obtain ⟨a, cap, rfl, -⟩ := h
    rw [q]
    have hq : ((xs.length : Int) == (prd2 ds : Nat)) = true := by rw [beq_iff_eq]; omega
    clear hG q hl
    generalize prd2 ds = N at *
    generalize xs.length = n at *
    go_enter Tryd.func55, Tryd.ntmps55
    go_wp2_with (go_at_call 72; refine Calls.mono cC ?_; rintro e w' ⟨rfl, hw⟩; rw [hw]; clear hw)
    go_ret
    exact ⟨rfl, rfl⟩
  · have cC := many_Check_okW w v zs ds h hG hn
    obtain ⟨a, cap, rfl, -⟩ := h
    rw [q]
    have hq : ((xs.length : Int) == (prd2 ds : Nat)) = false := by rw [beq_eq_false_iff_ne]; omega
    clear hG q hl
    generalize prd2 ds = N at *
    generalize xs.length = n at *
    go_enter Tryd.func55, Tryd.ntmps55
    go_wp2_with (go_at_call 72; refine Calls.mono cC ?_; rintro e w' ⟨rfl, hw⟩; rw [hw]; clear hw)
    go_ret
    exact ⟨rfl, rfl⟩
  · have cC := many_Check_largeW w v zs ds h hG hn
    obtain ⟨a, cap, rfl, -⟩ := h
    rw [q]
    clear hG q hn
    go_enter Tryd.func55, Tryd.ntmps55
    go_wp2_with (go_at_call 72; refine Calls.mono cC ?_; rintro e w' ⟨rfl, hw⟩; rw [hw]; clear hw)
    go_ret
    exact ⟨rfl, rfl⟩
  · have cC := many_Check_badW w v zs h hno
    obtain ⟨a, cap, rfl, -⟩ := h
    rw [q]
    clear hno q
    go_enter Tryd.func55, Tryd.ntmps55
    go_wp2_with (go_at_call 72; refine Calls.mono cC ?_; rintro e w' ⟨rfl, hw⟩; rw [hw]; clear hw)
    go_ret
    exact ⟨rfl, rfl⟩

set_option maxHeartbeats 1000000 in
theorem seal_Of (w : World) (v v1 : Value) (zs : List Int) (xs : List Nat) (key : Nat) (h : IsZ w v zs) (h1 : IsU w v1 xs) (hk : (key : Int) < 18446744073709551616) (_hTb : Tab w) :
    Calls Tryd.prog 10 #[v, v1, .int .u64 (key : Int)] w fun e w' => e = .returned (.tuple #[.int .u64 ((ofV zs xs key : Nat) : Int), .int .i64 (slE zs xs.length)]) ∧ Below w.heap.size w w' := by
  have cK := seal_checkArray w v v1 zs xs h h1
  by_cases hE : slE zs xs.length = 0
  · obtain ⟨ds, hG, hn, hl, -, -⟩ := slE_zero hE
    have hov : ofV zs xs key = pE xs key := by unfold ofV; rw [if_pos hE]
    have cE := poly_Eval_ok w v1 xs key h1 (by omega) hk
    rw [hov]
    rw [hE] at cK ⊢
    obtain ⟨a, cap, rfl, -⟩ := h
    obtain ⟨a1, cap1, rfl, -⟩ := h1
    clear hov hE hG hn hl hk
    generalize pE xs key = y at *
    go_enter Tryd.func10, Tryd.ntmps10
    go_wp2_with (first
      | (go_at_call 55; refine Calls.mono cK ?_; rintro e w' ⟨rfl, hw⟩; rw [hw]; clear hw cK)
      | (go_at_call 56; refine Calls.mono cE ?_; rintro e w5 ⟨rfl, hb⟩; clear cE))
    go_ret2
    exact ⟨rfl, hb⟩
  · have hov : ofV zs xs key = 0 := by unfold ofV; rw [if_neg hE]
    rw [hov]
    have hq : (slE zs xs.length == 0) = false := by rw [beq_eq_false_iff_ne]; exact hE
    obtain ⟨a, cap, rfl, -⟩ := h
    obtain ⟨a1, cap1, rfl, -⟩ := h1
    clear hov hE hk
    generalize slE zs xs.length = E at *
    go_enter Tryd.func10, Tryd.ntmps10
    go_wp2_with (go_at_call 55; refine Calls.mono cK ?_; rintro e w' ⟨rfl, hw⟩; rw [hw]; clear hw cK)
    go_ret2
    exact ⟨rfl, Below.refl _ _⟩

/-- The places that are chosen of the first i axes lie each in a block of its own, that is not G. -/
def Chs (w : World) (G : Nat) (vs : List Value) (ch : Nat → List Nat) (i : Nat) : Prop :=
  ∀ y, y < i → ∃ g, vs[y]? = some (.slice (some ⟨g, 0, none⟩) (ch y).length (ch y).length) ∧ g ≠ G ∧ RowI w g (ch y)
theorem Chs.step {w w' : World} {G : Nat} {vs : List Value} {ch : Nat → List Nat} {i g n : Nat} (h : Chs w G vs ch i) (hi : i < vs.length) (hn : n = (ch i).length)
    (hk : ∀ k, k < w.heap.size → k ≠ G → w'.heap[k]? = w.heap[k]?) (hg : g ≠ G) (hr : RowI w' g (ch i)) :
    Chs w' G (vs.set i (.slice (some ⟨g, 0, none⟩) n n)) ch (i + 1) := fun j hj => by
  by_cases e : j = i
  · subst e
    exact ⟨g, by rw [List.getElem?_set_self hi, hn], hg, hr⟩
  · obtain ⟨g', h1, h2, h3⟩ := h j (by omega)
    exact ⟨g', by rw [List.getElem?_set_ne (Ne.symm e)]; exact h1, h2, h3.block (hk g' h3.lt h2)⟩
theorem Chs.told {w : World} {G m : Nat} {vs : List Value} {ch : Nat → List Nat} (hr : RowS w G vs) (h : Chs w G vs ch m) (hl : ∀ y, y < m → (ch y).length ≤ 1024) : ∀ y, y < m → ∃ u, w.cell? ⟨G, y, none⟩ = some u ∧ IsI w u (ch y) := fun y hy => by
  obtain ⟨g, h1, -, h3⟩ := h y hy
  exact ⟨_, (hr.cell y).trans h1, h3.isIN (by have := hl y hy; omega) rfl⟩

set_option maxRecDepth 100000 in
set_option maxHeartbeats 4000000 in
theorem seal_Corners_ok (w : World) (v v1 : Value) (zs : List Int) (ds xs : List Nat) (h : IsZ w v zs) (h1 : IsU w v1 xs) (hTb : Tab w) (hG : Good zs ds) (hn : prd2 ds ≤ 1024) (hl : xs.length = prd2 ds) :
    Calls Tryd.prog 7 #[v, v1] w fun e w' => ∃ g n, e = .returned (.tuple #[.slice (some ⟨g, 0, none⟩) n n, .int .i64 0]) ∧ n = (crW ds xs).length ∧ n ≤ 1024 ∧ w.heap.size ≤ g ∧ RowU w' g (crW ds xs) ∧ Below w.heap.size w w' := by
  have hS : Shp ds := hG.2.2.2
  have hZ := h
  have cF := many_Forward_ok w v v1 zs xs ds h h1 hTb hG hn hl
  have hlen : zs.length = ds.length := by rw [hG.2.2.1, List.length_map]
  have h3 : ds.length ≤ 3 := by rw [← hlen]; exact hG.2.1
  have h13 : 1 ≤ ds.length := by rw [← hlen]; exact hG.1
  have cN : Hid (∀ (W : World) (u : Value) (G : Nat), Below w.heap.size w W → IsU W u (mk (prd2 ds) (who ds false (cf xs) ds.length)) → (∀ y, y < ds.length → ∃ u, W.cell? ⟨G, y, none⟩ = some u ∧ IsI W u (crX (sz ds y))) →
      Calls Tryd.prog 53 #[u, v, .slice (some ⟨G, 0, none⟩) ds.length ds.length] W fun e w' => ∃ g n, e = .returned (.slice (some ⟨g, 0, none⟩) n n) ∧ n = (crW ds xs).length ∧ n ≤ 1024 ∧ W.heap.size ≤ g ∧ RowU w' g (crW ds xs) ∧ Below W.heap.size W w') := fun W u G hb hU hc => by
    have := seal_numbersAt W v u G ds.length zs ds _ (fun y => crX (sz ds y)) (hZ.below hb) hU hG hn (mk_length _ _) hc (fun y hy => crX_len (P2_pos (hS.at y hy))) (fun y hy => crX_lt (P2_pos (hS.at y hy)))
    rw [at_crW hS] at this
    exact this
  obtain ⟨az, capz, rfl, -, -, hcz, -⟩ := h
  obtain ⟨bz, oz, rfl, -⟩ := hcz 0 (by omega)
  have hcell : Hid (∀ W : World, Below w.heap.size w W → ∀ x, x < ds.length → W.cell? ⟨bz, oz + x, none⟩ = some (.int .i64 ((sz ds x : Nat) : Int)) ∧ sz ds x ≤ 1024) := fun W hb x hx => by
    obtain ⟨b, off, e, hc⟩ := hcz x (by omega)
    simp only [Option.some.injEq, Addr.mk.injEq, and_true] at e
    obtain ⟨rfl, rfl⟩ := e
    rw [(Good_get hG x (by omega)).1] at hc
    exact ⟨(hb.cell (block_lt hc)).trans hc, sz_le hS hn x hx⟩
  have hcrl : Hid (∀ y, y < ds.length → (crX (sz ds y)).length ≤ 1024) := fun y hy => Nat.le_trans (crX_len (P2_pos (hS.at y hy))) (sz_le hS hn y hy)
  obtain ⟨a1, cap1, rfl, -⟩ := h1
  rw [hlen] at cF cN ⊢
  clear hcz hG hS hZ hlen hl hTb
  generalize crW ds xs = R at *
  generalize mk (prd2 ds) (who ds false (cf xs) ds.length) = T at *
  have hm9 : ds.length ≤ 1000000000 := by omega
  generalize hm : ds.length = m at *
  clear hm
  go_enter Tryd.func7, Tryd.ntmps7
  go_wp2_with (first
    | (go_at_call 29; refine Calls.mono cF ?_; rintro e w1 ⟨ut, rfl, hUt, hb1⟩; clear cF)
    | (at_make; refine wp_makeL rfl _ _ rfl m rfl rfl hm9 ?_; intro G w2 hGe hrow hb2))
  have hG1 : w1.heap.size ≤ G := Nat.le_of_eq hGe.out.symm
  clear hGe
  go_loopw [25] (fun vx wr => ∃ (x : Nat) (vs : List Value), x ≤ m ∧ vx = .int .i64 (x : Int) ∧ RowS wr G vs ∧ Hid (vs.length = m) ∧ Hid (Chs wr G vs (fun y => crX (sz ds y)) x) ∧ Below w1.heap.size w1 wr)
    (fun vx _ => m - (intOf vx).toNat)
  case atStart => exact ⟨0, _, Nat.zero_le _, rfl, hrow, List.length_replicate, fun j hj => by omega, hb2⟩
  case round =>
    clear hrow hb2
    obtain ⟨x, vs, hx, rfl, hrow, hvl, hchs, hbr⟩ := hrel
    by_cases hlt : x < m
    · obtain ⟨hcd, hd9⟩ := hcell.out wr (hb1.trans (hbr.mono hb1.size)) x hlt
      have hvx : x < vs.length := by rw [hvl.out]; exact hlt
      obtain ⟨old, hold⟩ : ∃ old, vs[x]? = some old := ⟨_, List.getElem?_eq_getElem hvx⟩
      have cO := seal_cornersOf wr (sz ds x) hd9
      have hst : Hid (∀ (W : World) (g : Nat), (∀ k, k < wr.heap.size → k ≠ G → W.heap[k]? = wr.heap[k]?) → g ≠ G → RowI W g (crX (sz ds x)) → Chs W G (vs.set x (.slice (some ⟨g, 0, none⟩) (crX (sz ds x)).length (crX (sz ds x)).length)) (fun y => crX (sz ds y)) (x + 1)) := fun W g hk hg hr => hchs.out.step (n := (crX (sz ds x)).length) hvx rfl hk hg hr
      have hvs' : Hid (x < vs.length) := hvx
      clear hcell cN hcrl hchs hvx
      generalize crX (sz ds x) = L at *
      generalize sz ds x = d at *
      obtain ⟨ll, hll⟩ : ∃ ll, ll = L.length := ⟨_, rfl⟩
      rw [← hll] at cO hst
      clear hll
      go_wp2_with (go_at_call 52; refine Calls.mono cO ?_; rintro e w5 ⟨g, rfl, hg, hrI, hb5⟩; clear cO; have hrow5 := hrow.below hb5; have hc5 := hrow5.cell x; rw [hold] at hc5; have hf5 := hrow5.frozen x)
      have hGr := hrow.lt
      have hgG : g ≠ G := by omega
      have hk : ∀ k, k < wr.heap.size → k ≠ G → (w5.setCell ⟨G, x, none⟩ (.slice (some ⟨g, 0, none⟩) ll ll)).heap[k]? = wr.heap[k]? := fun k hk hne => (((Bar.refl G w5).setCell x (.slice (some ⟨g, 0, none⟩) ll ll)).block k (Nat.lt_of_lt_of_le hk hb5.size) hne).trans (hb5.block k hk)
      have hrI6 : RowI (w5.setCell ⟨G, x, none⟩ (.slice (some ⟨g, 0, none⟩) ll ll)) g L := hrI.bar hgG ((Bar.refl G _).setCell x _)
      have hchs6 : Hid (Chs (w5.setCell ⟨G, x, none⟩ (.slice (some ⟨g, 0, none⟩) ll ll)) G (vs.set x (.slice (some ⟨g, 0, none⟩) ll ll)) (fun y => crX (sz ds y)) (x + 1)) := hst.out _ g hk hgG hrI6
      have hrow6 := hrow5.set x (.slice (some ⟨g, 0, none⟩) ll ll)
      have hb6 : Below w1.heap.size w1 (w5.setCell ⟨G, x, none⟩ (.slice (some ⟨g, 0, none⟩) ll ll)) := (hbr.trans (hb5.mono hbr.size)).setCell (p := ⟨G, x, none⟩) hG1 _
      have hvl6 : Hid ((vs.set x (.slice (some ⟨g, 0, none⟩) ll ll)).length = m) := by show _ = _; rw [List.length_set]; exact hvl.out
      clear hrow hrow5 hc5 hf5 hb5 hrI hst hk hrI6 hbr hvl hold hcd
      go_roundw
      case rel => exact ⟨x + 1, _, by omega, by go_num, hrow6, hvl6, hchs6, hb6⟩
      case measure => simp only [intOf]; omega
    · have e : m = x := by omega
      subst e
      have hgm : ¬ m < m := Nat.lt_irrefl _
      have hBw := hb1.trans (hbr.mono hb1.size)
      have cA := cN.out wr ut G hBw (hUt.below hbr) (hchs.out.told hrow hcrl.out)
      obtain ⟨at_, ct, rfl, -⟩ := hUt
      generalize T.length = tl at *
      clear cN hcell hcrl hchs hrow hvl
      go_wp2_with (go_at_call 53; refine Calls.mono cA ?_; rintro e w5 ⟨g, n, rfl, hnR0, hn9, hg, hr, hb5⟩; have hnR : Hid (n = R.length) := hnR0; clear cA hnR0)
      go_ret2
      exact ⟨g, n, rfl, hnR.out, hn9, Nat.le_trans hBw.size hg, hr, hBw.trans (hb5.mono hBw.size)⟩
set_option maxHeartbeats 1000000 in
theorem seal_Corners_no (w : World) (v v1 : Value) (E : Int) (hE : ¬ E = 0) (a : Option Addr) (l c : Nat) (hv : v = .slice a l c) (a1 : Option Addr) (l1 c1 : Nat) (hv1 : v1 = .slice a1 l1 c1)
    (cF : Calls Tryd.prog 29 #[v, v1] w fun e w' => ∃ u, e = .returned (.tuple #[u, .int .i64 E]) ∧ IsU w' u [] ∧ Below w.heap.size w w') :
    Calls Tryd.prog 7 #[v, v1] w fun e w' => e = .returned (.tuple #[.slice none 0 0, .int .i64 E]) ∧ Below w.heap.size w w' := by
  subst hv hv1
  have hq : (E == 0) = false := by rw [beq_eq_false_iff_ne]; exact hE
  clear hE
  go_enter Tryd.func7, Tryd.ntmps7
  go_wp2_with (go_at_call 29; refine Calls.mono cF ?_; rintro e w5 ⟨u5, rfl, -, hb⟩; clear cF)
  go_ret2
  exact ⟨rfl, hb⟩
theorem crW_rngC (ds xs : List Nat) : Rng (crW ds xs) := fun x hx => by
  obtain ⟨q, _, rfl⟩ := List.mem_map.mp hx
  have := val_lt (who ds false (cf xs) ds.length q)
  unfold P at this
  omega
theorem seal_Corners (w : World) (v v1 : Value) (zs : List Int) (xs : List Nat) (h : IsZ w v zs) (h1 : IsU w v1 xs) (_hTb : Tab w) :
    Calls Tryd.prog 7 #[v, v1] w fun e w' => ∃ u, e = .returned (.tuple #[u, .int .i64 (slE zs xs.length)]) ∧ IsU w' u (coL zs xs) ∧ Below w.heap.size w w' := by
  have hZ := h
  have hU := h1
  obtain ⟨a, cap, hv, -⟩ := h
  obtain ⟨a1, cap1, hv1, -⟩ := h1
  rcases slE_cases zs xs.length with q | ⟨ds, hG, hn, hl, q⟩ | ⟨ds, hG, hn, q⟩ | ⟨hno, q⟩
  · obtain ⟨ds, hG, hn, hl, hd, -⟩ := slE_zero q
    have hco : coL zs xs = crW ds xs := by unfold coL; rw [if_pos q, hd]
    rw [q, hco]
    refine (seal_Corners_ok w v v1 zs ds xs hZ hU _hTb hG hn hl).mono ?_
    rintro e w' ⟨g, n, rfl, hnR, hn9, hg, hr, hb⟩
    exact ⟨_, rfl, hr.isUN (crW_rngC ds xs) (by omega) hnR.symm, hb⟩
  all_goals
    have hco : coL zs xs = [] := by unfold coL; rw [if_neg (by rw [q]; decide)]
    rw [q, hco]
  · refine (seal_Corners_no w v v1 5 (by decide) a _ cap hv a1 _ cap1 hv1 (many_Forward_form w v v1 zs xs ds hZ hU hG hn hl)).mono ?_
    rintro e w' ⟨rfl, hb⟩
    exact ⟨_, rfl, IsU.nil _, hb⟩
  · refine (seal_Corners_no w v v1 2 (by decide) a _ cap hv a1 _ cap1 hv1 (many_Forward_large w v v1 zs xs ds hZ hU hG hn)).mono ?_
    rintro e w' ⟨rfl, hb⟩
    exact ⟨_, rfl, IsU.nil _, hb⟩
  · refine (seal_Corners_no w v v1 1 (by decide) a _ cap hv a1 _ cap1 hv1 (many_Forward_bad w v v1 zs xs hZ hU hno)).mono ?_
    rintro e w' ⟨rfl, hb⟩
    exact ⟨_, rfl, IsU.nil _, hb⟩

set_option maxRecDepth 100000 in
set_option maxHeartbeats 4000000 in
theorem seal_Shift_ok (w : World) (v v1 v2 : Value) (zs bs : List Int) (ds xs : List Nat) (h : IsZ w v zs) (h1 : IsU w v1 xs) (h2 : IsZ w v2 bs) (hG : Good zs ds) (hn : prd2 ds ≤ 1024) (hl : xs.length = prd2 ds) (hbl : bs.length = zs.length) :
    Calls Tryd.prog 11 #[v, v1, v2] w fun e w' => ∃ g n, e = .returned (.tuple #[.slice (some ⟨g, 0, none⟩) n n, .int .i64 0]) ∧ n = (shW ds bs xs).length ∧ n ≤ 1024 ∧ w.heap.size ≤ g ∧ RowU w' g (shW ds bs xs) ∧ Below w.heap.size w w' := by
  have hS : Shp ds := hG.2.2.2
  have hZ := h
  have hU := h1
  have cK := seal_checkArray w v v1 zs xs h h1
  have hE : slE zs xs.length = 0 := by
    unfold slE
    rw [spE_ok hG hn, if_pos rfl, dsZ_of hG, if_pos hl]
  rw [hE] at cK
  have hlen : zs.length = ds.length := by rw [hG.2.2.1, List.length_map]
  have h3 : ds.length ≤ 3 := by rw [← hlen]; exact hG.2.1
  have h13 : 1 ≤ ds.length := by rw [← hlen]; exact hG.1
  have cN : Hid (∀ (W : World) (G : Nat), Below w.heap.size w W → (∀ y, y < ds.length → ∃ u, W.cell? ⟨G, y, none⟩ = some u ∧ IsI W u (shX (sz ds y) (bs.getD y 0))) →
      Calls Tryd.prog 53 #[v1, v, .slice (some ⟨G, 0, none⟩) ds.length ds.length] W fun e w' => ∃ g n, e = .returned (.slice (some ⟨g, 0, none⟩) n n) ∧ n = (shW ds bs xs).length ∧ n ≤ 1024 ∧ W.heap.size ≤ g ∧ RowU w' g (shW ds bs xs) ∧ Below W.heap.size W w') := fun W G hb hc => by
    have := seal_numbersAt W v v1 G ds.length zs ds xs (fun y => shX (sz ds y) (bs.getD y 0)) (hZ.below hb) (hU.below hb) hG hn hl hc (fun y hy => by rw [shX_length]; exact Nat.le_refl _) (fun y hy => shX_lt _ _)
    rw [at_shW] at this
    exact this
  obtain ⟨az, capz, rfl, -, -, hcz, -⟩ := h
  obtain ⟨bz, oz, rfl, -⟩ := hcz 0 (by omega)
  have hcell : Hid (∀ W : World, Below w.heap.size w W → ∀ x, x < ds.length → W.cell? ⟨bz, oz + x, none⟩ = some (.int .i64 ((sz ds x : Nat) : Int)) ∧ 0 < sz ds x ∧ sz ds x ≤ 1024) := fun W hb x hx => by
    obtain ⟨b, off, e, hc⟩ := hcz x (by omega)
    simp only [Option.some.injEq, Addr.mk.injEq, and_true] at e
    obtain ⟨rfl, rfl⟩ := e
    rw [(Good_get hG x (by omega)).1] at hc
    exact ⟨(hb.cell (block_lt hc)).trans hc, P2_pos (hS.at x hx), sz_le hS hn x hx⟩
  obtain ⟨ay, capy, rfl, -, -, hcy, hry⟩ := h2
  obtain ⟨by_, oy, rfl, -⟩ := hcy 0 (by omega)
  have hcelb : Hid (∀ W : World, Below w.heap.size w W → ∀ x, x < ds.length → W.cell? ⟨by_, oy + x, none⟩ = some (.int .i64 (bs.getD x 0)) ∧ -9223372036854775808 ≤ bs.getD x 0 ∧ bs.getD x 0 ≤ 9223372036854775807) := fun W hb x hx => by
    obtain ⟨b, off, e, hc⟩ := hcy x (by omega)
    simp only [Option.some.injEq, Addr.mk.injEq, and_true] at e
    obtain ⟨rfl, rfl⟩ := e
    exact ⟨(hb.cell (block_lt hc)).trans hc, rangeZ_getD hry x⟩
  have hcrl : Hid (∀ y, y < ds.length → (shX (sz ds y) (bs.getD y 0)).length ≤ 1024) := fun y hy => by rw [shX_length]; exact sz_le hS hn y hy
  have hsl : Hid (∀ y, sz ds y = (shX (sz ds y) (bs.getD y 0)).length) := fun y => (shX_length _ _).symm
  obtain ⟨a1, cap1, rfl, -⟩ := h1
  rw [hbl]
  rw [hlen] at cK cN ⊢
  clear hcz hcy hry hG hS hZ hU hlen hl hbl hE
  generalize shW ds bs xs = R at *
  have hm9 : ds.length ≤ 1000000000 := by omega
  generalize hm : ds.length = m at *
  clear hm
  generalize xs.length = xl at *
  go_enter Tryd.func11, Tryd.ntmps11
  go_wp2_with (first
    | (go_at_call 55; refine Calls.mono cK ?_; rintro e w' ⟨rfl, hw⟩; rw [hw]; clear hw cK)
    | (at_make; refine wp_makeL rfl _ _ rfl m rfl rfl hm9 ?_; intro G w2 hGe hrow hb2))
  have hG1 : w.heap.size ≤ G := Nat.le_of_eq hGe.out.symm
  clear hGe
  go_loopw [28] (fun vx wr => ∃ (x : Nat) (vs : List Value), x ≤ m ∧ vx = .int .i64 (x : Int) ∧ RowS wr G vs ∧ Hid (vs.length = m) ∧ Hid (Chs wr G vs (fun y => shX (sz ds y) (bs.getD y 0)) x) ∧ Below w.heap.size w wr)
    (fun vx _ => m - (intOf vx).toNat)
  case atStart => exact ⟨0, _, Nat.zero_le _, rfl, hrow, List.length_replicate, fun j hj => by omega, hb2⟩
  case round =>
    clear hrow hb2
    obtain ⟨x, vs, hx, rfl, hrow, hvl, hchs, hbr⟩ := hrel
    by_cases hlt : x < m
    · obtain ⟨hcd, hd0, hd9⟩ := hcell.out wr hbr x hlt
      obtain ⟨hcb, hb91, hb92⟩ := hcelb.out wr hbr x hlt
      have hvx : x < vs.length := by rw [hvl.out]; exact hlt
      obtain ⟨old, hold⟩ : ∃ old, vs[x]? = some old := ⟨_, List.getElem?_eq_getElem hvx⟩
      have cO := seal_placesBefore wr (sz ds x) (bs.getD x 0) hd0 hd9 hb91 hb92
      have hst : Hid (∀ (W : World) (g : Nat), (∀ k, k < wr.heap.size → k ≠ G → W.heap[k]? = wr.heap[k]?) → g ≠ G → RowI W g (shX (sz ds x) (bs.getD x 0)) → Chs W G (vs.set x (.slice (some ⟨g, 0, none⟩) (sz ds x) (sz ds x))) (fun y => shX (sz ds y) (bs.getD y 0)) (x + 1)) := fun W g hk hg hr => hchs.out.step (n := sz ds x) hvx (hsl.out x) hk hg hr
      have hvs' : Hid (x < vs.length) := hvx
      clear hcell hcelb cN hcrl hchs hvx hsl hb91 hb92
      generalize shX (sz ds x) (bs.getD x 0) = L at *
      generalize sz ds x = d at *
      generalize bs.getD x 0 = b at *
      go_wp2_with (go_at_call 57; refine Calls.mono cO ?_; rintro e w5 ⟨g, rfl, hg, hrI, hb5⟩; clear cO; have hrow5 := hrow.below hb5; have hc5 := hrow5.cell x; rw [hold] at hc5; have hf5 := hrow5.frozen x)
      have hGr := hrow.lt
      have hgG : g ≠ G := by omega
      have hk : ∀ k, k < wr.heap.size → k ≠ G → (w5.setCell ⟨G, x, none⟩ (.slice (some ⟨g, 0, none⟩) d d)).heap[k]? = wr.heap[k]? := fun k hk hne => (((Bar.refl G w5).setCell x (.slice (some ⟨g, 0, none⟩) d d)).block k (Nat.lt_of_lt_of_le hk hb5.size) hne).trans (hb5.block k hk)
      have hrI6 : RowI (w5.setCell ⟨G, x, none⟩ (.slice (some ⟨g, 0, none⟩) d d)) g L := hrI.bar hgG ((Bar.refl G _).setCell x _)
      have hchs6 : Hid (Chs (w5.setCell ⟨G, x, none⟩ (.slice (some ⟨g, 0, none⟩) d d)) G (vs.set x (.slice (some ⟨g, 0, none⟩) d d)) (fun y => shX (sz ds y) (bs.getD y 0)) (x + 1)) := hst.out _ g hk hgG hrI6
      have hrow6 := hrow5.set x (.slice (some ⟨g, 0, none⟩) d d)
      have hb6 : Below w.heap.size w (w5.setCell ⟨G, x, none⟩ (.slice (some ⟨g, 0, none⟩) d d)) := (hbr.trans (hb5.mono hbr.size)).setCell (p := ⟨G, x, none⟩) hG1 _
      have hvl6 : Hid ((vs.set x (.slice (some ⟨g, 0, none⟩) d d)).length = m) := by show _ = _; rw [List.length_set]; exact hvl.out
      clear hrow hrow5 hc5 hf5 hb5 hrI hst hk hrI6 hbr hvl hold hcd hcb
      go_roundw
      case rel => exact ⟨x + 1, _, by omega, by go_num, hrow6, hvl6, hchs6, hb6⟩
      case measure => simp only [intOf]; omega
    · have e : m = x := by omega
      subst e
      have hgm : ¬ m < m := Nat.lt_irrefl _
      have cA := cN.out wr G hbr (hchs.out.told hrow hcrl.out)
      clear cN hcell hcelb hcrl hchs hrow hvl hsl
      go_wp2_with (go_at_call 53; refine Calls.mono cA ?_; rintro e w5 ⟨g, n, rfl, hnR0, hn9, hg, hr, hb5⟩; have hnR : Hid (n = R.length) := hnR0; clear cA hnR0)
      go_ret2
      exact ⟨g, n, rfl, hnR.out, hn9, Nat.le_trans hbr.size hg, hr, hbr.trans (hb5.mono hbr.size)⟩
theorem shW_rngC (ds : List Nat) (bs : List Int) (xs : List Nat) : Rng (shW ds bs xs) := Rng_of_P (mk_lt _ _)
set_option maxHeartbeats 1000000 in
theorem seal_Shift (w : World) (v v1 v2 : Value) (zs bs : List Int) (xs : List Nat) (h : IsZ w v zs) (h1 : IsU w v1 xs) (h2 : IsZ w v2 bs) (_hTb : Tab w) :
    Calls Tryd.prog 11 #[v, v1, v2] w fun e w' => ∃ u, e = .returned (.tuple #[u, .int .i64 (siE zs xs.length bs.length)]) ∧ IsU w' u (siL zs xs bs) ∧ Below w.heap.size w w' := by
  have cK := seal_checkArray w v v1 zs xs h h1
  by_cases hE : slE zs xs.length = 0
  · obtain ⟨ds, hG, hn, hl, hd, hsp⟩ := slE_zero hE
    by_cases hb : bs.length = zs.length
    · obtain ⟨-, q2, -, -, q5⟩ := sl_ok hsp xs bs 0 (by rw [hd]; exact hl) hb
      rw [q2, q5, hd]
      refine (seal_Shift_ok w v v1 v2 zs bs ds xs h h1 h2 hG hn hl hb).mono ?_
      rintro e w' ⟨g, n, rfl, hnR, hn9, hg, hr, hb⟩
      exact ⟨_, rfl, hr.isUN (shW_rngC ds bs xs) (by omega) hnR.symm, hb⟩
    · obtain ⟨-, q2, -, -, q5⟩ := sl_arg hsp xs bs 0 (by rw [hd]; exact hl) hb
      rw [q2, q5]
      rw [hE] at cK
      obtain ⟨a, cap, rfl, -, hm1, -⟩ := h
      obtain ⟨a1, cap1, rfl, -⟩ := h1
      obtain ⟨a2, cap2, rfl, -⟩ := h2
      have hq : ((bs.length : Int) == (zs.length : Int)) = false := by rw [beq_eq_false_iff_ne]; omega
      have hne : ¬ bs.length = zs.length := hb
      clear hG hn hl hd hsp q2 q5 hE hm1 hb
      generalize bs.length = bl at *
      generalize zs.length = zl at *
      go_enter Tryd.func11, Tryd.ntmps11
      go_wp2_with (go_at_call 55; refine Calls.mono cK ?_; rintro e w' ⟨rfl, hw⟩; rw [hw]; clear hw cK)
      go_ret2
      exact ⟨_, rfl, IsU.nil _, Below.refl _ _⟩
  · have hsi : siE zs xs.length bs.length = slE zs xs.length := by unfold siE; rw [if_neg hE]
    have hsl : siL zs xs bs = [] := by unfold siL; rw [hsi, if_neg hE]
    rw [hsi, hsl]
    have hq : (slE zs xs.length == 0) = false := by rw [beq_eq_false_iff_ne]; exact hE
    obtain ⟨a, cap, rfl, -⟩ := h
    obtain ⟨a1, cap1, rfl, -⟩ := h1
    obtain ⟨a2, cap2, rfl, -⟩ := h2
    clear hsi hsl hE
    generalize slE zs xs.length = E at *
    go_enter Tryd.func11, Tryd.ntmps11
    go_wp2_with (go_at_call 55; refine Calls.mono cK ?_; rintro e w' ⟨rfl, hw⟩; rw [hw]; clear hw cK)
    go_ret2
    exact ⟨_, rfl, IsU.nil _, Below.refl _ _⟩

end Go.Proofs.YtgkepflnnoociagDoor
