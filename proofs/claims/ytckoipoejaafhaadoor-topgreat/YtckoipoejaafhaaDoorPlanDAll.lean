/-
  Texts that stood one behind the other, as one.
-/
import Derived.Test.YtckoipoejaafhaaDoorPlanMAll
import Derived.Test.YtckoipoejaafhaaDoorManyGAll
import Derived.BigQuiet
import Derived.Deep.RegionWith
import Derived.Deep.Cut
namespace Go.Proofs.YtckoipoejaafhaaDoor
open Go.RowKit
set_option maxRecDepth 100000 in
set_option maxHeartbeats 8000000 in
theorem plan_Check_all (w : World) (v vl : Value) (zs : List Int) (ds : List Nat) (L : List (List (List Int))) (h : IsZ w v zs) (hG : Good zs ds) (hn : prd2 ds ≤ 1024) (hP : IsP 3 w vl L) :
    Calls Tryd.prog 76 #[v, vl] w fun e w' => ((e = .returned (.int .i64 5) ∧ ¬ Fine ds L) ∨ (e = .returned (.int .i64 2) ∧ Fine ds L ∧ BigP L L.length) ∨ (e = .returned (.int .i64 0) ∧ Fine ds L ∧ ¬ BigP L L.length)) ∧ Below w.heap.size w w' := by
  have hS : Shp ds := hG.2.2.2
  have h0 := h
  have cS := many_Check_okW w v zs ds h hG hn
  obtain ⟨a, cap, rfl, -, -, hcell, -⟩ := h
  obtain ⟨al, cl, rfl, hL1, hL2, hph⟩ := hP
  have hL9 : L.length ≤ 9223372036854775807 := by unfold maxLen at hL2; omega
  have hlen : zs.length = ds.length := by rw [hG.2.2.1, List.length_map]
  have h3 : ds.length ≤ 3 := by rw [← hlen]; exact hG.2.1
  have hcz : Hid (∀ x, x < ds.length → ∃ b off, a = some ⟨b, off, none⟩ ∧ ∀ W, Below w.heap.size w W → W.cell? ⟨b, off + x, none⟩ = some (.int .i64 ((sz ds x : Nat) : Int))) := fun x hx => by
    obtain ⟨b, off, rfl, hc0⟩ := hcell x (by omega)
    rw [(Good_get hG x (by omega)).1] at hc0
    exact ⟨b, off, rfl, fun W hb => (hb.cell (block_lt hc0)).trans hc0⟩
  have hln : Hid (∀ x, x < ds.length → prd2 ds / sz ds x = nln ds x ∧ 0 < sz ds x ∧ nln ds x ≤ 1024) := fun x hx => by
    have e := nln_div hS x hx
    exact ⟨e, P2_pos (hS.at x hx), by rw [← e]; exact Nat.le_trans (Nat.div_le_self _ _) hn⟩
  rw [hlen] at h0 cS ⊢
  obtain ⟨n, hnn⟩ : ∃ n, n = prd2 ds := ⟨_, rfl⟩
  rw [← hnn] at cS hn
  have hnn' : Hid (n = prd2 ds) := hnn
  clear hnn hG hcell hS hlen hL1 hL2
  by_cases hLd : L.length = ds.length
  · have hph' : Hid (∀ x, x < ds.length → ∃ b off u, al = some ⟨b, off, none⟩ ∧ w.cell? ⟨b, off + x, none⟩ = some u ∧ IsR 3 w u (L.getD x [])) := fun x hx => hph x (by omega)
    have hLd' : Hid (L.length = ds.length) := hLd
    rw [hLd]
    clear hph hLd hL9
    go_enter Tryd.func76, Tryd.ntmps76
    go_wp2_with (go_at_call 39; refine Calls.mono cS ?_; rintro e w' ⟨rfl, hw⟩; rw [hw]; clear hw)
    clear cS
    go_loopw [26] (fun vi wr => ∃ (x : Nat), x ≤ ds.length ∧ vi = .int .i64 (x : Int) ∧ Hid (∀ y, y < x → RgtP (nln ds y) y (L.getD y [])) ∧ Below w.heap.size w wr)
      (fun vi _ => ds.length - (intOf vi).toNat)
    case atStart => exact ⟨0, Nat.zero_le _, rfl, fun y hy => by omega, Below.refl _ _⟩
    case round =>
      obtain ⟨x, hx, rfl, hrt, hnx⟩ := hrel
      by_cases hlt : x < ds.length
      · obtain ⟨b, off, rfl, hcx⟩ := hcz.out x hlt
        have hcx1 := hcx wr hnx
        obtain ⟨bl, ol, ul, rfl, hcu, hR⟩ := hph'.out x hlt
        have hcu1 := (hnx.cell (block_lt hcu)).trans hcu
        obtain ⟨e1, hd0, hl9⟩ := hln.out x hlt
        have hnx' := hnn'.out
        obtain ⟨d, hd⟩ : ∃ d, d = sz ds x := ⟨_, rfl⟩
        obtain ⟨m, hm⟩ : ∃ m, m = nln ds x := ⟨_, rfl⟩
        have hq : Int.tdiv (n : Int) (d : Int) = (m : Int) := by rw [hm, hd, hnx', ← e1]; rfl
        rw [← hd] at hcx1 hd0
        rw [← hm] at hl9
        have hd0' : ¬ (d : Int) = 0 := by omega
        have hqw : IntKind.i64.wrap (m : Int) = (m : Int) := by rw [IntKind.wrap_i64]; omega
        have hm' : Hid (m = nln ds x) := hm
        have cC := plan_coversAxis wr ul (L.getD x []) x m (hR.below hnx) hl9
        clear hd hm e1 hnx' hcx hcu hR
        by_cases hRg : RgtP m x (L.getD x [])
        · have hrt2 : Hid (∀ y, y < x + 1 → RgtP (nln ds y) y (L.getD y [])) := fun y hy => by
            rcases Nat.lt_or_ge y x with q | q
            · exact hrt.out y q
            · rw [show y = x by omega, ← hm'.out]; exact hRg
          have cC2 : Calls Tryd.prog 108 #[ul, .int .i64 (x : Int), .int .i64 (m : Int)] wr fun e w' => e = .returned (.bool true) ∧ Below wr.heap.size wr w' := cC.mono (by
            rintro e w' ⟨b, rfl, hiff, hb⟩
            rw [hiff.mpr hRg]
            exact ⟨rfl, hb⟩)
          clear cC hRg hrt
          go_wp2_with (go_at_call 108; refine Calls.mono cC2 ?_; rintro e w2 ⟨rfl, hb2⟩; clear cC2)
          have hnx2 := hnx.trans (hb2.mono hnx.size)
          clear hnx hb2 hcx1 hcu1 hq hqw
          go_roundw
          case rel => exact ⟨x + 1, by omega, by go_num, hrt2, hnx2⟩
          case measure => simp only [intOf]; omega
        · have hno : Hid (¬ Fine ds L) := fun hF => hRg (by rw [hm'.out]; exact hF.2 x hlt)
          have cC2 : Calls Tryd.prog 108 #[ul, .int .i64 (x : Int), .int .i64 (m : Int)] wr fun e w' => e = .returned (.bool false) ∧ Below wr.heap.size wr w' := cC.mono (by
            rintro e w' ⟨b, rfl, hiff, hb⟩
            cases b
            · exact ⟨rfl, hb⟩
            · exact absurd (hiff.mp rfl) hRg)
          clear cC hRg hrt
          go_wp2_with (go_at_call 108; refine Calls.mono cC2 ?_; rintro e w2 ⟨rfl, hb2⟩; clear cC2)
          go_ret
          exact ⟨.inl ⟨rfl, hno.out⟩, hnx.trans (hb2.mono hnx.size)⟩
      · have e : ds.length = x := by omega
        have hge : ds.length ≤ x := by omega
        rw [← e] at hrt
        have hFine : Hid (Fine ds L) := ⟨hLd'.out, hrt.out⟩
        clear e hrt hcz hln
        go_wp2
        clear hge hx
        go_loopw [44] (fun vi wi => ∃ (y : Nat), y ≤ ds.length ∧ vi = .int .i64 (y : Int) ∧ Hid (∀ z, z < y → (L.getD z []).length ≤ 64) ∧ Below w.heap.size w wi)
          (fun vi _ => ds.length - (intOf vi).toNat)
        case atStart => exact ⟨0, Nat.zero_le _, rfl, fun z hz => by omega, hnx⟩
        case round =>
          clear hnx
          obtain ⟨y, hy, rfl, hsm, hnx⟩ := hrel
          by_cases hlt : y < ds.length
          · obtain ⟨bl, ol, ul, rfl, hcu, hR⟩ := hph'.out y hlt
            have hcu1 := (hnx.cell (block_lt hcu)).trans hcu
            obtain ⟨au, cu, rfl, hu1, hu2, -⟩ := hR
            have hu9 : (L.getD y []).length ≤ 9223372036854775807 := by unfold maxLen at hu2; omega
            clear hcu hu1 hu2
            by_cases h64 : (L.getD y []).length ≤ 64
            · have hsm2 : Hid (∀ z, z < y + 1 → (L.getD z []).length ≤ 64) := fun z hz => by
                rcases Nat.lt_or_ge z y with q | q
                · exact hsm.out z q
                · rw [show z = y by omega]; exact h64
              clear hsm
              generalize (L.getD y []).length = k at *
              go_wp2
              go_roundw
              case rel => exact ⟨y + 1, by omega, by go_num, hsm2, hnx⟩
              case measure => simp only [intOf]; omega
            · have hbig : Hid (BigP L ds.length) := ⟨y, hlt, by omega⟩
              have h65 : 64 < (L.getD y []).length := by omega
              clear hsm h64
              generalize (L.getD y []).length = k at *
              go_wp2
              go_ret
              exact ⟨.inr (.inl ⟨rfl, hFine.out, hbig.out⟩), hnx⟩
          · have e : ds.length = y := by omega
            have hge : ds.length ≤ y := by omega
            rw [← e] at hsm
            have hnb : Hid (¬ BigP L ds.length) := fun ⟨z, hz, hb⟩ => by have := hsm.out z hz; omega
            clear e hsm
            go_wp2
            go_ret
            exact ⟨.inr (.inr ⟨rfl, hFine.out, hnb.out⟩), hnx⟩
  · have hno : Hid (¬ Fine ds L) := fun hF => hLd hF.1
    have hne : ((L.length : Int) != (ds.length : Int)) = true := by rw [bne_iff_ne]; omega
    clear hph hcz hln
    go_enter Tryd.func76, Tryd.ntmps76
    go_wp2_with (go_at_call 39; refine Calls.mono cS ?_; rintro e w' ⟨rfl, hw⟩; rw [hw]; clear hw)
    go_ret
    exact ⟨.inl ⟨rfl, hno.out⟩, Below.refl _ _⟩
def tv (n : Nat) (g : Nat → Int) : List Value := (List.range n).map fun p => .int .i64 (g p)
theorem tv_length (n : Nat) (g : Nat → Int) : (tv n g).length = n := by simp [tv]
theorem tv_get (n : Nat) (g : Nat → Int) (i : Nat) (h : i < n) : (tv n g)[i]? = some (.int .i64 (g i)) := by simp [tv, h]
theorem tv_congr {n : Nat} {g h : Nat → Int} (e : ∀ i, i < n → g i = h i) : tv n g = tv n h := by
  unfold tv
  exact List.map_congr_left fun i hi => by rw [e i (List.mem_range.mp hi)]
theorem tv_set (n : Nat) (g : Nat → Int) (j : Nat) (v : Int) : (tv n g).set j (.int .i64 v) = tv n (fun p => if p = j then v else g p) := by
  apply List.ext_getElem
  · rw [List.length_set, tv_length, tv_length]
  · intro i h1 h2
    rw [List.getElem_set]
    by_cases e : j = i
    · rw [if_pos e]; simp [tv, e]
    · rw [if_neg e]; simp [tv, Ne.symm e]
theorem made_task (n : Nat) : (madeCells (Value.agg #[.int .i64 0, .int .i64 0, .int .i64 0]).cells (n * 3)).toList = tv (n * 3) (fun _ => 0) := by
  unfold madeCells tv
  rw [Array.toList_map, Array.toList_range]
  refine List.map_congr_left fun p _ => ?_
  show (#[Value.int .i64 0, .int .i64 0, .int .i64 0] : Array Value)[p % 3]! = _
  have : p % 3 = 0 ∨ p % 3 = 1 ∨ p % 3 = 2 := by omega
  rcases this with e | e | e <;> rw [e] <;> rfl
def fT (x c n p : Nat) : Int := if p % 3 = 0 then (x : Int) else if p % 3 = 1 then ((p / 3 * c : Nat) : Int) else ((min (p / 3 * c + c) n : Nat) : Int)
def gT (x c n k p : Nat) : Int := if p < k * 3 then fT x c n p else 0
theorem gT_step (x c n N i : Nat) : (((tv N (gT x c n i)).set (i * 3) (.int .i64 (x : Int))).set (i * 3 + 1) (.int .i64 ((i * c : Nat) : Int))).set (i * 3 + 2) (.int .i64 ((min (i * c + c) n : Nat) : Int)) = tv N (gT x c n (i + 1)) := by
  rw [tv_set, tv_set, tv_set]
  refine tv_congr fun p _ => ?_
  unfold gT
  by_cases h2 : p = i * 3 + 2
  · rw [if_pos h2, if_pos (by omega)]
    unfold fT
    rw [if_neg (by omega), if_neg (by omega), show p / 3 = i by omega]
  · rw [if_neg h2]
    by_cases h1 : p = i * 3 + 1
    · rw [if_pos h1, if_pos (by omega)]
      unfold fT
      rw [if_neg (by omega), if_pos (by omega), show p / 3 = i by omega]
    · rw [if_neg h1]
      by_cases h0 : p = i * 3
      · rw [if_pos h0, if_pos (by omega)]
        unfold fT
        rw [if_pos (by omega)]
      · rw [if_neg h0]
        by_cases h3 : p < i * 3
        · rw [if_pos h3, if_pos (by omega)]
        · rw [if_neg h3, if_neg (by omega)]
theorem chn_task (x c n i : Nat) (hn : 0 < n) (hc : 1 ≤ c) (hi : i ≤ (n - 1) / c) : (chn x c n).getD i [] = [(x : Int), ((i * c : Nat) : Int), ((min (i * c + c) n : Nat) : Int)] := by
  have h1 : (n - 1) / c * c ≤ n - 1 := Nat.div_mul_le_self _ _
  have h2 : n - 1 < ((n - 1) / c + 1) * c := by rw [Nat.mul_comm]; exact Nat.lt_mul_div_succ _ (by omega)
  rw [chn_at x c n ((n - 1) / c) (by omega) (by omega)]
  rcases Nat.lt_or_ge i ((n - 1) / c) with q | q
  · have h3 : (i + 1) * c ≤ (n - 1) / c * c := Nat.mul_le_mul_right _ q
    have h4 : (i + 1) * c = i * c + c := by rw [Nat.add_mul, Nat.one_mul]
    rw [List.getD, List.getElem?_append_left (by rw [ful_length]; exact q)]
    simp only [ful, List.getElem?_map, List.getElem?_range q, Option.map_some, Option.getD_some]
    rw [h4, Nat.min_eq_left (by omega)]
  · have e : i = (n - 1) / c := by omega
    rw [← e] at h1 h2 ⊢
    have h4 : (i + 1) * c = i * c + c := by rw [Nat.add_mul, Nat.one_mul]
    rw [List.getD, List.getElem?_append_right (by rw [ful_length]; exact Nat.le_refl _), ful_length, Nat.sub_self, Nat.min_eq_right (by omega)]; rfl
theorem chn_len (x c n : Nat) (hn : 0 < n) : (chn x c n).length = (n - 1) / c + 1 := by
  unfold chn
  rw [if_neg (by omega), List.length_append, ful_length]; rfl
theorem chn_T3 (x c n : Nat) (hx : x ≤ 1024) (hn : 0 < n) (h9 : n ≤ 1024) : T3 (chn x c n) := by
  have h1 : (n - 1) / c * c ≤ n - 1 := Nat.div_mul_le_self _ _
  unfold chn
  rw [if_neg (by omega)]
  exact (ful_T3 x c _ n hx (by omega) h9).append (T3.one (by omega) (by omega) (by omega))
theorem isR_of_row {w : World} {g : Nat} {x c n : Nat} (hx : x ≤ 1024) (hn : 0 < n) (hc : 1 ≤ c) (h9 : n ≤ 1024) (h : RowV 71 w g (tv (((n - 1) / c + 1) * 3) (gT x c n ((n - 1) / c + 1)))) :
    IsR 3 w (.slice (some ⟨g, 0, none⟩) ((n - 1) / c + 1) ((n - 1) / c + 1)) (chn x c n) := by
  have hl := chn_len x c n hn
  have hq : (n - 1) / c ≤ n - 1 := Nat.div_le_self _ _
  refine ⟨some ⟨g, 0, none⟩, (n - 1) / c + 1, by rw [hl], by omega, by unfold maxLen; omega, fun i hi => ⟨g, 0, rfl, fun j hj => ?_⟩, chn_T3 x c n hx hn h9⟩
  rw [Nat.zero_add, h.cell, tv_get _ _ _ (by omega), chn_task x c n i hn hc (by omega)]
  congr 2
  unfold gT fT
  rw [if_pos (by omega), show (i * 3 + j) / 3 = i by omega, show (i * 3 + j) % 3 = j by omega]
  match j, hj with
  | 0, _ => rfl
  | 1, _ => rfl
  | 2, _ => rfl
set_option maxRecDepth 100000 in
set_option maxHeartbeats 4000000 in
theorem plan_cutLines (w : World) (x c n : Nat) (hx : x ≤ 3) (hn : 0 < n) (hn9 : n ≤ 1024) (hc : 1 ≤ c) (hc9 : (c : Int) ≤ 9223372036854775807) :
    Calls Tryd.prog 40 #[.int .i64 (x : Int), .int .i64 (n : Int), .int .i64 (c : Int)] w fun e w' => ∃ g, e = .returned (.slice (some ⟨g, 0, none⟩) (chn x c n).length (chn x c n).length) ∧ w.heap.size ≤ g ∧ g < w'.heap.size ∧ IsR 3 w' (.slice (some ⟨g, 0, none⟩) (chn x c n).length (chn x c n).length) (chn x c n) ∧ Below w.heap.size w w' := by
  have hfin := fun (W : World) (g : Nat) => isR_of_row (w := W) (g := g) (x := x) (c := c) (n := n) (by omega) hn hc hn9
  have hl := chn_len x c n hn
  rw [hl]
  have hq : (n - 1) / c ≤ n - 1 := Nat.div_le_self _ _
  have hqm : (n - 1) / c * c ≤ n - 1 := Nat.div_mul_le_self _ _
  obtain ⟨t, ht⟩ : ∃ t, t = (n - 1) / c := ⟨_, rfl⟩
  have hquo : Int.tdiv ((n : Int) - 1) (c : Int) = (t : Int) := by
    rw [ht, show (n : Int) - 1 = ((n - 1 : Nat) : Int) by omega]; rfl
  have hwq : IntKind.i64.wrap (t : Int) = (t : Int) := by rw [IntKind.wrap_i64]; omega
  have hc0 : ¬ (c : Int) = 0 := by omega
  rw [← ht] at hfin hq hqm ⊢
  have hmul : Hid (∀ i, i ≤ t → i * c ≤ n - 1 ∧ (0 < i → c ≤ n - 1)) := fun i hi => by
    have h1 : i * c ≤ t * c := Nat.mul_le_mul_right _ hi
    refine ⟨by omega, fun h0 => ?_⟩
    have h2 : 1 * c ≤ i * c := Nat.mul_le_mul_right _ h0
    omega
  clear ht hl hqm
  obtain ⟨N, hN⟩ : ∃ N, N = t + 1 := ⟨_, rfl⟩
  have ht9 : N ≤ 1000000000 := by omega
  have ht' : (t : Int) + 1 = (N : Int) := by omega
  have hwN : IntKind.i64.wrap (N : Int) = (N : Int) := by rw [IntKind.wrap_i64]; omega
  rw [← hN] at hfin ⊢
  have hN' : Hid (N = t + 1) := hN
  clear hN
  go_enter Tryd.func40, Tryd.ntmps40
  go_wp2_with (at_make; refine wp_makeV rfl _ _ 69 71 rfl (.agg #[.int .i64 0, .int .i64 0, .int .i64 0]) 3 24 Tryd.underlying69 info_task N _ (made_task N) rfl rfl ht9 (by decide) ?_; intro g w2 hg hrow hb2)
  replace hg : w.heap.size ≤ g := Nat.le_of_eq hg.out.symm
  go_loopw [18] (fun vi wi => ∃ (i : Nat), i ≤ N ∧ vi = .int .i64 (i : Int) ∧ RowV 71 wi g (tv (N * 3) (gT x c n i)) ∧ Below w.heap.size w wi)
    (fun vi _ => N - (intOf vi).toNat)
  case atStart => exact ⟨0, Nat.zero_le _, rfl, hrow.cast (tv_congr fun p _ => by unfold gT; rw [if_neg (by omega)]), hb2⟩
  case round =>
    clear hrow hb2
    obtain ⟨i, hi, rfl, hrow, hnx⟩ := hrel
    by_cases hlt : i < N
    · obtain ⟨hm1, hm2⟩ := hmul.out i (by have := hN'.out; omega)
      obtain ⟨F, hF⟩ : ∃ F, F = i * c := ⟨_, rfl⟩
      have hFm : (i : Int) * (c : Int) = (F : Int) := by rw [hF, Int.natCast_mul]
      have hstep := gT_step x c n (N * 3) i
      rw [← hF] at hm1 hstep
      obtain ⟨M, hM⟩ : ∃ M, M = min (F + c) n := ⟨_, rfl⟩
      have hFc : F + c ≤ 9223372036854775807 := by
        rcases Nat.eq_zero_or_pos i with e | e
        · rw [hF, e, Nat.zero_mul]; omega
        · have := hm2 e; omega
      have hMm : min ((F : Int) + (c : Int)) (n : Int) = (M : Int) := by rw [hM]; omega
      rw [← hM] at hstep
      have hif : Hid ((if (n : Int) < (F : Int) + (c : Int) then (n : Int) else (F : Int) + (c : Int)) = (M : Int)) := by
        show _ = _
        split <;> omega
      have hset := ((hrow.set (i * 3) (.int .i64 (x : Int))).set (i * 3 + 1) (.int .i64 (F : Int))).set (i * 3 + 2) (.int .i64 (M : Int))
      rw [hstep] at hset
      have hB3 : Below w.heap.size w (((wr.setCell ⟨g, i * 3, none⟩ (.int .i64 (x : Int))).setCell ⟨g, i * 3 + 1, none⟩ (.int .i64 (F : Int))).setCell ⟨g, i * 3 + 2, none⟩ (.int .i64 (M : Int))) := ((hnx.setCell (p := ⟨g, i * 3, none⟩) hg _).setCell (p := ⟨g, i * 3 + 1, none⟩) hg _).setCell (p := ⟨g, i * 3 + 2, none⟩) hg _
      have q0 := hrow.cell (i * 3)
      rw [tv_get _ _ _ (by omega)] at q0
      have q1 := hrow.cell (i * 3 + 1)
      rw [tv_get _ _ _ (by omega)] at q1
      have q2 := hrow.cell (i * 3 + 2)
      rw [tv_get _ _ _ (by omega)] at q2
      have f0 := hrow.frozen (i * 3)
      have f1 := hrow.frozen (i * 3 + 1)
      have f2 := hrow.frozen (i * 3 + 2)
      generalize gT x c n i (i * 3) = o0 at *
      generalize gT x c n i (i * 3 + 1) = o1 at *
      generalize gT x c n i (i * 3 + 2) = o2 at *
      clear hm2 hF hM hMm hrow hnx hstep hfin
      go_wp2
      first | rw [hif.out] | rw [show min ((F : Int) + (c : Int)) (n : Int) = (M : Int) from (by have q := hif.out; rw [← q]; split <;> omega)]
      go_roundw
      case rel => exact ⟨i + 1, by omega, by go_num, hset, hB3⟩
      case measure => simp only [intOf]; omega
    · have e : N = i := by omega
      subst e
      have hR := hfin wr g hrow
      have hge : N ≤ N := Nat.le_refl _
      have hgl := hrow.lt
      clear hrow hfin hmul
      go_wp2
      go_ret
      exact ⟨g, rfl, hg, hgl, hR, hnx⟩
theorem made_phase (n : Nat) : (madeCells (Value.slice none 0 0).cells (n * 1)).toList = List.replicate n (Value.slice none 0 0) := by
  rw [show (Value.slice none 0 0).cells = #[Value.slice none 0 0] from rfl, Nat.mul_one, toList_madeCells_one]
def PhI (w : World) (G : Nat) (vs : List Value) (P : Nat → List (List Int)) (i : Nat) : Prop := ∀ j, j < i → ∃ u, vs[j]? = some u ∧ IsR 3 w u (P j) ∧ ∀ b off s l c, u = .slice (some ⟨b, off, s⟩) l c → b ≠ G
theorem IsR.keep {k : Nat} {w w' : World} {v : Value} {L : List (List Int)} {G : Nat} (h : IsR k w v L) (hk : 0 < k) (hne : ∀ b off s l c, v = .slice (some ⟨b, off, s⟩) l c → b ≠ G) (hb : ∀ b, b < w.heap.size → b ≠ G → w'.heap[b]? = w.heap[b]?) : IsR k w' v L := by
  obtain ⟨a, cap, rfl, h1, h2, hc, hr⟩ := h
  refine ⟨a, cap, rfl, h1, h2, fun i hi => ?_, hr⟩
  obtain ⟨b, off, rfl, hcell⟩ := hc i hi
  refine ⟨b, off, rfl, fun j hj => ?_⟩
  have hlt : b < w.heap.size := block_lt (hcell 0 hk)
  exact (World.cell?_of_block (w := w) (hb b hlt (hne b off none _ _ rfl))).trans (hcell j hj)
theorem PhI.step {w w' : World} {G : Nat} {vs : List Value} {P : Nat → List (List Int)} {i : Nat} {u : Value} (h : PhI w G vs P i) (hi : i < vs.length) (hb : ∀ b, b < w.heap.size → b ≠ G → w'.heap[b]? = w.heap[b]?) (hu : IsR 3 w' u (P i)) (hne : ∀ b off s l c, u = .slice (some ⟨b, off, s⟩) l c → b ≠ G) : PhI w' G (vs.set i u) P (i + 1) := fun j hj => by
  by_cases e : j = i
  · subst e
    exact ⟨u, by rw [List.getElem?_set_self hi], hu, hne⟩
  · obtain ⟨u', h1, h2, h3⟩ := h j (by omega)
    exact ⟨u', by rw [List.getElem?_set_ne (Ne.symm e)]; exact h1, h2.keep (by decide) h3 hb, h3⟩
theorem IsP_of_phI {w : World} {G n : Nat} {vs : List Value} {L : List (List (List Int))} (hrow : RowV 69 w G vs) (hn : n ≤ 1000000) (hl : L.length = n) (h : PhI w G vs (fun j => L.getD j []) n) : IsP 3 w (.slice (some ⟨G, 0, none⟩) n n) L := by
  subst hl
  refine ⟨some ⟨G, 0, none⟩, _, rfl, Nat.le_refl _, by unfold maxLen; omega, fun i hi => ?_⟩
  obtain ⟨u, h1, h2, _⟩ := h i hi
  exact ⟨G, 0, u, rfl, by rw [Nat.zero_add, hrow.cell, h1], h2⟩
set_option maxRecDepth 100000 in
set_option maxHeartbeats 8000000 in
theorem plan_Make_both (w : World) (v : Value) (zs : List Int) (ds : List Nat) (c : Nat) (h : IsZ w v zs) (hG : Good zs ds) (hn : prd2 ds ≤ 1024) (hc : 1 ≤ c) (hc9 : (c : Int) ≤ 9223372036854775807) :
    Calls Tryd.prog 17 #[v, .int .i64 (c : Int)] w fun e w' => ((∃ u, e = .returned (.tuple #[u, .int .i64 0]) ∧ IsP 3 w' u (pls ds c ds.length) ∧ Few ds c ds.length) ∨ (e = .returned (.tuple #[.slice none 0 0, .int .i64 2]) ∧ ¬ Few ds c ds.length)) ∧ Below w.heap.size w w' := by
  have hS : Shp ds := hG.2.2.2
  have cS := many_Check_okW w v zs ds h hG hn
  obtain ⟨a, cap, rfl, -, -, hcell, -⟩ := h
  have hlen : zs.length = ds.length := by rw [hG.2.2.1, List.length_map]
  have h3 : ds.length ≤ 3 := by rw [← hlen]; exact hG.2.1
  have hcz : Hid (∀ x, x < ds.length → ∃ b off, a = some ⟨b, off, none⟩ ∧ ∀ W, Below w.heap.size w W → W.cell? ⟨b, off + x, none⟩ = some (.int .i64 ((sz ds x : Nat) : Int))) := fun x hx => by
    obtain ⟨b, off, rfl, hc0⟩ := hcell x (by omega)
    rw [(Good_get hG x (by omega)).1] at hc0
    exact ⟨b, off, rfl, fun W hb => (hb.cell (block_lt hc0)).trans hc0⟩
  have hln : Hid (∀ x, x < ds.length → prd2 ds / sz ds x = nln ds x ∧ 0 < sz ds x ∧ nln ds x ≤ 1024 ∧ 0 < nln ds x) := fun x hx => by
    have e := nln_div hS x hx
    have hd := P2_pos (hS.at x hx)
    refine ⟨e, hd, by rw [← e]; exact Nat.le_trans (Nat.div_le_self _ _) hn, ?_⟩
    unfold nln
    exact Nat.mul_pos (beh_pos hS _) (prd2_pos fun d hd => hS.pos d (List.mem_of_mem_take hd))
  have hpl : Hid (∀ x, x < ds.length → (pls ds c ds.length).getD x [] = chn x c (nln ds x)) := fun x hx => pls_get ds c _ x hx
  have hPl : Hid ((pls ds c ds.length).length = ds.length) := pls_length _ _ _
  rw [hlen] at cS ⊢
  obtain ⟨n, hnn⟩ : ∃ n, n = prd2 ds := ⟨_, rfl⟩
  rw [← hnn] at cS hn
  have hnn' : Hid (n = prd2 ds) := hnn
  clear hnn hG hcell hS hlen
  have hd9 : ds.length ≤ 1000000000 := by omega
  go_enter Tryd.func17, Tryd.ntmps17
  go_wp2_with (first
    | (go_at_call 39; refine Calls.mono cS ?_; rintro e w' ⟨rfl, hw⟩; rw [hw]; clear hw cS)
    | (at_make; refine wp_makeV rfl _ _ 24 69 rfl (.slice none 0 0) 1 24 Tryd.underlying24 info_phase ds.length _ (made_phase ds.length) rfl rfl hd9 (by decide) ?_; intro G w2 hG hrow hb2))
  replace hG : w.heap.size ≤ G := Nat.le_of_eq hG.out.symm
  go_loopw [26] (fun vi wi => ∃ (x : Nat) (vs : List Value), x ≤ ds.length ∧ vi = .int .i64 (x : Int) ∧ RowV 69 wi G vs ∧ Hid (vs.length = ds.length) ∧ Hid (PhI wi G vs (fun j => (pls ds c ds.length).getD j []) x) ∧ Hid (Few ds c x) ∧ Below w.heap.size w wi)
    (fun vi _ => ds.length - (intOf vi).toNat)
  case atStart => exact ⟨0, _, Nat.zero_le _, rfl, hrow, List.length_replicate, fun j hj => by omega, fun y hy => by omega, hb2⟩
  case round =>
    clear hrow hb2
    obtain ⟨x, vs, hx, rfl, hrow, hvl, hph, hfw, hnx⟩ := hrel
    by_cases hlt : x < ds.length
    · obtain ⟨b, off, rfl, hcx⟩ := hcz.out x hlt
      have hcx1 := hcx wr hnx
      obtain ⟨e1, hd0, hl9, hl0⟩ := hln.out x hlt
      have hnx' := hnn'.out
      obtain ⟨d, hd⟩ : ∃ d, d = sz ds x := ⟨_, rfl⟩
      obtain ⟨m, hm⟩ : ∃ m, m = nln ds x := ⟨_, rfl⟩
      have hq : Int.tdiv (n : Int) (d : Int) = (m : Int) := by rw [hm, hd, hnx', ← e1]; rfl
      rw [← hd] at hcx1 hd0
      rw [← hm] at hl9 hl0
      have hd0' : ¬ (d : Int) = 0 := by omega
      have hqw : IntKind.i64.wrap (m : Int) = (m : Int) := by rw [IntKind.wrap_i64]; omega
      have hpx : Hid ((pls ds c ds.length).getD x [] = chn x c m) := by show _ = _; rw [hpl.out x hlt, hm]
      have hchx : Hid (chn x c m = chn x c (nln ds x)) := by show _ = _; rw [hm]
      have cL := plan_cutLines wr x c m (by omega) hl0 hl9 hc hc9
      have hold : ∃ old, vs[x]? = some old := ⟨vs[x]'(by rw [hvl.out]; exact hlt), List.getElem?_eq_getElem _⟩
      obtain ⟨old, hold⟩ := hold
      have hlc : (chn x c m).length ≤ 1024 := Nat.le_trans (chn_few x c m) hl9
      clear hd hm e1 hnx' hcx
      generalize hch : chn x c m = ch at *
      clear hch
      generalize hck : ch.length = k at *
      by_cases h64 : k ≤ 64
      · go_wp2_with (go_at_call 40; refine Calls.mono cL ?_; rintro e w3 ⟨g, rfl, hg, hgl, hR, hb3⟩; clear cL; have hrow3 := hrow.below hb3; have hcG := hrow3.cell x; rw [hold] at hcG; have hfG := hrow3.frozen x; have hrowN := hrow3.set x (.slice (some ⟨g, 0, none⟩) k k); have hcN := hrowN.cell x; rw [List.getElem?_set_self (by rw [hvl.out]; exact hlt)] at hcN)
        have hgG : g ≠ G := by have := hrow.lt; omega
        have hfw2 : Hid (Few ds c (x + 1)) := fun y hy => by
          rcases Nat.lt_or_ge y x with q | q
          · exact hfw.out y q
          · rw [show y = x by omega, ← hchx.out, hck]; exact h64
        have hbar := (Bar.refl G w3).setCell x (.slice (some ⟨g, 0, none⟩) k k)
        have hne : ∀ b off s l c, Value.slice (some ⟨g, 0, none⟩) k k = .slice (some ⟨b, off, s⟩) l c → b ≠ G := fun b off s l c e => by
          simp only [Value.slice.injEq, Option.some.injEq, Addr.mk.injEq] at e
          omega
        have hph2 : Hid (PhI (w3.setCell ⟨G, x, none⟩ (.slice (some ⟨g, 0, none⟩) k k)) G (vs.set x (.slice (some ⟨g, 0, none⟩) k k)) (fun j => (pls ds c ds.length).getD j []) (x + 1)) := PhI.step hph.out (by rw [hvl.out]; exact hlt) (fun b hb hbG => (hbar.block b (Nat.lt_of_lt_of_le hb hb3.size) hbG).trans (hb3.block b hb)) (by
          rw [hpx.out]
          exact hR.keep (by decide) hne (fun b hb hbG => hbar.block b hb hbG)) hne
        have hvl2 : Hid ((vs.set x (.slice (some ⟨g, 0, none⟩) k k)).length = ds.length) := by show _ = _; rw [List.length_set]; exact hvl.out
        have hnx2 : Below w.heap.size w (w3.setCell ⟨G, x, none⟩ (.slice (some ⟨g, 0, none⟩) k k)) := (hnx.trans (hb3.mono hnx.size)).setCell (p := ⟨G, x, none⟩) hG _
        go_roundw
        case rel => exact ⟨x + 1, _, by omega, by go_num, hrowN, hvl2, hph2, hfw2, hnx2⟩
        case measure => simp only [intOf]; omega
      · have h65 : 64 < k := by omega
        clear h64
        go_wp2_with (go_at_call 40; refine Calls.mono cL ?_; rintro e w3 ⟨g, rfl, hg, hgl, hR, hb3⟩; clear cL; have hrow3 := hrow.below hb3; have hcG := hrow3.cell x; rw [hold] at hcG; have hfG := hrow3.frozen x; have hrowN := hrow3.set x (.slice (some ⟨g, 0, none⟩) k k); have hcN := hrowN.cell x; rw [List.getElem?_set_self (by rw [hvl.out]; exact hlt)] at hcN)
        have hno : ¬ Few ds c ds.length := fun hF => by
          have := hF x hlt
          rw [← hchx.out, hck] at this
          omega
        have hnx2 : Below w.heap.size w (w3.setCell ⟨G, x, none⟩ (.slice (some ⟨g, 0, none⟩) k k)) := (hnx.trans (hb3.mono hnx.size)).setCell (p := ⟨G, x, none⟩) hG _
        go_ret2
        exact ⟨.inr ⟨rfl, hno⟩, hnx2⟩
    · have e : ds.length = x := by omega
      have hge : ds.length ≤ x := by omega
      rw [← e] at hph hfw
      have hR := IsP_of_phI hrow (by omega) hPl.out hph.out
      clear hrow hph e hcz hln
      go_wp2
      go_ret2
      exact ⟨.inl ⟨_, rfl, hR, hfw.out⟩, hnx⟩
theorem plan_Make_ok (w : World) (v : Value) (zs : List Int) (ds : List Nat) (c : Nat) (h : IsZ w v zs) (hG : Good zs ds) (hn : prd2 ds ≤ 1024) (hc : 1 ≤ c) (hc9 : (c : Int) ≤ 9223372036854775807) (hF : Few ds c ds.length) :
    Calls Tryd.prog 17 #[v, .int .i64 (c : Int)] w fun e w' => ∃ u, e = .returned (.tuple #[u, .int .i64 0]) ∧ IsP 3 w' u (pls ds c ds.length) ∧ Below w.heap.size w w' := by
  refine (plan_Make_both w v zs ds c h hG hn hc hc9).mono ?_
  rintro e w' ⟨⟨u, rfl, hP, _⟩ | ⟨_, hno⟩, hb⟩
  · exact ⟨u, rfl, hP, hb⟩
  · exact absurd hF hno
set_option maxHeartbeats 1000000 in
theorem exec_check (w : World) (v va vl : Value) (zs : List Int) (ds xs : List Nat) (L : List (List (List Int))) (W : Nat) (h : IsZ w v zs) (hU : IsU w va xs) (hP : IsP 3 w vl L) (hG : Good zs ds) (hn : prd2 ds ≤ 1024) (hF : Fine ds L) (hb : ¬ BigP L L.length) (hl : xs.length = prd2 ds) (hW : 1 ≤ W) (hW8 : W ≤ 8) :
    Calls Tryd.prog 36 #[v, va, vl, .int .i64 (W : Int)] w fun e w' => e = .returned (.int .i64 0) ∧ Below w.heap.size w w' := by
  have c1 : Calls Tryd.prog 76 #[v, vl] w fun e w' => e = .returned (.int .i64 0) ∧ Below w.heap.size w w' := (plan_Check_all w v vl zs ds L h hG hn hP).mono fun e w' hh => by
    obtain ⟨⟨_, hno⟩ | ⟨_, _, hbg⟩ | ⟨rfl, _⟩, hb2⟩ := hh
    · exact absurd hF hno
    · exact absurd hbg hb
    · exact ⟨rfl, hb2⟩
  have c2 := fun (W' : World) (hb : Below w.heap.size w W') => many_Check_okW W' v zs ds (h.below hb) hG hn
  obtain ⟨aa, ca, rfl, -⟩ := hU
  rw [hl]
  have hW1 : ¬ (W : Int) < 1 := by omega
  have hW2 : ¬ (8 : Int) < (W : Int) := by omega
  clear h hP hG hF hb hl
  generalize prd2 ds = n at *
  go_enter Tryd.func36, Tryd.ntmps36
  go_wp2_with (first
    | (go_at_call 76; refine Calls.mono c1 ?_; rintro e w1 ⟨rfl, hb1⟩; clear c1)
    | (go_at_call 39; refine Calls.mono (c2 _ hb1) ?_; rintro e w2 ⟨rfl, hw⟩; rw [hw]; clear hw c2))
  go_ret
  exact ⟨rfl, hb1⟩
end Go.Proofs.YtckoipoejaafhaaDoor
