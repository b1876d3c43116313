/-
  Texts that stood one behind the other, as one.
-/
import Derived.Test.YtckoipoejaafhaaDoorManyGAll
import Derived.Test.YtckoipoejaafhaaDoorPlanMAll
import Derived.Test.YtckoipoejaafhaaDoorCeBAll
import Derived.Test.YtckoipoejaafhaaDoorCeBAll
namespace Go.Proofs.YtckoipoejaafhaaDoor
open Go.RowKit
set_option maxRecDepth 100000
theorem Bar.over {g h : Nat} {a b c : World} (p : Bar g a b) (hh : a.heap.size ≤ h) (q : Bar h b c) : Bar g a c :=
  ⟨q.os.trans p.os, q.tape.trans p.tape, q.output.trans p.output, Nat.le_trans p.size q.size, fun k hk hne => (q.block k (Nat.lt_of_lt_of_le hk p.size) (by omega)).trans (p.block k hk hne)⟩
theorem Bar.andThen {g : Nat} {a b c : World} (p : Bar g a b) (q : Below b.heap.size b c) : Bar g a c :=
  ⟨q.os.trans p.os, q.tape.trans p.tape, q.output.trans p.output, Nat.le_trans p.size q.size, fun k hk hne => (q.block k (Nat.lt_of_lt_of_le hk p.size)).trans (p.block k hk hne)⟩
def nmK (xs : List Nat) (k : Nat) : List Nat := tb xs.length fun p => if p < k then fN (xs.getD p 0) else 0
theorem nmK_length (xs : List Nat) (k : Nat) : (nmK xs k).length = xs.length := tb_length _ _
theorem nmK_zero (xs : List Nat) : nmK xs 0 = List.replicate xs.length 0 := by
  have e : nmK xs 0 = tb xs.length (fun _ => 0) := tb_congr fun p _ => if_neg (by omega)
  rw [e]
  unfold tb
  rw [List.map_const', List.length_range]
theorem nmK_set (xs : List Nat) (k : Nat) : (nmK xs k).set k (fN (xs.getD k 0)) = nmK xs (k + 1) := by
  unfold nmK
  rw [tb_set]
  refine tb_congr fun p _ => ?_
  by_cases e : p = k
  · rw [if_pos e, e, if_pos (by omega)]
  · rw [if_neg e]
    by_cases e2 : p < k
    · rw [if_pos e2, if_pos (by omega)]
    · rw [if_neg e2, if_neg (by omega)]
theorem nmK_all (xs : List Nat) : nmK xs xs.length = nmL xs := by
  have e : nmK xs xs.length = tb xs.length (fun p => fN (xs.getD p 0)) := tb_congr fun p hp => if_pos hp
  rw [e, ← nmL_tb, tb_self]
set_option maxRecDepth 100000 in
set_option maxHeartbeats 8000000 in
theorem plan_transformLines (w : World) (v' : Value) (bl ol cl : Nat) (xs ds : List Nat) (x f m : Nat) (back : Bool) (h' : IsU w v' xs) (ht : Tab w) (hS : Shp ds) (hn : prd2 ds ≤ 1024) (hl : xs.length = prd2 ds) (hx : x < ds.length) (hln : f + m ≤ nln ds x)
    (hL : ∀ i, i < m → ∃ u, w.cell? ⟨bl, ol + i, none⟩ = some u ∧ IsI w u (lin ds x (ps (beh ds (x + 1)) (sz ds x) (f + i) 0) (sz ds x))) :
    Calls Tryd.prog 148 #[v', .slice (some ⟨bl, ol, none⟩) m cl, .bool back] w fun e w' => ∃ g, e = .returned (.slice (some ⟨g, 0, none⟩) (prd2 ds) (prd2 ds)) ∧ w.heap.size ≤ g ∧ RowU w' g (trn ds (nmL xs) x f (f + m) back) ∧ Below w.heap.size w w' := by
  have hA := h'
  obtain ⟨a, cap, rfl, hcap, hmax, hc, hrx⟩ := h'
  clear hcap hmax
  have hpos : 0 < prd2 ds := prd2_pos hS.pos
  have hxl : 0 < xs.length := by omega
  have hd0 := P2_pos (hS.at x hx)
  have hu0 := beh_pos hS (x + 1)
  have hnl : nln ds x ≤ 1024 := by rw [← nln_div hS x hx]; exact Nat.le_trans (Nat.div_le_self _ _) hn
  obtain ⟨kk, hkk, hkk10, -⟩ := axW_ord hS hn x hx
  have hd9 := sz_le hS hn x hx
  have hpslt : Hid (∀ i k, i < m → k < sz ds x → ps (beh ds (x + 1)) (sz ds x) (f + i) k < prd2 ds) := fun i k hi hk => by
    rw [prd2_at ds x hx]; exact ps_lt hu0 (show f + i < nln ds x by omega) hk
  have hsets : Hid (∀ i k, k < sz ds x → (trK ds (nmL xs) x f back (f + i) k).set (ps (beh ds (x + 1)) (sz ds x) (f + i) k) (alo ds x back (cf xs) (ps (beh ds (x + 1)) (sz ds x) (f + i) k)).val = trK ds (nmL xs) x f back (f + i) (k + 1)) := fun i k hk => by
    have := trK_set hS (nmL xs) x f back (f + i) k (by omega) hk
    rw [cf_nmL] at this
    exact this
  have hlines : Hid (∀ i, trK ds (nmL xs) x f back (f + i) (sz ds x) = trK ds (nmL xs) x f back (f + (i + 1)) 0) := fun i => trK_line hS (nmL xs) x hx f back (f + i) (by omega)
  have hstart : Hid (nmK xs (prd2 ds) = trK ds (nmL xs) x f back (f + 0) 0) := by
    show _ = _
    rw [← hl, nmK_all, Nat.add_zero, trK_start (by rw [nmL_length, hl])]
  have hall : Hid (trK ds (nmL xs) x f back (f + m) 0 = trn ds (nmL xs) x f (f + m) back) := rfl
  have halo : Hid (∀ i k, k < sz ds x → alo ds x back (cf xs) (ps (beh ds (x + 1)) (sz ds x) (f + i) k) = (if back then bw (lnQ xs (List.replicate (sz ds x) 0) (beh ds (x + 1)) (sz ds x) (f + i) (sz ds x)) kk k else fw (lnQ xs (List.replicate (sz ds x) 0) (beh ds (x + 1)) (sz ds x) (f + i) (sz ds x)) kk k)) := fun i k hk =>
    alo_line hS xs x back (f + i) k kk hk hkk _ (fun t ht => lnQ_get xs _ _ _ (f + i) t ht)
  have hlp : Hid (∀ i t, t < sz ds x → (lin ds x (ps (beh ds (x + 1)) (sz ds x) (f + i) 0) (sz ds x)).getD t 0 = ps (beh ds (x + 1)) (sz ds x) (f + i) t) := fun i t ht => lin_ps ds x (f + i) t ht
  have hpl : Hid (∀ i k, (trK ds (nmL xs) x f back (f + i) k).length = prd2 ds) := fun i k => trK_length ds (nmL xs) x f back (f + i) k
  have hrng : Hid (∀ u d i k, Rng (lnQ xs (List.replicate d 0) u d i k)) := fun u d i k z hz => by
    obtain ⟨p, _, rfl⟩ := List.mem_map.mp hz
    split
    · exact range_getD hrx _
    · exact range_getD (Rng_replicate d) _
  have hkk' : Hid (sz ds x = 2 ^ kk) := hkk
  have hll : Hid (∀ i, (lin ds x (ps (beh ds (x + 1)) (sz ds x) (f + i) 0) (sz ds x)).length = sz ds x) := fun i => lin_length _ _ _ _
  have hL' : Hid (∀ i, i < m → ∃ u, w.cell? ⟨bl, ol + i, none⟩ = some u ∧ IsI w u (lin ds x (ps (beh ds (x + 1)) (sz ds x) (f + i) 0) (sz ds x))) := hL
  have hm9 : m ≤ 1024 := by omega
  generalize trn ds (nmL xs) x f (f + m) back = RL at *
  rw [hl] at hA hxl ⊢
  have hl' : Hid (xs.length = prd2 ds) := hl
  have hrx' : Hid (Rng xs) := hrx
  clear hkk hl hu0 hpos hx hS hL hln hnl hrx
  generalize hde : sz ds x = d at *
  clear hde
  generalize hue : beh ds (x + 1) = u at *
  clear hue
  generalize hNe : prd2 ds = N at *
  clear hNe
  have hn9 : N ≤ 1000000000 := by omega
  have hd10 : d ≤ 1000000000 := by omega
  obtain ⟨R, hR⟩ : ∃ R : Nat → List Nat, ∀ i, R i = mk d (fun t => if back then bw (lnQ xs (List.replicate d 0) u d (f + i) d) kk t else fw (lnQ xs (List.replicate d 0) u d (f + i) d) kk t) := ⟨fun i => mk d (fun t => if back then bw (lnQ xs (List.replicate d 0) u d (f + i) d) kk t else fw (lnQ xs (List.replicate d 0) u d (f + i) d) kk t), fun _ => rfl⟩
  have hRl : Hid (∀ i, (R i).length = d) := fun i => by rw [hR, mk_length]
  have hset2 : Hid (∀ i k, k < d → (trK ds (nmL xs) x f back (f + i) k).set (ps u d (f + i) k) ((R i).getD k 0) = trK ds (nmL xs) x f back (f + i) (k + 1)) := fun i k hk => by
    have e : (R i).getD k 0 = (alo ds x back (cf xs) (ps u d (f + i) k)).val := by rw [hR, mk_getD d _ k hk, halo.out i k hk]
    rw [e, hsets.out i k hk]
  have cF : Hid (back = false → ∀ (W : World) (v : Value) (i : Nat), IsU W v (lnQ xs (List.replicate d 0) u d (f + i) d) → Tab W → Calls Tryd.prog 101 #[v] W fun e w' => ∃ g, e = .returned (.tuple #[.slice (some ⟨g, 0, none⟩) d d, .int .i64 0]) ∧ W.heap.size ≤ g ∧ RowU w' g (R i) ∧ Below W.heap.size W w') := fun hb W v i hU hT => by
    have c := ntt_Forward_row W v _ kk hU hT (by rw [lnQ_length, hkk'.out]) hkk10
    rw [← hkk'.out] at c
    rw [hR]
    subst hb
    exact c
  have cI : Hid (back = true → ∀ (W : World) (v : Value) (i : Nat), IsU W v (lnQ xs (List.replicate d 0) u d (f + i) d) → Tab W → Calls Tryd.prog 102 #[v] W fun e w' => ∃ g, e = .returned (.tuple #[.slice (some ⟨g, 0, none⟩) d d, .int .i64 0]) ∧ W.heap.size ≤ g ∧ RowU w' g (R i) ∧ Below W.heap.size W w') := fun hb W v i hU hT => by
    have c := ntt_Inverse_row W v _ kk hU hT (by rw [lnQ_length, hkk'.out]) hkk10
    rw [← hkk'.out] at c
    rw [hR]
    subst hb
    exact c
  clear hR halo hsets hkk' hkk10
  obtain ⟨T, hT⟩ : ∃ T : Nat → Nat → List Nat, ∀ i k, T i k = trK ds (nmL xs) x f back (f + i) k := ⟨fun i k => trK ds (nmL xs) x f back (f + i) k, fun _ _ => rfl⟩
  have hstart' : Hid (nmK xs N = T 0 0) := by rw [hT]; exact hstart.out
  have hset3 : Hid (∀ i k, k < d → (T i k).set (ps u d (f + i) k) ((R i).getD k 0) = T i (k + 1)) := fun i k hk => by rw [hT, hT]; exact hset2.out i k hk
  have hlines' : Hid (∀ i, T i d = T (i + 1) 0) := fun i => by rw [hT, hT]; exact hlines.out i
  have hpl' : Hid (∀ i k, (T i k).length = N) := fun i k => by rw [hT]; exact hpl.out i k
  have hall' : Hid (T m 0 = RL) := by rw [hT]; exact hall.out
  clear hT hstart hset2 hlines hpl hall
  have hnl : Hid (∀ k, (nmK xs k).length = N) := fun k => (nmK_length xs k).trans hl'.out
  have hn0 : Hid (nmK xs 0 = List.replicate N 0) := by rw [← hl'.out]; exact nmK_zero xs
  cases back
  all_goals
    first
      | (have cX := cF.out rfl)
      | (have cX := cI.out rfl)
    clear cF cI
    go_enter Tryd.func148, Tryd.ntmps148
    go_wp2_with (at_make; refine wp_makeG rfl _ _ rfl N rfl rfl hn9 ?_; intro gr w2 hgr hrow hb; clear hn9)
    have hgrw : w.heap.size ≤ gr := Nat.le_of_eq hgr.out.symm
    have hAr := hA.apart hgrw
    clear hgr
    rw [← hn0.out] at hrow
    go_loopw [26] (fun vi wr => ∃ i : Nat, i ≤ N ∧ vi = .int .i64 (i : Int) ∧ RowU wr gr (nmK xs i) ∧ Below w.heap.size w wr)
      (fun vi _ => N - (intOf vi).toNat)
    case atStart => exact ⟨0, Nat.zero_le _, rfl, hrow, hb⟩
    case round =>
      clear hrow hb
      obtain ⟨i, hi, rfl, hrow, hnx⟩ := hrel
      by_cases hlt : i < N
      · have hAi := hA.below hnx
        obtain ⟨ba, oa, rfl, -⟩ := hc 0 (by rw [hl'.out]; exact hxl)
        have hca := hAi.cell i (by rw [hl'.out]; exact hlt)
        have hcr := hrow.cell i (by rw [hnl.out]; exact hlt)
        have hfr := hrow.frozen i
        have hset := hrow.set i (fN (xs.getD i 0))
        rw [nmK_set] at hset
        have hB2 : Hid (∀ u : Value, Below w.heap.size w (wr.setCell ⟨gr, i, none⟩ u)) := fun u => hnx.setCell (p := ⟨gr, i, none⟩) hgrw u
        have cN := field_Norm (xs.getD i 0) (range_getD hrx'.out _)
        clear hrow hnx hAi hA hAr cX hc
        generalize fN (xs.getD i 0) = z at *
        generalize (nmK xs i).getD i 0 = old at *
        generalize xs.getD i 0 = y at *
        go_wp2_with (go_at_call 21; refine Calls.mono (cN _) ?_; rintro e w' ⟨rfl, hw⟩; rw [hw]; clear hw)
        go_roundw
        case rel => exact ⟨i + 1, by omega, by go_num, hset, hB2.out _⟩
        case measure => simp only [intOf]; omega
      · have e : N = i := by omega
        have hge : N ≤ i := by omega
        rw [← e, hstart'.out] at hrow
        clear e
        obtain ⟨w4, hw4⟩ : ∃ w4 : World, w4 = wr := ⟨_, rfl⟩
        rw [← hw4] at hrow hnx ⊢
        clear hw4
        have hgr4 := hrow.lt
        have hsz4 := hnx.size
        go_wp2
        go_loopw [39] (fun vi wr => ∃ i : Nat, i ≤ m ∧ vi = .int .i64 (i : Int) ∧ RowU wr gr (T i 0) ∧ Bar gr w4 wr)
          (fun vi _ => m - (intOf vi).toNat)
        case atStart => exact ⟨0, Nat.zero_le _, rfl, hrow, Bar.refl _ _⟩
        case round =>
          clear hrow hi hge
          obtain ⟨i, hi, rfl, hrow, hbar⟩ := hrel
          by_cases hlt : i < m
          · obtain ⟨ul, hcl, hI⟩ := hL'.out i hlt
            obtain ⟨au, cu, rfl, -, -, hcI⟩ := hI
            rw [hll.out i] at hcI hcl
            obtain ⟨gl, og, rfl, -⟩ := hcI 0 hd0
            have hct : ∀ t, t < d → w.cell? ⟨gl, og + t, none⟩ = some (.int .i64 ((ps u d (f + i) t : Nat) : Int)) := fun t ht => by
              obtain ⟨g9, o9, e9, hc9⟩ := hcI t ht
              simp only [Option.some.injEq, Addr.mk.injEq, and_true] at e9
              obtain ⟨rfl, rfl⟩ := e9
              rw [hlp.out i t ht] at hc9
              exact hc9
            have hps := fun k (hk : k < d) => hpslt.out i k hlt hk
            have hB1 : Below w.heap.size w wr := hnx.trans (hbar.below hgrw hnx.size)
            have hcl1 := (hB1.cell (block_lt hcl)).trans hcl
            obtain ⟨ba, oa, rfl, -⟩ := hc 0 (by rw [hl'.out]; exact hxl)
            have hca : ∀ k, k < d → w.cell? ⟨ba, oa + ps u d (f + i) k, none⟩ = some (.int .u64 ((xs.getD (ps u d (f + i) k) 0 : Nat) : Int)) := fun k hk => hA.cell _ (by rw [hl'.out]; exact hps k hk)
            obtain ⟨wo, hwo⟩ : ∃ wo : World, wo = wr := ⟨_, rfl⟩
            rw [← hwo] at hrow hbar hcl1 hB1 ⊢
            clear hwo hcl hcI
            go_wp2_with (at_make; refine wp_makeG rfl _ _ rfl d rfl rfl hd10 ?_; intro gn w5 hgn hrown hb5)
            have hgnw : wo.heap.size ≤ gn := Nat.le_of_eq hgn.out.symm
            have hB5 := hB1.trans (hb5.mono hB1.size)
            have hgnw' : w.heap.size ≤ gn := Nat.le_trans hB1.size hgnw
            have hne : gr ≠ gn := by have := hrow.lt; omega
            have hrow5 := hrow.below hb5
            have hbar5 := hbar.andThen hb5
            have hgn4 : w4.heap.size ≤ gn := Nat.le_trans hbar.size hgnw
            have hrown5 := hrown.cast (lnQ_zero xs (List.replicate d 0) u d (f + i) List.length_replicate).symm
            clear hgn hrow hbar hcl1 hb5 hrown hgnw hB1
            go_loopw [48] (fun vk wr => ∃ k : Nat, k ≤ d ∧ vk = .int .i64 (k : Int) ∧ RowU wr gn (lnQ xs (List.replicate d 0) u d (f + i) k) ∧ Bar gn w5 wr)
              (fun vk _ => d - (intOf vk).toNat)
            case atStart => exact ⟨0, Nat.zero_le _, rfl, hrown5, Bar.refl _ _⟩
            case round =>
              clear hrown5
              obtain ⟨k, hk, rfl, hrown, hbn2⟩ := hrel
              have hBk : Below w.heap.size w wr := hB5.trans (hbn2.below hgnw' hB5.size)
              by_cases hkd : k < d
              · have q1 := hps k hkd
                have q2 := (hBk.cell (block_lt (hct k hkd))).trans (hct k hkd)
                have q3 := (hBk.cell (block_lt (hca k hkd))).trans (hca k hkd)
                have q4 := hrown.cell k (by rw [lnQ_length]; exact hkd)
                have q5 := hrown.frozen k
                have q6 := hrown.set k (xs.getD (ps u d (f + i) k) 0)
                rw [lnQ_set] at q6
                have hB2 := hbn2.setCell k (.int .u64 ((xs.getD (ps u d (f + i) k) 0 : Nat) : Int))
                clear hrown hbn2 hps hct hca hA hAr hrow5 hbar5 hBk hB5 cX hc
                generalize xs.getD (ps u d (f + i) k) 0 = z at *
                generalize (lnQ xs (List.replicate d 0) u d (f + i) k).getD k 0 = old at *
                generalize ps u d (f + i) k = pk at *
                go_wp2
                go_roundw
                case rel => exact ⟨k + 1, by omega, by go_num, q6, hB2⟩
                case measure => simp only [intOf]; omega
              · have e : d = k := by omega
                subst e
                have hU := hrown.isUN (hrng.out u d (f + i) d) (by rw [lnQ_length]; omega) (lnQ_length xs _ u d (f + i) d)
                have c1 := cX wr _ i hU (ht.below hBk)
                have hrow3 := hrow5.bar hne hbn2
                have hbar3 : Bar gr w4 wr := hbar5.over hgn4 hbn2
                have hs2 : Hid (∀ k, k < d → (T i k).set (ps u d (f + i) k) ((R i).getD k 0) = T i (k + 1)) := fun k hk => hset3.out i k hk
                have hRl2 : Hid ((R i).length = d) := hRl.out i
                generalize lnQ xs (List.replicate d 0) u d (f + i) d = ln at *
                generalize R i = rl at *
                obtain ⟨w3, hw3⟩ : ∃ w3 : World, w3 = wr := ⟨_, rfl⟩
                rw [← hw3] at hrow3 hrown c1 hbar3 hBk ⊢
                clear hw3 hU hrow5 hbn2 hca hbar5 hB5 hgn4
                go_wp2_with (first
                  | (go_at_call 101; refine Calls.mono c1 ?_; rintro e w6 ⟨g5, rfl, hg5, hr5, hb6⟩)
                  | (go_at_call 102; refine Calls.mono c1 ?_; rintro e w6 ⟨g5, rfl, hg5, hr5, hb6⟩))
                have hrow6 := hrow3.below hb6
                have hg5r : g5 ≠ gr := by have := hrow3.lt; omega
                have hbar6 : Bar gr w4 w6 := hbar3.andThen hb6
                have hB6 := hBk.trans (hb6.mono hBk.size)
                clear hrow3 hrown hb6 hbar3 c1 hg5 hBk
                go_loopw [69] (fun vk wr => ∃ k : Nat, k ≤ d ∧ vk = .int .i64 (k : Int) ∧ RowU wr gr (T i k) ∧ Bar gr w6 wr)
                  (fun vk _ => d - (intOf vk).toNat)
                case atStart => exact ⟨0, Nat.zero_le _, rfl, hrow6, Bar.refl _ _⟩
                case round =>
                  clear hrow6
                  obtain ⟨k, hk, rfl, hrowk, hbk⟩ := hrel
                  by_cases hkd2 : k < d
                  · have p1 := hps k hkd2
                    have hBk := hB6.trans (hbk.below hgrw hB6.size)
                    have p2 := (hBk.cell (block_lt (hct k hkd2))).trans (hct k hkd2)
                    have p3 := (hr5.bar hg5r hbk).cell k (by rw [hRl2.out]; exact hkd2)
                    have p4 := hrowk.cell (ps u d (f + i) k) (by rw [hpl'.out]; exact p1)
                    have p5 := hrowk.frozen (ps u d (f + i) k)
                    have p6 := hrowk.set (ps u d (f + i) k) (rl.getD k 0)
                    rw [hs2.out k hkd2] at p6
                    have hB2 := hbk.setCell (ps u d (f + i) k) (.int .u64 ((rl.getD k 0 : Nat) : Int))
                    clear hrowk hbk hBk hct hps hs2 hr5 hbar6 hA hAr hc cX
                    generalize rl.getD k 0 = z at *
                    generalize (T i k).getD (ps u d (f + i) k) 0 = old at *
                    generalize ps u d (f + i) k = pk at *
                    go_wp2
                    go_roundw
                    case rel => exact ⟨k + 1, by omega, by go_num, p6, hB2⟩
                    case measure => simp only [intOf]; omega
                  · have e : d = k := by omega
                    subst e
                    rw [hlines'.out] at hrowk
                    have hbN : Bar gr w4 wr := hbar6.trans hbk
                    clear hct hps hs2 hr5 hbar6 hbk hA hAr hc cX
                    go_wp2
                    go_roundw
                    case rel => exact ⟨i + 1, by omega, by go_num, hrowk, hbN⟩
                    case measure => simp only [intOf]; omega
          · have e : m = i := by omega
            subst e
            rw [hall'.out] at hrow
            have hge2 : m ≤ m := Nat.le_refl _
            have hBN : Below w.heap.size w wr := hnx.trans (hbar.below hgrw hnx.size)
            clear hbar hc cX hA hAr
            go_wp2
            go_ret
            exact ⟨gr, rfl, hgrw, hrow, hBN⟩
set_option maxRecDepth 100000 in
set_option maxHeartbeats 4000000 in
theorem plan_Do_row (w : World) (v v' : Value) (zs : List Int) (xs ds : List Nat) (x f l : Nat) (back : Bool) (h : IsZ w v zs) (h' : IsU w v' xs) (ht : Tab w) (hG : Good zs ds) (hn : prd2 ds ≤ 1024) (hl : xs.length = prd2 ds) (hx : x < ds.length) (hfl : f < l) (hln : l ≤ nln ds x) :
    Calls Tryd.prog 122 #[v, v', .agg #[.int .i64 (x : Int), .int .i64 (f : Int), .int .i64 (l : Int)], .bool back] w fun e w' => ∃ g, e = .returned (.tuple #[.slice (some ⟨g, 0, none⟩) (prd2 ds) (prd2 ds), .int .i64 0]) ∧ w.heap.size ≤ g ∧ RowU w' g (trn ds (nmL xs) x f l back) ∧ Below w.heap.size w w' := by
  have hS : Shp ds := hG.2.2.2
  have hba := below_alloc1 w (.cells #[.int .i64 (x : Int), .int .i64 (f : Int), .int .i64 (l : Int)] 71)
  have q0 : (w.alloc (.cells #[.int .i64 (x : Int), .int .i64 (f : Int), .int .i64 (l : Int)] 71)).cell? ⟨w.heap.size, 0, none⟩ = some (.int .i64 (x : Int)) := by rw [World.cell?_alloc_at _ _ _ _ rfl]; rfl
  have q1 : (w.alloc (.cells #[.int .i64 (x : Int), .int .i64 (f : Int), .int .i64 (l : Int)] 71)).cell? ⟨w.heap.size, 1, none⟩ = some (.int .i64 (f : Int)) := by rw [World.cell?_alloc_at _ _ _ _ rfl]; rfl
  have q2 : (w.alloc (.cells #[.int .i64 (x : Int), .int .i64 (f : Int), .int .i64 (l : Int)] 71)).cell? ⟨w.heap.size, 2, none⟩ = some (.int .i64 (l : Int)) := by rw [World.cell?_alloc_at _ _ _ _ rfl]; rfl
  obtain ⟨m, hm⟩ : ∃ m, l = f + m := ⟨l - f, by omega⟩
  have hnl : nln ds x ≤ 1024 := by rw [← nln_div hS x hx]; exact Nat.le_trans (Nat.div_le_self _ _) hn
  have c1 := fun W (hb : Below w.heap.size w W) => many_Check_okW W v zs ds (h.below hb) hG hn
  have c2 := fun W (hb : Below w.heap.size w W) => many_Lines_ok W v zs ds x (h.below hb) hG hn hx
  have c3 := fun W => plan_isWithin W (x : Int) (f : Int) (l : Int) ((nln ds x : Nat) : Int)
  rw [show decide (0 ≤ (f : Int) ∧ (f : Int) < (l : Int) ∧ (l : Int) ≤ ((nln ds x : Nat) : Int)) = true from decide_eq_true (by omega)] at c3
  have c4 : Hid (∀ W bl ol cl, Below w.heap.size w W → (∀ i, i < m → ∃ u, W.cell? ⟨bl, ol + i, none⟩ = some u ∧ IsI W u (lin ds x (ps (beh ds (x + 1)) (sz ds x) (f + i) 0) (sz ds x))) →
      Calls Tryd.prog 148 #[v', .slice (some ⟨bl, ol, none⟩) m cl, .bool back] W fun e w' => ∃ g, e = .returned (.slice (some ⟨g, 0, none⟩) (prd2 ds) (prd2 ds)) ∧ W.heap.size ≤ g ∧ RowU w' g (trn ds (nmL xs) x f l back) ∧ Below W.heap.size W w') := fun W bl ol cl hb hL => by
    rw [hm]
    exact plan_transformLines W v' bl ol cl xs ds x f m back (h'.below hb) (ht.below hb) hS hn hl hx (by omega) hL
  rw [lns_eq hS x hx] at c2
  have hline : Hid (∀ i, i < nln ds x → (((List.range (nln ds x)).map fun i => lin ds x (ps (beh ds (x + 1)) (sz ds x) i 0) (sz ds x)).getD i []) = lin ds x (ps (beh ds (x + 1)) (sz ds x) i 0) (sz ds x)) := fun i hi => by simp [List.getD, hi]
  have hLl : Hid (((List.range (nln ds x)).map fun i => lin ds x (ps (beh ds (x + 1)) (sz ds x) i 0) (sz ds x)).length = nln ds x) := by show _ = _; simp
  obtain ⟨a', cap', rfl, -⟩ := h'
  rw [hl] at c4 ⊢
  generalize (List.range (nln ds x)).map (fun i => lin ds x (ps (beh ds (x + 1)) (sz ds x) i 0) (sz ds x)) = L at *
  generalize trn ds (nmL xs) x f l back = RL at *
  have hm' : Hid (l = f + m) := hm
  clear hG hS h hl ht hx hm
  generalize prd2 ds = N at *
  generalize hM : nln ds x = M at *
  clear hM
  go_enter Tryd.func122, Tryd.ntmps122
  have hB := hba
  have hlf : Hid (l - f = m) := by have := hm'.out; show _ = _; omega
  go_wp2_with (first
    | (go_at_call 39; refine Calls.mono (c1 _ hba) ?_; rintro e w' ⟨rfl, hw⟩; rw [hw]; clear hw c1)
    | (go_at_call 83; refine Calls.mono (c2 _ hba) ?_; rintro e w2 ⟨ul, rfl, ⟨al, cpl, rfl, hcp, -, hLc⟩, hb2⟩; clear c2; rw [hLl.out] at hcp hLc ⊢; obtain ⟨bl, ol, u0, rfl, -⟩ := hLc 0 (by omega); replace q0 := (hb2.cell (block_lt q0)).trans q0; replace q1 := (hb2.cell (block_lt q1)).trans q1; replace q2 := (hb2.cell (block_lt q2)).trans q2; replace hB := hba.trans (hb2.mono hba.size); clear hb2 hba)
    | (go_at_call 143; refine Calls.mono (c3 _) ?_; rintro e w3 ⟨rfl, hw⟩; have hb3 : Below w2.heap.size w2 w3 := (by rw [hw]; exact below_alloc1 w2 _); clear hw c3; replace q0 := (hb3.cell (block_lt q0)).trans q0; replace q1 := (hb3.cell (block_lt q1)).trans q1; replace q2 := (hb3.cell (block_lt q2)).trans q2; replace hB := hB.trans (hb3.mono hB.size))
    | (go_at_call 148; rw [hlf.out]; refine Calls.mono (c4.out w3 bl (ol + f) (cpl - f) hB (fun i hi => by
        obtain ⟨b9, o9, u9, e9, hc9, hI9⟩ := hLc (f + i) (by have := hm'.out; omega)
        simp only [Option.some.injEq, Addr.mk.injEq, and_true] at e9
        obtain ⟨rfl, rfl⟩ := e9
        rw [hline.out (f + i) (by have := hm'.out; omega)] at hI9
        refine ⟨u9, ?_, hI9.below hb3⟩
        have := (hb3.cell (block_lt hc9)).trans hc9
        rw [show ol + (f + i) = ol + f + i by omega] at this
        exact this)) ?_; rintro e w5 ⟨g, rfl, hg, hr, hb5⟩))
  go_ret2
  exact ⟨g, rfl, Nat.le_trans hB.size hg, hr, hB.trans (hb5.mono hB.size)⟩
end Go.Proofs.YtckoipoejaafhaaDoor

namespace Go.Proofs.YtckoipoejaafhaaDoor
open Go Go.Conc Go.RowKit Cc
theorem IsU.priv {w : World} {b o l c : Nat} {xs : List Nat} (h : IsU w (.slice (some ⟨b, o, none⟩) l c) xs) {S : Nat → Bool} (hb : S b = true) (τ : Nat → Question → Nat) (d : Nat) : IsU (tp (priv S w) τ d) (.slice (some ⟨b, o, none⟩) l c) xs := by
  obtain ⟨a, cap, e, h1, h2, hc, hr⟩ := h
  simp only [Value.slice.injEq] at e
  obtain ⟨rfl, rfl, rfl⟩ := e
  refine ⟨_, _, rfl, h1, h2, fun i hi => ?_, hr⟩
  obtain ⟨b', off, e, hcell⟩ := hc i hi
  simp only [Option.some.injEq, Addr.mk.injEq, and_true] at e
  obtain ⟨rfl, rfl⟩ := e
  exact ⟨b, o, rfl, (priv_cell (o := o + i) hb τ d).trans (by rw [hcell, Option.map_some, pz_int])⟩
theorem IsZ.priv {w : World} {b o l c : Nat} {xs : List Int} (h : IsZ w (.slice (some ⟨b, o, none⟩) l c) xs) {S : Nat → Bool} (hb : S b = true) (τ : Nat → Question → Nat) (d : Nat) : IsZ (tp (priv S w) τ d) (.slice (some ⟨b, o, none⟩) l c) xs := by
  obtain ⟨a, cap, e, h1, h2, hc, hr⟩ := h
  simp only [Value.slice.injEq] at e
  obtain ⟨rfl, rfl, rfl⟩ := e
  refine ⟨_, _, rfl, h1, h2, fun i hi => ?_, hr⟩
  obtain ⟨b', off, e, hcell⟩ := hc i hi
  simp only [Option.some.injEq, Addr.mk.injEq, and_true] at e
  obtain ⟨rfl, rfl⟩ := e
  exact ⟨b, o, rfl, (priv_cell (o := o + i) hb τ d).trans (by rw [hcell, Option.map_some, pz_int])⟩
theorem TabP.priv {w : World} (h : TabP w) {S : Nat → Bool} (hS : S 0 = true) (τ : Nat → Question → Nat) (d : Nat) : TabP (tp (Cc.priv S w) τ d) := by
  unfold TabP Lib.TabIs World.var? at h ⊢
  rw [gPow] at h ⊢
  simp only [Option.bind_some] at h ⊢
  have e : (tp (Cc.priv S w) τ d).heap[0]? = (w.heap[0]?).map froz := priv_at hS
  rw [e]
  cases ho : w.heap[0]? with
  | none => rw [ho] at h; cases h
  | some o =>
    rw [ho] at h
    cases o with
    | cells c e fr =>
      simp only [Option.map_some, froz, Option.some.injEq] at h ⊢
      subst h
      apply Array.ext_getElem?
      intro i
      rw [Array.getElem?_map]
      cases hc : ((List.map (fun z => Value.int .u64 z) Lib.pow10Tab).toArray)[i]? with
      | none => rfl
      | some v =>
        have hm := Array.mem_of_getElem? hc
        simp only [List.mem_toArray, List.mem_map] at hm
        obtain ⟨z, _, rfl⟩ := hm
        simp only [Option.map_some, pz_int]
    | _ => exact h
def tabsL : List Nat := 0 :: 2 :: wTbl.gs
theorem tabP_in : 0 ∈ tabsL := by simp [tabsL]
theorem Tab.priv {w : World} (h : Tab w) {S : Nat → Bool} (hS : ∀ g ∈ tabsL, S g = true) (τ : Nat → Question → Nat) (d : Nat) : Tab (tp (Cc.priv S w) τ d) :=
  ⟨fun j hj => by
    rw [priv_cell (hS _ (by simp [tabsL])) τ d, h.1 j hj, Option.map_some, pz_int], h.2.1.priv (hS _ tabP_in) τ d, TabE.any _⟩
def TellsAt (f : FuncId) (N : Nat) (L : List Nat) (base : List Frame) (Ow0 Ow : Nat → Prop) (g : Goroutine) (w' : World) : Prop :=
  ∃ ts td g', g = G (frm f ts td .returning) base ∧ (∀ (Q : Program) (W : World) es, (results (Tryd.prog.funcs.getD f default) ts).runT Q W es = (.ok (.tuple #[.slice (some ⟨g', 0, none⟩) N N, .int .i64 0]) W, es)) ∧ Ow g' ∧ RowU w' g' L ∧ ∀ b, Ow0 b → Ow b
theorem tells_of {Sh Ow0 Ow : Nat → Prop} {B N : Nat} {L : List Nat} {f : FuncId} {base : List Frame} {g : Goroutine} {w' : World}
    (h : AtRet Tryd.prog wTbl B Sh (fun fr w1 => fr.fn = f ∧ ∃ v, (∀ (Q : Program) (W : World) es, (results (Tryd.prog.funcs.getD f default) fr.tmps).runT Q W es = (.ok v W, es)) ∧ ∃ q, v = .tuple #[.slice (some ⟨q, 0, none⟩) N N, .int .i64 0] ∧ B ≤ q ∧ RowU w1 q L) base Ow0 Ow g w') : TellsAt f N L base Ow0 Ow g w' := by
  obtain ⟨ρ, fr, w, fr', hst, hmi, rfl, hm, ⟨rfl, v, hv, q, rfl, hq, hrow⟩, ho⟩ := h
  obtain ⟨fn, cd, q1, q2, q3, q4, q5⟩ := wAll _ hst.top.inT
  obtain ⟨v2, v2', hvr, e1, e2⟩ := results_of hst.top.slots q5
  have hgd : Tryd.prog.funcs.getD fr.fn default = fn := by rw [Array.getD_eq_getD_getElem?, q1]; rfl
  rw [hgd] at hv
  have hv2 : v2 = .tuple #[.slice (some ⟨q, 0, none⟩) N N, .int .i64 0] := by
    have := (e1 Tryd.prog w #[]).symm.trans (hv Tryd.prog w #[])
    simp only [Prod.mk.injEq, Result.ok.injEq, and_true] at this
    exact this
  subst hv2
  cases hvr with
  | tuple hs hel =>
    rename_i ys
    obtain ⟨y0, y1, rfl⟩ : ∃ y0 y1, ys = #[y0, y1] := by
      have : ys.size = 2 := hs
      exact ⟨ys[0], ys[1], by apply Array.ext (by simpa using this); intro i h1 h2; simp at h2; match i, h2 with | 0, _ => rfl | 1, _ => rfl⟩
    have r0 := hel 0 (by simp) (by simp)
    have r1 := hel 1 (by simp) (by simp)
    simp only [List.getElem_toArray, List.getElem_cons_zero, List.getElem_cons_succ] at r0 r1
    cases r1
    cases r0 with
    | slc o s l c hb =>
      rename_i g'
      obtain ⟨cs, cs', e, k1, k2, k3⟩ := hst.wr.own q g' hb hq
      have hr : w.heap[q]? = _ := hrow
      rw [k1] at hr
      simp only [Option.some.injEq, Obj.cells.injEq] at hr
      obtain ⟨rfl, rfl, _⟩ := hr
      have hi : Ints (cellsU L).toArray := fun v hv => by
        simp only [List.mem_toArray, cellsU, List.mem_map] at hv
        obtain ⟨x, _, rfl⟩ := hv
        exact ⟨_, _, rfl⟩
      have hcs := hi.same k3
      subst hcs
      obtain ⟨_, g2⟩ := hst.top.form
      rw [hm] at g2
      refine ⟨fr'.tmps, fr.todo, g', by rw [← g2], fun Q W es => ?_, hmi.ow q g' hb hq, k2, ho⟩
      rw [hgd]
      exact e2 Q W es
theorem planDo_company {Sh Ow : Nat → Prop} {w : World} (S : Nat → Bool) (base : List Frame) (main : Bool) {bz oz cz ba oa ca : Nat} {zs : List Int} {xs ds : List Nat} (x f l : Nat) (back : Bool)
    (hz : IsZ w (.slice (some ⟨bz, oz, none⟩) ds.length cz) zs) (hx' : IsU w (.slice (some ⟨ba, oa, none⟩) (prd2 ds) ca) xs) (ht : ∀ τ d, Tab (tp (priv S w) τ d)) (hG : Good zs ds) (hn : prd2 ds ≤ 1024) (hl : xs.length = prd2 ds) (hx : x < ds.length) (hfl : f < l) (hln : l ≤ nln ds x)
    (hS : ∀ b, S b = true → b < w.heap.size → ∃ cs e fr, w.heap[b]? = some (.cells cs e fr) ∧ OneC cs) (hSh : ∀ b, S b = true → Sh b ∨ Ow b) (hgs : ∀ g, wTbl.gs.contains g = true → S g = true ∧ g < w.heap.size) (hbz : S bz = true ∧ bz < w.heap.size) (hba : S ba = true ∧ ba < w.heap.size) :
    Wi Tryd.prog main Sh (TellsAt 122 (prd2 ds) (trn ds (nmL xs) x f l back) base Ow) Ow (G (Frame.enter Tryd.prog 122 #[.slice (some ⟨bz, oz, none⟩) ds.length cz, .slice (some ⟨ba, oa, none⟩) (prd2 ds) ca, .agg #[.int .i64 (x : Int), .int .i64 (f : Int), .int .i64 (l : Int)], .bool back] .normal) base) w := by
  have hid : ∀ b, S b = true ∧ b < w.heap.size → idr S w.heap.size b = some b := fun b h => by unfold idr; rw [if_pos h]
  have hc := call_company (P := Tryd.prog) wAll (Sh := Sh) (Ow := Ow) (w := w) S base main (f := 122)
    (args := #[.slice (some ⟨bz, oz, none⟩) ds.length cz, .slice (some ⟨ba, oa, none⟩) (prd2 ds) ca, .agg #[.int .i64 (x : Int), .int .i64 (f : Int), .int .i64 (l : Int)], .bool back])
    (R := fun v w1 => ∃ q, v = .tuple #[.slice (some ⟨q, 0, none⟩) (prd2 ds) (prd2 ds), .int .i64 0] ∧ w.heap.size ≤ q ∧ RowU w1 q (trn ds (nmL xs) x f l back))
    (by decide) hS hSh hgs ?_ ?_ ?_
  · exact hc.bind fun Ow' g w' h => .stop fun w₁ k => by
      have h2 := tells_of h
      obtain ⟨ts, td, g', e1, e2, e3, e4, e5⟩ := h2
      exact ⟨ts, td, g', e1, e2, e3, e4.block (k.block g' (.inr e3)), e5⟩
  · exact (((A2.one (VR.slc _ _ _ _ (hid bz hbz))).push (VR.slc _ _ _ _ (hid ba hba))).push (VR.agg' (((A2.one (VR.int _ _)).push (VR.int _ _)).push (VR.int _ _)))).push (VR.bool _)
  · intro τ d
    refine (plan_Do_row (tp (priv S w) τ d) _ _ zs xs ds x f l back (hz.priv hbz.1 τ d) (hx'.priv hba.1 τ d) (ht τ d) hG hn hl hx hfl hln).mono ?_
    rintro e w1 ⟨g, rfl, hg, hr, _⟩
    refine ⟨_, rfl, g, rfl, ?_, hr⟩
    have : (tp (priv S w) τ d).heap.size = w.heap.size := priv_size S w
    rw [← this]
    exact hg
  · rintro v w1 τ d ⟨q, h1, h2, h3⟩
    exact ⟨q, h1, h2, h3⟩
end Go.Proofs.YtckoipoejaafhaaDoor
