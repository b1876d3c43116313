/-
  What Turned of package goldref answers: an array with lines of an axis transformed.
-/
import Derived.Test.YtgkepflnnoociacDoorSealXAll
import Derived.Test.YtgkepflnnoociacDoorRowX
import Derived.Test.YtgkepflnnoociacDoorRefNtt
import Derived.Deep.RegionWith
namespace Go.Proofs.YtgkepflnnoociacDoor
open Go.RowKit

theorem IsI.bar {w w' : World} {g gl l c : Nat} {xs : List Nat} (h : IsI w (.slice (some ⟨gl, 0, none⟩) l c) xs) (hlt : gl < w.heap.size) (hne : gl ≠ g) (hb : Bar g w w') : IsI w' (.slice (some ⟨gl, 0, none⟩) l c) xs := h.block (hb.block gl hlt hne)
theorem IsI.cellAt {w : World} {g l c : Nat} {xs : List Nat} (h : IsI w (.slice (some ⟨g, 0, none⟩) l c) xs) (i : Nat) (hi : i < xs.length) : w.cell? ⟨g, i, none⟩ = some (.int .i64 ((xs.getD i 0 : Nat) : Int)) := by
  obtain ⟨a, cap, e, _, _, hc⟩ := h
  simp only [Value.slice.injEq] at e
  obtain ⟨rfl, rfl, rfl⟩ := e
  obtain ⟨b, off, e2, hcell⟩ := hc i hi
  simp only [Option.some.injEq, Addr.mk.injEq, and_true] at e2
  obtain ⟨rfl, rfl⟩ := e2
  rw [Nat.zero_add] at hcell
  exact hcell
/-- A line: where it lies, that it lies in new memory, and its numbers. -/
theorem IsLF.line {B : Nat} {w : World} {v : Value} {L : List (List Nat)} (h : IsLF B w v L) (i : Nat) (hi : i < L.length) : ∃ b off cap gl cl, v = .slice (some ⟨b, off, none⟩) L.length cap ∧ B ≤ b ∧ B ≤ gl ∧
    w.cell? ⟨b, off + i, none⟩ = some (.slice (some ⟨gl, 0, none⟩) (L.getD i []).length cl) ∧ (∀ t, t < (L.getD i []).length → w.cell? ⟨gl, t, none⟩ = some (.int .i64 (((L.getD i []).getD t 0 : Nat) : Int))) := by
  obtain ⟨a, cap, rfl, h1, h2, hc⟩ := h
  obtain ⟨b, off, gl, cl, rfl, hB1, hB2, hcell, hI⟩ := hc i hi
  exact ⟨b, off, cap, gl, cl, rfl, hB1, hB2, hcell, fun t ht => hI.cellAt t ht⟩

/-- A number of a line's list that is read while the list is made. -/
def lnR (ds xs : List Nat) (x i k : Nat) : List Nat := (List.range k).map fun t => xs.getD (ps (beh ds (x + 1)) (sz ds x) i t) 0
theorem lnR_succ (ds xs : List Nat) (x i k : Nat) : lnR ds xs x i (k + 1) = lnR ds xs x i k ++ [xs.getD (ps (beh ds (x + 1)) (sz ds x) i k) 0] := by simp [lnR, List.range_succ]
theorem lnR_length (ds xs : List Nat) (x i k : Nat) : (lnR ds xs x i k).length = k := by simp [lnR]
theorem lnR_get (ds xs : List Nat) (x i k t : Nat) (h : t < k) : (lnR ds xs x i k).getD t 0 = xs.getD (ps (beh ds (x + 1)) (sz ds x) i t) 0 := by simp [lnR, List.getD, h]

set_option maxHeartbeats 8000000 in
theorem ref_TurnedF (w : World) (v v' : Value) (zs : List Int) (ds xs : List Nat) (x f l : Nat) (back : Bool) (h : IsZ w v zs) (h' : IsU w v' xs) (hG : Good zs ds) (hn : prd2 ds ≤ 1024) (hl : xs.length = prd2 ds) (hx : x < ds.length) (hfl : f ≤ l) (hln : l ≤ nln ds x) :
    Calls Tryd.prog 45 #[v, v', .int .i64 (x : Int), .int .i64 (f : Int), .int .i64 (l : Int), .bool back] w fun e w' => ∃ g c, e = .returned (.slice (some ⟨g, 0, none⟩) xs.length c) ∧ w.heap.size ≤ g ∧ c ≤ maxLen ∧ Rng (trn ds xs x f l back) ∧ RowX w' g c (trn ds xs x f l back) ∧ Below w.heap.size w w' := by
  have hS : Shp ds := hG.2.2.2
  have hA := h'
  obtain ⟨a, cap, rfl, hcap, hmax, hc, hrx⟩ := h'
  clear hcap hmax
  have cL := fun (W : World) (hb : Below w.heap.size w W) => ref_LinesF W v zs ds x (h.below hb) hG hn hx
  have hLe := lns_eq hS x hx
  rw [hLe] at cL
  have hpos : 0 < prd2 ds := prd2_pos hS.pos
  have hxl : 0 < xs.length := by omega
  have hd0 := P2_pos (hS.at x hx)
  have hu0 := beh_pos hS (x + 1)
  have hnl : nln ds x ≤ 1024 := by rw [← nln_div hS x hx]; exact Nat.le_trans (Nat.div_le_self _ _) hn
  obtain ⟨kk, hkk, hkk10, -⟩ := axW_ord hS hn x hx
  have hd9 := sz_le hS hn x hx
  have hpslt : Hid (∀ i k, i < nln ds x → k < sz ds x → ps (beh ds (x + 1)) (sz ds x) i k < xs.length) := fun i k hi hk => by
    rw [hl, prd2_at ds x hx]; exact ps_lt hu0 hi hk
  have hline : Hid (∀ i, i < nln ds x → (((List.range (nln ds x)).map fun i => lin ds x (ps (beh ds (x + 1)) (sz ds x) i 0) (sz ds x)).getD i []) = lin ds x (ps (beh ds (x + 1)) (sz ds x) i 0) (sz ds x)) := fun i hi => by simp [List.getD, hi]
  have hLl : ((List.range (nln ds x)).map fun i => lin ds x (ps (beh ds (x + 1)) (sz ds x) i 0) (sz ds x)).length = nln ds x := by simp
  have hstart : Hid (trK ds xs x f back f 0 = xs) := trK_start hl x f back
  have hsets : Hid (∀ i k, f ≤ i → k < sz ds x → (trK ds xs x f back i k).set (ps (beh ds (x + 1)) (sz ds x) i k) (alo ds x back (cf xs) (ps (beh ds (x + 1)) (sz ds x) i k)).val = trK ds xs x f back i (k + 1)) := fun i k hf hk => trK_set hS xs x f back i k hf hk
  have hlines : Hid (∀ i, f ≤ i → trK ds xs x f back i (sz ds x) = trK ds xs x f back (i + 1) 0) := fun i hf => trK_line hS xs x hx f back i hf
  have halo : Hid (∀ i k, k < sz ds x → alo ds x back (cf xs) (ps (beh ds (x + 1)) (sz ds x) i k) = (if back then bw (lnR ds xs x i (sz ds x)) kk k else fw (lnR ds xs x i (sz ds x)) kk k)) := fun i k hk =>
    alo_line hS xs x back i k kk hk hkk _ (fun t ht => lnR_get ds xs x i _ t ht)
  have hlp : Hid (∀ i t, t < sz ds x → (lin ds x (ps (beh ds (x + 1)) (sz ds x) i 0) (sz ds x)).getD t 0 = ps (beh ds (x + 1)) (sz ds x) i t) := fun i t ht => lin_ps ds x i t ht
  have hpl : Hid (∀ i k, (trK ds xs x f back i k).length = xs.length) := fun i k => (trK_length ds xs x f back i k).trans hl.symm
  have htr : Hid (∀ i k, Rng (trK ds xs x f back i k)) := fun i k z hz => by
    unfold trK tb at hz
    obtain ⟨p, _, rfl⟩ := List.mem_map.mp hz
    split
    · have := (alo ds x back (cf xs) p).isLt
      unfold P at this
      omega
    · exact range_getD hrx p
  have hx9 : xs.length ≤ 1000000000 := by omega
  have hlnS : Hid (∀ i k, lnR ds xs x i (k + 1) = lnR ds xs x i k ++ [xs.getD (ps (beh ds (x + 1)) (sz ds x) i k) 0]) := fun i k => lnR_succ ds xs x i k
  have hlnR : Hid (∀ i k, Rng (lnR ds xs x i k)) := fun i k z hz => by
    obtain ⟨p, _, rfl⟩ := List.mem_map.mp hz
    exact range_getD hrx _
  generalize (List.range (nln ds x)).map (fun i => lin ds x (ps (beh ds (x + 1)) (sz ds x) i 0) (sz ds x)) = L at *
  have hLl' : Hid (L.length = nln ds x) := hLl
  have hkk' : Hid (sz ds x = 2 ^ kk) := hkk
  have hll : Hid (∀ i, (lin ds x (ps (beh ds (x + 1)) (sz ds x) i 0) (sz ds x)).length = sz ds x) := fun i => lin_length _ _ _ _
  clear hLe hLl hkk hl hu0 hpos h
  generalize nln ds x = M at *
  generalize sz ds x = d at *
  generalize beh ds (x + 1) = u at *
  clear hG hn hx hS
  go_enter Tryd.func45, Tryd.ntmps45
  go_wp2_with (first
    | (at_builtin; refine wp_appendAll rfl _ _ rfl _ xs rfl rfl hA hxl hx9 ?_; intro g c w1 hg hc9 hrow hb1)
    | (go_at_call 82; refine Calls.mono (cL _ hb1) ?_; rintro e w2 ⟨ul, rfl, hL, hb2⟩))
  have hgB := hrow.lt
  have hrow2 := hrow.below hb2
  have hB2 : Below w.heap.size w w2 := hb1.trans (hb2.mono hb1.size)
  have hAg := hA.apart hg
  clear hrow hb1 hb2 cL
  go_loopw [15] (fun vi wr => ∃ i : Nat, f ≤ i ∧ i ≤ l ∧ vi = .int .i64 (i : Int) ∧ RowX wr g c (trK ds xs x f back i 0) ∧ Bar g w2 wr)
    (fun vi _ => l - (intOf vi).toNat)
  case atStart => exact ⟨f, Nat.le_refl _, hfl, rfl, hrow2.cast hstart.out.symm, Bar.refl _ _⟩
  case round =>
    clear hrow2
    obtain ⟨i, hfi, hil, rfl, hrow, hbar⟩ := hrel
    by_cases hlt : i < l
    · obtain ⟨b, off, capl, gl, cl, rfl, hBb, hBgl, hcl, hct⟩ := hL.line i (by rw [hLl'.out]; omega)
      rw [hline.out i (by omega), hll.out i] at hcl hct
      have hlo := hlp.out i
      have hps := fun k => hpslt.out i k (by omega)
      have hnb : b ≠ g := by omega
      have hngl : gl ≠ g := by omega
      have hcl1 := (World.cell?_of_block (w := w2) (hbar.block b (block_lt hcl) hnb)).trans hcl
      have hct1 : ∀ t, t < d → wr.cell? ⟨gl, t, none⟩ = some (.int .i64 ((ps u d i t : Nat) : Int)) := fun t ht => by
        have := (World.cell?_of_block (w := w2) (hbar.block gl (block_lt (hct t ht)) hngl)).trans (hct t ht)
        rw [hlo t ht] at this
        exact this
      have hA1 := (hA.below hB2).bar hAg hbar
      obtain ⟨ba, oa, rfl, _⟩ := hc 0 hxl
      have hiM : i < L.length := by rw [hLl'.out]; omega
      obtain ⟨wo, hwo⟩ : ∃ wo : World, wo = wr := ⟨_, rfl⟩
      rw [← hwo] at hrow hbar hcl1 hct1 hA1 ⊢
      clear hwo hcl hct hc
      have hprep : Hid (∀ W : World, Below wo.heap.size wo W → W.cell? ⟨b, off + i, none⟩ = some (.slice (some ⟨gl, 0, none⟩) d cl) ∧ ∀ k, k < d → W.cell? ⟨gl, k, none⟩ = some (.int .i64 ((ps u d i k : Nat) : Int)) ∧ W.cell? ⟨ba, oa + ps u d i k, none⟩ = some (.int .u64 ((xs.getD (ps u d i k) 0 : Nat) : Int))) := fun W hb =>
        ⟨(hb.cell (block_lt hcl1)).trans hcl1, fun k hk => ⟨(hb.cell (block_lt (hct1 k hk))).trans (hct1 k hk), (hA1.below hb).cell _ (hps k hk)⟩⟩
      clear hcl1 hct1
      go_wp2
      go_loopw [16, 17] (fun u16 vk wr => ∃ k : Nat, k ≤ d ∧ vk = .int .i64 (k : Int) ∧ wr.ownsRow wo.heap.size 47 1 u16 k (cellsU (lnR ds xs x i k)) ∧ Below wo.heap.size wo wr)
        (fun _ vk _ => d - (intOf vk).toNat)
      case atStart => exact ⟨0, Nat.zero_le _, rfl, World.ownsRow_nil _ _ _ _, Below.refl _ _⟩
      case round =>
        obtain ⟨k, hk, rfl, hown, hnx⟩ := hrel
        obtain ⟨q1, q2⟩ := hprep.out wr hnx
        by_cases hkd : k < d
        · obtain ⟨q3, q4⟩ := q2 k hkd
          have hpk := hps k hkd
          have hnew : Hid (∀ (w1 : World) (u' : Value), w1.ownsRow wo.heap.size 47 1 u' (k + 1) (cellsU (lnR ds xs x i k) ++ [.int .u64 ((xs.getD (ps u d i k) 0 : Nat) : Int)]) → w1.ownsRow wo.heap.size 47 1 u' (k + 1) (cellsU (lnR ds xs x i (k + 1)))) := fun w1 u' h => by rw [hlnS.out, cellsU_append]; exact h
          clear q2 hps hlo hA hAg hA1 hrow hbar hL hB2 hrx hlnS
          generalize xs.getD (ps u d i k) 0 = z at *
          generalize ps u d i k = pk at *
          go_wp2_with (at_builtin; refine wp_append1 rfl _ _ rfl _ _ _ _ rfl hown rfl ?c3 hnx ?_; rotate_right; intro u' w3 hown' hnx')
          case c3 => omega
          · have hown2 := hnew.out _ _ hown'
            clear hown' hown hnew hnx q1 q3 q4
            go_wp2
            go_roundw
            case rel => exact ⟨k + 1, by omega, by go_num, hown2, hnx'⟩
            case measure => simp only [intOf]; omega
        · have e : d = k := by omega
          subst e
          have hX := IsU.of_owns hown (hlnR.out _ _)
          obtain ⟨rl, hrl⟩ : ∃ rl : List Nat, rl = mk d (fun t => if back then bw (lnR ds xs x i d) kk t else fw (lnR ds xs x i d) kk t) := ⟨_, rfl⟩
          have hrlen : rl.length = d := by rw [hrl, mk_length]
          have hlnl : (lnR ds xs x i d).length = 2 ^ kk := by rw [lnR_length, hkk'.out]
          have cF : back = false → Calls Tryd.prog 84 #[u16] wr fun e w' => ∃ u, e = .returned u ∧ w'.ownsRow wr.heap.size 47 1 u d (cellsU rl) ∧ Below wr.heap.size wr w' := by
            intro hb
            have := ref_ForwardO wr u16 (lnR ds xs x i d) kk hX hlnl hkk10
            rw [← hkk'.out] at this
            subst hb hrl
            exact this
          have cI : back = true → Calls Tryd.prog 83 #[u16] wr fun e w' => ∃ u, e = .returned u ∧ w'.ownsRow wr.heap.size 47 1 u d (cellsU rl) ∧ Below wr.heap.size wr w' := by
            intro hb
            have := ref_InverseO wr u16 (lnR ds xs x i d) kk hX hlnl hkk10
            rw [← hkk'.out] at this
            subst hb hrl
            exact this
          have hset2 : Hid (∀ k, k < d → (trK ds xs x f back i k).set (ps u d i k) (rl.getD k 0) = trK ds xs x f back i (k + 1)) := fun k hk => by
            have e : rl.getD k 0 = (alo ds x back (cf xs) (ps u d i k)).val := by rw [hrl, mk_getD d _ k hk, halo.out i k hk]
            rw [e, hsets.out i k hfi hk]
          have hend : Hid (trK ds xs x f back i d = trK ds xs x f back (i + 1) 0) := hlines.out i hfi
          have hlenT : Hid (∀ k, (trK ds xs x f back i k).length = xs.length) := fun k => hpl.out i k
          have hgo := hrow.lt
          have hrow3 := hrow.below hnx
          obtain ⟨w3, hw3⟩ : ∃ w3 : World, w3 = wr := ⟨_, rfl⟩
          rw [← hw3] at hrow3 hnx q1 cF cI ⊢
          clear hw3 hrl hX hown hlnl q2 hsets halo hlines hrow hA hAg hA1 hrx hlnS hlnR hL hlo hlp hll hpslt hline hstart hpl
          generalize trK ds xs x f back i = T at *
          cases back
          all_goals
            go_wp2_with (first
              | (go_at_call 84; refine Calls.mono (cF rfl) ?_; rintro e w5 ⟨u5, rfl, hO5, hb5⟩)
              | (go_at_call 83; refine Calls.mono (cI rfl) ?_; rintro e w5 ⟨u5, rfl, hO5, hb5⟩))
            obtain ⟨gx, cx, rfl, hgx, hcx9, hrx5⟩ := RowX.of_owns hO5 hd0
            have hrow5 := hrow3.below hb5
            have hnx5 : Below wo.heap.size wo w5 := hnx.trans (hb5.mono hnx.size)
            have hgx2 : gx ≠ g := by have := hnx.size; omega
            obtain ⟨p1, p2⟩ := hprep.out w5 hnx5
            clear hrow3 hb5 hO5 hnx cF cI q1 hprep
            go_loopw [18] (fun vk wr => ∃ k : Nat, k ≤ d ∧ vk = .int .i64 (k : Int) ∧ RowX wr g c (T k) ∧ Bar g w5 wr)
              (fun vk _ => d - (intOf vk).toNat)
            case atStart => exact ⟨0, Nat.zero_le _, rfl, hrow5, Bar.refl _ _⟩
            case round =>
              clear hrow5
              obtain ⟨k, hk, rfl, hrowk, hbar5⟩ := hrel
              have r1 := (World.cell?_of_block (w := w5) (hbar5.block b (block_lt p1) hnb)).trans p1
              by_cases hkd2 : k < d
              · obtain ⟨q3, -⟩ := p2 k hkd2
                have r2 := (World.cell?_of_block (w := w5) (hbar5.block gl (block_lt q3) hngl)).trans q3
                have r3 := (hrx5.bar hgx2 hbar5).cell k (by rw [hrlen]; exact hkd2)
                have hpk := hps k hkd2
                have r4 := hrowk.cell (ps u d i k) (by rw [hlenT.out]; exact hpk)
                have r5 := hrowk.frozen (ps u d i k)
                have r6 := hrowk.set (ps u d i k) (rl.getD k 0)
                rw [hset2.out k hkd2] at r6
                have hB3 := hbar5.setCell (ps u d i k) (.int .u64 ((rl.getD k 0 : Nat) : Int))
                clear hrowk hbar5 p1 p2 q3 hps hset2 hlenT
                generalize rl.getD k 0 = z at *
                generalize (T k).getD (ps u d i k) 0 = old at *
                generalize ps u d i k = pk at *
                go_wp2
                go_region
                go_wp2
                go_roundw
                case rel => exact ⟨k + 1, by omega, by go_num, r6, ⟨hB3.os, hB3.tape, hB3.output, hB3.size, hB3.block⟩⟩
                case measure => simp only [intOf]; omega
              · have e : d = k := by omega
                subst e
                rw [hend.out] at hrowk
                have hbN : Bar g w2 wr := (hbar.trans (Bar.of_below hnx5)).trans hbar5
                clear p1 p2 hset2 hlenT hbar5 hps
                go_wp2
                go_roundw
                case rel => exact ⟨i + 1, by omega, by omega, by go_num, hrowk, hbN⟩
                case measure => simp only [intOf]; omega
    · have e : i = l := by omega
      subst e
      have hge : ¬ i < i := Nat.lt_irrefl _
      have hRg := htr.out i 0
      clear hc hL hlt
      go_wp2
      go_ret
      exact ⟨g, c, rfl, hg, hc9, hRg, hrow, Bar.fresh hB2 hg hbar⟩
theorem ref_Turned (w : World) (v v' : Value) (zs : List Int) (ds xs : List Nat) (x f l : Nat) (back : Bool) (h : IsZ w v zs) (h' : IsU w v' xs) (hG : Good zs ds) (hn : prd2 ds ≤ 1024) (hl : xs.length = prd2 ds) (hx : x < ds.length) (hfl : f ≤ l) (hln : l ≤ nln ds x) :
    Calls Tryd.prog 45 #[v, v', .int .i64 (x : Int), .int .i64 (f : Int), .int .i64 (l : Int), .bool back] w fun e w' => ∃ u, e = .returned u ∧ IsU w' u (trn ds xs x f l back) ∧ Below w.heap.size w w' := by
  refine (ref_TurnedF w v v' zs ds xs x f l back h h' hG hn hl hx hfl hln).mono ?_
  rintro e w' ⟨g, c, rfl, -, hc, hR, hr, hb⟩
  exact ⟨_, rfl, hr.isUN hR hc (by rw [hl]; exact trK_length _ _ _ _ _ _ _), hb⟩

end Go.Proofs.YtgkepflnnoociacDoor
