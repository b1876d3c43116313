/-
  Texts that stood one behind the other, as one.
-/
import Derived.Test.YtckoipoejaafhaaDoorManyEAll
import Derived.Test.YtckoipoejaafhaaDoorNttC
import Derived.Test.YtckoipoejaafhaaDoorSlAll
import Derived.OpenShut
import Derived.ChangeArms
import Derived.Test.YtckoipoejaafhaaDoorManyCAll
import Derived.BigQuiet
namespace Go.Proofs.YtckoipoejaafhaaDoor
open Go.RowKit
set_option maxRecDepth 100000
structure Bar2 (g h : Nat) (w w' : World) : Prop where
  os : w'.os = w.os
  tape : w'.tape = w.tape
  output : w'.output = w.output
  size : w.heap.size ≤ w'.heap.size
  block : ∀ k, k < w.heap.size → k ≠ g → k ≠ h → w'.heap[k]? = w.heap[k]?
theorem Bar2.refl (g h : Nat) (w : World) : Bar2 g h w w := ⟨rfl, rfl, rfl, Nat.le_refl _, fun _ _ _ _ => rfl⟩
theorem Bar2.trans {g h : Nat} {a b c : World} (p : Bar2 g h a b) (k : Bar2 g h b c) : Bar2 g h a c :=
  ⟨k.os.trans p.os, k.tape.trans p.tape, k.output.trans p.output, Nat.le_trans p.size k.size, fun i hi hg hh => (k.block i (Nat.lt_of_lt_of_le hi p.size) hg hh).trans (p.block i hi hg hh)⟩
theorem Bar.left {g : Nat} {a b : World} (p : Bar g a b) (h : Nat) : Bar2 g h a b := ⟨p.os, p.tape, p.output, p.size, fun k hk hg _ => p.block k hk hg⟩
theorem Bar.right {h : Nat} {a b : World} (p : Bar h a b) (g : Nat) : Bar2 g h a b := ⟨p.os, p.tape, p.output, p.size, fun k hk _ hh => p.block k hk hh⟩
theorem Bar2.of_below {g h : Nat} {a b : World} (p : Below a.heap.size a b) : Bar2 g h a b := ⟨p.os, p.tape, p.output, p.size, fun k hk _ _ => p.block k hk⟩
theorem Bar2.fresh {g h : Nat} {a b c : World} (p : Below a.heap.size a b) (hg : a.heap.size ≤ g) (hh : a.heap.size ≤ h) (k : Bar2 g h b c) : Below a.heap.size a c :=
  p.trans ⟨k.os, k.tape, k.output, k.size, fun i hi => k.block i (Nat.lt_of_lt_of_le hi p.size) (by omega) (by omega)⟩
theorem Bar2.cell {g h : Nat} {w w' : World} {b off : Nat} {u : Value} (p : Bar2 g h w w') (hc : w.cell? ⟨b, off, none⟩ = some u) (hg : b ≠ g) (hh : b ≠ h) : w'.cell? ⟨b, off, none⟩ = some u :=
  (World.cell?_of_block (w := w) (p.block b (block_lt hc) hg hh)).trans hc
theorem IsU.bar2 {w w' : World} {v : Value} {xs : List Nat} {g h : Nat} (p : IsU w v xs) (ha : Apart v g) (hb : Apart v h) (k : Bar2 g h w w') : IsU w' v xs := by
  obtain ⟨a, cap, rfl, h1, h2, hc, hr⟩ := p
  refine ⟨a, cap, rfl, h1, h2, fun i hi => ?_, hr⟩
  obtain ⟨b, off, rfl, hcell⟩ := hc i hi
  exact ⟨b, off, rfl, k.cell hcell (ha b off none _ _ rfl (by omega)) (hb b off none _ _ rfl (by omega))⟩
theorem IsI.cellOf {w : World} {g l c : Nat} {xs : List Nat} (h : IsI w (.slice (some ⟨g, 0, none⟩) l c) xs) (i : Nat) (hi : i < xs.length) : w.cell? ⟨g, i, none⟩ = some (.int .i64 ((xs.getD i 0 : Nat) : Int)) := by
  obtain ⟨a, cap, e, _, _, hc⟩ := h
  simp only [Value.slice.injEq] at e
  obtain ⟨rfl, rfl, rfl⟩ := e
  obtain ⟨b, off, e2, hcell⟩ := hc i hi
  simp only [Option.some.injEq, Addr.mk.injEq, and_true] at e2
  obtain ⟨rfl, rfl⟩ := e2
  rw [Nat.zero_add] at hcell
  exact hcell
def trZ (ds : List Nat) (xs : List Nat) (x : Nat) (back : Bool) (i k : Nat) : List Nat :=
  tb (prd2 ds) fun p => if lnO (beh ds (x + 1)) (sz ds x) p < i ∨ (lnO (beh ds (x + 1)) (sz ds x) p = i ∧ dg (beh ds (x + 1)) (sz ds x) p < k) then (alo ds x back (cf xs) p).val else 0
theorem trZ_length (ds xs : List Nat) (x : Nat) (back : Bool) (i k : Nat) : (trZ ds xs x back i k).length = prd2 ds := tb_length _ _
theorem trZ_start (ds xs : List Nat) (x : Nat) (back : Bool) : trZ ds xs x back 0 0 = List.replicate (prd2 ds) 0 := by
  have e : trZ ds xs x back 0 0 = tb (prd2 ds) (fun _ => 0) := tb_congr fun p _ => if_neg (by omega)
  rw [e]
  unfold tb
  rw [List.map_const', List.length_range]
theorem trZ_line {ds : List Nat} (h : Shp ds) (xs : List Nat) (x : Nat) (hx : x < ds.length) (back : Bool) (i : Nat) : trZ ds xs x back i (sz ds x) = trZ ds xs x back (i + 1) 0 := by
  unfold trZ
  refine tb_congr fun p _ => ?_
  have hd := dg_lt (u := beh ds (x + 1)) (p := p) (P2_pos (h.at x hx))
  congr 1
  simp only [eq_iff_iff]
  omega
theorem trZ_set {ds : List Nat} (h : Shp ds) (xs : List Nat) (x : Nat) (back : Bool) (i k : Nat) (hk : k < sz ds x) :
    (trZ ds xs x back i k).set (ps (beh ds (x + 1)) (sz ds x) i k) (alo ds x back (cf xs) (ps (beh ds (x + 1)) (sz ds x) i k)).val = trZ ds xs x back i (k + 1) := by
  have hu := beh_pos h (x + 1)
  unfold trZ
  rw [tb_set]
  refine tb_congr fun p _ => ?_
  by_cases e : p = ps (beh ds (x + 1)) (sz ds x) i k
  · rw [if_pos e, e, ps_ln hu hk, ps_dg hu hk, if_pos (by omega)]
  · rw [if_neg e]
    have hne : ¬ (lnO (beh ds (x + 1)) (sz ds x) p = i ∧ dg (beh ds (x + 1)) (sz ds x) p = k) := fun ⟨h1, h2⟩ => by
      apply e
      rw [← ps_of hu p, h1, h2]
    congr 1
    simp only [eq_iff_iff]
    omega
theorem trZ_all {ds : List Nat} (h : Shp ds) (xs : List Nat) (x : Nat) (hx : x < ds.length) (back : Bool) : trZ ds xs x back (nln ds x) 0 = mk (prd2 ds) (alo ds x back (cf xs)) := by
  unfold trZ tb mk
  refine List.map_congr_left fun p hp => ?_
  have := List.mem_range.mp hp
  rw [prd2_at ds x hx] at this
  have h1 := ln_lt (beh_pos h (x + 1)) this
  rw [if_pos]
  unfold nln
  omega
def lnQ (xs ls : List Nat) (u d i k : Nat) : List Nat := (List.range d).map fun t => if t < k then xs.getD (ps u d i t) 0 else ls.getD t 0
theorem lnQ_length (xs ls : List Nat) (u d i k : Nat) : (lnQ xs ls u d i k).length = d := by simp [lnQ]
theorem lnQ_zero (xs ls : List Nat) (u d i : Nat) (hl : ls.length = d) : lnQ xs ls u d i 0 = ls := by
  apply List.ext_getElem
  · rw [lnQ_length, hl]
  · intro t h1 h2
    simp [lnQ, List.getD, h2]
theorem lnQ_set (xs ls : List Nat) (u d i k : Nat) : (lnQ xs ls u d i k).set k (xs.getD (ps u d i k) 0) = lnQ xs ls u d i (k + 1) := by
  apply List.ext_getElem
  · simp [lnQ]
  · intro t h1 h2
    rw [List.getElem_set]
    simp only [lnQ, List.getElem_map, List.getElem_range]
    by_cases e : k = t
    · subst e
      rw [if_pos rfl, if_pos (by omega)]
    · rw [if_neg e]
      by_cases e2 : t < k
      · rw [if_pos e2, if_pos (by omega)]
      · rw [if_neg e2, if_neg (by omega)]
theorem lnQ_get (xs ls : List Nat) (u d i t : Nat) (ht : t < d) : (lnQ xs ls u d i d).getD t 0 = xs.getD (ps u d i t) 0 := by simp [lnQ, List.getD, ht]
set_option maxHeartbeats 8000000 in
theorem many_alongAxis (w : World) (v v' : Value) (zs : List Int) (xs ds : List Nat) (x : Nat) (back : Bool) (h : IsZ w v zs) (h' : IsU w v' xs) (ht : Tab w) (hG : Good zs ds) (hn : prd2 ds ≤ 1024) (hl : xs.length = prd2 ds) (hx : x < ds.length) :
    Calls Tryd.prog 93 #[v, v', .int .i64 (x : Int), .bool back] w fun e w' => ∃ g, e = .returned (.slice (some ⟨g, 0, none⟩) (prd2 ds) (prd2 ds)) ∧ w.heap.size ≤ g ∧ RowU w' g (mk (prd2 ds) (alo ds x back (cf xs))) ∧ Below w.heap.size w w' := by
  have hS : Shp ds := hG.2.2.2
  have hA := h'
  obtain ⟨a, cap, rfl, hcap, hmax, hc, hrx⟩ := h'
  clear hcap hmax
  have cL := fun (W : World) (hb : Below w.heap.size w W) => many_linesOf W v zs ds x (h.below hb) hG hn hx
  rw [lns_eq hS x hx] at cL
  have hpos : 0 < prd2 ds := prd2_pos hS.pos
  have hxl : 0 < xs.length := by omega
  have hd0 := P2_pos (hS.at x hx)
  have hu0 := beh_pos hS (x + 1)
  have hnl : nln ds x ≤ 1024 := by rw [← nln_div hS x hx]; exact Nat.le_trans (Nat.div_le_self _ _) hn
  obtain ⟨kk, hkk, hkk10, -⟩ := axW_ord hS hn x hx
  have hd9 := sz_le hS hn x hx
  have hpslt : Hid (∀ i k, i < nln ds x → k < sz ds x → ps (beh ds (x + 1)) (sz ds x) i k < prd2 ds) := fun i k hi hk => by
    rw [prd2_at ds x hx]; exact ps_lt hu0 hi hk
  have hline : Hid (∀ i, i < nln ds x → (((List.range (nln ds x)).map fun i => lin ds x (ps (beh ds (x + 1)) (sz ds x) i 0) (sz ds x)).getD i []) = lin ds x (ps (beh ds (x + 1)) (sz ds x) i 0) (sz ds x)) := fun i hi => by simp [List.getD, hi]
  have hLl : ((List.range (nln ds x)).map fun i => lin ds x (ps (beh ds (x + 1)) (sz ds x) i 0) (sz ds x)).length = nln ds x := by simp
  have hstart : Hid (trZ ds xs x back 0 0 = List.replicate (prd2 ds) 0) := trZ_start ds xs x back
  have hsets : Hid (∀ i k, k < sz ds x → (trZ ds xs x back i k).set (ps (beh ds (x + 1)) (sz ds x) i k) (alo ds x back (cf xs) (ps (beh ds (x + 1)) (sz ds x) i k)).val = trZ ds xs x back i (k + 1)) := fun i k hk => trZ_set hS xs x back i k hk
  have hlines : Hid (∀ i, trZ ds xs x back i (sz ds x) = trZ ds xs x back (i + 1) 0) := fun i => trZ_line hS xs x hx back i
  have hall : Hid (trZ ds xs x back (nln ds x) 0 = mk (prd2 ds) (alo ds x back (cf xs))) := trZ_all hS xs x hx back
  have halo : Hid (∀ ls i k, k < sz ds x → alo ds x back (cf xs) (ps (beh ds (x + 1)) (sz ds x) i k) = (if back then bw (lnQ xs ls (beh ds (x + 1)) (sz ds x) i (sz ds x)) kk k else fw (lnQ xs ls (beh ds (x + 1)) (sz ds x) i (sz ds x)) kk k)) := fun ls i k hk =>
    alo_line hS xs x back i k kk hk hkk _ (fun t ht => lnQ_get xs ls _ _ i t ht)
  have hlp : Hid (∀ i t, t < sz ds x → (lin ds x (ps (beh ds (x + 1)) (sz ds x) i 0) (sz ds x)).getD t 0 = ps (beh ds (x + 1)) (sz ds x) i t) := fun i t ht => lin_ps ds x i t ht
  have hpl : Hid (∀ i k, (trZ ds xs x back i k).length = prd2 ds) := fun i k => trZ_length ds xs x back i k
  have hrng : Hid (∀ u d i k ls, Rng ls → Rng (lnQ xs ls u d i k)) := fun u d i k ls hls z hz => by
    obtain ⟨p, _, rfl⟩ := List.mem_map.mp hz
    split
    · exact range_getD hrx _
    · exact range_getD hls _
  have hcz : Hid (∀ W : World, Below w.heap.size w W → ∃ bz oz nz cz, v = .slice (some ⟨bz, oz, none⟩) nz cz ∧ x < nz ∧ W.cell? ⟨bz, oz + x, none⟩ = some (.int .i64 ((sz ds x : Nat) : Int))) := fun W hb => by
    obtain ⟨az, cz, rfl, -, -, hcz, -⟩ := h
    have hlen : zs.length = ds.length := by rw [hG.2.2.1, List.length_map]
    obtain ⟨bz, oz, rfl, hcell⟩ := hcz x (by omega)
    rw [(Good_get hG x (by omega)).1] at hcell
    exact ⟨bz, oz, _, cz, rfl, by omega, (hb.cell (block_lt hcell)).trans hcell⟩
  generalize (List.range (nln ds x)).map (fun i => lin ds x (ps (beh ds (x + 1)) (sz ds x) i 0) (sz ds x)) = L at *
  have hLl' : Hid (L.length = nln ds x) := hLl
  have hkk' : Hid (sz ds x = 2 ^ kk) := hkk
  have hll : Hid (∀ i, (lin ds x (ps (beh ds (x + 1)) (sz ds x) i 0) (sz ds x)).length = sz ds x) := fun i => lin_length _ _ _ _
  generalize mk (prd2 ds) (alo ds x back (cf xs)) = RL at *
  rw [hl] at hA hxl ⊢
  have hl' : Hid (xs.length = prd2 ds) := hl
  clear hLl hkk hl hu0 hpos h hx hS hG
  generalize nln ds x = M at *
  generalize hde : sz ds x = d at *
  clear hde
  generalize hue : beh ds (x + 1) = u at *
  clear hue
  generalize hNe : prd2 ds = N at *
  clear hNe
  have hn9 : N ≤ 1000000000 := by omega
  have hd10 : d ≤ 1000000000 := by omega
  obtain ⟨bz, oz, nz, cz, rfl, hxz, hcell0⟩ := hcz.out w (Below.refl _ _)
  have hcz' : ∀ W : World, Below w.heap.size w W → W.cell? ⟨bz, oz + x, none⟩ = some (.int .i64 ((d : Nat) : Int)) := fun W hb => (hb.cell (block_lt hcell0)).trans hcell0
  clear hcell0 hcz
  obtain ⟨R, hR⟩ : ∃ R : List Nat → Nat → List Nat, ∀ ls i, R ls i = mk d (fun t => if back then bw (lnQ xs ls u d i d) kk t else fw (lnQ xs ls u d i d) kk t) := ⟨fun ls i => mk d (fun t => if back then bw (lnQ xs ls u d i d) kk t else fw (lnQ xs ls u d i d) kk t), fun _ _ => rfl⟩
  have hRl : Hid (∀ ls i, (R ls i).length = d) := fun ls i => by rw [hR, mk_length]
  have hset2 : Hid (∀ ls i k, k < d → (trZ ds xs x back i k).set (ps u d i k) ((R ls i).getD k 0) = trZ ds xs x back i (k + 1)) := fun ls i k hk => by
    have e : (R ls i).getD k 0 = (alo ds x back (cf xs) (ps u d i k)).val := by rw [hR, mk_getD d _ k hk, halo.out ls i k hk]
    rw [e, hsets.out i k hk]
  have cF : Hid (back = false → ∀ (W : World) (v : Value) (ls : List Nat) (i : Nat), IsU W v (lnQ xs ls u d i d) → Tab W → Calls Tryd.prog 101 #[v] W fun e w' => ∃ g, e = .returned (.tuple #[.slice (some ⟨g, 0, none⟩) d d, .int .i64 0]) ∧ W.heap.size ≤ g ∧ RowU w' g (R ls i) ∧ Below W.heap.size W w') := fun hb W v ls i hU hT => by
    have c := ntt_Forward_row W v _ kk hU hT (by rw [lnQ_length, hkk'.out]) hkk10
    rw [← hkk'.out] at c
    rw [hR]
    subst hb
    exact c
  have cI : Hid (back = true → ∀ (W : World) (v : Value) (ls : List Nat) (i : Nat), IsU W v (lnQ xs ls u d i d) → Tab W → Calls Tryd.prog 102 #[v] W fun e w' => ∃ g, e = .returned (.tuple #[.slice (some ⟨g, 0, none⟩) d d, .int .i64 0]) ∧ W.heap.size ≤ g ∧ RowU w' g (R ls i) ∧ Below W.heap.size W w') := fun hb W v ls i hU hT => by
    have c := ntt_Inverse_row W v _ kk hU hT (by rw [lnQ_length, hkk'.out]) hkk10
    rw [← hkk'.out] at c
    rw [hR]
    subst hb
    exact c
  clear hR halo hsets hkk' hkk10
  generalize trZ ds xs x back = T at *
  cases back
  all_goals
    first
      | (have cX := cF.out rfl)
      | (have cX := cI.out rfl)
    clear cF cI
    go_enter Tryd.func93, Tryd.ntmps93
    go_wp2_with (first
      | (at_make; refine wp_makeG rfl _ _ rfl N rfl rfl hn9 ?_; intro gr w2 hgr hrow hb; have hcz2 := hcz' w2 hb; clear hn9)
      | (at_make; refine wp_makeG rfl _ _ rfl d rfl rfl hd10 ?_; intro gn w3 hgn hrown hb3; have hb3' := hb.trans (hb3.mono hb.size))
      | (go_at_call 129; refine Calls.mono (cL _ hb3') ?_; rintro e w4 ⟨ul, rfl, ⟨al, cpl, rfl, -, -, hLc⟩, hb4⟩))
    have hgrw : w.heap.size ≤ gr := Nat.le_of_eq hgr.out.symm
    have hgr2 := hrow.lt
    have hgnw : w2.heap.size ≤ gn := Nat.le_of_eq hgn.out.symm
    have hgn3 := hrown.lt
    have hsz := hb.size
    have hsz3 := hb3.size
    have hgnw' : w.heap.size ≤ gn := by omega
    have hrow4 := (hrow.below hb3).below hb4
    have hrown4 := hrown.below hb4
    have hB4 : Below w.heap.size w w4 := hb3'.trans (hb4.mono hb3'.size)
    have hne : gr ≠ gn := by omega
    have hAr := hA.apart hgrw
    have hAn : Apart (.slice a N cap) gn := hA.apart hgnw'
    have hg4 : gr < w4.heap.size ∧ gn < w4.heap.size := ⟨hrow4.lt, hrown4.lt⟩
    have hrr : Hid ((List.replicate d 0).length = d ∧ Rng (List.replicate d 0)) := ⟨List.length_replicate, Rng_replicate d⟩
    have hLm := hLl'.out
    rw [hLm] at hLc ⊢
    clear hrow hrown hb hb3 hb3' hb4 hgr hgn hcz2 cL hcz' hd10 hLm
    go_loopw [35] (fun vi wr => ∃ (i : Nat) (ls : List Nat), i ≤ M ∧ vi = .int .i64 (i : Int) ∧ RowU wr gr (T i 0) ∧ RowU wr gn ls ∧ Hid (ls.length = d ∧ Rng ls) ∧ Bar2 gr gn w4 wr)
      (fun vi _ => M - (intOf vi).toNat)
    case atStart => exact ⟨0, _, Nat.zero_le _, rfl, hrow4.cast hstart.out.symm, hrown4, hrr, Bar2.refl _ _ _⟩
    case round =>
      clear hrow4 hrown4 hrr
      obtain ⟨i, ls, hi, rfl, hrow, hrown, hls, hbar⟩ := hrel
      by_cases hlt : i < M
      · obtain ⟨b, off, gl, cl, rfl, hBb, hBgl, hcl, hI⟩ := hLc i hlt
        rw [hline.out i hlt, hll.out i] at hcl hI
        have hct : ∀ t, t < d → w4.cell? ⟨gl, t, none⟩ = some (.int .i64 ((ps u d i t : Nat) : Int)) := fun t ht => by
          have := hI.cellOf t (by rw [hll.out]; exact ht)
          rw [hlp.out i t ht] at this
          exact this
        have hps := fun k (hk : k < d) => hpslt.out i k hlt hk
        have hnb : b ≠ gr ∧ b ≠ gn := by omega
        have hngl : gl ≠ gr ∧ gl ≠ gn := by omega
        have hcl1 := hbar.cell hcl hnb.1 hnb.2
        have hct1 := fun t (ht : t < d) => hbar.cell (hct t ht) hngl.1 hngl.2
        have hA1 := (hA.below hB4).bar2 hAr hAn hbar
        obtain ⟨ba, oa, rfl, -⟩ := hc 0 (by rw [hl'.out]; exact hxl)
        have hca : ∀ k, k < d → wr.cell? ⟨ba, oa + ps u d i k, none⟩ = some (.int .u64 ((xs.getD (ps u d i k) 0 : Nat) : Int)) := fun k hk => hA1.cell _ (by rw [hl'.out]; exact hps k hk)
        have hbn : ba ≠ gn := hAn ba oa none _ _ rfl hxl
        obtain ⟨wo, hwo⟩ : ∃ wo : World, wo = wr := ⟨_, rfl⟩
        rw [← hwo] at hrow hrown hbar hcl1 hct1 hA1 hca ⊢
        have hwo4 := hbar.size
        clear hwo hcl hct hc hLc hI
        go_wp2
        go_loopw [41] (fun vk wr => ∃ k : Nat, k ≤ d ∧ vk = .int .i64 (k : Int) ∧ RowU wr gn (lnQ xs ls u d i k) ∧ Bar gn wo wr)
          (fun vk _ => d - (intOf vk).toNat)
        case atStart => exact ⟨0, Nat.zero_le _, rfl, hrown.cast (lnQ_zero xs ls u d i hls.out.1).symm, Bar.refl _ _⟩
        case round =>
          clear hrown
          obtain ⟨k, hk, rfl, hrown, hbn2⟩ := hrel
          by_cases hkd : k < d
          · have q1 := hps k hkd
            have q2 := (World.cell?_of_block (w := wo) (hbn2.block gl (block_lt (hct1 k hkd)) hngl.2)).trans (hct1 k hkd)
            have q3 := (World.cell?_of_block (w := wo) (hbn2.block ba (block_lt (hca k hkd)) hbn)).trans (hca k hkd)
            have q4 := hrown.cell k (by rw [lnQ_length]; exact hkd)
            have q5 := hrown.frozen k
            have q6 := hrown.set k (xs.getD (ps u d i k) 0)
            rw [lnQ_set] at q6
            have hB2 := hbn2.setCell k (.int .u64 ((xs.getD (ps u d i k) 0 : Nat) : Int))
            clear hrown hbn2 hps hct1 hca hA1 hA hAr hAn hrow hbar hcl1 hrx
            generalize xs.getD (ps u d i k) 0 = z at *
            generalize (lnQ xs ls u d i k).getD k 0 = old at *
            generalize ps u d i k = pk at *
            go_wp2
            go_roundw
            case rel => exact ⟨k + 1, by omega, by go_num, q6, hB2⟩
            case measure => simp only [intOf]; omega
          · have e : d = k := by omega
            subst e
            have hU := hrown.isUN (hrng.out u d i d ls hls.out.2) (by rw [lnQ_length]; omega) (lnQ_length xs ls u d i d)
            have hTw : Tab wr := ht.below ((Bar2.fresh hB4 hgrw hgnw' hbar).trans (hbn2.below hgnw' (Bar2.fresh hB4 hgrw hgnw' hbar).size))
            have c1 := cX wr _ ls i hU hTw
            have hrow3 := hrow.bar hne hbn2
            have q1 := (World.cell?_of_block (w := wo) (hbn2.block b (block_lt hcl1) hnb.2)).trans hcl1
            have q2 := fun t (ht : t < d) => (World.cell?_of_block (w := wo) (hbn2.block gl (block_lt (hct1 t ht)) hngl.2)).trans (hct1 t ht)
            have hls2 : Hid ((lnQ xs ls u d i d).length = d ∧ Rng (lnQ xs ls u d i d)) := ⟨lnQ_length _ _ _ _ _ _, hrng.out u d i d ls hls.out.2⟩
            have hbar3 : Bar2 gr gn w4 wr := hbar.trans (hbn2.right gr)
            have hs2 : Hid (∀ k, k < d → (T i k).set (ps u d i k) ((R ls i).getD k 0) = T i (k + 1)) := fun k hk => hset2.out ls i k hk
            have hRl2 : Hid ((R ls i).length = d) := hRl.out ls i
            generalize lnQ xs ls u d i d = ln at *
            generalize R ls i = rl at *
            obtain ⟨w3, hw3⟩ : ∃ w3 : World, w3 = wr := ⟨_, rfl⟩
            rw [← hw3] at hrow3 hrown q1 q2 c1 hbar3 ⊢
            clear hw3 hU hTw hrow hbn2 hcl1 hct1 hca hbar hls hA1 hwo4
            go_wp2_with (first
              | (go_at_call 101; refine Calls.mono c1 ?_; rintro e w5 ⟨g5, rfl, hg5, hr5, hb5⟩)
              | (go_at_call 102; refine Calls.mono c1 ?_; rintro e w5 ⟨g5, rfl, hg5, hr5, hb5⟩))
            have hrow5 := hrow3.below hb5
            have hrown5 := hrown.below hb5
            have hg5r : g5 ≠ gr := by have := hrow3.lt; omega
            have hbar5 : Bar2 gr gn w4 w5 := hbar3.trans (Bar2.of_below hb5)
            have q1' := (hb5.cell (block_lt q1)).trans q1
            have q2' := fun t (ht : t < d) => (hb5.cell (block_lt (q2 t ht))).trans (q2 t ht)
            clear hrow3 hrown hb5 hbar3 q1 q2 c1 hg5
            go_loopw [62] (fun vk wr => ∃ k : Nat, k ≤ d ∧ vk = .int .i64 (k : Int) ∧ RowU wr gr (T i k) ∧ Bar gr w5 wr)
              (fun vk _ => d - (intOf vk).toNat)
            case atStart => exact ⟨0, Nat.zero_le _, rfl, hrow5, Bar.refl _ _⟩
            case round =>
              clear hrow5
              obtain ⟨k, hk, rfl, hrowk, hbk⟩ := hrel
              by_cases hkd2 : k < d
              · have p1 := hps k hkd2
                have p2 := (World.cell?_of_block (w := w5) (hbk.block gl (block_lt (q2' k hkd2)) hngl.1)).trans (q2' k hkd2)
                have p3 := (hr5.bar hg5r hbk).cell k (by rw [hRl2.out]; exact hkd2)
                have p4 := hrowk.cell (ps u d i k) (by rw [hpl.out]; exact p1)
                have p5 := hrowk.frozen (ps u d i k)
                have p6 := hrowk.set (ps u d i k) (rl.getD k 0)
                rw [hs2.out k hkd2] at p6
                have hB2 := hbk.setCell (ps u d i k) (.int .u64 ((rl.getD k 0 : Nat) : Int))
                clear hrowk hbk q1' q2' hps hs2 hr5 hrown5 hbar5
                generalize rl.getD k 0 = z at *
                generalize (T i k).getD (ps u d i k) 0 = old at *
                generalize ps u d i k = pk at *
                go_wp2
                go_roundw
                case rel => exact ⟨k + 1, by omega, by go_num, p6, hB2⟩
                case measure => simp only [intOf]; omega
              · have e : d = k := by omega
                subst e
                rw [hlines.out] at hrowk
                have hrn := hrown5.bar (Ne.symm hne) hbk
                have hbN : Bar2 gr gn w4 wr := hbar5.trans (hbk.left gn)
                clear q1' q2' hps hs2 hr5 hrown5 hbar5 hbk
                go_wp2
                go_roundw
                case rel => exact ⟨i + 1, ln, by omega, by go_num, hrowk, hrn, hls2, hbN⟩
                case measure => simp only [intOf]; omega
      · have e : M = i := by omega
        subst e
        rw [hall.out] at hrow
        have hge : M ≤ M := Nat.le_refl _
        have hBN : Below w.heap.size w wr := Bar2.fresh hB4 hgrw hgnw' hbar
        clear hLc hc hbar hrown hls
        go_wp2
        go_ret
        exact ⟨gr, rfl, hgrw, hrow, hBN⟩
set_option maxHeartbeats 2000000 in
theorem many_alongAll (w : World) (v v' : Value) (zs : List Int) (xs ds : List Nat) (back : Bool) (h : IsZ w v zs) (h' : IsU w v' xs) (ht : Tab w) (hG : Good zs ds) (hn : prd2 ds ≤ 1024) (hl : xs.length = prd2 ds) :
    Calls Tryd.prog 46 #[v, v', .bool back] w fun e w' => ∃ g, e = .returned (.slice (some ⟨g, 0, none⟩) (prd2 ds) (prd2 ds)) ∧ w.heap.size ≤ g ∧ RowU w' g (mk (prd2 ds) (who ds back (cf xs) ds.length)) ∧ Below w.heap.size w w' := by
  have hS : Shp ds := hG.2.2.2
  have hlen : zs.length = ds.length := by rw [hG.2.2.1, List.length_map]
  have h1 : 1 ≤ ds.length := by rw [← hlen]; exact hG.1
  have h3 : ds.length ≤ 3 := by rw [← hlen]; exact hG.2.1
  have cT : Hid (∀ (W : World) (u : Value) (cur : List Nat) (x : Nat), Below w.heap.size w W → IsU W u cur → cur.length = prd2 ds → x < ds.length → Calls Tryd.prog 93 #[v, u, .int .i64 (x : Int), .bool back] W fun e w' => ∃ g, e = .returned (.slice (some ⟨g, 0, none⟩) (prd2 ds) (prd2 ds)) ∧ W.heap.size ≤ g ∧ RowU w' g (mk (prd2 ds) (alo ds x back (cf cur))) ∧ Below W.heap.size W w') := fun W u cur x hb hU hcl hx =>
    many_alongAxis W v u zs cur ds x back (h.below hb) hU (ht.below hb) hG hn hcl hx
  have hstep : Hid (∀ (cur : List Nat) (x : Nat), x < ds.length → (∀ i, i < prd2 ds → cf cur i = who ds back (cf xs) x i) → mk (prd2 ds) (alo ds x back (cf cur)) = mk (prd2 ds) (who ds back (cf xs) (x + 1))) := fun cur x hx hcur =>
    mk_congr fun p hp => by rw [who_succ]; exact alo_congr hS x hx back hcur p hp
  have hl' : Hid (xs.length = prd2 ds) := hl
  have hn' : Hid (prd2 ds ≤ 1024) := hn
  obtain ⟨a, cap, rfl, -⟩ := h
  rw [hlen] at cT ⊢
  clear hG hS hlen hl hn ht
  generalize hN : prd2 ds = N at *
  clear hN
  go_enter Tryd.func46, Tryd.ntmps46
  go_wp2
  go_loopw [1, 10] (fun va vi wr => ∃ (x : Nat) (cur : List Nat), x ≤ ds.length ∧ vi = .int .i64 (x : Int) ∧ IsU wr va cur ∧ Hid (cur.length = N) ∧ Hid (∀ i, i < N → cf cur i = who ds back (cf xs) x i) ∧ Hid (0 < x → ∃ g, va = .slice (some ⟨g, 0, none⟩) N N ∧ w.heap.size ≤ g ∧ RowU wr g (mk N (who ds back (cf xs) x))) ∧ Below w.heap.size w wr)
    (fun _ vi _ => ds.length - (intOf vi).toNat)
  case atStart => exact ⟨0, xs, Nat.zero_le _, rfl, h', hl', fun i _ => rfl, fun h0 => absurd h0 (Nat.lt_irrefl 0), Below.refl _ _⟩
  case round =>
    obtain ⟨x, cur, hx, rfl, hU, hcl, hcf, hcm, hbw⟩ := hrel
    by_cases hlt : x < ds.length
    · have c1 := cT.out wr _ cur x hbw hU hcl.out hlt
      rw [hstep.out cur x hlt hcf.out] at c1
      have hnew : Hid (∀ i, i < N → cf (mk N (who ds back (cf xs) (x + 1))) i = who ds back (cf xs) (x + 1) i) := fun i hi => by rw [cf_mk, if_pos hi]
      have hlm : Hid ((mk N (who ds back (cf xs) (x + 1))).length = N) := mk_length _ _
      have hrm : Hid (Rng (mk N (who ds back (cf xs) (x + 1)))) := Rng_of_P (mk_lt _ _)
      have hsz := hbw.size
      obtain ⟨nw, hnw⟩ : ∃ nw : List Nat, nw = mk N (who ds back (cf xs) (x + 1)) := ⟨_, rfl⟩
      have hnw' : Hid (nw = mk N (who ds back (cf xs) (x + 1))) := hnw
      rw [← hnw] at c1 hnew hlm hrm
      clear cT hstep hcf hcm hcl hU hnw
      go_wp2_with (go_at_call 93; refine Calls.mono c1 ?_; rintro e w2 ⟨g, rfl, hg, hr, hb2⟩)
      have hU2 := hr.isUN hrm.out (by rw [hlm.out]; have := hn'.out; omega) hlm.out
      go_roundw
      case rel => exact ⟨x + 1, nw, by omega, by go_num, hU2, hlm, hnew, fun _ => ⟨g, rfl, by omega, hr.cast hnw'.out⟩, hbw.trans (hb2.mono hbw.size)⟩
      case measure => simp only [intOf]; omega
    · have e : ds.length = x := by omega
      subst e
      obtain ⟨g, rfl, hg, hr⟩ := hcm.out (by omega)
      clear cT hstep hcf hcm hcl hU
      go_wp2
      go_ret
      exact ⟨g, rfl, hg, hr, hbw⟩
end Go.Proofs.YtckoipoejaafhaaDoor

namespace Go.Proofs.YtckoipoejaafhaaDoor
open Go.RowKit Go.ChangeShapes Go.WideShapes
section
variable {H : Type} {enc : TypeId × Value → H} {P : Program} {w : World} {base : Nat} {spare : Nat → Bool} {held : Bool} {fuel : Nat} {t : TypeId} {cs : List Value} {x : DataW H × List MemPlace}
end
theorem len_3 {l : List Int} (h : l.length = 3) : ∃ a b c, l = [a, b, c] := by
  match l, h with
  | [a, b, c], _ => exact ⟨a, b, c, rfl⟩
def IsR (k : Nat) (w : World) (v : Value) (L : List (List Int)) : Prop :=
  ∃ (a : Option Addr) (cap : Nat), v = .slice a L.length cap ∧ L.length ≤ cap ∧ cap ≤ maxLen ∧
    (∀ i, i < L.length → ∃ b off, a = some ⟨b, off, none⟩ ∧ ∀ j, j < k → w.cell? ⟨b, off + (i * k + j), none⟩ = some (.int .i64 ((L.getD i []).getD j 0))) ∧
    (∀ r ∈ L, r.length = k ∧ ∀ z ∈ r, -9223372036854775808 ≤ z ∧ z ≤ 9223372036854775807)
theorem IsR.below {k : Nat} {w w' : World} {v : Value} {L : List (List Int)} (h : IsR k w v L) (hb : Below w.heap.size w w') : IsR k w' v L := by
  obtain ⟨a, cap, rfl, h1, h2, hc, hr⟩ := h
  refine ⟨a, cap, rfl, h1, h2, fun i hi => ?_, hr⟩
  obtain ⟨b, off, rfl, hcell⟩ := hc i hi
  exact ⟨b, off, rfl, fun j hj => (hb.cell (block_lt (hcell j hj))).trans (hcell j hj)⟩
section
variable {H : Type} {enc : TypeId × Value → H} {P : Program} {w : World} {base : Nat} {spare : Nat → Bool} {held : Bool} {t e : TypeId} {d : DataW H} {p : List MemPlace}
end
def IsP (k : Nat) (w : World) (v : Value) (L : List (List (List Int))) : Prop :=
  ∃ (a : Option Addr) (cap : Nat), v = .slice a L.length cap ∧ L.length ≤ cap ∧ cap ≤ maxLen ∧
    ∀ i, i < L.length → ∃ b off u, a = some ⟨b, off, none⟩ ∧ w.cell? ⟨b, off + i, none⟩ = some u ∧ IsR k w u (L.getD i [])
section
variable {H : Type} {enc : TypeId × Value → H} {P : Program} {w : World} {base : Nat} {spare : Nat → Bool} {held : Bool} {t q e : TypeId} {d : DataW H} {p : List MemPlace}
end
end Go.Proofs.YtckoipoejaafhaaDoor

namespace Go.Proofs.YtckoipoejaafhaaDoor
open Go.RowKit
set_option maxRecDepth 100000
def T3 (T : List (List Int)) : Prop := ∀ r ∈ T, r.length = 3 ∧ ∀ z ∈ r, -9223372036854775808 ≤ z ∧ z ≤ 9223372036854775807
theorem T3.append {A B : List (List Int)} (hA : T3 A) (hB : T3 B) : T3 (A ++ B) := fun r hr => by
  rcases List.mem_append.mp hr with h | h
  · exact hA r h
  · exact hB r h
theorem T3.one {a b c : Int} (ha : -9223372036854775808 ≤ a ∧ a ≤ 9223372036854775807) (hb : -9223372036854775808 ≤ b ∧ b ≤ 9223372036854775807) (hc : -9223372036854775808 ≤ c ∧ c ≤ 9223372036854775807) : T3 [[a, b, c]] := fun r hr => by
  simp only [List.mem_singleton] at hr
  subst hr
  refine ⟨rfl, fun z hz => ?_⟩
  simp only [List.mem_cons, List.not_mem_nil, or_false] at hz
  rcases hz with rfl | rfl | rfl
  · exact ha
  · exact hb
  · exact hc
theorem info_task : (Tryd.prog.info? 71).map (fun i => (i.zero, i.size, i.bytes)) = some (some (.agg #[.int .i64 0, .int .i64 0, .int .i64 0]), 3, 24) := by kernel_rfl
theorem info_phase : (Tryd.prog.info? 69).map (fun i => (i.zero, i.size, i.bytes)) = some (some (.slice none 0 0), 1, 24) := by kernel_rfl
def ful (x c t : Nat) : List (List Int) := (List.range t).map fun (s : Nat) => [(x : Int), ((s * c : Nat) : Int), (((s + 1) * c : Nat) : Int)]
def chn (x c n : Nat) : List (List Int) := if n = 0 then [] else ful x c ((n - 1) / c) ++ [[(x : Int), (((n - 1) / c * c : Nat) : Int), (n : Int)]]
theorem ful_length (x c t : Nat) : (ful x c t).length = t := by simp [ful]
theorem ful_succ (x c t : Nat) : ful x c (t + 1) = ful x c t ++ [[(x : Int), ((t * c : Nat) : Int), (((t + 1) * c : Nat) : Int)]] := by simp [ful, List.range_succ]
theorem chn_at (x c n t : Nat) (h1 : t * c < n) (h2 : n ≤ (t + 1) * c) : chn x c n = ful x c t ++ [[(x : Int), ((t * c : Nat) : Int), (n : Int)]] := by
  unfold chn
  rw [if_neg (by omega)]
  have e : (n - 1) / c = t := by
    rw [Nat.div_eq_iff (Nat.pos_of_ne_zero (fun h => by subst h; omega))]
    rw [Nat.add_mul, Nat.one_mul] at h2
    omega
  rw [e]
theorem ful_T3 (x c t n : Nat) (hx : x ≤ 1024) (hn : t * c ≤ n) (h9 : n ≤ 1024) : T3 (ful x c t) := by
  intro r hr
  obtain ⟨s, hs, rfl⟩ := List.mem_map.mp hr
  have hs' := List.mem_range.mp hs
  have h1 : (s + 1) * c ≤ t * c := Nat.mul_le_mul_right _ hs'
  have h2 : s * c ≤ (s + 1) * c := Nat.mul_le_mul_right _ (by omega)
  refine ⟨rfl, fun z hz => ?_⟩
  simp only [List.mem_cons, List.not_mem_nil, or_false] at hz
  rcases hz with rfl | rfl | rfl <;> omega
def pls (ds : List Nat) (c x : Nat) : List (List (List Int)) := (List.range x).map fun y => chn y c (nln ds y)
theorem pls_length (ds : List Nat) (c x : Nat) : (pls ds c x).length = x := by simp [pls]
def Few (ds : List Nat) (c x : Nat) : Prop := ∀ y, y < x → (chn y c (nln ds y)).length ≤ 64
end Go.Proofs.YtckoipoejaafhaaDoor
