/-
  Texts that stood one behind the other, as one.
-/
import Derived.Test.YtckoipoejaafhaaDoorManyCAll
import Derived.Test.YtckoipoejaafhaaDoorNttCAll
import Derived.Test.YtckoipoejaafhaaDoorRefLinesAll
/-! Tasks and phases that are right; lines transformed in whatever order; no program in sight. -/
namespace Go.Proofs.YtckoipoejaafhaaDoor

/-- A right task of an axis of n lines; how often a line is met. -/
def Vld (n x : Nat) (r : List Int) : Prop := r.getD 0 0 = (x : Int) ∧ 0 ≤ r.getD 1 0 ∧ r.getD 2 0 ≤ (n : Int) ∧ r.getD 1 0 < r.getD 2 0
def hit (r : List Int) (k : Nat) : Nat := if r.getD 1 0 ≤ (k : Int) ∧ (k : Int) < r.getD 2 0 then 1 else 0
def hits (T : List (List Int)) (k : Nat) : Nat := (T.map fun r => hit r k).sum
def RgtP (n x : Nat) (T : List (List Int)) : Prop := (∀ r ∈ T, Vld n x r) ∧ ∀ k, k < n → hits T k = 1
def Fine (ds : List Nat) (L : List (List (List Int))) : Prop := L.length = ds.length ∧ ∀ y, y < ds.length → RgtP (nln ds y) y (L.getD y [])
def BigP (L : List (List (List Int))) (x : Nat) : Prop := ∃ y, y < x ∧ 64 < (L.getD y []).length
theorem hits_succ (T : List (List Int)) (i k : Nat) (hi : i < T.length) : hits (T.take (i + 1)) k = hits (T.take i) k + hit (T.getD i []) k := by
  unfold hits
  rw [List.take_add_one, List.getElem?_eq_getElem hi, List.map_append, List.sum_append]
  simp [List.getD, List.getElem?_eq_getElem hi]
theorem hits_le (T : List (List Int)) (k : Nat) : hits T k ≤ T.length := by
  induction T with
  | nil => simp [hits]
  | cons r T ih =>
    have h1 : hit r k ≤ 1 := by unfold hit; split <;> omega
    simp only [hits, List.map_cons, List.sum_cons, List.length_cons] at ih ⊢
    omega
theorem valid_succ {n x : Nat} {T : List (List Int)} {i : Nat} (hi : i < T.length) (h : ∀ r ∈ T.take i, Vld n x r) (h1 : Vld n x (T.getD i [])) : ∀ r ∈ T.take (i + 1), Vld n x r := by
  intro r hr
  rw [List.take_add_one, List.getElem?_eq_getElem hi] at hr
  rcases List.mem_append.mp hr with h2 | h2
  · exact h r h2
  · simp only [Option.toList_some, List.mem_singleton] at h2
    rw [h2]
    simpa [List.getD, List.getElem?_eq_getElem hi] using h1
theorem getD_mem {T : List (List Int)} {i : Nat} (hi : i < T.length) : T.getD i [] ∈ T := by
  rw [List.getD, List.getElem?_eq_getElem hi]
  exact List.getElem_mem hi
/-- Those lines of axis x transformed of which D says so. -/
def trS (ds xs : List Nat) (x : Nat) (back : Bool) (D : Nat → Bool) : List Nat :=
  tb (prd2 ds) fun p => if D (lnO (beh ds (x + 1)) (sz ds x) p) = true then (alo ds x back (cf xs) p).val else xs.getD p 0
theorem trS_none {ds xs : List Nat} (hl : xs.length = prd2 ds) (x : Nat) (back : Bool) : trS ds xs x back (fun _ => false) = xs := by
  have : trS ds xs x back (fun _ => false) = tb xs.length (fun p => xs.getD p 0) := by
    unfold trS; rw [hl]
    exact tb_congr fun p _ => if_neg (by simp)
  rw [this, tb_self]
/-- A number of a line hangs on that line alone. -/
theorem alo_same {ds : List Nat} (h : Shp ds) (x : Nat) (hx : x < ds.length) (b : Bool) {f g : Nat → F} (p : Nat) (hp : p < prd2 ds)
    (hfg : ∀ q, q < prd2 ds → lnO (beh ds (x + 1)) (sz ds x) q = lnO (beh ds (x + 1)) (sz ds x) p → f q = g q) : alo ds x b f p = alo ds x b g p := by
  have hu := beh_pos h (x + 1)
  have hd := P2_pos (h.at x hx)
  have hk := dg_lt (u := beh ds (x + 1)) (p := p) hd
  unfold alo ax
  congr 1
  refine dft_congr (fun s hs => ?_) _
  have e : st (beh ds (x + 1)) (sz ds x) p s = ps (beh ds (x + 1)) (sz ds x) (lnO (beh ds (x + 1)) (sz ds x) p) s := by
    have := ps_st (i := lnO (beh ds (x + 1)) (sz ds x) p) hu hk s
    rw [ps_of hu p] at this
    exact this
  rw [e]
  refine hfg _ ?_ (ps_ln hu hs)
  have hln : lnO (beh ds (x + 1)) (sz ds x) p < beh ds (x + 1) * prd2 (ds.take x) := by
    rw [prd2_at ds x hx] at hp
    exact ln_lt hu hp
  rw [prd2_at ds x hx]
  exact ps_lt hu hln hs
theorem trS_step {ds : List Nat} (h : Shp ds) (xs : List Nat) (x : Nat) (hx : x < ds.length) (back : Bool) (D : Nat → Bool) (f l : Nat) (hD : ∀ i, f ≤ i → i < l → D i = false) :
    trn ds (trS ds xs x back D) x f l back = trS ds xs x back (fun i => D i || (decide (f ≤ i) && decide (i < l))) := by
  unfold trn trK
  conv => rhs; unfold trS
  refine tb_congr fun p hp => ?_
  by_cases hin : f ≤ lnO (beh ds (x + 1)) (sz ds x) p ∧ lnO (beh ds (x + 1)) (sz ds x) p < l
  · rw [if_pos ⟨hin.1, .inl hin.2⟩, if_pos (by simp [hin.1, hin.2])]
    congr 1
    refine alo_same h x hx back p hp fun q hq e => ?_
    unfold cf
    congr 1
    unfold trS
    rw [tb_get _ _ _ hq, e, if_neg (by rw [hD _ hin.1 hin.2]; simp)]
  · rw [if_neg (by omega)]
    have e : ((D (lnO (beh ds (x + 1)) (sz ds x) p) || (decide (f ≤ lnO (beh ds (x + 1)) (sz ds x) p) && decide (lnO (beh ds (x + 1)) (sz ds x) p < l))) = true) = (D (lnO (beh ds (x + 1)) (sz ds x) p) = true) := by
      by_cases h1 : f ≤ lnO (beh ds (x + 1)) (sz ds x) p
      · have h2 : ¬ lnO (beh ds (x + 1)) (sz ds x) p < l := fun h2 => hin ⟨h1, h2⟩
        simp [h1, h2]
      · simp [h1]
    simp only [e]
    unfold trS
    rw [tb_get _ _ _ hp]
theorem trS_all {ds : List Nat} (h : Shp ds) (xs : List Nat) (x : Nat) (hx : x < ds.length) (back : Bool) (D : Nat → Bool) (hD : ∀ i, i < nln ds x → D i = true) : trS ds xs x back D = mk (prd2 ds) (alo ds x back (cf xs)) := by
  unfold trS tb mk
  refine List.map_congr_left fun p hp => ?_
  have := List.mem_range.mp hp
  rw [prd2_at ds x hx] at this
  rw [if_pos (hD _ (ln_lt (beh_pos h (x + 1)) this))]

/-- A list, each number by P. -/
def nmL (xs : List Nat) : List Nat := xs.map fN
theorem nmL_length (xs : List Nat) : (nmL xs).length = xs.length := by simp [nmL]
theorem nmL_get (xs : List Nat) (i : Nat) : (nmL xs).getD i 0 = fN (xs.getD i 0) := by
  unfold nmL
  rw [List.getD, List.getD, List.getElem?_map]
  cases xs[i]? <;> rfl
theorem cf_nmL (xs : List Nat) : cf (nmL xs) = cf xs := funext fun i => by
  unfold cf
  rw [nmL_get, toF_fN]
theorem fN_small {a : Nat} (h : a < P) : fN a = a := by rw [fN_eq, Nat.mod_eq_of_lt h]
theorem nmL_tb (n : Nat) (g : Nat → Nat) : nmL (tb n g) = tb n (fun p => fN (g p)) := by simp [nmL, tb]
theorem nmL_trS (ds xs : List Nat) (x : Nat) (back : Bool) (D : Nat → Bool) : nmL (trS ds xs x back D) = trS ds (nmL xs) x back D := by
  unfold trS
  rw [nmL_tb, cf_nmL]
  refine tb_congr fun p _ => ?_
  split
  · exact fN_small (Fin.isLt _)
  · rw [nmL_get]
theorem trS_stepN {ds : List Nat} (h : Shp ds) (xs : List Nat) (x : Nat) (hx : x < ds.length) (back : Bool) (D : Nat → Bool) (f l : Nat) (hD : ∀ i, f ≤ i → i < l → D i = false) :
    trn ds (nmL (trS ds xs x back D)) x f l back = trS ds (nmL xs) x back (fun i => D i || (decide (f ≤ i) && decide (i < l))) := by
  rw [nmL_trS]
  exact trS_step h (nmL xs) x hx back D f l hD

end Go.Proofs.YtckoipoejaafhaaDoor

/-! What Phases of package goldref answers: whether phases are right: each line of each axis just once; none of too many tasks. -/
namespace Go.Proofs.YtckoipoejaafhaaDoor
open Go.RowKit
set_option maxRecDepth 100000

theorem row3 {w : World} {v : Value} {T : List (List Int)} (h : IsR 3 w v T) (i : Nat) (hi : i < T.length) : ∃ a b c, T.getD i [] = [a, b, c] ∧ (-9223372036854775808 ≤ a ∧ a ≤ 9223372036854775807) ∧ (-9223372036854775808 ≤ b ∧ b ≤ 9223372036854775807) ∧ (-9223372036854775808 ≤ c ∧ c ≤ 9223372036854775807) := by
  obtain ⟨_, _, _, _, _, _, hr⟩ := h
  obtain ⟨h1, h2⟩ := hr T[i] (List.getElem_mem hi)
  obtain ⟨a, b, c, e⟩ := len_3 h1
  rw [e] at h2
  exact ⟨a, b, c, by simp [List.getD, List.getElem?_eq_getElem hi, e], h2 a (by simp), h2 b (by simp), h2 c (by simp)⟩

set_option maxRecDepth 100000 in
set_option maxHeartbeats 8000000 in
theorem ref_Phases_all (w : World) (v vl : Value) (zs : List Int) (ds : List Nat) (L : List (List (List Int))) (h : IsZ w v zs) (hG : Good zs ds) (hn : prd2 ds ≤ 1024) (hP : IsP 3 w vl L) :
    Calls Tryd.prog 10 #[v, vl] w fun e w' => ((e = .returned (.int .i64 5) ∧ ¬ Fine ds L) ∨ (e = .returned (.int .i64 2) ∧ Fine ds L ∧ BigP L L.length) ∨ (e = .returned (.int .i64 0) ∧ Fine ds L ∧ ¬ BigP L L.length)) ∧ Below w.heap.size w w' := by
  have hS : Shp ds := hG.2.2.2
  have h0 := h
  have cS := ref_Shape_ok w v zs ds h hG hn
  obtain ⟨a, cap, rfl, -, -, hcell, -⟩ := h
  obtain ⟨al, cl, rfl, -, -, hph⟩ := hP
  have hlen : zs.length = ds.length := by rw [hG.2.2.1, List.length_map]
  have h3 : ds.length ≤ 3 := by rw [← hlen]; exact hG.2.1
  have hcz : Hid (∀ x, x < ds.length → ∃ b off, a = some ⟨b, off, none⟩ ∧ ∀ W, Below w.heap.size w W → W.cell? ⟨b, off + x, none⟩ = some (.int .i64 ((sz ds x : Nat) : Int))) := fun x hx => by
    obtain ⟨b, off, rfl, hc0⟩ := hcell x (by omega)
    rw [(Good_get hG x (by omega)).1] at hc0
    exact ⟨b, off, rfl, fun W hb => (hb.cell (block_lt hc0)).trans hc0⟩
  have hln : Hid (∀ x, x < ds.length → prd2 ds / sz ds x = nln ds x ∧ 0 < sz ds x ∧ nln ds x ≤ 1024) := fun x hx => by
    have e := nln_div hS x hx
    exact ⟨e, P2_pos (hS.at x hx), by rw [← e]; exact Nat.le_trans (Nat.div_le_self _ _) hn⟩
  rw [hlen] at h0 cS ⊢
  obtain ⟨n, hnn⟩ : ∃ n, n = prd2 ds := ⟨_, rfl⟩
  rw [← hnn] at cS hn
  have hnn' : Hid (n = prd2 ds) := hnn
  clear hnn hG hcell hS hlen
  by_cases hLd : L.length = ds.length
  · have hph' : Hid (∀ x, x < ds.length → ∃ b off u, al = some ⟨b, off, none⟩ ∧ w.cell? ⟨b, off + x, none⟩ = some u ∧ IsR 3 w u (L.getD x [])) := fun x hx => hph x (by omega)
    have hne : ((ds.length : Int) != (ds.length : Int)) = false := by simp
    have hLd' : Hid (L.length = ds.length) := hLd
    rw [hLd]
    clear hph hLd
    go_enter Tryd.func10, Tryd.ntmps10
    go_wp2_with (go_at_call 9; refine Calls.mono cS ?_; rintro e w' ⟨rfl, hw⟩; rw [hw]; clear hw)
    clear cS
    go_loopw [7, 8] (fun vb vi wr => ∃ (x : Nat) (big : Bool), x ≤ ds.length ∧ vi = .int .i64 (x : Int) ∧ vb = .bool big ∧ Hid (big = true ↔ BigP L x) ∧ Hid (∀ y, y < x → RgtP (nln ds y) y (L.getD y [])) ∧ Below w.heap.size w wr)
      (fun _ vi _ => ds.length - (intOf vi).toNat)
    case atStart => exact ⟨0, false, Nat.zero_le _, rfl, rfl, ⟨fun e => (by cases e), fun ⟨y, hy, _⟩ => (by omega)⟩, fun y hy => by omega, Below.refl _ _⟩
    case round =>
      obtain ⟨x, big, hx, rfl, rfl, hbig, hrt, hnx⟩ := hrel
      by_cases hlt : x < ds.length
      · obtain ⟨b, off, rfl, hcx⟩ := hcz.out x hlt
        have hcx1 := hcx wr hnx
        obtain ⟨bl, ol, ul, rfl, hcu, hR⟩ := hph'.out x hlt
        have hR0 := hR
        obtain ⟨au, cu, rfl, hTl0, hmu, hrow, -⟩ := hR0
        have hTl : (L.getD x []).length ≤ 9223372036854775807 := by unfold maxLen at hmu; omega
        clear hTl0 hmu
        obtain ⟨T, hTe⟩ : ∃ T, T = L.getD x [] := ⟨_, rfl⟩
        rw [← hTe] at hcu hR hrow hTl
        have hTe' : Hid (T = L.getD x []) := hTe
        obtain ⟨e1, hd0, hl9⟩ := hln.out x hlt
        have hnx' := hnn'.out
        obtain ⟨d, hd⟩ : ∃ d, d = sz ds x := ⟨_, rfl⟩
        obtain ⟨m, hm⟩ : ∃ m, m = nln ds x := ⟨_, rfl⟩
        have hq : Int.tdiv (n : Int) (d : Int) = (m : Int) := by rw [hm, hd, hnx', ← e1]; rfl
        rw [← hd] at hcx1 hd0
        rw [← hm] at hl9
        have hd0' : ¬ (d : Int) = 0 := by omega
        have hqw : IntKind.i64.wrap (m : Int) = (m : Int) := by rw [IntKind.wrap_i64]; omega
        have hm' : Hid (m = nln ds x) := hm
        have hm9 : m ≤ 1000000000 := by omega
        clear hd hm e1 hnx' hcx hTe
        go_wp2_with (at_make; refine wp_makeI rfl _ _ rfl m rfl rfl hm9 ?_; intro g w2 hg hrowI hb2)
        replace hg : w.heap.size ≤ g := by rw [hg.out]; exact hnx.size
        replace hnx := hnx.trans (hb2.mono hnx.size)
        clear hb2 hq hqw hd0' hcx1 hd0
        have htb0 : List.replicate m 0 = tb m (hits (T.take 0)) := by
          apply List.ext_getElem
          · simp [tb_length]
          · intro i q1 q2
            simp [tb, hits]
        rw [htb0] at hrowI
        clear htb0
        go_loopw [10] (fun vi wi => ∃ (i : Nat), i ≤ T.length ∧ vi = .int .i64 (i : Int) ∧ RowI wi g (tb m (hits (T.take i))) ∧ Hid (∀ r ∈ T.take i, Vld m x r) ∧ Below w.heap.size w wi)
          (fun vi _ => T.length - (intOf vi).toNat)
        case atStart => exact ⟨0, Nat.zero_le _, rfl, hrowI, fun r hr => by simp at hr, hnx⟩
        case round =>
          clear hrowI hnx
          obtain ⟨i, hi, rfl, hrowI, hvl, hnx⟩ := hrel
          have hcu1 := (hnx.cell (block_lt hcu)).trans hcu
          by_cases hlt2 : i < T.length
          · obtain ⟨t0, t1, t2, hTi, hb0, hb1, hb2⟩ := row3 hR i hlt2
            obtain ⟨br, or, rfl, hce⟩ := hrow i hlt2
            rw [hTi] at hce
            have q0 := (hnx.cell (block_lt (hce 0 (by decide)))).trans (hce 0 (by decide))
            have q1 := (hnx.cell (block_lt (hce 1 (by decide)))).trans (hce 1 (by decide))
            have q2 := (hnx.cell (block_lt (hce 2 (by decide)))).trans (hce 2 (by decide))
            replace q0 : wr.cell? ⟨br, or + i * 3, none⟩ = some (.int .i64 t0) := q0
            replace q1 : wr.cell? ⟨br, or + i * 3 + 1, none⟩ = some (.int .i64 t1) := q1
            replace q2 : wr.cell? ⟨br, or + i * 3 + 2, none⟩ = some (.int .i64 t2) := q2
            clear hce
            have hnof : Hid (¬ (t0 = (x : Int) ∧ 0 ≤ t1 ∧ t2 ≤ (m : Int) ∧ t1 < t2) → ¬ Fine ds L) := fun hn hF => by
              have h1 := (hF.2 x hlt).1 (T.getD i []) (by rw [← hTe'.out]; exact getD_mem hlt2)
              rw [hTi, ← hm'.out] at h1
              exact hn h1
            by_cases hV : t0 = (x : Int) ∧ 0 ≤ t1 ∧ t2 ≤ (m : Int) ∧ t1 < t2
            · obtain ⟨hV0, hV1, hV2, hV3⟩ := hV
              subst hV0
              obtain ⟨f, rfl⟩ := Int.eq_ofNat_of_zero_le hV1
              obtain ⟨l, rfl⟩ := Int.eq_ofNat_of_zero_le (show 0 ≤ t2 by omega)
              have hvl2 : Hid (∀ r ∈ T.take (i + 1), Vld m x r) := valid_succ hlt2 hvl.out (by rw [hTi]; exact ⟨rfl, hV1, hV2, hV3⟩)
              have hfin : Hid (tb m (fun k => hits (T.take i) k + if f ≤ k ∧ k < l then 1 else 0) = tb m (hits (T.take (i + 1)))) := tb_congr fun k _ => by
                rw [hits_succ T i k hlt2, hTi]
                show _ = _ + (if (f : Int) ≤ (k : Int) ∧ (k : Int) < (l : Int) then 1 else 0)
                congr 1
                simp only [Int.ofNat_le, Int.ofNat_lt]
              have hbnd : Hid (∀ k, hits (T.take i) k ≤ i) := fun k => Nat.le_trans (hits_le _ _) (by rw [List.length_take]; omega)
              have hA2 : (wr.alloc (.cells #[.int .i64 (x : Int), .int .i64 (f : Int), .int .i64 (l : Int)] 71)).cell? ⟨wr.heap.size, 2, none⟩ = some (.int .i64 (l : Int)) := by rw [World.cell?_alloc_at _ _ _ _ rfl]; rfl
              have hbW := below_alloc1 wr (.cells #[.int .i64 (x : Int), .int .i64 (f : Int), .int .i64 (l : Int)] 71)
              clear hvl hnof hTi
              go_wp2
              generalize wr.alloc (.cells #[.int .i64 (x : Int), .int .i64 (f : Int), .int .i64 (l : Int)] 71) = W1 at *
              have hglt := hrowI.lt
              replace hrowI := hrowI.below hbW
              have hnx1 := hnx.trans (hbW.mono hnx.size)
              obtain ⟨gt, hgt⟩ : ∃ gt, gt = wr.heap.size := ⟨_, rfl⟩
              rw [← hgt] at hA2 hglt ⊢
              have hwg : w.heap.size ≤ gt := by rw [hgt]; exact hnx.size
              clear hgt hbW hcu1 q0 q1 q2
              go_loopw [12] (fun vk wi => ∃ (q : Nat), f ≤ q ∧ q ≤ l ∧ vk = .int .i64 (q : Int) ∧ RowI wi g (tb m (fun k => hits (T.take i) k + if f ≤ k ∧ k < q then 1 else 0)) ∧ wi.cell? ⟨gt, 2, none⟩ = some (.int .i64 (l : Int)) ∧ Below w.heap.size w wi)
                (fun vk _ => l - (intOf vk).toNat)
              case atStart => exact ⟨f, Nat.le_refl _, by omega, rfl, hrowI.cast (tb_congr fun k _ => by rw [if_neg (by omega)]; rfl), hA2, hnx1⟩
              case round =>
                clear hrowI hA2 hnx1 hnx
                obtain ⟨q, hq1, hq2, rfl, hrowI, hA2, hnx⟩ := hrel
                by_cases hlt3 : q < l
                · have hqm : q < m := by omega
                  have hcq := hrowI.cell q (by rw [tb_length]; exact hqm)
                  rw [tb_get _ _ _ hqm, if_neg (by omega), Nat.add_zero] at hcq
                  have hfr := hrowI.frozen q
                  have hb9 := hbnd.out q
                  have hset : Hid (RowI (wr.setCell ⟨g, q, none⟩ (.int .i64 ((hits (T.take i) q + 1 : Nat) : Int))) g (tb m (fun k => hits (T.take i) k + if f ≤ k ∧ k < q + 1 then 1 else 0))) := (hrowI.set q (hits (T.take i) q + 1)).cast (by
                    rw [tb_set]
                    refine tb_congr fun k _ => ?_
                    by_cases e : k = q
                    · rw [if_pos e, e, if_pos (by omega)]
                    · rw [if_neg e]
                      congr 1
                      simp only [show (f ≤ k ∧ k < q + 1) = (f ≤ k ∧ k < q) from propext (by omega)])
                  have hkeep : Hid (∀ u, (wr.setCell ⟨g, q, none⟩ u).cell? ⟨gt, 2, none⟩ = some (.int .i64 (l : Int))) := fun u => (World.cell?_of_block (w := wr) (((Bar.refl g wr).setCell q u).block gt (block_lt hA2) (by omega))).trans hA2
                  have hB2 : Hid (∀ u, Below w.heap.size w (wr.setCell ⟨g, q, none⟩ u)) := fun u => hnx.setCell (p := ⟨g, q, none⟩) hg u
                  rw [Int.natCast_add] at hset
                  clear hrowI hnx hbnd
                  generalize hits (T.take i) q = H0 at *
                  have hw1 : IntKind.i64.wrap ((H0 : Int) + 1) = (H0 : Int) + 1 := by rw [IntKind.wrap_i64]; omega
                  go_wp2
                  go_roundw
                  case rel => exact ⟨q + 1, by omega, by omega, by go_num, hset.out, hkeep.out _, hB2.out _⟩
                  case measure => simp only [intOf]; omega
                · have e : l = q := by omega
                  subst e
                  have hge : l ≤ l := Nat.le_refl _
                  rw [hfin.out] at hrowI
                  clear hfin hbnd
                  go_wp2
                  go_roundw
                  case rel => exact ⟨i + 1, by omega, by go_num, hrowI, hvl2, hnx⟩
                  case measure => simp only [intOf]; omega
            · have hno : Hid (¬ Fine ds L) := hnof.out hV
              have hbW := below_alloc1 wr (.cells #[.int .i64 t0, .int .i64 t1, .int .i64 t2] 71)
              have hend := hnx.trans (hbW.mono hnx.size)
              clear hnof hvl hbW hTi
              by_cases hd1 : t0 = (x : Int)
              · subst hd1
                by_cases hd2 : t1 < 0
                · have hd2' : decide (t1 < 0) = true := decide_eq_true hd2
                  go_wp2
                  go_ret
                  exact ⟨.inl ⟨rfl, hno.out⟩, hend⟩
                · have hd2' : decide (t1 < 0) = false := decide_eq_false hd2
                  by_cases hd3 : (m : Int) < t2
                  · have hd3' : decide ((m : Int) < t2) = true := decide_eq_true hd3
                    go_wp2
                    go_ret
                    exact ⟨.inl ⟨rfl, hno.out⟩, hend⟩
                  · have hd3' : decide ((m : Int) < t2) = false := decide_eq_false hd3
                    have hd4 : t2 ≤ t1 := by
                      rcases Int.lt_or_le t1 t2 with q | q
                      · exact absurd ⟨rfl, by omega, by omega, q⟩ hV
                      · exact q
                    have hd4' : decide (t2 ≤ t1) = true := decide_eq_true hd4
                    clear hV
                    go_wp2
                    go_ret
                    exact ⟨.inl ⟨rfl, hno.out⟩, hend⟩
              · have hdd : (t0 != (x : Int)) = true := by rw [bne_iff_ne]; exact hd1
                go_wp2
                go_ret
                exact ⟨.inl ⟨rfl, hno.out⟩, hend⟩
          · have e : T.length = i := by omega
            have hge : T.length ≤ i := by omega
            rw [← e, List.take_length] at hrowI hvl
            have hi9 : i ≤ 9223372036854775807 := by omega
            clear e
            go_wp2
            obtain ⟨wz, hwz⟩ : ∃ wz : World, wz = wr := ⟨_, rfl⟩
            rw [← hwz] at hrowI hnx hcu1 ⊢
            clear hwz hcu1
            go_loopw [13] (fun vk wi => ∃ (k : Nat), k ≤ m ∧ vk = .int .i64 (k : Int) ∧ Hid (∀ j, j < k → hits T j = 1) ∧ RowI wi g (tb m (hits T)) ∧ Below w.heap.size w wi)
              (fun vk _ => m - (intOf vk).toNat)
            case atStart => exact ⟨0, Nat.zero_le _, rfl, fun j hj => by omega, hrowI, hnx⟩
            case round =>
              clear hrowI hnx
              obtain ⟨k, hk, rfl, hone, hrowI, hnx⟩ := hrel
              by_cases hlt4 : k < m
              · have hck := hrowI.cell k (by rw [tb_length]; exact hlt4)
                rw [tb_get _ _ _ hlt4] at hck
                by_cases h1 : hits T k = 1
                · have hone2 : Hid (∀ j, j < k + 1 → hits T j = 1) := fun j hj => by
                    rcases Nat.lt_or_ge j k with q | q
                    · exact hone.out j q
                    · rw [show j = k by omega]; exact h1
                  rw [h1] at hck
                  clear h1 hone
                  go_wp2
                  go_roundw
                  case rel => exact ⟨k + 1, by omega, by go_num, hone2, hrowI, hnx⟩
                  case measure => simp only [intOf]; omega
                · have hno : Hid (¬ Fine ds L) := fun hF => by
                    have := (hF.2 x hlt).2 k (by rw [← hm'.out]; exact hlt4)
                    rw [← hTe'.out] at this
                    exact h1 this
                  have hne1 : (((hits T k : Nat) : Int) != 1) = true := by rw [bne_iff_ne]; omega
                  clear h1 hone hvl
                  generalize hits T k = H0 at *
                  go_wp2
                  go_ret
                  exact ⟨.inl ⟨rfl, hno.out⟩, hnx⟩
              · have e : m = k := by omega
                subst e
                have hge2 : m ≤ m := Nat.le_refl _
                have hrt2 : Hid (∀ y, y < x + 1 → RgtP (nln ds y) y (L.getD y [])) := fun y hy => by
                  rcases Nat.lt_or_ge y x with q | q
                  · exact hrt.out y q
                  · have e : y = x := by omega
                    rw [e, ← hTe'.out, ← hm'.out]
                    exact ⟨hvl.out, hone.out⟩
                have hcu1 := (hnx.cell (block_lt hcu)).trans hcu
                clear hvl hone hrowI hrt
                cases big with
                | true =>
                  have hbig2 : Hid ((true : Bool) = true ↔ BigP L (x + 1)) := ⟨fun _ => by
                    obtain ⟨y, hy, q⟩ := hbig.out.mp rfl
                    exact ⟨y, by omega, q⟩, fun _ => rfl⟩
                  clear hbig
                  go_wp2
                  go_roundw
                  case rel => exact ⟨x + 1, true, by omega, by go_num, rfl, hbig2, hrt2, hnx⟩
                  case measure => simp only [intOf]; omega
                | false =>
                  have hbig2 : Hid (decide (64 < T.length) = true ↔ BigP L (x + 1)) := ⟨fun q => ⟨x, by omega, by rw [← hTe'.out]; exact of_decide_eq_true q⟩, fun ⟨y, hy, q⟩ => by
                    rcases Nat.lt_or_ge y x with q2 | q2
                    · have := hbig.out.mpr ⟨y, q2, q⟩
                      cases this
                    · have e : y = x := by omega
                      rw [e, ← hTe'.out] at q
                      exact decide_eq_true q⟩
                  clear hbig
                  by_cases h64 : 64 < T.length
                  · have hd64 : decide (64 < T.length) = true := decide_eq_true h64
                    rw [hd64] at hbig2
                    have hd64' : decide ((64 : Int) < (T.length : Int)) = true := decide_eq_true (by omega)
                    go_wp2
                    go_roundw
                    case rel => exact ⟨x + 1, true, by omega, by go_num, rfl, hbig2, hrt2, hnx⟩
                    case measure => simp only [intOf]; omega
                  · have hd64 : decide (64 < T.length) = false := decide_eq_false h64
                    rw [hd64] at hbig2
                    have hd64' : decide ((64 : Int) < (T.length : Int)) = false := decide_eq_false (by omega)
                    go_wp2
                    go_roundw
                    case rel => exact ⟨x + 1, false, by omega, by go_num, rfl, hbig2, hrt2, hnx⟩
                    case measure => simp only [intOf]; omega
      · have e : ds.length = x := by omega
        have hge : ds.length ≤ x := by omega
        rw [← e] at hrt hbig
        have hF : Hid (Fine ds L) := ⟨hLd'.out, hrt.out⟩
        clear hcz hln hph' hrt
        cases big with
        | true =>
          have hB : Hid (BigP L ds.length) := hbig.out.mp rfl
          clear hbig
          go_wp2
          go_ret
          exact ⟨.inr (.inl ⟨rfl, hF.out, hB.out⟩), hnx⟩
        | false =>
          have hB : Hid (¬ BigP L ds.length) := fun q => by have := hbig.out.mpr q; cases this
          clear hbig
          go_wp2
          go_ret
          exact ⟨.inr (.inr ⟨rfl, hF.out, hB.out⟩), hnx⟩
  · have hne : ((L.length : Int) != (ds.length : Int)) = true := by rw [bne_iff_ne]; omega
    have hLd' : Hid (¬ L.length = ds.length) := hLd
    clear hcz hln hph hLd
    go_enter Tryd.func10, Tryd.ntmps10
    go_wp2_with (go_at_call 9; refine Calls.mono cS ?_; rintro e w' ⟨rfl, hw⟩; rw [hw]; clear hw)
    go_ret
    exact ⟨.inl ⟨rfl, fun hF => hLd'.out hF.1⟩, Below.refl _ _⟩
theorem ref_Phases_shape (w : World) (v vl : Value) (zs : List Int) (er : Int) (her : (er != 0) = true) (cS : Calls Tryd.prog 9 #[v] w fun e w' => e = .returned (.tuple #[.int .i64 0, .int .i64 er]) ∧ w' = w) (h : IsZ w v zs) :
    Calls Tryd.prog 10 #[v, vl] w fun e w' => e = .returned (.int .i64 er) ∧ Below w.heap.size w w' := by
  obtain ⟨a, cap, rfl, -⟩ := h
  go_enter Tryd.func10, Tryd.ntmps10
  go_wp2_with (go_at_call 9; refine Calls.mono cS ?_; rintro e w' ⟨rfl, hw⟩; rw [hw]; clear hw)
  go_ret
  exact ⟨rfl, Below.refl _ _⟩

end Go.Proofs.YtckoipoejaafhaaDoor

/-! A plan that is made is right; lines done in whatever order make the whole; no program in sight. -/
namespace Go.Proofs.YtckoipoejaafhaaDoor

end Go.Proofs.YtckoipoejaafhaaDoor

/-! Blocks that hold values of one type and nothing else. -/
namespace Go.Proofs.YtckoipoejaafhaaDoor
open Go.RowKit
set_option maxRecDepth 100000

/-- Block g holds the cells vs, of that type, and nothing else. -/
def RowV (t : Nat) (w : World) (g : Nat) (vs : List Value) : Prop := w.heap[g]? = some (.cells vs.toArray t (0, 0))
section
variable {t : Nat} {w w' : World} {g g' : Nat} {xs ys : List Value}
theorem RowV.lt (h : RowV t w g xs) : g < w.heap.size := by
  obtain ⟨hlt, _⟩ := Array.getElem?_eq_some_iff.1 h
  exact hlt
theorem RowV.cell (h : RowV t w g xs) (i : Nat) : w.cell? ⟨g, i, none⟩ = xs[i]? := by
  have hh : w.heap[g]? = _ := h
  simp only [World.cell?, hh, List.getElem?_toArray]
  cases xs[i]? <;> rfl
theorem RowV.frozen (h : RowV t w g xs) (i : Nat) : w.frozen? ⟨g, i, none⟩ = false := by
  have hh : w.heap[g]? = _ := h
  simp [World.frozen?, hh]
theorem RowV.set (h : RowV t w g xs) (i : Nat) (u : Value) : RowV t (w.setCell ⟨g, i, none⟩ u) g (xs.set i u) := by
  have hh : w.heap[g]? = _ := h
  unfold RowV
  simp [World.setCell, Array.getElem?_modify, hh]
theorem RowV.block (h : RowV t w g xs) (e : w'.heap[g]? = w.heap[g]?) : RowV t w' g xs := e.trans h
theorem RowV.below (h : RowV t w g xs) (hb : Below w.heap.size w w') : RowV t w' g xs := h.block (hb.block g h.lt)
theorem RowV.bar (h : RowV t w g' xs) (hne : g' ≠ g) (hb : Bar g w w') : RowV t w' g' xs := h.block (hb.block g' h.lt hne)
theorem RowV.cast (h : RowV t w g xs) (e : xs = ys) : RowV t w g ys := e ▸ h
end

end Go.Proofs.YtckoipoejaafhaaDoor
