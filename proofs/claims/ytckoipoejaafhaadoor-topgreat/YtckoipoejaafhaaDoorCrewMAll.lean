/-
  Texts that stood one behind the other, as one.
-/
import Derived.Test.YtckoipoejaafhaaDoorPlanMAll
import Derived.Test.YtckoipoejaafhaaDoorCeH
import Derived.Test.YtckoipoejaafhaaDoorPlanCAll
import Derived.BigQuiet
import Derived.Deep.RegionWith
import Derived.Deep.Cut
namespace Go.Proofs.YtckoipoejaafhaaDoor
structure Crw where
  A : List Nat
  hands : List (List (List Int))
  phase : Nat
  left : Nat
  did : List (List Int)
  fin : Bool
def dealK (H : List (List (List Int))) (T : List (List Int)) : Nat → List (List (List Int))
  | 0 => H
  | k + 1 => (dealK H T k).set (k % H.length) ((dealK H T k).getD (k % H.length) [] ++ [T.getD k []])
def dealt (L : List (List (List Int))) (c : Crw) : Crw :=
  if L.length ≤ c.phase then { c with fin := true } else { c with hands := dealK c.hands (L.getD c.phase []) (L.getD c.phase []).length, left := (L.getD c.phase []).length }
def cur (ds xs : List Nat) (back : Bool) (x : Nat) : List Nat := if x = 0 then xs else mk (prd2 ds) (who ds back (cf xs) x)
theorem cur_length {ds xs : List Nat} (hl : xs.length = prd2 ds) (back : Bool) (x : Nat) : (cur ds xs back x).length = prd2 ds := by
  unfold cur
  split
  · exact hl
  · exact mk_length _ _
theorem cur_cf {ds xs : List Nat} (back : Bool) (x i : Nat) (hi : i < prd2 ds) : cf (cur ds xs back x) i = who ds back (cf xs) x i := by
  unfold cur
  split
  · next h => rw [h, who_zero]
  · rw [cf_mk, if_pos hi]
theorem cur_succ {ds xs : List Nat} (h : Shp ds) (back : Bool) (x : Nat) (hx : x < ds.length) : mk (prd2 ds) (alo ds x back (cf (cur ds xs back x))) = cur ds xs back (x + 1) := by
  conv => rhs; unfold cur
  rw [if_neg (by omega)]
  refine mk_congr fun p hp => ?_
  rw [who_succ]
  exact alo_congr h x hx back (fun i hi => cur_cf back x i hi) p hp
structure CInv (ds : List Nat) (L : List (List (List Int))) (xs : List Nat) (W : Nat) (back : Bool) (c : Crw) (P : List (List (List Int))) (dn : List (List Int)) : Prop where
  w : c.hands.length = W
  ph : c.phase ≤ L.length
  fin : c.fin = decide (c.phase = L.length)
  lft : c.left = c.hands.flatten.length
  pl : P.length = c.phase
  pp : ∀ i, i < c.phase → (P.getD i []).Perm (L.getD i [])
  did : c.did = P.flatten ++ dn
  prm : c.phase < L.length → (dn ++ c.hands.flatten).Perm (L.getD c.phase [])
  some : c.phase < L.length → 0 < c.left
  none : c.phase = L.length → dn = [] ∧ c.hands.flatten = []
  arr : c.phase < L.length → c.A = trS ds (cur ds xs back c.phase) c.phase back (fun i => decide (0 < hits dn i))
  arrE : c.phase = L.length → c.A = cur ds xs back c.phase
section
variable {ds : List Nat} {L : List (List (List Int))} {xs : List Nat} {W : Nat} {back : Bool}
end
end Go.Proofs.YtckoipoejaafhaaDoor

namespace Go.Proofs.YtckoipoejaafhaaDoor.Cc
def cpK (ds Q old : List Nat) (x f i k : Nat) : List Nat :=
  tb (prd2 ds) fun p => if f ≤ lnO (beh ds (x + 1)) (sz ds x) p ∧ (lnO (beh ds (x + 1)) (sz ds x) p < i ∨ (lnO (beh ds (x + 1)) (sz ds x) p = i ∧ dg (beh ds (x + 1)) (sz ds x) p < k)) then Q.getD p 0 else old.getD p 0
theorem cpK_length (ds Q old : List Nat) (x f i k : Nat) : (cpK ds Q old x f i k).length = prd2 ds := tb_length _ _
theorem cpK_start {ds old : List Nat} (Q : List Nat) (hl : old.length = prd2 ds) (x f : Nat) : cpK ds Q old x f f 0 = old := by
  have : cpK ds Q old x f f 0 = tb old.length (fun p => old.getD p 0) := by
    unfold cpK
    rw [hl]
    exact tb_congr fun p _ => if_neg (by omega)
  rw [this, tb_self]
theorem cpK_line {ds : List Nat} (h : Shp ds) (Q old : List Nat) (x : Nat) (hx : x < ds.length) (f i : Nat) : cpK ds Q old x f i (sz ds x) = cpK ds Q old x f (i + 1) 0 := by
  unfold cpK
  refine tb_congr fun p _ => ?_
  have hd := dg_lt (u := beh ds (x + 1)) (p := p) (P2_pos (h.at x hx))
  congr 1
  simp only [eq_iff_iff]
  omega
theorem cpK_set {ds : List Nat} (h : Shp ds) (Q old : List Nat) (x f i k : Nat) (hf : f ≤ i) (hk : k < sz ds x) :
    (cpK ds Q old x f i k).set (ps (beh ds (x + 1)) (sz ds x) i k) (Q.getD (ps (beh ds (x + 1)) (sz ds x) i k) 0) = cpK ds Q old x f i (k + 1) := by
  have hu := beh_pos h (x + 1)
  unfold cpK
  rw [tb_set]
  refine tb_congr fun p _ => ?_
  by_cases e : p = ps (beh ds (x + 1)) (sz ds x) i k
  · rw [if_pos e, e, ps_ln hu hk, ps_dg hu hk, if_pos (by omega)]
  · rw [if_neg e]
    have hne : ¬ (lnO (beh ds (x + 1)) (sz ds x) p = i ∧ dg (beh ds (x + 1)) (sz ds x) p = k) := fun ⟨h1, h2⟩ => by
      apply e
      rw [← ps_of hu p, h1, h2]
    congr 1
    simp only [eq_iff_iff]
    omega
def gat (ds : List Nat) (x : Nat) (Q : Nat → List Nat) (T : List (List Int)) : Nat → List Nat
  | 0 => List.replicate (prd2 ds) 0
  | i + 1 => cpK ds (Q i) (gat ds x Q T i) x ((T.getD i []).getD 1 0).toNat ((T.getD i []).getD 2 0).toNat 0
theorem gat_length (ds : List Nat) (x : Nat) (Q : Nat → List Nat) (T : List (List Int)) (i : Nat) : (gat ds x Q T i).length = prd2 ds := by
  cases i with
  | zero => exact List.length_replicate
  | succ i => exact cpK_length _ _ _ _ _ _ _
section
variable {ds : List Nat} {x : Nat} {Q : Nat → List Nat} {T : List (List Int)} {A : Nat → Nat}
theorem hit_iff {r : List Int} {n k : Nat} (h : Vld n x r) : hit r k = 1 ↔ ((r.getD 1 0).toNat ≤ k ∧ k < (r.getD 2 0).toNat) := by
  obtain ⟨-, h1, -, h3⟩ := h
  unfold hit
  split <;> omega
theorem hit_le (r : List Int) (k : Nat) : hit r k ≤ 1 := by unfold hit; split <;> omega
theorem hits_cons (r : List Int) (T : List (List Int)) (k : Nat) : hits (r :: T) k = hit r k + hits T k := by simp [hits]
theorem hits_out {n : Nat} (h : ∀ r ∈ T, Vld n x r) {k : Nat} (hk : n ≤ k) : hits T k = 0 := by
  induction T with
  | nil => rfl
  | cons r T ih =>
    rw [hits_cons, ih fun r hr => h r (by simp [hr])]
    have := h r (by simp)
    unfold hit
    rw [if_neg (by have := this.2.2.1; omega)]
theorem hits_pos {r : List Int} {k : Nat} (h : r ∈ T) (h1 : hit r k = 1) : 0 < hits T k := by
  induction T with
  | nil => simp at h
  | cons s T ih =>
    rw [hits_cons]
    rcases List.mem_cons.mp h with rfl | h
    · omega
    · have := ih h
      omega
theorem hits_sub {D : List (List Int)} (h : D.Sublist T) (k : Nat) : hits D k ≤ hits T k := by
  induction h with
  | slnil => exact Nat.le_refl _
  | cons a _ ih => rw [hits_cons]; omega
  | cons_cons a _ ih => rw [hits_cons, hits_cons]; omega
theorem gat_get (hV : ∀ r ∈ T, Vld (nln ds x) x r) (hQ : ∀ i p, i < T.length → p < prd2 ds → hit (T.getD i []) (lnO (beh ds (x + 1)) (sz ds x) p) = 1 → (Q i).getD p 0 = A p) :
    ∀ i, i ≤ T.length → ∀ p, p < prd2 ds → (gat ds x Q T i).getD p 0 = if 0 < hits (T.take i) (lnO (beh ds (x + 1)) (sz ds x) p) then A p else 0 := by
  intro i
  induction i with
  | zero =>
    intro _ p hp
    simp [gat, hits, List.getD, hp]
  | succ i ih =>
    intro hi p hp
    have hi' : i < T.length := by omega
    have hv := hV _ (getD_mem hi')
    rw [hits_succ T i _ hi']
    have hh := hit_iff (k := lnO (beh ds (x + 1)) (sz ds x) p) hv
    unfold gat cpK
    rw [tb_get _ _ _ hp]
    by_cases e : hit (T.getD i []) (lnO (beh ds (x + 1)) (sz ds x) p) = 1
    · have := hh.1 e
      rw [if_pos ⟨this.1, .inl this.2⟩, if_pos (by omega), hQ i p hi' hp e]
    · have h0 : hit (T.getD i []) (lnO (beh ds (x + 1)) (sz ds x) p) = 0 := by have := hit_le (T.getD i []) (lnO (beh ds (x + 1)) (sz ds x) p); omega
      have hn : ¬ (((T.getD i []).getD 1 0).toNat ≤ lnO (beh ds (x + 1)) (sz ds x) p ∧ lnO (beh ds (x + 1)) (sz ds x) p < ((T.getD i []).getD 2 0).toNat) := fun h => e (hh.2 h)
      rw [if_neg (by omega), h0, Nat.add_zero, ih (by omega) p hp]
theorem gat_all (hS : Shp ds) (hx : x < ds.length) (hT : RgtP (nln ds x) x T) (hQ : ∀ i p, i < T.length → p < prd2 ds → hit (T.getD i []) (lnO (beh ds (x + 1)) (sz ds x) p) = 1 → (Q i).getD p 0 = A p) : gat ds x Q T T.length = tb (prd2 ds) A := by
  have h := gat_get hT.1 hQ T.length (Nat.le_refl _)
  have e := tb_self (gat ds x Q T T.length)
  rw [gat_length] at e
  rw [← e]
  refine tb_congr fun p hp => ?_
  have hl : lnO (beh ds (x + 1)) (sz ds x) p < nln ds x := by
    have := hp
    rw [prd2_at ds x hx] at this
    exact ln_lt (beh_pos hS (x + 1)) this
  rw [h p hp, List.take_length, hT.2 _ hl, if_pos (by omega)]
end
theorem nmL_nmL (xs : List Nat) : nmL (nmL xs) = nmL xs := by
  unfold nmL
  rw [List.map_map]
  refine List.map_congr_left fun a _ => ?_
  show fN (fN a) = fN a
  exact fN_small (by rw [fN_eq]; exact Nat.mod_lt _ (by decide))
section
variable {ds : List Nat} {x : Nat} {back : Bool} {xs : List Nat}
theorem wkL_trS (h : Shp ds) (hx : x < ds.length) : ∀ (D : List (List Int)) (E : Nat → Bool), (∀ t ∈ D, Vld (nln ds x) x t) → (∀ k, hits D k ≤ 1) → (∀ k, E k = true → hits D k = 0) →
    wkL ds back D (trS ds (nmL xs) x back E) = trS ds (nmL xs) x back (fun k => E k || decide (0 < hits D k)) := by
  intro D
  induction D with
  | nil =>
    intro E _ _ _
    have : (fun k => E k || decide (0 < hits [] k)) = E := funext fun k => by simp [hits]
    rw [this]
    rfl
  | cons t D ih =>
    intro E hV h1 hE
    have hv := hV t (by simp)
    have e0 : (t.getD 0 0).toNat = x := by rw [hv.1]; rfl
    have hst : trn ds (nmL (trS ds (nmL xs) x back E)) x (t.getD 1 0).toNat (t.getD 2 0).toNat back = trS ds (nmL xs) x back (fun i => E i || (decide ((t.getD 1 0).toNat ≤ i) && decide (i < (t.getD 2 0).toNat))) := by
      rw [trS_stepN h (nmL xs) x hx back E _ _ (fun i h2 h3 => ?_), nmL_nmL]
      cases hh : E i with
      | false => rfl
      | true =>
        have := hE i hh
        rw [hits_cons, (hit_iff hv).2 ⟨h2, h3⟩] at this
        omega
    rw [wkL, e0, hst, ih _ (fun t h => hV t (by simp [h])) (fun k => by have := h1 k; rw [hits_cons] at this; omega) ?_]
    · congr 1
      funext k
      rw [hits_cons]
      have hh := hit_iff (k := k) hv
      have hl := hit_le t k
      by_cases e : hit t k = 1
      · have := hh.1 e
        rw [decide_eq_true this.1, decide_eq_true this.2, e, decide_eq_true (show 0 < 1 + hits D k by omega)]
        simp
      · have h0 : hit t k = 0 := by omega
        have hn : ¬ ((t.getD 1 0).toNat ≤ k ∧ k < (t.getD 2 0).toNat) := fun h => e (hh.2 h)
        have : (decide ((t.getD 1 0).toNat ≤ k) && decide (k < (t.getD 2 0).toNat)) = false := by
          by_cases q : (t.getD 1 0).toNat ≤ k
          · rw [decide_eq_false (fun q2 : k < (t.getD 2 0).toNat => hn ⟨q, q2⟩), Bool.and_false]
          · rw [decide_eq_false q, Bool.false_and]
        rw [this, h0, Bool.or_false, Nat.zero_add]
    · intro k hk
      have hk1 := h1 k
      rw [hits_cons] at hk1
      simp only [Bool.or_eq_true, Bool.and_eq_true, decide_eq_true_eq] at hk
      rcases hk with hk | hk
      · have := hE k hk
        rw [hits_cons] at this
        omega
      · have := (hit_iff hv).2 hk
        omega
theorem wkL_all (h : Shp ds) (hx : x < ds.length) (hl : xs.length = prd2 ds) {D : List (List Int)} (hD : ¬ D = []) (hV : ∀ t ∈ D, Vld (nln ds x) x t) (h1 : ∀ k, hits D k ≤ 1) : wkL ds back D xs = trS ds (nmL xs) x back (fun k => decide (0 < hits D k)) := by
  have e : wkL ds back D xs = wkL ds back D (nmL xs) := by
    cases D with
    | nil => exact absurd rfl hD
    | cons t D => rw [wkL, wkL, nmL_nmL]
  have e2 := wkL_trS (back := back) (xs := xs) h hx D (fun _ => false) hV h1 (fun k hk => by simp at hk)
  rw [trS_none (by rw [nmL_length, hl])] at e2
  rw [e, e2]
  congr 1
end
theorem dealT_sub (n : Nat) (TT : List (List Int)) (k : Nat) : (dealT n TT k).Sublist TT := by
  have h : ((TT.zipIdx.filter fun p => p.2 % n == k).map (·.1)).Sublist (TT.zipIdx.map (·.1)) := List.filter_sublist.map _
  rw [List.zipIdx_map_fst] at h
  exact h
theorem dealT_has {n : Nat} {TT : List (List Int)} {i : Nat} (hi : i < TT.length) : TT.getD i [] ∈ dealT n TT (i % n) := by
  unfold dealT
  refine List.mem_map.mpr ⟨(TT.getD i [], i), List.mem_filter.mpr ⟨?_, by simp⟩, rfl⟩
  rw [List.mem_zipIdx_iff_getElem?]
  simp [List.getD, List.getElem?_eq_getElem hi]
theorem gat_work {ds xs : List Nat} {x n : Nat} {back : Bool} {TT : List (List Int)} (hS : Shp ds) (hx : x < ds.length) (hl : xs.length = prd2 ds) (hT : RgtP (nln ds x) x TT) :
    gat ds x (fun i => wkL ds back (dealT n TT (i % n)) xs) TT TT.length = mk (prd2 ds) (alo ds x back (cf xs)) := by
  rw [gat_all (A := fun p => (alo ds x back (cf xs) p).val) hS hx hT]
  · rfl
  · intro i p hi hp hh
    have hm := dealT_has (n := n) hi
    have hle : ∀ k, hits (dealT n TT (i % n)) k ≤ 1 := fun k => by
      have h1 := hits_sub (dealT_sub n TT (i % n)) k
      by_cases hk : k < nln ds x
      · rw [hT.2 k hk] at h1; exact h1
      · rw [hits_out hT.1 (by omega)] at h1; omega
    rw [wkL_all hS hx hl (List.ne_nil_of_mem hm) (fun t ht => hT.1 t (dealT_mem ht)) hle]
    unfold trS
    rw [tb_get _ _ _ hp, if_pos (decide_eq_true (hits_pos hm hh)), cf_nmL]
end Go.Proofs.YtckoipoejaafhaaDoor.Cc

namespace Go.Proofs.YtckoipoejaafhaaDoor.Cc
open Go.RowKit
theorem gth_dealtTo (w : World) (k W : Nat) (hk : k ≤ 1000000) (hW : 1 ≤ W) (hW8 : W ≤ 8) :
    Calls Tryd.prog 81 #[.int .i64 (k : Int), .int .i64 (W : Int)] w fun e w' => e = .returned (.int .i64 ((k % W : Nat) : Int)) ∧ w' = w := by
  have hmod : Int.tmod (k : Int) (W : Int) = ((k % W : Nat) : Int) := by rw [Int.tmod_eq_emod_of_nonneg (by omega), Int.natCast_emod]
  have hml : k % W < W := Nat.mod_lt _ (by omega)
  have hWz : ¬ (W : Int) = 0 := by omega
  have hwr : IntKind.i64.wrap ((k % W : Nat) : Int) = ((k % W : Nat) : Int) := wraps_i64 _ (Int.natCast_nonneg _) (by omega)
  go_enter Tryd.func81, Tryd.ntmps81
  go_wp2
  go_ret
  exact ⟨rfl, rfl⟩
theorem row_u64 {w : World} {g o : Nat} {xs : List Nat} {v : Value} (h : RowU w g xs) (hc : w.cell? ⟨g, o, none⟩ = some v) : ∃ z : Int, v = .int .u64 z := by
  have h' : w.heap[g]? = some (.cells (cellsU xs).toArray 34) := h
  simp only [World.cell?, h'] at hc
  simp [cellsU] at hc
  obtain ⟨a, _, rfl⟩ := hc
  exact ⟨_, rfl⟩
set_option maxRecDepth 100000 in
set_option maxHeartbeats 8000000 in
theorem exec_gather (w : World) (v : Value) (zs : List Int) (ds : List Nat) (x n : Nat) (T : List (List Int)) (Q : Nat → List Nat) (bh oh ch C : Nat) (h : IsZ w v zs) (hG : Good zs ds) (hn : prd2 ds ≤ 1024) (hx : x < ds.length) (hn1 : 1 ≤ n) (hn8 : n ≤ 8) (hTl : T.length ≤ 64) (hV : ∀ t ∈ T, Vld (nln ds x) x t)
    (hph : ∀ i, i < T.length → ∀ j, j < 3 → w.cell? ⟨bh, oh + 3 * i + j, none⟩ = some (.int .i64 ((T.getD i []).getD j 0)))
    (hC : ∀ k, k < n → ∃ b o c, w.cell? ⟨C, k, none⟩ = some (.slice (some ⟨b, o, none⟩) (prd2 ds) c) ∧ IsU w (.slice (some ⟨b, o, none⟩) (prd2 ds) c) (Q k) ∧ (Q k).length = prd2 ds) :
    Calls Tryd.prog 38 #[v, .int .i64 (x : Int), .slice (some ⟨bh, oh, none⟩) T.length ch, .slice (some ⟨C, 0, none⟩) n n] w fun e w' => ∃ g, e = .returned (.slice (some ⟨g, 0, none⟩) (prd2 ds) (prd2 ds)) ∧ w.heap.size ≤ g ∧ RowU w' g (gat ds x (fun i => Q (i % n)) T T.length) ∧ Below w.heap.size w w' := by
  have hS : Shp ds := hG.2.2.2
  have hu0 := beh_pos hS (x + 1)
  have hd0 := P2_pos (hS.at x hx)
  have hnl : nln ds x ≤ 1024 := by rw [← nln_div hS x hx]; exact Nat.le_trans (Nat.div_le_self _ _) hn
  have hd9 := sz_le hS hn x hx
  have hpslt : Hid (∀ i k, i < nln ds x → k < sz ds x → ps (beh ds (x + 1)) (sz ds x) i k < prd2 ds) := fun i k hi hk => by
    rw [prd2_at ds x hx]; exact ps_lt hu0 hi hk
  have hsets : Hid (∀ (q old : List Nat) f i k, k < sz ds x → (cpK ds q old x f (f + i) k).set (ps (beh ds (x + 1)) (sz ds x) (f + i) k) (q.getD (ps (beh ds (x + 1)) (sz ds x) (f + i) k) 0) = cpK ds q old x f (f + i) (k + 1)) := fun q old f i k hk => cpK_set hS q old x f (f + i) k (by omega) hk
  have hlines : Hid (∀ (q old : List Nat) f i, cpK ds q old x f (f + i) (sz ds x) = cpK ds q old x f (f + (i + 1)) 0) := fun q old f i => cpK_line hS q old x hx f (f + i)
  have hstart : Hid (∀ i f, cpK ds (Q (i % n)) (gat ds x (fun i => Q (i % n)) T i) x f (f + 0) 0 = gat ds x (fun i => Q (i % n)) T i) := fun i f => cpK_start _ (gat_length _ _ _ _ _) x f
  have hnext : Hid (∀ i (f l : Nat), i < T.length → (T.getD i []).getD 1 0 = (f : Int) → (T.getD i []).getD 2 0 = (l : Int) → cpK ds (Q (i % n)) (gat ds x (fun i => Q (i % n)) T i) x f l 0 = gat ds x (fun i => Q (i % n)) T (i + 1)) := fun i f l _ h1 h2 => by
    show _ = cpK _ _ _ _ _ _ _
    rw [h1, h2]
    rfl
  have hcl : Hid (∀ q old f i k, (cpK ds q old x f i k).length = prd2 ds) := fun q old f i k => cpK_length _ _ _ _ _ _ _
  have hg0 : Hid (List.replicate (prd2 ds) 0 = gat ds x (fun i => Q (i % n)) T 0) := rfl
  have hlp : Hid (∀ i t, t < sz ds x → (lin ds x (ps (beh ds (x + 1)) (sz ds x) i 0) (sz ds x)).getD t 0 = ps (beh ds (x + 1)) (sz ds x) i t) := fun i t ht => lin_ps ds x i t ht
  have hll : Hid (∀ i, (lin ds x (ps (beh ds (x + 1)) (sz ds x) i 0) (sz ds x)).length = sz ds x) := fun i => lin_length _ _ _ _
  have c2 : Hid (∀ W, Below w.heap.size w W → Calls Tryd.prog 83 #[v, .int .i64 (x : Int)] W fun e w' => ∃ bl ol cl, e = .returned (.tuple #[.slice (some ⟨bl, ol, none⟩) (nln ds x) cl, .int .i64 0]) ∧ nln ds x ≤ cl ∧ (∀ i, i < nln ds x → ∃ u, w'.cell? ⟨bl, ol + i, none⟩ = some u ∧ IsI w' u (lin ds x (ps (beh ds (x + 1)) (sz ds x) i 0) (sz ds x))) ∧ Below W.heap.size W w') := fun W hb => by
    have c := many_Lines_ok W v zs ds x (h.below hb) hG hn hx
    rw [lns_eq hS x hx] at c
    refine c.mono ?_
    rintro e w' ⟨u, rfl, ⟨al, cpl, rfl, hcp, -, hLc⟩, hb2⟩
    have hnp : 0 < nln ds x := by
      have h1 := prd2_pos hS.pos
      rw [prd2_at ds x hx] at h1
      exact Nat.mul_pos hu0 (Nat.pos_of_ne_zero fun e => by rw [e, Nat.mul_zero] at h1; omega)
    have hLl : ((List.range (nln ds x)).map fun i => lin ds x (ps (beh ds (x + 1)) (sz ds x) i 0) (sz ds x)).length = nln ds x := by simp
    rw [hLl] at hcp hLc ⊢
    obtain ⟨bl, ol, u0, rfl, -⟩ := hLc 0 hnp
    refine ⟨bl, ol, cpl, rfl, hcp, fun i hi => ?_, hb2⟩
    obtain ⟨b9, o9, u9, e9, hc9, hI9⟩ := hLc i hi
    simp only [Option.some.injEq, Addr.mk.injEq, and_true] at e9
    obtain ⟨rfl, rfl⟩ := e9
    refine ⟨u9, hc9, ?_⟩
    have e : (((List.range (nln ds x)).map fun i => lin ds x (ps (beh ds (x + 1)) (sz ds x) i 0) (sz ds x)).getD i []) = lin ds x (ps (beh ds (x + 1)) (sz ds x) i 0) (sz ds x) := by simp [List.getD, hi]
    rw [e] at hI9
    exact hI9
  have c3 := fun W k (hk : k ≤ 1000000) => gth_dealtTo W k n hk hn1 hn8
  have hC' : Hid (∀ k, k < n → ∃ b o c, w.cell? ⟨C, k, none⟩ = some (.slice (some ⟨b, o, none⟩) (prd2 ds) c) ∧ IsU w (.slice (some ⟨b, o, none⟩) (prd2 ds) c) (Q k) ∧ (Q k).length = prd2 ds) := hC
  have hV' : Hid (∀ t ∈ T, Vld (nln ds x) x t) := hV
  have hph' : Hid (∀ i, i < T.length → ∀ j, j < 3 → w.cell? ⟨bh, oh + 3 * i + j, none⟩ = some (.int .i64 ((T.getD i []).getD j 0))) := hph
  obtain ⟨b0, o0, c0, hc0, -, -⟩ := hC 0 (by omega)
  obtain ⟨av, cv, rfl, -⟩ := h
  clear hG hS hx hC hV hph hu0
  generalize gat ds x (fun i => Q (i % n)) T = W at *
  generalize hde : sz ds x = d at *
  clear hde
  generalize hue : beh ds (x + 1) = u at *
  clear hue
  generalize hNe : prd2 ds = N at *
  clear hNe
  generalize hMe : nln ds x = M at *
  clear hMe
  have hn9 : N ≤ 1000000000 := by omega
  go_enter Tryd.func38, Tryd.ntmps38
  go_wp2_with (first
    | (at_make; refine wp_makeG rfl _ _ rfl N rfl rfl hn9 ?_; intro gr w2 hgr hrow hb; clear hn9)
    | (go_at_call 83; refine Calls.mono (c2.out _ hb) ?_; rintro e w3 ⟨bl, ol, cl, rfl, hcl9, hL, hb3⟩; clear c2))
  have hgrw : w.heap.size ≤ gr := Nat.le_of_eq hgr.out.symm
  have hB3 := hb.trans (hb3.mono hb.size)
  have hrow3 := (hrow.below hb3).cast hg0.out
  clear hgr hrow hb hb3 hc0
  go_loopw [32] (fun vi wr => ∃ i : Nat, i ≤ T.length ∧ vi = .int .i64 (i : Int) ∧ RowU wr gr (W i) ∧ Bar gr w3 wr)
    (fun vi _ => T.length - (intOf vi).toNat)
  case atStart => exact ⟨0, Nat.zero_le _, rfl, hrow3, Bar.refl _ _⟩
  case round =>
    have hgr3 := hrow3.lt
    have hr3 : Hid (RowU w3 gr (W 0)) := hrow3
    clear hrow3
    obtain ⟨i, hi, rfl, hrow, hbar⟩ := hrel
    have hBi : Below w.heap.size w wr := hB3.trans (hbar.below hgrw hB3.size)
    by_cases hlt : i < T.length
    · have hv := hV'.out _ (getD_mem hlt)
      obtain ⟨f, hf⟩ := Int.eq_ofNat_of_zero_le hv.2.1
      obtain ⟨l, hl⟩ := Int.eq_ofNat_of_zero_le (show 0 ≤ (T.getD i []).getD 2 0 by have := hv.2.1; have := hv.2.2.2; omega)
      have hfl : f < l := by have := hv.2.2.2; omega
      have hlM : l ≤ M := by have := hv.2.2.1; omega
      have q0 := (hBi.cell (block_lt (hph'.out i hlt 0 (by decide)))).trans (hph'.out i hlt 0 (by decide))
      have q1 := (hBi.cell (block_lt (hph'.out i hlt 1 (by decide)))).trans (hph'.out i hlt 1 (by decide))
      have q2 := (hBi.cell (block_lt (hph'.out i hlt 2 (by decide)))).trans (hph'.out i hlt 2 (by decide))
      have hnx := hnext.out i f l hlt hf hl
      have hst := hstart.out i f
      rw [hv.1] at q0
      rw [hf] at q1
      rw [hl] at q2
      rw [show oh + 3 * i + 0 = oh + i * 3 by omega] at q0
      rw [show oh + 3 * i + 1 = oh + i * 3 + 1 by omega] at q1
      rw [show oh + 3 * i + 2 = oh + i * 3 + 2 by omega] at q2
      have hmod : i % n < n := Nat.mod_lt _ (by omega)
      obtain ⟨bp, op, cp, hcp, hUp, hQl⟩ := hC'.out (i % n) hmod
      have hcp1 := (hBi.cell (block_lt hcp)).trans hcp
      have hA0 : (wr.alloc (.cells #[.int .i64 (x : Int), .int .i64 (f : Int), .int .i64 (l : Int)] 71)).cell? ⟨wr.heap.size, 0, none⟩ = some (.int .i64 (x : Int)) := by rw [World.cell?_alloc_at _ _ _ _ rfl]; rfl
      have hA1 : (wr.alloc (.cells #[.int .i64 (x : Int), .int .i64 (f : Int), .int .i64 (l : Int)] 71)).cell? ⟨wr.heap.size, 1, none⟩ = some (.int .i64 (f : Int)) := by rw [World.cell?_alloc_at _ _ _ _ rfl]; rfl
      have hA2 : (wr.alloc (.cells #[.int .i64 (x : Int), .int .i64 (f : Int), .int .i64 (l : Int)] 71)).cell? ⟨wr.heap.size, 2, none⟩ = some (.int .i64 (l : Int)) := by rw [World.cell?_alloc_at _ _ _ _ rfl]; rfl
      have hbW := below_alloc1 wr (.cells #[.int .i64 (x : Int), .int .i64 (f : Int), .int .i64 (l : Int)] 71)
      have hcp2 := (hbW.cell (block_lt hcp1)).trans hcp1
      have hi6 : i ≤ 1000000 := by omega
      have c3i := fun W => c3 W i hi6
      clear hv hf hl hph' hnext hstart hV' hcp c3
      generalize i % n = im at *
      go_wp2_with (go_at_call 81; refine Calls.mono (c3i _) ?_; rintro e w' ⟨rfl, hw⟩; rw [hw]; clear hw)
      obtain ⟨m, hm⟩ : ∃ m, l = f + m := ⟨l - f, by omega⟩
      have hlf : l - f = m := by omega
      rw [hlf]
      have hbar4 := hbar.andThen hbW
      have hrow4 := (hrow.below hbW).cast hst.symm
      have hB4 := hBi.trans (hbW.mono hBi.size)
      rw [hm] at hnx
      have hnx' : Hid (cpK ds (Q im) (W i) x f (f + m) 0 = W (i + 1)) := hnx
      have hm9 : m ≤ 1024 := by omega
      have hfM : f + m ≤ M := by omega
      clear hcp1 hcp2 hA0 hA1 hA2 q0 q1 q2 hbW hrow hbar hBi hst hnx c3i hlf
      generalize wr.alloc (.cells #[.int .i64 (x : Int), .int .i64 (f : Int), .int .i64 (l : Int)] 71) = w4 at *
      generalize wr.heap.size = gt at *
      go_loopw [51] (fun vj wr => ∃ j : Nat, j ≤ m ∧ vj = .int .i64 (j : Int) ∧ RowU wr gr (cpK ds (Q im) (W i) x f (f + j) 0) ∧ Bar gr w4 wr)
        (fun vj _ => m - (intOf vj).toNat)
      case atStart => exact ⟨0, Nat.zero_le _, rfl, hrow4, Bar.refl _ _⟩
      case round =>
        clear hrow4
        obtain ⟨j, hj, rfl, hrow, hbj⟩ := hrel
        have hbw3 := hbar4.trans hbj
        by_cases hjm : j < m
        · obtain ⟨ul, hcl2, hI⟩ := hL (f + j) (by omega)
          have hne1 : bl ≠ gr := by
            rintro rfl
            obtain ⟨z, rfl⟩ := row_u64 hr3.out hcl2
            obtain ⟨_, _, e, _⟩ := hI
            cases e
          obtain ⟨au, cu, rfl, -, -, hcI⟩ := hI
          rw [hll.out] at hcI hcl2
          obtain ⟨gl, og, rfl, hcI0⟩ := hcI 0 hd0
          have hne2 : gl ≠ gr := by
            rintro rfl
            obtain ⟨z, e⟩ := row_u64 hr3.out hcI0
            cases e
          have hct : ∀ t, t < d → w3.cell? ⟨gl, og + t, none⟩ = some (.int .i64 ((ps u d (f + j) t : Nat) : Int)) := fun t ht => by
            obtain ⟨g9, o9, e9, hc9⟩ := hcI t ht
            simp only [Option.some.injEq, Addr.mk.injEq, and_true] at e9
            obtain ⟨rfl, rfl⟩ := e9
            rw [hlp.out _ t ht] at hc9
            exact hc9
          have hcl3 := (World.cell?_of_block (hbw3.block bl (block_lt hcl2) hne1)).trans hcl2
          rw [show ol + (f + j) = ol + f + j by omega] at hcl3
          have hps := fun k (hk : k < d) => hpslt.out (f + j) k (by omega) hk
          have hcU : ∀ k, k < d → w.cell? ⟨bp, op + ps u d (f + j) k, none⟩ = some (.int .u64 (((Q im).getD (ps u d (f + j) k) 0 : Nat) : Int)) := fun k hk => hUp.cell _ (by rw [hQl]; exact hps k hk)
          have hs2 : Hid (∀ k, k < d → (cpK ds (Q im) (W i) x f (f + j) k).set (ps u d (f + j) k) ((Q im).getD (ps u d (f + j) k) 0) = cpK ds (Q im) (W i) x f (f + j) (k + 1)) := fun k hk => hsets.out _ _ _ _ _ hk
          obtain ⟨w5, hw5⟩ : ∃ w5 : World, w5 = wr := ⟨_, rfl⟩
          rw [← hw5] at hrow hbj hbw3 hcl3 ⊢
          clear hw5 hcl2 hcI hcI0
          go_wp2
          go_loopw [57] (fun vk wr => ∃ k : Nat, k ≤ d ∧ vk = .int .i64 (k : Int) ∧ RowU wr gr (cpK ds (Q im) (W i) x f (f + j) k) ∧ Bar gr w5 wr)
            (fun vk _ => d - (intOf vk).toNat)
          case atStart => exact ⟨0, Nat.zero_le _, rfl, hrow, Bar.refl _ _⟩
          case round =>
            clear hrow
            obtain ⟨k, hk, rfl, hrowk, hbk⟩ := hrel
            by_cases hkd : k < d
            · have p1 := hps k hkd
              have hb3k := hbw3.trans hbk
              have hBk : Below w.heap.size w wr := hB3.trans (hb3k.below hgrw hB3.size)
              have p2 := (World.cell?_of_block (hb3k.block gl (block_lt (hct k hkd)) hne2)).trans (hct k hkd)
              have p3 := (hBk.cell (block_lt (hcU k hkd))).trans (hcU k hkd)
              have p4 := hrowk.cell (ps u d (f + j) k) (by rw [hcl.out]; exact p1)
              have p5 := hrowk.frozen (ps u d (f + j) k)
              have p6 := hrowk.set (ps u d (f + j) k) ((Q im).getD (ps u d (f + j) k) 0)
              rw [hs2.out k hkd] at p6
              have hB2 := hbk.setCell (ps u d (f + j) k) (.int .u64 (((Q im).getD (ps u d (f + j) k) 0 : Nat) : Int))
              clear hrowk hbk hb3k hBk hct hcU hps hs2 hbw3 hbj hbar4 hB4 hUp hL hcl3
              generalize (Q im).getD (ps u d (f + j) k) 0 = z at *
              generalize (cpK ds (Q im) (W i) x f (f + j) k).getD (ps u d (f + j) k) 0 = old at *
              generalize ps u d (f + j) k = pk at *
              go_wp2
              go_roundw
              case rel => exact ⟨k + 1, by omega, by go_num, p6, hB2⟩
              case measure => simp only [intOf]; omega
            · have e : d = k := by omega
              subst e
              rw [hlines.out] at hrowk
              have hbN : Bar gr w4 wr := hbj.trans hbk
              clear hct hcU hps hs2 hbw3 hbj hbar4 hB4 hUp hL hcl3 hbk
              go_wp2
              go_roundw
              case rel => exact ⟨j + 1, by omega, by go_num, hrowk, hbN⟩
              case measure => simp only [intOf]; omega
        · have e : m = j := by omega
          subst e
          rw [hnx'.out] at hrow
          clear hbj hbar4 hB4 hUp hL
          go_wp2
          go_roundw
          case rel => exact ⟨i + 1, by omega, by go_num, hrow, hbw3⟩
          case measure => simp only [intOf]; omega
    · have e : T.length = i := by omega
      rw [← e] at hrow ⊢
      clear hL hbar
      go_wp2
      go_ret
      exact ⟨gr, rfl, hgrw, hrow, hBi⟩
end Go.Proofs.YtckoipoejaafhaaDoor.Cc
