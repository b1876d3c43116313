/-
  Texts that stood one behind the other, as one.
-/
import Derived.Test.YtckoipoejaafhaaDoorSlAll
import Derived.Test.YtckoipoejaafhaaDoorSlAll
import Derived.BigQuiet
import Derived.Deep.RegionWith
namespace Go.Proofs.YtckoipoejaafhaaDoor
open Go.RowKit
set_option maxRecDepth 100000
def und (ds : List Nat) (i : Nat) : Nat := prd2 (ds.drop (i + 1))
def undK (ds : List Nat) (i j : Nat) : Nat := prd2 ((ds.drop (i + 1)).take (j - (i + 1)))
def plc (ds : List Nat) (k i : Nat) : Nat := k / und ds i % ds.getD i 0
def plcs (ds : List Nat) (k n : Nat) : List Nat := (List.range n).map (plc ds k)
theorem plcs_length (ds : List Nat) (k n : Nat) : (plcs ds k n).length = n := by simp [plcs]
theorem plcs_succ (ds : List Nat) (k n : Nat) : plcs ds k (n + 1) = plcs ds k n ++ [plc ds k n] := by
  simp [plcs, List.range_succ]
theorem undK_start (ds : List Nat) (i : Nat) : undK ds i (i + 1) = 1 := by simp [undK, prd2]
theorem undK_step (ds : List Nat) (i j : Nat) (h1 : i + 1 ≤ j) (h2 : j < ds.length) : undK ds i (j + 1) = undK ds i j * ds.getD j 0 := by
  unfold undK
  rw [show j + 1 - (i + 1) = j - (i + 1) + 1 by omega, prd2_take _ _ (by rw [List.length_drop]; omega)]
  congr 1
  simp [List.getD, List.getElem?_drop, show i + 1 + (j - (i + 1)) = j by omega]
theorem undK_end (ds : List Nat) (i : Nat) : undK ds i ds.length = und ds i := by
  unfold undK und
  rw [List.take_of_length_le (by rw [List.length_drop]; omega)]
theorem undK_le {ds : List Nat} (hp : ∀ d ∈ ds, 0 < d) (i j : Nat) : undK ds i j ≤ prd2 ds := by
  unfold undK
  refine Nat.le_trans (prd2_take_le (fun d hd => hp d (List.mem_of_mem_drop hd)) _) ?_
  rw [prd2_split ds (i + 1)]
  exact Nat.le_mul_of_pos_left _ (prd2_pos fun d hd => hp d (List.mem_of_mem_take hd))
theorem undK_pos {ds : List Nat} (hp : ∀ d ∈ ds, 0 < d) (i j : Nat) : 0 < undK ds i j :=
  prd2_pos fun d hd => hp d (List.mem_of_mem_drop (List.mem_of_mem_take hd))
def rowP (ds : List Nat) (k n : Nat) : List Value := cellsI (plcs ds k n)
theorem rowP_succ (ds : List Nat) (k n : Nat) : rowP ds k (n + 1) = rowP ds k n ++ [.int .i64 ((plc ds k n : Nat) : Int)] := by
  unfold rowP; rw [plcs_succ, cellsI_append]; rfl
set_option maxHeartbeats 4000000 in
theorem ref_Places (w : World) (v : Value) (zs : List Int) (ds : List Nat) (k : Nat) (h : IsZ w v zs) (hG : Good zs ds) (hn : prd2 ds ≤ 1024) (hk : k ≤ 1024) :
    Calls Tryd.prog 50 #[v, .int .i64 (k : Int)] w fun e w' => ∃ u, e = .returned u ∧ w'.ownsRow w.heap.size 3 1 u ds.length (rowP ds k ds.length) ∧ Below w.heap.size w w' := by
  obtain ⟨a, cap, rfl, hcap, hmax, hc, hr⟩ := h
  have hlen : zs.length = ds.length := by rw [hG.2.2.1, List.length_map]
  have hpos : Hid (∀ d ∈ ds, 0 < d) := fun d hd => P2_pos (hG.2.2.2 d hd)
  have hG' : Hid (Good zs ds) := hG
  have hc' : ∀ i, i < ds.length → ∃ b off, a = some ⟨b, off, none⟩ ∧ w.cell? ⟨b, off + i, none⟩ = some (.int .i64 ((ds.getD i 0 : Nat) : Int)) := fun i hi => by
    obtain ⟨b, off, e, hcell⟩ := hc i (by omega)
    rw [(Good_get hG i (by omega)).1] at hcell
    exact ⟨b, off, e, hcell⟩
  have h3 : ds.length ≤ 3 := by rw [← hlen]; exact hG.2.1
  have hds : Hid (∀ i, ds.getD i 0 ≤ 1024) := fun i => by
    rcases Nat.lt_or_ge i ds.length with hi | hi
    · have h1 := prd2_take ds i hi
      have h2 := prd2_take_le hpos.out (i + 1)
      have h3 : 0 < prd2 (ds.take i) := prd2_pos fun d hd => hpos.out d (List.mem_of_mem_take hd)
      have h4 : ds.getD i 0 ≤ prd2 (ds.take i) * ds.getD i 0 := Nat.le_mul_of_pos_left _ h3
      omega
    · simp [List.getD, List.getElem?_eq_none hi]
  rw [hlen]
  clear hcap hmax hc hr hG hlen
  go_enter Tryd.func50, Tryd.ntmps50
  go_wp2
  go_loopw [5, 6] (fun u vi wr => ∃ i : Nat, i ≤ ds.length ∧ vi = .int .i64 (i : Int) ∧ wr.ownsRow w.heap.size 3 1 u i (rowP ds k i) ∧ Below w.heap.size w wr)
    (fun _ vi _ => ds.length - (intOf vi).toNat)
  case atStart => exact ⟨0, Nat.zero_le _, rfl, World.ownsRow_nil _ _ _ _, Below.refl _ _⟩
  case round =>
    obtain ⟨i, hi, rfl, hown, hnx⟩ := hrel
    by_cases hlt : i < ds.length
    · go_wp2
      obtain ⟨wo, hwo⟩ : ∃ wo : World, wo = wr := ⟨_, rfl⟩
      rw [← hwo] at hown hnx ⊢
      clear hwo
      go_loop [7, 8] (fun vu vj => ∃ j : Nat, j ≤ ds.length ∧ i + 1 ≤ j ∧ vj = .int .i64 (j : Int) ∧ vu = .int .i64 ((undK ds i j : Nat) : Int))
        (fun _ vj => ds.length - (intOf vj).toNat)
      case atStart => exact ⟨i + 1, by omega, Nat.le_refl _, rfl, by rw [undK_start]; rfl⟩
      case round =>
        obtain ⟨j, hj1, hj2, rfl, rfl⟩ := hrel
        have hu9 := Nat.le_trans (undK_le hpos.out i j) hn
        have hu0 := undK_pos hpos.out i j
        by_cases hjl : j < ds.length
        · obtain ⟨b, off, rfl, hcell0⟩ := hc' j hjl
          have hcell := (hnx.cell (block_lt hcell0)).trans hcell0
          have hd9 := hds.out j
          have hst := undK_step ds i j hj2 hjl
          obtain ⟨r, hr0⟩ : ∃ r : Nat, r = undK ds i j * ds.getD j 0 := ⟨_, rfl⟩
          have hmul : (undK ds i j : Int) * (ds.getD j 0 : Int) = (r : Int) := by rw [hr0, Int.natCast_mul]
          have hr9 : r ≤ 1048576 := by rw [hr0]; exact Nat.mul_le_mul hu9 hd9
          have hr1 : Hid (undK ds i (j + 1) = r) := hst.trans hr0.symm
          clear hst hr0 hcell0 hc'
          generalize undK ds i j = q at *
          generalize ds.getD j 0 = d at *
          go_wp2
          go_round
          case rel => exact ⟨j + 1, by omega, by omega, by go_num, by rw [hr1.out]⟩
          case measure => simp only [intOf]; omega
        · have e : undK ds i j = und ds i := by rw [← undK_end, show j = ds.length by omega]
          obtain ⟨b, off, rfl, hcell0⟩ := hc' i hlt
          have hcell := (hnx.cell (block_lt hcell0)).trans hcell0
          have hd0 : 0 < ds.getD i 0 := P2_pos (Good_get hG'.out i (by have := hG'.out.2.2.1; rw [this, List.length_map]; exact hlt)).2
          rw [e] at hu9 hu0 ⊢
          have hquo : (k : Int).tdiv (und ds i : Int) = ((k / und ds i : Nat) : Int) := by rw [Int.tdiv_eq_ediv_of_nonneg (by omega), Int.natCast_ediv]
          have hrem : ((k / und ds i : Nat) : Int).tmod (ds.getD i 0 : Int) = ((plc ds k i : Nat) : Int) := by rw [Int.tmod_eq_emod_of_nonneg (Int.natCast_nonneg _), plc, Int.natCast_emod]
          have hquo' : (k : Int) / (und ds i : Int) = ((k / und ds i : Nat) : Int) := by rw [Int.natCast_ediv]
          have hrem' : ((k / und ds i : Nat) : Int) % (ds.getD i 0 : Int) = ((plc ds k i : Nat) : Int) := by rw [plc, Int.natCast_emod]
          have hq9 : k / und ds i ≤ 1024 := Nat.le_trans (Nat.div_le_self _ _) hk
          have hp9 : plc ds k i ≤ 1024 := Nat.le_trans (Nat.mod_le _ _) hq9
          have hnew := rowP_succ ds k i
          have hrow : Hid (∀ (w1 : World) (u : Value), w1.ownsRow w.heap.size 3 1 u (i + 1) (rowP ds k i ++ [.int .i64 ((plc ds k i : Nat) : Int)]) → w1.ownsRow w.heap.size 3 1 u (i + 1) (rowP ds k (i + 1))) := fun w1 u h => by rw [hnew]; exact h
          have hge : ds.length ≤ j := by omega
          have hi9 : i ≤ 1000000000 := by omega
          have hd9 := hds.out i
          have huz : ¬ und ds i = 0 := by omega
          have hdz : ¬ ds.getD i 0 = 0 := by omega
          have hwq : IntKind.i64.wrap ((k / und ds i : Nat) : Int) = ((k / und ds i : Nat) : Int) := wraps_i64 _ (Int.natCast_nonneg _) (by omega)
          have hwz : IntKind.i64.wrap ((plc ds k i : Nat) : Int) = ((plc ds k i : Nat) : Int) := wraps_i64 _ (Int.natCast_nonneg _) (by omega)
          clear hnew hcell0 hc' e
          generalize plc ds k i = z at *
          generalize k / und ds i = q at *
          generalize und ds i = u at *
          generalize ds.getD i 0 = d at *
          go_wp2
          go_region_law (refine step_appendI (w := wo.drew) rfl (.tmp 29) (.tmp 38) rfl u5 i (rowP ds k i) z (by simp [Act.eval]) (by simp [Act.eval]) hown.drew hi9 hnx.drew ?_; intro v' w1 hown' hnx')
          all_goals
            have hown2 := hrow.out _ _ hown'
            clear hown' hown hrow hnx hcell
            go_wp2
            go_roundw
            case rel => exact ⟨i + 1, by omega, by go_num, hown2, hnx'⟩
            case measure => simp only [intOf]; omega
    · have e : i = ds.length := by omega
      subst e
      clear hc'
      go_wp2
      go_ret
      exact ⟨_, rfl, hown, hnx⟩
def plf (ds p : List Nat) : Nat → Nat
  | 0 => 0
  | n + 1 => plf ds p n * ds.getD n 0 + p.getD n 0
theorem plf_le (ds p : List Nat) (hd : ∀ i, ds.getD i 0 ≤ 1024) (hp : ∀ i, p.getD i 0 ≤ 1024) (n : Nat) : plf ds p n + 1 ≤ 1025 ^ n := by
  induction n with
  | zero => simp [plf]
  | succ n ih =>
    rw [plf, Nat.pow_succ]
    have h1 : plf ds p n * ds.getD n 0 ≤ plf ds p n * 1024 := Nat.mul_le_mul_left _ (hd n)
    have h2 := hp n
    omega
set_option maxHeartbeats 4000000 in
theorem ref_Place (w : World) (v v' : Value) (zs : List Int) (ds p : List Nat) (h : IsZ w v zs) (h' : IsI w v' p) (hG : Good zs ds) (hpl : p.length = ds.length) (hds : ∀ i, ds.getD i 0 ≤ 1024) (hp : ∀ i, p.getD i 0 ≤ 1024) :
    Calls Tryd.prog 51 #[v, v'] w fun e w' => e = .returned (.int .i64 ((plf ds p ds.length : Nat) : Int)) ∧ ∃ m, w' = w.drewN m := by
  obtain ⟨a, cap, rfl, -, -, hc, -⟩ := h
  obtain ⟨a', cap', rfl, -, -, hc'⟩ := h'
  have hlen : zs.length = ds.length := by rw [hG.2.2.1, List.length_map]
  have h3 : ds.length ≤ 3 := by rw [← hlen]; exact hG.2.1
  have hcd : ∀ i, i < ds.length → ∃ b off, a = some ⟨b, off, none⟩ ∧ w.cell? ⟨b, off + i, none⟩ = some (.int .i64 ((ds.getD i 0 : Nat) : Int)) := fun i hi => by
    obtain ⟨b, off, e, hcell⟩ := hc i (by omega)
    rw [(Good_get hG i (by omega)).1] at hcell
    exact ⟨b, off, e, hcell⟩
  have hb := plf_le ds p hds hp
  rw [hpl] at hc' ⊢
  rw [hlen]
  clear hc hG hlen
  go_enter Tryd.func51, Tryd.ntmps51
  go_wp2
  go_loopw [5, 6] (fun vk vi wr => ∃ i : Nat, i ≤ ds.length ∧ vi = .int .i64 (i : Int) ∧ vk = .int .i64 ((plf ds p i : Nat) : Int) ∧ Hid (∃ m, wr = w.drewN m))
    (fun _ vi _ => ds.length - (intOf vi).toNat)
  case atStart => exact ⟨0, Nat.zero_le _, rfl, rfl, ⟨0, rfl⟩⟩
  case round =>
    obtain ⟨i, hi, rfl, rfl, hq⟩ := hrel
    by_cases hlt : i < ds.length
    · obtain ⟨b, off, rfl, hcell0⟩ := hcd i hlt
      obtain ⟨b', off', rfl, hcell0'⟩ := hc' i hlt
      have hcell : wr.cell? ⟨b, off + i, none⟩ = some (.int .i64 ((ds.getD i 0 : Nat) : Int)) := by obtain ⟨m, rfl⟩ := hq.out; exact hcell0
      have hcell' : wr.cell? ⟨b', off' + i, none⟩ = some (.int .i64 ((p.getD i 0 : Nat) : Int)) := by obtain ⟨m, rfl⟩ := hq.out; exact hcell0'
      have hb1 : plf ds p i ≤ 1050625 := by
        have h1 := hb i
        have h2 : 1025 ^ i ≤ 1025 ^ 2 := Nat.pow_le_pow_right (by decide) (by omega)
        omega
      have hd9 := hds i
      have hp9 := hp i
      obtain ⟨r, hr0⟩ : ∃ r : Nat, r = plf ds p i * ds.getD i 0 := ⟨_, rfl⟩
      have hmul : (plf ds p i : Int) * (ds.getD i 0 : Int) = (r : Int) := by rw [hr0, Int.natCast_mul]
      have hr9 : r ≤ 1075840000 := by rw [hr0]; exact Nat.le_trans (Nat.mul_le_mul hb1 hd9) (by decide)
      have hst : Hid (plf ds p (i + 1) = r + p.getD i 0) := by show _ = _; rw [plf, hr0]
      clear hr0 hcell0 hcell0' hcd hc' hb hds hp
      generalize plf ds p i = q at *
      generalize ds.getD i 0 = d at *
      generalize p.getD i 0 = t at *
      go_wp2
      go_quiet (fail)
      go_wp2
      go_roundw
      case rel => exact ⟨i + 1, by omega, by go_num, by rw [hst.out]; go_num, by obtain ⟨m, rfl⟩ := hq.out; exact ⟨m + _, World.drewN_drewN _ _ _⟩⟩
      case measure => simp only [intOf]; omega
    · have e : i = ds.length := by omega
      subst e
      clear hcd hc' hb hds hp
      go_wp2
      go_ret
      exact ⟨rfl, hq.out⟩
def IsL (w : World) (v : Value) (L : List (List Nat)) : Prop :=
  ∃ (a : Option Addr) (cap : Nat), v = .slice a L.length cap ∧ L.length ≤ cap ∧ cap ≤ maxLen ∧
    (∀ i, i < L.length → ∃ b off u, a = some ⟨b, off, none⟩ ∧ w.cell? ⟨b, off + i, none⟩ = some u ∧ IsI w u (L.getD i []))
def lin (ds : List Nat) (x k n : Nat) : List Nat := (List.range n).map fun t => k + t * und ds x
theorem lin_length (ds : List Nat) (x k n : Nat) : (lin ds x k n).length = n := by simp [lin]
def lns (ds : List Nat) (x : Nat) : Nat → List (List Nat)
  | 0 => []
  | k + 1 => if plc ds k x = 0 then lns ds x k ++ [lin ds x k (ds.getD x 0)] else lns ds x k
theorem Good_unique {zs : List Int} {ds ds' : List Nat} (h : Good zs ds) (h' : Good zs ds') : ds' = ds := by
  have e := h.2.2.1.symm.trans h'.2.2.1
  have e2 := congrArg (List.map Int.toNat) e
  rw [List.map_map, List.map_map] at e2
  have hid : (Int.toNat ∘ fun (d : Nat) => (d : Int)) = id := funext fun d => by simp
  rw [hid, List.map_id, List.map_id] at e2
  exact e2.symm
theorem below_dr {w w' : World} (h : ∃ m, w' = w.drewN m) (B : Nat) : Below B w w' := by
  obtain ⟨m, rfl⟩ := h
  exact below_drewN (Below.refl _ _) m
theorem IsI.block {w w' : World} {g l c : Nat} {xs : List Nat} (h : IsI w (.slice (some ⟨g, 0, none⟩) l c) xs) (e : w'.heap[g]? = w.heap[g]?) : IsI w' (.slice (some ⟨g, 0, none⟩) l c) xs := by
  obtain ⟨a, cap, hv, h1, h2, hc⟩ := h
  refine ⟨a, cap, hv, h1, h2, fun i hi => ?_⟩
  obtain ⟨b, off, rfl, hcell⟩ := hc i hi
  simp only [Value.slice.injEq, Option.some.injEq, Addr.mk.injEq, and_true] at hv
  obtain ⟨⟨rfl, rfl⟩, _⟩ := hv
  exact ⟨g, 0, rfl, (World.cell?_of_block (w := w) e).trans hcell⟩
def IsLF (B : Nat) (w : World) (v : Value) (L : List (List Nat)) : Prop :=
  ∃ (a : Option Addr) (cap : Nat), v = .slice a L.length cap ∧ L.length ≤ cap ∧ cap ≤ maxLen ∧
    (∀ i, i < L.length → ∃ b off gl cl, a = some ⟨b, off, none⟩ ∧ B ≤ b ∧ B ≤ gl ∧ w.cell? ⟨b, off + i, none⟩ = some (.slice (some ⟨gl, 0, none⟩) (L.getD i []).length cl) ∧ IsI w (.slice (some ⟨gl, 0, none⟩) (L.getD i []).length cl) (L.getD i []))
theorem IsLF.isL {B : Nat} {w : World} {v : Value} {L : List (List Nat)} (h : IsLF B w v L) : IsL w v L := by
  obtain ⟨a, cap, rfl, h1, h2, hc⟩ := h
  refine ⟨a, cap, rfl, h1, h2, fun i hi => ?_⟩
  obtain ⟨b, off, gl, cl, rfl, _, _, hcell, hI⟩ := hc i hi
  exact ⟨b, off, _, rfl, hcell, hI⟩
theorem own_lt {w : World} {base e size n b : Nat} {v : Value} {xs : List Value} (h : w.ownsRow base e size v n xs) (hb : v.ownBlock = some b) : b < w.heap.size := by
  rcases h.2 with ⟨rfl, _⟩ | ⟨g, cap, cur, rfl, hg, hh, _⟩
  · simp [Value.ownBlock] at hb
  · simp only [Value.ownBlock, Option.some.injEq] at hb
    subst hb
    obtain ⟨hlt, _⟩ := Array.getElem?_eq_some_iff.1 hh
    exact hlt
structure Bar (g : Nat) (w w' : World) : Prop where
  os : w'.os = w.os
  tape : w'.tape = w.tape
  output : w'.output = w.output
  size : w.heap.size ≤ w'.heap.size
  block : ∀ k, k < w.heap.size → k ≠ g → w'.heap[k]? = w.heap[k]?
theorem Bar.refl (g : Nat) (w : World) : Bar g w w := ⟨rfl, rfl, rfl, Nat.le_refl _, fun _ _ _ => rfl⟩
theorem Bar.trans {g : Nat} {a b c : World} (h : Bar g a b) (k : Bar g b c) : Bar g a c :=
  ⟨k.os.trans h.os, k.tape.trans h.tape, k.output.trans h.output, Nat.le_trans h.size k.size, fun i hi hg => (k.block i (Nat.lt_of_lt_of_le hi h.size) hg).trans (h.block i hi hg)⟩
theorem Bar.drewN {g : Nat} {a b : World} (h : Bar g a b) (n : Nat) : Bar g a (b.drewN n) := ⟨h.os, h.tape, h.output, h.size, h.block⟩
theorem Bar.setCell {g : Nat} {a b : World} (h : Bar g a b) (i : Nat) (u : Value) : Bar g a (b.setCell ⟨g, i, none⟩ u) :=
  h.trans ⟨rfl, rfl, rfl, by simp [World.setCell], fun k _ hg => Below.heap_setCell _ _ _ _ hg⟩
theorem Bar.of_below {g : Nat} {a b : World} (h : Below a.heap.size a b) : Bar g a b := ⟨h.os, h.tape, h.output, h.size, fun k hk _ => h.block k hk⟩
theorem Bar.below {g B : Nat} {a b : World} (h : Bar g a b) (hg : B ≤ g) (hB : B ≤ a.heap.size) : Below B a b := ⟨h.os, h.tape, h.output, h.size, fun k hk => h.block k (by omega) (by omega)⟩
theorem Bar.fresh {g : Nat} {a b c : World} (h : Below a.heap.size a b) (hg : a.heap.size ≤ g) (k : Bar g b c) : Below a.heap.size a c :=
  h.trans (k.below hg h.size)
def Apart (v : Value) (g : Nat) : Prop := ∀ b off s l c, v = .slice (some ⟨b, off, s⟩) l c → 0 < l → b ≠ g
theorem IsU.bar {w w' : World} {v : Value} {xs : List Nat} {g : Nat} (h : IsU w v xs) (ha : Apart v g) (hb : Bar g w w') : IsU w' v xs := by
  obtain ⟨a, cap, rfl, h1, h2, hc, hr⟩ := h
  refine ⟨a, cap, rfl, h1, h2, fun i hi => ?_, hr⟩
  obtain ⟨b, off, rfl, hcell⟩ := hc i hi
  exact ⟨b, off, rfl, (World.cell?_of_block (w := w) (hb.block b (block_lt hcell) (ha b off none _ _ rfl (by omega)))).trans hcell⟩
theorem IsU.apart {w : World} {v : Value} {xs : List Nat} {g : Nat} (h : IsU w v xs) (hg : w.heap.size ≤ g) : Apart v g := by
  obtain ⟨a, cap, rfl, h1, h2, hc, hr⟩ := h
  intro b off s l c e hl
  simp only [Value.slice.injEq] at e
  obtain ⟨rfl, rfl, rfl⟩ := e
  obtain ⟨b', off', e2, hcell⟩ := hc 0 hl
  simp only [Option.some.injEq, Addr.mk.injEq] at e2
  obtain ⟨rfl, rfl, _⟩ := e2
  have := block_lt hcell
  omega
def RowI (w : World) (g : Nat) (xs : List Nat) : Prop := w.heap[g]? = some (.cells (cellsI xs).toArray 3 (0, 0))
theorem RowI.lt {w : World} {g : Nat} {xs : List Nat} (h : RowI w g xs) : g < w.heap.size := by
  obtain ⟨hlt, _⟩ := Array.getElem?_eq_some_iff.1 h
  exact hlt
theorem RowI.cell {w : World} {g : Nat} {xs : List Nat} (h : RowI w g xs) (i : Nat) (hi : i < xs.length) : w.cell? ⟨g, i, none⟩ = some (.int .i64 ((xs.getD i 0 : Nat) : Int)) := by
  have hh : w.heap[g]? = _ := h
  have hc := cellsI_get xs i hi
  simp only [World.cell?, hh, List.getElem?_toArray]
  rw [hc]; rfl
theorem RowI.frozen {w : World} {g : Nat} {xs : List Nat} (h : RowI w g xs) (i : Nat) : w.frozen? ⟨g, i, none⟩ = false := by
  have hh : w.heap[g]? = _ := h
  simp [World.frozen?, hh]
theorem RowI.set {w : World} {g : Nat} {xs : List Nat} (h : RowI w g xs) (i x : Nat) : RowI (w.setCell ⟨g, i, none⟩ (.int .i64 (x : Int))) g (xs.set i x) := by
  have hh : w.heap[g]? = _ := h
  unfold RowI
  rw [← cellsI_set]
  simp [World.setCell, Array.getElem?_modify, hh]
theorem RowI.block {w w' : World} {g : Nat} {xs : List Nat} (h : RowI w g xs) (e : w'.heap[g]? = w.heap[g]?) : RowI w' g xs := e.trans h
theorem RowI.below {w w' : World} {g : Nat} {xs : List Nat} (h : RowI w g xs) (hb : Below w.heap.size w w') : RowI w' g xs := h.block (hb.block g h.lt)
theorem RowI.bar {w w' : World} {g g' : Nat} {xs : List Nat} (h : RowI w g' xs) (hne : g' ≠ g) (hb : Bar g w w') : RowI w' g' xs := h.block (hb.block g' h.lt hne)
theorem RowI.cast {w : World} {g : Nat} {xs ys : List Nat} (h : RowI w g xs) (e : xs = ys) : RowI w g ys := e ▸ h
theorem RowI.isIN {w : World} {g n : Nat} {xs : List Nat} (h : RowI w g xs) (hl : xs.length ≤ 1000000000) (hn : xs.length = n) : IsI w (.slice (some ⟨g, 0, none⟩) n n) xs := by
  subst hn
  exact ⟨some ⟨g, 0, none⟩, xs.length, rfl, Nat.le_refl _, by unfold maxLen; omega, fun i hi => ⟨g, 0, rfl, by rw [Nat.zero_add]; exact h.cell i hi⟩⟩
theorem made_int (n : Nat) : (madeCells (Value.int .i64 0).cells (n * 1)).toList = cellsI (List.replicate n 0) := by
  rw [show (Value.int .i64 0).cells = #[Value.int .i64 0] from rfl, Nat.mul_one, toList_madeCells_one]
  unfold cellsI
  rw [List.map_replicate]; rfl
theorem wp_makeI {ops : Array Oper} {rest : List Oper} {o : Oper} {a : Act} {Q : Exit → Act → World → Prop} {w : World} (hgd : o.guard = none) (l c : Operand) (ho : o.op = Op.makeSlice 22 l c) (n : Nat)
    (hl : a.eval l = .int .i64 (n : Int)) (hc : a.eval c = .int .i64 (n : Int)) (hn : n ≤ 1000000000)
    (h : ∀ g w', Hid (g = w.heap.size) → RowI w' g (List.replicate n 0) → Below w.heap.size w w' → wpList Tryd.prog ops Q rest (a.put o.dst (.slice (some ⟨g, 0, none⟩) n n)) w') :
    wpList Tryd.prog ops Q (o :: rest) a w := by
  obtain ⟨i0, hi, hz0, hz1, hz2⟩ := info_parts info_int
  refine wpList_make_full w hgd l c 22 ho w.heap.size 3 i0 (.int .i64 0) 1 Tryd.underlying22 hi hz0 hz1 .i64 .i64 n n n hl hc rfl rfl (by rw [hz2]; omega) (by unfold maxLen; omega) (Nat.le_refl _) ?_
  intro w' hown hgrow
  rw [made_int] at hown
  refine h w.heap.size w' rfl ?_ ((Below.refl _ _).grown hgrow (Nat.le_refl _) (fun k hk => by cases hk))
  rcases hown.2 with ⟨hv, _⟩ | ⟨g', cap', cur, hv, hg, hh, h1, h2, h3, h4⟩
  · cases hv
  · simp only [Value.slice.injEq, Option.some.injEq, Addr.mk.injEq, and_true, true_and] at hv
    obtain ⟨rfl, rfl⟩ := hv
    have hcur : cur.toList = cellsI (List.replicate n 0) := by rw [← h4, Nat.mul_one, List.take_of_length_le (by simp [h3])]
    have hcur2 : cur = (cellsI (List.replicate n 0)).toArray := by rw [← hcur]
    rw [hcur2] at hh
    exact hh
end Go.Proofs.YtckoipoejaafhaaDoor
