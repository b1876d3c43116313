/-
  Texts that stood one behind the other, as one.
-/
import Derived.Test.YtckoipoejaafhaaDoorSlAppIAll
import Derived.Test.YtckoipoejaafhaaDoorSlAll
/-! What Lines of package goldref answers: the lines of an axis. -/
namespace Go.Proofs.YtckoipoejaafhaaDoor
open Go.RowKit
set_option maxRecDepth 100000

/-- A slice of slices of ints reads as a list of lists. -/
def IsL (w : World) (v : Value) (L : List (List Nat)) : Prop :=
  ∃ (a : Option Addr) (cap : Nat), v = .slice a L.length cap ∧ L.length ≤ cap ∧ cap ≤ maxLen ∧
    (∀ i, i < L.length → ∃ b off u, a = some ⟨b, off, none⟩ ∧ w.cell? ⟨b, off + i, none⟩ = some u ∧ IsI w u (L.getD i []))
theorem IsL.below {w w' : World} {v : Value} {L : List (List Nat)} (h : IsL w v L) (hb : Below w.heap.size w w') : IsL w' v L := by
  obtain ⟨a, cap, rfl, h1, h2, hc⟩ := h
  refine ⟨a, cap, rfl, h1, h2, fun i hi => ?_⟩
  obtain ⟨b, off, u, rfl, hcell, hI⟩ := hc i hi
  exact ⟨b, off, u, rfl, (hb.cell (block_lt hcell)).trans hcell, hI.below hb⟩
theorem IsL.nil (w : World) : IsL w (.slice none 0 0) [] :=
  ⟨none, 0, rfl, by simp, by simp [maxLen], fun i hi => by simp at hi⟩
/-- A line of axis x, from number k on: the first n numbers. -/
def lin (ds : List Nat) (x k n : Nat) : List Nat := (List.range n).map fun t => k + t * und ds x
theorem lin_length (ds : List Nat) (x k n : Nat) : (lin ds x k n).length = n := by simp [lin]
theorem lin_succ (ds : List Nat) (x k n : Nat) : lin ds x k (n + 1) = lin ds x k n ++ [k + n * und ds x] := by simp [lin, List.range_succ]
/-- The lines that begin ahead of number k. -/
def lns (ds : List Nat) (x : Nat) : Nat → List (List Nat)
  | 0 => []
  | k + 1 => if plc ds k x = 0 then lns ds x k ++ [lin ds x k (ds.getD x 0)] else lns ds x k
theorem lns_le (ds : List Nat) (x k : Nat) : (lns ds x k).length ≤ k := by
  induction k with
  | zero => simp [lns]
  | succ k ih => rw [lns]; split
                 · rw [List.length_append]; simp; omega
                 · omega

theorem Good_unique {zs : List Int} {ds ds' : List Nat} (h : Good zs ds) (h' : Good zs ds') : ds' = ds := by
  have e := h.2.2.1.symm.trans h'.2.2.1
  have e2 := congrArg (List.map Int.toNat) e
  rw [List.map_map, List.map_map] at e2
  have hid : (Int.toNat ∘ fun (d : Nat) => (d : Int)) = id := funext fun d => by simp
  rw [hid, List.map_id, List.map_id] at e2
  exact e2.symm
theorem ref_Shape_ok (w : World) (v : Value) (zs : List Int) (ds : List Nat) (h : IsZ w v zs) (hG : Good zs ds) (hn : prd2 ds ≤ 1024) :
    Calls Tryd.prog 9 #[v] w fun e w' => e = .returned (.tuple #[.int .i64 ((prd2 ds : Nat) : Int), .int .i64 0]) ∧ w' = w := by
  refine (ref_Shape w v zs h).mono ?_
  rintro e w' ⟨rfl, ⟨ds', hG', _, rfl⟩ | ⟨ds', hG', hb, _⟩ | ⟨hno, _⟩⟩
  · rw [Good_unique hG hG']; exact ⟨rfl, rfl⟩
  · rw [Good_unique hG hG'] at hb; omega
  · exact absurd hG (hno ds)

theorem below_dr {w w' : World} (h : ∃ m, w' = w.drewN m) (B : Nat) : Below B w w' := by
  obtain ⟨m, rfl⟩ := h
  exact below_drewN (Below.refl _ _) m
theorem IsI.block {w w' : World} {g l c : Nat} {xs : List Nat} (h : IsI w (.slice (some ⟨g, 0, none⟩) l c) xs) (e : w'.heap[g]? = w.heap[g]?) : IsI w' (.slice (some ⟨g, 0, none⟩) l c) xs := by
  obtain ⟨a, cap, hv, h1, h2, hc⟩ := h
  refine ⟨a, cap, hv, h1, h2, fun i hi => ?_⟩
  obtain ⟨b, off, rfl, hcell⟩ := hc i hi
  simp only [Value.slice.injEq, Option.some.injEq, Addr.mk.injEq, and_true] at hv
  obtain ⟨⟨rfl, rfl⟩, _⟩ := hv
  exact ⟨g, 0, rfl, (World.cell?_of_block (w := w) e).trans hcell⟩
/-- The slices vs, that lie in blocks from B on other than the one of u, read as the lists L. -/
def Inn (B : Nat) (w : World) (u : Value) (vs : List Value) (L : List (List Nat)) : Prop :=
  vs.length = L.length ∧ ∀ i, i < L.length → ∃ g cap, vs[i]? = some (.slice (some ⟨g, 0, none⟩) (L.getD i []).length cap) ∧ u.ownBlock ≠ some g ∧ g < w.heap.size ∧ B ≤ g ∧ IsI w (.slice (some ⟨g, 0, none⟩) (L.getD i []).length cap) (L.getD i [])
theorem Inn_nil (B : Nat) (w : World) (u : Value) : Inn B w u [] [] := ⟨rfl, fun i hi => by simp at hi⟩
theorem Inn.below {B : Nat} {w w' : World} {u : Value} {vs : List Value} {L : List (List Nat)} (h : Inn B w u vs L) (hb : Below w.heap.size w w') : Inn B w' u vs L := by
  refine ⟨h.1, fun i hi => ?_⟩
  obtain ⟨g, cap, h1, h2, h3, hB, h4⟩ := h.2 i hi
  exact ⟨g, cap, h1, h2, Nat.lt_of_lt_of_le h3 hb.size, hB, h4.below hb⟩
theorem Inn.grow {B : Nat} {w w' : World} {u u' : Value} {vs : List Value} {L : List (List Nat)} {g gl cap n c : Nat} {ls : List Nat} (h : Inn B w u vs L) (hu' : u' = .slice (some ⟨g, 0, none⟩) n c)
    (hk : ∀ b, b < w.heap.size → u.ownBlock ≠ some b → w'.heap[b]? = w.heap[b]?) (hat : u.ownBlock = some g ∨ w.heap.size < g) (hsz : w.heap.size ≤ w'.heap.size)
    (hl : IsI w (.slice (some ⟨gl, 0, none⟩) ls.length cap) ls) (hgl : gl < w.heap.size) (hBl : B ≤ gl) (hne : u.ownBlock ≠ some gl) : Inn B w' u' (vs ++ [.slice (some ⟨gl, 0, none⟩) ls.length cap]) (L ++ [ls]) := by
  have hap : ∀ b, b < w.heap.size → u.ownBlock ≠ some b → u'.ownBlock ≠ some b := by
    intro b hb hn e
    rw [hu'] at e
    simp only [Value.ownBlock, Option.some.injEq] at e
    subst e
    rcases hat with h1 | h1
    · exact hn h1
    · omega
  refine ⟨by simp [h.1], fun i hi => ?_⟩
  rw [List.length_append] at hi
  by_cases e : i < L.length
  · obtain ⟨b, c', h1, h2, h3, hB, h4⟩ := h.2 i e
    have e1 : (L ++ [ls]).getD i [] = L.getD i [] := by simp [List.getD, List.getElem?_append_left e]
    rw [e1]
    exact ⟨b, c', by rw [List.getElem?_append_left (by rw [h.1]; exact e)]; exact h1, hap b h3 h2, by omega, hB, h4.block (hk b h3 h2)⟩
  · have e2 : i = L.length := by simp at hi; omega
    subst e2
    have e1 : (L ++ [ls]).getD L.length [] = ls := by simp [List.getD]
    rw [e1]
    exact ⟨gl, cap, by rw [← h.1]; simp, hap gl hgl hne, by omega, hBl, hl.block (hk gl hgl hne)⟩
/-- A slice of slices of ints that lie in blocks from B on. -/
def IsLF (B : Nat) (w : World) (v : Value) (L : List (List Nat)) : Prop :=
  ∃ (a : Option Addr) (cap : Nat), v = .slice a L.length cap ∧ L.length ≤ cap ∧ cap ≤ maxLen ∧
    (∀ i, i < L.length → ∃ b off gl cl, a = some ⟨b, off, none⟩ ∧ B ≤ b ∧ B ≤ gl ∧ w.cell? ⟨b, off + i, none⟩ = some (.slice (some ⟨gl, 0, none⟩) (L.getD i []).length cl) ∧ IsI w (.slice (some ⟨gl, 0, none⟩) (L.getD i []).length cl) (L.getD i []))
theorem IsLF.isL {B : Nat} {w : World} {v : Value} {L : List (List Nat)} (h : IsLF B w v L) : IsL w v L := by
  obtain ⟨a, cap, rfl, h1, h2, hc⟩ := h
  refine ⟨a, cap, rfl, h1, h2, fun i hi => ?_⟩
  obtain ⟨b, off, gl, cl, rfl, _, _, hcell, hI⟩ := hc i hi
  exact ⟨b, off, _, rfl, hcell, hI⟩
theorem IsLF_of {w : World} {base n : Nat} {u : Value} {vs : List Value} {L : List (List Nat)} (h : w.ownsRow base 22 1 u n vs) (hi : Inn base w u vs L) : IsLF base w u L := by
  have h0 := h
  obtain ⟨hl, hv⟩ := h
  have hn : L.length = n := by rw [← hi.1, hl]; omega
  subst hn
  rcases hv with ⟨rfl, h2⟩ | ⟨g, cap, cur, rfl, hg, hh, hc, hm, hs, ht⟩
  · have : L = [] := List.eq_nil_of_length_eq_zero h2
    subst this
    exact ⟨none, 0, rfl, by simp, by simp [maxLen], fun i hi => by simp at hi⟩
  · refine ⟨some ⟨g, 0, none⟩, cap, rfl, hc, hm, fun i hil => ?_⟩
    obtain ⟨b, c', h1, h2, h3, hB, h4⟩ := hi.2 i hil
    refine ⟨g, 0, b, c', rfl, hg, hB, ?_, h4⟩
    rw [Nat.zero_add, h0.cellAt i (by omega), h1]
theorem owns_same {w w' : World} {base e size n g c : Nat} {xs : List Value} (h : w.ownsRow base e size (.slice (some ⟨g, 0, none⟩) n c) n xs) (e' : w'.heap[g]? = w.heap[g]?) : w'.ownsRow base e size (.slice (some ⟨g, 0, none⟩) n c) n xs := by
  refine ⟨h.1, ?_⟩
  rcases h.2 with h2 | ⟨g', cap, cur, hv, hg, hh, r⟩
  · exact Or.inl h2
  · have hv0 := hv
    simp only [Value.slice.injEq, Option.some.injEq, Addr.mk.injEq, and_true, true_and] at hv0
    obtain ⟨rfl, rfl⟩ := hv0
    exact Or.inr ⟨g, c, cur, rfl, hg, e'.trans hh, r⟩
theorem own_lt {w : World} {base e size n b : Nat} {v : Value} {xs : List Value} (h : w.ownsRow base e size v n xs) (hb : v.ownBlock = some b) : b < w.heap.size := by
  rcases h.2 with ⟨rfl, _⟩ | ⟨g, cap, cur, rfl, hg, hh, _⟩
  · simp [Value.ownBlock] at hb
  · simp only [Value.ownBlock, Option.some.injEq] at hb
    subst hb
    obtain ⟨hlt, _⟩ := Array.getElem?_eq_some_iff.1 hh
    exact hlt

set_option maxHeartbeats 8000000 in
theorem ref_LinesF (w : World) (v : Value) (zs : List Int) (ds : List Nat) (x : Nat) (h : IsZ w v zs) (hG : Good zs ds) (hn : prd2 ds ≤ 1024) (hx : x < ds.length) :
    Calls Tryd.prog 73 #[v, .int .i64 (x : Int)] w fun e w' => ∃ u, e = .returned u ∧ IsLF w.heap.size w' u (lns ds x (prd2 ds)) ∧ Below w.heap.size w w' := by
  have h0 := h
  obtain ⟨a, cap, rfl, -, -, hc, -⟩ := h
  have hlen : zs.length = ds.length := by rw [hG.2.2.1, List.length_map]
  have hpos : ∀ d ∈ ds, 0 < d := fun d hd => P2_pos (hG.2.2.2 d hd)
  have hds : ∀ i, ds.getD i 0 ≤ 1024 := fun i => by
    rcases Nat.lt_or_ge i ds.length with hi | hi
    · have h1 := prd2_take ds i hi
      have h2 := prd2_take_le hpos (i + 1)
      have h3 : 0 < prd2 (ds.take i) := prd2_pos fun d hd => hpos d (List.mem_of_mem_take hd)
      have h4 : ds.getD i 0 ≤ prd2 (ds.take i) * ds.getD i 0 := Nat.le_mul_of_pos_left _ h3
      omega
    · simp [List.getD, List.getElem?_eq_none hi]
  obtain ⟨bz, oz, rfl, hcz0⟩ := hc x (by omega)
  rw [(Good_get hG x (by omega)).1] at hcz0
  have hcz : ∀ W : World, Below w.heap.size w W → W.cell? ⟨bz, oz + x, none⟩ = some (.int .i64 ((ds.getD x 0 : Nat) : Int)) := fun W hb => (hb.cell (block_lt hcz0)).trans hcz0
  have cS := ref_Shape_ok w (.slice (some ⟨bz, oz, none⟩) zs.length cap) zs ds h0 hG hn
  have cP := fun (W : World) (hb : Below w.heap.size w W) (k : Nat) (hk : k ≤ 1024) => ref_Places W (.slice (some ⟨bz, oz, none⟩) zs.length cap) zs ds k (h0.below hb) hG hn hk
  have cQ : Hid (∀ (W : World) (k t : Nat) (u : Value), Below w.heap.size w W → k < prd2 ds → plc ds k x = 0 → t ≤ 1024 → IsI W u ((plcs ds k ds.length).set x t) → Calls Tryd.prog 51 #[.slice (some ⟨bz, oz, none⟩) zs.length cap, u] W fun e w' => e = .returned (.int .i64 ((k + t * und ds x : Nat) : Int)) ∧ ∃ m, w' = W.drewN m) := by
    intro W k t u hb hk h0' ht hU
    have := ref_Place W (.slice (some ⟨bz, oz, none⟩) zs.length cap) u zs ds _ (h0.below hb) hU hG (by rw [List.length_set, plcs_length]) hds (fun i => by
      rcases Nat.lt_or_ge i ds.length with hi | hi
      · by_cases e : i = x
        · subst e
          simp [List.getD, plcs_length, hi]; exact ht
        · have : ((plcs ds k ds.length).set x t).getD i 0 = plc ds k i := by simp [plcs, List.getD, Ne.symm e, hi]
          rw [this]
          exact Nat.le_trans (Nat.mod_le _ _) (Nat.le_trans (Nat.div_le_self _ _) (by omega))
      · rw [List.getD, List.getElem?_eq_none (by rw [List.length_set, plcs_length]; exact hi)]; simp)
    rw [plf_line ds k hpos hk x t hx h0'] at this
    exact this
  have hd9 := hds x
  have hd0 : 0 < ds.getD x 0 := P2_pos (Good_get hG x (by omega)).2
  have h3 : ds.length ≤ 3 := by rw [← hlen]; exact hG.2.1
  have hu9 : und ds x ≤ 1024 := by rw [← undK_end]; exact Nat.le_trans (undK_le hpos x _) hn
  have hxz : x < zs.length := by omega
  clear hG hc hcz0 hds hpos hlen
  obtain ⟨d, hd⟩ : ∃ d, d = ds.getD x 0 := ⟨_, rfl⟩
  have hd' : Hid (d = ds.getD x 0) := hd
  rw [← hd] at hcz hd9 hd0
  clear hd
  go_enter Tryd.func73, Tryd.ntmps73
  go_wp2_with (go_at_call 9; refine Calls.mono cS ?_; rintro e w' ⟨rfl, hw⟩; rw [hw]; clear hw)
  clear cS
  go_loopw [7, 8] (fun u vi wr => ∃ (k : Nat) (vs : List Value), k ≤ prd2 ds ∧ vi = .int .i64 (k : Int) ∧ wr.ownsRow w.heap.size 22 1 u (lns ds x k).length vs ∧ Hid (Inn w.heap.size wr u vs (lns ds x k)) ∧ Below w.heap.size w wr)
    (fun _ vi _ => prd2 ds - (intOf vi).toNat)
  case atStart => exact ⟨0, [], Nat.zero_le _, rfl, World.ownsRow_nil _ _ _ _, Inn_nil _ _ _, Below.refl _ _⟩
  case round =>
    obtain ⟨k, vs, hk, rfl, hown, hin, hnx⟩ := hrel
    by_cases hlt : k < prd2 ds
    · have cP1 := cP wr hnx k (by omega)
      obtain ⟨wk, hwk⟩ : ∃ wk : World, wk = wr := ⟨_, rfl⟩
      rw [← hwk] at hown hin hnx cP1 ⊢
      clear hwk cP
      by_cases h00 : plc ds k x = 0
      · have hnext : Hid (lns ds x (k + 1) = lns ds x k ++ [lin ds x k d]) := by show _ = _; rw [lns, if_pos h00, hd'.out]
        have hcnt : (lns ds x k).length ≤ 1000000 := Nat.le_trans (lns_le ds x k) (by omega)
        have hq : ((plc ds k x : Int) != 0) = false := by rw [h00]; rfl
        go_wp2_with (go_at_call 50; refine Calls.mono cP1 ?_; rintro e w1 ⟨u, rfl, hp, hb⟩; obtain ⟨gp, cp, rfl, hgp, hgl⟩ := hp.form (by omega); have hcp := hp.cellAt x (by omega); rw [rowP, cellsI_get _ x (by rw [plcs_length]; exact hx), show (plcs ds k ds.length).getD x 0 = plc ds k x by simp [plcs, List.getD, hx]] at hcp; clear cP1)
        clear hcp hq
        rw [rowP] at hp
        go_loopw [10, 11] (fun ul vi wi => ∃ (i : Nat) (Pl : List Nat), i ≤ d ∧ vi = .int .i64 (i : Int) ∧ wi.ownsRow wk.heap.size 3 1 (.slice (some ⟨gp, 0, none⟩) ds.length cp) ds.length (cellsI Pl) ∧ Hid (Pl.length = ds.length ∧ ∀ t, Pl.set x t = (plcs ds k ds.length).set x t) ∧ wi.ownsRow wk.heap.size 3 1 ul i (cellsI (lin ds x k i)) ∧ Hid (ul.ownBlock ≠ some gp) ∧ Below wk.heap.size wk wi)
          (fun _ vi _ => d - (intOf vi).toNat)
        case atStart => exact ⟨0, _, Nat.zero_le _, rfl, hp, ⟨plcs_length _ _ _, fun t => rfl⟩, World.ownsRow_nil _ _ _ _, by simp [Hid, Value.ownBlock], hb⟩
        case round =>
          clear hp hb
          obtain ⟨i, Pl, hi, rfl, hp, hPl, hl, hlb, hnxi⟩ := hrel
          have hWi : Below w.heap.size w wr := hnx.trans (hnxi.mono hnx.size)
          have cz := hcz wr hWi
          by_cases hid : i < d
          · have hcp := hp.cellAt x (by omega)
            rw [cellsI_get _ x (by rw [hPl.out.1]; exact hx)] at hcp
            have hfp := hp.frozenAt x
            have hst := hp.stored x (.int .i64 (i : Int))
            rw [cellsI_set, hPl.out.2 i] at hst
            have hst1 := hst.1
            have hlk := hl.kept hst.2 (.inr hlb.out)
            have hB2 := hnxi.grown hst.2 hnxi.size (fun t ht => by simp at ht; omega)
            have hW2 : Below w.heap.size w (wr.setCell ⟨gp, x, none⟩ (.int .i64 (i : Int))) := hnx.trans (hB2.mono hnx.size)
            have cQ1 := cQ.out _ k i _ hW2 hlt h00 (by omega) (IsI.of_owns hst1)
            have hlin : Hid (cellsI (lin ds x k i) ++ [.int .i64 ((k + i * und ds x : Nat) : Int)] = cellsI (lin ds x k (i + 1))) := by show _ = _; rw [lin_succ, cellsI_append]; rfl
            have hPl2 : Hid (((plcs ds k ds.length).set x i).length = ds.length ∧ ∀ t, ((plcs ds k ds.length).set x i).set x t = (plcs ds k ds.length).set x t) := ⟨by rw [List.length_set, plcs_length], fun t => by rw [List.set_set]⟩
            have hi9 : i ≤ 1000000 := by omega
            clear hst hp hl hPl cQ hcz hWi hW2 hnext
            generalize Pl.getD x 0 = old at *
            generalize k + i * und ds x = z at *
            go_wp2_with (first
              | (go_at_call 51; refine Calls.mono cQ1 ?_; rintro e w5 ⟨rfl, hw⟩; have hb5 := below_dr hw (wr.setCell ⟨gp, x, none⟩ (.int .i64 (i : Int))).heap.size; clear hw cQ1; have hp5 := owns_below hst1 hb5; have hl5 := owns_below hlk hb5; have hnx5 := hB2.trans (hb5.mono hB2.size); clear hst1 hlk hB2 hb5 hcp hfp cz)
              | (at_builtin; refine wp_appendX rfl _ _ rfl _ _ _ _ rfl hl5 rfl hi9 hnx5 ?_; intro g6 cap6 w6 hl6 hnx6 hkeep hat hlt6 hsz6))
            have hgp5 : gp < w5.heap.size := by
              rcases hp5.2 with ⟨hv, _⟩ | ⟨g', c', cur, hv, _, hh, _⟩
              · cases hv
              · simp only [Value.slice.injEq, Option.some.injEq, Addr.mk.injEq, and_true, true_and] at hv
                obtain ⟨rfl, rfl⟩ := hv
                obtain ⟨hlt', _⟩ := Array.getElem?_eq_some_iff.1 hh
                exact hlt'
            have hp6 := owns_same hp5 (hkeep gp hgp5 hlb.out)
            have hlb6 : Hid ((Value.slice (some ⟨g6, 0, none⟩) (i + 1) cap6).ownBlock ≠ some gp) := by
              intro e
              simp only [Value.ownBlock, Option.some.injEq] at e
              subst e
              rcases hat.out with h1 | h1
              · exact hlb.out h1
              · omega
            rw [hlin.out] at hl6
            clear hp5 hl5 hkeep hat hlb hlin
            go_wp2
            go_roundw
            case rel => exact ⟨i + 1, _, by omega, by go_num, hp6, hPl2, hl6, hlb6, hnx6⟩
            case measure => simp only [intOf]; omega
          · have e : i = d := by omega
            subst e
            obtain ⟨gl, cl, rfl, hgl1, hgl2⟩ := hl.form hd0
            have hL : IsI wr (.slice (some ⟨gl, 0, none⟩) (lin ds x k i).length cl) (lin ds x k i) := by rw [lin_length]; exact IsI.of_owns hl
            have hown2 := owns_below hown hnxi
            have hin2 := hin.out.below hnxi
            have hne2 : u7.ownBlock ≠ some gl := fun e => by have := own_lt hown e; omega
            have hBl2 : w.heap.size ≤ gl := by have := hnx.size; omega
            have hinN : Hid (∀ (w6 : World) (g6 c6 n6 : Nat), (∀ b, b < wr.heap.size → u7.ownBlock ≠ some b → w6.heap[b]? = wr.heap[b]?) → (u7.ownBlock = some g6 ∨ wr.heap.size < g6) → wr.heap.size ≤ w6.heap.size → Inn w.heap.size w6 (.slice (some ⟨g6, 0, none⟩) n6 c6) (vs ++ [.slice (some ⟨gl, 0, none⟩) i cl]) (lns ds x k ++ [lin ds x k i])) := fun w6 g6 c6 n6 h1 h2 h4 => by
              have := hin2.grow (u' := .slice (some ⟨g6, 0, none⟩) n6 c6) rfl h1 h2 h4 hL hgl2 hBl2 hne2
              rw [lin_length] at this
              exact this
            clear hp hPl hl hlb hnxi hown hin hin2 hL hcz cQ
            go_wp2_with (at_builtin; refine wp_appendS rfl _ _ rfl _ _ _ _ _ _ rfl hown2 rfl hcnt hWi ?_; intro g6 cap6 w6 hown6 hnx6 hkeep hat hlt6 hsz6)
            have hin6 : Hid (Inn w.heap.size w6 _ _ _) := hinN.out w6 g6 cap6 ((lns ds x k).length + 1) hkeep hat.out hsz6
            clear hinN hkeep hat hown2 cz
            go_wp2
            go_roundw
            case rel => exact ⟨k + 1, _, by omega, by go_num, by rw [hnext.out, List.length_append]; exact hown6, by show Inn _ _ _ _ _; rw [hnext.out]; exact hin6, hnx6⟩
            case measure => simp only [intOf]; omega
      · have hnext : Hid (lns ds x (k + 1) = lns ds x k) := by show _ = _; rw [lns, if_neg h00]
        have hne : ((plc ds k x : Int) != 0) = true := by rw [bne_iff_ne]; omega
        go_wp2_with (go_at_call 50; refine Calls.mono cP1 ?_; rintro e w1 ⟨u, rfl, hp, hb⟩; obtain ⟨gp, cp, rfl, hgp, hgl⟩ := hp.form (by omega); have hcp := hp.cellAt x (by omega); rw [rowP, cellsI_get _ x (by rw [plcs_length]; exact hx), show (plcs ds k ds.length).getD x 0 = plc ds k x by simp [plcs, List.getD, hx]] at hcp; clear hp cP1)
        have hown2 := owns_below hown hb
        have hin2 : Hid (Inn w.heap.size w1 u7 vs (lns ds x k)) := hin.out.below hb
        have hnx2 := hnx.trans (hb.mono hnx.size)
        clear hown hin hnx hb hcp
        go_roundw
        case rel => exact ⟨k + 1, vs, by omega, by go_num, by rw [hnext.out]; exact hown2, by show Inn _ _ _ _ _; rw [hnext.out]; exact hin2, hnx2⟩
        case measure => simp only [intOf]; omega
    · have e : k = prd2 ds := by omega
      rw [e] at hown hin
      have hR := IsLF_of hown hin.out
      have hge : prd2 ds ≤ k := by omega
      clear e hown hin cP hcz
      go_wp2
      go_ret
      exact ⟨_, rfl, hR, hnx⟩
end Go.Proofs.YtckoipoejaafhaaDoor

/-! Worlds of which one block alone has changed; slices that lie elsewhere. -/
namespace Go.Proofs.YtckoipoejaafhaaDoor
open Go.RowKit
set_option maxRecDepth 100000

/-- Of what was there, block g alone may have changed. -/
structure Bar (g : Nat) (w w' : World) : Prop where
  os : w'.os = w.os
  tape : w'.tape = w.tape
  output : w'.output = w.output
  size : w.heap.size ≤ w'.heap.size
  block : ∀ k, k < w.heap.size → k ≠ g → w'.heap[k]? = w.heap[k]?

theorem Bar.refl (g : Nat) (w : World) : Bar g w w := ⟨rfl, rfl, rfl, Nat.le_refl _, fun _ _ _ => rfl⟩
theorem Bar.trans {g : Nat} {a b c : World} (h : Bar g a b) (k : Bar g b c) : Bar g a c :=
  ⟨k.os.trans h.os, k.tape.trans h.tape, k.output.trans h.output, Nat.le_trans h.size k.size, fun i hi hg => (k.block i (Nat.lt_of_lt_of_le hi h.size) hg).trans (h.block i hi hg)⟩
theorem Bar.drewN {g : Nat} {a b : World} (h : Bar g a b) (n : Nat) : Bar g a (b.drewN n) := ⟨h.os, h.tape, h.output, h.size, h.block⟩
theorem Bar.setCell {g : Nat} {a b : World} (h : Bar g a b) (i : Nat) (u : Value) : Bar g a (b.setCell ⟨g, i, none⟩ u) :=
  h.trans ⟨rfl, rfl, rfl, by simp [World.setCell], fun k _ hg => Below.heap_setCell _ _ _ _ hg⟩
theorem Bar.of_below {g : Nat} {a b : World} (h : Below a.heap.size a b) : Bar g a b := ⟨h.os, h.tape, h.output, h.size, fun k hk _ => h.block k hk⟩
theorem Bar.below {g B : Nat} {a b : World} (h : Bar g a b) (hg : B ≤ g) (hB : B ≤ a.heap.size) : Below B a b := ⟨h.os, h.tape, h.output, h.size, fun k hk => h.block k (by omega) (by omega)⟩
/-- A block that was not there when a call began may change. -/
theorem Bar.fresh {g : Nat} {a b c : World} (h : Below a.heap.size a b) (hg : a.heap.size ≤ g) (k : Bar g b c) : Below a.heap.size a c :=
  h.trans (k.below hg h.size)

/-- The slice value v lies not in block g. -/
def Apart (v : Value) (g : Nat) : Prop := ∀ b off s l c, v = .slice (some ⟨b, off, s⟩) l c → 0 < l → b ≠ g
theorem IsU.bar {w w' : World} {v : Value} {xs : List Nat} {g : Nat} (h : IsU w v xs) (ha : Apart v g) (hb : Bar g w w') : IsU w' v xs := by
  obtain ⟨a, cap, rfl, h1, h2, hc, hr⟩ := h
  refine ⟨a, cap, rfl, h1, h2, fun i hi => ?_, hr⟩
  obtain ⟨b, off, rfl, hcell⟩ := hc i hi
  exact ⟨b, off, rfl, (World.cell?_of_block (w := w) (hb.block b (block_lt hcell) (ha b off none _ _ rfl (by omega)))).trans hcell⟩
theorem IsU.apart {w : World} {v : Value} {xs : List Nat} {g : Nat} (h : IsU w v xs) (hg : w.heap.size ≤ g) : Apart v g := by
  obtain ⟨a, cap, rfl, h1, h2, hc, hr⟩ := h
  intro b off s l c e hl
  simp only [Value.slice.injEq] at e
  obtain ⟨rfl, rfl, rfl⟩ := e
  obtain ⟨b', off', e2, hcell⟩ := hc 0 hl
  simp only [Option.some.injEq, Addr.mk.injEq] at e2
  obtain ⟨rfl, rfl, _⟩ := e2
  have := block_lt hcell
  omega
end Go.Proofs.YtckoipoejaafhaaDoor

/-! Blocks that hold a list of ints and nothing else; what a store and a make do to them. -/
namespace Go.Proofs.YtckoipoejaafhaaDoor
open Go.RowKit
set_option maxRecDepth 100000

/-- Block g holds the ints xs, and nothing else. -/
def RowI (w : World) (g : Nat) (xs : List Nat) : Prop := w.heap[g]? = some (.cells (cellsI xs).toArray 3 (0, 0))
theorem RowI.lt {w : World} {g : Nat} {xs : List Nat} (h : RowI w g xs) : g < w.heap.size := by
  obtain ⟨hlt, _⟩ := Array.getElem?_eq_some_iff.1 h
  exact hlt
theorem RowI.cell {w : World} {g : Nat} {xs : List Nat} (h : RowI w g xs) (i : Nat) (hi : i < xs.length) : w.cell? ⟨g, i, none⟩ = some (.int .i64 ((xs.getD i 0 : Nat) : Int)) := by
  have hh : w.heap[g]? = _ := h
  have hc := cellsI_get xs i hi
  simp only [World.cell?, hh, List.getElem?_toArray]
  rw [hc]; rfl
theorem RowI.frozen {w : World} {g : Nat} {xs : List Nat} (h : RowI w g xs) (i : Nat) : w.frozen? ⟨g, i, none⟩ = false := by
  have hh : w.heap[g]? = _ := h
  simp [World.frozen?, hh]
theorem RowI.set {w : World} {g : Nat} {xs : List Nat} (h : RowI w g xs) (i x : Nat) : RowI (w.setCell ⟨g, i, none⟩ (.int .i64 (x : Int))) g (xs.set i x) := by
  have hh : w.heap[g]? = _ := h
  unfold RowI
  rw [← cellsI_set]
  simp [World.setCell, Array.getElem?_modify, hh]
theorem RowI.block {w w' : World} {g : Nat} {xs : List Nat} (h : RowI w g xs) (e : w'.heap[g]? = w.heap[g]?) : RowI w' g xs := e.trans h
theorem RowI.below {w w' : World} {g : Nat} {xs : List Nat} (h : RowI w g xs) (hb : Below w.heap.size w w') : RowI w' g xs := h.block (hb.block g h.lt)
theorem RowI.bar {w w' : World} {g g' : Nat} {xs : List Nat} (h : RowI w g' xs) (hne : g' ≠ g) (hb : Bar g w w') : RowI w' g' xs := h.block (hb.block g' h.lt hne)
theorem RowI.cast {w : World} {g : Nat} {xs ys : List Nat} (h : RowI w g xs) (e : xs = ys) : RowI w g ys := e ▸ h
theorem RowI.isIN {w : World} {g n : Nat} {xs : List Nat} (h : RowI w g xs) (hl : xs.length ≤ 1000000000) (hn : xs.length = n) : IsI w (.slice (some ⟨g, 0, none⟩) n n) xs := by
  subst hn
  exact ⟨some ⟨g, 0, none⟩, xs.length, rfl, Nat.le_refl _, by unfold maxLen; omega, fun i hi => ⟨g, 0, rfl, by rw [Nat.zero_add]; exact h.cell i hi⟩⟩
theorem made_int (n : Nat) : (madeCells (Value.int .i64 0).cells (n * 1)).toList = cellsI (List.replicate n 0) := by
  rw [show (Value.int .i64 0).cells = #[Value.int .i64 0] from rfl, Nat.mul_one, toList_madeCells_one]
  unfold cellsI
  rw [List.map_replicate]; rfl
theorem wp_makeI {ops : Array Oper} {rest : List Oper} {o : Oper} {a : Act} {Q : Exit → Act → World → Prop} {w : World} (hgd : o.guard = none) (l c : Operand) (ho : o.op = Op.makeSlice 22 l c) (n : Nat)
    (hl : a.eval l = .int .i64 (n : Int)) (hc : a.eval c = .int .i64 (n : Int)) (hn : n ≤ 1000000000)
    (h : ∀ g w', Hid (g = w.heap.size) → RowI w' g (List.replicate n 0) → Below w.heap.size w w' → wpList Tryd.prog ops Q rest (a.put o.dst (.slice (some ⟨g, 0, none⟩) n n)) w') :
    wpList Tryd.prog ops Q (o :: rest) a w := by
  obtain ⟨i0, hi, hz0, hz1, hz2⟩ := info_parts info_int
  refine wpList_make_full w hgd l c 22 ho w.heap.size 3 i0 (.int .i64 0) 1 Tryd.underlying22 hi hz0 hz1 .i64 .i64 n n n hl hc rfl rfl (by rw [hz2]; omega) (by unfold maxLen; omega) (Nat.le_refl _) ?_
  intro w' hown hgrow
  rw [made_int] at hown
  refine h w.heap.size w' rfl ?_ ((Below.refl _ _).grown hgrow (Nat.le_refl _) (fun k hk => by cases hk))
  rcases hown.2 with ⟨hv, _⟩ | ⟨g', cap', cur, hv, hg, hh, h1, h2, h3, h4⟩
  · cases hv
  · simp only [Value.slice.injEq, Option.some.injEq, Addr.mk.injEq, and_true, true_and] at hv
    obtain ⟨rfl, rfl⟩ := hv
    have hcur : cur.toList = cellsI (List.replicate n 0) := by rw [← h4, Nat.mul_one, List.take_of_length_le (by simp [h3])]
    have hcur2 : cur = (cellsI (List.replicate n 0)).toArray := by rw [← hcur]
    rw [hcur2] at hh
    exact hh

end Go.Proofs.YtckoipoejaafhaaDoor
