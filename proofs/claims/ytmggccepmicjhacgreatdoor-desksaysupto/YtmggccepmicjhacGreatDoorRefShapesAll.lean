/-
  Texts that stood one behind the other, as one.
-/
import Derived.Test.YtmggccepmicjhacGreatDoorRefShapeAll
import Derived.Test.YtmggccepmicjhacGreatDoorRefNttAll
import Derived.Test.YtmggccepmicjhacGreatDoorDkAAll
/-! What Shape of package goldref answers, case by case. -/
namespace Go.Proofs.YtmggccepmicjhacGreatDoor
open Go.RowKit
set_option maxRecDepth 100000

theorem Good_same {zs : List Int} {ds ds' : List Nat} (h : Good zs ds) (h' : Good zs ds') : ds' = ds := by
  have e : ds.map (fun (d : Nat) => (d : Int)) = ds'.map (fun (d : Nat) => (d : Int)) := h.2.2.1.symm.trans h'.2.2.1
  exact (List.map_inj_right (fun a b hab => by omega)).mp e.symm
theorem shape_ok (W : World) (v : Value) (zs : List Int) (ds : List Nat) (h : IsZ W v zs) (hG : Good zs ds) (hn : prd2 ds ≤ 1024) :
    Calls Tryz.prog 102 #[v] W fun e w' => e = .returned (.tuple #[.int .i64 ((prd2 ds : Nat) : Int), .int .i64 0]) ∧ w' = W := by
  refine (ref_Shape W v zs h).mono ?_
  rintro e w' ⟨rfl, ⟨ds', hG', _, rfl⟩ | ⟨ds', hG', hb, _⟩ | ⟨hno', _⟩⟩
  · rw [Good_same hG hG']; exact ⟨rfl, rfl⟩
  · rw [Good_same hG hG'] at hb; omega
  · exact absurd hG (hno' ds)
theorem shape_large (W : World) (v : Value) (zs : List Int) (ds : List Nat) (h : IsZ W v zs) (hG : Good zs ds) (hn : 1024 < prd2 ds) :
    Calls Tryz.prog 102 #[v] W fun e w' => e = .returned (.tuple #[.int .i64 0, .int .i64 2]) ∧ w' = W := by
  refine (ref_Shape W v zs h).mono ?_
  rintro e w' ⟨rfl, ⟨ds', hG', hb, _⟩ | ⟨ds', hG', _, rfl⟩ | ⟨hno', _⟩⟩
  · rw [Good_same hG hG'] at hb; omega
  · exact ⟨rfl, rfl⟩
  · exact absurd hG (hno' ds)
theorem shape_bad (W : World) (v : Value) (zs : List Int) (h : IsZ W v zs) (hno : ∀ ds, ¬ Good zs ds) :
    Calls Tryz.prog 102 #[v] W fun e w' => e = .returned (.tuple #[.int .i64 0, .int .i64 1]) ∧ w' = W := by
  refine (ref_Shape W v zs h).mono ?_
  rintro e w' ⟨rfl, ⟨ds', hG', _, _⟩ | ⟨ds', hG', _, _⟩ | ⟨_, rfl⟩⟩
  · exact absurd hG' (hno ds')
  · exact absurd hG' (hno ds')
  · exact ⟨rfl, rfl⟩

end Go.Proofs.YtmggccepmicjhacGreatDoor

/-! What answer of package goldref answers to plan and share. -/
namespace Go.Proofs.YtmggccepmicjhacGreatDoor
open Go.RowKit
set_option maxRecDepth 100000

theorem IsI.z {w : World} {v : Value} {ds : List Nat} (h : IsI w v ds) (hr : ∀ d ∈ ds, d ≤ 9223372036854775807) : IsZ w v (ds.map fun (d : Nat) => (d : Int)) := by
  obtain ⟨a, cap, rfl, h1, h2, hc⟩ := h
  refine ⟨a, cap, by rw [List.length_map], by rw [List.length_map]; exact h1, h2, fun i hi => ?_, fun z hz => ?_⟩
  · rw [List.length_map] at hi
    obtain ⟨b, off, e, c⟩ := hc i hi
    refine ⟨b, off, e, ?_⟩
    rw [c]
    simp [List.getD, hi]
  · obtain ⟨d, hd, rfl⟩ := List.mem_map.mp hz
    have := hr d hd
    omega
theorem goodV_iff {ds : List Nat} : GoodV ds ↔ Good (ds.map fun (d : Nat) => (d : Int)) ds := by
  unfold GoodV Good
  rw [List.length_map]
  constructor
  · rintro ⟨h1, h2, h3⟩
    exact ⟨h1, h2, rfl, h3⟩
  · rintro ⟨h1, h2, _, h3⟩
    exact ⟨h1, h2, h3⟩
theorem plE_le (ds : List Nat) (c : Nat) : 0 ≤ plE ds c ∧ plE ds c ≤ 2 := by
  unfold plE
  split <;> (try split) <;> (try split) <;> (try split) <;> decide
theorem plL_small (ds : List Nat) (c : Nat) : (plL ds c).length ≤ 3 ∧ ∀ y, ((plL ds c).getD y []).length ≤ 64 := by
  unfold plL
  split
  · next h =>
    have hG : GoodV ds ∧ Few ds c ds.length := by
      unfold plE at h
      split at h
      · next hG =>
        split at h
        · cases h
        · split at h
          · cases h
          · split at h
            · next hF => exact ⟨hG, hF⟩
            · cases h
      · cases h
    have hl : (pls ds c ds.length).length = ds.length := by simp [pls]
    refine ⟨by rw [hl]; exact hG.1.2.1, fun y => ?_⟩
    rcases Nat.lt_or_ge y ds.length with q | q
    · have e : (pls ds c ds.length).getD y [] = chn y c (nln ds y) := by simp [pls, List.getD, q]
      rw [e]
      exact hG.2 y q
    · rw [List.getD, List.getElem?_eq_none (by rw [hl]; exact q)]
      decide
  · exact ⟨by decide, fun y => by simp⟩
theorem tot_small {L : List (List (List Int))} (h : ∀ y, (L.getD y []).length ≤ 64) (i : Nat) : tot L i ≤ 64 * i := by
  induction i with
  | zero => simp [tot]
  | succ i ih =>
    unfold tot
    have := h i
    omega
theorem ref_PlanE (w : World) (v : Value) (ds : List Nat) (c : Nat) (h : IsZ w v (ds.map fun (d : Nat) => (d : Int))) (hc : c ≤ 1000000000) :
    Calls Tryz.prog 73 #[v, .int .i64 (c : Int)] w fun e w' => ∃ u, e = .returned (.tuple #[u, .int .i64 (plE ds c)]) ∧ IsP 3 w' u (plL ds c) ∧ Below w.heap.size w w' := by
  by_cases hG : GoodV ds
  · have hG' := goodV_iff.mp hG
    by_cases hn : 1024 < prd2 ds
    · have e : plE ds c = 2 := by unfold plE; rw [if_pos hG, if_pos hn]
      have eL : plL ds c = [] := by unfold plL; rw [e]; rfl
      rw [e, eL]
      exact ref_Plan_shape w v _ (c : Int) 2 (by decide) (shape_large w v _ ds h hG' hn) h
    · by_cases hc1 : c < 1
      · have e : plE ds c = 1 := by unfold plE; rw [if_pos hG, if_neg hn, if_pos hc1]
        have eL : plL ds c = [] := by unfold plL; rw [e]; rfl
        rw [e, eL]
        exact ref_Plan_cut w v _ ds (c : Int) h hG' (by omega) (by omega)
      · by_cases hF : Few ds c ds.length
        · have e : plE ds c = 0 := by unfold plE; rw [if_pos hG, if_neg hn, if_neg hc1, if_pos hF]
          have eL : plL ds c = pls ds c ds.length := by unfold plL; rw [e]; rfl
          rw [e, eL]
          exact ref_Plan_ok w v _ ds c h hG' (by omega) (by omega) (by omega) hF
        · have e : plE ds c = 2 := by unfold plE; rw [if_pos hG, if_neg hn, if_neg hc1, if_neg hF]
          have eL : plL ds c = [] := by unfold plL; rw [e]; rfl
          rw [e, eL]
          exact ref_Plan_many w v _ ds c h hG' (by omega) (by omega) (by omega) hF
  · have e : plE ds c = 1 := by unfold plE; rw [if_neg hG]
    have eL : plL ds c = [] := by unfold plL; rw [e]; rfl
    rw [e, eL]
    exact ref_Plan_shape w v _ (c : Int) 1 (by decide) (shape_bad w v _ h (fun ds' hg => hG (by
      have e2 : (ds'.map fun (d : Nat) => (d : Int)) = ds.map fun (d : Nat) => (d : Int) := hg.2.2.1.symm
      have e3 : ds' = ds := (List.map_inj_right (fun a b hab => by omega)).mp e2
      rw [e3] at hg
      exact goodV_iff.mpr hg))) h
/-- The shape under way. -/
def shK (n : List Nat) (i : Nat) : List Nat := ((n.drop 1).take (i - 1)).map smN
theorem shK_succ (n : List Nat) (i : Nat) (h1 : 1 ≤ i) (h : i < n.length) : shK n (i + 1) = shK n i ++ [smN (n.getD i 0)] := by
  obtain ⟨j, rfl⟩ : ∃ j, i = j + 1 := ⟨i - 1, by omega⟩
  unfold shK
  have hj : j < (n.drop 1).length := by rw [List.length_drop]; omega
  rw [Nat.add_sub_cancel, Nat.add_sub_cancel, List.take_succ_eq_append_getElem hj, List.map_append]
  have e : (n.drop 1)[j]'hj = n.getD (j + 1) 0 := by
    rw [List.getElem_drop]
    simp [List.getD, show 1 + j = j + 1 by omega, h]
  rw [e]
  rfl
theorem shK_end (n : List Nat) : shK n n.length = shpV n := by
  unfold shK shpV
  rw [List.take_of_length_le (by rw [List.length_drop]; omega)]
theorem shK_length (n : List Nat) (i : Nat) : (shK n i).length ≤ n.length := by
  unfold shK
  rw [List.length_map, List.length_take, List.length_drop]
  omega
theorem shpV_le (n : List Nat) : ∀ d ∈ shpV n, d ≤ 9223372036854775807 := fun d hd => by
  obtain ⟨x, _, rfl⟩ := List.mem_map.mp hd
  have := smN_le x
  omega
/-- A row of ints of the call's own. -/
def OwI (B : Nat) (w : World) (v : Value) (L : List Nat) : Prop := w.ownsRow B 3 1 v L.length (cellsI L)
theorem OwI.below {B : Nat} {w w' : World} {v : Value} {L : List Nat} (h : OwI B w v L) (hb : Below w.heap.size w w') : OwI B w' v L := owns_below h hb
theorem wp_appOI {ops : Array Oper} {rest : List Oper} {o : Oper} {a : Act} {Q : Exit → Act → World → Prop} {w w0 : World} (hgd : o.guard = none) (s x : Operand)
    (ho : o.op = .call { callee := .builtin .append, args := #[s, x], argTypes := #[83, 83] }) (v : Value) (L : List Nat) (z : Nat)
    (hs : a.eval s = v) (hown : OwI w0.heap.size w v L) (hx : a.eval x = .slice (some ⟨w.heap.size, 0, none⟩) 1 1)
    (hn : L.length ≤ 1000000000) (hnx : Below w0.heap.size w0 w)
    (h : ∀ v' w', OwI w0.heap.size w' v' (L ++ [z]) → Below w0.heap.size w0 w' → wpList Tryz.prog ops Q rest (a.put o.dst v') w') :
    wpList Tryz.prog ops Q (o :: rest) a (w.alloc (.cells #[.int .i64 (z : Int)] 3)) := by
  refine wp_appendI (w0 := w0) hgd s x ho v L.length (cellsI L) z hs hown hx hn hnx fun v' w' h1 h2 => h v' w' ?_ h2
  unfold OwI
  rw [List.length_append, cellsI_append]
  exact h1
set_option maxRecDepth 100000 in
set_option maxHeartbeats 4000000 in
theorem ref_answer_plan (w : World) (v : Value) (n : List Nat) (h : IsU w v n) (h1 : 0 < n.length) (h9 : n.length ≤ 1000000) (ht : Tab w) :
    Calls Tryz.prog 36 #[.string { data := #[112, 108, 97, 110] }, v] w fun e w' => e = .returned (.string (bs (ansV [112, 108, 97, 110] n))) ∧ Below w.heap.size w w' := by
  rw [ansV_plan]
  have hI : ∀ W, Below w.heap.size w W → IsU W v n := fun W hb => h.below hb
  obtain ⟨b, off, cap, rfl, hc0⟩ := one_cell h h1
  have hcell : Hid (∀ i, i < n.length → w.cell? ⟨b, off + i, none⟩ = some (.int .u64 ((n.getD i 0 : Nat) : Int))) := fun i hi => h.cell i hi
  have hrg : Hid (∀ i, ((n.getD i 0 : Nat) : Int) < 18446744073709551616) := fun i => range_getD h.range i
  have hO0 : OwI w.heap.size w (.slice none 0 0) (shK n 1) := World.ownsRow_nil _ _ _ _
  have hst : Hid (∀ i, 1 ≤ i → i < n.length → shK n (i + 1) = shK n i ++ [smN (n.getD i 0)]) := shK_succ n
  have hlen : Hid (∀ i, (shK n i).length ≤ 1000000000) := fun i => by have := shK_length n i; omega
  have hend : Hid (∀ W u, Below w.heap.size w W → OwI w.heap.size W u (shK n n.length) → Calls Tryz.prog 73 #[u, .int .i64 ((smN (n.getD 0 0) : Nat) : Int)] W fun e w' => ∃ u2, e = .returned (.tuple #[u2, .int .i64 (plE (shpV n) (smN (n.getD 0 0)))]) ∧ IsP 3 w' u2 (plL (shpV n) (smN (n.getD 0 0))) ∧ Below w.heap.size w w') := fun W u hb hO => by
    rw [shK_end] at hO
    refine (ref_PlanE W u (shpV n) (smN (n.getD 0 0)) ((IsI.of_owns hO).z (shpV_le n)) (smN_le _)).mono ?_
    rintro e w' ⟨u2, rfl, hP, hb2⟩
    exact ⟨u2, rfl, hP, hb.trans (hb2.mono hb.size)⟩
  have her := plE_le (shpV n) (smN (n.getD 0 0))
  obtain ⟨hl3, hl64⟩ := plL_small (shpV n) (smN (n.getD 0 0))
  have hV : Hid (plnV n = if plE (shpV n) (smN (n.getD 0 0)) = 0 then ptx (plL (shpV n) (smN (n.getD 0 0))) (plL (shpV n) (smN (n.getD 0 0))).length ++ [111, 107] else wrg (plE (shpV n) (smN (n.getD 0 0)))) := rfl
  have cs0 := ref_small (n.getD 0 0) (hrg.out 0)
  have hcs : Hid (∀ i W, Calls Tryz.prog 72 #[.int .u64 ((n.getD i 0 : Nat) : Int)] W fun e w' => e = .returned (.int .i64 ((smN (n.getD i 0) : Nat) : Int)) ∧ w' = W) := fun i W => ref_small (n.getD i 0) (hrg.out i) W
  have cT : ∀ W u, Below w.heap.size w W → IsP 3 W u (plL (shpV n) (smN (n.getD 0 0))) → Calls Tryz.prog 74 #[u] W fun e w' => e = .returned (.string (bs (ptx (plL (shpV n) (smN (n.getD 0 0))) (plL (shpV n) (smN (n.getD 0 0))).length))) ∧ (bs (ptx (plL (shpV n) (smN (n.getD 0 0))) (plL (shpV n) (smN (n.getD 0 0))).length)).size ≤ 1000000 ∧ Below w.heap.size w w' := fun W u hb hP => by
    have ht3 := tot_small hl64 (plL (shpV n) (smN (n.getD 0 0))).length
    refine (ref_PlanText W u _ hP (ht.below hb) (text_size hP (by omega))).mono ?_
    rintro e w' ⟨rfl, hb2⟩
    have := ptx_le _ hP.b3 (plL (shpV n) (smN (n.getD 0 0))).length (Nat.le_refl _)
    exact ⟨rfl, by rw [bs_size]; omega, hb.trans (hb2.mono hb.size)⟩
  generalize plnV n = R at *
  generalize plE (shpV n) (smN (n.getD 0 0)) = er at *
  generalize plL (shpV n) (smN (n.getD 0 0)) = L at *
  generalize ptx L L.length = tx0 at *
  generalize smN (n.getD 0 0) = c at *
  clear hI h hl3 hl64
  have hn9 : n.length ≤ 9223372036854775807 := by omega
  go_enter Tryz.func36, Tryz.ntmps36
  go_wp2
  go_loopw [5, 6] (fun u vi wr => ∃ i : Nat, 1 ≤ i ∧ i ≤ n.length ∧ vi = .int .i64 (i : Int) ∧ OwI w.heap.size wr u (shK n i) ∧ Below w.heap.size w wr)
    (fun _ vi _ => n.length - (intOf vi).toNat)
  case atStart => exact ⟨1, Nat.le_refl _, by omega, rfl, hO0, Below.refl _ _⟩
  case round =>
    clear hO0
    obtain ⟨i, hi1, hi, rfl, hO, hB⟩ := hrel
    by_cases hlt : i < n.length
    · have hc := hcell.out i hlt
      have hcw := (hB.cell (block_lt hc)).trans hc
      have cs := hcs.out i
      have hs := hst.out i hi1 hlt
      have hl := hlen.out i
      have hnew : Hid (∀ W u, OwI w.heap.size W u (shK n i ++ [smN (n.getD i 0)]) → OwI w.heap.size W u (shK n (i + 1))) := fun W u h => by rw [hs]; exact h
      clear hs hc hend cT cs0 hc0
      generalize smN (n.getD i 0) = y at *
      generalize n.getD i 0 = x at *
      go_wp2_with (first
        | (go_at_call 72; refine Calls.mono (cs _) ?_; rintro e w' ⟨rfl, hw⟩; rw [hw]; clear hw)
        | (at_builtin; refine wp_appOI rfl _ _ rfl _ _ y rfl hO rfl hl hB ?_; intro v1 w2 hO1 hB1; replace hO1 := hnew.out _ _ hO1; clear hO hB hnew hcw))
      go_roundw
      case rel => exact ⟨i + 1, by omega, by omega, by go_num, hO1, hB1⟩
      case measure => simp only [intOf]; omega
    · have e : i = n.length := by omega
      subst e
      have hnl : ¬ n.length < n.length := Nat.lt_irrefl _
      have cP := hend.out _ _ hB hO
      have hcw := (hB.cell (block_lt hc0)).trans hc0
      clear hend hO hcs hst hlen hcell hc0
      by_cases hz : er = 0
      · have hR := hV.out
        rw [if_pos hz] at hR
        subst hz
        have happ : bs tx0 ++ ({ data := #[111, 107] } : ByteArray) = bs R := by rw [hR]; exact bs_append _ [111, 107]
        clear hV hR hrg
        generalize n.getD 0 0 = x at *
        generalize n.length = m at *
        go_wp2_with (first
          | (go_at_call 72; refine Calls.mono (cs0 _) ?_; rintro e w' ⟨rfl, hw⟩; rw [hw]; clear hw)
          | (go_at_call 73; refine Calls.mono cP ?_; rintro e w1 ⟨u2, rfl, hP, hB1⟩; clear cP hcw)
          | (go_at_call 74; refine Calls.mono (cT _ _ hB1 hP) ?_; rintro e w2 ⟨rfl, hsz, hB2⟩; clear cT))
        go_ret
        exact ⟨rfl, hB2⟩
      · have hR := hV.out
        rw [if_neg hz] at hR
        have hne : (er != 0) = true := by simpa using hz
        have cW : ∀ W, Below w.heap.size w W → Calls Tryz.prog 26 #[.int .i64 er] W fun e w' => e = .returned (.string (bs R)) ∧ Below w.heap.size w w' := fun W hb => by
          rw [hR]
          refine (ref_wrong er her.1 (by omega) W (ht.below hb)).mono ?_
          rintro e w' ⟨rfl, hb2⟩
          exact ⟨rfl, hb.trans (hb2.mono hb.size)⟩
        clear hV hR hrg cT hz her
        generalize n.getD 0 0 = x at *
        generalize n.length = m at *
        go_wp2_with (first
          | (go_at_call 72; refine Calls.mono (cs0 _) ?_; rintro e w' ⟨rfl, hw⟩; rw [hw]; clear hw)
          | (go_at_call 73; refine Calls.mono cP ?_; rintro e w1 ⟨u2, rfl, hP, hB1⟩; clear cP hcw)
          | (go_at_call 26; refine Calls.mono (cW _ hB1) ?_; rintro e w2 ⟨rfl, hB2⟩))
        go_ret
        exact ⟨rfl, hB2⟩

end Go.Proofs.YtmggccepmicjhacGreatDoor
