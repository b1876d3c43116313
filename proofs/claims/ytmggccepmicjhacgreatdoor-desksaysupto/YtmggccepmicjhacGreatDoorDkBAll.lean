/-
  Texts that stood one behind the other, as one.
-/
import Derived.Test.YtmggccepmicjhacGreatDoorPrsuAll
import Derived.Test.YtmggccepmicjhacGreatDoorDkSAll
import Derived.Test.YtmggccepmicjhacGreatDoorSlAll
import Derived.WalkKit
import Derived.Laws.Concat
import Derived.Laws.Strings
import Derived.Deep.Cut
/-! Slices of texts: what they read as; one text appended to a row of the call's own. -/
namespace Go.Proofs.YtmggccepmicjhacGreatDoor
open Go.RowKit

def cellsT (L : List (List UInt8)) : List Value := L.map fun l => .string (bs l)
theorem cellsT_length (L : List (List UInt8)) : (cellsT L).length = L.length := by simp [cellsT]
theorem cellsT_append (L M : List (List UInt8)) : cellsT (L ++ M) = cellsT L ++ cellsT M := by simp [cellsT]
theorem cellsT_get (L : List (List UInt8)) (i : Nat) (h : i < L.length) : (cellsT L)[i]? = some (.string (bs (L.getD i []))) := by simp [cellsT, List.getD, h]
/-- The slice v reads as the texts L. -/
def IsB (w : World) (v : Value) (L : List (List UInt8)) : Prop :=
  ∃ (a : Option Addr) (cap : Nat), v = .slice a L.length cap ∧ L.length ≤ cap ∧ cap ≤ maxLen ∧ ∀ i, i < L.length → ∃ b off, a = some ⟨b, off, none⟩ ∧ w.cell? ⟨b, off + i, none⟩ = some (.string (bs (L.getD i [])))
theorem IsB.below {w w' : World} {v : Value} {L : List (List UInt8)} (h : IsB w v L) (hb : Below w.heap.size w w') : IsB w' v L := by
  obtain ⟨a, cap, rfl, h1, h2, hc⟩ := h
  refine ⟨a, cap, rfl, h1, h2, fun i hi => ?_⟩
  obtain ⟨b, off, e, c⟩ := hc i hi
  exact ⟨b, off, e, (hb.cell (block_lt c)).trans c⟩
/-- A row of the call's own (from block B on) that holds the texts L. -/
def OwB (B : Nat) (w : World) (v : Value) (L : List (List UInt8)) : Prop := w.ownsRow B 9 1 v L.length (cellsT L)
theorem OwB.nil (B : Nat) (w : World) : OwB B w (.slice none 0 0) [] := World.ownsRow_nil _ _ _ _
theorem OwB.below {B : Nat} {w w' : World} {v : Value} {L : List (List UInt8)} (h : OwB B w v L) (hb : Below w.heap.size w w') : OwB B w' v L := owns_below h hb
theorem OwB.isB {B : Nat} {w : World} {v : Value} {L : List (List UInt8)} (h : OwB B w v L) : IsB w v L := by
  rcases h.2 with ⟨rfl, h0⟩ | ⟨g, cap, cur, rfl, hg, hh, h1, h2, h3, h4⟩
  · obtain rfl := List.eq_nil_of_length_eq_zero h0
    exact ⟨none, 0, rfl, Nat.le_refl _, Nat.zero_le _, fun i hi => absurd hi (by simp)⟩
  · refine ⟨_, cap, rfl, h1, h2, fun i hi => ⟨g, 0, rfl, ?_⟩⟩
    have e : (cur.toList.take (L.length * 1))[i]? = some (.string (bs (L.getD i []))) := by rw [h4]; exact cellsT_get L i hi
    rw [List.getElem?_take, if_pos (by omega), Array.getElem?_toList] at e
    simp only [World.cell?, hh, Nat.zero_add, e]
    rfl
/-- Such a row that isn't empty: a cell of it, and another text in its place. -/
theorem OwB.form {B : Nat} {w : World} {v : Value} {L : List (List UInt8)} (h : OwB B w v L) (hn : 0 < L.length) :
    ∃ g cap, v = .slice (some ⟨g, 0, none⟩) L.length cap ∧ B ≤ g ∧ cap ≤ maxLen ∧ L.length ≤ cap ∧ (∀ i, i < L.length → w.cell? ⟨g, i, none⟩ = some (.string (bs (L.getD i []))) ∧ w.frozen? ⟨g, i, none⟩ = false ∧
      ∀ l, OwB B (w.setCell ⟨g, i, none⟩ (.string (bs l))) (.slice (some ⟨g, 0, none⟩) L.length cap) (L.set i l)) := by
  have hlen := h.1
  rcases h.2 with ⟨rfl, h0⟩ | ⟨g, cap, cur, hv, hg, hh, h1, h2, h3, h4⟩
  · omega
  · refine ⟨g, cap, hv, hg, h2, h1, fun i hi => ⟨?_, ?_, fun l => ?_⟩⟩
    · have e : (cur.toList.take (L.length * 1))[i]? = some (.string (bs (L.getD i []))) := by rw [h4]; exact cellsT_get L i hi
      rw [List.getElem?_take, if_pos (by omega), Array.getElem?_toList] at e
      simp only [World.cell?, hh, e]
      rfl
    · simp [World.frozen?, hh]
    · refine ⟨by rw [cellsT_length]; simp, .inr ⟨g, cap, cur.setIfInBounds i (.string (bs l)), by rw [List.length_set], hg, ?_, by rw [List.length_set]; exact h1, h2, by simp [h3], ?_⟩⟩
      · simp [World.setCell, Array.getElem?_modify, hh]
      · rw [Array.toList_setIfInBounds, List.length_set, List.take_set, h4]
        unfold cellsT
        rw [List.map_set]
theorem info_str : (Tryz.prog.info? 9).map (fun i => (i.zero, i.size, i.bytes)) = some (some (.string (bs [])), 1, 16) := by kernel_rfl
theorem info_partsT {t : Nat} {z : Value} {s b : Nat} (h : (Tryz.prog.info? t).map (fun i => (i.zero, i.size, i.bytes)) = some (some z, s, b)) : ∃ i, Tryz.prog.info? t = some i ∧ i.zero = some z ∧ i.size = s ∧ i.bytes = b := by
  cases hi : Tryz.prog.info? t with
  | none => rw [hi] at h; cases h
  | some i =>
    rw [hi] at h
    simp only [Option.map_some, Option.some.injEq, Prod.mk.injEq] at h
    exact ⟨i, rfl, h.1, h.2.1, h.2.2⟩
/-- One text more. -/
theorem wp_appB {ops : Array Oper} {rest : List Oper} {o : Oper} {a : Act} {Q : Exit → Act → World → Prop} {w w0 : World} (hgd : o.guard = none) (s x : Operand)
    (ho : o.op = .call { callee := .builtin .append, args := #[s, x], argTypes := #[26, 26] }) (v : Value) (L : List (List UInt8)) (l : List UInt8)
    (hs : a.eval s = v) (hown : OwB w0.heap.size w v L) (hx : a.eval x = .slice (some ⟨w.heap.size, 0, none⟩) 1 1)
    (hn : L.length ≤ 1000000000) (hnx : Below w0.heap.size w0 w)
    (h : ∀ v' w', OwB w0.heap.size w' v' (L ++ [l]) → Below w0.heap.size w0 w' → wpList Tryz.prog ops Q rest (a.put o.dst v') w') :
    wpList Tryz.prog ops Q (o :: rest) a (w.alloc (.cells #[.string (bs l)] 9)) := by
  obtain ⟨i0, hi, hz0, hz1, hz2⟩ := info_partsT info_str
  have hsz := hnx.size
  refine wpList_append_own _ hgd s x 26 ho w0.heap.size 9 i0 (.string (bs [])) 1 16 Tryz.underlying26 hi hz0 hz1 hz2 rfl (by decide) v L.length (cellsT L) hs (World.ownsRow.alloc hown _) ⟨w.heap.size, 0, none⟩ 1 1 [.string (bs l)] hx rfl ?_ ?_ ?_ ?_ ?_ ?_
  · intro j u hj
    match j, hj with
    | 0, hj => simp at hj; subst hj; simp [Addr.add]
  · intro u hu; simp at hu; subst hu; rfl
  · unfold maxLen; omega
  · omega
  · simp; omega
  · intro v' w' hown' hgrow _
    refine h v' w' ?_ ((hnx.alloc hsz _).grown hgrow (by simp; omega) (owns_block hown))
    unfold OwB
    rw [List.length_append, cellsT_append]
    exact hown'
theorem OwB.mono {B B' : Nat} {w : World} {v : Value} {L : List (List UInt8)} (h : OwB B' w v L) (hB : B ≤ B') : OwB B w v L := by
  refine ⟨h.1, ?_⟩
  rcases h.2 with h2 | ⟨g, cap, cur, hv, hg, r⟩
  · exact Or.inl h2
  · exact Or.inr ⟨g, cap, cur, hv, Nat.le_trans hB hg, r⟩
theorem IsB.drop {w : World} {a : Option Addr} {cap : Nat} {L : List (List UInt8)} (h : IsB w (.slice a L.length cap) L) (hn : 0 < L.length) :
    ∃ b off, a = some ⟨b, off, none⟩ ∧ ∀ k, k ≤ L.length → IsB w (.slice (some ⟨b, off + k, none⟩) (L.length - k) (cap - k)) (L.drop k) := by
  obtain ⟨a', cap', e, h1, h2, hc⟩ := h
  simp only [Value.slice.injEq, true_and] at e
  obtain ⟨rfl, rfl⟩ := e
  obtain ⟨b, off, rfl, _⟩ := hc 0 hn
  refine ⟨b, off, rfl, fun k hk => ⟨_, _, by rw [List.length_drop], by rw [List.length_drop]; omega, by omega, fun i hi => ⟨b, off + k, rfl, ?_⟩⟩⟩
  rw [List.length_drop] at hi
  obtain ⟨b', off', e, c⟩ := hc (k + i) (by omega)
  simp only [Option.some.injEq, Addr.mk.injEq, and_true] at e
  obtain ⟨rfl, rfl⟩ := e
  rw [Nat.add_assoc, c]
  simp [List.getD, List.getElem?_drop]
theorem IsB.take {w : World} {a : Option Addr} {cap k : Nat} {L : List (List UInt8)} (h : IsB w (.slice a L.length cap) L) (hk : k ≤ L.length) : IsB w (.slice a k cap) (L.take k) := by
  obtain ⟨a', cap', e, h1, h2, hc⟩ := h
  simp only [Value.slice.injEq, true_and] at e
  obtain ⟨rfl, rfl⟩ := e
  have hl : (L.take k).length = k := by rw [List.length_take]; omega
  refine ⟨a, cap, by rw [hl], by omega, h2, fun i hi => ?_⟩
  obtain ⟨b, off, e, c⟩ := hc i (by omega)
  refine ⟨b, off, e, ?_⟩
  rw [c]
  simp [List.getD, show i < k by omega]
theorem IsB.len {w : World} {v : Value} {L : List (List UInt8)} (h : IsB w v L) : ∃ a cap, v = .slice a L.length cap := by
  obtain ⟨a, cap, e, _⟩ := h
  exact ⟨a, cap, e⟩

end Go.Proofs.YtmggccepmicjhacGreatDoor

/-! What Pieces, Words and TextLines of package goldref answer. -/
namespace Go.Proofs.YtmggccepmicjhacGreatDoor
open Go.RowKit

theorem bs_toList (s : ByteArray) : s = bs s.data.toList := by cases s; rfl
theorem bs_get (l : List UInt8) (i : Nat) (hs : i < (bs l).size) (h : i < l.length) : ((bs l)[i]'hs).toNat = (l[i]'h).toNat := by
  rw [ByteArray.getElem_eq_getElem_data]
  rfl
theorem bs_cut (l : List UInt8) (i : Nat) (h : i < l.length) : (bs l).extract i (i + 1) = bs [l[i]] := by
  have : ((bs l).extract i (i + 1)).data.toList = [l[i]] := by
    have e : ((bs l).extract i (i + 1)).data = l.toArray.extract i (i + 1) := ByteArray.data_extract
    rw [e]
    simp [List.extract]
    rw [List.drop_eq_getElem_cons h]
    rfl
  rw [bs_toList ((bs l).extract i (i + 1)), this]
set_option maxHeartbeats 4000000 in
theorem ref_Pieces (w : World) (s : List UInt8) (b : UInt8) (h9 : s.length < 1000000000) :
    Calls Tryz.prog 24 #[.string (bs s), .int .u8 (b.toNat : Int)] w fun e w' => ∃ u, e = .returned u ∧ OwB w.heap.size w' u (pcs b s) ∧ Below w.heap.size w w' := by
  have hsz : (bs s).size = s.length := bs_size s
  have h0 : OwB w.heap.size (w.alloc (.cells #[.string (bs [])] 9)) (.slice (some ⟨w.heap.size, 0, none⟩) 1 1) (pcs b (s.take 0)) := by
    refine ⟨rfl, .inr ⟨w.heap.size, 1, #[.string (bs [])], rfl, Nat.le_refl _, ?_, Nat.le_refl _, by unfold maxLen; omega, rfl, rfl⟩⟩
    show ((w.heap.push _)[w.heap.size]? : Option Obj) = _
    simp
  have hB0 : Below w.heap.size w (w.alloc (.cells #[.string (bs [])] 9)) := below_alloc1 _ _
  generalize hS : bs s = S at *
  go_enter Tryz.func24, Tryz.ntmps24
  go_wp2
  go_loopw [5, 6] (fun u vi wr => ∃ i : Nat, i ≤ s.length ∧ vi = .int .i64 (i : Int) ∧ OwB w.heap.size wr u (pcs b (s.take i)) ∧ Below w.heap.size w wr)
    (fun _ vi _ => s.length - (intOf vi).toNat)
  case atStart => exact ⟨0, Nat.zero_le _, rfl, h0, hB0⟩
  case round =>
    clear h0 hB0
    obtain ⟨i, hi, rfl, hO, hB⟩ := hrel
    have hpl : (pcs b (s.take i)).length ≤ 1000000000 := by
      have := pcs_le b (s.take i)
      rw [List.length_take] at this
      omega
    by_cases hlt : i < s.length
    · have hby : ∀ hs : i < S.size, (S[i]'hs).toNat = (s[i]'hlt).toNat := fun hs => by subst hS; exact bs_get s i hs hlt
      have hcut : S.extract i (i + 1) = bs [s[i]'hlt] := by rw [← hS]; exact bs_cut s i hlt
      have htk : s.take (i + 1) = s.take i ++ [s[i]'hlt] := List.take_succ_eq_append_getElem hlt
      by_cases hc : s[i]'hlt = b
      · have hnew : Hid (∀ W u, OwB w.heap.size W u (pcs b (s.take i) ++ [[]]) → OwB w.heap.size W u (pcs b (s.take (i + 1)))) := fun W u h => by
          rw [htk, hc, pcs_same]; exact h
        rw [hc] at hby
        generalize b.toNat = x at *
        clear hcut htk hc
        go_wp2_with (at_builtin; refine wp_appB rfl _ _ rfl _ (pcs b (s.take i)) [] rfl hO rfl hpl hB ?_; intro v1 w1 hO1 hB1; replace hO1 := hnew.out _ _ hO1; clear hO hB hnew)
        go_roundw
        case rel => exact ⟨i + 1, by omega, by go_num, hO1, hB1⟩
        case measure => simp only [intOf]; omega
      · obtain ⟨g, cap, rfl, hg, hcap, hlc, hcell⟩ := hO.form (by rw [pcs_length]; omega)
        have hpos := pcs_length b (s.take i)
        have hlast : (pcs b (s.take i)).getD ((pcs b (s.take i)).length - 1) [] = (pcP b (s.take i)).2 := by
          rw [hpos]
          unfold pcs
          simp
        obtain ⟨hc1, hc2, hc3⟩ := hcell ((pcs b (s.take i)).length - 1) (by omega)
        rw [hlast] at hc1
        have hnew : Hid (∀ W, OwB w.heap.size W (.slice (some ⟨g, 0, none⟩) (pcs b (s.take i)).length cap) ((pcs b (s.take i)).set ((pcs b (s.take i)).length - 1) ((pcP b (s.take i)).2 ++ [s[i]'hlt])) → OwB w.heap.size W (.slice (some ⟨g, 0, none⟩) (pcs b (s.take i)).length cap) (pcs b (s.take (i + 1)))) := fun W h => by
          rw [htk, pcs_other _ hc]
          have e : (pcs b (s.take i)).set ((pcs b (s.take i)).length - 1) ((pcP b (s.take i)).2 ++ [s[i]'hlt]) = (pcP b (s.take i)).1 ++ [(pcP b (s.take i)).2 ++ [s[i]'hlt]] := by
            rw [hpos]
            unfold pcs
            simp
          rw [← e]
          exact h
        have hO2 : Hid (∀ n, OwB w.heap.size ((wr.setCell ⟨g, (pcs b (s.take i)).length - 1, none⟩ (.string (bs ((pcP b (s.take i)).2 ++ [s[i]'hlt])))).drewN n) (.slice (some ⟨g, 0, none⟩) (pcs b (s.take i)).length cap) (pcs b (s.take (i + 1)))) := fun n => hnew.out _ (OwB.below (hc3 _) (below_drewN (Below.refl _ _) n))
        have hB2 : Hid (∀ n, Below w.heap.size w ((wr.setCell ⟨g, (pcs b (s.take i)).length - 1, none⟩ (.string (bs ((pcP b (s.take i)).2 ++ [s[i]'hlt])))).drewN n)) := fun n => below_drewN (hB.setCell (p := ⟨g, _, none⟩) hg _) n
        have hne : ((s[i]'hlt).toNat : Int) ≠ (b.toNat : Int) := fun e => hc (UInt8.toNat_inj.mp (by omega))
        have hbe : (((s[i]'hlt).toNat : Int) == (b.toNat : Int)) = false := by rw [beq_eq_false_iff_ne]; exact hne
        have happ : bs (pcP b (s.take i)).2 ++ bs [s[i]'hlt] = bs ((pcP b (s.take i)).2 ++ [s[i]'hlt]) := bs_append _ _
        have hn1 : ((pcs b (s.take i)).length : Int) - 1 = (((pcs b (s.take i)).length - 1 : Nat) : Int) := by omega
        have hlt2 : (pcs b (s.take i)).length - 1 < (pcs b (s.take i)).length := by omega
        have hls : (bs (pcP b (s.take i)).2).size + (bs [s[i]'hlt]).size ≤ 1000000000 := by
          have := pcP_bytes b (s.take i)
          rw [List.length_take] at this
          rw [bs_size, bs_size, List.length_singleton]
          omega
        have hll : (pcs b (s.take i)).length ≤ 9223372036854775807 := by omega
        clear hcell hc3 hnew hO hB hlast hpos hc hne htk hcap hlc hpl
        generalize (pcP b (s.take i)).2 ++ [s[i]'hlt] = l2 at *
        generalize (pcP b (s.take i)).2 = l1 at *
        generalize (s[i]'hlt).toNat = x at *
        generalize [s[i]'hlt] = l3 at *
        generalize b.toNat = y at *
        generalize (pcs b (s.take i)).length - 1 = k at *
        generalize (pcs b (s.take i)).length = n at *
        go_wp2
        go_region
        all_goals
          clear hc1 hc2
          go_wp2
          go_roundw
          case rel => exact ⟨i + 1, by omega, by go_num, hO2.out 1, hB2.out 1⟩
          case measure => simp only [intOf]; omega
    · have e : i = s.length := by omega
      subst e
      rw [List.take_length] at hO
      have hnl : ¬ s.length < s.length := Nat.lt_irrefl _
      go_wp2
      go_ret
      exact ⟨_, rfl, hO, hB⟩
theorem ne_emptyT {l : List UInt8} (h : l ≠ []) : ¬ (bs l).toList = [] ∧ (bs l).toList.isEmpty = false := by
  have e : (bs l).toList ≠ [] := fun q => by
    rw [ByteArray.toList_eq] at q
    exact h q
  exact ⟨e, by cases hq : (bs l).toList with | nil => exact absurd hq e | cons => rfl⟩
theorem is_emptyT : (bs []).toList = [] ∧ (bs []).toList.isEmpty = true := by
  have e : (bs []).toList = [] := by rw [ByteArray.toList_eq]; rfl
  exact ⟨e, by rw [e]; rfl⟩
theorem wds_step (L : List (List UInt8)) (i : Nat) (h : i < L.length) : (L.take (i + 1)).filter wdB = (L.take i).filter wdB ++ (if wdB (L.getD i []) then [L.getD i []] else []) := by
  rw [List.take_succ_eq_append_getElem h, List.filter_append]
  have e : L.getD i [] = L[i] := by simp [List.getD, h]
  rw [e]
  congr 1
  by_cases q : wdB L[i] <;> simp [q]
set_option maxHeartbeats 2000000 in
theorem ref_Words (w : World) (s : List UInt8) (h9 : s.length < 1000000000) :
    Calls Tryz.prog 15 #[.string (bs s)] w fun e w' => ∃ u, e = .returned u ∧ OwB w.heap.size w' u (wds s) ∧ Below w.heap.size w w' := by
  have cP : Calls Tryz.prog 24 #[.string (bs s), .int .u8 32] w fun e w' => ∃ u, e = .returned u ∧ OwB w.heap.size w' u (pcs 32 s) ∧ Below w.heap.size w w' := ref_Pieces w s 32 h9
  have hpl := pcs_le 32 s
  have hpl9 : (pcs 32 s).length ≤ 1000000000 := by omega
  have hst := wds_step (pcs 32 s)
  have hend : wds s = ((pcs 32 s).take (pcs 32 s).length).filter wdB := by rw [List.take_length]; rfl
  have hst' : Hid (∀ i, i < (pcs 32 s).length → ((pcs 32 s).take (i + 1)).filter wdB = ((pcs 32 s).take i).filter wdB ++ (if wdB ((pcs 32 s).getD i []) then [(pcs 32 s).getD i []] else [])) := hst
  clear hst
  rw [hend]
  clear hend hpl h9
  generalize pcs 32 s = L at *
  generalize bs s = S at *
  go_enter Tryz.func15, Tryz.ntmps15
  go_wp2_with (go_at_call 24; refine Calls.mono cP ?_; rintro e w1 ⟨u, rfl, hO, hB⟩; clear cP)
  have hI := hO.isB
  obtain ⟨a, cap, rfl, -, -, hc0⟩ := hI
  have hc : Hid (∀ i, i < L.length → ∃ b off, a = some ⟨b, off, none⟩ ∧ w1.cell? ⟨b, off + i, none⟩ = some (.string (bs (L.getD i [])))) := hc0
  have hN0 : OwB w1.heap.size w1 (.slice none 0 0) ((L.take 0).filter wdB) := OwB.nil _ _
  have hll : L.length ≤ 9223372036854775807 := by omega
  clear hO hc0
  generalize hn : L.length = n at *
  replace hn : Hid _ := hn
  go_loopw [3, 5] (fun u vi wr => ∃ i : Nat, i ≤ n ∧ vi = .int .i64 (i : Int) ∧ OwB w1.heap.size wr u ((L.take i).filter wdB) ∧ Below w1.heap.size w1 wr)
    (fun _ vi _ => n - (intOf vi).toNat)
  case atStart => exact ⟨0, Nat.zero_le _, rfl, hN0, Below.refl _ _⟩
  case round =>
    clear hN0
    obtain ⟨i, hi, rfl, hO, hB1⟩ := hrel
    by_cases hlt : i < n
    · obtain ⟨b, off, rfl, hcell0⟩ := hc.out i hlt
      have hcell := (hB1.cell (block_lt hcell0)).trans hcell0
      have hst := hst'.out i hlt
      have hfl : ((L.take i).filter wdB).length ≤ 1000000000 := by
        have h1 : ((L.take i).filter wdB).length ≤ (L.take i).length := List.length_filter_le _ _
        rw [List.length_take] at h1
        omega
      have hBw : Below w.heap.size w wr := hB.trans (hB1.mono hB.size)
      by_cases hq : L.getD i [] = []
      · rw [hq] at hst hcell
        rw [show ((L.take i).filter wdB ++ if wdB [] then [[]] else []) = (L.take i).filter wdB by simp [wdB]] at hst
        rw [← hst] at hO
        obtain ⟨he1, he2⟩ := is_emptyT
        clear hst hcell0 hfl hq
        go_wp2
        go_roundw
        case rel => exact ⟨i + 1, by omega, by go_num, hO, hB1⟩
        case measure => simp only [intOf]; omega
      · have hwd : wdB (L.getD i []) = true := by
          unfold wdB
          cases hx : L.getD i [] with
          | nil => exact absurd hx hq
          | cons => rfl
        rw [if_pos hwd] at hst
        obtain ⟨hn1, hn2⟩ := ne_emptyT hq
        have hnew : Hid (∀ W u, OwB w1.heap.size W u ((L.take i).filter wdB ++ [L.getD i []]) → OwB w1.heap.size W u ((L.take (i + 1)).filter wdB)) := fun W u h => by rw [hst]; exact h
        clear hst hcell0 hwd hq
        generalize L.getD i [] = l at *
        go_wp2_with (at_builtin; refine wp_appB rfl _ _ rfl _ _ l rfl hO rfl hfl hB1 ?_; intro v1 w2 hO1 hB2; replace hO1 := hnew.out _ _ hO1; clear hO hB1 hnew hcell hBw)
        go_roundw
        case rel => exact ⟨i + 1, by omega, by go_num, hO1, hB2⟩
        case measure => simp only [intOf]; omega
    · have e : i = n := by omega
      subst e
      have hnl : ¬ i < i := Nat.lt_irrefl _
      have hBw : Below w.heap.size w wr := hB.trans (hB1.mono hB.size)
      replace hO := hO.mono hB.size
      go_wp2
      go_ret
      exact ⟨_, rfl, by rw [hn.out]; exact hO, hBw⟩
theorem pcs_last (b : UInt8) (s : List UInt8) : (pcs b s).getD ((pcs b s).length - 1) [] = (pcP b s).2 := by
  rw [pcs_length]
  unfold pcs
  simp
theorem pcs_init (b : UInt8) (s : List UInt8) : (pcs b s).take ((pcs b s).length - 1) = (pcP b s).1 := by
  rw [pcs_length]
  unfold pcs
  simp
set_option maxHeartbeats 2000000 in
theorem ref_TextLines (w : World) (s : List UInt8) (h9 : s.length < 1000000000) :
    Calls Tryz.prog 14 #[.string (bs s)] w fun e w' => ∃ u, e = .returned u ∧ IsB w' u (tlns s) ∧ Below w.heap.size w w' := by
  have cP : Calls Tryz.prog 24 #[.string (bs s), .int .u8 10] w fun e w' => ∃ u, e = .returned u ∧ OwB w.heap.size w' u (pcs 10 s) ∧ Below w.heap.size w w' := ref_Pieces w s 10 h9
  have hlen := pcs_length 10 s
  have hpl := pcs_le 10 s
  have hla := pcs_last 10 s
  have hin := pcs_init 10 s
  have hL : Hid (tlns s = if (pcP 10 s).2 = [] then (pcP 10 s).1 else pcs 10 s) := rfl
  generalize tlns s = R at *
  generalize (pcP 10 s).2 = la at *
  generalize (pcP 10 s).1 = ini at *
  have hpos : 0 < (pcs 10 s).length := by omega
  have hpl9 : (pcs 10 s).length ≤ 1000000000 := by omega
  clear hlen hpl h9
  generalize pcs 10 s = L at *
  generalize bs s = S at *
  have hI : Hid (∀ W u, OwB w.heap.size W u L → ∃ g cap, u = .slice (some ⟨g, 0, none⟩) L.length cap ∧ L.length ≤ cap ∧ W.cell? ⟨g, L.length - 1, none⟩ = some (.string (bs la)) ∧ IsB W (.slice (some ⟨g, 0, none⟩) (L.length - 1) cap) ini ∧ IsB W (.slice (some ⟨g, 0, none⟩) L.length cap) L) := fun W u h => by
    obtain ⟨g, cap, rfl, _, _, hlc, hc⟩ := h.form hpos
    obtain ⟨c1, _⟩ := hc (L.length - 1) (by omega)
    rw [hla] at c1
    have hB := h.isB
    have ht := hB.take (k := L.length - 1) (by omega)
    rw [hin] at ht
    exact ⟨g, cap, rfl, hlc, c1, ht, hB⟩
  have hn1 : (L.length : Int) - 1 = ((L.length - 1 : Nat) : Int) := by omega
  have hn2 : L.length - 1 < L.length := by omega
  clear hla hin
  generalize L.length - 1 = k at *
  go_enter Tryz.func14, Tryz.ntmps14
  go_upto_region 2 with (go_at_call 24; refine Calls.mono cP ?_; rintro e w1 ⟨u, rfl, hO, hB⟩; clear cP)
  obtain ⟨g, cap, rfl, hlc, hc, h1, h2⟩ := hI.out _ _ hO
  clear hO hI
  have hkc : k ≤ cap := by omega
  have hll : L.length ≤ 9223372036854775807 := by omega
  by_cases hq : la = []
  · have hR : Hid (R = ini) := by show R = ini; rw [hL.out, if_pos hq]
    rw [hq] at hc
    obtain ⟨he1, he2⟩ := is_emptyT
    clear hL hq h2
    go_wp2
    go_ret
    exact ⟨_, rfl, by rw [hR.out]; exact h1, hB⟩
  · have hR : Hid (R = L) := by show R = L; rw [hL.out, if_neg hq]
    obtain ⟨he1, he2⟩ := ne_emptyT hq
    clear hL hq h1
    go_wp2
    go_ret
    exact ⟨_, rfl, by rw [hR.out]; exact h2, hB⟩

end Go.Proofs.YtmggccepmicjhacGreatDoor
