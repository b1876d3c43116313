/-
  Texts that stood one behind the other, as one.
-/
import Derived.Test.YtmggccepmicjhagGreatDoorDkB
import Derived.WalkKit
import Derived.Laws.Concat
import Derived.Laws.Strings
import Derived.Deep.Cut
import Derived.Shelf.Strings.Builder1
import Derived.Shelf.Strings.Builder2
import Derived.Shelf.Strings.OnBuilder
import Derived.Shelf.Small.Bits
import Derived.Shelf.Strconv.Itoa0
import Derived.Shelf.Strconv.Itoa1
import Derived.Shelf.LaysM
import Derived.Shelf.Strconv.Itoa2
import Derived.Shelf.Strconv.Itoa3
import Derived.Ground.MpProg
import Derived.Shelf.Pu.ParseUintPublic10
import Derived.Shelf.Pu.ErrVarParseUint
import Derived.Shelf.Strings.Search1
import Derived.Shelf.Strings.Search2
import Derived.Shelf.Strings.Search3
import Derived.Shelf.Strings.Count
import Derived.Shelf.Strings.Shaped
import Derived.Shelf.Strings.Split
import Derived.Shelf.Strings.SplitShaped
import Derived.Shelf.Bits.Mul64
import Derived.Shelf.Unicode.DecodeSlow
import Derived.Shelf.Strings.FieldsFuncAny
import Derived.Test.YtmggccepmicjhagGreatDoorProg
/-! What Pieces, Words and TextLines of package goldref answer. -/
namespace Go.Proofs.YtmggccepmicjhagGreatDoor
open Go.RowKit
set_option maxRecDepth 100000

theorem bs_toList (s : ByteArray) : s = bs s.data.toList := by cases s; rfl
theorem bs_get (l : List UInt8) (i : Nat) (hs : i < (bs l).size) (h : i < l.length) : ((bs l)[i]'hs).toNat = (l[i]'h).toNat := by
  rw [ByteArray.getElem_eq_getElem_data]
  rfl
theorem bs_cut (l : List UInt8) (i : Nat) (h : i < l.length) : (bs l).extract i (i + 1) = bs [l[i]] := by
  have : ((bs l).extract i (i + 1)).data.toList = [l[i]] := by
    have e : ((bs l).extract i (i + 1)).data = l.toArray.extract i (i + 1) := ByteArray.data_extract
    rw [e]
    simp [List.extract]
    rw [List.drop_eq_getElem_cons h]
    rfl
  rw [bs_toList ((bs l).extract i (i + 1)), this]
set_option maxHeartbeats 4000000 in
theorem ref_Pieces (w : World) (s : List UInt8) (b : UInt8) (h9 : s.length < 1000000000) :
    Calls Tryz.prog 18 #[.string (bs s), .int .u8 (b.toNat : Int)] w fun e w' => ∃ u, e = .returned u ∧ OwB w.heap.size w' u (pcs b s) ∧ Below w.heap.size w w' := by
  have hsz : (bs s).size = s.length := bs_size s
  have h0 : OwB w.heap.size (w.alloc (.cells #[.string (bs [])] 9)) (.slice (some ⟨w.heap.size, 0, none⟩) 1 1) (pcs b (s.take 0)) := by
    refine ⟨rfl, .inr ⟨w.heap.size, 1, #[.string (bs [])], rfl, Nat.le_refl _, ?_, Nat.le_refl _, by unfold maxLen; omega, rfl, rfl⟩⟩
    show ((w.heap.push _)[w.heap.size]? : Option Obj) = _
    simp
  have hB0 : Below w.heap.size w (w.alloc (.cells #[.string (bs [])] 9)) := below_alloc1 _ _
  generalize hS : bs s = S at *
  go_enter Tryz.func18, Tryz.ntmps18
  go_wp2
  go_loopw [5, 6] (fun u vi wr => ∃ i : Nat, i ≤ s.length ∧ vi = .int .i64 (i : Int) ∧ OwB w.heap.size wr u (pcs b (s.take i)) ∧ Below w.heap.size w wr)
    (fun _ vi _ => s.length - (intOf vi).toNat)
  case atStart => exact ⟨0, Nat.zero_le _, rfl, h0, hB0⟩
  case round =>
    clear h0 hB0
    obtain ⟨i, hi, rfl, hO, hB⟩ := hrel
    have hpl : (pcs b (s.take i)).length ≤ 1000000000 := by
      have := pcs_le b (s.take i)
      rw [List.length_take] at this
      omega
    by_cases hlt : i < s.length
    · have hby : ∀ hs : i < S.size, (S[i]'hs).toNat = (s[i]'hlt).toNat := fun hs => by subst hS; exact bs_get s i hs hlt
      have hcut : S.extract i (i + 1) = bs [s[i]'hlt] := by rw [← hS]; exact bs_cut s i hlt
      have htk : s.take (i + 1) = s.take i ++ [s[i]'hlt] := List.take_succ_eq_append_getElem hlt
      by_cases hc : s[i]'hlt = b
      · have hnew : Hid (∀ W u, OwB w.heap.size W u (pcs b (s.take i) ++ [[]]) → OwB w.heap.size W u (pcs b (s.take (i + 1)))) := fun W u h => by
          rw [htk, hc, pcs_same]; exact h
        rw [hc] at hby
        generalize b.toNat = x at *
        clear hcut htk hc
        go_wp2_with (at_builtin; refine wp_appB rfl _ _ rfl _ (pcs b (s.take i)) [] rfl hO rfl hpl hB ?_; intro v1 w1 hO1 hB1; replace hO1 := hnew.out _ _ hO1; clear hO hB hnew)
        go_roundw
        case rel => exact ⟨i + 1, by omega, by go_num, hO1, hB1⟩
        case measure => simp only [intOf]; omega
      · obtain ⟨g, cap, rfl, hg, hcap, hlc, hcell⟩ := hO.form (by rw [pcs_length]; omega)
        have hpos := pcs_length b (s.take i)
        have hlast : (pcs b (s.take i)).getD ((pcs b (s.take i)).length - 1) [] = (pcP b (s.take i)).2 := by
          rw [hpos]
          unfold pcs
          simp
        obtain ⟨hc1, hc2, hc3⟩ := hcell ((pcs b (s.take i)).length - 1) (by omega)
        rw [hlast] at hc1
        have hnew : Hid (∀ W, OwB w.heap.size W (.slice (some ⟨g, 0, none⟩) (pcs b (s.take i)).length cap) ((pcs b (s.take i)).set ((pcs b (s.take i)).length - 1) ((pcP b (s.take i)).2 ++ [s[i]'hlt])) → OwB w.heap.size W (.slice (some ⟨g, 0, none⟩) (pcs b (s.take i)).length cap) (pcs b (s.take (i + 1)))) := fun W h => by
          rw [htk, pcs_other _ hc]
          have e : (pcs b (s.take i)).set ((pcs b (s.take i)).length - 1) ((pcP b (s.take i)).2 ++ [s[i]'hlt]) = (pcP b (s.take i)).1 ++ [(pcP b (s.take i)).2 ++ [s[i]'hlt]] := by
            rw [hpos]
            unfold pcs
            simp
          rw [← e]
          exact h
        have hO2 : Hid (∀ n, OwB w.heap.size ((wr.setCell ⟨g, (pcs b (s.take i)).length - 1, none⟩ (.string (bs ((pcP b (s.take i)).2 ++ [s[i]'hlt])))).drewN n) (.slice (some ⟨g, 0, none⟩) (pcs b (s.take i)).length cap) (pcs b (s.take (i + 1)))) := fun n => hnew.out _ (OwB.below (hc3 _) (below_drewN (Below.refl _ _) n))
        have hB2 : Hid (∀ n, Below w.heap.size w ((wr.setCell ⟨g, (pcs b (s.take i)).length - 1, none⟩ (.string (bs ((pcP b (s.take i)).2 ++ [s[i]'hlt])))).drewN n)) := fun n => below_drewN (hB.setCell (p := ⟨g, _, none⟩) hg _) n
        have hne : ((s[i]'hlt).toNat : Int) ≠ (b.toNat : Int) := fun e => hc (UInt8.toNat_inj.mp (by omega))
        have hbe : (((s[i]'hlt).toNat : Int) == (b.toNat : Int)) = false := by rw [beq_eq_false_iff_ne]; exact hne
        have happ : bs (pcP b (s.take i)).2 ++ bs [s[i]'hlt] = bs ((pcP b (s.take i)).2 ++ [s[i]'hlt]) := bs_append _ _
        have hn1 : ((pcs b (s.take i)).length : Int) - 1 = (((pcs b (s.take i)).length - 1 : Nat) : Int) := by omega
        have hlt2 : (pcs b (s.take i)).length - 1 < (pcs b (s.take i)).length := by omega
        have hls : (bs (pcP b (s.take i)).2).size + (bs [s[i]'hlt]).size ≤ 1000000000 := by
          have := pcP_bytes b (s.take i)
          rw [List.length_take] at this
          rw [bs_size, bs_size, List.length_singleton]
          omega
        have hll : (pcs b (s.take i)).length ≤ 9223372036854775807 := by omega
        clear hcell hc3 hnew hO hB hlast hpos hc hne htk hcap hlc hpl
        generalize (pcP b (s.take i)).2 ++ [s[i]'hlt] = l2 at *
        generalize (pcP b (s.take i)).2 = l1 at *
        generalize (s[i]'hlt).toNat = x at *
        generalize [s[i]'hlt] = l3 at *
        generalize b.toNat = y at *
        generalize (pcs b (s.take i)).length - 1 = k at *
        generalize (pcs b (s.take i)).length = n at *
        go_wp2
        go_region
        all_goals
          clear hc1 hc2
          go_wp2
          go_roundw
          case rel => exact ⟨i + 1, by omega, by go_num, hO2.out 1, hB2.out 1⟩
          case measure => simp only [intOf]; omega
    · have e : i = s.length := by omega
      subst e
      rw [List.take_length] at hO
      have hnl : ¬ s.length < s.length := Nat.lt_irrefl _
      go_wp2
      go_ret
      exact ⟨_, rfl, hO, hB⟩
theorem ne_emptyT {l : List UInt8} (h : l ≠ []) : ¬ (bs l).toList = [] ∧ (bs l).toList.isEmpty = false := by
  have e : (bs l).toList ≠ [] := fun q => by
    rw [ByteArray.toList_eq] at q
    exact h q
  exact ⟨e, by cases hq : (bs l).toList with | nil => exact absurd hq e | cons => rfl⟩
theorem is_emptyT : (bs []).toList = [] ∧ (bs []).toList.isEmpty = true := by
  have e : (bs []).toList = [] := by rw [ByteArray.toList_eq]; rfl
  exact ⟨e, by rw [e]; rfl⟩
theorem wds_step (L : List (List UInt8)) (i : Nat) (h : i < L.length) : (L.take (i + 1)).filter wdB = (L.take i).filter wdB ++ (if wdB (L.getD i []) then [L.getD i []] else []) := by
  rw [List.take_succ_eq_append_getElem h, List.filter_append]
  have e : L.getD i [] = L[i] := by simp [List.getD, h]
  rw [e]
  congr 1
  by_cases q : wdB L[i] <;> simp [q]
set_option maxHeartbeats 2000000 in
theorem ref_Words (w : World) (s : List UInt8) (h9 : s.length < 1000000000) :
    Calls Tryz.prog 8 #[.string (bs s)] w fun e w' => ∃ u, e = .returned u ∧ OwB w.heap.size w' u (wds s) ∧ Below w.heap.size w w' := by
  have cP : Calls Tryz.prog 18 #[.string (bs s), .int .u8 32] w fun e w' => ∃ u, e = .returned u ∧ OwB w.heap.size w' u (pcs 32 s) ∧ Below w.heap.size w w' := ref_Pieces w s 32 h9
  have hpl := pcs_le 32 s
  have hpl9 : (pcs 32 s).length ≤ 1000000000 := by omega
  have hst := wds_step (pcs 32 s)
  have hend : wds s = ((pcs 32 s).take (pcs 32 s).length).filter wdB := by rw [List.take_length]; rfl
  have hst' : Hid (∀ i, i < (pcs 32 s).length → ((pcs 32 s).take (i + 1)).filter wdB = ((pcs 32 s).take i).filter wdB ++ (if wdB ((pcs 32 s).getD i []) then [(pcs 32 s).getD i []] else [])) := hst
  clear hst
  rw [hend]
  clear hend hpl h9
  generalize pcs 32 s = L at *
  generalize bs s = S at *
  go_enter Tryz.func8, Tryz.ntmps8
  go_wp2_with (go_at_call 18; refine Calls.mono cP ?_; rintro e w1 ⟨u, rfl, hO, hB⟩; clear cP)
  have hI := hO.isB
  obtain ⟨a, cap, rfl, -, -, hc0⟩ := hI
  have hc : Hid (∀ i, i < L.length → ∃ b off, a = some ⟨b, off, none⟩ ∧ w1.cell? ⟨b, off + i, none⟩ = some (.string (bs (L.getD i [])))) := hc0
  have hN0 : OwB w1.heap.size w1 (.slice none 0 0) ((L.take 0).filter wdB) := OwB.nil _ _
  have hll : L.length ≤ 9223372036854775807 := by omega
  clear hO hc0
  generalize hn : L.length = n at *
  replace hn : Hid _ := hn
  go_loopw [3, 5] (fun u vi wr => ∃ i : Nat, i ≤ n ∧ vi = .int .i64 (i : Int) ∧ OwB w1.heap.size wr u ((L.take i).filter wdB) ∧ Below w1.heap.size w1 wr)
    (fun _ vi _ => n - (intOf vi).toNat)
  case atStart => exact ⟨0, Nat.zero_le _, rfl, hN0, Below.refl _ _⟩
  case round =>
    clear hN0
    obtain ⟨i, hi, rfl, hO, hB1⟩ := hrel
    by_cases hlt : i < n
    · obtain ⟨b, off, rfl, hcell0⟩ := hc.out i hlt
      have hcell := (hB1.cell (block_lt hcell0)).trans hcell0
      have hst := hst'.out i hlt
      have hfl : ((L.take i).filter wdB).length ≤ 1000000000 := by
        have h1 : ((L.take i).filter wdB).length ≤ (L.take i).length := List.length_filter_le _ _
        rw [List.length_take] at h1
        omega
      have hBw : Below w.heap.size w wr := hB.trans (hB1.mono hB.size)
      by_cases hq : L.getD i [] = []
      · rw [hq] at hst hcell
        rw [show ((L.take i).filter wdB ++ if wdB [] then [[]] else []) = (L.take i).filter wdB by simp [wdB]] at hst
        rw [← hst] at hO
        obtain ⟨he1, he2⟩ := is_emptyT
        clear hst hcell0 hfl hq
        go_wp2
        go_roundw
        case rel => exact ⟨i + 1, by omega, by go_num, hO, hB1⟩
        case measure => simp only [intOf]; omega
      · have hwd : wdB (L.getD i []) = true := by
          unfold wdB
          cases hx : L.getD i [] with
          | nil => exact absurd hx hq
          | cons => rfl
        rw [if_pos hwd] at hst
        obtain ⟨hn1, hn2⟩ := ne_emptyT hq
        have hnew : Hid (∀ W u, OwB w1.heap.size W u ((L.take i).filter wdB ++ [L.getD i []]) → OwB w1.heap.size W u ((L.take (i + 1)).filter wdB)) := fun W u h => by rw [hst]; exact h
        clear hst hcell0 hwd hq
        generalize L.getD i [] = l at *
        go_wp2_with (at_builtin; refine wp_appB rfl _ _ rfl _ _ l rfl hO rfl hfl hB1 ?_; intro v1 w2 hO1 hB2; replace hO1 := hnew.out _ _ hO1; clear hO hB1 hnew hcell hBw)
        go_roundw
        case rel => exact ⟨i + 1, by omega, by go_num, hO1, hB2⟩
        case measure => simp only [intOf]; omega
    · have e : i = n := by omega
      subst e
      have hnl : ¬ i < i := Nat.lt_irrefl _
      have hBw : Below w.heap.size w wr := hB.trans (hB1.mono hB.size)
      replace hO := hO.mono hB.size
      go_wp2
      go_ret
      exact ⟨_, rfl, by rw [hn.out]; exact hO, hBw⟩
theorem pcs_last (b : UInt8) (s : List UInt8) : (pcs b s).getD ((pcs b s).length - 1) [] = (pcP b s).2 := by
  rw [pcs_length]
  unfold pcs
  simp
theorem pcs_init (b : UInt8) (s : List UInt8) : (pcs b s).take ((pcs b s).length - 1) = (pcP b s).1 := by
  rw [pcs_length]
  unfold pcs
  simp
set_option maxHeartbeats 2000000 in
theorem ref_TextLines (w : World) (s : List UInt8) (h9 : s.length < 1000000000) :
    Calls Tryz.prog 6 #[.string (bs s)] w fun e w' => ∃ u, e = .returned u ∧ IsB w' u (tlns s) ∧ Below w.heap.size w w' := by
  have cP : Calls Tryz.prog 18 #[.string (bs s), .int .u8 10] w fun e w' => ∃ u, e = .returned u ∧ OwB w.heap.size w' u (pcs 10 s) ∧ Below w.heap.size w w' := ref_Pieces w s 10 h9
  have hlen := pcs_length 10 s
  have hpl := pcs_le 10 s
  have hla := pcs_last 10 s
  have hin := pcs_init 10 s
  have hL : Hid (tlns s = if (pcP 10 s).2 = [] then (pcP 10 s).1 else pcs 10 s) := rfl
  generalize tlns s = R at *
  generalize (pcP 10 s).2 = la at *
  generalize (pcP 10 s).1 = ini at *
  have hpos : 0 < (pcs 10 s).length := by omega
  have hpl9 : (pcs 10 s).length ≤ 1000000000 := by omega
  clear hlen hpl h9
  generalize pcs 10 s = L at *
  generalize bs s = S at *
  have hI : Hid (∀ W u, OwB w.heap.size W u L → ∃ g cap, u = .slice (some ⟨g, 0, none⟩) L.length cap ∧ L.length ≤ cap ∧ W.cell? ⟨g, L.length - 1, none⟩ = some (.string (bs la)) ∧ IsB W (.slice (some ⟨g, 0, none⟩) (L.length - 1) cap) ini ∧ IsB W (.slice (some ⟨g, 0, none⟩) L.length cap) L) := fun W u h => by
    obtain ⟨g, cap, rfl, _, _, hlc, hc⟩ := h.form hpos
    obtain ⟨c1, _⟩ := hc (L.length - 1) (by omega)
    rw [hla] at c1
    have hB := h.isB
    have ht := hB.take (k := L.length - 1) (by omega)
    rw [hin] at ht
    exact ⟨g, cap, rfl, hlc, c1, ht, hB⟩
  have hn1 : (L.length : Int) - 1 = ((L.length - 1 : Nat) : Int) := by omega
  have hn2 : L.length - 1 < L.length := by omega
  clear hla hin
  generalize L.length - 1 = k at *
  go_enter Tryz.func6, Tryz.ntmps6
  go_upto_region 2 with (go_at_call 18; refine Calls.mono cP ?_; rintro e w1 ⟨u, rfl, hO, hB⟩; clear cP)
  obtain ⟨g, cap, rfl, hlc, hc, h1, h2⟩ := hI.out _ _ hO
  clear hO hI
  have hkc : k ≤ cap := by omega
  have hll : L.length ≤ 9223372036854775807 := by omega
  by_cases hq : la = []
  · have hR : Hid (R = ini) := by show R = ini; rw [hL.out, if_pos hq]
    rw [hq] at hc
    obtain ⟨he1, he2⟩ := is_emptyT
    clear hL hq h2
    go_wp2
    go_ret
    exact ⟨_, rfl, by rw [hR.out]; exact h1, hB⟩
  · have hR : Hid (R = L) := by show R = L; rw [hL.out, if_neg hq]
    obtain ⟨he1, he2⟩ := ne_emptyT hq
    clear hL hq h1
    go_wp2
    go_ret
    exact ⟨_, rfl, by rw [hR.out]; exact h2, hB⟩

end Go.Proofs.YtmggccepmicjhagGreatDoor

/-! Contracts of the library at this program: their laying, in plain words. -/
namespace Go.Proofs
open Go.Shelf
def Tryz.lays283_ren : Go.Shelf.Ren := ⟨fun | 283 => 80 | n => n, fun | 3 => 3 | 9 => 9 | 4 => 4 | n => n, fun | n => n⟩
theorem Tryz.lays283 : Go.Proofs.Lays.n283 Tryz.prog Tryz.lays283_ren := {
  mixed := by kernel_rfl
  f283 := Tryz.func80.trans (congrArg some (by kernel_rfl))
  t3 := Tryz.underlying3
  a3 := Tryz.isAgg3
  z3 := Tryz.sizeOf3
  v3 := Tryz.zeroValue3
  t4 := Tryz.underlying4
  a4 := Tryz.isAgg4
  z4 := Tryz.sizeOf4
  v4 := Tryz.zeroValue4
  t9 := Tryz.underlying9
  a9 := Tryz.isAgg9
  z9 := Tryz.sizeOf9
  v9 := Tryz.zeroValue9 }
open Go.Lib in
theorem Tryz.internal_strconv_small (i : Nat) (h : i < 100) (w : World) :
    Calls Tryz.prog 80 #[.int .i64 i] w fun e w' => e = .returned (.string ⟨(Lib.decDigits i).toArray⟩) ∧ w' = w := Any.internal_strconv_small Tryz.lays283 i h w
def Tryz.laysM284_ren : Go.Shelf.Ren := ⟨fun | 284 => 81 | 129 => 92 | 317 => 101 | 318 => 102 | n => n, fun | 53 => 77 | 3 => 3 | 212 => 131 | 0 => 0 | 4 => 4 | 46 => 70 | 5 => 5 | 9 => 9 | n => n, fun | 17 => 1 | n => n⟩
theorem Tryz.laysM284 : Go.Proofs.LaysM.n284 Tryz.prog Tryz.laysM284_ren := {
  mixed := by kernel_rfl
  f129 := Tryz.func92.trans (congrArg some (by kernel_rfl))
  f284 := Tryz.func81.trans (congrArg some (by kernel_rfl))
  f317 := Tryz.func101.trans (congrArg some (by kernel_rfl))
  f318 := Tryz.func102.trans (congrArg some (by kernel_rfl))
  t0 := Tryz.underlying0
  a0 := Tryz.isAgg0
  z0 := Tryz.sizeOf0
  v0 := Tryz.zeroValue0
  t3 := Tryz.underlying3
  a3 := Tryz.isAgg3
  z3 := Tryz.sizeOf3
  v3 := Tryz.zeroValue3
  t4 := Tryz.underlying4
  a4 := Tryz.isAgg4
  z4 := Tryz.sizeOf4
  v4 := Tryz.zeroValue4
  t5 := Tryz.underlying5
  a5 := Tryz.isAgg5
  z5 := Tryz.sizeOf5
  v5 := Tryz.zeroValue5
  t9 := Tryz.underlying9
  a9 := Tryz.isAgg9
  z9 := Tryz.sizeOf9
  v9 := Tryz.zeroValue9
  t46 := Tryz.underlying70
  a46 := Tryz.isAgg70
  z46 := Tryz.sizeOf70
  v46 := Tryz.zeroValue70
  t53 := Tryz.underlying77
  a53 := Tryz.isAgg77
  z53 := Tryz.sizeOf77
  v53 := Tryz.zeroValue77
  t212 := Tryz.underlying131
  a212 := Tryz.isAgg131
  z212 := Tryz.sizeOf131
  v212 := Tryz.zeroValue131
  g17 := by kernel_rfl
  i0 := by kernel_rfl
  i3 := by kernel_rfl
  i4 := by kernel_rfl
  i5 := by kernel_rfl
  i9 := by kernel_rfl
  i46 := by kernel_rfl
  i53 := by kernel_rfl
  i212 := by kernel_rfl
  m17 := by kernel_rfl }
open Go.Lib in
theorem Tryz.internal_strconv_numDigits (u : Nat) (h1 : 1 ≤ u) (h2 : u < 18446744073709551616) (w : World) (htab : Lib.TabIs Tryz.prog w "internal/strconv.uint64pow10" .u64 Lib.pow10Tab) :
    Calls Tryz.prog 81 #[.int .u64 u] w fun e w' => e = .returned (.int .i64 (Lib.nDigits u)) ∧ w' = w := Any.internal_strconv_numDigits Tryz.laysM284 u h1 h2 w htab
def Tryz.lays285_ren : Go.Shelf.Ren := ⟨fun | 285 => 82 | n => n, fun | 37 => 31 | 53 => 77 | 3 => 3 | 4 => 4 | 51 => 103 | 9 => 9 | 5 => 5 | 0 => 0 | n => n, fun | n => n⟩
theorem Tryz.lays285 : Go.Proofs.Lays.n285 Tryz.prog Tryz.lays285_ren := {
  mixed := by kernel_rfl
  f285 := Tryz.func82.trans (congrArg some (by kernel_rfl))
  t0 := Tryz.underlying0
  a0 := Tryz.isAgg0
  z0 := Tryz.sizeOf0
  v0 := Tryz.zeroValue0
  t3 := Tryz.underlying3
  a3 := Tryz.isAgg3
  z3 := Tryz.sizeOf3
  v3 := Tryz.zeroValue3
  t4 := Tryz.underlying4
  a4 := Tryz.isAgg4
  z4 := Tryz.sizeOf4
  v4 := Tryz.zeroValue4
  t5 := Tryz.underlying5
  a5 := Tryz.isAgg5
  z5 := Tryz.sizeOf5
  v5 := Tryz.zeroValue5
  t9 := Tryz.underlying9
  a9 := Tryz.isAgg9
  z9 := Tryz.sizeOf9
  v9 := Tryz.zeroValue9
  t37 := Tryz.underlying31
  a37 := Tryz.isAgg31
  z37 := Tryz.sizeOf31
  v37 := Tryz.zeroValue31
  t51 := Tryz.underlying103
  a51 := Tryz.isAgg103
  z51 := Tryz.sizeOf103
  v51 := Tryz.zeroValue103
  t53 := Tryz.underlying77
  a53 := Tryz.isAgg77
  z53 := Tryz.sizeOf77
  v53 := Tryz.zeroValue77 }
open Go.RowKit Go.Sort Go.Lib in
theorem Tryz.internal_strconv_formatBase10 (blk off cap : Nat) (u : Nat) (d : Array UInt8) (w : World) (hH : Holds (fun (b : UInt8) => Value.int .u8 (b.toNat : Int)) w blk off d) (hu : u < 10 ^ d.size) (hu64 : u < 18446744073709551616) (hsz : d.size < 4611686018427387904) :
    Calls Tryz.prog 82 #[.slice (some ⟨blk, off, none⟩) d.size cap, .int .u64 u] w fun e w' =>
      e = .returned (.tuple #[]) ∧ ∃ (n v' : Nat) (dk : Array UInt8), w' = (putRow (fun (b : UInt8) => Value.int .u8 (b.toNat : Int)) w blk off dk).drewN n ∧ FmtInv d.size u 0 v' dk := Any.internal_strconv_formatBase10 Tryz.lays285 blk off cap u d w hH hu hu64 hsz
end Go.Proofs
