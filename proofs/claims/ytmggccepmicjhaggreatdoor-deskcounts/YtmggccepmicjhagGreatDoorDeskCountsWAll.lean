/-
  Texts that stood one behind the other, as one.
-/
import Derived.Test.YtmggccepmicjhagGreatDoorDeskAAll
import Derived.Test.YtmggccepmicjhagGreatDoorDkH
import Derived.Test.YtmggccepmicjhagGreatDoorRefPcsAll
import Derived.Test.YtmggccepmicjhagGreatDoorDeskAAll
import Derived.Deep.Cut
import Derived.Test.YtmggccepmicjhagGreatDoorRows
import Derived.WalkKit
import Derived.ProofKit
import Derived.OpenShut
import Derived.Test.YtmggccepmicjhagGreatDoorSlAll
import Derived.Test.YtmggccepmicjhagGreatDoorTie
import Derived.Test.YtmggccepmicjhagGreatDoorCards
import Derived.Stop.Joined
import Derived.JoinedCond
import Derived.SizedLaws
import Derived.Deep.DeepHandedRow
import Derived.ShutString
import Derived.Below
/-! DeskCounts returns true for all texts. -/
namespace Go.Proofs.YtmggccepmicjhagGreatDoor
open Go.RowKit
set_option maxRecDepth 100000

theorem ans_ofC {e : Ending} {x y : List UInt8} (h : e = .returned (.string (bs x))) (hxy : x = y) : e = .returned (.string (bs y)) := by rw [← hxy]; exact h
theorem count10 (w : World) (l : List UInt8) : Calls Tryz.prog 9 #[.string (bs l), .string { data := #[10] }] w fun e w' => e = .returned (.int .i64 ((tens l : Nat) : Int)) ∧ w' = w := Tryz.strings_Count_one (bs l) 10 w
theorem cntB_take (L : List (List UInt8)) (i : Nat) (h : i < L.length) : cntB (L.take (i + 1)) = cntB (L.take i) + (if ansB (L.getD i []) then 1 else 0) := by
  have e : L.getD i [] = L[i] := by simp [List.getD, h]
  unfold cntB
  rw [List.take_succ_eq_append_getElem h, List.filter_append, List.length_append, e]
  congr 1
  cases q : ansB L[i] <;> simp [q]
theorem cntB_le (L : List (List UInt8)) (i : Nat) : cntB (L.take i) ≤ i := by
  unfold cntB
  have h1 := List.length_filter_le ansB (L.take i)
  rw [List.length_take] at h1
  omega
set_option maxRecDepth 100000 in
set_option maxHeartbeats 4000000 in
theorem deskCounts_nat (w : World) (s : List UInt8) (h1 : s.length ≤ 9223372036854775807) (ht : Tab w) :
    Calls Tryz.prog 4 #[.string (bs s)] w fun e w' => e = .returned (.bool true) ∧ Below w.heap.size w w' := by
  have c0 : Calls Tryz.prog 5 #[.string { data := #[35, 10, 10, 114, 111, 111, 116, 32, 51, 51] }] w fun e w' => e = .returned (.string { data := #[101, 114, 114, 111, 114, 32, 49, 10] }) ∧ Below w.heap.size w w' := by
    refine (desk_Run w [35, 10, 10, 114, 111, 111, 116, 32, 51, 51] ht).mono ?_
    rintro e w' ⟨he, hb⟩
    exact ⟨ans_ofC he text_count, hb⟩
  have z0 : (bs s).size = s.length := bs_size s
  have cR := fun (W : World) (hb : Below w.heap.size w W) => desk_Run W s (ht.below hb)
  by_cases hA : 65536 < s.length
  · have hAi : (65536 : Int) < (s.length : Int) := by omega
    have hd : dskV s = [101, 114, 114, 111, 114, 32, 50, 10] := by unfold dskV; rw [if_pos (.inl hA)]
    rw [hd] at cR
    have cR' : ∀ (W : World), Below w.heap.size w W → Calls Tryz.prog 5 #[.string (bs s)] W fun e w' => e = .returned (.string { data := #[101, 114, 114, 111, 114, 32, 50, 10] }) ∧ Below W.heap.size W w' := cR
    clear hA hd cR
    generalize s.length = N at *
    generalize bs s = S at *
    go_enter Tryz.func4, Tryz.ntmps4
    go_wp2_with (first
      | (go_at_call 5; have _t := c0; refine Calls.mono c0 ?_; rintro e w1 ⟨rfl, hB1⟩; clear c0)
      | (go_at_call 5; refine Calls.mono (cR' _ hB1) ?_; rintro e w2 ⟨rfl, hB2⟩; have hB := hB1.trans (hB2.mono hB1.size)))
    go_ret
    exact ⟨rfl, hB⟩
  · have hAi : ¬ ((65536 : Int) < (s.length : Int)) := by omega
    have cT := fun (W : World) => ref_TextLines W s (by omega)
    by_cases hL : 200 < (tlns s).length
    · have hLi : (200 : Int) < ((tlns s).length : Int) := by omega
      have hd : dskV s = [101, 114, 114, 111, 114, 32, 50, 10] := by unfold dskV; rw [if_pos (.inr hL)]
      rw [hd] at cR
      have cR' : ∀ (W : World), Below w.heap.size w W → Calls Tryz.prog 5 #[.string (bs s)] W fun e w' => e = .returned (.string { data := #[101, 114, 114, 111, 114, 32, 50, 10] }) ∧ Below W.heap.size W w' := cR
      clear hA hL hd cR
      generalize tlns s = L at *
      generalize s.length = N at *
      generalize bs s = S at *
      go_enter Tryz.func4, Tryz.ntmps4
      go_wp2_with (first
        | (go_at_call 5; have _t := c0; refine Calls.mono c0 ?_; rintro e w1 ⟨rfl, hB1⟩; clear c0)
        | (go_at_call 5; refine Calls.mono (cR' _ hB1) ?_; rintro e w2 ⟨rfl, hB2⟩; replace hB1 := hB1.trans (hB2.mono hB1.size); clear hB2)
        | (go_at_call 6; refine Calls.mono (cT _) ?_; rintro e w3 ⟨u, rfl, hI, hB3⟩; obtain ⟨a, cap, e3⟩ := hI.len; subst e3; have hB := hB1.trans (hB3.mono hB1.size); clear cT))
      go_ret
      exact ⟨rfl, hB⟩
    · have hLi : ¬ ((200 : Int) < ((tlns s).length : Int)) := by omega
      have hd : dskV s = ((tlns s).map ansL).flatten := by unfold dskV; rw [if_neg (fun q => q.elim hA hL), out_all]
      have htens : cntB (tlns s) ≤ tens (dskV s) := by rw [hd]; exact tens_flat _
      have hlast : dskV s = [] ∨ ∃ x, dskV s = x ++ [10] := by rw [hd]; exact last_flat _
      have hdl : (dskV s).length ≤ 300000000 := by
        rw [hd, ← out_all]
        have := outK_len (tlns s) (tlns s).length
        omega
      have hlm : Hid (∀ i, i < (tlns s).length → ((tlns s).getD i []).length ≤ 65536) := fun i hi => by
        have := tlns_mem (s := s) (l := (tlns s).getD i []) (by
          rw [List.getD, List.getElem?_eq_getElem hi]
          exact List.getElem_mem hi)
        omega
      have cC := fun (W : World) => count10 W (dskV s)
      clear hd hA
      generalize tlns s = L at *
      generalize s.length = N at *
      generalize bs s = S at *
      generalize dskV s = R at *
      have hct : Hid (∀ i, i < L.length → cntB (L.take (i + 1)) = cntB (L.take i) + (if ansB (L.getD i []) then 1 else 0)) := cntB_take L
      have hcl : Hid (∀ i, cntB (L.take i) ≤ i) := cntB_le L
      have hRl : (bs R).size = R.length := bs_size R
      have htl : tens R ≤ 300000000 := by
        unfold tens
        have := List.count_le_length (a := (10 : UInt8)) (l := R)
        omega
      go_enter Tryz.func4, Tryz.ntmps4
      go_upto_region 8 with (first
        | (go_at_call 5; have _t := c0; refine Calls.mono c0 ?_; rintro e w1 ⟨rfl, hB1⟩; clear c0)
        | (go_at_call 5; refine Calls.mono (cR _ hB1) ?_; rintro e w2 ⟨rfl, hB2⟩; replace hB1 := hB1.trans (hB2.mono hB1.size); clear hB2 cR)
        | (go_at_call 6; refine Calls.mono (cT _) ?_; rintro e w3 ⟨u, rfl, hI, hB3⟩; obtain ⟨a, cap, e3⟩ := hI.len; subst e3; replace hB1 := hB1.trans (hB3.mono hB1.size); clear hB3))
      obtain ⟨a', cap', e', -, -, hc0⟩ := hI
      simp only [Value.slice.injEq, true_and] at e'
      obtain ⟨rfl, rfl⟩ := e'
      have hc : Hid (∀ i, i < L.length → ∃ b off, a = some ⟨b, off, none⟩ ∧ w3.cell? ⟨b, off + i, none⟩ = some (.string (bs (L.getD i [])))) := hc0
      have hl9 : L.length ≤ 9223372036854775807 := by omega
      have hl200 : L.length ≤ 200 := by omega
      clear hc0 cT _t
      go_loopw [4, 26] (fun vn vi wr => ∃ i : Nat, i ≤ L.length ∧ vi = .int .i64 (i : Int) ∧ vn = .int .i64 ((cntB (L.take i) : Nat) : Int) ∧ Below w3.heap.size w3 wr)
        (fun _ vi _ => L.length - (intOf vi).toNat)
      case atStart => exact ⟨0, Nat.zero_le _, rfl, by simp [cntB], Below.refl _ _⟩
      case round =>
        obtain ⟨i, hi, rfl, rfl, hB2⟩ := hrel
        by_cases hlt : i < L.length
        · obtain ⟨b, off, rfl, hcell0⟩ := hc.out i hlt
          have hcell := (hB2.cell (block_lt hcell0)).trans hcell0
          have hll := hlm.out i hlt
          have cW := ref_Words wr (L.getD i []) (by omega)
          have hsu := hct.out i hlt
          have hcn := hcl.out i
          have hwm : Hid (∀ l ∈ wds (L.getD i []), l ≠ []) := fun l hl => (wds_mem hl).1
          have hA : Hid (ansB (L.getD i []) = match wds (L.getD i []) with | [] => false | v :: _ => !(v.headD 0 == 35)) := rfl
          clear hcl
          generalize hn0 : cntB (L.take i) = n0 at *
          replace hn0 : Hid _ := hn0
          cases hw : wds (L.getD i []) with
          | nil =>
            have hA0 := hA.out
            rw [hw] at hA0 cW
            have hA1 : ansB (L.getD i []) = false := hA0
            rw [hA1] at hsu
            have hsu' : Hid (cntB (L.take (i + 1)) = n0) := hsu
            clear hA hA0 hA1 hw hwm hcell0 hll hsu
            generalize L.getD i [] = l at *
            go_wp2_with (go_at_call 8; refine Calls.mono cW ?_; rintro e w4 ⟨u2, rfl, hO, hb⟩; have hI2 := hO.isB; obtain ⟨a2, cap2, e2⟩ := hI2.len; subst e2; replace hB2 := hB2.trans (hb.mono hB2.size); clear hb cW hcell hO hI2)
            go_roundw
            case rel => exact ⟨i + 1, by omega, by go_num, by rw [hsu'.out], hB2⟩
            case measure => simp only [intOf]; omega
          | cons v W =>
            have hA0 := hA.out
            rw [hw] at hA0 cW
            have hA1 : ansB (L.getD i []) = !(v.headD 0 == 35) := hA0
            rw [hA1] at hsu
            have hv0 := hwm.out v (by rw [hw]; exact List.mem_cons_self ..)
            obtain ⟨c, vr, hvc⟩ : ∃ c vr, v = c :: vr := by
              cases v with
              | nil => exact absurd rfl hv0
              | cons c vr => exact ⟨c, vr, rfl⟩
            have hby : ∀ hs : 0 < (bs v).size, ((bs v)[0]'hs).toNat = c.toNat := fun hs => by
              have := bs_get v 0 hs (by rw [hvc]; simp)
              rw [this]
              simp [hvc]
            have hvs : 0 < (bs v).size := by rw [bs_size, hvc]; simp
            have hhd : v.headD 0 = c := by rw [hvc]; rfl
            rw [hhd] at hsu
            clear hA hA0 hA1 hw hwm hcell0 hv0 hvc hhd
            generalize L.getD i [] = l at *
            go_upto_region 11 with (go_at_call 8; refine Calls.mono cW ?_; rintro e w4 ⟨u2, rfl, hO, hb⟩; replace hB2 := hB2.trans (hb.mono hB2.size); clear hb cW hcell)
            obtain ⟨g, cap2, rfl, hg, hcx, hlc, hcl2⟩ := hO.form (by simp)
            obtain ⟨q0, _⟩ := hcl2 0 (by simp)
            replace q0 : w4.cell? ⟨g, 0, none⟩ = some (.string (bs v)) := q0
            rw [List.length_cons] at hlc
            have hcm : cap2 ≤ 9223372036854775807 := by unfold maxLen at hcx; exact hcx
            clear hcx hcl2 hO
            by_cases h35 : c = 35
            · have hb35 : c.toNat = 35 := by rw [h35]; rfl
              have hsu' : Hid (cntB (L.take (i + 1)) = n0) := by
                show _ = _
                rw [hsu, h35]
                rfl
              rw [hb35] at hby
              clear h35 hb35 hsu
              go_wp2
              go_roundw
              case rel => exact ⟨i + 1, by omega, by go_num, by rw [hsu'.out], hB2⟩
              case measure => simp only [intOf]; omega
            · have hb35 : ((c.toNat : Int) != 35) = true := by
                rw [bne_iff_ne]
                exact fun q => h35 (UInt8.toNat_inj.mp (by show c.toNat = 35; omega))
              have hsu' : Hid (cntB (L.take (i + 1)) = n0 + 1) := by
                show _ = _
                rw [hsu, if_pos (by rw [Bool.not_eq_true', beq_eq_false_iff_ne]; exact h35)]
              clear h35 hsu
              generalize c.toNat = cc at *
              generalize bs v = V at *
              go_wp2
              go_roundw
              case rel => exact ⟨i + 1, by omega, by go_num, by rw [hsu'.out]; rfl, hB2⟩
              case measure => simp only [intOf]; omega
        · have e : i = L.length := by omega
          subst e
          rw [List.take_length]
          have hnl : ¬ L.length < L.length := Nat.lt_irrefl _
          have hB : Below w.heap.size w wr := hB1.trans (hB2.mono hB1.size)
          have hge : ((cntB L : Nat) : Int) ≤ ((tens R : Nat) : Int) := by omega
          clear hct hcl htens
          generalize cntB L = n1 at *
          rcases hlast with hR | ⟨x, hR⟩
          · obtain ⟨he1, he2⟩ := is_emptyT
            rw [hR] at hRl cC hge htl
            subst hR
            generalize tens [] = tt at *
            go_wp2_with (go_at_call 9; refine Calls.mono (cC _) ?_; rintro e w' ⟨rfl, hw⟩; rw [hw]; clear hw)
            go_ret
            exact ⟨by simp, hB⟩
          · obtain ⟨he1, he2⟩ := ne_emptyT (l := R) (by rw [hR]; simp)
            have hRp : 0 < R.length := by rw [hR]; simp
            have hby : ∀ hs : R.length - 1 < (bs R).size, ((bs R)[R.length - 1]'hs).toNat = 10 := fun hs => by
              rw [bs_get R (R.length - 1) hs (by omega)]
              simp [hR]
            have hn1 : (R.length : Int) - 1 = ((R.length - 1 : Nat) : Int) := by omega
            have hlt2 : R.length - 1 < R.length := by omega
            clear hR
            generalize R.length - 1 = k at *
            generalize R.length = m at *
            generalize tens R = tt at *
            generalize bs R = RR at *
            go_wp2_with (go_at_call 9; refine Calls.mono (cC _) ?_; rintro e w' ⟨rfl, hw⟩; rw [hw]; clear hw)
            go_ret
            exact ⟨by simp, hB⟩
theorem deskCounts_walk (s : ByteArray) (_w0 : s.size ≤ maxLen) (w : World) (hTb : Tab w) :
    Calls Tryz.prog 4 #[.string s] w fun e w' => e = .returned (.bool true) ∧ Below w.heap.size w w' := by
  have h : s.data.toList.length ≤ 9223372036854775807 := by unfold maxLen at _w0; exact _w0
  rw [bs_toList s]
  exact deskCounts_nat w _ h hTb

end Go.Proofs.YtmggccepmicjhagGreatDoor

/-! Whatever text is handed in, each line that has an answer has one line of it at least; the tables of packages math/bits, unicode/utf8 and strconv and the two errors of package strconv read as the program's text lays them. -/
namespace Go.Proofs.YtmggccepmicjhagGreatDoor.deskCounts
open Go.ChangeShapes Go.WideShapes Go.ChangeAt Go.RowKit
open Go.ChangeMaps (open_string shut_string)
set_option linter.unusedVariables false

theorem own : ownKnob Tryz.prog.godebug = none := by kernel_rfl
set_option maxRecDepth 100000 in
theorem contract (H : Type) (enc : TypeId × Value → H) (W : World) (base : Nat) (args : Array Value) (ds gs : List (DataW H)) (before : List MemPlace)
    (hval0 : ∀ (j : Nat) t v, Tryz.f4.params[j]? = some t → args[j]? = some v → Value.okWide Tryz.prog W .any base t v)
    (hW : DataW.Whole enc Tryz.prog Tryz.f4.params.toList Rows.deskCountsSpec.vars false W args.toList ds gs before) (hL : laidMetH Tryz.prog laids W) (hsh : W.ShapedOpen Tryz.prog) :
    Calls Tryz.prog 4 args W fun e W' => ∃ v, e = .returned v ∧ Rows.deskCountsSpec.post enc Tryz.prog Tryz.f4 false true false false W args v W' := by
  have hval : ∀ (j : Nat) t v, Tryz.f4.params[j]? = some t → args[j]? = some v → Value.okWide Tryz.prog W .any base t v := hval0
  have hW' := hW
  obtain ⟨p, q, hA0, hV, rfl, hfz, hnd⟩ := hW
  have hA : DataW.TrodAll enc Tryz.prog W 0 (fun _ => true) true Tryz.f4.params.toList args.toList ds p := hA0
  rw [Tryz.params4] at hA hval
  obtain ⟨v0, vs0, d0, ds0, p0, q0, hargs, rfl, rfl, h0, r0⟩ := trodAll_cons hA
  obtain ⟨rfl, rfl, rfl⟩ := trodAll_nil r0
  obtain rfl : args = #[v0] := by cases args; simp_all
  obtain ⟨rfl, rfl⟩ := trodVars_none hV
  obtain ⟨a0, rfl, rfl, rfl, w0⟩ := open_string Tryz.underlying9 (hval 0 9 v0 rfl rfl) h0
  clear hA0 hval0
  simp only [List.append_nil] at hW'
  refine (deskCounts_walk a0 w0 W (tab_of_laid hL hsh)).mono fun e W' ⟨he, bel⟩ => ?_
  subst he
  exact ⟨_, rfl, _, _, _, [], _, [], hW', trodAll_mk1 (shut_bool Tryz.underlying4 _), (trodAll_cons_mk (shut_string Tryz.underlying9 w0) trodAll_mk0), rfl, bel.frame _, fun h => by cases h⟩

theorem reads (os : Os) {H : Type} (enc : TypeId × Value → H) : ∃ places, DataW.whole enc Tryz.prog ((World.laidAll Tryz.prog os laids).forCall (fun _ _ => 0) ⟨#[], #[.string ByteArray.empty], []⟩).memory Tryz.f4.params.toList Rows.deskCountsSpec.vars false (#[.string ByteArray.empty] : Array Value).toList 8 = some ([.lit (.string [])], [], places) :=
  ⟨[], by kernel_rfl⟩
set_option maxRecDepth 100000 in
theorem lifted (os : Os) (started : os.Started) (H : Type) (enc : TypeId × Value → H) (F : Stop.Interp) :
    ReturnsInHanded {} Tryz.checked os 4 .any ((OpenSpec.ofChange Rows.deskCountsSpec).preRow enc Tryz.prog Tryz.f4 Rows.deskCountsRow.domain false Rows.deskCountsRow.laid) (((OpenSpec.ofChange Rows.deskCountsSpec).at F).post enc Tryz.prog Tryz.f4 false true false false) := by
  obtain ⟨places, hx⟩ := reads os enc
  refine returnsInHanded_of_row (C := Tryz.checked) (s := (OpenSpec.ofChange Rows.deskCountsSpec)) own started (by kernel_rfl) Tryz.func4
    (witness_row_at (enc := enc) (C := Tryz.checked) false (World.laidAll Tryz.prog os laids) #[.string ByteArray.empty] (World.laidAll_os _ _ _) (by kernel_rfl) (by kernel_rfl) (by kernel_rfl)
      (OpenSpec.preRow_of_cond 8 hx (by kernel_rfl) (fun k hk => by cases hk) (by kernel_rfl) (laid_met os _))) ?_
  intro W base args ds gs before hval hW _ _ _ hL hsh _
  exact contract H enc W base args ds gs before hval hW hL hsh
theorem said : Rows.DeskCountsSaid :=
  OpenClaim.holds_of_cond 4 Tryz.f4 rfl rfl rfl rfl rfl rfl rfl ⟨rfl, rfl, rfl, rfl, rfl⟩ rfl rfl rfl rfl rfl (by kernel_rfl) Tryz.func4 (by kernel_rfl)
    (of_decide_eq_true (by kernel_rfl)) (by unfold Func.isWrapper; first | (rw [if_pos (by decide +kernel)]; kernel_rfl) | (rw [if_neg (by decide +kernel)]; exact ⟨rfl, rfl⟩))
    (fun os started H enc _ F => by rw [OpenClaim.pre_eq_preRow]; exact lifted os started H enc F)
theorem plain (f : FuncId) (fn : Func) (hf : Tryz.pinned.checked.prog.funcNamed "goldmill/goldkeep.DeskCounts" = some f) (hfn : Tryz.pinned.checked.prog.funcs[f]? = some fn) :
    true = Tryz.pinned.checked.prog.looks [] ∧ ∀ (j : Nat) t, fn.params[j]? = some t → Tryz.pinned.checked.prog.wantsStandIn t = false := by
  obtain rfl : f = 4 := Option.some.inj ((show Tryz.prog.funcNamed "goldmill/goldkeep.DeskCounts" = some 4 by kernel_rfl).symm.trans hf) |>.symm
  obtain rfl : fn = Tryz.f4 := (Option.some.inj (Tryz.func4.symm.trans hfn)).symm
  refine ⟨by kernel_rfl, fun j t ht => ?_⟩
  rw [Tryz.params4] at ht
  have hm : t ∈ [9] := by simpa using Array.mem_of_getElem? ht
  have hall : ([9].all fun u => !Tryz.prog.wantsStandIn u) = true := by kernel_rfl
  exact (show Tryz.prog.wantsStandIn t = false by simpa using List.all_eq_true.1 hall t hm)
end Go.Proofs.YtmggccepmicjhagGreatDoor.deskCounts
namespace Go.Proofs.YtmggccepmicjhagGreatDoor
open Go
/-- The statement. -/
theorem deskCounts_holds : Rows.DeskCountsCardSaid :=
  Claim7.holds_tied_plain_at .later [] _ _ _ _ deskCounts.said (fun _ h => by cases h) (by kernel_rfl) (fun _ h => by cases h) deskCounts_row_tie rfl ⟨rfl, rfl⟩ (by kernel_rfl) rfl deskCounts.plain (by kernel_rfl)
#print axioms deskCounts_holds
end Go.Proofs.YtmggccepmicjhagGreatDoor
