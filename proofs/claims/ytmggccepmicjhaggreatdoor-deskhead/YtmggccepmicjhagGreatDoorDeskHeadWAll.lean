/-
  Texts that stood one behind the other, as one.
-/
import Derived.Test.YtmggccepmicjhagGreatDoorDeskAAll
import Derived.Test.YtmggccepmicjhagGreatDoorDkH
import Derived.Test.YtmggccepmicjhagGreatDoorRefGreatAll
import Derived.Test.YtmggccepmicjhagGreatDoorRefPcsAll
import Derived.Test.YtmggccepmicjhagGreatDoorRows
import Derived.WalkKit
import Derived.ProofKit
import Derived.OpenShut
import Derived.Test.YtmggccepmicjhagGreatDoorSlAll
import Derived.Test.YtmggccepmicjhagGreatDoorTie
import Derived.Test.YtmggccepmicjhagGreatDoorCards
import Derived.Stop.Joined
import Derived.JoinedCond
import Derived.SizedLaws
import Derived.Deep.DeepHandedRow
import Derived.ShutString
import Derived.Below
/-! DeskHead returns true for all texts. -/
namespace Go.Proofs.YtmggccepmicjhagGreatDoor
open Go.RowKit
set_option maxRecDepth 100000

theorem ans_of {e : Ending} {x y : List UInt8} (h : e = .returned (.string (bs x))) (hxy : x = y) : e = .returned (.string (bs y)) := by rw [← hxy]; exact h
set_option maxRecDepth 100000 in
set_option maxHeartbeats 2000000 in
theorem deskHead_nat (w : World) (s m : List UInt8) (h1 : s.length ≤ 140737488355328) (h2 : m.length ≤ 140737488355328) (ht : Tab w) :
    Calls Tryz.prog 3 #[.string (bs s), .string (bs m)] w fun e w' => e = .returned (.bool true) ∧ Below w.heap.size w w' := by
  have c0 : Calls Tryz.prog 5 #[.string { data := #[97, 100, 100, 32, 51, 32, 52, 10, 114, 111, 111, 116, 32, 49, 10, 110, 116, 116, 32, 49, 32, 48, 10, 116, 105, 109, 101, 115, 32, 49, 50, 32, 49, 50, 10] }] w fun e w' => e = .returned (.string { data := #[55, 10, 49, 56, 52, 52, 54, 55, 52, 52, 48, 54, 57, 52, 49, 52, 53, 56, 52, 51, 50, 48, 10, 49, 32, 49, 10, 49, 52, 52, 10] }) ∧ Below w.heap.size w w' := by
    refine (desk_Run w [97, 100, 100, 32, 51, 32, 52, 10, 114, 111, 111, 116, 32, 49, 10, 110, 116, 116, 32, 49, 32, 48, 10, 116, 105, 109, 101, 115, 32, 49, 50, 32, 49, 50, 10] ht).mono ?_
    rintro e w' ⟨he, hb⟩
    exact ⟨ans_of he text_head, hb⟩
  have e1 : bs s ++ ({ data := #[10] } : ByteArray) = bs (s ++ [10]) := bs_append _ [10]
  have e2 : bs (s ++ [10]) ++ bs m = bs (s ++ [10] ++ m) := bs_append _ _
  have z0 : (bs s).size = s.length := bs_size s
  have z1 : (bs (s ++ [10])).size = s.length + 1 := by rw [bs_size]; simp
  have z2 : (bs m).size = m.length := bs_size m
  have z3 : (bs (s ++ [10] ++ m)).size = s.length + 1 + m.length := by rw [bs_size]; simp; omega
  have hlen : (s ++ [10] ++ m).length = s.length + 1 + m.length := by simp; omega
  by_cases hA : 65536 < s.length + 1 + m.length
  · have hAi : (65536 : Int) < ((s.length + 1 + m.length : Nat) : Int) := by omega
    clear hA hlen
    generalize s.length + 1 + m.length = N at *
    generalize bs (s ++ [10] ++ m) = S3 at *
    generalize bs (s ++ [10]) = S2 at *
    generalize bs s = S0 at *
    generalize bs m = M0 at *
    go_enter Tryz.func3, Tryz.ntmps3
    go_wp2_with (go_at_call 5; refine Calls.mono c0 ?_; rintro e w1 ⟨rfl, hB⟩)
    go_ret
    exact ⟨rfl, hB⟩
  · have hAi : ¬ ((65536 : Int) < ((s.length + 1 + m.length : Nat) : Int)) := by omega
    have cT := fun (W : World) => ref_TextLines W (s ++ [10] ++ m) (by omega)
    by_cases hL : 200 < (tlns (s ++ [10] ++ m)).length
    · have hLi : (200 : Int) < ((tlns (s ++ [10] ++ m)).length : Int) := by omega
      clear hlen hA hL
      generalize tlns (s ++ [10] ++ m) = L at *
      generalize s.length + 1 + m.length = N at *
      generalize bs (s ++ [10] ++ m) = S3 at *
      generalize bs (s ++ [10]) = S2 at *
      generalize bs s = S0 at *
      generalize bs m = M0 at *
      go_enter Tryz.func3, Tryz.ntmps3
      go_wp2_with (first
        | (go_at_call 5; refine Calls.mono c0 ?_; rintro e w1 ⟨rfl, hB1⟩; clear c0)
        | (go_at_call 6; refine Calls.mono (cT _) ?_; rintro e w2 ⟨u, rfl, hI, hB2⟩; obtain ⟨a, cap, e3⟩ := hI.len; subst e3; have hB := hB1.trans (hB2.mono hB1.size); clear cT))
      go_ret
      exact ⟨rfl, hB⟩
    · have hLi : ¬ ((200 : Int) < ((tlns (s ++ [10] ++ m)).length : Int)) := by omega
      have hd := dskV_head s m (by rw [hlen]; exact fun q => q.elim hA hL)
      have cR1 := fun (W : World) (hb : Below w.heap.size w W) => desk_Run W (s ++ [10] ++ m) (ht.below hb)
      have cR2 := fun (W : World) (hb : Below w.heap.size w W) => desk_Run W s (ht.below hb)
      have cH := fun (W : World) => has_prefix W (dskV s) (((tlns m).map ansL).flatten)
      rw [hd] at cR1
      clear hlen hA hL hd
      generalize tlns (s ++ [10] ++ m) = L at *
      generalize s.length + 1 + m.length = N at *
      generalize bs (s ++ [10] ++ m) = S3 at *
      generalize bs (s ++ [10]) = S2 at *
      generalize bs (dskV s ++ ((tlns m).map ansL).flatten) = R1 at *
      generalize bs (dskV s) = R2 at *
      generalize bs s = S0 at *
      generalize bs m = M0 at *
      go_enter Tryz.func3, Tryz.ntmps3
      go_wp2_with (first
        | (go_at_call 5; have _t := c0; refine Calls.mono c0 ?_; rintro e w1 ⟨rfl, hB1⟩; clear c0)
        | (go_at_call 6; refine Calls.mono (cT _) ?_; rintro e w2 ⟨u, rfl, hI, hB2⟩; obtain ⟨a, cap, e3⟩ := hI.len; subst e3; replace hB1 := hB1.trans (hB2.mono hB1.size); clear cT hB2)
        | (go_at_call 5; have _t := cR1; refine Calls.mono (cR1 _ hB1) ?_; rintro e w3 ⟨rfl, hB3⟩; replace hB1 := hB1.trans (hB3.mono hB1.size); clear cR1 hB3)
        | (go_at_call 5; refine Calls.mono (cR2 _ hB1) ?_; rintro e w4 ⟨rfl, hB4⟩; replace hB1 := hB1.trans (hB4.mono hB1.size); clear cR2 hB4)
        | (go_at_call 7; refine Calls.mono (cH _) ?_; rintro e w' ⟨rfl, hw⟩; rw [hw]; clear hw))
      go_ret
      exact ⟨rfl, hB1⟩
theorem deskHead_walk (s t : ByteArray) (_w0 : s.size ≤ maxLen) (_w1 : t.size ≤ maxLen) (w : World) (hTb : Tab w) (z0 : s.size ≤ 140737488355328) (z1 : t.size ≤ 140737488355328) :
    Calls Tryz.prog 3 #[.string s, .string t] w fun e w' => e = .returned (.bool true) ∧ Below w.heap.size w w' := by
  rw [bs_toList s, bs_toList t]
  exact deskHead_nat w _ _ z0 z1 hTb

end Go.Proofs.YtmggccepmicjhagGreatDoor

/-! Whatever texts are handed in, what follows is not seen in what was answered; the tables of packages math/bits, unicode/utf8 and strconv and the two errors of package strconv read as the program's text lays them. -/
namespace Go.Proofs.YtmggccepmicjhagGreatDoor.deskHead
open Go.ChangeShapes Go.WideShapes Go.ChangeAt Go.RowKit
open Go.ChangeMaps (open_string shut_string)
set_option linter.unusedVariables false

theorem own : ownKnob Tryz.prog.godebug = none := by kernel_rfl
set_option maxRecDepth 100000 in
theorem contract (H : Type) (enc : TypeId × Value → H) (W : World) (base : Nat) (args : Array Value) (ds gs : List (DataW H)) (before : List MemPlace)
    (hval0 : ∀ (j : Nat) t v, Tryz.f3.params[j]? = some t → args[j]? = some v → Value.okWide Tryz.prog W .any base t v)
    (hW : DataW.Whole enc Tryz.prog Tryz.f3.params.toList Rows.deskHeadSpec.vars false W args.toList ds gs before) (hsz : (DataW.weightsEach Tryz.prog (Tryz.f3.params.toList ++ Rows.deskHeadSpec.plain.varTypes Tryz.prog) (ds ++ gs)).all (· ≤ reachBytes) = true) (hL : laidMetH Tryz.prog laids W) (hsh : W.ShapedOpen Tryz.prog) :
    Calls Tryz.prog 3 args W fun e W' => ∃ v, e = .returned v ∧ Rows.deskHeadSpec.post enc Tryz.prog Tryz.f3 false true false false W args v W' := by
  have hval : ∀ (j : Nat) t v, Tryz.f3.params[j]? = some t → args[j]? = some v → Value.okWide Tryz.prog W .any base t v := hval0
  have hW' := hW
  obtain ⟨p, q, hA0, hV, rfl, hfz, hnd⟩ := hW
  have hA : DataW.TrodAll enc Tryz.prog W 0 (fun _ => true) true Tryz.f3.params.toList args.toList ds p := hA0
  rw [Tryz.params3] at hA hval hsz
  obtain ⟨v0, vs0, d0, ds0, p0, q0, hargs, rfl, rfl, h0, r0⟩ := trodAll_cons hA
  obtain ⟨v1, vs1, d1, ds1, p1, q1, rfl, rfl, rfl, h1, r1⟩ := trodAll_cons r0
  obtain ⟨rfl, rfl, rfl⟩ := trodAll_nil r1
  obtain rfl : args = #[v0, v1] := by cases args; simp_all
  obtain ⟨rfl, rfl⟩ := trodVars_none hV
  obtain ⟨a0, rfl, rfl, rfl, w0⟩ := open_string Tryz.underlying9 (hval 0 9 v0 rfl rfl) h0
  obtain ⟨a1, rfl, rfl, rfl, w1⟩ := open_string Tryz.underlying9 (hval 1 9 v1 rfl rfl) h1
  have s0 : a0.size ≤ 140737488355328 := by
    have hs := sized_string hsz (j := 0) (t := 9) rfl rfl
    have hr := reachBytes_lt
    rw [← Lib.size_eq] at hs
    omega
  have s1 : a1.size ≤ 140737488355328 := by
    have hs := sized_string hsz (j := 1) (t := 9) rfl rfl
    have hr := reachBytes_lt
    rw [← Lib.size_eq] at hs
    omega
  clear hA0 hval0
  simp only [List.append_nil] at hW'
  refine (deskHead_walk a0 a1 w0 w1 W (tab_of_laid hL hsh) s0 s1).mono fun e W' ⟨he, bel⟩ => ?_
  subst he
  exact ⟨_, rfl, _, _, _, [], _, [], hW', trodAll_mk1 (shut_bool Tryz.underlying4 _), (trodAll_cons_mk (shut_string Tryz.underlying9 w0) (trodAll_cons_mk (shut_string Tryz.underlying9 w1) trodAll_mk0)), rfl, bel.frame _, fun h => by cases h⟩

theorem reads (os : Os) {H : Type} (enc : TypeId × Value → H) : ∃ places, DataW.whole enc Tryz.prog ((World.laidAll Tryz.prog os laids).forCall (fun _ _ => 0) ⟨#[], #[.string ByteArray.empty, .string ByteArray.empty], []⟩).memory Tryz.f3.params.toList Rows.deskHeadSpec.vars false (#[.string ByteArray.empty, .string ByteArray.empty] : Array Value).toList 8 = some ([.lit (.string []), .lit (.string [])], [], places) :=
  ⟨[], by kernel_rfl⟩
set_option maxRecDepth 100000 in
theorem lifted (os : Os) (started : os.Started) (H : Type) (enc : TypeId × Value → H) (F : Stop.Interp) :
    ReturnsInHanded {} Tryz.checked os 3 .any ((OpenSpec.ofChange Rows.deskHeadSpec).preRow enc Tryz.prog Tryz.f3 Rows.deskHeadRow.domain false Rows.deskHeadRow.laid) (((OpenSpec.ofChange Rows.deskHeadSpec).at F).post enc Tryz.prog Tryz.f3 false true false false) := by
  obtain ⟨places, hx⟩ := reads os enc
  refine returnsInHanded_of_row (C := Tryz.checked) (s := (OpenSpec.ofChange Rows.deskHeadSpec)) own started (by kernel_rfl) Tryz.func3
    (witness_row_at (enc := enc) (C := Tryz.checked) false (World.laidAll Tryz.prog os laids) #[.string ByteArray.empty, .string ByteArray.empty] (World.laidAll_os _ _ _) (by kernel_rfl) (by kernel_rfl) (by kernel_rfl)
      (OpenSpec.preRow_of_cond 8 hx (by kernel_rfl) (fun k hk => by cases hk) (by kernel_rfl) (laid_met os _))) ?_
  intro W base args ds gs before hval hW _ _ hsz hL hsh _
  exact contract H enc W base args ds gs before hval hW hsz hL hsh
theorem said : Rows.DeskHeadSaid :=
  OpenClaim.holds_of_cond 3 Tryz.f3 rfl rfl rfl rfl rfl rfl rfl ⟨rfl, rfl, rfl, rfl, rfl⟩ rfl rfl rfl rfl rfl (by kernel_rfl) Tryz.func3 (by kernel_rfl)
    (of_decide_eq_true (by kernel_rfl)) (by unfold Func.isWrapper; first | (rw [if_pos (by decide +kernel)]; kernel_rfl) | (rw [if_neg (by decide +kernel)]; exact ⟨rfl, rfl⟩))
    (fun os started H enc _ F => by rw [OpenClaim.pre_eq_preRow]; exact lifted os started H enc F)
theorem plain (f : FuncId) (fn : Func) (hf : Tryz.pinned.checked.prog.funcNamed "goldmill/goldkeep.DeskHead" = some f) (hfn : Tryz.pinned.checked.prog.funcs[f]? = some fn) :
    true = Tryz.pinned.checked.prog.looks [] ∧ ∀ (j : Nat) t, fn.params[j]? = some t → Tryz.pinned.checked.prog.wantsStandIn t = false := by
  obtain rfl : f = 3 := Option.some.inj ((show Tryz.prog.funcNamed "goldmill/goldkeep.DeskHead" = some 3 by kernel_rfl).symm.trans hf) |>.symm
  obtain rfl : fn = Tryz.f3 := (Option.some.inj (Tryz.func3.symm.trans hfn)).symm
  refine ⟨by kernel_rfl, fun j t ht => ?_⟩
  rw [Tryz.params3] at ht
  have hm : t ∈ [9, 9] := by simpa using Array.mem_of_getElem? ht
  have hall : ([9, 9].all fun u => !Tryz.prog.wantsStandIn u) = true := by kernel_rfl
  exact (show Tryz.prog.wantsStandIn t = false by simpa using List.all_eq_true.1 hall t hm)
end Go.Proofs.YtmggccepmicjhagGreatDoor.deskHead
namespace Go.Proofs.YtmggccepmicjhagGreatDoor
open Go
/-- The statement. -/
theorem deskHead_holds : Rows.DeskHeadCardSaid :=
  Claim7.holds_tied_plain_at .later [] _ _ _ _ deskHead.said (fun _ h => by cases h) (by kernel_rfl) (fun _ h => by cases h) deskHead_row_tie rfl ⟨rfl, rfl⟩ (by kernel_rfl) rfl deskHead.plain (by kernel_rfl)
#print axioms deskHead_holds
end Go.Proofs.YtmggccepmicjhagGreatDoor
