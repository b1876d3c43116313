/-
  Texts that stood one behind the other, as one.
-/
import Derived.Test.YtckoipoejaafhaaDoorCrewMAll
import Derived.Test.YtckoipoejaafhaaDoorManyGAll
import Derived.Test.YtckoipoejaafhaaDoorNttOAll
import Derived.Test.YtckoipoejaafhaaDoorCeTAll
import Derived.BigQuiet
import Derived.Deep.RegionWith
import Derived.Deep.Cut
import Derived.Test.YtckoipoejaafhaaDoorCcWtAll
import Derived.OrdersHeld
import Derived.Lib.SliceRun
import Derived.Test.YtckoipoejaafhaaDoorSlAll
import Derived.Deep.AppendLies
import Derived.Deep.Upon
import Derived.Deep.RegionLaw
import Derived.Test.YtckoipoejaafhaaDoorPlanCAll
import Derived.Test.YtckoipoejaafhaaDoorExKAll
import Derived.Test.YtckoipoejaafhaaDoorManyCAll
import Derived.Test.YtckoipoejaafhaaDoorPlanD
import Derived.Conc.LeavingOf
import Derived.Test.YtckoipoejaafhaaDoorFieldAll
import Derived.Test.YtckoipoejaafhaaDoorPure
import Derived.Test.YtckoipoejaafhaaDoorCeBAll
namespace Go.Proofs.YtckoipoejaafhaaDoor
open Go.RowKit
set_option maxRecDepth 100000
def Held (R : Nat → Prop) (w : World) (S : World → Prop) : Prop := ∀ w' : World, (∀ k, R k → w'.heap[k]? = w.heap[k]?) → S w'
def pvs (pv : Nat → Value) (n : Nat) : List Value := (List.range n).map pv
def ptrs (q : Nat → Nat) (W : Nat) : List Value := (List.range W).map fun i => .pointer (some ⟨q i, 0, none⟩)
structure Fx where
  g : Nat
  gd : Nat
  gl : Nat
  R : Nat → Prop
  q : Nat → Nat
  vs : Value
  pv : Nat → Value
  zs : List Int
  ds : List Nat
  L : List (List (List Int))
  W : Nat
  back : Bool
def runF (r : Fx) (ga : Nat) (vd : Value) (ph : Nat) : List Value :=
  [r.vs, .slice (some ⟨ga, 0, none⟩) (prd2 r.ds) (prd2 r.ds), .slice (some ⟨r.gl, 0, none⟩) r.L.length r.L.length, .int .i64 (ph : Int), .slice (some ⟨r.gd, 0, none⟩) r.W r.W, vd, .bool r.back]
structure Rn (r : Fx) (w : World) (ga : Nat) (vd : Value) (c : Crw) : Prop where
  blk : RowV 133 w r.g (runF r ga vd c.phase)
  ro : Held r.R w (fun w => IsZ w r.vs r.zs ∧ RowV 69 w r.gl (pvs r.pv r.L.length) ∧ (∀ i, i < r.L.length → IsR 3 w (r.pv i) (r.L.getD i [])) ∧ RowV 171 w r.gd (ptrs r.q r.W))
  ron : ∀ k, r.R k → k < w.heap.size
  arr : RowU w ga c.A
  lt : ∀ x ∈ c.A, x < P
  al : c.A.length = prd2 r.ds
  hc : c.hands.length = r.W
  dq : ∀ i, i < r.W → Dq w (.pointer (some ⟨r.q i, 0, none⟩)) 64 (c.hands.getD i []) (fun k => k = r.q i)
  t3 : ∀ i, T3 (c.hands.getD i [])
  did : w.ownsRow 0 71 3 vd c.did.length (tc c.did)
  d3 : T3 c.did
  gR : ¬ r.R r.g
  gga : r.g ≠ ga
  qo : ∀ i, i < r.W → ¬ r.R (r.q i) ∧ r.q i ≠ r.g ∧ r.q i ≠ ga ∧ vd.ownBlock ≠ some (r.q i)
  qq : ∀ i j, i < r.W → j < r.W → i ≠ j → r.q i ≠ r.q j
  vdo : ∀ b, vd.ownBlock = some b → b ≠ r.g ∧ ¬ r.R b ∧ b ≠ ga
section
variable {r : Fx} {w w' : World} {ga : Nat} {vd : Value} {c : Crw}
end
section
variable {r : Fx} {w : World} {ga : Nat} {vd : Value} {c : Crw}
end
end Go.Proofs.YtckoipoejaafhaaDoor

namespace Go.Proofs.YtckoipoejaafhaaDoor
open Go.RowKit
set_option maxRecDepth 100000
open List (getElem_toArray getElem_cons_succ getElem_cons_zero setIfInBounds_toArray set_cons_zero set_cons_succ)
section
variable {r : Fx} {w : World} {ga : Nat} {vd : Value} {c : Crw}
end
end Go.Proofs.YtckoipoejaafhaaDoor

namespace Go.Proofs.YtckoipoejaafhaaDoor
open Go.RowKit
set_option maxRecDepth 100000
section
variable {P : Program} {ops : Array Oper} {Q : Exit → Act → World → Prop} {md : Region.Mode} {S : World → Prop}
end
section
variable {r : Fx} {w : World} {ga : Nat} {vd : Value} {c : Crw}
end
section
variable {r : Fx} {w : World} {ga : Nat} {vd : Value} {c : Crw}
end
section
variable {r : Fx} {w : World} {ga : Nat} {vd : Value} {c : Crw}
end
structure Stc (ds : List Nat) (L : List (List (List Int))) (xs : List Nat) (W : Nat) : Prop where
  n : prd2 ds ≤ 1024
  F : Fine ds L
  T9 : ∀ i, (L.getD i []).length ≤ 64
  W1 : 1 ≤ W
  W8 : W ≤ 8
  l : xs.length = prd2 ds
  d1 : 1 ≤ ds.length
  d3 : ds.length ≤ 3
  lt : ∀ x ∈ xs, x < P
section
variable {w w' : World} {p : Value} {ds : List Nat} {L : List (List (List Int))} {xs : List Nat} {W : Nat} {back : Bool} {c : Crw} {O : Nat → Prop}
end
structure Cl (B : Nat) (w : World) (G n : Nat) (pv : Nat → Value) (L : List (List (List Int))) (k : Nat) : Prop where
  row : RowV 69 w G (pvs (fun i => if i < k then pv i else .slice none 0 0) n)
  own : ∀ i, i < k → IsR 3 w (pv i) (L.getD i []) ∧ ∃ b, (pv i).ownBlock = some b ∧ B ≤ b ∧ b ≠ G ∧ b < w.heap.size
def pt (q : Nat → Nat) (i : Nat) : Value := .pointer (some ⟨q i, 0, none⟩)
structure Mk (B : Nat) (w : World) (G n : Nat) (q : Nat → Nat) (k : Nat) : Prop where
  row : RowV 171 w G (pvs (fun i => if i < k then pt q i else .pointer none) n)
  own : ∀ i, i < k → Dq w (.pointer (some ⟨q i, 0, none⟩)) 64 [] (fun b => b = q i) ∧ B ≤ q i ∧ q i ≠ G
  inj : ∀ i j, i < k → j < k → i ≠ j → q i ≠ q j
theorem Good_one {zs : List Int} {ds ds' : List Nat} (h : Good zs ds) (h' : Good zs ds') : ds' = ds := by
  have e1 := h.2.2.1
  rw [h'.2.2.1] at e1
  have hinj : ∀ (a b : List Nat), a.map (fun (d : Nat) => (d : Int)) = b.map (fun (d : Nat) => (d : Int)) → a = b := by
    intro a
    induction a with
    | nil => intro b hb; cases b with
      | nil => rfl
      | cons _ _ => simp at hb
    | cons x a ih => intro b hb; cases b with
      | nil => simp at hb
      | cons y b =>
        simp only [List.map_cons, List.cons.injEq] at hb
        have : x = y := by omega
        rw [this, ih b hb.2]
  exact hinj _ _ e1
theorem szd_rangeN {xs : List Nat} {n : Nat} (h : ∀ x ∈ xs, (x : Int) < 18446744073709551616) : ∀ x ∈ szd xs n, (x : Int) < 18446744073709551616 := by
  intro x hx
  rcases List.mem_append.mp hx with h1 | h1
  · exact h x (List.mem_of_mem_take h1)
  · have := List.eq_of_mem_replicate h1
    subst this; decide
theorem top_shaped_no (w : World) (v v' : Value) (zs : List Int) (h : IsZ w v zs) (hno : ∀ ds, Good zs ds → 64 < prd2 ds) :
    Calls Tryd.prog 16 #[v, v'] w fun e w' => e = .returned (.tuple #[.slice none 0 0, .bool false]) ∧ w' = w := by
  have c := ref_Shape w v zs h
  obtain ⟨n, er, hne, c'⟩ : ∃ (n : Nat) (er : Int), (er ≠ 0 ∨ 64 < n) ∧ n ≤ 1024 ∧ Calls Tryd.prog 9 #[v] w fun e w' => e = .returned (.tuple #[.int .i64 (n : Int), .int .i64 er]) ∧ w' = w := by
    by_cases hG : ∃ ds, Good zs ds
    · obtain ⟨ds, hG⟩ := hG
      rcases Nat.lt_or_ge 1024 (prd2 ds) with hn | hn
      · refine ⟨0, 2, .inl (by decide), by omega, c.mono ?_⟩
        rintro e w' ⟨rfl, ⟨ds', hG', hb, _⟩ | ⟨ds', hG', _, rfl⟩ | ⟨hno', _⟩⟩
        · rw [Good_one hG hG'] at hb; omega
        · exact ⟨rfl, rfl⟩
        · exact absurd hG (hno' ds)
      · refine ⟨prd2 ds, 0, .inr (hno ds hG), hn, c.mono ?_⟩
        rintro e w' ⟨rfl, ⟨ds', hG', _, rfl⟩ | ⟨ds', hG', hb, _⟩ | ⟨hno', _⟩⟩
        · rw [Good_one hG hG']; exact ⟨rfl, rfl⟩
        · rw [Good_one hG hG'] at hb; omega
        · exact absurd hG (hno' ds)
    · refine ⟨0, 1, .inl (by decide), by omega, c.mono ?_⟩
      rintro e w' ⟨rfl, ⟨ds', hG', _⟩ | ⟨ds', hG', _⟩ | ⟨_, rfl⟩⟩
      · exact absurd ⟨ds', hG'⟩ hG
      · exact absurd ⟨ds', hG'⟩ hG
      · exact ⟨rfl, rfl⟩
  obtain ⟨hn9, c'⟩ := c'
  clear c h hno
  rcases hne with he | hn
  · have hq : (er != 0) = true := by rw [bne_iff_ne]; exact he
    go_enter Tryd.func16, Tryd.ntmps16
    go_wp2_with (go_at_call 9; refine Calls.mono c' ?_; rintro e w' ⟨rfl, hw⟩; rw [hw]; clear hw)
    go_ret2
    exact ⟨rfl, rfl⟩
  · by_cases he : er = 0
    · subst he
      have hd : decide ((64 : Int) < (n : Int)) = true := decide_eq_true (by omega)
      go_enter Tryd.func16, Tryd.ntmps16
      go_wp2_with (go_at_call 9; refine Calls.mono c' ?_; rintro e w' ⟨rfl, hw⟩; rw [hw]; clear hw)
      go_ret2
      exact ⟨rfl, rfl⟩
    · have hq : (er != 0) = true := by rw [bne_iff_ne]; exact he
      go_enter Tryd.func16, Tryd.ntmps16
      go_wp2_with (go_at_call 9; refine Calls.mono c' ?_; rintro e w' ⟨rfl, hw⟩; rw [hw]; clear hw)
      go_ret2
      exact ⟨rfl, rfl⟩
set_option maxHeartbeats 1000000 in
theorem top_shaped_ok (w : World) (v v' : Value) (zs : List Int) (ds xs : List Nat) (h : IsZ w v zs) (h' : IsU w v' xs) (hG : Good zs ds) (hn : prd2 ds ≤ 64) :
    Calls Tryd.prog 16 #[v, v'] w fun e w' => ∃ g, e = .returned (.tuple #[.slice (some ⟨g, 0, none⟩) (prd2 ds) (prd2 ds), .bool true]) ∧ IsU w' (.slice (some ⟨g, 0, none⟩) (prd2 ds) (prd2 ds)) (szd xs (prd2 ds)) ∧ Below w.heap.size w w' := by
  have c' : Calls Tryd.prog 9 #[v] w fun e w' => e = .returned (.tuple #[.int .i64 ((prd2 ds : Nat) : Int), .int .i64 0]) ∧ w' = w := by
    refine (ref_Shape w v zs h).mono ?_
    rintro e w' ⟨rfl, ⟨ds', hG', _, rfl⟩ | ⟨ds', hG', hb, _⟩ | ⟨hno', _⟩⟩
    · rw [Good_one hG hG']; exact ⟨rfl, rfl⟩
    · rw [Good_one hG hG'] at hb; omega
    · exact absurd hG (hno' ds)
  clear h hG
  generalize prd2 ds = n at *
  have hn9 : n ≤ 1000000000 := by omega
  have hW := Below.refl w.heap.size w
  go_enter Tryd.func16, Tryd.ntmps16
  go_wp2_with (first
    | (go_at_call 9; refine Calls.mono c' ?_; rintro e w' ⟨rfl, hw⟩; rw [hw]; clear hw)
    | (at_make; refine wp_make rfl _ _ rfl n rfl rfl hn9 hW ?_; intro w1 hown hb1)
    | (refine wp_copy rfl _ _ rfl _ n _ xs rfl rfl (h'.below hb1) hown hb1 ?_; intro w2 z hown2 hb2; clear hown))
  go_ret2
  exact ⟨_, rfl, IsU.of_owns hown2 (szd_rangeN h'.range), hb2⟩
theorem plan_Make_any (w : World) (v : Value) (zs : List Int) (c : Int) (h : IsZ w v zs) (hc : -9223372036854775808 ≤ c ∧ c ≤ 9223372036854775807) :
    Calls Tryd.prog 17 #[v, .int .i64 c] w fun e w' => ∃ u er, e = .returned (.tuple #[u, .int .i64 er]) ∧ Below w.heap.size w w' := by
  by_cases hG : ∃ ds, Good zs ds
  · obtain ⟨ds, hG⟩ := hG
    rcases Nat.lt_or_ge 1024 (prd2 ds) with hn | hn
    · refine (plan_Make_large w v zs ds c h hG hn).mono ?_
      rintro e w' ⟨u, rfl, -, hb⟩
      exact ⟨u, _, rfl, hb⟩
    · by_cases h1 : c < 1
      · refine (plan_Make_cut w v zs ds c h hG hn h1).mono ?_
        rintro e w' ⟨u, rfl, -, hb⟩
        exact ⟨u, _, rfl, hb⟩
      · obtain ⟨m, rfl⟩ := Int.eq_ofNat_of_zero_le (show 0 ≤ c by omega)
        by_cases hF : Few ds m ds.length
        · refine (plan_Make_ok w v zs ds m h hG hn (by omega) (by omega) hF).mono ?_
          rintro e w' ⟨u, rfl, -, hb⟩
          exact ⟨u, _, rfl, hb⟩
        · refine (plan_Make_many w v zs ds m h hG hn (by omega) (by omega) hF).mono ?_
          rintro e w' ⟨u, rfl, -, hb⟩
          exact ⟨u, _, rfl, hb⟩
  · refine (plan_Make_bad w v zs c h fun ds q => hG ⟨ds, q⟩).mono ?_
    rintro e w' ⟨u, rfl, -, hb⟩
    exact ⟨u, _, rfl, hb⟩
theorem plan_Make_tot (w : World) (v : Value) (zs : List Int) (c : Int) (h : IsZ w v zs) (hc : -9223372036854775808 ≤ c ∧ c ≤ 9223372036854775807) :
    Calls Tryd.prog 17 #[v, .int .i64 c] w fun e w' => ∃ u er, e = .returned (.tuple #[u, .int .i64 er]) ∧ (er = 0 → ∀ ds, Good zs ds → prd2 ds ≤ 64 → ∃ m : Nat, c = (m : Int) ∧ 1 ≤ m ∧ IsP 3 w' u (pls ds m ds.length)) ∧ Below w.heap.size w w' := by
  by_cases hG : ∃ ds, Good zs ds ∧ prd2 ds ≤ 64
  · obtain ⟨ds, hG, hn⟩ := hG
    by_cases h1 : c < 1
    · refine (plan_Make_cut w v zs ds c h hG (by omega) h1).mono ?_
      rintro e w' ⟨u, rfl, -, hb⟩
      exact ⟨u, _, rfl, fun q => absurd q (by decide), hb⟩
    · obtain ⟨m, rfl⟩ := Int.eq_ofNat_of_zero_le (show 0 ≤ c by omega)
      refine (plan_Make_ok w v zs ds m h hG (by omega) (by omega) (by omega) (few_small hG.2.2.2 hn m)).mono ?_
      rintro e w' ⟨u, rfl, hP, hb⟩
      refine ⟨u, _, rfl, fun _ ds' hG' _ => ⟨m, rfl, by omega, ?_⟩, hb⟩
      rw [Good_one hG hG']
      exact hP
  · refine (plan_Make_any w v zs c h hc).mono ?_
    rintro e w' ⟨u, er, rfl, hb⟩
    exact ⟨u, er, rfl, fun _ ds' hG' hn' => absurd ⟨ds', hG', hn'⟩ hG, hb⟩
theorem top_shaped_any (w : World) (v vx : Value) (zs : List Int) (xs : List Nat) (hZ : IsZ w v zs) (hX : IsU w vx xs) :
    Calls Tryd.prog 16 #[v, vx] w fun e w' => ∃ a ok, e = .returned (.tuple #[a, .bool ok]) ∧ (ok = true → ∃ ds g, Good zs ds ∧ prd2 ds ≤ 64 ∧ a = .slice (some ⟨g, 0, none⟩) (prd2 ds) (prd2 ds) ∧ IsU w' a (szd xs (prd2 ds))) ∧ Below w.heap.size w w' := by
  by_cases hG : ∃ ds, Good zs ds ∧ prd2 ds ≤ 64
  · obtain ⟨ds, hG, hn⟩ := hG
    refine (top_shaped_ok w v vx zs ds xs hZ hX hG hn).mono ?_
    rintro e w' ⟨g, rfl, hU, hb⟩
    exact ⟨_, true, rfl, fun _ => ⟨ds, g, hG, hn, rfl, hU⟩, hb⟩
  · refine (top_shaped_no w v vx zs hZ fun ds h => ?_).mono ?_
    · rcases Nat.lt_or_ge 64 (prd2 ds) with h1 | h1
      · exact h1
      · exact absurd ⟨ds, h, h1⟩ hG
    · rintro e w' ⟨rfl, rfl⟩
      exact ⟨_, false, rfl, fun q => absurd q (by decide), Below.refl _ _⟩
theorem rest8 (wk : Int) : ∃ m : Nat, m < 8 ∧ ∀ W, Calls Tryd.prog 18 #[.int .i64 wk, .int .i64 8] W fun e w' => e = .returned (.int .i64 (m : Int)) ∧ w' = W := by
  have b1 := Int.emod_lt_of_pos wk (show (0 : Int) < 8 by omega)
  have b2 := Int.emod_nonneg wk (show (8 : Int) ≠ 0 by omega)
  obtain ⟨m, hm⟩ : ∃ m : Nat, wk % 8 = (m : Int) := ⟨(wk % 8).toNat, by omega⟩
  have cRe := ref_Rest wk 8 (by omega) (by omega)
  rw [hm] at cRe b1
  exact ⟨m, by omega, cRe⟩
end Go.Proofs.YtckoipoejaafhaaDoor

namespace Go.Proofs.YtckoipoejaafhaaDoor.Cc
open Go Go.Conc Go.RowKit
theorem leaving_of_runs {H : Type} {enc : TypeId × Value → H} {a : Assume} {C : Checked} {os : Os} {f : FuncId} {fn : Func} {s : ChangeSpec} {conds : List PathCond} {apart fresh handsOn again : Bool} {X : World → Array Value → Prop}
    (hX : ∀ (w w' : World) (args : Array Value), w.heap = w'.heap → X w args → X w' args)
    (own : ownKnob C.prog.godebug = none) (started : os.Started) (hfn : C.prog.funcs[f]? = some fn)
    (witness : ∃ (w : World) (tape : Tape) (i : Input), w.os = os ∧ (w.forCall tape i).Shaped C.prog ∧ i.vars = [] ∧ Input.okWide C.prog (w.forCall tape i) .any w.heap.size f i ∧
      ((s.pre enc C.prog fn conds apart (w.forCall tape i).memory i.args ∧ X (w.forCall tape i).memory i.args) ∧ sizedMet enc C.prog fn (OpenSpec.ofChange s) apart (w.forCall tape i).memory i.args) ∧ a.holds C.prog (lone (Frame.enter C.prog f i.args .normal) [] (w.forCall tape i)))
    (runs : ∀ (W : World) (base : Nat) (args : Array Value) (ds gs : List (DataW H)) (before : List MemPlace),
      (∀ (j : Nat) t v, fn.params[j]? = some t → args[j]? = some v → Value.okWide C.prog W .any base t v) →
      DataW.Whole enc C.prog fn.params.toList s.vars apart W args.toList ds gs before →
      conds.all (PathCond.test C.prog ⟨fn.params.toList, ds, s.plain.varTypes C.prog, gs⟩) = true →
      (DataW.weightsEach C.prog (fn.params.toList ++ s.plain.varTypes C.prog) (ds ++ gs)).all (· ≤ reachBytes) = true → X W args → W.ShapedOpen C.prog →
      (∃ M last o w' t', runNT C.prog (M + 1) (solo (G (Frame.enter C.prog f args .normal) []) W) #[] = (.ended o w', t') ∧ runN C.prog M (solo (G (Frame.enter C.prog f args .normal) []) W) = .next last ∧
        step C.prog last = .ended o w' ∧ Conc.Good C.prog (fun v W' => v = .bool true ∧ Blw W W') last o w' t') ∧
      ∀ W', Below W.heap.size W W' → s.post enc C.prog fn apart fresh handsOn again W args (.bool true) W') :
    ReturnsInLeavingWide a C os f .any (fun w args => (s.pre enc C.prog fn conds apart w args ∧ X w args) ∧ sizedMet enc C.prog fn (OpenSpec.ofChange s) apart w args) (s.post enc C.prog fn apart fresh handsOn again) := by
  refine returnsInLeavingWide_of_good own started witness ?_
  intro w tape i _ hsh _ hok hpre _
  obtain ⟨_, _, _, fn', hfn', _, _, _, _, hval⟩ := hok
  have e : fn' = fn := Option.some.inj (hfn'.symm.trans hfn)
  subst e
  obtain ⟨⟨⟨ds, gs, before, hw, hc⟩, hx⟩, hz⟩ := hpre
  have hw' := DataW.Whole.of_heap (w' := w.forCall tape i) (by rfl) hw
  obtain ⟨⟨M, last, o, w', t', h1, h2, h3, h4⟩, hp⟩ := runs (w.forCall tape i) w.heap.size i.args ds gs before hval hw' hc (hz.weights hw) (hX _ _ _ (by rfl) hx) hsh
  exact ⟨M, last, o, w', t', h1, h2, h3, h4.mono fun v q => by
    obtain ⟨rfl, hb⟩ := q
    have q := ChangeSpec.post_blind (hp _ hb.below)
    exact q⟩
theorem rows_all : (List.range Tryd.prog.globals.size).all (fun g => (((begin Tryd.prog (fun _ _ => 0) default).world.heap[g]?).bind Obj.row?).isSome) = true := by kernel_rfl
theorem gl_of_shaped {W : World} (h : W.ShapedOpen Tryd.prog) : Gl Tryd.prog.globals.size W := fun g hg => by
  have h1 := List.all_eq_true.1 rows_all g (List.mem_range.2 hg)
  obtain ⟨⟨zero, t⟩, h2⟩ := Option.isSome_iff_exists.1 h1
  obtain ⟨cs, h3, -⟩ := h.1 g zero t hg h2
  exact ⟨cs, t, _, h3⟩
theorem gl_le {G : Nat} {W : World} (h : Gl G W) : G ≤ W.heap.size := by
  cases G with
  | zero => exact Nat.zero_le _
  | succ n =>
    obtain ⟨c, e, fr, h1⟩ := h n (Nat.lt_succ_self n)
    exact (Array.getElem?_eq_some_iff.1 h1).1
theorem tabs_lt : tabsL.all (fun g => decide (g < Tryd.prog.globals.size)) = true := by kernel_rfl
theorem tbs_of {W : World} (h : W.ShapedOpen Tryd.prog) (hT : Tab W) : Tbs W.heap.size W := by
  refine ⟨hT, fun g hg => ?_, Nat.le_refl _⟩
  have h1 : g < Tryd.prog.globals.size := by simpa using List.all_eq_true.1 tabs_lt g hg
  have h2 := gl_of_shaped h
  obtain ⟨c, e, fr, h3⟩ := h2 g h1
  exact ⟨Nat.lt_of_lt_of_le h1 (gl_le h2), c, e, fr, h3, trivial⟩
theorem readies_all : Tryd.prog.funcs.all (fun f => match f.body with | none => true | some c => (readies c).all (fun g => decide (g < Tryd.prog.globals.size))) = true := by kernel_rfl
theorem no_early : NoEarly Tryd.prog Tryd.prog.globals.size := by
  refine ⟨by kernel_rfl, fun g hg => ?_⟩
  unfold Program.stepOf
  rw [Array.findIdx?_eq_none_iff]
  intro f hf
  have h1 := Array.all_eq_true_iff_forall_mem.1 readies_all f hf
  cases hb : f.body with
  | none => rfl
  | some c =>
    rw [hb] at h1
    simp only [Option.map_some, Option.any_some]
    cases hc : (readies c).contains g with
    | false => rfl
    | true =>
      exfalso
      have h2 := of_decide_eq_true (List.all_eq_true.1 h1 g (List.contains_iff_mem.1 hc))
      omega
def GoodRun (P : Program) (f : FuncId) (args : Array Value) (W : World) : Prop :=
  ∃ M last o w' t', runNT P (M + 1) (solo (G (Frame.enter P f args .normal) []) W) #[] = (.ended o w', t') ∧ runN P M (solo (G (Frame.enter P f args .normal) []) W) = .next last ∧ step P last = .ended o w' ∧ Conc.Good P (fun v W' => v = .bool true ∧ Blw W W') last o w' t'
theorem good_run {f : FuncId} {args : Array Value} {W : World} (hsh : W.ShapedOpen Tryd.prog) (h : Leads Tryd.prog W.heap.size (G (Frame.enter Tryd.prog f args .normal) []) W (EndT Tryd.prog W W.heap.size)) : GoodRun Tryd.prog f args W :=
  leads_good ⟨_, gl_le (gl_of_shaped hsh), no_early, gl_of_shaped hsh⟩ h
end Go.Proofs.YtckoipoejaafhaaDoor.Cc

namespace Go.Proofs.YtckoipoejaafhaaDoor
open Go.RowKit
set_option maxRecDepth 100000
theorem rem_fN (a : Nat) : (a : Int) % 18446744069414584321 = ((fN a : Nat) : Int) := by
  rw [fN_eq]; unfold P; omega
theorem ref_Add (a b : Nat) (w : World) :
    Calls Tryd.prog 52 #[.int .u64 (a : Int), .int .u64 (b : Int)] w fun e w' => e = .returned (.int .u64 ((fA a b : Nat) : Int)) ∧ w' = w := by
  have ba := fN_lt a
  have bb := fN_lt b
  have ea := rem_fN a
  have eb := rem_fN b
  by_cases h : 18446744069414584321 - (fN b : Int) ≤ (fN a : Int)
  · rw [add_ge a b h]
    go_enter Tryd.func52, Tryd.ntmps52
    go_wp2
    go_ret
    exact ⟨rfl, rfl⟩
  · rw [add_lt a b (by omega)]
    have h' : (fN a : Int) + (fN b : Int) < 18446744069414584321 := by omega
    replace h := decide_eq_false h
    go_enter Tryd.func52, Tryd.ntmps52
    go_wp2
    go_ret
    exact ⟨rfl, rfl⟩
theorem half_step (y t : Nat) : y / 2 ^ t = 2 * (y / 2 ^ (t + 1)) + y / 2 ^ t % 2 := by
  rw [Nat.pow_succ, ← Nat.div_div_eq_div_mul]; omega
theorem mul_dbl (x y t : Nat) (h : y / 2 ^ t % 2 = 0) : fA (fM x (y / 2 ^ (t + 1))) (fM x (y / 2 ^ (t + 1))) = fM x (y / 2 ^ t) := by
  have e := half_step y t
  rw [h] at e
  rw [e, fA_eq, fM_eq, fM_eq, ← Nat.add_mod]
  congr 1
  grind
theorem mul_dbl1 (x y t : Nat) (h : y / 2 ^ t % 2 = 1) : fA (fA (fM x (y / 2 ^ (t + 1))) (fM x (y / 2 ^ (t + 1)))) x = fM x (y / 2 ^ t) := by
  have e := half_step y t
  rw [h] at e
  rw [e, fA_eq, fA_eq, fM_eq, fM_eq, ← Nat.add_mod, Nat.mod_add_mod]
  congr 1
  grind
theorem fM_fN (a b : Nat) : fM (fN a) (fN b) = fM a b := by
  rw [fM_eq, fM_eq, fN_eq, fN_eq, ← Nat.mul_mod]
theorem div_top (x y : Nat) (hy : (y : Int) < 18446744073709551616) : fM x (y / 2 ^ 64) = 0 := by
  have e : y / 2 ^ 64 = 0 := Nat.div_eq_of_lt (by omega)
  rw [e, fM_eq]; rfl
theorem bit_cast (y t : Nat) : ((y : Int) / 2 ^ t).tmod 2 = ((y / 2 ^ t % 2 : Nat) : Int) := by
  have e : (y : Int) / 2 ^ t = ((y / 2 ^ t : Nat) : Int) := by rw [Int.natCast_ediv, Int.natCast_pow]; rfl
  rw [e]
  generalize y / 2 ^ t = z
  rw [Int.tmod_eq_emod_of_nonneg (by omega)]; omega
set_option maxHeartbeats 1000000 in
theorem ref_Mul (a b : Nat) (w : World) :
    Calls Tryd.prog 53 #[.int .u64 (a : Int), .int .u64 (b : Int)] w fun e w' => e = .returned (.int .u64 ((fM a b : Nat) : Int)) ∧ w' = w := by
  have ea := rem_fN a
  have eb := rem_fN b
  have bx := fN_lt a
  have yb := fN_lt b
  have efin := fM_fN a b
  rw [← efin]
  clear efin
  generalize fN a = x at *
  generalize fN b = y at *
  go_enter Tryd.func53, Tryd.ntmps53
  go_wp2
  simp only [ea, eb]
  clear ea eb
  go_loop [5, 6] (fun vo vi => ∃ (j : Nat) (q : Int), vo = .int .u64 ((fM x (y / 2 ^ j) : Nat) : Int) ∧ vi = .int .i64 q ∧ q = (j : Int) - 1 ∧ j ≤ 64)
    (fun _ vi => (intOf vi + 1).toNat)
  case atStart => exact ⟨64, 63, by rw [div_top x y (by omega)]; rfl, rfl, rfl, by omega⟩
  case round =>
    obtain ⟨j, q, rfl, rfl, hq, hj⟩ := hrel
    have bo := fM_lt x (y / 2 ^ j)
    rcases j with _ | t
    · have e : q = -1 := by omega
      subst e
      clear hq hj bo
      rw [Nat.pow_zero, Nat.div_one]
      go_wp2
      go_ret
      exact ⟨rfl, rfl⟩
    · have e : q = (t : Int) := by omega
      subst e
      clear hq
      have b2 := fA_lt (fM x (y / 2 ^ (t + 1))) (fM x (y / 2 ^ (t + 1)))
      have hbit := bit_cast y t
      rcases Nat.mod_two_eq_zero_or_one (y / 2 ^ t) with h | h
      · rw [h, Int.natCast_zero] at hbit
        have hp := mul_dbl x y t h
        generalize fM x (y / 2 ^ (t + 1)) = o at *
        have hp2 : Hid (fA o o = fM x (y / 2 ^ t)) := hp
        clear hp h
        go_wp2_with (go_at_call 52; refine Calls.mono (ref_Add _ _ _) ?_; rintro e w' ⟨rfl, hw⟩; rw [hw]; clear hw)
        go_round
        case rel => exact ⟨t, (t : Int) - 1, by rw [← hp2.out], by go_num, rfl, by omega⟩
        case measure => simp only [intOf]; omega
      · rw [h, Int.natCast_one] at hbit
        have hp := mul_dbl1 x y t h
        generalize fM x (y / 2 ^ (t + 1)) = o at *
        have hp2 : Hid (fA (fA o o) x = fM x (y / 2 ^ t)) := hp
        clear hp h
        go_wp2_with (go_at_call 52; refine Calls.mono (ref_Add _ _ _) ?_; rintro e w' ⟨rfl, hw⟩; rw [hw]; clear hw)
        go_round
        case rel => exact ⟨t, (t : Int) - 1, by rw [← hp2.out], by go_num, rfl, by omega⟩
        case measure => simp only [intOf]; omega
theorem IsI.bar {w w' : World} {g gl l c : Nat} {xs : List Nat} (h : IsI w (.slice (some ⟨gl, 0, none⟩) l c) xs) (hlt : gl < w.heap.size) (hne : gl ≠ g) (hb : Bar g w w') : IsI w' (.slice (some ⟨gl, 0, none⟩) l c) xs := h.block (hb.block gl hlt hne)
theorem IsI.cellAt {w : World} {g l c : Nat} {xs : List Nat} (h : IsI w (.slice (some ⟨g, 0, none⟩) l c) xs) (i : Nat) (hi : i < xs.length) : w.cell? ⟨g, i, none⟩ = some (.int .i64 ((xs.getD i 0 : Nat) : Int)) := by
  obtain ⟨a, cap, e, _, _, hc⟩ := h
  simp only [Value.slice.injEq] at e
  obtain ⟨rfl, rfl, rfl⟩ := e
  obtain ⟨b, off, e2, hcell⟩ := hc i hi
  simp only [Option.some.injEq, Addr.mk.injEq, and_true] at e2
  obtain ⟨rfl, rfl⟩ := e2
  rw [Nat.zero_add] at hcell
  exact hcell
end Go.Proofs.YtckoipoejaafhaaDoor
