/-
  Texts that stood one behind the other, as one.
-/
import Derived.Test.YtckoipoejaafhabDoorCeTAll
import Derived.Test.YtckoipoejaafhabDoorCeTAll
import Derived.Test.YtckoipoejaafhabDoorPlanCAll
import Derived.Test.YtckoipoejaafhabDoorPlanDAll
import Derived.Test.YtckoipoejaafhabDoorNttOAll
import Derived.Test.YtckoipoejaafhabDoorSlAll
import Derived.Test.YtckoipoejaafhabDoorRowIAll
import Derived.Test.YtckoipoejaafhabDoorCcWtAll
import Derived.Conc.LeavingOf
import Derived.Test.YtckoipoejaafhabDoorPlanX
import Derived.Test.YtckoipoejaafhabDoorRows
import Derived.Maps.OwnOps
import Derived.Maps.OwnSet
namespace Go.Proofs.YtckoipoejaafhabDoor
open Go.RowKit
set_option maxRecDepth 100000
section
variable {r : Fx} {w : World} {ga : Nat} {vd : Value} {c : Crw}
end
section
variable {r : Fx} {w : World} {ga : Nat} {vd : Value} {c : Crw}
end
structure Stc (ds : List Nat) (L : List (List (List Int))) (xs : List Nat) (W : Nat) : Prop where
  n : prd2 ds ≤ 1024
  F : Fine ds L
  T9 : ∀ i, (L.getD i []).length ≤ 64
  W1 : 1 ≤ W
  W8 : W ≤ 8
  l : xs.length = prd2 ds
  d1 : 1 ≤ ds.length
  d3 : ds.length ≤ 3
  lt : ∀ x ∈ xs, x < P
section
variable {w w' : World} {p : Value} {ds : List Nat} {L : List (List (List Int))} {xs : List Nat} {W : Nat} {back : Bool} {c : Crw} {O : Nat → Prop}
end
structure Cl (B : Nat) (w : World) (G n : Nat) (pv : Nat → Value) (L : List (List (List Int))) (k : Nat) : Prop where
  row : RowV 37 w G (pvs (fun i => if i < k then pv i else .slice none 0 0) n)
  own : ∀ i, i < k → IsR 3 w (pv i) (L.getD i []) ∧ ∃ b, (pv i).ownBlock = some b ∧ B ≤ b ∧ b ≠ G ∧ b < w.heap.size
def pt (q : Nat → Nat) (i : Nat) : Value := .pointer (some ⟨q i, 0, none⟩)
theorem Good_one {zs : List Int} {ds ds' : List Nat} (h : Good zs ds) (h' : Good zs ds') : ds' = ds := by
  have e1 := h.2.2.1
  rw [h'.2.2.1] at e1
  have hinj : ∀ (a b : List Nat), a.map (fun (d : Nat) => (d : Int)) = b.map (fun (d : Nat) => (d : Int)) → a = b := by
    intro a
    induction a with
    | nil => intro b hb; cases b with
      | nil => rfl
      | cons _ _ => simp at hb
    | cons x a ih => intro b hb; cases b with
      | nil => simp at hb
      | cons y b =>
        simp only [List.map_cons, List.cons.injEq] at hb
        have : x = y := by omega
        rw [this, ih b hb.2]
  exact hinj _ _ e1
theorem szd_rangeN {xs : List Nat} {n : Nat} (h : ∀ x ∈ xs, (x : Int) < 18446744073709551616) : ∀ x ∈ szd xs n, (x : Int) < 18446744073709551616 := by
  intro x hx
  rcases List.mem_append.mp hx with h1 | h1
  · exact h x (List.mem_of_mem_take h1)
  · have := List.eq_of_mem_replicate h1
    subst this; decide
theorem phase_cells {w wr : World} {al : Option Addr} {nl cl : Nat} {L : List (List (List Int))} (h : IsP 3 w (.slice al nl cl) L) (hb : Below w.heap.size w wr) (x : Nat) (hx : x < L.length) : ∃ b off u n q, al = some ⟨b, off, none⟩ ∧ u = .slice q (L.getD x []).length n ∧ wr.cell? ⟨b, off + x, none⟩ = some u ∧ IsR 3 wr u (L.getD x []) := by
  obtain ⟨a', cap', e, -, -, hc⟩ := h.below hb
  simp only [Value.slice.injEq] at e
  obtain ⟨rfl, -, rfl⟩ := e
  obtain ⟨b, off, u, rfl, hcell, hR⟩ := hc x hx
  obtain ⟨q, n, rfl, -⟩ := id hR
  exact ⟨b, off, _, n, q, rfl, rfl, hcell, hR⟩
theorem top_shaped_no (w : World) (v v' : Value) (zs : List Int) (h : IsZ w v zs) (hno : ∀ ds, Good zs ds → 64 < prd2 ds) :
    Calls Tryd.prog 5 #[v, v'] w fun e w' => e = .returned (.tuple #[.slice none 0 0, .bool false]) ∧ w' = w := by
  have c := ref_Shape w v zs h
  obtain ⟨n, er, hne, c'⟩ : ∃ (n : Nat) (er : Int), (er ≠ 0 ∨ 64 < n) ∧ n ≤ 1024 ∧ Calls Tryd.prog 13 #[v] w fun e w' => e = .returned (.tuple #[.int .i64 (n : Int), .int .i64 er]) ∧ w' = w := by
    by_cases hG : ∃ ds, Good zs ds
    · obtain ⟨ds, hG⟩ := hG
      rcases Nat.lt_or_ge 1024 (prd2 ds) with hn | hn
      · refine ⟨0, 2, .inl (by decide), by omega, c.mono ?_⟩
        rintro e w' ⟨rfl, ⟨ds', hG', hb, _⟩ | ⟨ds', hG', _, rfl⟩ | ⟨hno', _⟩⟩
        · rw [Good_one hG hG'] at hb; omega
        · exact ⟨rfl, rfl⟩
        · exact absurd hG (hno' ds)
      · refine ⟨prd2 ds, 0, .inr (hno ds hG), hn, c.mono ?_⟩
        rintro e w' ⟨rfl, ⟨ds', hG', _, rfl⟩ | ⟨ds', hG', hb, _⟩ | ⟨hno', _⟩⟩
        · rw [Good_one hG hG']; exact ⟨rfl, rfl⟩
        · rw [Good_one hG hG'] at hb; omega
        · exact absurd hG (hno' ds)
    · refine ⟨0, 1, .inl (by decide), by omega, c.mono ?_⟩
      rintro e w' ⟨rfl, ⟨ds', hG', _⟩ | ⟨ds', hG', _⟩ | ⟨_, rfl⟩⟩
      · exact absurd ⟨ds', hG'⟩ hG
      · exact absurd ⟨ds', hG'⟩ hG
      · exact ⟨rfl, rfl⟩
  obtain ⟨hn9, c'⟩ := c'
  clear c h hno
  rcases hne with he | hn
  · have hq : (er != 0) = true := by rw [bne_iff_ne]; exact he
    go_enter Tryd.func5, Tryd.ntmps5
    go_wp2_with (go_at_call 13; refine Calls.mono c' ?_; rintro e w' ⟨rfl, hw⟩; rw [hw]; clear hw)
    go_ret2
    exact ⟨rfl, rfl⟩
  · by_cases he : er = 0
    · subst he
      have hd : decide ((64 : Int) < (n : Int)) = true := decide_eq_true (by omega)
      go_enter Tryd.func5, Tryd.ntmps5
      go_wp2_with (go_at_call 13; refine Calls.mono c' ?_; rintro e w' ⟨rfl, hw⟩; rw [hw]; clear hw)
      go_ret2
      exact ⟨rfl, rfl⟩
    · have hq : (er != 0) = true := by rw [bne_iff_ne]; exact he
      go_enter Tryd.func5, Tryd.ntmps5
      go_wp2_with (go_at_call 13; refine Calls.mono c' ?_; rintro e w' ⟨rfl, hw⟩; rw [hw]; clear hw)
      go_ret2
      exact ⟨rfl, rfl⟩
set_option maxHeartbeats 1000000 in
theorem top_shaped_ok (w : World) (v v' : Value) (zs : List Int) (ds xs : List Nat) (h : IsZ w v zs) (h' : IsU w v' xs) (hG : Good zs ds) (hn : prd2 ds ≤ 64) :
    Calls Tryd.prog 5 #[v, v'] w fun e w' => ∃ g, e = .returned (.tuple #[.slice (some ⟨g, 0, none⟩) (prd2 ds) (prd2 ds), .bool true]) ∧ IsU w' (.slice (some ⟨g, 0, none⟩) (prd2 ds) (prd2 ds)) (szd xs (prd2 ds)) ∧ Below w.heap.size w w' := by
  have c' : Calls Tryd.prog 13 #[v] w fun e w' => e = .returned (.tuple #[.int .i64 ((prd2 ds : Nat) : Int), .int .i64 0]) ∧ w' = w := by
    refine (ref_Shape w v zs h).mono ?_
    rintro e w' ⟨rfl, ⟨ds', hG', _, rfl⟩ | ⟨ds', hG', hb, _⟩ | ⟨hno', _⟩⟩
    · rw [Good_one hG hG']; exact ⟨rfl, rfl⟩
    · rw [Good_one hG hG'] at hb; omega
    · exact absurd hG (hno' ds)
  clear h hG
  generalize prd2 ds = n at *
  have hn9 : n ≤ 1000000000 := by omega
  have hW := Below.refl w.heap.size w
  go_enter Tryd.func5, Tryd.ntmps5
  go_wp2_with (first
    | (go_at_call 13; refine Calls.mono c' ?_; rintro e w' ⟨rfl, hw⟩; rw [hw]; clear hw)
    | (at_make; refine wp_make rfl _ _ rfl n rfl rfl hn9 hW ?_; intro w1 hown hb1)
    | (refine wp_copy rfl _ _ rfl _ n _ xs rfl rfl (h'.below hb1) hown hb1 ?_; intro w2 z hown2 hb2; clear hown))
  go_ret2
  exact ⟨_, rfl, IsU.of_owns hown2 (szd_rangeN h'.range), hb2⟩
theorem top_shaped_any (w : World) (v vx : Value) (zs : List Int) (xs : List Nat) (hZ : IsZ w v zs) (hX : IsU w vx xs) :
    Calls Tryd.prog 5 #[v, vx] w fun e w' => ∃ a ok, e = .returned (.tuple #[a, .bool ok]) ∧ (ok = true → ∃ ds g, Good zs ds ∧ prd2 ds ≤ 64 ∧ a = .slice (some ⟨g, 0, none⟩) (prd2 ds) (prd2 ds) ∧ IsU w' a (szd xs (prd2 ds))) ∧ Below w.heap.size w w' := by
  by_cases hG : ∃ ds, Good zs ds ∧ prd2 ds ≤ 64
  · obtain ⟨ds, hG, hn⟩ := hG
    refine (top_shaped_ok w v vx zs ds xs hZ hX hG hn).mono ?_
    rintro e w' ⟨g, rfl, hU, hb⟩
    exact ⟨_, true, rfl, fun _ => ⟨ds, g, hG, hn, rfl, hU⟩, hb⟩
  · refine (top_shaped_no w v vx zs hZ fun ds h => ?_).mono ?_
    · rcases Nat.lt_or_ge 64 (prd2 ds) with h1 | h1
      · exact h1
      · exact absurd ⟨ds, h, h1⟩ hG
    · rintro e w' ⟨rfl, rfl⟩
      exact ⟨_, false, rfl, fun q => absurd q (by decide), Below.refl _ _⟩
theorem rest8 (wk : Int) : ∃ m : Nat, m < 8 ∧ ∀ W, Calls Tryd.prog 10 #[.int .i64 wk, .int .i64 8] W fun e w' => e = .returned (.int .i64 (m : Int)) ∧ w' = W := by
  have b1 := Int.emod_lt_of_pos wk (show (0 : Int) < 8 by omega)
  have b2 := Int.emod_nonneg wk (show (8 : Int) ≠ 0 by omega)
  obtain ⟨m, hm⟩ : ∃ m : Nat, wk % 8 = (m : Int) := ⟨(wk % 8).toNat, by omega⟩
  have cRe := ref_Rest wk 8 (by omega) (by omega)
  rw [hm] at cRe b1
  exact ⟨m, by omega, cRe⟩
end Go.Proofs.YtckoipoejaafhabDoor

namespace Go.Proofs.YtckoipoejaafhabDoor.Cc
open Go Go.Conc Go.RowKit
theorem leaving_of_runs {H : Type} {enc : TypeId × Value → H} {a : Assume} {C : Checked} {os : Os} {f : FuncId} {fn : Func} {s : ChangeSpec} {conds : List PathCond} {apart fresh handsOn again : Bool} {X : World → Array Value → Prop}
    (hX : ∀ (w w' : World) (args : Array Value), w.heap = w'.heap → X w args → X w' args)
    (own : ownKnob C.prog.godebug = none) (started : os.Started) (hfn : C.prog.funcs[f]? = some fn)
    (witness : ∃ (w : World) (tape : Tape) (i : Input), w.os = os ∧ (w.forCall tape i).Shaped C.prog ∧ i.vars = [] ∧ Input.okWide C.prog (w.forCall tape i) .any w.heap.size f i ∧
      ((s.pre enc C.prog fn conds apart (w.forCall tape i).memory i.args ∧ X (w.forCall tape i).memory i.args) ∧ sizedMet enc C.prog fn (OpenSpec.ofChange s) apart (w.forCall tape i).memory i.args) ∧ a.holds C.prog (lone (Frame.enter C.prog f i.args .normal) [] (w.forCall tape i)))
    (runs : ∀ (W : World) (base : Nat) (args : Array Value) (ds gs : List (DataW H)) (before : List MemPlace),
      (∀ (j : Nat) t v, fn.params[j]? = some t → args[j]? = some v → Value.okWide C.prog W .any base t v) →
      DataW.Whole enc C.prog fn.params.toList s.vars apart W args.toList ds gs before →
      conds.all (PathCond.test C.prog ⟨fn.params.toList, ds, s.plain.varTypes C.prog, gs⟩) = true →
      (DataW.weightsEach C.prog (fn.params.toList ++ s.plain.varTypes C.prog) (ds ++ gs)).all (· ≤ reachBytes) = true → X W args → W.ShapedOpen C.prog →
      (∃ M last o w' t', runNT C.prog (M + 1) (solo (G (Frame.enter C.prog f args .normal) []) W) #[] = (.ended o w', t') ∧ runN C.prog M (solo (G (Frame.enter C.prog f args .normal) []) W) = .next last ∧
        step C.prog last = .ended o w' ∧ Conc.Good C.prog (fun v W' => v = .bool true ∧ Blw W W') last o w' t') ∧
      ∀ W', Below W.heap.size W W' → s.post enc C.prog fn apart fresh handsOn again W args (.bool true) W') :
    ReturnsInLeavingWide a C os f .any (fun w args => (s.pre enc C.prog fn conds apart w args ∧ X w args) ∧ sizedMet enc C.prog fn (OpenSpec.ofChange s) apart w args) (s.post enc C.prog fn apart fresh handsOn again) := by
  refine returnsInLeavingWide_of_good own started witness ?_
  intro w tape i _ hsh _ hok hpre _
  obtain ⟨_, _, _, fn', hfn', _, _, _, _, hval⟩ := hok
  have e : fn' = fn := Option.some.inj (hfn'.symm.trans hfn)
  subst e
  obtain ⟨⟨⟨ds, gs, before, hw, hc⟩, hx⟩, hz⟩ := hpre
  have hw' := DataW.Whole.of_heap (w' := w.forCall tape i) (by rfl) hw
  obtain ⟨⟨M, last, o, w', t', h1, h2, h3, h4⟩, hp⟩ := runs (w.forCall tape i) w.heap.size i.args ds gs before hval hw' hc (hz.weights hw) (hX _ _ _ (by rfl) hx) hsh
  exact ⟨M, last, o, w', t', h1, h2, h3, h4.mono fun v q => by
    obtain ⟨rfl, hb⟩ := q
    have q := ChangeSpec.post_blind (hp _ hb.below)
    exact q⟩
theorem rows_all : (List.range Tryd.prog.globals.size).all (fun g => (((begin Tryd.prog (fun _ _ => 0) default).world.heap[g]?).bind Obj.row?).isSome) = true := by kernel_rfl
theorem gl_of_shaped {W : World} (h : W.ShapedOpen Tryd.prog) : Gl Tryd.prog.globals.size W := fun g hg => by
  have h1 := List.all_eq_true.1 rows_all g (List.mem_range.2 hg)
  obtain ⟨⟨zero, t⟩, h2⟩ := Option.isSome_iff_exists.1 h1
  obtain ⟨cs, h3, -⟩ := h.1 g zero t hg h2
  exact ⟨cs, t, _, h3⟩
theorem gl_le {G : Nat} {W : World} (h : Gl G W) : G ≤ W.heap.size := by
  cases G with
  | zero => exact Nat.zero_le _
  | succ n =>
    obtain ⟨c, e, fr, h1⟩ := h n (Nat.lt_succ_self n)
    exact (Array.getElem?_eq_some_iff.1 h1).1
theorem tabs_lt : tabsL.all (fun g => decide (g < Tryd.prog.globals.size)) = true := by kernel_rfl
theorem tbs_of {W : World} (h : W.ShapedOpen Tryd.prog) (hT : Tab W) : Tbs W.heap.size W := by
  refine ⟨hT, fun g hg => ?_, Nat.le_refl _⟩
  have h1 : g < Tryd.prog.globals.size := by simpa using List.all_eq_true.1 tabs_lt g hg
  have h2 := gl_of_shaped h
  obtain ⟨c, e, fr, h3⟩ := h2 g h1
  exact ⟨Nat.lt_of_lt_of_le h1 (gl_le h2), c, e, fr, h3, trivial⟩
theorem readies_all : Tryd.prog.funcs.all (fun f => match f.body with | none => true | some c => (readies c).all (fun g => decide (g < Tryd.prog.globals.size))) = true := by kernel_rfl
theorem no_early : NoEarly Tryd.prog Tryd.prog.globals.size := by
  refine ⟨by kernel_rfl, fun g hg => ?_⟩
  unfold Program.stepOf
  rw [Array.findIdx?_eq_none_iff]
  intro f hf
  have h1 := Array.all_eq_true_iff_forall_mem.1 readies_all f hf
  cases hb : f.body with
  | none => rfl
  | some c =>
    rw [hb] at h1
    simp only [Option.map_some, Option.any_some]
    cases hc : (readies c).contains g with
    | false => rfl
    | true =>
      exfalso
      have h2 := of_decide_eq_true (List.all_eq_true.1 h1 g (List.contains_iff_mem.1 hc))
      omega
def GoodRun (P : Program) (f : FuncId) (args : Array Value) (W : World) : Prop :=
  ∃ M last o w' t', runNT P (M + 1) (solo (G (Frame.enter P f args .normal) []) W) #[] = (.ended o w', t') ∧ runN P M (solo (G (Frame.enter P f args .normal) []) W) = .next last ∧ step P last = .ended o w' ∧ Conc.Good P (fun v W' => v = .bool true ∧ Blw W W') last o w' t'
theorem good_run {f : FuncId} {args : Array Value} {W : World} (hsh : W.ShapedOpen Tryd.prog) (h : Leads Tryd.prog W.heap.size (G (Frame.enter Tryd.prog f args .normal) []) W (EndT Tryd.prog W W.heap.size)) : GoodRun Tryd.prog f args W :=
  leads_good ⟨_, gl_le (gl_of_shaped hsh), no_early, gl_of_shaped hsh⟩ h
end Go.Proofs.YtckoipoejaafhabDoor.Cc

namespace Go.Proofs.YtckoipoejaafhabDoor
def rngT (r : List Int) : List Nat := (List.range (r.getD 2 0 - r.getD 1 0).toNat).map fun q => (r.getD 1 0).toNat + q
def lnT (T : List (List Int)) : Nat → List Nat
  | 0 => []
  | i + 1 => lnT T i ++ rngT (T.getD i [])
theorem mem_rngT {n x : Nat} {r : List Int} (h : Vld n x r) (k : Nat) : k ∈ rngT r ↔ hit r k = 1 := by
  obtain ⟨-, h1, h2, h3⟩ := h
  unfold rngT hit
  simp only [List.mem_map, List.mem_range]
  constructor
  · rintro ⟨q, h4, rfl⟩
    rw [if_pos (by omega)]
  · intro h4
    have h5 : r.getD 1 0 ≤ (k : Int) ∧ (k : Int) < r.getD 2 0 := by
      by_cases h6 : r.getD 1 0 ≤ (k : Int) ∧ (k : Int) < r.getD 2 0
      · exact h6
      · rw [if_neg h6] at h4; omega
    exact ⟨k - (r.getD 1 0).toNat, by omega, by omega⟩
theorem mem_lnT {n x : Nat} {T : List (List Int)} (hV : ∀ r ∈ T, Vld n x r) : ∀ (i : Nat), i ≤ T.length → ∀ k, k ∈ lnT T i ↔ 0 < hits (T.take i) k
  | 0, _, k => by simp [lnT, hits]
  | i + 1, hi, k => by
    have h1 := hits_succ T i k (by omega)
    have h2 := mem_lnT hV i (by omega) k
    have h3 := mem_rngT (hV _ (getD_mem (show i < T.length by omega))) k
    have h4 : hit (T.getD i []) k = 0 ∨ hit (T.getD i []) k = 1 := by unfold hit; split <;> simp
    rw [lnT, List.mem_append, h2, h3, h1]
    omega
theorem lnT_new {n x : Nat} {T : List (List Int)} (hR : RgtP n x T) {i k : Nat} (hi : i < T.length) (h1 : (T.getD i []).getD 1 0 ≤ (k : Int)) (h2 : (k : Int) < (T.getD i []).getD 2 0) : k ∉ lnT T i := by
  intro h
  have hv := hR.1 _ (getD_mem hi)
  have h3 := (mem_lnT hR.1 i (Nat.le_of_lt hi) k).1 h
  have h4 := hits_succ T i k hi
  have h5 : hit (T.getD i []) k = 1 := by unfold hit; rw [if_pos ⟨h1, h2⟩]
  have h6 := hits_mono T (i + 1) k
  have h7 := hR.2 k (by have := hv.2.2.1; omega)
  omega
def smT (f : Nat → Nat) : Nat → Nat
  | 0 => 0
  | n + 1 => smT f n + f n
theorem smT_hit {r : List Int} (h1 : 0 ≤ r.getD 1 0) (h2 : r.getD 1 0 ≤ r.getD 2 0) : ∀ m, smT (hit r) m = min m (r.getD 2 0).toNat - min m (r.getD 1 0).toNat
  | 0 => by simp [smT]
  | m + 1 => by
    have ih := smT_hit h1 h2 m
    rw [smT, ih]
    unfold hit
    split <;> omega
theorem smT_add (f g h : Nat → Nat) (e : ∀ k, f k = g k + h k) : ∀ m, smT f m = smT g m + smT h m
  | 0 => rfl
  | m + 1 => by rw [smT, smT, smT, smT_add f g h e m, e]; omega
theorem lnT_sum {n x : Nat} {T : List (List Int)} (hV : ∀ r ∈ T, Vld n x r) : ∀ i, i ≤ T.length → (lnT T i).length = smT (hits (T.take i)) n
  | 0, _ => by
    have : ∀ m, smT (hits (T.take 0)) m = 0 := fun m => by
      induction m with
      | zero => rfl
      | succ m ih => rw [smT, ih]; simp [hits]
    rw [this]
    rfl
  | i + 1, hi => by
    have hv := hV _ (getD_mem (show i < T.length by omega))
    obtain ⟨-, h1, h2, h3⟩ := hv
    rw [lnT, List.length_append, lnT_sum hV i (by omega), smT_add _ _ _ (fun k => hits_succ T i k (by omega)) n, smT_hit h1 (by omega)]
    unfold rngT
    rw [List.length_map, List.length_range]
    omega
theorem lnT_all {n x : Nat} {T : List (List Int)} (hR : RgtP n x T) : (lnT T T.length).length = n := by
  rw [lnT_sum hR.1 _ (Nat.le_refl _), List.take_length]
  have : ∀ m, m ≤ n → smT (hits T) m = m := fun m => by
    induction m with
    | zero => intro _; rfl
    | succ m ih => intro hm; rw [smT, ih (by omega), hR.2 m (by omega)]
  exact this n (Nat.le_refl _)
theorem lnT_most {n x : Nat} {T : List (List Int)} (hR : RgtP n x T) : ∀ i, i ≤ T.length → ∀ q, i < T.length → q ≤ ((T.getD i []).getD 2 0 - (T.getD i []).getD 1 0).toNat → (lnT T i).length + q ≤ n := by
  have step : ∀ j i, i + j = T.length → (lnT T i).length ≤ n := fun j => by
    induction j with
    | zero =>
      intro i hi
      have e : i = T.length := by omega
      rw [e, lnT_all hR]
      exact Nat.le_refl _
    | succ j ih =>
      intro i hi
      have := ih (i + 1) (by omega)
      rw [lnT, List.length_append] at this
      omega
  intro i _ q hi hq
  have := step (T.length - (i + 1)) (i + 1) (by omega)
  rw [lnT, List.length_append] at this
  unfold rngT at this
  rw [List.length_map, List.length_range] at this
  omega
theorem nln_quo {ds : List Nat} (h : Shp ds) {y : Nat} (hy : y < ds.length) : prd2 ds / sz ds y = nln ds y := by
  have hp := prd2_pos h.pos
  rw [prd2_at ds y hy] at hp ⊢
  have hs : 0 < sz ds y := Nat.pos_of_ne_zero fun e => by rw [e] at hp; simp at hp
  unfold nln
  rw [show beh ds (y + 1) * sz ds y * prd2 (ds.take y) = beh ds (y + 1) * prd2 (ds.take y) * sz ds y by rw [Nat.mul_assoc, Nat.mul_comm (sz ds y), ← Nat.mul_assoc], Nat.mul_div_cancel _ hs]
end Go.Proofs.YtckoipoejaafhabDoor

namespace Go.Proofs.YtckoipoejaafhabDoor
open Go.RowKit Go.Maps
theorem lawI : Keyed Tryd.prog 3 := int_keyed Tryd.underlying3
theorem zeroB (w : World) : (zeroValue 4).run Tryd.prog w = .ok (.bool false) w := by kernel_rfl
theorem keyI {i : Nat} (hi : i ≤ 1000000) : keyOf Tryd.prog 3 (.int .i64 (i : Int)) = some (.int .i64 (i : Int)) := keyOf_int_mk Tryd.underlying3 (by simp [Lit.wf, IntKind.min, IntKind.max, IntKind.signed, IntKind.bits]; omega)
theorem plainElem_bool_inv {H : Type} {e : TypeId} (he : Tryd.prog.underlying e = some .bool) {v : Value} {z : DataW H × List MemPlace} (h : plainElem Tryd.prog e v = some z) : ∃ x, v = .bool x ∧ z = (.lit (.bool x), []) := by
  unfold plainElem at h
  rw [he] at h
  cases v with
  | bool x => simp at h; exact ⟨x, rfl, h.symm⟩
  | _ => simp at h
theorem keyLit (i : Nat) : WideAt.IsKeyLit (.int .i64 (i : Int)) := by simp [WideAt.IsKeyLit]
def MapB (w : World) (b : Nat) (S : List Nat) : Prop := ∃ (n : Nat) (D : DataW Unit), w.ownsMap Tryd.prog 3 (plainElem Tryd.prog 4) b n D ∧ n ≤ S.length ∧ size D = S.length ∧
  ∀ i : Nat, has D (.int .i64 (i : Int)) = decide (i ∈ S) ∧ D.atKey (.int .i64 (i : Int)) (.lit (.bool false)) = .lit (.bool (decide (i ∈ S)))
theorem MapB.made (w : World) : MapB (w.alloc (.map #[] 0)) w.heap.size [] := by
  refine ⟨0, .map [], World.ownsMap_made _ _ _ _, Nat.le_refl _, rfl, fun i => ⟨rfl, rfl⟩⟩
theorem MapB.lt {w : World} {b : Nat} {S : List Nat} (h : MapB w b S) : b < w.heap.size := by
  obtain ⟨n, D, h, _⟩ := h
  exact h.lt
theorem MapB.block {w w' : World} {b : Nat} {S : List Nat} (h : MapB w b S) (e : w'.heap[b]? = w.heap[b]?) : MapB w' b S := by
  obtain ⟨n, D, ⟨es, clock, hb, r⟩, r2⟩ := h
  exact ⟨n, D, ⟨es, clock, e.trans hb, r⟩, r2⟩
theorem MapB.look {w : World} {b : Nat} {S : List Nat} (h : MapB w b S) (i : Nat) (hi : i ≤ 1000000) : (Instr.lookup 38 (.map (some b)) (.int .i64 (i : Int)) false).run Tryd.prog w = .ok (.bool (decide (i ∈ S))) w := by
  obtain ⟨n, D, h, _, _, hat⟩ := h
  obtain ⟨v, ps, hrun, hv⟩ := h.lookup lawI Tryd.underlying38 (zeroB w) (plainElem_bool Tryd.underlying4 false) (keyI hi)
  obtain ⟨x, rfl, hx⟩ := plainElem_bool_inv Tryd.underlying4 hv
  simp only [Prod.mk.injEq] at hx
  rw [(hat i).2] at hx
  have := hx.1
  simp only [DataW.lit.injEq, Lit.bool.injEq] at this
  rw [hrun, this]
theorem MapB.len {w : World} {b : Nat} {S : List Nat} (h : MapB w b S) (ty : TypeId) : (Builtin.len_ #[38] ty #[.map (some b)]).run Tryd.prog w = .ok (.int .i64 (S.length : Int)) w := by
  obtain ⟨n, D, h, _, hs, _⟩ := h
  rw [h.len Tryd.underlying38 ty, hs]
theorem wp_putB {ops : Array Oper} {rest : List Oper} {o : Oper} {a : Act} {Q : Exit → Act → World → Prop} {w : World} (hgd : o.guard = none) (m x v : Operand) (hop : o.op = Op.mapUpdate 38 m x v)
    (b : Nat) (S : List Nat) (i : Nat) (hm : a.eval m = .map (some b)) (hown : MapB w b S) (hx : a.eval x = .int .i64 (i : Int)) (hv : a.eval v = .bool true) (hi : i ≤ 1000000) (hn : S.length ≤ 1000000) (hnot : i ∉ S)
    (hK : ∀ w', MapB w' b (S ++ [i]) → w.grownBy w' (some b) → wpList Tryd.prog ops Q rest (a.put o.dst undef) w') : wpList Tryd.prog ops Q (o :: rest) a w := by
  obtain ⟨n, D, h, hnS, hs, hat⟩ := hown
  refine wpList_mapUpdate_own w hgd m x v 38 hop 3 4 lawI Tryd.underlying38 (plainElem Tryd.prog 4) b n D hm h (by unfold maxLen; omega) _ _ (.int .i64 (i : Int)) hx hv (keyI hi) (.lit (.bool true)) [] (plainElem_bool Tryd.underlying4 true) fun w' h' hg => hK w' ⟨n + 1, _, h', by simp; omega, ?_, fun j => ?_⟩ hg
  · rw [size_put (h.tidy lawI), (hat i).1, hs]
    simp [hnot]
  · by_cases e : j = i
    · subst e
      have e2 : decide (j ∈ S ++ [j]) = true := by simp
      rw [has_put_same h.isMap (keyLit j), atKey_put_same h.isMap (keyLit j), e2]
      exact ⟨rfl, rfl⟩
    · have hne : (Lit.int .i64 (j : Int)) ≠ .int .i64 (i : Int) := fun q => by
        simp only [Lit.int.injEq, true_and] at q
        omega
      have e2 : decide (j ∈ S ++ [i]) = decide (j ∈ S) := by simp [e]
      rw [has_put_other hne, atKey_put_other hne, e2]
      exact hat j
end Go.Proofs.YtckoipoejaafhabDoor
