/-
  Texts that stood one behind the other, as one.
-/
import Derived.Test.YtckoipoejaafhaaDoorCeI
import Derived.Test.YtckoipoejaafhaaDoorCdKAll
import Derived.Laws.MakeOwn
namespace Go.Proofs.YtckoipoejaafhaaDoor.Cc
open Go Go.Conc Go.RowKit Go.Conc.Lib Go.ConcR.Gen
open Go.ConcN (WgLive PayAt)
open Go.ConcR (Payload KK WgAt stA smA rd wr mk)
theorem rep83 : Array.replicate 83 undef = #[undef, undef, undef, undef, undef, undef, undef, undef, undef, undef, undef, undef, undef, undef, undef, undef, undef, undef, undef, undef, undef, undef, undef, undef, undef, undef, undef, undef, undef, undef, undef, undef, undef, undef, undef, undef, undef, undef, undef, undef, undef, undef, undef, undef, undef, undef, undef, undef, undef, undef, undef, undef, undef, undef, undef, undef, undef, undef, undef, undef, undef, undef, undef, undef, undef, undef, undef, undef, undef, undef, undef, undef, undef, undef, undef, undef, undef, undef, undef, undef, undef, undef, undef] := by kernel_rfl
theorem wait_ntmps (L : WgLink) : (waitFn L).ntmps = 84 := rfl
theorem wait_body (L : WgLink) : (waitFn L).body = some (body_wait L) := by
  have hs : (waitFn L).body.isSome = true := rfl
  unfold body_wait
  cases h : (waitFn L).body with
  | none => rw [h] at hs; cases hs
  | some c => rfl
theorem app1 (a : Value) (l : List Value) : #[a] ++ l.toArray = (a :: l).toArray := by simp
theorem wait_enter (Wg : Nat) : Frame.enter Tryd.prog wgLink.wait #[.pointer (some ⟨Wg, 0, none⟩)] .normal = (base wgLink.wait).at ⟨#[.pointer (some ⟨Wg, 0, none⟩), undef, undef, undef, undef, undef, undef, undef, undef, undef, undef, undef, undef, undef, undef, undef, undef, undef, undef, undef, undef, undef, undef, undef, undef, undef, undef, undef, undef, undef, undef, undef, undef, undef, undef, undef, undef, undef, undef, undef, undef, undef, undef, undef, undef, undef, undef, undef, undef, undef, undef, undef, undef, undef, undef, undef, undef, undef, undef, undef, undef, undef, undef, undef, undef, undef, undef, undef, undef, undef, undef, undef, undef, undef, undef, undef, undef, undef, undef, undef, undef, undef, undef, undef], []⟩ [.code (body_wait wgLink)] := by
  have h := enter_at (P := Tryd.prog) #[.pointer (some ⟨Wg, 0, none⟩)] wgLib.f_wait (wait_body wgLink)
  have e : #[Value.pointer (some ⟨Wg, 0, none⟩)] ++ Array.replicate ((waitFn wgLink).ntmps - #[Value.pointer (some ⟨Wg, 0, none⟩)].size) undef = #[.pointer (some ⟨Wg, 0, none⟩), undef, undef, undef, undef, undef, undef, undef, undef, undef, undef, undef, undef, undef, undef, undef, undef, undef, undef, undef, undef, undef, undef, undef, undef, undef, undef, undef, undef, undef, undef, undef, undef, undef, undef, undef, undef, undef, undef, undef, undef, undef, undef, undef, undef, undef, undef, undef, undef, undef, undef, undef, undef, undef, undef, undef, undef, undef, undef, undef, undef, undef, undef, undef, undef, undef, undef, undef, undef, undef, undef, undef, undef, undef, undef, undef, undef, undef, undef, undef, undef, undef, undef, undef] := by
    rw [wait_ntmps]
    refine Eq.trans (congrArg _ rep83) ?_
    exact app1 _ _
  rw [e] at h
  exact h
noncomputable def wtO : Array Oper := rgo (sq1 wc7)
section
variable {P : Program} {ty : TypeId} {Wg : Nat} {Sh Ow : Nat → Prop} {gA gA' gK gK' : Goroutine → Prop}
theorem MAcq.mono (hK : ∀ g, gK g → gK' g) {g : Goroutine} {w : World} (h : MAcq P Wg gK g w) : MAcq P Wg gK' g w := let ⟨h1, g', h2, h3⟩ := h; ⟨h1, g', h2, hK _ h3⟩
theorem MKe.mono (hK : ∀ g, gK g → gK' g) {g : Goroutine} {w : World} (h : MKe P ty Wg Sh Ow gK g w) : MKe P ty Wg Sh Ow gK' g w := let ⟨h1, g', h2, m, h3⟩ := h; ⟨h1, g', h2, m, goes_mono (fun _ _ x => x.mono hK) h3⟩
theorem MW4.mono (hK : ∀ g, gK g → gK' g) {g : Goroutine} {w : World} (h : MW4 P ty Wg Sh Ow gK g w) : MW4 P ty Wg Sh Ow gK' g w :=
  ⟨h.1, fun q => let ⟨g', h2, m, h3⟩ := h.2 q; ⟨g', h2, m, goes_mono (fun _ _ x => x.mono hK) h3⟩⟩
theorem MW3.mono (hK : ∀ g, gK g → gK' g) {g : Goroutine} {w : World} (h : MW3 P ty Wg Sh Ow gK g w) : MW3 P ty Wg Sh Ow gK' g w :=
  ⟨h.1, h.2.1, h.2.2.1, fun q => let ⟨g', h2, m, h3⟩ := h.2.2.2 q; ⟨g', h2, m, goes_mono (fun _ _ x => x.mono hK) h3⟩⟩
theorem MW2.mono (hA : ∀ g, gA g → gA' g) (hK : ∀ g, gK g → gK' g) {vs : Nat} {g : Goroutine} {w : World} (h : MW2 P ty Wg Sh Ow gA gK vs g w) : MW2 P ty Wg Sh Ow gA' gK' vs g w :=
  ⟨h.1, fun v hv hw => ⟨fun e => let ⟨g', h2, m, h3⟩ := (h.2 v hv hw).1 e; ⟨g', h2, m, goes_mono (fun _ _ x => x.mono hK) h3⟩, fun e => let ⟨g', h2, m, h3⟩ := (h.2 v hv hw).2 e; ⟨g', h2, m, goes_mono (fun g _ x => hA g x) h3⟩⟩⟩
theorem MW1.mono (hA : ∀ g, gA g → gA' g) (hK : ∀ g, gK g → gK' g) {g : Goroutine} {w : World} (h : MW1 P ty Wg Sh Ow gA gK g w) : MW1 P ty Wg Sh Ow gA' gK' g w :=
  ⟨h.1, fun v hv hw => let ⟨g', h2, h3, h4⟩ := h.2 v hv hw; ⟨g', h2, fun e => let ⟨m, x⟩ := h3 e; ⟨m, goes_mono (fun _ _ x => x.mono hK) x⟩, fun e => let ⟨m, x⟩ := h4 e; ⟨m, goes_mono (fun _ _ x => x.mono hA hK) x⟩⟩⟩
end
def gAw (n bs ba bb bp Cc Wg : Nat) (vp : Value) (cs0 : List Frame) (g : Goroutine) : Prop := ∃ σ, Sg n bs ba bb bp Cc Wg vp σ ∧ AnW wgLink Wg (fd false 37 61 [] σ [.inRegion wtO [0], .code (sq2 wc7)]) cs0 g
def gKw (n bs ba bb bp Cc Wg : Nat) (vp : Value) (cs0 : List Frame) (g : Goroutine) : Prop := ∃ σ, Sg n bs ba bb bp Cc Wg vp σ ∧ KnW Tryd.prog wgLink Wg (G (fd false 37 61 [] σ [.inRegion wtO [], .code (sq2 wc7)]) cs0) g
section
variable {dl : List Nat} {zs : List Int} {vz va : Value} {xs : List Nat} {back : Bool} {C n Cc Wg bs ba bb bp : Nat} {TT : List (List Int)} {bh oh ch : Nat} {Od : Nat → Prop} {w0 : World} {cs0 : List Frame} {cs : List Nat} {Sh : Nat → Prop}
set_option maxRecDepth 100000 in
theorem wait_way (Ow : Nat → Prop) (w : World) (σ : Nat → Value) (hS : Sg n bs ba bb bp Cc Wg (.slice (some ⟨bh, oh, none⟩) TT.length ch) σ) (hE : Es dl zs vz va xs back C n bs ba bb bp TT bh oh Od w0 Sh w) (hl : WgLive wgLink.tWg Wg w) :
    Wy Tryd.prog true Wg 0 (I0 wgLink.tWg Wg) Sh (MKd Tryd.prog wgLink.tWg Wg Sh (gAw n bs ba bb bp Cc Wg (.slice (some ⟨bh, oh, none⟩) TT.length ch) cs0) (fun Sh _ w => Es dl zs vz va xs back C n bs ba bb bp TT bh oh Od w0 Sh w)) Ow (G (fd false 37 61 [] σ [.code wc7]) cs0) w := by
  refine wy_seq ?_
  refine wy_region [0] rfl ?_
  refine wy_call wgLink.wait #[.pointer (some ⟨Wg, 0, none⟩)] rfl rfl (fun w₇ => run_ev (by simp [execOp, go_sem, evT_tmp, evT_func, hS.s13]) (by simp [execOp, go_sem, evT_tmp, evT_func, hS.s13, call_events wgLib.f_wait (by rfl) (wait_body wgLink)])) ?_
  rw [wait_enter, fd_at]
  refine Gm.toStop (F := fun w => Es dl zs vz va xs back C n bs ba bb bp TT bh oh Od w0 Sh w) (fun w w₁ k h => h.keep fun b hb => k.block b (.inl hb)) (fun g w hst hf _ => ?_) hE (wait_in wgLib w ⟨trivial, hl⟩)
  obtain ⟨h1, g', h2, m, h3⟩ := hst
  exact ⟨h1, hf, g', h2, m, goes_mono (fun g _ x => ⟨σ, hS, x⟩) h3⟩
noncomputable def phW (dl : List Nat) (zs : List Int) (vz va : Value) (xs : List Nat) (back : Bool) (C n Cc Wg bs ba bb bp : Nat) (TT : List (List Int)) (bh oh ch : Nat) (Od : Nat → Prop) (w0 : World) (cs0 : List Frame) (q : Nat) (Su : Nat → Prop) (sw : World) : Ph :=
  { P := Tryd.prog, ty := wgLink.tWg, Wg := Wg, C := C, n := n, q := q, cap := 64, gA := gAw n bs ba bb bp Cc Wg (.slice (some ⟨bh, oh, none⟩) TT.length ch) cs0, gK := gKw n bs ba bb bp Cc Wg (.slice (some ⟨bh, oh, none⟩) TT.length ch) cs0,
    Fx := fun Sh _ w => Es dl zs vz va xs back C n bs ba bb bp TT bh oh Od w0 Sh w, z := zTk, Tl := TlW dl xs back n TT, l0 := sendL n TT, Su := Su, sw := sw }
theorem phW_ok {q : Nat} {Su : Nat → Prop} {sw : World} (hsu : Su Wg) (hc : ¬ Su C) (hn8 : n ≤ 8) (hn : ¬ n = 0) (hTT : TT.length ≤ 64) : (phW dl zs vz va xs back C n Cc Wg bs ba bb bp TT bh oh ch Od w0 cs0 q Su sw).Ok := by
  refine ⟨hsu, hc, ?_, fun k v Sh Ow w w₁ h hk => Ar.keep h hk.block, fun k v Sh Ow Ow' w h ho => Ar.grow h ho, ?_, ?_, ?_, ?_⟩
  · show n < 2147483647
    omega
  · show (sendL n TT).length ≤ 64
    simp [sendL, hTT]
  · intro x hx
    show x.1 < n
    have hx' : x ∈ sendL n TT := hx
    simp only [sendL, List.mem_map] at hx'
    obtain ⟨p, _, rfl⟩ := hx'
    exact Nat.mod_lt _ (by omega)
  · rintro g ⟨σ, hS, hA⟩ Sh Ow w hl
    obtain ⟨m, h⟩ := wait_round (Sh := Sh) (Ow := Ow) (b₀ := base 37) (a₀ := ⟨arr 61 σ, []⟩) (ops₀ := wtO) (i₀ := 0) (rest₀ := []) (k₀ := [.code (sq2 wc7)]) wgLib g hA w ⟨trivial, hl⟩
    refine ⟨m, goes_mono (fun g w x => x.mono (fun g y => ⟨σ, hS, y⟩) (fun g y => ?_)) h⟩
    refine ⟨put σ (some 59) (.tuple #[]), hS.of rfl rfl rfl rfl rfl rfl rfl rfl, ?_⟩
    rw [← at_put]
    exact y
  · rintro g ⟨σ, hS, hA⟩
    exact hA.running
end
end Go.Proofs.YtckoipoejaafhaaDoor.Cc

namespace Go.Proofs.YtckoipoejaafhaaDoor.Cc
open Go Go.Conc Go.RowKit
open Go.ConcN (WgLive PayAt sumTo)
open Go.ConcR (Payload KK WgAt DC0)
theorem emp_alloc {Su : Nat → Prop} {w : World} (o : Obj) (h : ¬ Su w.heap.size) : emp Su (w.alloc o) = (emp Su w).alloc o := by
  have hh : (emp Su (w.alloc o)).heap = ((emp Su w).alloc o).heap := by
    apply Array.ext_getElem?
    intro b
    have e1 : (w.alloc o).heap = w.heap.push o := rfl
    have e2 : ((emp Su w).alloc o).heap = (emp Su w).heap.push o := rfl
    rw [e2, Array.getElem?_push, emp_size]
    simp only [emp, Array.getElem?_mapIdx, e1, Array.getElem?_push]
    by_cases hb : b = w.heap.size
    · subst hb
      simp [h]
    · simp [hb]
  show { (emp Su w).alloc o with heap := (emp Su (w.alloc o)).heap } = _
  rw [hh]
theorem emp_setCell {Su : Nat → Prop} {w : World} {a : Addr} (v : Value) (h : ¬ Su a.block) : emp Su (w.setCell a v) = (emp Su w).setCell a v := by
  have hh : (emp Su (w.setCell a v)).heap = ((emp Su w).setCell a v).heap := by
    apply Array.ext_getElem?
    intro b
    by_cases hb : b = a.block
    · subst hb
      rw [emp_out h]
      simp only [World.setCell, Array.getElem?_modify, if_true]
      rw [emp_out h]
    · rw [Below.heap_setCell _ _ _ _ hb]
      by_cases hs : Su b
      · simp only [emp, Array.getElem?_mapIdx]
        rw [Below.heap_setCell _ _ _ _ hb]
      · rw [emp_out hs, emp_out hs, Below.heap_setCell _ _ _ _ hb]
  show { (emp Su w).setCell a v with heap := (emp Su (w.setCell a v)).heap } = _
  rw [hh]
theorem cell_lt {w : World} {a : Addr} {u : Value} (h : w.cell? a = some u) : a.block < w.heap.size := by
  rcases Nat.lt_or_ge a.block w.heap.size with h' | h'
  · exact h'
  · simp [World.cell?, Array.getElem?_eq_none h'] at h
theorem emp_notSu {Su : Nat → Prop} {w : World} (hs : SuC Su w) {a : Addr} {u : Value} (h : (emp Su w).cell? a = some u) : ¬ Su a.block := fun q => by
  rw [(emp_PW hs).cellSu q] at h
  cases h
section
variable {P : Program} {N0 : Nat} {pw : World} {Q : Goroutine → World → Prop} {fn : FuncId} {n : Nat} {ds : List Deferred} {σ : Nat → Value} {k : List Item} {cs : List Frame} {ops : Array Oper} {i : Nat} {rest : List Nat} {o : Oper}
theorem leads_pure (d : Option Tmp) (v : Value) (ho : ops[i]? = some o) (hd : o.dst = d) (hg : o.guard = none) (hx : ∀ w, (execOp (evT (arr n σ)) o).runT P w #[] = (.ok (.value v) w, #[]))
    (h : Leads P N0 (G (fd false fn n ds (put σ d v) (.inRegion ops rest :: k)) cs) pw Q) : Leads P N0 (G (fd false fn n ds σ (.inRegion ops (i :: rest) :: k)) cs) pw Q := by
  subst hd
  exact leads_ctl rfl (fun w => ((sd_oper ho hg).trans (ad_value ho (hx w))).trans (by simp [seen])) h
theorem leads_new (d : Option Tmp) (vf : Nat → Value) (obj : Obj) (ho : ops[i]? = some o) (hd : o.dst = d) (hg : o.guard = none) (hx : ∀ w, (execOp (evT (arr n σ)) o).runT P w #[] = (.ok (.value (vf w.heap.size)) (w.alloc obj), #[]))
    (h : Leads P N0 (G (fd false fn n ds (put σ d (vf pw.heap.size)) (.inRegion ops rest :: k)) cs) (pw.alloc obj) Q) : Leads P N0 (G (fd false fn n ds σ (.inRegion ops (i :: rest) :: k)) cs) pw Q := fun m t hS => by
  subst hd
  obtain ⟨q, Su, f, gs, w, sl, τ, d', rfl, h2, h3, h4, hN, rfl⟩ := hS
  obtain ⟨G0, hG0, hE, h4⟩ := h4
  obtain ⟨N2, f2, gs2, d2, d3, sl2, sl3, t2, r1, r2, r3⟩ := Bes.turn (a := G (fd false fn n ds σ (.inRegion ops (i :: rest) :: k)) cs) _ f gs w sl t (Nat.le_refl _) rfl h2
  have hgo := (sd_oper (P := P) (main := true) (dk := false) (fn := fn) (ds := ds) (k := k) (rest := rest) (cs := cs) (w := w.at d3) ho hg).trans (ad_value ho (hx (w.at d3)))
  obtain ⟨g1, g2⟩ := r2.stepB (sl := sl3) hgo (by simp) (fun e he => absurd (mem_seen he) (by simp))
  have hns : ¬ Su w.heap.size := fun q => by have := h2.su _ q; omega
  have hz : (tp (emp Su w) τ d').heap.size = (w.at d3).heap.size := emp_size Su w
  rw [hz] at h
  have he : emp Su ((w.at d3).alloc obj) = (emp Su (w.at d3)).alloc obj := emp_alloc obj hns
  obtain ⟨M, m2, t2', a2, pw2, k1, k2, k3⟩ := h _ _ ⟨q, Su, f2, _, (w.at d3).alloc obj, sl3, τ, d', rfl, g2, fun b hb => by
    obtain ⟨c', e, fr, hb'⟩ := h3 b hb
    exact ⟨c', e, fr, at_alloc (w := w.at d3) hb'⟩, ⟨G0, hG0, hE, fun g hgN => by
    obtain ⟨c', e, fr, hb'⟩ := h4 g hgN
    rw [he]
    exact ⟨c', e, fr, at_alloc (w := emp Su (w.at d3)) hb'⟩⟩, hN, by rw [he]; rfl⟩
  exact ⟨N2 + (1 + M), m2, t2', a2, pw2, runNT_seq r1 (runNT_seq (by rw [runNT_succ_next (r3.trans g1)]; rfl) k1), k2, k3⟩
theorem leads_set1 (d : Option Tmp) (a : Addr) (u v : Value) (ho : ops[i]? = some o) (hd : o.dst = d) (hg : o.guard = none) (hc : pw.cell? a = some u) (hz : pw.frozen? a = false)
    (hx : ∀ w, w.cell? a = some u → w.frozen? a = false → (execOp (evT (arr n σ)) o).runT P w #[] = (.ok .skip (w.setCell a v), #[⟨.cell a, true, false⟩]))
    (h : Leads P N0 (G (fd false fn n ds (put σ d undef) (.inRegion ops rest :: k)) cs) (pw.setCell a v) Q) : Leads P N0 (G (fd false fn n ds σ (.inRegion ops (i :: rest) :: k)) cs) pw Q := fun m t hS => by
  subst hd
  obtain ⟨q, Su, f, gs, w, sl, τ, d', rfl, h2, h3, h4, hN, rfl⟩ := hS
  obtain ⟨G0, hG0, hE, h4⟩ := h4
  obtain ⟨N2, f2, gs2, d2, d3, sl2, sl3, t2, r1, r2, r3⟩ := Bes.turn (a := G (fd false fn n ds σ (.inRegion ops (i :: rest) :: k)) cs) _ f gs w sl t (Nat.le_refl _) rfl h2
  have hns : ¬ Su a.block := emp_notSu h3 hc
  have hc2 : (w.at d3).cell? a = some u := (emp_cell (w := w) hns).symm.trans hc
  have hz2 : (w.at d3).frozen? a = false := ((emp_PW h3).frozen a).trans hz
  have hgo := (sd_oper (P := P) (main := true) (dk := false) (fn := fn) (ds := ds) (k := k) (rest := rest) (cs := cs) (w := w.at d3) ho hg).trans (ad_skip ho (hx (w.at d3) hc2 hz2))
  have hlt : a.block < w.heap.size := cell_lt (w := w.at d3) hc2
  obtain ⟨g1, g2⟩ := r2.stepB (sl := sl3) hgo (by simp [World.setCell]) (fun e he => by
    have := mem_seen he
    rw [Array.mem_singleton] at this
    subst this
    exact .inl ⟨a, rfl, rfl, by have : (w.at d3).heap.size = w.heap.size := rfl; simp [World.setCell, this, hlt], hns⟩)
  have he : emp Su ((w.at d3).setCell a v) = (emp Su (w.at d3)).setCell a v := emp_setCell v hns
  obtain ⟨M, m2, t2', a2, pw2, k1, k2, k3⟩ := h _ _ ⟨q, Su, f2, _, (w.at d3).setCell a v, sl3, τ, d', rfl, g2, fun b hb => by
    obtain ⟨c', e, fr, hb'⟩ := h3 b hb
    exact ⟨c', e, fr, at_set (w := w.at d3) hb' fun e => hns (e ▸ hb)⟩, ⟨G0, hG0, hE, fun g hgN => by
    obtain ⟨c', e, fr, hb'⟩ := h4 g hgN
    rw [he]
    by_cases hga : g = a.block
    · subst hga
      have hb2 : (emp Su (w.at d3)).heap[a.block]? = some (.cells c' e fr) := hb'
      exact ⟨_, e, fr, by simp only [World.setCell, Array.getElem?_modify, if_true, hb2, Option.map_some]; rfl⟩
    · exact ⟨c', e, fr, at_set (w := emp Su (w.at d3)) hb' hga⟩⟩, hN, by rw [he]; rfl⟩
  exact ⟨N2 + (1 + M), m2, t2', a2, pw2, runNT_seq r1 (runNT_seq (by rw [runNT_succ_next (r3.trans g1)]; rfl) k1), k2, k3⟩
theorem leads_get1 (d : Option Tmp) (a : Addr) (v : Value) (ho : ops[i]? = some o) (hd : o.dst = d) (hg : o.guard = none) (hc : pw.cell? a = some v)
    (hx : ∀ w, w.cell? a = some v → (execOp (evT (arr n σ)) o).runT P w #[] = (.ok (.value v) w, #[⟨.cell a, false, false⟩]))
    (h : Leads P N0 (G (fd false fn n ds (put σ d v) (.inRegion ops rest :: k)) cs) pw Q) : Leads P N0 (G (fd false fn n ds σ (.inRegion ops (i :: rest) :: k)) cs) pw Q := by
  subst hd
  refine leads_read rfl (fun Su w hs hp => ?_) h
  obtain ⟨τ, d', rfl⟩ := hp
  have hns : ¬ Su a.block := emp_notSu hs hc
  have hc2 : w.cell? a = some v := (emp_cell (w := w) hns).symm.trans hc
  refine ⟨_, (sd_oper ho hg).trans (ad_value ho (hx w hc2)), fun e he => ?_⟩
  have := mem_seen he
  rw [Array.mem_singleton] at this
  subst this
  exact .inl ⟨a, rfl, rfl, cell_lt hc2, hns⟩
theorem leads_enterD (f : FuncId) (args : Array Value) (ho : ops[i]? = some o) (hg : o.guard = none) (hx : ∀ w, (execOp (evT (arr n σ)) o).runT P w #[] = (.ok (.enter f args) w, #[]))
    (h : Leads P N0 (G (Frame.enter P f args .normal) (fd false fn n ds σ (.inRegion ops (i :: rest) :: k) :: cs)) pw Q) : Leads P N0 (G (fd false fn n ds σ (.inRegion ops (i :: rest) :: k)) cs) pw Q :=
  leads_ctl rfl (fun w => ((sd_oper ho hg).trans (ad_enter (hx w))).trans (by simp [seen])) h
end
theorem kn_runs {P : Program} {L : Go.Conc.Lib.WgLink} {Wg q : Nat} {Su : Nat → Prop} {gR : Goroutine} : ∀ (m : Nat) (f : Nat → Nat) (gs : Array Goroutine) (g : Goroutine) (w : World) (sl : Option (Nat × Nat)) (t : Trace), Bes P q Su nob nob f gs g w t → WgLive L.tWg Wg w →
    Go.Conc.Goes P true (RM L.tWg Wg (fun _ => False) (fun _ => False)) DC0 (fun g' _ => g' = gR) m g w → ∃ N f' gs' d sl' t', runNT P N (crowd gs w sl) t = (.next (crowd gs' (w.at d) sl'), t') ∧ Bes P q Su nob nob f' gs' gR (w.at d) t' := by
  intro m
  induction m with
  | zero =>
    intro f gs g w sl t hB hl h
    have e := h w ⟨Kept.refl _ _ _, id⟩
    exact ⟨0, f, gs, w.drawn, sl, t, rfl, e ▸ hB⟩
  | succ m ih =>
    intro f gs g w sl t hB hl h
    rcases h with h | ⟨hr, h⟩
    · have e := h w ⟨Kept.refl _ _ _, id⟩
      exact ⟨0, f, gs, w.drawn, sl, t, rfl, e ▸ hB⟩
    · obtain ⟨N2, f2, gs2, d2, d3, sl2, sl3, t2, r1, r2, r3⟩ := Bes.turn (a := g) _ f gs w sl t (Nat.le_refl _) hr hB
      have h1 := h (w.at d3) ⟨⟨rfl, Nat.le_refl _, fun _ _ => rfl⟩, id⟩
      cases hg : stepG P true g (w.at d3) with
      | go g' w' es =>
        rw [hg, goes_go] at h1
        obtain ⟨⟨rfl, rfl⟩, hG⟩ := h1
        obtain ⟨g1, g2⟩ := r2.stepB (sl := sl3) hg (Nat.le_refl _) (fun e he => by simp at he)
        obtain ⟨M, f3, gs3, d4, sl4, t3, k1, k2⟩ := ih f2 _ g' (w.at d3) sl3 _ g2 hl hG
        exact ⟨N2 + (1 + M), f3, gs3, d4, sl4, t3, runNT_seq r1 (runNT_seq (by rw [runNT_succ_next (r3.trans g1)]; rfl) k1), k2⟩
      | _ => rw [hg] at h1; exact h1.elim
end Go.Proofs.YtckoipoejaafhaaDoor.Cc
