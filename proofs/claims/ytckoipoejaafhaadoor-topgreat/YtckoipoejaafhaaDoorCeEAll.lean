/-
  Texts that stood one behind the other, as one.
-/
import Derived.Test.YtckoipoejaafhaaDoorCeCAll
import Derived.Test.YtckoipoejaafhaaDoorCeBAll
import Derived.Conc.WgGenN2
import Derived.Test.YtckoipoejaafhaaDoorCcWaAll
namespace Go.Proofs.YtckoipoejaafhaaDoor.Cc
open Go Go.Conc Go.RowKit Go.ConcR.Gen Go.ConcN.Gen
open Go.ConcN (RW DWs WgLive PayAt AtR0 Has)
open Go.ConcR (Payload KK WgAt stA smA rd wr mk)
noncomputable def botF : Frame := { (default : Frame) with fn := Tryd.prog.funcs.size, defers := [], mode := .panicking [goexitEntry] }
noncomputable def clB : Code := sq2 (Tryd.f78.body.getD .skip)
noncomputable def clO : Array Oper := rgo clB
def capt (Wg bs ba bt bb bp bk : Nat) : Array Value := #[.pointer (some ⟨Wg, 0, none⟩), .pointer (some ⟨bs, 0, none⟩), .pointer (some ⟨ba, 0, none⟩), .pointer (some ⟨bt, 0, none⟩), .pointer (some ⟨bb, 0, none⟩), .pointer (some ⟨bp, 0, none⟩), .pointer (some ⟨bk, 0, none⟩)]
def callC (Wg bs ba bt bb bp bk : Nat) : Deferred := { target := .fn (.func 78) (capt Wg bs ba bt bb bp bk), args := #[] }
def dDone (Wg : Nat) : Deferred := dcall 79 #[.pointer (some ⟨Wg, 0, none⟩)]
theorem cl_dep : depOk clO = true := by kernel_rfl
theorem cl_lt : depLt clO = true := by kernel_rfl
theorem cl_ns : Region.noSelect clO = true := by kernel_rfl
theorem cl_size : clO.size = 9 := by kernel_rfl
theorem cl_body : Tryd.f78.body = some (.seq (sq1 (Tryd.f78.body.getD .skip)) clB) := rfl
section
variable {Wg bs ba bt bb bp bk : Nat}
theorem birth (w : World) : stepG Tryd.prog false (born Tryd.prog (callC Wg bs ba bt bb bp bk)) w =
    .go (G (fd true 78 15 [] (fun j => (capt Wg bs ba bt bb bp bk).getD j undef) [.code (.seq (sq1 (Tryd.f78.body.getD .skip)) clB)]) [botF]) w #[] := by
  have h1 : Frame.enter Tryd.prog 78 (capt Wg bs ba bt bb bp bk) .deferred = fd true 78 15 [] (fun j => (capt Wg bs ba bt bb bp bk).getD j undef) [.code (.seq (sq1 (Tryd.f78.body.getD .skip)) clB)] := by
    have h2 := enter_fd (P := Tryd.prog) (capt Wg bs ba bt bb bp bk) Tryd.func78 cl_body (show 7 ≤ 15 by omega)
    have h3 : Frame.enter Tryd.prog 78 (capt Wg bs ba bt bb bp bk) .deferred = { Frame.enter Tryd.prog 78 (capt Wg bs ba bt bb bp bk) .normal with kind := .deferred } := rfl
    rw [h3, h2]
    rfl
  rw [← h1]
  simp [born, callC, stepG, unwind, callDeferred, invoke, callFunc, Tryd.func78, Tryd.f78, seen, GStep.after, G, botF]
end
structure Bx (Sh : Nat → Prop) (vz va : Value) (c : Nat) (back : Bool) (C n k bs ba bt bb bp bk : Nat) (w : World) : Prop where
  s : Sh bs ∧ w.cell? ⟨bs, 0, none⟩ = some vz
  a : Sh ba ∧ w.cell? ⟨ba, 0, none⟩ = some va
  t : Sh bt ∧ w.cell? ⟨bt, 0, none⟩ = some (.chan (some c))
  b : Sh bb ∧ w.cell? ⟨bb, 0, none⟩ = some (.bool back)
  p : Sh bp ∧ w.cell? ⟨bp, 0, none⟩ = some (.slice (some ⟨C, 0, none⟩) n n)
  k : Sh bk ∧ w.cell? ⟨bk, 0, none⟩ = some (.int .i64 (k : Int))
theorem cell_same {w w' : World} {b o : Nat} {v : Value} (h : w.cell? ⟨b, o, none⟩ = some v) (e : w'.heap[b]? = w.heap[b]?) : w'.cell? ⟨b, o, none⟩ = some v := by
  simp only [World.cell?, e] at h ⊢
  exact h
section
variable {Sh : Nat → Prop} {vz va : Value} {c : Nat} {back : Bool} {C n k Wg bs ba bt bb bp bk : Nat} {w w' : World}
theorem Bx.keep (h : Bx Sh vz va c back C n k bs ba bt bb bp bk w) (hk : ∀ b, Sh b → w'.heap[b]? = w.heap[b]?) : Bx Sh vz va c back C n k bs ba bt bb bp bk w' :=
  ⟨⟨h.s.1, cell_same h.s.2 (hk _ h.s.1)⟩, ⟨h.a.1, cell_same h.a.2 (hk _ h.a.1)⟩, ⟨h.t.1, cell_same h.t.2 (hk _ h.t.1)⟩, ⟨h.b.1, cell_same h.b.2 (hk _ h.b.1)⟩, ⟨h.p.1, cell_same h.p.2 (hk _ h.p.1)⟩, ⟨h.k.1, cell_same h.k.2 (hk _ h.k.1)⟩⟩
def clFin (Wg bs ba bt bb bp bk : Nat) (vz va v : Value) (c : Nat) (back : Bool) (C n k : Nat) : Nat → Value := fun j =>
  if j = 7 then .slice (some ⟨C, 0, none⟩) n n else if j = 8 then .int .i64 (k : Int) else if j = 9 then vz else if j = 10 then va else if j = 11 then .chan (some c) else if j = 12 then .bool back else if j = 13 then v else if j = 14 then .pointer (some ⟨C, k, none⟩) else (capt Wg bs ba bt bb bp bk).getD j undef
theorem cl_fin (v : Value) : ∀ d, (∀ (i : Nat) (o : Oper), clO[i]? = some o → o.dst ≠ some d) → clFin Wg bs ba bt bb bp bk vz va v c back C n k d = (capt Wg bs ba bt bb bp bk).getD d undef := by
  intro d h
  unfold clFin
  rw [if_neg fun e => h 0 _ (rfl : clO[0]? = some _) (by rw [e]; rfl)]
  rw [if_neg fun e => h 1 _ (rfl : clO[1]? = some _) (by rw [e]; rfl)]
  rw [if_neg fun e => h 2 _ (rfl : clO[2]? = some _) (by rw [e]; rfl)]
  rw [if_neg fun e => h 3 _ (rfl : clO[3]? = some _) (by rw [e]; rfl)]
  rw [if_neg fun e => h 4 _ (rfl : clO[4]? = some _) (by rw [e]; rfl)]
  rw [if_neg fun e => h 5 _ (rfl : clO[5]? = some _) (by rw [e]; rfl)]
  rw [if_neg fun e => h 6 _ (rfl : clO[6]? = some _) (by rw [e]; rfl)]
  rw [if_neg fun e => h 7 _ (rfl : clO[7]? = some _) (by rw [e]; rfl)]
variable [Payload] {ty : TypeId} {i : Nat} {Stop : Stp} {Ow : Nat → Prop} {q : List Item} {cs : List Frame} {ds : List Deferred}
theorem cl_hop (hB : Bx Sh vz va c back C n k bs ba bt bb bp bk w) (hkn : k < n) (v : Value) : ∀ (j : Nat) (o : Oper), clO[j]? = some o → ¬ (j = 6 ∨ j = 8) → ∃ u, (∀ d, o.dst = some d → u = clFin Wg bs ba bt bb bp bk vz va v c back C n k d) ∧
    ∀ σ rest, execOp (evT (arr 15 σ)) o = execOp (evT (arr 15 (clFin Wg bs ba bt bb bp bk vz va v c back C n k))) o → Wy Tryd.prog false Wg i yes Sh Stop Ow (G (fd true 78 15 ds (put σ o.dst u) (.inRegion clO rest :: q)) cs) w → Wy Tryd.prog false Wg i yes Sh Stop Ow (G (fd true 78 15 ds σ (.inRegion clO (j :: rest) :: q)) cs) w
  | 0, o, ho, _ => by
    have e : clO[0]? = some _ := rfl
    rw [e] at ho
    cases ho
    refine ⟨.slice (some ⟨C, 0, none⟩) n n, fun d hd => by cases hd; rfl, fun σ rest he h => ?_⟩
    refine wy_val _ _ (rfl : clO[0]? = some _) rfl rfl (fun w₁ k₁ => ?_) h
    have e2 : ∀ ρ, execOp ρ clO[0] = execOp ρ ⟨none, .load 74 (.tmp 5), 0, "", #[], none⟩ := fun _ => rfl
    have hc := cell_same hB.p.2 (k₁.kept.block bp (.inl hB.p.1))
    rw [he, e2]
    refine ⟨#[⟨.cell ⟨bp, 0, none⟩, false, false⟩], run_ev (by simp [execOp, go_sem, evT_tmp, clFin, capt, hc]) (by simp [execOp, go_sem, evT_tmp, clFin, capt, hc]), fun e he => ?_⟩
    rw [Array.mem_singleton] at he
    subst he
    exact ⟨_, rfl, rfl, rfl, .inl hB.p.1⟩
  | 1, o, ho, _ => by
    have e : clO[1]? = some _ := rfl
    rw [e] at ho
    cases ho
    refine ⟨.int .i64 (k : Int), fun d hd => by cases hd; rfl, fun σ rest he h => ?_⟩
    refine wy_val _ _ (rfl : clO[1]? = some _) rfl rfl (fun w₁ k₁ => ?_) h
    have e2 : ∀ ρ, execOp ρ clO[1] = execOp ρ ⟨none, .load 3 (.tmp 6), 0, "", #[], none⟩ := fun _ => rfl
    have hc := cell_same hB.k.2 (k₁.kept.block bk (.inl hB.k.1))
    rw [he, e2]
    refine ⟨#[⟨.cell ⟨bk, 0, none⟩, false, false⟩], run_ev (by simp [execOp, go_sem, evT_tmp, clFin, capt, hc]) (by simp [execOp, go_sem, evT_tmp, clFin, capt, hc]), fun e he => ?_⟩
    rw [Array.mem_singleton] at he
    subst he
    exact ⟨_, rfl, rfl, rfl, .inl hB.k.1⟩
  | 2, o, ho, _ => by
    have e : clO[2]? = some _ := rfl
    rw [e] at ho
    cases ho
    refine ⟨vz, fun d hd => by cases hd; rfl, fun σ rest he h => ?_⟩
    refine wy_val _ _ (rfl : clO[2]? = some _) rfl rfl (fun w₁ k₁ => ?_) h
    have e2 : ∀ ρ, execOp ρ clO[2] = execOp ρ ⟨none, .load 22 (.tmp 1), 0, "", #[], none⟩ := fun _ => rfl
    have hc := cell_same hB.s.2 (k₁.kept.block bs (.inl hB.s.1))
    rw [he, e2]
    refine ⟨#[⟨.cell ⟨bs, 0, none⟩, false, false⟩], run_ev (by simp [execOp, go_sem, evT_tmp, clFin, capt, hc]) (by simp [execOp, go_sem, evT_tmp, clFin, capt, hc]), fun e he => ?_⟩
    rw [Array.mem_singleton] at he
    subst he
    exact ⟨_, rfl, rfl, rfl, .inl hB.s.1⟩
  | 3, o, ho, _ => by
    have e : clO[3]? = some _ := rfl
    rw [e] at ho
    cases ho
    refine ⟨va, fun d hd => by cases hd; rfl, fun σ rest he h => ?_⟩
    refine wy_val _ _ (rfl : clO[3]? = some _) rfl rfl (fun w₁ k₁ => ?_) h
    have e2 : ∀ ρ, execOp ρ clO[3] = execOp ρ ⟨none, .load 23 (.tmp 2), 0, "", #[], none⟩ := fun _ => rfl
    have hc := cell_same hB.a.2 (k₁.kept.block ba (.inl hB.a.1))
    rw [he, e2]
    refine ⟨#[⟨.cell ⟨ba, 0, none⟩, false, false⟩], run_ev (by simp [execOp, go_sem, evT_tmp, clFin, capt, hc]) (by simp [execOp, go_sem, evT_tmp, clFin, capt, hc]), fun e he => ?_⟩
    rw [Array.mem_singleton] at he
    subst he
    exact ⟨_, rfl, rfl, rfl, .inl hB.a.1⟩
  | 4, o, ho, _ => by
    have e : clO[4]? = some _ := rfl
    rw [e] at ho
    cases ho
    refine ⟨.chan (some c), fun d hd => by cases hd; rfl, fun σ rest he h => ?_⟩
    refine wy_val _ _ (rfl : clO[4]? = some _) rfl rfl (fun w₁ k₁ => ?_) h
    have e2 : ∀ ρ, execOp ρ clO[4] = execOp ρ ⟨none, .load 122 (.tmp 3), 0, "", #[], none⟩ := fun _ => rfl
    have hc := cell_same hB.t.2 (k₁.kept.block bt (.inl hB.t.1))
    rw [he, e2]
    refine ⟨#[⟨.cell ⟨bt, 0, none⟩, false, false⟩], run_ev (by simp [execOp, go_sem, evT_tmp, clFin, capt, hc]) (by simp [execOp, go_sem, evT_tmp, clFin, capt, hc]), fun e he => ?_⟩
    rw [Array.mem_singleton] at he
    subst he
    exact ⟨_, rfl, rfl, rfl, .inl hB.t.1⟩
  | 5, o, ho, _ => by
    have e : clO[5]? = some _ := rfl
    rw [e] at ho
    cases ho
    refine ⟨.bool back, fun d hd => by cases hd; rfl, fun σ rest he h => ?_⟩
    refine wy_val _ _ (rfl : clO[5]? = some _) rfl rfl (fun w₁ k₁ => ?_) h
    have e2 : ∀ ρ, execOp ρ clO[5] = execOp ρ ⟨none, .load 4 (.tmp 4), 0, "", #[], none⟩ := fun _ => rfl
    have hc := cell_same hB.b.2 (k₁.kept.block bb (.inl hB.b.1))
    rw [he, e2]
    refine ⟨#[⟨.cell ⟨bb, 0, none⟩, false, false⟩], run_ev (by simp [execOp, go_sem, evT_tmp, clFin, capt, hc]) (by simp [execOp, go_sem, evT_tmp, clFin, capt, hc]), fun e he => ?_⟩
    rw [Array.mem_singleton] at he
    subst he
    exact ⟨_, rfl, rfl, rfl, .inl hB.b.1⟩
  | 6, _, _, hn => absurd (.inl rfl) hn
  | 7, o, ho, _ => by
    have e : clO[7]? = some _ := rfl
    rw [e] at ho
    cases ho
    refine ⟨.pointer (some ⟨C, k, none⟩), fun d hd => by cases hd; rfl, fun σ rest he h => ?_⟩
    refine wy_val _ _ (rfl : clO[7]? = some _) rfl rfl (fun w₁ k₁ => ?_) h
    have e2 : ∀ ρ, execOp ρ clO[7] = execOp ρ ⟨none, .indexAddr 74 (.tmp 7) (.tmp 8), 0, "", #[], none⟩ := fun _ => rfl
    rw [he, e2]
    exact ⟨#[], run_ev (by simp [execOp, go_sem, evT_tmp, clFin, hkn]) (by simp [execOp, go_sem, evT_tmp, clFin, hkn]), by simp⟩
  | 8, _, _, hn => absurd (.inr rfl) hn
  | j + 9, o, ho, _ => by
    have h1 := (Array.getElem?_eq_some_iff.1 ho).1
    rw [cl_size] at h1
    omega
end
theorem quitsC (σ : Nat → Value) : QuitsD Tryd.prog 2 0 (G (fdR true 78 15 [] σ []) [botF]) := by
  refine QuitsD.ctl (g' := G botF []) rfl (fun w => ?_) ?_
  · simp [G, stepG, unwind, doReturn, results, fdR, botF, Tryd.func78, Tryd.f78, seen, GStep.after, goexitEntry]
  refine QuitsD.ctl (g' := { G botF [] with status := .finished }) rfl (fun w => ?_) ⟨rfl, rfl⟩
  simp [G, stepG, unwind, botF, goexitEntry, Frame.catches]
  rfl
theorem loudC : (Tryd.prog.funcs[78]?).any (·.norace) = false := by kernel_rfl
theorem done_arr (Wg : Nat) : #[Value.pointer (some ⟨Wg, 0, none⟩)] ++ Array.replicate (Tryd.f79.ntmps - #[Value.pointer (some ⟨Wg, 0, none⟩)].size) undef = #[.pointer (some ⟨Wg, 0, none⟩), undef, undef, undef] := rfl
section
variable {Sh : Nat → Prop} {vz va : Value} {c : Nat} {back : Bool} {C n k Wg bs ba bt bb bp bk : Nat} {w : World} {i : Nat} {Ow : Nat → Prop} {Tl : Value → (Nat → Prop) → World → Prop} {N : Nat} {L : List Nat} {v : Value}
theorem payCell2 (hp : PayAt C n w) (hkn : k < n) : ∃ u, w.cell? ⟨C, k, none⟩ = some u ∧ w.frozen? ⟨C, k, none⟩ = false := by
  obtain ⟨cs, h1, h2⟩ := hp
  exact ⟨cs[k]'(by omega), by simp [World.cell?, h1, h2, hkn], by simp [World.frozen?, h1]⟩
theorem hasSet (hp : PayAt C n w) (hkn : k < n) (v : Value) : Has C k v (w.setCell ⟨C, k, none⟩ v) := by
  obtain ⟨cs, h1, h2⟩ := hp
  simp [Has, World.cell?, World.setCell, Array.getElem?_modify, h1, h2, hkn]
set_option maxRecDepth 100000 in
theorem cl_WStore (hkn : k < n) (hA : Ar Sh Ow N w v L) (hTl : Tl v Ow w) (hCW : Wg ≠ C) {σ : Nat → Value} (he : execOp (evT (arr 15 σ)) clO[8] = execOp (evT (arr 15 (clFin Wg bs ba bt bb bp bk vz va v c back C n k))) clO[8]) :
    WStore Tryd.prog wgLink.tWg Wg C n k Tl Ow (G (fd true 78 15 [dDone Wg] σ [.inRegion clO [8]]) [botF]) w := by
  obtain ⟨b, o, cp, rfl, _⟩ := hA
  refine ⟨rfl, _, hTl, fun hp hl => ?_⟩
  obtain ⟨u, hc, hz⟩ := payCell2 hp hkn
  have e2 : ∀ ρ, execOp ρ clO[8] = execOp ρ ⟨none, .store 23 (.tmp 14) (.tmp 13), 0, "", #[], none⟩ := fun _ => rfl
  have hr : (execOp (evT (arr 15 σ)) clO[8]).runT Tryd.prog w #[] = (.ok .skip (w.setCell ⟨C, k, none⟩ (.slice (some ⟨b, o, none⟩) N cp)), #[⟨.cell ⟨C, k, none⟩, true, false⟩]) := by
    rw [he, e2]
    apply run_ev
    · simp [execOp, go_sem, evT_tmp, clFin, stored, hc, hz]
    · simp [execOp, go_sem, evT_tmp, clFin, events_store Tryd.prog w #[] ⟨C, k, none⟩ (.slice (some ⟨b, o, none⟩) N cp) .plain rfl, hc, hz]
  have hs : stepG Tryd.prog false (G (fd true 78 15 [dDone Wg] σ [.inRegion clO [8]]) [botF]) w = .go (G (fd true 78 15 [dDone Wg] (put σ none undef) [.inRegion clO []]) [botF]) (w.setCell ⟨C, k, none⟩ (.slice (some ⟨b, o, none⟩) N cp)) #[⟨.cell ⟨C, k, none⟩, true, false⟩] := by
    rw [sd_oper (rfl : clO[8]? = some _) rfl, ad_skip (rfl : clO[8]? = some _) hr, seen_eq loudC (by simp)]
    rfl
  refine ⟨_, hs, 26, ?_⟩
  have hK : WgLive wgLink.tWg Wg (w.setCell ⟨C, k, none⟩ (.slice (some ⟨b, o, none⟩) N cp)) ∧ Has C k (.slice (some ⟨b, o, none⟩) N cp) (w.setCell ⟨C, k, none⟩ (.slice (some ⟨b, o, none⟩) N cp)) := by
    refine ⟨?_, hasSet hp hkn _⟩
    obtain ⟨st, sm, h⟩ := hl
    exact ⟨st, sm, by unfold WgAt; rw [Below.heap_setCell _ _ _ _ hCW]; exact h⟩
  generalize w.setCell ⟨C, k, none⟩ (.slice (some ⟨b, o, none⟩) N cp) = w1 at hK
  clear hs hr hc hz hp hl
  refine Goes.step rfl (fun w₂ h₂ => ?_)
  replace hK := kn_rely hK h₂
  clear h₂
  rw [sd_regionEnd]
  refine ⟨by u_nil, ?_⟩
  refine Goes.step rfl (fun w₃ h₃ => ?_)
  replace hK := kn_rely hK h₃
  clear h₃
  rw [sd_nil]
  refine ⟨by u_nil, ?_⟩
  refine Goes.step rfl (fun w₄ h₄ => ?_)
  replace hK := kn_rely hK h₄
  clear h₄
  have hu : stepG Tryd.prog false (G (fdR true 78 15 [dDone Wg] (put σ none undef) []) [botF]) w₄ = .go (G ((baseD wgLink.done).at ⟨#[.pointer (some ⟨Wg, 0, none⟩), undef, undef, undef], []⟩ [.code (body_done wgLink)]) (fdR true 78 15 [] (put σ none undef) [] :: [botF])) w₄ #[] :=
    (stepG_unwind_enter (b := baseD 78) (a := ⟨arr 15 (put σ none undef), [dDone Wg]⟩) (todo := []) (cs := [botF]) (ds := []) rfl Tryd.func79 (by kernel_rfl) rfl).trans (by rw [done_arr]; rfl)
  rw [hu]
  refine ⟨by u_nil, ?_⟩
  exact doneN wgLib (k := k + 1) rfl (quitsC _) _ hK
theorem Ag.change {ops : Array Oper} {fin fin' σ0 σ : Nat → Value} {listed : Array Bool} (h : Ag ops fin σ0 listed σ) (he : ∀ (i : Nat) (o : Oper) (d : Nat), ops[i]? = some o → o.dst = some d → listed[i]? = some true → fin d = fin' d) : Ag ops fin' σ0 listed σ :=
  ⟨fun i o d h1 h2 h3 => (h.don i o d h1 h2 h3).trans (he i o d h1 h2 h3), h.non⟩
theorem unl_all {listed : Array Bool} (h : ∀ i, i < listed.size → listed[i]? = some true) : unl listed = 0 := by
  unfold unl
  rw [List.count_eq_zero]
  intro hm
  rw [Array.mem_toList_iff] at hm
  obtain ⟨i, hi⟩ := Array.mem_iff_getElem?.1 hm
  have := h i (Array.getElem?_eq_some_iff.1 hi).1
  rw [hi] at this
  cases this
theorem cl_last : ((List.range 8).all fun i => clO[8].after.any fun e => Region.binds .any e && e.on == i) = true := by kernel_rfl
theorem cl_dst (j : Nat) (o : Oper) (h : clO[j]? = some o) (hd : o.dst = some 13) : j = 6 := by
  have hc : ((List.range 9).all fun j => (((clO[j]?).bind (·.dst)) != some 13) || j == 6) = true := by kernel_rfl
  have hj := (Array.getElem?_eq_some_iff.1 h).1
  rw [cl_size] at hj
  simp only [List.all_eq_true, List.mem_range] at hc
  have := hc j hj
  rw [h, Option.bind_some, hd] at this
  simpa using this
theorem clFin_ne {d : Nat} (h : d ≠ 13) (v v' : Value) : clFin Wg bs ba bt bb bp bk vz va v c back C n k d = clFin Wg bs ba bt bb bp bk vz va v' c back C n k d := by
  unfold clFin
  simp [h]
set_option maxRecDepth 100000 in
theorem cl_after (hB : Bx Sh vz va c back C n k bs ba bt bb bp bk w) (hkn : k < n) (hCW : Wg ≠ C) (hTl : ∀ w v, Ar Sh Ow N w v L → Tl v Ow w) (hA : Ar Sh Ow N w v L) {fuel t : Nat} {listed : Array Bool} {σ : Nat → Value} (h6 : 6 ∈ Region.ready .any clO listed) (hs : listed.size = clO.size) (hu : unl listed = fuel + 1) (hsu : ∀ j, (j = 6 ∨ j = 8) → listed[j]? ≠ some true) (hcl : Clo clO listed) (hAg : Ag clO (clFin Wg bs ba bt bb bp bk vz va undef c back C n k) (fun j => (capt Wg bs ba bt bb bp bk).getD j undef) listed σ) :
    Wy Tryd.prog false Wg i yes Sh (WStore Tryd.prog wgLink.tWg Wg C n k Tl) Ow (G ((fd true 78 15 [dDone Wg] σ [.inRegion clO (6 :: ordL clO fuel t (listed.setIfInBounds 6 true))]).finish v) [botF]) w := by
  rw [finish_arr _ _ _ _ _ _ _ _ _ _ (rfl : clO[6]? = some _)]
  have hl6 := ready_false hs h6
  have h6t : (listed.setIfInBounds 6 true)[6]? = some true := by
    rw [Array.getElem?_setIfInBounds, if_pos rfl, if_pos (by rw [hs, cl_size]; omega)]
  refine wy_ord (fin := clFin Wg bs ba bt bb bp bk vz va v c back C n k) (σ0 := fun j => (capt Wg bs ba bt bb bp bk).getD j undef) cl_dep cl_lt cl_ns (cl_fin v) (· = 8) ⟨8, by rw [cl_size]; omega, rfl⟩ (listed.setIfInBounds 6 true) (fun j o ho hn hl => cl_hop hB hkn v j o ho fun e => ?_) (fun j o fuel' t' listed' σ' hj ho hr hs' hu' h0 hsu' _ hAg' he => ?_) fuel t _ _ (by simp [hs]) (by have := unl_set hl6; omega) (fun _ h => h) (fun j hj e => ?_) (hcl.put h6) ?_
  · rcases e with e | e
    · subst e; exact hl h6t
    · exact hn e
  · subst hj
    have e8 : o = clO[8] := by
      have : clO[8]? = some clO[8] := rfl
      rw [this] at ho
      exact (Option.some.inj ho).symm
    subst e8
    have hl8 := ready_false hs' hr
    have hall : ∀ i, i < (listed'.setIfInBounds 8 true).size → (listed'.setIfInBounds 8 true)[i]? = some true := fun i hi => by
      by_cases hi8 : i = 8
      · subst hi8
        rw [Array.getElem?_setIfInBounds, if_pos rfl, if_pos (by rw [hs', cl_size]; omega)]
      · have hlt : i < 8 := by rw [Array.size_setIfInBounds, hs', cl_size] at hi; omega
        have h1 := cl_last
        simp only [List.all_eq_true, List.mem_range] at h1
        obtain ⟨e, he', h2⟩ := Array.any_eq_true'.1 (h1 i hlt)
        simp only [Bool.and_eq_true, beq_iff_eq] at h2
        obtain ⟨_, o2, ho2, hal⟩ := mem_ready.1 hr
        rw [ho] at ho2
        cases ho2
        have h3 := hal e he' h2.1
        rw [h2.2, Array.getD_eq_getD_getElem?] at h3
        apply set_true
        cases hl : listed'[i]? with
        | none => rw [hl] at h3; simp at h3
        | some b => rw [hl] at h3; simp at h3; rw [h3]
    have hf : fuel' = 0 := by
      have h1 := unl_set hl8
      rw [unl_all hall] at h1
      omega
    subst hf
    refine wy_stop (fun w₁ k₁ => ?_)
    have hA1 := hA.keep k₁.kept.block
    exact cl_WStore hkn hA1 (hTl _ _ hA1) hCW he
  · subst hj
    exact hsu 8 (.inr rfl) (of_set_true (by omega) e)
  · exact Ag.put (i := 6) (Ag.change hAg fun j o d h1 h2 h3 => clFin_ne (fun e => by
      subst e
      have := cl_dst j o h1 h2
      subst this
      exact hsu 6 (.inl rfl) h3) _ _) (rfl : clO[6]? = some _) hl6 (fun d hd => by cases hd; rfl)
theorem cl_draw : clB = .region 1 clO true := rfl
theorem defer_step (w : World) {σ : Nat → Value} (h0 : σ 0 = .pointer (some ⟨Wg, 0, none⟩)) {ops : Array Oper} (ho : ops[0]? = some ⟨none, .defer { callee := .value (.func 79), args := #[.tmp 0], argTypes := #[121] }, 0, "exec.go:198", #[], none⟩) {q : List Item} :
    stepG Tryd.prog false (G (fd true 78 15 [] σ (.inRegion ops [0] :: q)) [botF]) w = .go (G (fd true 78 15 [dDone Wg] σ (.inRegion ops [] :: q)) [botF]) w #[] := by
  have h := stepG_defer (P := Tryd.prog) (main := false) (b := baseD 78) (a := ⟨arr 15 σ, []⟩) (k := q) (cs := [botF]) (w := w) (rest := []) ho rfl (by simp [baseD]) rfl
  refine h.trans ?_
  have e : (#[Operand.tmp 0].map (Act.eval ⟨arr 15 σ, []⟩)) = #[Value.pointer (some ⟨Wg, 0, none⟩)] := by
    have e1 : Act.eval ⟨arr 15 σ, []⟩ (.tmp 0) = evT (arr 15 σ) (.tmp 0) := rfl
    simp [e1, evT_tmp, h0]
  rw [e]
  rfl
set_option maxRecDepth 100000 in
set_option maxHeartbeats 1000000 in
theorem child_way {dl : List Nat} {zs : List Int} {x : Nat} {xs : List Nat} {T : List (List Int)} (hG : Good zs dl) (hn : prd2 dl ≤ 1024) (hx : x < dl.length) (hkn : k < n) (hCW : Wg ≠ C) (hm : Tryd.prog.follows .mixedOrders = true)
    (hB : Bx Sh vz va c back C n k bs ba bt bb bp bk w) (hF : Fo Sh dl zs vz w) (hA : Ar Sh (fun _ => False) (prd2 dl) w va xs) (hsep : ∀ b, Sh b → b < w.heap.size) (hT : ∀ t ∈ T, Vld (nln dl x) x t) (hTl : ∀ Ow w v, Ar Sh Ow (prd2 dl) w v (wkL dl back T xs) → Tl v Ow w) :
    Wy Tryd.prog false Wg i yes Sh (WRecv Tryd.prog wgLink.tWg Wg C n i k c zTk Sh Tl (T.map tkV)) (fun _ => False) (born Tryd.prog (callC Wg bs ba bt bb bp bk)) w := by
  refine wy_ctl rfl (fun w => birth w) ?_
  refine wy_seq ?_
  refine wy_region [0] rfl ?_
  refine wy_ctl rfl (fun w => defer_step (Wg := Wg) w rfl rfl) ?_
  refine wy_regionEnd ?_
  rw [cl_draw]
  refine wy_draw (fun _ _ _ => trivial) (fun t => ?_)
  rw [sched_ord hm]
  refine wy_ord (fin := clFin Wg bs ba bt bb bp bk vz va undef c back C n k) (σ0 := fun j => (capt Wg bs ba bt bb bp bk).getD j undef) cl_dep cl_lt cl_ns (cl_fin undef) (fun j => j = 6 ∨ j = 8) ⟨8, by rw [cl_size]; omega, .inr rfl⟩ (Array.replicate clO.size false) (fun j o ho hn _ => cl_hop hB hkn undef j o ho hn) (fun j o fuel t' listed σ hj ho hr hs hu h0 hsu hcl hAg he => ?_) _ t _ _ (by simp) (unl_start _) (fun _ h => h) (fun _ _ => rep_not _ _) (Clo.start _) (Ag.start _ _ _)
  rcases hj with rfl | rfl
  · have e6 : o = clO[6] := by
      have : clO[6]? = some clO[6] := rfl
      rw [this] at ho
      exact (Option.some.inj ho).symm
    subst e6
    have e2 : ∀ ρ, execOp ρ clO[6] = execOp ρ ⟨none, .call { callee := .value (.func 80), args := #[.tmp 9, .tmp 10, .tmp 11, .tmp 12], argTypes := #[] }, 0, "", #[], none⟩ := fun _ => rfl
    refine wy_call 80 #[vz, va, .chan (some c), .bool back] ho rfl (fun w₁ => by
      rw [he, e2]
      exact run_ev (by simp [execOp, go_sem, evT_tmp, evT_func, clFin]) (by simp [execOp, go_sem, evT_tmp, evT_func, clFin, call_events Tryd.func80 (by kernel_rfl) rfl])) ?_
    rw [enter_fd #[vz, va, .chan (some c), .bool back] Tryd.func80 rfl (show 4 ≤ 23 by omega)]
    refine wy_seq ?_
    refine wy_region [0] rfl ?_
    refine wy_as (some 8) rfl rfl rfl rfl ?_
    refine wy_regionEnd ?_
    refine wy_seq ?_
    refine wy_seq ?_
    refine wy_region [0] rfl ?_
    refine wy_mv (some 10) rfl rfl rfl rfl ?_
    refine wy_regionEnd ?_
    refine wy_block ?_
    refine wy_loop ?_
    refine wy_seq ?_
    refine wy_region [0, 1] rfl ?_
    refine wy_stop (fun w₁ k₁ => ?_)
    have hk1 : ∀ b, Sh b → w₁.heap[b]? = w.heap[b]? := fun b hb => k₁.kept.block b (.inl hb)
    exact doAll_recv (Wg := Wg) (C := C) (n := n) (i := i) (k := k) (c := c) (L := wkL dl back T xs) (cs0 := [botF]) hG hn hx (E := Bx Sh vz va c back C n k bs ba bt bb bp bk) (fun w w' h hk => h.keep hk) (fun Ow w v _ _ hBw hAw => cl_after hBw hkn hCW (fun w v h => hTl Ow w v h) hAw hr hs hu hsu hcl hAg) T xs va _ _ w₁ hT rfl rfl rfl rfl rfl
      ⟨Nat.le_refl _, fun b hb => ⟨fun h => h, Nat.lt_of_lt_of_le (hsep b hb) k₁.kept.size⟩, fun _ _ => rfl⟩ (hF.keep hk1) (hB.keep hk1) (hA.keep k₁.kept.block)
  · exfalso
    have h1 := cl_last
    simp only [List.all_eq_true, List.mem_range] at h1
    obtain ⟨e, he', h2⟩ := Array.any_eq_true'.1 (h1 6 (by omega))
    simp only [Bool.and_eq_true, beq_iff_eq] at h2
    obtain ⟨_, o2, ho2, hal⟩ := mem_ready.1 hr
    have h8 : clO[8]? = some clO[8] := rfl
    rw [h8] at ho2
    cases ho2
    have h3 := hal e he' h2.1
    rw [h2.2, Array.getD_eq_getD_getElem?] at h3
    refine hsu 6 (.inl rfl) ?_
    cases hl : listed[6]? with
    | none => rw [hl] at h3; simp at h3
    | some b => rw [hl] at h3; simp at h3; rw [h3]
end
end Go.Proofs.YtckoipoejaafhaaDoor.Cc

namespace Go.Proofs.YtckoipoejaafhaaDoor.Cc
open Go Go.Conc Go.RowKit
open Go.ConcN (WgLive PayAt)
open Go.ConcR (Payload KK WgAt stA smA rd wr mk)
theorem goes_mono {P : Program} {main : Bool} {R : World → World → Prop} {D : World → World → Array Event → Prop} {St St' : Goroutine → World → Prop} (hk : ∀ g w, St g w → St' g w) : ∀ {n : Nat} {g : Goroutine} {w : World}, Go.Conc.Goes P main R D St n g w → Go.Conc.Goes P main R D St' n g w := by
  intro n
  induction n with
  | zero => intro g w h w₁ r; exact hk _ _ (h w₁ r)
  | succ n ih =>
    intro g w h
    rcases h with h | ⟨hr, h⟩
    · exact .inl fun w₁ r => hk _ _ (h w₁ r)
    · refine .inr ⟨hr, fun w₁ h₁ => ?_⟩
      have := h w₁ h₁
      revert this
      cases stepG P main g w₁ <;> simp only [GStep.goes, imp_self]
      exact fun ⟨d, x⟩ => ⟨d, ih x⟩
section
variable [Payload] {P : Program} {ty : TypeId} {Wg : Nat} {Sh Ow : Nat → Prop} {St : Goroutine → World → Prop} {Stop : Stp} {F : World → Prop}
theorem Gm.toStop (hF : ∀ w w₁, Kept Sh Ow w w₁ → F w → F w₁) (hk : ∀ g w, St g w → F w → WgLive ty Wg w → Stop Ow g w) : ∀ {m : Nat} {g : Goroutine} {w : World}, F w → Gm P ty Wg Sh Ow St m g w → Wy P true Wg 0 (I0 ty Wg) Sh Stop Ow g w := by
  intro m
  induction m with
  | zero => intro g w hf h; exact Way.stop fun w₁ s => hk g w₁ (h w₁ ⟨s.kept, fun _ => s.inv⟩) (hF _ _ s.kept hf) s.inv
  | succ m ih =>
    intro g w hf h
    rcases h with h | ⟨hr, h⟩
    · exact Way.stop fun w₁ s => hk g w₁ (h w₁ ⟨s.kept, fun _ => s.inv⟩) (hF _ _ s.kept hf) s.inv
    · refine Way.of_step hr fun w₁ s => ?_
      have h1 := h w₁ ⟨s.kept, fun _ => s.inv⟩
      cases hg : stepG P true g w₁ with
      | go g' w' es =>
        rw [hg, goes_go] at h1
        obtain ⟨⟨rfl, hev⟩, hG⟩ := h1
        exact ⟨g', w', es, Ow, rfl, Act1.still _ _ _ _ _ _ hev, ih (hF _ _ s.kept hf) hG⟩
      | _ => rw [hg] at h1; exact h1.elim
end
section
variable {w : World} {ρ : Operand → Value} {x y : Operand} {d : Option Tmp} {ty : TypeId} {pos : String} {af : Array Edge} {gd : Option (Nat × Bool)} {b o : Nat} {u : Value}
theorem setI_run {i : Int} (hx : ρ x = .pointer (some ⟨b, o, none⟩)) (hy : ρ y = .int .i64 i) (hc : w.cell? ⟨b, o, none⟩ = some u) (hz : w.frozen? ⟨b, o, none⟩ = false) : (execOp ρ ⟨d, .store 3 x y, ty, pos, af, gd⟩).runT Tryd.prog w #[] = (.ok .skip (w.setCell ⟨b, o, none⟩ (.int .i64 i)), #[⟨.cell ⟨b, o, none⟩, true, false⟩]) := by
  apply run_ev
  · simp [execOp, go_sem, hx, hy, stored, hc, hz]
  · simp [execOp, go_sem, hx, hy, storedEv, hc, hz]
theorem setC_run {i : Nat} (hx : ρ x = .pointer (some ⟨b, o, none⟩)) (hy : ρ y = .chan (some i)) (hc : w.cell? ⟨b, o, none⟩ = some u) (hz : w.frozen? ⟨b, o, none⟩ = false) : (execOp ρ ⟨d, .store 122 x y, ty, pos, af, gd⟩).runT Tryd.prog w #[] = (.ok .skip (w.setCell ⟨b, o, none⟩ (.chan (some i))), #[⟨.cell ⟨b, o, none⟩, true, false⟩]) := by
  apply run_ev
  · simp [execOp, go_sem, hx, hy, stored, hc, hz]
  · simp [execOp, go_sem, hx, hy, storedEv, hc, hz]
theorem getI_run {v : Value} (hx : ρ x = .pointer (some ⟨b, o, none⟩)) (hc : w.cell? ⟨b, o, none⟩ = some v) : (execOp ρ ⟨d, .load 3 x, ty, pos, af, gd⟩).runT Tryd.prog w #[] = (.ok (.value v) w, #[⟨.cell ⟨b, o, none⟩, false, false⟩]) := by
  apply run_ev
  · simp [execOp, go_sem, hx, hc]
  · simp [execOp, go_sem, hx, hc]
theorem getC_run {v : Value} (hx : ρ x = .pointer (some ⟨b, o, none⟩)) (hc : w.cell? ⟨b, o, none⟩ = some v) : (execOp ρ ⟨d, .load 122 x, ty, pos, af, gd⟩).runT Tryd.prog w #[] = (.ok (.value v) w, #[⟨.cell ⟨b, o, none⟩, false, false⟩]) := by
  apply run_ev
  · simp [execOp, go_sem, hx, hc]
  · simp [execOp, go_sem, hx, hc]
theorem mkC_run (hx : ρ x = .int .i64 64) : (execOp ρ ⟨d, .makeChan 122 x, ty, pos, af, gd⟩).runT Tryd.prog w #[] = (.ok (.value (.chan (some w.heap.size))) (w.alloc (.chan 64 #[] false 0 0 false)), #[]) := by
  apply run_ev
  · simp [execOp, go_sem, hx, Instr.makeChan, Tryd.t71]
  · simp [execOp, go_sem, hx, Instr.makeChan]
theorem lss_run {i j : Int} (t : Bool) (hx : ρ x = .int .i64 i) (hy : ρ y = .int .i64 j) (h : decide (i < j) = t) : (execOp ρ ⟨d, .binOp .lss 3 x y 3, ty, pos, af, gd⟩).runT Tryd.prog w #[] = (.ok (.value (.bool t)) w, #[]) := by
  subst h
  apply run_ev
  · simp [execOp, go_sem, hx, hy]
  · simp [execOp, go_sem, hx, hy]
theorem add1_run {i : Nat} (hx : ρ x = .int .i64 (i : Int)) (hy : ρ y = .int .i64 1) (h : i < 1000000) : (execOp ρ ⟨d, .binOp .add 3 x y 3, ty, pos, af, gd⟩).runT Tryd.prog w #[] = (.ok (.value (.int .i64 ((i + 1 : Nat) : Int))) w, #[]) := by
  have hw : IntKind.i64.wrap ((i : Int) + 1) = ((i + 1 : Nat) : Int) := by rw [IntKind.wrap_i64]; omega
  apply run_ev
  · simp [execOp, go_sem, hx, hy, hw]
  · simp [execOp, go_sem, hx, hy]
theorem rem_run {i n : Nat} (hx : ρ x = .int .i64 (i : Int)) (hy : ρ y = .int .i64 (n : Int)) (hn : ¬ n = 0) : (execOp ρ ⟨d, .binOp .rem 3 x y 3, ty, pos, af, gd⟩).runT Tryd.prog w #[] = (.ok (.value (.int .i64 ((i % n : Nat) : Int))) w, #[]) := by
  have h2 : Int.tmod (i : Int) (n : Int) = ((i % n : Nat) : Int) := by rw [Int.tmod_eq_emod_of_nonneg (by omega)]; rfl
  apply run_ev
  · simp [execOp, go_sem, hx, hy, hn, h2]
  · simp [execOp, go_sem, hx, hy, hn]
end
structure Es (dl : List Nat) (zs : List Int) (vz va : Value) (xs : List Nat) (back : Bool) (C n bs ba bb bp : Nat) (TT : List (List Int)) (bh oh : Nat) (Od : Nat → Prop) (w0 : World) (Sh : Nat → Prop) (w : World) : Prop where
  fo : Fo Sh dl zs vz w
  ar : Ar Sh (fun _ => False) (prd2 dl) w va xs
  s : Sh bs ∧ w.cell? ⟨bs, 0, none⟩ = some vz
  a : Sh ba ∧ w.cell? ⟨ba, 0, none⟩ = some va
  b : Sh bb ∧ w.cell? ⟨bb, 0, none⟩ = some (.bool back)
  p : Sh bp ∧ w.cell? ⟨bp, 0, none⟩ = some (.slice (some ⟨C, 0, none⟩) n n)
  h : 0 < TT.length → Sh bh
  tk : ∀ i, i < TT.length → ∀ j, j < 3 → w.cell? ⟨bh, oh + 3 * i + j, none⟩ = some (.int .i64 ((TT.getD i []).getD j 0))
  od : ∀ b, Od b → Sh b ∧ w.heap[b]? = w0.heap[b]?
section
variable {dl : List Nat} {zs : List Int} {vz va : Value} {xs : List Nat} {back : Bool} {C n bs ba bb bp : Nat} {TT : List (List Int)} {bh oh : Nat} {Od : Nat → Prop} {w0 : World} {Sh Sh' : Nat → Prop} {w w' : World}
theorem Fo.mono (h : Fo Sh dl zs vz w) (k : ∀ b, Sh b → Sh' b) : Fo Sh' dl zs vz w := by
  obtain ⟨⟨bz, oz, cz, rfl, h1, h2, h3⟩, ht, hg⟩ := h
  exact ⟨⟨bz, oz, cz, rfl, h1, k _ h2, h3⟩, ht, fun g hg' => ⟨k _ (hg g hg').1, (hg g hg').2⟩⟩
theorem Ar.mono {Ow : Nat → Prop} {N : Nat} {v : Value} {ys : List Nat} (h : Ar Sh Ow N w v ys) (k : ∀ b, Sh b → Sh' b) : Ar Sh' Ow N w v ys := by
  obtain ⟨b, o, c, rfl, h1, h2, h3, h4⟩ := h
  exact ⟨b, o, c, rfl, h1, h2, h3.imp (k b) id, h4⟩
theorem Es.keep (h : Es dl zs vz va xs back C n bs ba bb bp TT bh oh Od w0 Sh w) (k : ∀ b, Sh b → w'.heap[b]? = w.heap[b]?) : Es dl zs vz va xs back C n bs ba bb bp TT bh oh Od w0 Sh w' :=
  ⟨h.fo.keep k, h.ar.keep fun b hb => k b (hb.elim id fun q => q.elim), ⟨h.s.1, cell_same h.s.2 (k _ h.s.1)⟩, ⟨h.a.1, cell_same h.a.2 (k _ h.a.1)⟩, ⟨h.b.1, cell_same h.b.2 (k _ h.b.1)⟩, ⟨h.p.1, cell_same h.p.2 (k _ h.p.1)⟩, h.h,
    fun i hi j hj => cell_same (h.tk i hi j hj) (k _ (h.h (by omega))), fun b hb => ⟨(h.od b hb).1, (k _ (h.od b hb).1).trans (h.od b hb).2⟩⟩
theorem Es.mono (h : Es dl zs vz va xs back C n bs ba bb bp TT bh oh Od w0 Sh w) (k : ∀ b, Sh b → Sh' b) : Es dl zs vz va xs back C n bs ba bb bp TT bh oh Od w0 Sh' w :=
  ⟨h.fo.mono k, h.ar.mono k, ⟨k _ h.s.1, h.s.2⟩, ⟨k _ h.a.1, h.a.2⟩, ⟨k _ h.b.1, h.b.2⟩, ⟨k _ h.p.1, h.p.2⟩, fun q => k _ (h.h q), h.tk, fun b hb => ⟨k _ (h.od b hb).1, (h.od b hb).2⟩⟩
end
def chRow (n : Nat) (cs : List Nat) : Array Value := (cs.map (fun c => Value.chan (some c)) ++ List.replicate (n - cs.length) (Value.chan none)).toArray
structure Cs (Wg Cc n : Nat) (cs : List Nat) (Sh Ow : Nat → Prop) (w : World) : Prop where
  cc : Ow Cc ∧ w.heap[Cc]? = some (.cells (chRow n cs) 122)
  sep : ∀ b, Sh b → ¬ Ow b ∧ b < w.heap.size
  wg : ¬ Sh Wg ∧ ¬ Ow Wg ∧ Wg < w.heap.size
  lt : ∀ b, Ow b → b < w.heap.size
end Go.Proofs.YtckoipoejaafhaaDoor.Cc
