/-
  The starter's loop of go statements.
-/
import Derived.Test.YtckoipoejaafhaaDoorCeEAll
namespace Go.Proofs.YtckoipoejaafhaaDoor.Cc
open Go Go.Conc Go.RowKit Go.Conc.Lib Go.ConcR.Gen
open Go.ConcN (WgLive PayAt)
open Go.ConcR (Payload KK WgAt stA smA rd wr mk)
section
variable [Payload] {P : Program} {main : Bool} {Wg k : Nat} {I : World → Prop} {Sh : Nat → Prop} {Stop : Stp} {Ow : Nat → Prop} {w : World} {dk : Bool} {fn : FuncId} {n : Nat} {ds : List Deferred} {σ : Nat → Value} {q : List Item} {cs : List Frame} {ops : Array Oper} {i : Nat} {rest : List Nat} {o : Oper}
theorem wy_set1 (d : Option Tmp) (a : Addr) (v : Value) (ho : ops[i]? = some o) (hd : o.dst = d) (hg : o.guard = none) (hx0 : Ow a.block)
    (hx : ∀ w₁, Suf Sh Ow I w w₁ → (execOp (evT (arr n σ)) o).runT P w₁ #[] = (.ok .skip (w₁.setCell a v), #[⟨.cell a, true, false⟩]))
    (h : ∀ w₁, Suf Sh Ow I w w₁ → Wy P main Wg k I Sh Stop Ow (G (fd dk fn n ds (put σ d undef) (.inRegion ops rest :: q)) cs) (w₁.setCell a v)) : Wy P main Wg k I Sh Stop Ow (G (fd dk fn n ds σ (.inRegion ops (i :: rest) :: q)) cs) w := by
  refine wy_set d a.block (fun w => w.setCell a v) ho hd hg hx0 (fun w₁ s => ⟨_, hx w₁ s, fun e he => ?_, rfl, rfl, rfl, by simp [World.setCell], fun b hb => Below.heap_setCell _ _ _ _ hb⟩) h
  rw [Array.mem_singleton] at he
  subst he
  exact ⟨_, rfl, rfl, rfl⟩
theorem wy_get1 (d : Option Tmp) (a : Addr) (v : Value) (ho : ops[i]? = some o) (hd : o.dst = d) (hg : o.guard = none) (hs : Sh a.block ∨ Ow a.block)
    (hx : ∀ w₁, Suf Sh Ow I w w₁ → (execOp (evT (arr n σ)) o).runT P w₁ #[] = (.ok (.value v) w₁, #[⟨.cell a, false, false⟩]))
    (h : Wy P main Wg k I Sh Stop Ow (G (fd dk fn n ds (put σ d v) (.inRegion ops rest :: q)) cs) w) : Wy P main Wg k I Sh Stop Ow (G (fd dk fn n ds σ (.inRegion ops (i :: rest) :: q)) cs) w := by
  refine wy_val d v ho hd hg (fun w₁ s => ⟨_, hx w₁ s, fun e he => ?_⟩) h
  rw [Array.mem_singleton] at he
  subst he
  exact ⟨_, rfl, rfl, rfl, hs⟩
theorem Gm.on {ty : TypeId} {St : Goroutine → World → Prop} (hk : ∀ g w, St g w → Wy P true Wg 0 (I0 ty Wg) Sh Stop Ow g w) : ∀ {m : Nat} {g : Goroutine} {w : World}, Gm P ty Wg Sh Ow St m g w → Wy P true Wg 0 (I0 ty Wg) Sh Stop Ow g w := by
  intro m
  induction m with
  | zero => intro g w h; exact hk g w (h w ⟨Kept.refl _ _ _, id⟩)
  | succ m ih =>
    intro g w h
    rcases h with h | ⟨hr, h⟩
    · exact hk g w (h w ⟨Kept.refl _ _ _, id⟩)
    · refine Way.of_step hr fun w₁ s => ?_
      have h1 := h w₁ ⟨s.kept, fun _ => s.inv⟩
      cases hg : stepG P true g w₁ with
      | go g' w' es =>
        rw [hg, goes_go] at h1
        obtain ⟨⟨rfl, hev⟩, hG⟩ := h1
        exact ⟨g', w', es, Ow, rfl, Act1.still _ _ _ _ _ _ hev, ih hG⟩
      | _ => rw [hg] at h1; exact h1.elim
omit [Payload] in
theorem at_kept {b : Nat} {x : Option Obj} {w₁ : World} (k : Suf Sh Ow I w w₁) (ho : Ow b) (h : w.heap[b]? = x) : w₁.heap[b]? = x := (k.kept.block b (.inr ho)).trans h
end
theorem at_alloc {w : World} {b : Nat} {o o' : Obj} (h : w.heap[b]? = some o) : (w.alloc o').heap[b]? = some o := by
  rw [Below.heap_alloc w o' b (Array.getElem?_eq_some_iff.1 h).1]
  exact h
theorem at_set {w : World} {b : Nat} {o : Obj} {a : Addr} {v : Value} (h : w.heap[b]? = some o) (hb : b ≠ a.block) : (w.setCell a v).heap[b]? = some o := by
  rw [Below.heap_setCell w a v b hb]
  exact h
theorem at_set0 {w : World} {b : Nat} {u v : Value} {e : TypeId} (h : w.heap[b]? = some (.cells #[u] e)) : (w.setCell ⟨b, 0, none⟩ v).heap[b]? = some (.cells #[v] e) := by
  simp only [World.setCell, Array.getElem?_modify, if_true, h, Option.map_some]
  rfl
theorem cell0 {w : World} {b : Nat} {u : Value} {e : TypeId} (h : w.heap[b]? = some (.cells #[u] e)) : w.cell? ⟨b, 0, none⟩ = some u := by simp [World.cell?, h]
theorem thaw {w : World} {b o : Nat} {cs : Array Value} {e : TypeId} (h : w.heap[b]? = some (.cells cs e)) : w.frozen? ⟨b, o, none⟩ = false := by simp [World.frozen?, h]
theorem lt_of_at {w : World} {b : Nat} {o : Obj} (h : w.heap[b]? = some o) : b < w.heap.size := (Array.getElem?_eq_some_iff.1 h).1
theorem at_put (fn : FuncId) (n : Nat) (ds : List Deferred) (σ : Nat → Value) (d : Option Tmp) (v : Value) (k : List Item) : (base fn).at (Act.put ⟨arr n σ, ds⟩ d v) k = fd false fn n ds (put σ d v) k := by
  cases d with
  | none => rfl
  | some d =>
    have e : arr n (put σ (some d) v) = (arr n σ).setIfInBounds d v := (arr_set n σ d v).symm
    unfold fd
    rw [e]
    rfl
theorem live_set {ty : TypeId} {Wg : Nat} {w : World} {a : Addr} {v : Value} (h : WgLive ty Wg w) (hb : Wg ≠ a.block) : WgLive ty Wg (w.setCell a v) := by
  obtain ⟨st, sm, h⟩ := h
  exact ⟨st, sm, by unfold WgAt; rw [Below.heap_setCell _ _ _ _ hb]; exact h⟩
theorem Cs.keep {Wg Cc n : Nat} {cs : List Nat} {Sh Ow : Nat → Prop} {w w₁ : World} (h : Cs Wg Cc n cs Sh Ow w) (k : Kept Sh Ow w w₁) : Cs Wg Cc n cs Sh Ow w₁ :=
  ⟨⟨h.cc.1, (k.block _ (.inr h.cc.1)).trans h.cc.2⟩, fun b hb => ⟨(h.sep b hb).1, Nat.lt_of_lt_of_le (h.sep b hb).2 k.size⟩, ⟨h.wg.1, h.wg.2.1, Nat.lt_of_lt_of_le h.wg.2.2 k.size⟩, fun b hb => Nat.lt_of_lt_of_le (h.lt b hb) k.size⟩
def dealT (n : Nat) (TT : List (List Int)) (k : Nat) : List (List Int) := (TT.zipIdx.filter fun p => p.2 % n == k).map (·.1)
def sendL (n : Nat) (TT : List (List Int)) : List (Nat × Value) := TT.zipIdx.map fun p => (p.2 % n, tkV p.1)
theorem left_deal (n : Nat) (TT : List (List Int)) (k : Nat) : left (sendL n TT) k = (dealT n TT k).map tkV := by
  simp only [left, sendL, dealT, List.filter_map, List.map_map]
  rfl
theorem dealT_mem {n : Nat} {TT : List (List Int)} {k : Nat} {t : List Int} (h : t ∈ dealT n TT k) : t ∈ TT := by
  simp only [dealT, List.mem_map, List.mem_filter] at h
  obtain ⟨p, ⟨hp, _⟩, rfl⟩ := h
  exact (List.mem_zipIdx_iff_getElem?.1 hp |> List.mem_of_getElem?)
theorem chRow_at {n : Nat} {cs : List Nat} (h : cs.length < n) : (chRow n cs)[cs.length]? = some (.chan none) := by
  have : n - cs.length = (n - cs.length - 1) + 1 := by omega
  simp only [chRow, List.getElem?_toArray]
  rw [List.getElem?_append_right (by simp), this]
  simp [List.replicate_succ]
theorem chRow_set {n : Nat} {cs : List Nat} (h : cs.length < n) (c : Nat) : (chRow n cs).setIfInBounds cs.length (.chan (some c)) = chRow n (cs ++ [c]) := by
  have e : n - cs.length = (n - (cs.length + 1)) + 1 := by omega
  simp only [chRow, List.setIfInBounds_toArray, List.map_append, List.map_cons, List.map_nil, List.length_append, List.length_cons, List.length_nil, Nat.zero_add]
  rw [e, List.replicate_succ]
  congr 1
  rw [List.set_append_right _ _ (by simp)]
  simp
theorem chRow_get {n : Nat} {cs : List Nat} {k c : Nat} (h : cs[k]? = some c) : (chRow n cs)[k]? = some (.chan (some c)) := by
  simp only [chRow, List.getElem?_toArray]
  rw [List.getElem?_append_left (by simpa using (List.getElem?_eq_some_iff.1 h).1)]
  simp [h]
theorem row_set {w : World} {b j : Nat} {cs : Array Value} {e : TypeId} {v : Value} (h : w.heap[b]? = some (.cells cs e)) : (w.setCell ⟨b, j, none⟩ v).heap[b]? = some (.cells (cs.setIfInBounds j v) e) := by
  simp only [World.setCell, Array.getElem?_modify, if_true, h, Option.map_some]
  rfl
noncomputable def wtB : Code := Tryd.f37.body.getD .skip
noncomputable def wc3 : Code := sq2 (sq2 (sq2 wtB))
noncomputable def wc4 : Code := sq2 wc3
noncomputable def wc5 : Code := sq2 wc4
noncomputable def wc6 : Code := sq2 wc5
noncomputable def wc7 : Code := sq2 wc6
noncomputable def wL1 : Code := lop (blk (sq2 (sq1 wc4)))
noncomputable def wL2 : Code := lop (blk (sq2 (sq1 wc5)))
noncomputable def wL3 : Code := lop (blk (sq2 (sq1 wc6)))
structure Sg (n bs ba bb bp Cc Wg : Nat) (vp : Value) (σ : Nat → Value) : Prop where
  s2 : σ 2 = vp
  s3 : σ 3 = .int .i64 (n : Int)
  s5 : σ 5 = .pointer (some ⟨bs, 0, none⟩)
  s6 : σ 6 = .pointer (some ⟨ba, 0, none⟩)
  s9 : σ 9 = .pointer (some ⟨bb, 0, none⟩)
  s11 : σ 11 = .pointer (some ⟨bp, 0, none⟩)
  s12 : σ 12 = .slice (some ⟨Cc, 0, none⟩) n n
  s13 : σ 13 = .pointer (some ⟨Wg, 0, none⟩)
theorem Sg.of {n bs ba bb bp Cc Wg : Nat} {vp : Value} {σ σ' : Nat → Value} (h : Sg n bs ba bb bp Cc Wg vp σ) (e2 : σ' 2 = σ 2) (e3 : σ' 3 = σ 3) (e5 : σ' 5 = σ 5) (e6 : σ' 6 = σ 6) (e9 : σ' 9 = σ 9) (e11 : σ' 11 = σ 11) (e12 : σ' 12 = σ 12) (e13 : σ' 13 = σ 13) : Sg n bs ba bb bp Cc Wg vp σ' :=
  ⟨e2.trans h.s2, e3.trans h.s3, e5.trans h.s5, e6.trans h.s6, e9.trans h.s9, e11.trans h.s11, e12.trans h.s12, e13.trans h.s13⟩
theorem rep115 : Array.replicate 115 undef = #[undef, undef, undef, undef, undef, undef, undef, undef, undef, undef, undef, undef, undef, undef, undef, undef, undef, undef, undef, undef, undef, undef, undef, undef, undef, undef, undef, undef, undef, undef, undef, undef, undef, undef, undef, undef, undef, undef, undef, undef, undef, undef, undef, undef, undef, undef, undef, undef, undef, undef, undef, undef, undef, undef, undef, undef, undef, undef, undef, undef, undef, undef, undef, undef, undef, undef, undef, undef, undef, undef, undef, undef, undef, undef, undef, undef, undef, undef, undef, undef, undef, undef, undef, undef, undef, undef, undef, undef, undef, undef, undef, undef, undef, undef, undef, undef, undef, undef, undef, undef, undef, undef, undef, undef, undef, undef, undef, undef, undef, undef, undef, undef, undef, undef, undef] := by kernel_rfl
theorem add_ntmps (L : WgLink) : (addFn L).ntmps = 117 := rfl
theorem add_body (L : WgLink) : (addFn L).body = some (body_add L) := by
  have hs : (addFn L).body.isSome = true := rfl
  unfold body_add
  cases h : (addFn L).body with
  | none => rw [h] at hs; cases hs
  | some c => rfl
theorem app2 (a b : Value) (l : List Value) : #[a, b] ++ l.toArray = (a :: b :: l).toArray := by simp
theorem add_enter (Wg : Nat) : Frame.enter Tryd.prog wgLink.add #[.pointer (some ⟨Wg, 0, none⟩), .int .i64 1] .normal = (base wgLink.add).at ⟨#[.pointer (some ⟨Wg, 0, none⟩), .int .i64 1, undef, undef, undef, undef, undef, undef, undef, undef, undef, undef, undef, undef, undef, undef, undef, undef, undef, undef, undef, undef, undef, undef, undef, undef, undef, undef, undef, undef, undef, undef, undef, undef, undef, undef, undef, undef, undef, undef, undef, undef, undef, undef, undef, undef, undef, undef, undef, undef, undef, undef, undef, undef, undef, undef, undef, undef, undef, undef, undef, undef, undef, undef, undef, undef, undef, undef, undef, undef, undef, undef, undef, undef, undef, undef, undef, undef, undef, undef, undef, undef, undef, undef, undef, undef, undef, undef, undef, undef, undef, undef, undef, undef, undef, undef, undef, undef, undef, undef, undef, undef, undef, undef, undef, undef, undef, undef, undef, undef, undef, undef, undef, undef, undef, undef, undef], []⟩ [.code (body_add wgLink)] := by
  have h := enter_at (P := Tryd.prog) #[.pointer (some ⟨Wg, 0, none⟩), .int .i64 1] wgLib.f_add (add_body wgLink)
  have e : #[Value.pointer (some ⟨Wg, 0, none⟩), .int .i64 1] ++ Array.replicate ((addFn wgLink).ntmps - #[Value.pointer (some ⟨Wg, 0, none⟩), .int .i64 1].size) undef = #[.pointer (some ⟨Wg, 0, none⟩), .int .i64 1, undef, undef, undef, undef, undef, undef, undef, undef, undef, undef, undef, undef, undef, undef, undef, undef, undef, undef, undef, undef, undef, undef, undef, undef, undef, undef, undef, undef, undef, undef, undef, undef, undef, undef, undef, undef, undef, undef, undef, undef, undef, undef, undef, undef, undef, undef, undef, undef, undef, undef, undef, undef, undef, undef, undef, undef, undef, undef, undef, undef, undef, undef, undef, undef, undef, undef, undef, undef, undef, undef, undef, undef, undef, undef, undef, undef, undef, undef, undef, undef, undef, undef, undef, undef, undef, undef, undef, undef, undef, undef, undef, undef, undef, undef, undef, undef, undef, undef, undef, undef, undef, undef, undef, undef, undef, undef, undef, undef, undef, undef, undef, undef, undef, undef, undef] := by
    rw [add_ntmps]
    refine Eq.trans (congrArg _ rep115) ?_
    exact app2 _ _ _
  rw [e] at h
  exact h
theorem go_spawn {fn : FuncId} {n : Nat} {σ : Nat → Value} {ops : Array Oper} {rest : List Nat} {k : List Item} {cs : List Frame} {w : World} {Wg bs ba bt bb bp bk : Nat} {pos : String} {af : Array Edge} (ho : ops[1]? = some ⟨none, .go { callee := .value (.tmp 34), args := #[], argTypes := #[] }, 0, pos, af, none⟩) (hn : 34 < n) (h : σ 34 = .func (.func 78) #[] (capt Wg bs ba bt bb bp bk)) :
    stepG Tryd.prog true (G (fd false fn n [] σ (.inRegion ops (1 :: rest) :: k)) cs) w = .spawn (G (fd false fn n [] σ (.inRegion ops rest :: k)) cs) (born Tryd.prog (callC Wg bs ba bt bb bp bk)) w #[] := by
  have hr : (execOp (evT (arr n σ)) ⟨none, .go { callee := .value (.tmp 34), args := #[], argTypes := #[] }, 0, pos, af, none⟩).runT Tryd.prog w #[] = (.ok (.spawn (callC Wg bs ba bt bb bp bk)) w, #[]) := by
    apply run_ev
    · simp [execOp, go_sem, resolve, Deferred.ofValue, evT_tmp, hn, h, callC]
    · simp [execOp, go_sem, resolve, Deferred.ofValue, evT_tmp, hn, h]
  have hf : (fd false fn n [] σ (.inRegion ops (1 :: rest) :: k)).finish undef = fd false fn n [] σ (.inRegion ops rest :: k) := (finish_arr _ _ _ _ _ _ _ _ _ _ ho)
  rw [sd_oper ho rfl, ← hf]
  unfold stepG.apply
  dsimp only
  rw [if_pos rfl, hr]
  simp [fd, G, GStep.after, seen, born, callC]
section
variable {dl : List Nat} {zs : List Int} {vz va : Value} {xs : List Nat} {x : Nat} {back : Bool} {C n Cc Wg bs ba bb bp : Nat} {TT : List (List Int)} {bh oh ch : Nat} {Od : Nat → Prop} {w0 : World} {q : Nat} {gA : Goroutine → Prop} {Fx : (Nat → Prop) → (Nat → Prop) → World → Prop} {cs0 : List Frame}
def TlW (dl : List Nat) (xs : List Nat) (back : Bool) (n : Nat) (TT : List (List Int)) (k : Nat) (v : Value) (Sh Ow : Nat → Prop) (w : World) : Prop := Ar Sh Ow (prd2 dl) w v (wkL dl back (dealT n TT k) xs)
set_option maxRecDepth 100000 in
set_option maxHeartbeats 4000000 in
theorem spawn_way (hG : Good zs dl) (hn : prd2 dl ≤ 1024) (hx : x < dl.length) (hn8 : n ≤ 8) (hCW : Wg ≠ C) (hm : Tryd.prog.follows .mixedOrders = true) (hT : ∀ t ∈ TT, Vld (nln dl x) x t)
    (hsend : ∀ (cs : List Nat) (Sh Ow : Nat → Prop) (w : World) (σ : Nat → Value), cs.length = n → Sg n bs ba bb bp Cc Wg (.slice (some ⟨bh, oh, none⟩) TT.length ch) σ → Es dl zs vz va xs back C n bs ba bb bp TT bh oh Od w0 Sh w → Cs Wg Cc n cs Sh Ow w → WgLive wgLink.tWg Wg w →
      Wy Tryd.prog true Wg 0 (I0 wgLink.tWg Wg) Sh (MSend Tryd.prog wgLink.tWg Wg Sh gA Fx cs (sendL n TT)) Ow (G (fd false 37 61 [] σ [.code wc5]) cs0) w) :
    ∀ (r : Nat) (cs : List Nat) (Sh Ow : Nat → Prop) (w : World) (σ : Nat → Value), cs.length + r = n → Sg n bs ba bb bp Cc Wg (.slice (some ⟨bh, oh, none⟩) TT.length ch) σ → σ 24 = .int .i64 (n : Int) → σ 25 = .int .i64 (cs.length : Int) → Es dl zs vz va xs back C n bs ba bb bp TT bh oh Od w0 Sh w → Cs Wg Cc n cs Sh Ow w → WgLive wgLink.tWg Wg w →
      Wy Tryd.prog true Wg 0 (I0 wgLink.tWg Wg) Sh (MSpawn Tryd.prog wgLink.tWg Wg C n gA Fx q 64 zTk (TlW dl xs back n TT) (left (sendL n TT)) (sendL n TT) r Sh cs) Ow (G (fd false 37 61 [] σ [.code wL1, .inLoop wL1, .inBlock 0, .code wc5]) cs0) w := by
  intro r
  induction r with
  | zero =>
    intro cs Sh Ow w σ hr hS h24 h25 hE hC hl
    refine wy_seq ?_
    refine wy_region [0] rfl ?_
    refine wy_pure (some 26) (.bool false) rfl rfl rfl (fun _ => lss_run (i := (cs.length : Int)) (j := (n : Int)) false (by simp [evT_tmp, h25]) (by simp [evT_tmp, h24]) (decide_eq_false (by omega))) ?_
    refine wy_regionEnd ?_
    refine wy_seq ?_
    refine wy_cond false (by simp [evT_tmp, put_some]) ?_
    refine wy_exit rfl ?_
    exact hsend cs Sh Ow w _ (by omega) (hS.of rfl rfl rfl rfl rfl rfl rfl rfl) hE hC hl
  | succ r ih =>
    intro cs Sh Ow w σ hr hS h24 h25 hE hC hl
    have hcn : cs.length < n := by omega
    refine wy_seq ?_
    refine wy_region [0] rfl ?_
    refine wy_pure (some 26) (.bool true) rfl rfl rfl (fun _ => lss_run (i := (cs.length : Int)) (j := (n : Int)) true (by simp [evT_tmp, h25]) (by simp [evT_tmp, h24]) (decide_eq_true (by omega))) ?_
    refine wy_regionEnd ?_
    refine wy_seq ?_
    refine wy_cond true (by simp [evT_tmp, put_some]) ?_
    refine wy_skip ?_
    refine wy_seq ?_
    refine wy_block ?_
    refine wy_seq ?_
    refine wy_region [0, 1, 2] rfl ?_
    refine wy_mv (some 27) rfl rfl rfl rfl ?_
    refine wy_new (some 14) (fun B => .pointer (some ⟨B, 0, none⟩)) (.cells #[.int .i64 0] 3) rfl rfl rfl (fun w₁ => run_ev (by simp [execOp, go_sem]) (by simp [execOp, go_sem])) (fun w₁ k₁ => ?_)
    have hJ1 := ((Jn.refl hC.sep).kept k₁.kept).new (.cells #[.int .i64 0] 3)
    have hcc1 := at_alloc (o' := .cells #[.int .i64 0] 3) (at_kept k₁ hC.cc.1 hC.cc.2)
    have hb1 := alloc_at w₁ (.cells #[.int .i64 0] 3)
    have hz1 : w.heap.size ≤ w₁.heap.size := k₁.kept.size
    generalize w₁.alloc (.cells #[.int .i64 0] 3) = wA at hJ1 hcc1 hb1
    generalize w₁.heap.size = B at hJ1 hb1 hz1
    clear k₁
    have hcB : Cc ≠ B := fun e => by have := hC.lt Cc hC.cc.1; omega
    refine wy_set1 none ⟨B, 0, none⟩ (.int .i64 (cs.length : Int)) rfl rfl rfl (.inr rfl) (fun w₂ k₂ => setI_run (by simp [evT_tmp, put_some]) (by simp [evT_tmp, put_some, h25]) (cell0 (at_kept k₂ (.inr rfl) hb1)) (thaw (at_kept k₂ (.inr rfl) hb1))) (fun w₂ k₂ => ?_)
    have hJ2 := (hJ1.kept k₂.kept).set (a := ⟨B, 0, none⟩) (.inr rfl) (.int .i64 (cs.length : Int))
    have hcc2 := at_set (a := ⟨B, 0, none⟩) (v := .int .i64 (cs.length : Int)) (at_kept k₂ (.inl hC.cc.1) hcc1) hcB
    have hb2 := at_set0 (v := .int .i64 (cs.length : Int)) (at_kept k₂ (.inr rfl) hb1)
    generalize w₂.setCell ⟨B, 0, none⟩ (.int .i64 (cs.length : Int)) = wB at hJ2 hcc2 hb2
    clear k₂ hJ1 hcc1 hb1
    refine wy_regionEnd ?_
    refine wy_seq ?_
    refine wy_region [0, 1, 2] rfl ?_
    refine wy_new (some 28) (fun c => .chan (some c)) (.chan 64 #[] false 0 0 false) rfl rfl rfl (fun w₁ => mkC_run rfl) (fun w₃ k₃ => ?_)
    have hJ3 := (hJ2.kept k₃.kept).new (.chan 64 #[] false 0 0 false)
    have hcc3 := at_alloc (o' := .chan 64 #[] false 0 0 false) (at_kept k₃ (.inl hC.cc.1) hcc2)
    have hb3 := at_alloc (o' := .chan 64 #[] false 0 0 false) (at_kept k₃ (.inr rfl) hb2)
    have hch3 := alloc_at w₃ (.chan 64 #[] false 0 0 false)
    have hBc : B < w₃.heap.size := lt_of_at (at_kept k₃ (.inr rfl) hb2)
    have hCcc : Cc < w₃.heap.size := lt_of_at (at_kept k₃ (.inl hC.cc.1) hcc2)
    have hz3 : w.heap.size ≤ w₃.heap.size := (hJ2.kept k₃.kept).size
    generalize w₃.alloc (.chan 64 #[] false 0 0 false) = wC at hJ3 hcc3 hb3 hch3
    generalize w₃.heap.size = c at hJ3 hch3 hBc hCcc hz3
    clear k₃ hJ2 hcc2 hb2
    refine wy_new (some 15) (fun B => .pointer (some ⟨B, 0, none⟩)) (.cells #[.chan none] 122) rfl rfl rfl (fun w₁ => run_ev (by simp [execOp, go_sem]) (by simp [execOp, go_sem])) (fun w₄ k₄ => ?_)
    have hJ4 := (hJ3.kept k₄.kept).new (.cells #[.chan none] 122)
    have hcc4 := at_alloc (o' := .cells #[.chan none] 122) (at_kept k₄ (.inl (.inl hC.cc.1)) hcc3)
    have hb4 := at_alloc (o' := .cells #[.chan none] 122) (at_kept k₄ (.inl (.inr rfl)) hb3)
    have hch4 := at_alloc (o' := .cells #[.chan none] 122) (at_kept k₄ (.inr rfl) hch3)
    have hd4 := alloc_at w₄ (.cells #[.chan none] 122)
    have hcD : c < w₄.heap.size := lt_of_at (at_kept k₄ (.inr rfl) hch3)
    generalize w₄.alloc (.cells #[.chan none] 122) = wD at hJ4 hcc4 hb4 hch4 hd4
    generalize w₄.heap.size = D at hJ4 hd4 hcD
    clear k₄ hJ3 hcc3 hb3 hch3
    refine wy_set1 none ⟨D, 0, none⟩ (.chan (some c)) rfl rfl rfl (.inr rfl) (fun w₅ k₅ => setC_run (by simp [evT_tmp, put_some, put_none]) (by simp [evT_tmp, put_some, put_none]) (cell0 (at_kept k₅ (.inr rfl) hd4)) (thaw (at_kept k₅ (.inr rfl) hd4))) (fun w₅ k₅ => ?_)
    have hJ5 := (hJ4.kept k₅.kept).set (a := ⟨D, 0, none⟩) (.inr rfl) (.chan (some c))
    have hcc5 := at_set (a := ⟨D, 0, none⟩) (v := .chan (some c)) (at_kept k₅ (.inl (.inl (.inl hC.cc.1))) hcc4) (by show Cc ≠ D; omega)
    have hb5 := at_set (a := ⟨D, 0, none⟩) (v := .chan (some c)) (at_kept k₅ (.inl (.inl (.inr rfl))) hb4) (by show B ≠ D; omega)
    have hch5 := at_set (a := ⟨D, 0, none⟩) (v := .chan (some c)) (at_kept k₅ (.inl (.inr rfl)) hch4) (by show c ≠ D; omega)
    have hd5 := at_set0 (v := .chan (some c)) (at_kept k₅ (.inr rfl) hd4)
    generalize w₅.setCell ⟨D, 0, none⟩ (.chan (some c)) = wE at hJ5 hcc5 hb5 hch5 hd5
    clear k₅ hJ4 hcc4 hb4 hch4 hd4
    refine wy_regionEnd ?_
    refine wy_seq ?_
    refine wy_region [0, 1, 2, 3, 4] rfl ?_
    refine wy_mv (some 29) rfl rfl rfl rfl ?_
    refine wy_get1 (some 30) ⟨B, 0, none⟩ (.int .i64 (cs.length : Int)) rfl rfl rfl (.inr (.inl (.inl (.inr rfl)))) (fun w₆ k₆ => getI_run (by simp [evT_tmp, put_some, put_none]) (cell0 (at_kept k₆ (.inl (.inl (.inr rfl))) hb5))) ?_
    refine wy_get1 (some 31) ⟨D, 0, none⟩ (.chan (some c)) rfl rfl rfl (.inr (.inr rfl)) (fun w₆ k₆ => getC_run (by simp [evT_tmp, put_some, put_none]) (cell0 (at_kept k₆ (.inr rfl) hd5))) ?_
    refine wy_pure (some 32) (.pointer (some ⟨Cc, cs.length, none⟩)) rfl rfl rfl (fun w₆ => run_ev (by simp [execOp, go_sem, evT_tmp, put_some, put_none, hS.s12, hcn]) (by simp [execOp, go_sem, evT_tmp, put_some, put_none, hS.s12, hcn])) ?_
    refine wy_set1 none ⟨Cc, cs.length, none⟩ (.chan (some c)) rfl rfl rfl (.inl (.inl (.inl hC.cc.1))) (fun w₆ k₆ => setC_run (by simp [evT_tmp, put_some, put_none]) (by simp [evT_tmp, put_some, put_none]) (u := .chan none) (by have := at_kept k₆ (.inl (.inl (.inl hC.cc.1))) hcc5; simp [World.cell?, this, chRow_at hcn]) (thaw (at_kept k₆ (.inl (.inl (.inl hC.cc.1))) hcc5))) (fun w₆ k₆ => ?_)
    have hJ6 := (hJ5.kept k₆.kept).set (a := ⟨Cc, cs.length, none⟩) (.inl (.inl (.inl hC.cc.1))) (.chan (some c))
    have hcc6 := row_set (j := cs.length) (v := .chan (some c)) (at_kept k₆ (.inl (.inl (.inl hC.cc.1))) hcc5)
    rw [chRow_set hcn c] at hcc6
    have hb6 := at_set (a := ⟨Cc, cs.length, none⟩) (v := .chan (some c)) (at_kept k₆ (.inl (.inl (.inr rfl))) hb5) (Ne.symm hcB)
    have hch6 := at_set (a := ⟨Cc, cs.length, none⟩) (v := .chan (some c)) (at_kept k₆ (.inl (.inr rfl)) hch5) (by show c ≠ Cc; omega)
    have hd6 := at_set (a := ⟨Cc, cs.length, none⟩) (v := .chan (some c)) (at_kept k₆ (.inr rfl) hd5) (by show D ≠ Cc; omega)
    have hl6 : WgLive wgLink.tWg Wg (w₆.setCell ⟨Cc, cs.length, none⟩ (.chan (some c))) := live_set k₆.inv fun e => hC.wg.2.1 (e ▸ hC.cc.1)
    generalize w₆.setCell ⟨Cc, cs.length, none⟩ (.chan (some c)) = wF at hJ6 hcc6 hb6 hch6 hd6 hl6
    clear k₆ hJ5 hcc5 hb5 hch5 hd5
    refine wy_regionEnd ?_
    refine wy_seq ?_
    refine wy_region [0] rfl ?_
    refine wy_call wgLink.add #[.pointer (some ⟨Wg, 0, none⟩), .int .i64 1] rfl rfl (fun w₇ => run_ev (by simp [execOp, go_sem, evT_tmp, evT_const, evT_func, put_some, put_none, hS.s13]) (by simp [execOp, go_sem, evT_tmp, evT_const, evT_func, put_some, put_none, hS.s13, call_events wgLib.f_add (by rfl) (add_body wgLink)])) ?_
    rw [add_enter, fd_at]
    have hE6 := hE.keep hJ6.at_
    have hC6 : Cs Wg Cc n (cs ++ [c]) Sh (fun b => ((Ow b ∨ b = B) ∨ b = c) ∨ b = D) wF := by
      refine ⟨⟨.inl (.inl (.inl hC.cc.1)), hcc6⟩, hJ6.sep, ⟨hC.wg.1, ?_, Nat.lt_of_lt_of_le hC.wg.2.2 hJ6.size⟩, ?_⟩
      · have h3 := hC.wg.2.2
        rintro (((h | h) | h) | h)
        · exact hC.wg.2.1 h
        all_goals omega
      · rintro b (((h | h) | h) | h)
        · exact Nat.lt_of_lt_of_le (hC.lt b h) hJ6.size
        · subst h; exact lt_of_at hb6
        · subst h; exact lt_of_at hch6
        · subst h; exact lt_of_at hd6
    have hFst : ∀ w w₁, Kept Sh (fun b => ((Ow b ∨ b = B) ∨ b = c) ∨ b = D) w w₁ → (Es dl zs vz va xs back C n bs ba bb bp TT bh oh Od w0 Sh w ∧ Cs Wg Cc n (cs ++ [c]) Sh (fun b => ((Ow b ∨ b = B) ∨ b = c) ∨ b = D) w ∧ w.heap[B]? = some (.cells #[.int .i64 (cs.length : Int)] 3) ∧ w.heap[c]? = some (.chan 64 #[] false 0 0 false) ∧ w.heap[D]? = some (.cells #[.chan (some c)] 122)) →
        (Es dl zs vz va xs back C n bs ba bb bp TT bh oh Od w0 Sh w₁ ∧ Cs Wg Cc n (cs ++ [c]) Sh (fun b => ((Ow b ∨ b = B) ∨ b = c) ∨ b = D) w₁ ∧ w₁.heap[B]? = some (.cells #[.int .i64 (cs.length : Int)] 3) ∧ w₁.heap[c]? = some (.chan 64 #[] false 0 0 false) ∧ w₁.heap[D]? = some (.cells #[.chan (some c)] 122)) := fun w w₁ k ⟨h1, h2, h3, h4, h5⟩ =>
      ⟨h1.keep fun b hb => k.block b (.inl hb), h2.keep k, (k.block _ (.inr (.inl (.inl (.inr rfl))))).trans h3, (k.block _ (.inr (.inl (.inr rfl)))).trans h4, (k.block _ (.inr (.inr rfl))).trans h5⟩
    have hFw : (Es dl zs vz va xs back C n bs ba bb bp TT bh oh Od w0 Sh wF ∧ Cs Wg Cc n (cs ++ [c]) Sh (fun b => ((Ow b ∨ b = B) ∨ b = c) ∨ b = D) wF ∧ wF.heap[B]? = some (.cells #[.int .i64 (cs.length : Int)] 3) ∧ wF.heap[c]? = some (.chan 64 #[] false 0 0 false) ∧ wF.heap[D]? = some (.cells #[.chan (some c)] 122)) := ⟨hE6, hC6, hb6, hch6, hd6⟩
    refine Gm.toStop hFst (St := AdD Tryd.prog wgLink.tWg Wg Sh (fun b => ((Ow b ∨ b = B) ∨ b = c) ∨ b = D) (fun g w => (∃ σ', Sg n bs ba bb bp Cc Wg (.slice (some ⟨bh, oh, none⟩) TT.length ch) σ' ∧ σ' 24 = .int .i64 (n : Int) ∧ σ' 25 = .int .i64 (cs.length : Int) ∧ σ' 14 = .pointer (some ⟨B, 0, none⟩) ∧ σ' 15 = .pointer (some ⟨D, 0, none⟩) ∧ g = G (fd false 37 61 [] σ' [.inRegion (rgo (sq1 (sq2 (sq2 (sq2 (blk (sq1 (sq2 (sq2 wL1)))))))))  [], .code (sq2 (sq2 (sq2 (sq2 (blk (sq1 (sq2 (sq2 wL1)))))))), .inBlock 1, .code (sq2 (sq2 (sq2 wL1))), .inLoop wL1, .inBlock 0, .code wc5]) cs0) ∧ (Es dl zs vz va xs back C n bs ba bb bp TT bh oh Od w0 Sh w ∧ Cs Wg Cc n (cs ++ [c]) Sh (fun b => ((Ow b ∨ b = B) ∨ b = c) ∨ b = D) w ∧ w.heap[B]? = some (.cells #[.int .i64 (cs.length : Int)] 3) ∧ w.heap[c]? = some (.chan 64 #[] false 0 0 false) ∧ w.heap[D]? = some (.cells #[.chan (some c)] 122)) ∧ WgLive wgLink.tWg Wg w))
      (fun g w hAd _ _ => ?_) hFw (add_up wgLib hFst ⟨hC.wg.1, hC6.wg.2.1⟩ (fun w hf hw => ⟨⟨_, ?_, ?_, ?_, ?_, ?_, congrArg (G · cs0) (at_put _ _ _ _ _ _ _)⟩, hf, hw⟩) wF ⟨hFw, hl6⟩)
    · obtain ⟨hr1, g1, hs1, m1, hG1⟩ := hAd
      refine ⟨hr1, g1, hs1, m1, goes_mono (fun g2 w2 hA2 => ⟨hA2.1, fun v hv hw => ?_⟩) hG1⟩
      obtain ⟨g3, hs3, m3, hG3⟩ := hA2.2 v hv hw
      refine ⟨g3, hs3, m3, goes_mono (fun g4 w4 hA4 => ?_) hG3⟩
      obtain ⟨hr4, g5, hs5, m5, hG5⟩ := hA4
      refine ⟨hr4, g5, hs5, Gm.on (fun g6 w6 h6 => ?_) hG5⟩
      obtain ⟨⟨σ', hS', h24', h25', h14', h15', rfl⟩, ⟨hE', hC', hb', hch', hd'⟩, hl'⟩ := h6
      refine wy_regionEnd ?_
      refine wy_region [0, 1] rfl ?_
      refine wy_pure (some 34) (.func (.func 78) #[] (capt Wg bs ba D bb bp B)) rfl rfl rfl (fun w₇ => run_ev (by simp [execOp, go_sem, evT_tmp, capt, hS'.s13, hS'.s5, hS'.s6, hS'.s9, hS'.s11, h14', h15']) (by simp [execOp, go_sem, evT_tmp])) ?_
      refine wy_stop (fun w₇ k₇ => ?_)
      have hf7 := hFst _ _ k₇.kept ⟨hE', hC', hb', hch', hd'⟩
      obtain ⟨hE7, hC7, hb7, hch7, hd7⟩ := hf7
      have hmono : ∀ b, Sh b → Sh b ∨ (b = D ∨ b = B) := fun b h => .inl h
      refine ⟨rfl, _, _, c, fun b => b = D ∨ b = B, fun b => Sh b ∨ (b = D ∨ b = B), go_spawn (Wg := Wg) (bs := bs) (ba := ba) (bt := D) (bb := bb) (bp := bp) (bk := B) rfl (by omega) (by simp [put_some]), rfl, hch7, .inl (.inr rfl), (by omega), ?_, fun b h => h, ?_, ?_⟩
      · rintro b (rfl | rfl)
        · exact .inr rfl
        · exact .inl (.inl (.inr rfl))
      · rw [left_deal]
        have hE8 := hE7.mono hmono
        refine child_way (i := q + 1 + cs.length) (T := dealT n TT cs.length) (Tl := fun v => TlW dl xs back n TT cs.length v fun b => Sh b ∨ (b = D ∨ b = B)) (bs := bs) (ba := ba) (bt := D) (bb := bb) (bp := bp) (bk := B) (vz := vz) (va := va) (back := back) (xs := xs) hG hn hx hcn hCW hm ⟨hE8.s, hE8.a, ⟨.inr (.inl rfl), cell0 hd7⟩, hE8.b, hE8.p, ⟨.inr (.inr rfl), cell0 hb7⟩⟩ hE8.fo hE8.ar ?_ (fun t ht => hT t (dealT_mem ht)) (fun Ow w v h => h)
        rintro b (h | rfl | rfl)
        · exact (hC7.sep b h).2
        · exact lt_of_at hd7
        · exact lt_of_at hb7
      · refine wy_regionEnd ?_
        refine wy_inBlock ?_
        refine wy_region [0, 1] rfl ?_
        refine wy_pure (some 35) (.int .i64 ((cs.length + 1 : Nat) : Int)) rfl rfl rfl (fun w₈ => add1_run (i := cs.length) (by simp [evT_tmp, put_some, h25']) rfl (by omega)) ?_
        refine wy_mv (some 25) rfl rfl rfl rfl ?_
        refine wy_regionEnd ?_
        refine wy_inLoop ?_
        refine ih (cs ++ [c]) _ _ w₇ _ (by simp; omega) (hS'.of rfl rfl rfl rfl rfl rfl rfl rfl) h24' (by simp [evT_tmp, put_some]) (hE7.mono hmono) ⟨⟨⟨hC7.cc.1, ?_⟩, hC7.cc.2⟩, ?_, ⟨?_, fun h => hC7.wg.2.1 h.1, hC7.wg.2.2⟩, fun b h => hC7.lt b h.1⟩ k₇.inv
        · exact ⟨fun h => by omega, by omega⟩
        · rintro b (h | h)
          · exact ⟨fun q => (hC7.sep b h).1 q.1, (hC7.sep b h).2⟩
          · refine ⟨fun q => q.2.1 h, ?_⟩
            rcases h with rfl | rfl
            · exact lt_of_at hd7
            · exact lt_of_at hb7
        · have h3 := hC.wg.2.2
          rintro (h | h | h)
          · exact hC.wg.1 h
          all_goals omega
    · exact hS.of rfl rfl rfl rfl rfl rfl rfl rfl
    · exact h24
    · exact h25
    · rfl
    · rfl
end
end Go.Proofs.YtckoipoejaafhaaDoor.Cc
