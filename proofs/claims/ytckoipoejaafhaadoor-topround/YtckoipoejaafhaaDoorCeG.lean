/-
  The starter: words about the group; what it knows.
-/
import Derived.Test.YtckoipoejaafhaaDoorCeEAll
import Derived.Test.YtckoipoejaafhaaDoorCcWa
namespace Go.Proofs.YtckoipoejaafhaaDoor.Cc
open Go Go.Conc Go.RowKit
open Go.ConcN (WgLive PayAt)
open Go.ConcR (Payload KK WgAt stA smA rd wr mk)
theorem goes_mono {P : Program} {main : Bool} {R : World → World → Prop} {D : World → World → Array Event → Prop} {St St' : Goroutine → World → Prop} (hk : ∀ g w, St g w → St' g w) : ∀ {n : Nat} {g : Goroutine} {w : World}, Go.Conc.Goes P main R D St n g w → Go.Conc.Goes P main R D St' n g w := by
  intro n
  induction n with
  | zero => intro g w h w₁ r; exact hk _ _ (h w₁ r)
  | succ n ih =>
    intro g w h
    rcases h with h | ⟨hr, h⟩
    · exact .inl fun w₁ r => hk _ _ (h w₁ r)
    · refine .inr ⟨hr, fun w₁ h₁ => ?_⟩
      have := h w₁ h₁
      revert this
      cases stepG P main g w₁ <;> simp only [GStep.goes, imp_self]
      exact fun ⟨d, x⟩ => ⟨d, ih x⟩
section
variable [Payload] {P : Program} {ty : TypeId} {Wg : Nat} {Sh Ow : Nat → Prop} {St : Goroutine → World → Prop} {Stop : Stp} {F : World → Prop}
theorem Gm.toStop (hF : ∀ w w₁, Kept Sh Ow w w₁ → F w → F w₁) (hk : ∀ g w, St g w → F w → WgLive ty Wg w → Stop Ow g w) : ∀ {m : Nat} {g : Goroutine} {w : World}, F w → Gm P ty Wg Sh Ow St m g w → Wy P true Wg 0 (I0 ty Wg) Sh Stop Ow g w := by
  intro m
  induction m with
  | zero => intro g w hf h; exact Way.stop fun w₁ s => hk g w₁ (h w₁ ⟨s.kept, fun _ => s.inv⟩) (hF _ _ s.kept hf) s.inv
  | succ m ih =>
    intro g w hf h
    rcases h with h | ⟨hr, h⟩
    · exact Way.stop fun w₁ s => hk g w₁ (h w₁ ⟨s.kept, fun _ => s.inv⟩) (hF _ _ s.kept hf) s.inv
    · refine Way.of_step hr fun w₁ s => ?_
      have h1 := h w₁ ⟨s.kept, fun _ => s.inv⟩
      cases hg : stepG P true g w₁ with
      | go g' w' es =>
        rw [hg, goes_go] at h1
        obtain ⟨⟨rfl, hev⟩, hG⟩ := h1
        exact ⟨g', w', es, Ow, rfl, Act1.still _ _ _ _ _ _ hev, ih (hF _ _ s.kept hf) hG⟩
      | _ => rw [hg] at h1; exact h1.elim
end
section
variable {w : World} {ρ : Operand → Value} {x y : Operand} {d : Option Tmp} {ty : TypeId} {pos : String} {af : Array Edge} {gd : Option (Nat × Bool)} {b o : Nat} {u : Value}
theorem setI_run {i : Int} (hx : ρ x = .pointer (some ⟨b, o, none⟩)) (hy : ρ y = .int .i64 i) (hc : w.cell? ⟨b, o, none⟩ = some u) (hz : w.frozen? ⟨b, o, none⟩ = false) : (execOp ρ ⟨d, .store 3 x y, ty, pos, af, gd⟩).runT Tryd.prog w #[] = (.ok .skip (w.setCell ⟨b, o, none⟩ (.int .i64 i)), #[⟨.cell ⟨b, o, none⟩, true, false⟩]) := by
  apply run_ev
  · simp [execOp, go_sem, hx, hy, stored, hc, hz]
  · simp [execOp, go_sem, hx, hy, storedEv, hc, hz]
theorem setC_run {i : Nat} (hx : ρ x = .pointer (some ⟨b, o, none⟩)) (hy : ρ y = .chan (some i)) (hc : w.cell? ⟨b, o, none⟩ = some u) (hz : w.frozen? ⟨b, o, none⟩ = false) : (execOp ρ ⟨d, .store 122 x y, ty, pos, af, gd⟩).runT Tryd.prog w #[] = (.ok .skip (w.setCell ⟨b, o, none⟩ (.chan (some i))), #[⟨.cell ⟨b, o, none⟩, true, false⟩]) := by
  apply run_ev
  · simp [execOp, go_sem, hx, hy, stored, hc, hz]
  · simp [execOp, go_sem, hx, hy, storedEv, hc, hz]
theorem getI_run {v : Value} (hx : ρ x = .pointer (some ⟨b, o, none⟩)) (hc : w.cell? ⟨b, o, none⟩ = some v) : (execOp ρ ⟨d, .load 3 x, ty, pos, af, gd⟩).runT Tryd.prog w #[] = (.ok (.value v) w, #[⟨.cell ⟨b, o, none⟩, false, false⟩]) := by
  apply run_ev
  · simp [execOp, go_sem, hx, hc]
  · simp [execOp, go_sem, hx, hc]
theorem getC_run {v : Value} (hx : ρ x = .pointer (some ⟨b, o, none⟩)) (hc : w.cell? ⟨b, o, none⟩ = some v) : (execOp ρ ⟨d, .load 122 x, ty, pos, af, gd⟩).runT Tryd.prog w #[] = (.ok (.value v) w, #[⟨.cell ⟨b, o, none⟩, false, false⟩]) := by
  apply run_ev
  · simp [execOp, go_sem, hx, hc]
  · simp [execOp, go_sem, hx, hc]
theorem mkC_run (hx : ρ x = .int .i64 64) : (execOp ρ ⟨d, .makeChan 122 x, ty, pos, af, gd⟩).runT Tryd.prog w #[] = (.ok (.value (.chan (some w.heap.size))) (w.alloc (.chan 64 #[] false 0 0 false)), #[]) := by
  apply run_ev
  · simp [execOp, go_sem, hx, Instr.makeChan, Tryd.t71]
  · simp [execOp, go_sem, hx, Instr.makeChan]
theorem lss_run {i j : Int} (t : Bool) (hx : ρ x = .int .i64 i) (hy : ρ y = .int .i64 j) (h : decide (i < j) = t) : (execOp ρ ⟨d, .binOp .lss 3 x y 3, ty, pos, af, gd⟩).runT Tryd.prog w #[] = (.ok (.value (.bool t)) w, #[]) := by
  subst h
  apply run_ev
  · simp [execOp, go_sem, hx, hy]
  · simp [execOp, go_sem, hx, hy]
theorem add1_run {i : Nat} (hx : ρ x = .int .i64 (i : Int)) (hy : ρ y = .int .i64 1) (h : i < 1000000) : (execOp ρ ⟨d, .binOp .add 3 x y 3, ty, pos, af, gd⟩).runT Tryd.prog w #[] = (.ok (.value (.int .i64 ((i + 1 : Nat) : Int))) w, #[]) := by
  have hw : IntKind.i64.wrap ((i : Int) + 1) = ((i + 1 : Nat) : Int) := by rw [IntKind.wrap_i64]; omega
  apply run_ev
  · simp [execOp, go_sem, hx, hy, hw]
  · simp [execOp, go_sem, hx, hy]
theorem rem_run {i n : Nat} (hx : ρ x = .int .i64 (i : Int)) (hy : ρ y = .int .i64 (n : Int)) (hn : ¬ n = 0) : (execOp ρ ⟨d, .binOp .rem 3 x y 3, ty, pos, af, gd⟩).runT Tryd.prog w #[] = (.ok (.value (.int .i64 ((i % n : Nat) : Int))) w, #[]) := by
  have h2 : Int.tmod (i : Int) (n : Int) = ((i % n : Nat) : Int) := by rw [Int.tmod_eq_emod_of_nonneg (by omega)]; rfl
  apply run_ev
  · simp [execOp, go_sem, hx, hy, hn, h2]
  · simp [execOp, go_sem, hx, hy, hn]
end
structure Es (dl : List Nat) (zs : List Int) (vz va : Value) (xs : List Nat) (back : Bool) (C n bs ba bb bp : Nat) (TT : List (List Int)) (bh oh : Nat) (Od : Nat → Prop) (w0 : World) (Sh : Nat → Prop) (w : World) : Prop where
  fo : Fo Sh dl zs vz w
  ar : Ar Sh (fun _ => False) (prd2 dl) w va xs
  s : Sh bs ∧ w.cell? ⟨bs, 0, none⟩ = some vz
  a : Sh ba ∧ w.cell? ⟨ba, 0, none⟩ = some va
  b : Sh bb ∧ w.cell? ⟨bb, 0, none⟩ = some (.bool back)
  p : Sh bp ∧ w.cell? ⟨bp, 0, none⟩ = some (.slice (some ⟨C, 0, none⟩) n n)
  h : 0 < TT.length → Sh bh
  tk : ∀ i, i < TT.length → ∀ j, j < 3 → w.cell? ⟨bh, oh + 3 * i + j, none⟩ = some (.int .i64 ((TT.getD i []).getD j 0))
  od : ∀ b, Od b → Sh b ∧ w.heap[b]? = w0.heap[b]?
section
variable {dl : List Nat} {zs : List Int} {vz va : Value} {xs : List Nat} {back : Bool} {C n bs ba bb bp : Nat} {TT : List (List Int)} {bh oh : Nat} {Od : Nat → Prop} {w0 : World} {Sh Sh' : Nat → Prop} {w w' : World}
theorem Fo.mono (h : Fo Sh dl zs vz w) (k : ∀ b, Sh b → Sh' b) : Fo Sh' dl zs vz w := by
  obtain ⟨⟨bz, oz, cz, rfl, h1, h2, h3⟩, ht, hg⟩ := h
  exact ⟨⟨bz, oz, cz, rfl, h1, k _ h2, h3⟩, ht, fun g hg' => ⟨k _ (hg g hg').1, (hg g hg').2⟩⟩
theorem Ar.mono {Ow : Nat → Prop} {N : Nat} {v : Value} {ys : List Nat} (h : Ar Sh Ow N w v ys) (k : ∀ b, Sh b → Sh' b) : Ar Sh' Ow N w v ys := by
  obtain ⟨b, o, c, rfl, h1, h2, h3, h4⟩ := h
  exact ⟨b, o, c, rfl, h1, h2, h3.imp (k b) id, h4⟩
theorem Es.keep (h : Es dl zs vz va xs back C n bs ba bb bp TT bh oh Od w0 Sh w) (k : ∀ b, Sh b → w'.heap[b]? = w.heap[b]?) : Es dl zs vz va xs back C n bs ba bb bp TT bh oh Od w0 Sh w' :=
  ⟨h.fo.keep k, h.ar.keep fun b hb => k b (hb.elim id fun q => q.elim), ⟨h.s.1, cell_same h.s.2 (k _ h.s.1)⟩, ⟨h.a.1, cell_same h.a.2 (k _ h.a.1)⟩, ⟨h.b.1, cell_same h.b.2 (k _ h.b.1)⟩, ⟨h.p.1, cell_same h.p.2 (k _ h.p.1)⟩, h.h,
    fun i hi j hj => cell_same (h.tk i hi j hj) (k _ (h.h (by omega))), fun b hb => ⟨(h.od b hb).1, (k _ (h.od b hb).1).trans (h.od b hb).2⟩⟩
theorem Es.mono (h : Es dl zs vz va xs back C n bs ba bb bp TT bh oh Od w0 Sh w) (k : ∀ b, Sh b → Sh' b) : Es dl zs vz va xs back C n bs ba bb bp TT bh oh Od w0 Sh' w :=
  ⟨h.fo.mono k, h.ar.mono k, ⟨k _ h.s.1, h.s.2⟩, ⟨k _ h.a.1, h.a.2⟩, ⟨k _ h.b.1, h.b.2⟩, ⟨k _ h.p.1, h.p.2⟩, fun q => k _ (h.h q), h.tk, fun b hb => ⟨k _ (h.od b hb).1, (h.od b hb).2⟩⟩
end
def chRow (n : Nat) (cs : List Nat) : Array Value := (cs.map (fun c => Value.chan (some c)) ++ List.replicate (n - cs.length) (Value.chan none)).toArray
structure Cs (Wg Cc n : Nat) (cs : List Nat) (Sh Ow : Nat → Prop) (w : World) : Prop where
  cc : Ow Cc ∧ w.heap[Cc]? = some (.cells (chRow n cs) 122)
  sep : ∀ b, Sh b → ¬ Ow b ∧ b < w.heap.size
  wg : ¬ Sh Wg ∧ ¬ Ow Wg ∧ Wg < w.heap.size
  lt : ∀ b, Ow b → b < w.heap.size
end Go.Proofs.YtckoipoejaafhaaDoor.Cc
