/-
  What Step of package exec answers, and what it does to a run.
-/
import Derived.Test.YtmgfjcepebjnfagDoorExO
namespace Go.Proofs.YtmgfjcepebjnfagDoor
open Go.RowKit

section
variable {r : Fx} {w : World} {ga : Nat} {vd : Value} {c : Crw}

theorem exec_Step_done (h : Rn r w ga vd c) (pv pu : Int) (he : c.phase = r.L.length) :
    Calls Tryd.prog 40 #[.pointer (some ⟨r.g, 0, none⟩), .agg #[.int .i64 pv, .int .i64 pu]] w fun e w' => e = .returned (.int .i64 6) ∧ Below w.heap.size w w' := by
  have cD := fun (W : World) (hb : Below w.heap.size w W) => exec_Done (h.below hb)
  rw [decide_eq_true he] at cD
  clear h
  go_enter Tryd.func40, Tryd.ntmps40
  go_wp2_with (go_at_call 66; refine Calls.mono (cD _ (below_alloc1 _ _)) ?_; rintro e w1 ⟨rfl, hb⟩)
  go_ret
  exact ⟨rfl, below_alloc hb⟩
theorem box_pick {w w' : World} {a b : Int} (hb : Below (w.alloc (.cells #[.int .i64 a, .int .i64 b] 66)).heap.size (w.alloc (.cells #[.int .i64 a, .int .i64 b] 66)) w') :
    w'.cell? ⟨w.heap.size, 0, none⟩ = some (.int .i64 a) ∧ w'.cell? ⟨w.heap.size, 1, none⟩ = some (.int .i64 b) := by
  have q := RowV.below (new_row w 66 [.int .i64 a, .int .i64 b]) hb
  exact ⟨q.cell 0, q.cell 1⟩
theorem exec_Step_arg (h : Rn r w ga vd c) (pv pu : Int) (hlt : c.phase < r.L.length) (hn : ¬ (0 ≤ pv ∧ pv < (r.W : Int) ∧ 0 ≤ pu ∧ pu < (r.W : Int))) :
    Calls Tryd.prog 40 #[.pointer (some ⟨r.g, 0, none⟩), .agg #[.int .i64 pv, .int .i64 pu]] w fun e w' => e = .returned (.int .i64 1) ∧ Below w.heap.size w w' := by
  have cD := fun (W : World) (hb : Below w.heap.size w W) => exec_Done (h.below hb)
  rw [decide_eq_false (by omega)] at cD
  have c1 := fun (W : World) (hb : Below w.heap.size w W) => exec_hasWorker (h.below hb) pv
  have c2 := fun (W : World) (hb : Below w.heap.size w W) => exec_hasWorker (h.below hb) pu
  clear h
  by_cases h1 : 0 ≤ pv ∧ pv < (r.W : Int)
  · rw [decide_eq_true h1] at c1
    rw [decide_eq_false (fun q => hn ⟨h1.1, h1.2, q.1, q.2⟩)] at c2
    have tk : True := trivial
    clear h1 hn
    go_enter Tryd.func40, Tryd.ntmps40
    go_wp2_with (first
      | (go_at_call 66; refine Calls.mono (cD _ (below_alloc1 _ _)) ?_; rintro e w1 ⟨rfl, hb⟩; clear cD; obtain ⟨x0, x1⟩ := box_pick hb; have hb1 := below_alloc hb; clear hb)
      | (go_at_call 74; have _t := tk; refine Calls.mono (c1 _ hb1) ?_; rintro e w2 ⟨rfl, hw⟩; rw [hw]; clear hw c1 tk)
      | (go_at_call 74; refine Calls.mono (c2 _ hb1) ?_; rintro e w3 ⟨rfl, hw⟩; rw [hw]; clear hw c2))
    go_ret
    exact ⟨rfl, hb1⟩
  · rw [decide_eq_false h1] at c1
    clear h1 hn c2
    go_enter Tryd.func40, Tryd.ntmps40
    go_wp2_with (first
      | (go_at_call 66; refine Calls.mono (cD _ (below_alloc1 _ _)) ?_; rintro e w1 ⟨rfl, hb⟩; clear cD; obtain ⟨x0, x1⟩ := box_pick hb; have hb1 := below_alloc hb; clear hb)
      | (go_at_call 74; refine Calls.mono (c1 _ hb1) ?_; rintro e w2 ⟨rfl, hw⟩; rw [hw]; clear hw c1))
    go_ret
    exact ⟨rfl, hb1⟩


set_option maxHeartbeats 2000000 in
theorem exec_Step_go (h : Rn r w ga vd c) (v u : Nat) (hv : v < r.W) (hu : u < r.W) (hlt : c.phase < r.L.length) (ta tb tcc : Int) (f : Bool) (c2 c3 : Crw)
    (cT : ∀ W, Rn r W ga vd c → Calls Tryd.prog 75 #[.pointer (some ⟨r.g, 0, none⟩), .agg #[.int .i64 (v : Int), .int .i64 (u : Int)]] W fun e w' => e = .returned (.tuple #[.agg #[.int .i64 ta, .int .i64 tb, .int .i64 tcc], .bool f]) ∧ Rn r w' ga vd c2 ∧ But (RnO r ga vd) W w')
    (cO : f = true → ∀ W, Rn r W ga vd c2 → But (RnO r ga vd) w W → Calls Tryd.prog 76 #[.pointer (some ⟨r.g, 0, none⟩), .agg #[.int .i64 ta, .int .i64 tb, .int .i64 tcc]] W fun e w' => e = .returned (.tuple #[]) ∧ ∃ ga' vd', Rn r w' ga' vd' c3 ∧ (∀ b, RnO r ga' vd' b → RnO r ga vd b ∨ W.heap.size ≤ b) ∧ But (RnO r ga vd) W w')
    (hf : f = false → c3 = c2) :
    Calls Tryd.prog 40 #[.pointer (some ⟨r.g, 0, none⟩), .agg #[.int .i64 (v : Int), .int .i64 (u : Int)]] w fun e w' => e = .returned (.int .i64 0) ∧ ∃ ga' vd', Rn r w' ga' vd' c3 ∧ (∀ b, RnO r ga' vd' b → RnO r ga vd b ∨ w.heap.size ≤ b) ∧ But (RnO r ga vd) w w' := by
  have cD := fun (W : World) (hb : Below w.heap.size w W) => exec_Done (h.below hb)
  rw [decide_eq_false (by omega)] at cD
  have c1 := fun (W : World) (hb : Below w.heap.size w W) => exec_hasWorker (h.below hb) (v : Int)
  have c4 := fun (W : World) (hb : Below w.heap.size w W) => exec_hasWorker (h.below hb) (u : Int)
  rw [decide_eq_true (by omega)] at c1 c4
  have cT2 : Hid (∀ W, Below w.heap.size w W → Calls Tryd.prog 75 #[.pointer (some ⟨r.g, 0, none⟩), .agg #[.int .i64 (v : Int), .int .i64 (u : Int)]] W fun e w' => e = .returned (.tuple #[.agg #[.int .i64 ta, .int .i64 tb, .int .i64 tcc], .bool f]) ∧ Rn r w' ga vd c2 ∧ But (RnO r ga vd) w w') := fun W hb => (cT W (h.below hb)).mono fun e w' q => ⟨q.1, q.2.1, (But.of_below hb).trans q.2.2 fun _ q => .inl q⟩
  have hold : Hid (∀ b, RnO r ga vd b → b < w.heap.size) := h.old
  clear h cT
  have tk : True := trivial
  cases f with
  | true =>
    have cO2 : Hid _ := cO rfl
    clear cO hf
    go_enter Tryd.func40, Tryd.ntmps40
    go_wp2_with (first
      | (go_at_call 66; refine Calls.mono (cD _ (below_alloc1 _ _)) ?_; rintro e w1 ⟨rfl, hb⟩; clear cD; obtain ⟨x0, x1⟩ := box_pick hb; have hb1 := below_alloc hb; clear hb)
      | (go_at_call 74; have _t := tk; refine Calls.mono (c1 _ hb1) ?_; rintro e w2 ⟨rfl, hw⟩; rw [hw]; clear hw c1 tk)
      | (go_at_call 74; refine Calls.mono (c4 _ hb1) ?_; rintro e w3 ⟨rfl, hw⟩; rw [hw]; clear hw c4)
      | (go_at_call 75; refine Calls.mono (cT2.out _ hb1) ?_; rintro e w4 ⟨rfl, h4, hb4⟩; clear cT2; have h5 := h4.below (below_alloc1 w4 (.cells #[.int .i64 ta, .int .i64 tb, .int .i64 tcc] 41)); have hb5 := hb4.andBelow (below_alloc1 w4 (.cells #[.int .i64 ta, .int .i64 tb, .int .i64 tcc] 41)))
      | (go_at_call 76; refine Calls.mono (cO2.out _ h5 hb5) ?_; rintro e w6 ⟨rfl, ga6, vd6, h6, hO6, hb6⟩; clear cO2; have hs5 := hb5.size))
    go_ret
    exact ⟨rfl, ga6, vd6, h6, fun b q => (hO6 b q).imp id fun q => Nat.le_trans hs5 q, hb5.trans hb6 fun _ q => .inl q⟩
  | false =>
    have hf2 : Hid _ := hf rfl
    clear cO hf
    go_enter Tryd.func40, Tryd.ntmps40
    go_wp2_with (first
      | (go_at_call 66; refine Calls.mono (cD _ (below_alloc1 _ _)) ?_; rintro e w1 ⟨rfl, hb⟩; clear cD; obtain ⟨x0, x1⟩ := box_pick hb; have hb1 := below_alloc hb; clear hb)
      | (go_at_call 74; have _t := tk; refine Calls.mono (c1 _ hb1) ?_; rintro e w2 ⟨rfl, hw⟩; rw [hw]; clear hw c1 tk)
      | (go_at_call 74; refine Calls.mono (c4 _ hb1) ?_; rintro e w3 ⟨rfl, hw⟩; rw [hw]; clear hw c4)
      | (go_at_call 75; refine Calls.mono (cT2.out _ hb1) ?_; rintro e w4 ⟨rfl, h4, hb4⟩; clear cT2; have h5 := h4.below (below_alloc1 w4 (.cells #[.int .i64 ta, .int .i64 tb, .int .i64 tcc] 41)); have hb5 := hb4.andBelow (below_alloc1 w4 (.cells #[.int .i64 ta, .int .i64 tb, .int .i64 tcc] 41))))
    go_ret
    exact ⟨rfl, ga, vd, by rw [hf2.out]; exact h5, fun b q => .inl q, hb5⟩
end

end Go.Proofs.YtmgfjcepebjnfagDoor
