/-
  A map from ints to bools that the call itself made, all of whose values are true: what is looked up, how many there are, one key more.
-/
import Derived.Test.YtfnmcohilnijoafRows
import Derived.Test.YtfnmcohilnijoafSl
import Derived.Maps.OwnOps
import Derived.Maps.OwnSet
namespace Go.Proofs.Ytfnmcohilnijoaf
open Go.RowKit Go.Maps

theorem lawI : Keyed Try.prog 3 := int_keyed Try.underlying3
theorem zeroB (w : World) : (zeroValue 4).run Try.prog w = .ok (.bool false) w := by kernel_rfl
theorem keyI {i : Nat} (hi : i ≤ 1000000) : keyOf Try.prog 3 (.int .i64 (i : Int)) = some (.int .i64 (i : Int)) := keyOf_int_mk Try.underlying3 (by simp [Lit.wf, IntKind.min, IntKind.max, IntKind.signed, IntKind.bits]; omega)
theorem plainElem_bool_inv {H : Type} {e : TypeId} (he : Try.prog.underlying e = some .bool) {v : Value} {z : DataW H × List MemPlace} (h : plainElem Try.prog e v = some z) : ∃ x, v = .bool x ∧ z = (.lit (.bool x), []) := by
  unfold plainElem at h
  rw [he] at h
  cases v with
  | bool x => simp at h; exact ⟨x, rfl, h.symm⟩
  | _ => simp at h
theorem keyLit (i : Nat) : WideAt.IsKeyLit (.int .i64 (i : Int)) := by simp [WideAt.IsKeyLit]

/-- Block b is a map that has the keys S, each with true. -/
def MapB (w : World) (b : Nat) (S : List Nat) : Prop := ∃ (n : Nat) (D : DataW Unit), w.ownsMap Try.prog 3 (plainElem Try.prog 4) b n D ∧ n ≤ S.length ∧ size D = S.length ∧
  ∀ i : Nat, has D (.int .i64 (i : Int)) = decide (i ∈ S) ∧ D.atKey (.int .i64 (i : Int)) (.lit (.bool false)) = .lit (.bool (decide (i ∈ S)))
theorem MapB.made (w : World) : MapB (w.alloc (.map #[] 0)) w.heap.size [] := by
  refine ⟨0, .map [], World.ownsMap_made _ _ _ _, Nat.le_refl _, rfl, fun i => ⟨rfl, rfl⟩⟩
theorem MapB.lt {w : World} {b : Nat} {S : List Nat} (h : MapB w b S) : b < w.heap.size := by
  obtain ⟨n, D, h, _⟩ := h
  exact h.lt
theorem MapB.block {w w' : World} {b : Nat} {S : List Nat} (h : MapB w b S) (e : w'.heap[b]? = w.heap[b]?) : MapB w' b S := by
  obtain ⟨n, D, ⟨es, clock, hb, r⟩, r2⟩ := h
  exact ⟨n, D, ⟨es, clock, e.trans hb, r⟩, r2⟩
theorem MapB.look {w : World} {b : Nat} {S : List Nat} (h : MapB w b S) (i : Nat) (hi : i ≤ 1000000) : (Instr.lookup 33 (.map (some b)) (.int .i64 (i : Int)) false).run Try.prog w = .ok (.bool (decide (i ∈ S))) w := by
  obtain ⟨n, D, h, _, _, hat⟩ := h
  obtain ⟨v, ps, hrun, hv⟩ := h.lookup lawI Try.underlying33 (zeroB w) (plainElem_bool Try.underlying4 false) (keyI hi)
  obtain ⟨x, rfl, hx⟩ := plainElem_bool_inv Try.underlying4 hv
  simp only [Prod.mk.injEq] at hx
  rw [(hat i).2] at hx
  have := hx.1
  simp only [DataW.lit.injEq, Lit.bool.injEq] at this
  rw [hrun, this]
theorem MapB.len {w : World} {b : Nat} {S : List Nat} (h : MapB w b S) (ty : TypeId) : (Builtin.len_ #[33] ty #[.map (some b)]).run Try.prog w = .ok (.int .i64 (S.length : Int)) w := by
  obtain ⟨n, D, h, _, hs, _⟩ := h
  rw [h.len Try.underlying33 ty, hs]
theorem wp_putB {ops : Array Oper} {rest : List Oper} {o : Oper} {a : Act} {Q : Exit → Act → World → Prop} {w : World} (hgd : o.guard = none) (m x v : Operand) (hop : o.op = Op.mapUpdate 33 m x v)
    (b : Nat) (S : List Nat) (i : Nat) (hm : a.eval m = .map (some b)) (hown : MapB w b S) (hx : a.eval x = .int .i64 (i : Int)) (hv : a.eval v = .bool true) (hi : i ≤ 1000000) (hn : S.length ≤ 1000000) (hnot : i ∉ S)
    (hK : ∀ w', MapB w' b (S ++ [i]) → w.grownBy w' (some b) → wpList Try.prog ops Q rest (a.put o.dst undef) w') : wpList Try.prog ops Q (o :: rest) a w := by
  obtain ⟨n, D, h, hnS, hs, hat⟩ := hown
  refine wpList_mapUpdate_own w hgd m x v 33 hop 3 4 lawI Try.underlying33 (plainElem Try.prog 4) b n D hm h (by unfold maxLen; omega) _ _ (.int .i64 (i : Int)) hx hv (keyI hi) (.lit (.bool true)) [] (plainElem_bool Try.underlying4 true) fun w' h' hg => hK w' ⟨n + 1, _, h', by simp; omega, ?_, fun j => ?_⟩ hg
  · rw [size_put (h.tidy lawI), (hat i).1, hs]
    simp [hnot]
  · by_cases e : j = i
    · subst e
      have e2 : decide (j ∈ S ++ [j]) = true := by simp
      rw [has_put_same h.isMap (keyLit j), atKey_put_same h.isMap (keyLit j), e2]
      exact ⟨rfl, rfl⟩
    · have hne : (Lit.int .i64 (j : Int)) ≠ .int .i64 (i : Int) := fun q => by
        simp only [Lit.int.injEq, true_and] at q
        omega
      have e2 : decide (j ∈ S ++ [i]) = decide (j ∈ S) := by simp [e]
      rw [has_put_other hne, atKey_put_other hne, e2]
      exact hat j

end Go.Proofs.Ytfnmcohilnijoaf
