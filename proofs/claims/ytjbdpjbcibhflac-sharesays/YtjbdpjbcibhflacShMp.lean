/-
  A map from ints to numbers that the call itself made: what is looked up, how many there are, one key more.
-/
import Derived.Test.YtjbdpjbcibhflacRows
import Derived.Test.YtjbdpjbcibhflacSl
import Derived.Maps.OwnOps
import Derived.Maps.OwnSet
namespace Go.Proofs.Ytjbdpjbcibhflac
open Go.RowKit Go.Maps

theorem lawIU : Keyed Try.prog 3 := int_keyed Try.underlying3
theorem zeroU (w : World) : (zeroValue 30).run Try.prog w = .ok (.int .u64 0) w := by kernel_rfl
theorem keyIU {z : Int} (hz : (Lit.int .i64 z).wf = true) : keyOf Try.prog 3 (.int .i64 z) = some (.int .i64 z) := keyOf_int_mk Try.underlying3 hz
theorem keyLitU (z : Int) : WideAt.IsKeyLit (.int .i64 z) := by simp [WideAt.IsKeyLit]

/-- Block b is a map of n keys that has the symbols that f tells. -/
def MapU (w : World) (b : Nat) (f : Int → Option Nat) (n : Nat) : Prop := ∃ (m : Nat) (D : DataW Unit), w.ownsMap Try.prog 3 (plainElem Try.prog 30) b m D ∧ m ≤ n ∧ size D = n ∧
  ∀ z : Int, has D (.int .i64 z) = (f z).isSome ∧ D.atKey (.int .i64 z) (.lit (.int .u64 0)) = .lit (.int .u64 (((f z).getD 0 : Nat) : Int))
theorem MapU.made (w : World) : MapU (w.alloc (.map #[] 0)) w.heap.size (fun _ => none) 0 :=
  ⟨0, .map [], World.ownsMap_made _ _ _ _, Nat.le_refl _, rfl, fun _ => ⟨rfl, rfl⟩⟩
theorem MapU.lt {w : World} {b n : Nat} {f : Int → Option Nat} (h : MapU w b f n) : b < w.heap.size := by
  obtain ⟨m, D, h, _⟩ := h
  exact h.lt
theorem MapU.block {w w' : World} {b n : Nat} {f : Int → Option Nat} (h : MapU w b f n) (e : w'.heap[b]? = w.heap[b]?) : MapU w' b f n := by
  obtain ⟨m, D, ⟨es, clock, hb, r⟩, r2⟩ := h
  exact ⟨m, D, ⟨es, clock, e.trans hb, r⟩, r2⟩
theorem MapU.below {w w' : World} {b n : Nat} {f : Int → Option Nat} (h : MapU w b f n) (hb : Below w.heap.size w w') : MapU w' b f n := h.block (hb.block b h.lt)
theorem MapU.len {w : World} {b n : Nat} {f : Int → Option Nat} (h : MapU w b f n) (ty : TypeId) : (Builtin.len_ #[42] ty #[.map (some b)]).run Try.prog w = .ok (.int .i64 (n : Int)) w := by
  obtain ⟨m, D, h, _, hs, _⟩ := h
  rw [h.len Try.underlying42 ty, hs]
theorem wp_lookNone {ops : Array Oper} {rest : List Oper} {o : Oper} {a : Act} {Q : Exit → Act → World → Prop} {w : World} (hgd : o.guard = none) (m x : Operand) (hop : o.op = Op.lookup 42 m x true)
    (b : Nat) (f : Int → Option Nat) (n : Nat) (z : Int) (hm : a.eval m = .map (some b)) (hown : MapU w b f n) (hx : a.eval x = .int .i64 z) (hz : (Lit.int .i64 z).wf = true) (hf : f z = none)
    (hK : wpList Try.prog ops Q rest (a.put o.dst (.tuple #[.int .u64 0, .bool false])) w) : wpList Try.prog ops Q (o :: rest) a w := by
  obtain ⟨m', D, h, _, _, hat⟩ := hown
  refine wpList_lookup_own_ok_int w hgd m x 42 hop 3 30 .u64 lawIU Try.underlying42 Try.underlying30 (zeroU w) b m' D hm h _ _ hx (keyIU hz) fun c hc _ => ?_
  obtain ⟨h1, h2⟩ := hat z
  rw [hf] at h1 h2
  rw [h2] at hc
  simp only [DataW.lit.injEq, Lit.int.injEq, true_and] at hc
  rw [h1, ← hc]
  exact hK
theorem wp_lookSome {ops : Array Oper} {rest : List Oper} {o : Oper} {a : Act} {Q : Exit → Act → World → Prop} {w : World} (hgd : o.guard = none) (m x : Operand) (hop : o.op = Op.lookup 42 m x true)
    (b : Nat) (f : Int → Option Nat) (n : Nat) (z : Int) (s : Nat) (hm : a.eval m = .map (some b)) (hown : MapU w b f n) (hx : a.eval x = .int .i64 z) (hz : (Lit.int .i64 z).wf = true) (hf : f z = some s)
    (hK : wpList Try.prog ops Q rest (a.put o.dst (.tuple #[.int .u64 (s : Int), .bool true])) w) : wpList Try.prog ops Q (o :: rest) a w := by
  obtain ⟨m', D, h, _, _, hat⟩ := hown
  refine wpList_lookup_own_ok_int w hgd m x 42 hop 3 30 .u64 lawIU Try.underlying42 Try.underlying30 (zeroU w) b m' D hm h _ _ hx (keyIU hz) fun c hc _ => ?_
  obtain ⟨h1, h2⟩ := hat z
  rw [hf] at h1 h2
  rw [h2] at hc
  simp only [DataW.lit.injEq, Lit.int.injEq, true_and] at hc
  rw [h1, ← hc]
  exact hK
theorem wp_putU {ops : Array Oper} {rest : List Oper} {o : Oper} {a : Act} {Q : Exit → Act → World → Prop} {w : World} (hgd : o.guard = none) (m x v : Operand) (hop : o.op = Op.mapUpdate 42 m x v)
    (b : Nat) (f : Int → Option Nat) (n : Nat) (z : Int) (s : Nat) (hm : a.eval m = .map (some b)) (hown : MapU w b f n) (hx : a.eval x = .int .i64 z) (hv : a.eval v = .int .u64 (s : Int)) (hz : (Lit.int .i64 z).wf = true) (hs : (Lit.int .u64 (s : Int)).wf = true) (hn : n < maxLen) (hf : f z = none)
    (hK : ∀ w', MapU w' b (fun y => if y = z then some s else f y) (n + 1) → w.grownBy w' (some b) → wpList Try.prog ops Q rest (a.put o.dst undef) w') : wpList Try.prog ops Q (o :: rest) a w := by
  obtain ⟨m', D, h, hm', hs', hat⟩ := hown
  refine wpList_mapUpdate_own w hgd m x v 42 hop 3 30 lawIU Try.underlying42 (plainElem Try.prog 30) b m' D hm h (by omega) _ _ (.int .i64 z) hx hv (keyIU hz) (.lit (.int .u64 (s : Int))) [] (plainElem_int Try.underlying30 hs) fun w' h' hg => hK w' ⟨m' + 1, _, h', by omega, ?_, fun y => ?_⟩ hg
  · rw [size_put (h.tidy lawIU), (hat z).1, hs', hf]
    rfl
  · show _ = (if y = z then some s else f y).isSome ∧ _ = DataW.lit (.int .u64 (((if y = z then some s else f y).getD 0 : Nat) : Int))
    by_cases e : y = z
    · subst e
      rw [has_put_same h.isMap (keyLitU y), atKey_put_same h.isMap (keyLitU y), if_pos rfl]
      exact ⟨rfl, rfl⟩
    · have hne : (Lit.int .i64 y) ≠ .int .i64 z := fun q => by
        simp only [Lit.int.injEq, true_and] at q
        exact e q
      rw [has_put_other hne, atKey_put_other hne, if_neg e]
      exact hat y

end Go.Proofs.Ytjbdpjbcibhflac
