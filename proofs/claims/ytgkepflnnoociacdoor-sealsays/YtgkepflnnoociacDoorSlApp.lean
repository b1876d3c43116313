/-
  One number is appended to a slice that the call itself made: what is owned behind it; nothing that was there is written.
-/
import Derived.Test.YtgkepflnnoociacDoorRows
import Derived.Test.YtgkepflnnoociacDoorSl
namespace Go.Proofs.YtgkepflnnoociacDoor
open Go.RowKit

theorem info_u64 : (Tryd.prog.info? 47).map (fun i => (i.zero, i.size, i.bytes)) = some (some (.int .u64 0), 1, 8) := by kernel_rfl

theorem wp_append1 {ops : Array Oper} {rest : List Oper} {o : Oper} {a : Act} {Q : Exit → Act → World → Prop} {w w0 : World} (hgd : o.guard = none) (s x : Operand)
    (ho : o.op = .call { callee := .builtin .append, args := #[s, x], argTypes := #[23, 23] }) (v : Value) (n : Nat) (xs : List Value) (z : Nat)
    (hs : a.eval s = v) (hown : w.ownsRow w0.heap.size 47 1 v n xs) (hx : a.eval x = .slice (some ⟨w.heap.size, 0, none⟩) 1 1)
    (hn : n ≤ 1000000000) (hnx : Below w0.heap.size w0 w)
    (h : ∀ v' w', w'.ownsRow w0.heap.size 47 1 v' (n + 1) (xs ++ [.int .u64 (z : Int)]) → Below w0.heap.size w0 w' → wpList Tryd.prog ops Q rest (a.put o.dst v') w') :
    wpList Tryd.prog ops Q (o :: rest) a (w.alloc (.cells #[.int .u64 (z : Int)] 47)) := by
  obtain ⟨i0, hi, hz0, hz1, hz2⟩ := info_parts info_u64
  have hsz := hnx.size
  refine wpList_append_own _ hgd s x 23 ho w0.heap.size 47 i0 (.int .u64 0) 1 8 Tryd.underlying23 hi hz0 hz1 hz2 rfl (by decide) v n xs hs (hown.alloc _) ⟨w.heap.size, 0, none⟩ 1 1 [.int .u64 (z : Int)] hx rfl ?_ ?_ ?_ ?_ ?_ ?_
  · intro j u hj
    match j, hj with
    | 0, hj => simp at hj; subst hj; simp [Addr.add]
  · intro u hu; simp at hu; subst hu; rfl
  · unfold maxLen; omega
  · omega
  · simp; omega
  · intro v' w' hown' hgrow _
    exact h v' w' hown' ((hnx.alloc hsz _).grown hgrow (by simp; omega) (owns_block hown))

/-- The slice v is a row of the call's own (from block B on) that holds the numbers xs. -/
def Ow (B : Nat) (w : World) (v : Value) (xs : List Nat) : Prop := w.ownsRow B 47 1 v xs.length (cellsU xs)
theorem Ow.isU {B : Nat} {w : World} {v : Value} {xs : List Nat} (h : Ow B w v xs) (hr : ∀ x ∈ xs, (x : Int) < 18446744073709551616) : IsU w v xs := IsU.of_owns h hr
theorem Ow.mono {B B' : Nat} {w : World} {v : Value} {xs : List Nat} (h : Ow B' w v xs) (hB : B ≤ B') : Ow B w v xs := by
  refine ⟨h.1, ?_⟩
  rcases h.2 with h2 | ⟨g, cap, cur, hv, hg, r⟩
  · exact Or.inl h2
  · exact Or.inr ⟨g, cap, cur, hv, Nat.le_trans hB hg, r⟩
theorem Ow.below {B : Nat} {w w' : World} {v : Value} {xs : List Nat} (h : Ow B w v xs) (hb : Below w.heap.size w w') : Ow B w' v xs := owns_below h hb
theorem Ow.nil (B : Nat) (w : World) : Ow B w (.slice none 0 0) [] := World.ownsRow_nil _ _ _ _

end Go.Proofs.YtgkepflnnoociacDoor
