/-
  A slice of so many numbers is made; numbers are copied into it, or stored: what is owned behind it; nothing that was there is written.
-/
import Derived.Test.YtgkepflnnoociacDoorSlApp
import Derived.Laws.CopyOwn
namespace Go.Proofs.YtgkepflnnoociacDoor
open Go.RowKit

theorem made_u64 (n : Nat) : (madeCells (Value.int .u64 0).cells (n * 1)).toList = cellsU (List.replicate n 0) := by
  rw [show (Value.int .u64 0).cells = #[Value.int .u64 0] from rfl, Nat.mul_one, toList_madeCells_one]
  unfold cellsU
  rw [List.map_replicate]; rfl

theorem wp_make {ops : Array Oper} {rest : List Oper} {o : Oper} {a : Act} {Q : Exit → Act → World → Prop} {w w0 : World} (hgd : o.guard = none) (l c : Operand) (ho : o.op = Op.makeSlice 23 l c) (n : Nat)
    (hl : a.eval l = .int .i64 (n : Int)) (hc : a.eval c = .int .i64 (n : Int)) (hn : n ≤ 1000000000) (hnx : Below w0.heap.size w0 w)
    (h : ∀ w', w'.ownsRow w0.heap.size 47 1 (.slice (some ⟨w.heap.size, 0, none⟩) n n) n (cellsU (List.replicate n 0)) → Below w.heap.size w w' → wpList Tryd.prog ops Q rest (a.put o.dst (.slice (some ⟨w.heap.size, 0, none⟩) n n)) w') :
    wpList Tryd.prog ops Q (o :: rest) a w := by
  obtain ⟨i0, hi, hz0, hz1, hz2⟩ := info_parts info_u64
  refine wpList_make_full w hgd l c 23 ho w0.heap.size 47 i0 (.int .u64 0) 1 Tryd.underlying23 hi hz0 hz1 .i64 .i64 n n n hl hc rfl rfl (by rw [hz2]; omega) (by unfold maxLen; omega) hnx.size ?_
  intro w' hown hgrow
  rw [made_u64] at hown
  exact h w' hown ((Below.refl _ _).grown hgrow (Nat.le_refl _) (fun k hk => by cases hk))

theorem cellsU_set (xs : List Nat) (j v : Nat) : (cellsU xs).set j (.int .u64 (v : Int)) = cellsU (xs.set j v) := by
  unfold cellsU
  rw [List.map_set]

/-- The first numbers of a list, and noughts behind them: n of them. -/
def szd (xs : List Nat) (n : Nat) : List Nat := xs.take n ++ List.replicate (n - xs.length) 0
theorem szd_length (xs : List Nat) (n : Nat) : (szd xs n).length = n := by simp [szd]; omega

theorem wp_copy {ops : Array Oper} {rest : List Oper} {o : Oper} {a : Act} {Q : Exit → Act → World → Prop} {w w0 : World} (hgd : o.guard = none) (d s : Operand)
    (ho : o.op = .call { callee := .builtin .copy, args := #[d, s], argTypes := #[23, 23] }) (g n : Nat) (v : Value) (xs : List Nat)
    (hd : a.eval d = .slice (some ⟨g, 0, none⟩) n n) (hs : a.eval s = v) (hU : IsU w v xs) (hown : w.ownsRow w0.heap.size 47 1 (.slice (some ⟨g, 0, none⟩) n n) n (cellsU (List.replicate n 0))) (hnx : Below w0.heap.size w0 w)
    (h : ∀ w' z, w'.ownsRow w0.heap.size 47 1 (.slice (some ⟨g, 0, none⟩) n n) n (cellsU (szd xs n)) → Below w0.heap.size w0 w' → wpList Tryd.prog ops Q rest (a.put o.dst (goInt z)) w') :
    wpList Tryd.prog ops Q (o :: rest) a w := by
  obtain ⟨p, cap, rfl, hcap, hmax, hc, hr⟩ := hU
  rcases hown.2 with ⟨hv, _⟩ | ⟨g', cap', cur, hv, hg, hh, h1, h2, h3, h4⟩
  · cases hv
  · simp only [Value.slice.injEq, Option.some.injEq, Addr.mk.injEq, and_true, true_and] at hv
    obtain ⟨rfl, rfl⟩ := hv
    have hcur : cur.toList = cellsU (List.replicate n 0) := by rw [← h4, Nat.mul_one, List.take_of_length_le (by simp [h3])]
    have hcur2 : cur = (cellsU (List.replicate n 0)).toArray := by rw [← hcur]
    rw [hcur2] at hh
    have hlen : (cellsU (xs.take n)).length = Nat.min xs.length n := by rw [cellsU_length, List.length_take, Nat.min_comm]
    refine wpList_copy_splice hgd d s 23 23 ho 47 Tryd.underlying23 (by kernel_rfl) _ _ _ _ _ _ hd hs g 0 (cellsU (List.replicate n 0)) 47 hh (cellsU (xs.take n)) hlen ?_ ?_ ?_ w0.heap.size w0 hnx hg ?_
    · intro hp
      have hpos : 0 < xs.length := by
        rw [cellsU_length, List.length_take] at hp; omega
      obtain ⟨b, off, rfl, _⟩ := hc 0 hpos
      refine ⟨rfl, ⟨b, off, none⟩, rfl, fun j u hj => ?_⟩
      have hjl : j < (xs.take n).length := by
        rcases Nat.lt_or_ge j (xs.take n).length with h5 | h5
        · exact h5
        · rw [List.getElem?_eq_none (by rw [cellsU_length]; exact h5)] at hj; cases hj
      rw [cellsU_get _ j hjl] at hj
      rw [List.length_take] at hjl
      obtain ⟨b', off', e, hcell⟩ := hc j (by omega)
      simp only [Option.some.injEq, Addr.mk.injEq, and_true] at e
      obtain ⟨rfl, rfl⟩ := e
      have e2 : (xs.take n).getD j 0 = xs.getD j 0 := by simp [List.getD, List.getElem?_take_of_lt (show j < n by omega)]
      rw [e2] at hj
      have e3 : (Addr.mk b off none).add j = ⟨b, off + j, none⟩ := Go.WideShapes.add_plain b off j
      rw [e3, hcell, ← hj]
    · rw [hlen, cellsU_length, List.length_replicate, Nat.zero_add]; exact Nat.min_le_right _ _
    · intro u hu
      obtain ⟨y, _, rfl⟩ := List.mem_map.mp hu
      rfl
    · intro w' hrow hb
      have hsp : splice (cellsU (List.replicate n 0)) 0 (cellsU (xs.take n)) = cellsU (szd xs n) := by
        unfold splice szd
        rw [List.take_zero, List.nil_append, Nat.zero_add, cellsU_append]
        congr 1
        unfold cellsU
        rw [← List.map_drop]
        congr 1
        simp
        omega
      have hrow' := hrow.out
      rw [hsp] at hrow'
      refine h w' _ ⟨by rw [cellsU_length, szd_length]; omega, Or.inr ⟨g, n, _, rfl, hg, hrow', Nat.le_refl _, h2, ?_, ?_⟩⟩ hb
      · simp [cellsU_length, szd_length]
      · rw [List.take_of_length_le (by rw [cellsU_length, szd_length]; omega)]

end Go.Proofs.YtgkepflnnoociacDoor
