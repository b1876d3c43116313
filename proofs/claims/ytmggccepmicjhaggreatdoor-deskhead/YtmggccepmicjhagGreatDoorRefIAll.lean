/-
  Texts that stood one behind the other, as one.
-/
import Derived.Test.YtmggccepmicjhagGreatDoorDkLAll
import Derived.Test.YtmggccepmicjhagGreatDoorRows
import Derived.WalkKit
import Derived.WalkSpells
import Derived.WalkLawsBesides
import Derived.Test.YtmggccepmicjhagGreatDoorRefAll
import Derived.Test.YtmggccepmicjhagGreatDoorRefAll
import Derived.Test.YtmggccepmicjhagGreatDoorSlMakeAll
import Derived.Test.YtmggccepmicjhagGreatDoorPure
import Derived.Test.YtmggccepmicjhagGreatDoorRefGreatAll
import Derived.Test.YtmggccepmicjhagGreatDoorRefPhasesAll
import Derived.Deep.RegionWith
import Derived.Test.YtmggccepmicjhagGreatDoorSlZAll
/-! What Inv of package goldref answers: the inverse by EUCLID's steps is the power below the last one. -/
namespace Go.Proofs.YtmggccepmicjhagGreatDoor
open Go.RowKit
set_option maxRecDepth 100000

theorem cancel {A B C D : Nat} (h1 : (A + B) % P = (C + D) % P) (h2 : B % P = D % P) : A % P = C % P := by
  unfold P at *; omega
theorem fS_add (x y : Nat) : (fS x y + y) % P = x % P := by
  rw [fS_eq]; unfold P; omega

theorem euclid_step (a r n x t : Nat) (hx : x * a % P = r % P) (ht : t * a % P = n % P) : fS x (fM (r / n) t) * a % P = (r % n) % P := by
  have h1 : (fS x (fM (r / n) t) * a + fM (r / n) t * a) % P = (r % n + r / n * n) % P := by
    rw [← Nat.add_mul, Nat.mul_mod, fS_add, ← Nat.mul_mod, hx, Nat.mod_add_div']
  refine cancel h1 ?_
  rw [fM_eq, Nat.mod_mul_mod, Nat.mul_assoc, Nat.mul_mod, ht, ← Nat.mul_mod]

theorem gcd_step {r n : Nat} (h : Nat.gcd r n = 1) : Nat.gcd n (r % n) = 1 := by
  rw [Nat.gcd_comm, ← Nat.gcd_rec, Nat.gcd_comm]; exact h

end Go.Proofs.YtmggccepmicjhagGreatDoor

/-! What Log of package goldref answers: of 2^k, k from 0 to 10, k; of other numbers -1. -/
namespace Go.Proofs.YtmggccepmicjhagGreatDoor
open Go.RowKit
set_option maxRecDepth 100000

theorem two_pow_bound (j : Nat) (hj : j ≤ 10) : ((2 : Int) ^ j) = ((2 ^ j : Nat) : Int) ∧ 2 ^ j ≤ 1024 := by
  refine ⟨by rw [Int.natCast_pow]; rfl, ?_⟩
  exact Nat.le_trans (Nat.pow_le_pow_right (by decide) hj) (by decide)


end Go.Proofs.YtmggccepmicjhagGreatDoor

/-! What Forward and Inverse of package goldref answer, of a list of 2^k numbers, k from 0 to 10: the transform, sum by sum; that by the inverse root, by how many there are. -/
namespace Go.Proofs.YtmggccepmicjhagGreatDoor
open Go.RowKit
set_option maxRecDepth 100000

theorem pE_fw (xs : List Nat) (k j : Nat) (h : xs.length = 2 ^ k) : pE xs (pwK (rt k) j) = (fw xs k j).val := by
  unfold pE pwK fw
  rw [toF_val, dft_cf _ xs k j h]
theorem pE_bw (xs : List Nat) (k j : Nat) (h : xs.length = 2 ^ k) : fM (fW (2 ^ k) 18446744069414584319) (pE xs (pwK (fW (rt k) 18446744069414584319) j)) = (bw xs k j).val := by
  rw [fM_val, toF_inv, toF_pE]
  unfold pwK bw
  rw [toF_val, toF_inv, dft_cf _ xs k j h]

end Go.Proofs.YtmggccepmicjhagGreatDoor

/-! What answer of package goldref answers, verb by verb. -/
namespace Go.Proofs.YtmggccepmicjhagGreatDoor
open Go.RowKit
set_option maxRecDepth 100000

theorem two_cells {w : World} {v : Value} {n : List Nat} (h : IsU w v n) (h2 : n.length = 2) : ∃ b off cap, v = .slice (some ⟨b, off, none⟩) 2 cap ∧ w.cell? ⟨b, off, none⟩ = some (.int .u64 ((n.getD 0 0 : Nat) : Int)) ∧ w.cell? ⟨b, off + 1, none⟩ = some (.int .u64 ((n.getD 1 0 : Nat) : Int)) := by
  obtain ⟨b, off, cap, e⟩ := h.placeN h2 (by decide)
  subst e
  exact ⟨b, off, cap, rfl, h.cell 0 (by omega), h.cell 1 (by omega)⟩
theorem one_cell {w : World} {v : Value} {n : List Nat} (h : IsU w v n) (h2 : 0 < n.length) : ∃ b off cap, v = .slice (some ⟨b, off, none⟩) n.length cap ∧ w.cell? ⟨b, off, none⟩ = some (.int .u64 ((n.getD 0 0 : Nat) : Int)) := by
  obtain ⟨b, off, cap, e⟩ := h.place h2
  subst e
  exact ⟨b, off, cap, rfl, h.cell 0 h2⟩
theorem bs_list (l : List UInt8) : (bs l).toList = l := by rw [ByteArray.toList_eq]; rfl
end Go.Proofs.YtmggccepmicjhagGreatDoor

/-! What Shape of package goldref answers, case by case. -/
namespace Go.Proofs.YtmggccepmicjhagGreatDoor
open Go.RowKit
set_option maxRecDepth 100000

theorem Good_same {zs : List Int} {ds ds' : List Nat} (h : Good zs ds) (h' : Good zs ds') : ds' = ds := by
  have e : ds.map (fun (d : Nat) => (d : Int)) = ds'.map (fun (d : Nat) => (d : Int)) := h.2.2.1.symm.trans h'.2.2.1
  exact (List.map_inj_right (fun a b hab => by omega)).mp e.symm
end Go.Proofs.YtmggccepmicjhagGreatDoor

/-! What answer of package goldref answers to plan and share. -/
namespace Go.Proofs.YtmggccepmicjhagGreatDoor
open Go.RowKit
set_option maxRecDepth 100000

theorem IsI.z {w : World} {v : Value} {ds : List Nat} (h : IsI w v ds) (hr : ∀ d ∈ ds, d ≤ 9223372036854775807) : IsZ w v (ds.map fun (d : Nat) => (d : Int)) := by
  obtain ⟨a, cap, rfl, h1, h2, hc⟩ := h
  refine ⟨a, cap, by rw [List.length_map], by rw [List.length_map]; exact h1, h2, fun i hi => ?_, fun z hz => ?_⟩
  · rw [List.length_map] at hi
    obtain ⟨b, off, e, c⟩ := hc i hi
    refine ⟨b, off, e, ?_⟩
    rw [c]
    simp [List.getD, hi]
  · obtain ⟨d, hd, rfl⟩ := List.mem_map.mp hz
    have := hr d hd
    omega
theorem goodV_iff {ds : List Nat} : GoodV ds ↔ Good (ds.map fun (d : Nat) => (d : Int)) ds := by
  unfold GoodV Good
  rw [List.length_map]
  constructor
  · rintro ⟨h1, h2, h3⟩
    exact ⟨h1, h2, rfl, h3⟩
  · rintro ⟨h1, h2, _, h3⟩
    exact ⟨h1, h2, h3⟩
theorem plE_le (ds : List Nat) (c : Nat) : 0 ≤ plE ds c ∧ plE ds c ≤ 2 := by
  unfold plE
  split <;> (try split) <;> (try split) <;> (try split) <;> decide
theorem plL_small (ds : List Nat) (c : Nat) : (plL ds c).length ≤ 3 ∧ ∀ y, ((plL ds c).getD y []).length ≤ 64 := by
  unfold plL
  split
  · next h =>
    have hG : GoodV ds ∧ Few ds c ds.length := by
      unfold plE at h
      split at h
      · next hG =>
        split at h
        · cases h
        · split at h
          · cases h
          · split at h
            · next hF => exact ⟨hG, hF⟩
            · cases h
      · cases h
    have hl : (pls ds c ds.length).length = ds.length := by simp [pls]
    refine ⟨by rw [hl]; exact hG.1.2.1, fun y => ?_⟩
    rcases Nat.lt_or_ge y ds.length with q | q
    · have e : (pls ds c ds.length).getD y [] = chn y c (nln ds y) := by simp [pls, List.getD, q]
      rw [e]
      exact hG.2 y q
    · rw [List.getD, List.getElem?_eq_none (by rw [hl]; exact q)]
      decide
  · exact ⟨by decide, fun y => by simp⟩
theorem tot_small {L : List (List (List Int))} (h : ∀ y, (L.getD y []).length ≤ 64) (i : Nat) : tot L i ≤ 64 * i := by
  induction i with
  | zero => simp [tot]
  | succ i ih =>
    unfold tot
    have := h i
    omega
/-- The shape under way. -/
def shK (n : List Nat) (i : Nat) : List Nat := ((n.drop 1).take (i - 1)).map smN
theorem shK_succ (n : List Nat) (i : Nat) (h1 : 1 ≤ i) (h : i < n.length) : shK n (i + 1) = shK n i ++ [smN (n.getD i 0)] := by
  obtain ⟨j, rfl⟩ : ∃ j, i = j + 1 := ⟨i - 1, by omega⟩
  unfold shK
  have hj : j < (n.drop 1).length := by rw [List.length_drop]; omega
  rw [Nat.add_sub_cancel, Nat.add_sub_cancel, List.take_succ_eq_append_getElem hj, List.map_append]
  have e : (n.drop 1)[j]'hj = n.getD (j + 1) 0 := by
    rw [List.getElem_drop]
    simp [List.getD, show 1 + j = j + 1 by omega, h]
  rw [e]
  rfl
theorem shK_end (n : List Nat) : shK n n.length = shpV n := by
  unfold shK shpV
  rw [List.take_of_length_le (by rw [List.length_drop]; omega)]
theorem shK_length (n : List Nat) (i : Nat) : (shK n i).length ≤ n.length := by
  unfold shK
  rw [List.length_map, List.length_take, List.length_drop]
  omega
theorem shpV_le (n : List Nat) : ∀ d ∈ shpV n, d ≤ 9223372036854775807 := fun d hd => by
  obtain ⟨x, _, rfl⟩ := List.mem_map.mp hd
  have := smN_le x
  omega
/-- A row of ints of the call's own. -/
def OwI (B : Nat) (w : World) (v : Value) (L : List Nat) : Prop := w.ownsRow B 3 1 v L.length (cellsI L)
theorem OwI.below {B : Nat} {w w' : World} {v : Value} {L : List Nat} (h : OwI B w v L) (hb : Below w.heap.size w w') : OwI B w' v L := owns_below h hb
theorem wp_appOI {ops : Array Oper} {rest : List Oper} {o : Oper} {a : Act} {Q : Exit → Act → World → Prop} {w w0 : World} (hgd : o.guard = none) (s x : Operand)
    (ho : o.op = .call { callee := .builtin .append, args := #[s, x], argTypes := #[97, 97] }) (v : Value) (L : List Nat) (z : Nat)
    (hs : a.eval s = v) (hown : OwI w0.heap.size w v L) (hx : a.eval x = .slice (some ⟨w.heap.size, 0, none⟩) 1 1)
    (hn : L.length ≤ 1000000000) (hnx : Below w0.heap.size w0 w)
    (h : ∀ v' w', OwI w0.heap.size w' v' (L ++ [z]) → Below w0.heap.size w0 w' → wpList Tryz.prog ops Q rest (a.put o.dst v') w') :
    wpList Tryz.prog ops Q (o :: rest) a (w.alloc (.cells #[.int .i64 (z : Int)] 3)) := by
  refine wp_appendI (w0 := w0) hgd s x ho v L.length (cellsI L) z hs hown hx hn hnx fun v' w' h1 h2 => h v' w' ?_ h2
  unfold OwI
  rw [List.length_append, cellsI_append]
  exact h1
end Go.Proofs.YtmggccepmicjhagGreatDoor
