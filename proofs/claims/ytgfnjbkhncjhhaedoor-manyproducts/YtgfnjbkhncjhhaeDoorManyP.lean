/-
  Products of two lists, number by number, as one list; no program in sight.
-/
import Derived.Test.YtgfnjbkhncjhhaeDoorManyN
namespace Go.Proofs.YtgfnjbkhncjhhaeDoor

/-- The first t products of p's numbers and q's, q's going on first. -/
def ou (p q : List Nat) (n t : Nat) : List Nat := (List.range t).map fun s => fM (p.getD (s / n) 0) (q.getD (s % n) 0)
theorem ou_length (p q : List Nat) (n t : Nat) : (ou p q n t).length = t := by simp [ou]
theorem ou_step (p q : List Nat) (n u v : Nat) (hv : v < n) : ou p q n (u * n + v + 1) = ou p q n (u * n + v) ++ [fM (p.getD u 0) (q.getD v 0)] := by
  simp only [ou, List.range_succ, List.map_append, List.map_cons, List.map_nil, div_of hv, mod_of hv]
theorem ou_get (p q : List Nat) (n t u v : Nat) (hv : v < n) (ht : u * n + v < t) : (ou p q n t).getD (u * n + v) 0 = fM (p.getD u 0) (q.getD v 0) := by
  simp only [ou, List.getD, List.getElem?_map, List.getElem?_range ht, Option.map_some, Option.getD_some, div_of hv, mod_of hv]
theorem ou_rng (p q : List Nat) (n t : Nat) : ∀ x ∈ ou p q n t, (x : Int) < 18446744073709551616 := by
  intro x hx
  obtain ⟨s, _, rfl⟩ := List.mem_map.mp hx
  have := fM_lt (p.getD (s / n) 0) (q.getD (s % n) 0)
  omega
theorem axW_pow (j : Nat) : axW false (2 ^ j) = toF (rt j) := by
  show toF (rt (Nat.log2 (2 ^ j))) = toF (rt j)
  rw [Nat.log2_two_pow]
theorem outer_val (p q : List Nat) (a b : Nat) (hab : 2 ^ a * 2 ^ b ≤ 1024) (u v : Nat) (hu : u < 2 ^ a) (hv : v < 2 ^ b) :
    who [2 ^ a, 2 ^ b] false (cf (ou p q (2 ^ b) (2 ^ a * 2 ^ b))) 2 (u * 2 ^ b + v) = fw p a u * fw q b v := by
  have h := who_outer (2 ^ a) (2 ^ b) ⟨a, rfl⟩ ⟨b, rfl⟩ hab (cf p) (cf q) (cf (ou p q (2 ^ b) (2 ^ a * 2 ^ b))) (fun i j hi hj => by
    have hlt : i * 2 ^ b + j < 2 ^ a * 2 ^ b := by
      have : (i + 1) * 2 ^ b ≤ 2 ^ a * 2 ^ b := Nat.mul_le_mul_right _ hi
      rw [Nat.add_mul, Nat.one_mul] at this
      omega
    unfold cf
    rw [ou_get p q _ _ i j hj hlt, toF_fM]) u v hu hv
  rw [h, axW_pow, axW_pow]; rfl

end Go.Proofs.YtgfnjbkhncjhhaeDoor
