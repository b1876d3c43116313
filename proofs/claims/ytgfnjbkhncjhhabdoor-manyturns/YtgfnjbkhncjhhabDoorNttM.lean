/-
  The transform of a list of 2^k numbers and the way back, by the roots of the program: back and forth a list is what it was; sums; the transform of 1 and noughts; no program in sight.
-/
import Derived.Test.YtgfnjbkhncjhhabDoorDft
namespace Go.Proofs.YtgfnjbkhncjhhabDoor

/-- The transform of a list; and back. -/
def fw (xs : List Nat) (k : Nat) : Nat → F := dft (toF (rt k)) (2 ^ k) (cf xs)
def bw (xs : List Nat) (k : Nat) : Nat → F := fun j => inv (toF (2 ^ k)) * dft (inv (toF (rt k))) (2 ^ k) (cf xs) j
theorem dft_cf (w : F) (xs : List Nat) (k j : Nat) (h : xs.length = 2 ^ k) : dft w (2 ^ k) (cf xs) j = evF (xs.map toF) (pw w j) := by
  rw [dft_ev, List.length_map, h]
  exact dft_congr (fun i _ => cf_gf xs i) j
theorem rt_ne (k : Nat) (hk : k ≤ 32) : fN (rt k) ≠ 0 := by
  intro h
  exact (ord_rt k hk).ne_zero ((fN_zero _).mp h)
theorem len_ne (k : Nat) (hk : k ≤ 32) : fN (2 ^ k) ≠ 0 := by
  intro h
  exact two_pow_ne k hk ((fN_zero _).mp h)
theorem dft_scale (w : F) (n : Nat) (c : F) (f : Nat → F) (j : Nat) : dft w n (fun i => c * f i) j = c * dft w n f j := by
  unfold dft
  rw [← S_mul]
  exact S_congr fun i _ => by grind
theorem rt_inv (k : Nat) (hk : k ≤ 32) : toF (rt k) * inv (toF (rt k)) = 1 := mul_inv (ord_rt k hk).ne_zero
theorem back_forth (xs : List Nat) (k : Nat) (hk : k ≤ 32) : mk (2 ^ k) (bw (mk (2 ^ k) (fw xs k)) k) = mk (2 ^ k) (cf xs) := by
  refine mk_congr fun j hj => ?_
  unfold bw
  have e : dft (inv (toF (rt k))) (2 ^ k) (cf (mk (2 ^ k) (fw xs k))) j = dft (inv (toF (rt k))) (2 ^ k) (dft (toF (rt k)) (2 ^ k) (cf xs)) j :=
    dft_congr (fun i hi => by rw [cf_mk, if_pos hi]; rfl) j
  rw [e, dft_back (ord_rt k hk) (rt_inv k hk) (cf xs) j hj]
  have := mul_inv (two_pow_ne k hk)
  grind
theorem forth_back (xs : List Nat) (k : Nat) (hk : k ≤ 32) : mk (2 ^ k) (fw (mk (2 ^ k) (bw xs k)) k) = mk (2 ^ k) (cf xs) := by
  refine mk_congr fun j hj => ?_
  unfold fw
  have e : dft (toF (rt k)) (2 ^ k) (cf (mk (2 ^ k) (bw xs k))) j = dft (toF (rt k)) (2 ^ k) (fun i => inv (toF (2 ^ k)) * dft (inv (toF (rt k))) (2 ^ k) (cf xs) i) j :=
    dft_congr (fun i hi => by rw [cf_mk, if_pos hi]; rfl) j
  have hv : inv (toF (rt k)) * toF (rt k) = 1 := by have := rt_inv k hk; grind
  rw [e, dft_scale, dft_back ((ord_rt k hk).inv (rt_inv k hk)) hv (cf xs) j hj]
  have := mul_inv (two_pow_ne k hk)
  grind
theorem fw_lin (xs ys : List Nat) (c : F) (k j : Nat) : fw (mk (2 ^ k) (fun i => c * cf xs i + cf ys i)) k j = c * fw xs k j + fw ys k j := by
  unfold fw
  rw [← dft_lin]
  exact dft_congr (fun i hi => by rw [cf_mk, if_pos hi]) j
theorem fw_delta (j : Nat) : fw [1, 0, 0, 0] 2 j = 1 := by
  unfold fw dft
  rw [S_delta (2 ^ 2) 0 (by decide)]
  · rw [Nat.zero_mul, pw_zero]; decide
  · intro i h1 h2
    have e : cf [1, 0, 0, 0] i = 0 := by
      match i, h2 with
      | 1, _ => rfl
      | 2, _ => rfl
      | 3, _ => rfl
      | n + 4, _ => exact cf_ge (by simp)
    rw [e]; grind
theorem four_ones : mk (2 ^ 2) (fw [1, 0, 0, 0] 2) = [1, 1, 1, 1] := by
  have h : mk (2 ^ 2) (fw [1, 0, 0, 0] 2) = mk (2 ^ 2) (fun _ => 1) := mk_congr fun j _ => fw_delta j
  rw [h]; decide +kernel

end Go.Proofs.YtgfnjbkhncjhhabDoor
