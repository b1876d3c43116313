/-
  Products round the end by transforms: there, number by number, and back; skew ones by the powers of a root of twice the order; linear ones by lists long enough; no program in sight.
-/
import Derived.Test.YtgfnjbkhncjhhaeDoorConvM
namespace Go.Proofs.YtgfnjbkhncjhhaeDoor

/-- There, number by number, and back. -/
theorem cyc_way (A B : List Nat) (k : Nat) (hk : k ≤ 32) (hA : A.length = 2 ^ k) (hB : B.length = 2 ^ k) (zs : List Nat) (hz : ∀ t, t < 2 ^ k → cf zs t = fw A k t * fw B k t) : mk (2 ^ k) (bw zs k) = mk (2 ^ k) (rnd A B false) := by
  have h1 : mk (2 ^ k) (bw zs k) = mk (2 ^ k) (bw (mk (2 ^ k) (fw (mk (2 ^ k) (rnd A B false)) k)) k) := by
    refine mk_congr fun j _ => ?_
    unfold bw
    congr 1
    refine dft_congr (fun i hi => ?_) j
    rw [hz i hi, cf_mk, if_pos hi, rnd_fw A B k hk hA hB]
  rw [h1, back_forth _ k hk]
  exact mk_congr fun j hj => by rw [cf_mk, if_pos hj]
theorem conv_tw (f g : Nat → F) (c : F) (k : Nat) : conv (fun i => f i * pw c i) (fun i => g i * pw c i) k = pw c k * conv f g k := by
  unfold conv
  rw [← S_mul]
  refine S_congr fun i hi => ?_
  have e : pw c k = pw c i * pw c (k - i) := by rw [← pw_add]; congr 1; omega
  rw [e]; grind
/-- Skew: each number times a power of a number whose n-th power is -1. -/
theorem rnd_skewK (A B A' B' : List Nat) (c : F) (hl : A'.length = A.length) (hc : pw c A.length = -1) (hA : ∀ i, cf A' i = cf A i * pw c i) (hB : ∀ i, cf B' i = cf B i * pw c i) (k : Nat) : rnd A' B' false k = pw c k * rnd A B true k := by
  show conv (cf A') (cf B') k + conv (cf A') (cf B') (k + A'.length) = pw c k * (conv (cf A) (cf B) k - conv (cf A) (cf B) (k + A.length))
  rw [conv_congr hA hB, conv_congr hA hB, conv_tw, conv_tw, hl, pw_add, hc]; grind
theorem rt_neg (k : Nat) (hk : k + 1 ≤ 32) : pw (toF (rt (k + 1))) (2 ^ k) = -1 := (ord_rt (k + 1) hk).half k rfl
/-- Linear: of lists with noughts behind them, so long that nothing goes over the end. -/
theorem rnd_lin (A B A' B' : List Nat) (hA : ∀ i, cf A' i = cf A i) (hB : ∀ i, cf B' i = cf B i) (hn : A.length + B.length ≤ A'.length + 1) (k : Nat) : rnd A' B' false k = conv (cf A) (cf B) k := by
  show conv (cf A') (cf B') k + conv (cf A') (cf B') (k + A'.length) = conv (cf A) (cf B) k
  rw [conv_congr hA hB, conv_congr hA hB, conv_above (m := A.length) (n := B.length) (fun t ht => cf_ge ht) (fun t ht => cf_ge ht) (k + A'.length) (by omega)]; grind
theorem lin_take (A B : List Nat) (n : Nat) (f : Nat → F) (hA : A.length ≠ 0) (hB : B.length ≠ 0) (hn : A.length + B.length - 1 ≤ n) (hf : ∀ k, f k = conv (cf A) (cf B) k) : (mk n f).take (A.length + B.length - 1) = pM A B := by
  unfold pM
  rw [if_neg (by omega)]
  unfold mk
  rw [← List.map_take, List.take_range, Nat.min_eq_left hn]
  exact List.map_congr_left fun i _ => by rw [hf]

end Go.Proofs.YtgfnjbkhncjhhaeDoor
