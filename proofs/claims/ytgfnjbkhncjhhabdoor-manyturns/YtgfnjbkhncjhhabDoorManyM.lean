/-
  Arrays with axes: the place of a number at an axis, another place there; a transform along one axis, two of them in either order; all axes together, and back; products round all axes; no program in sight.
-/
import Derived.Test.YtgfnjbkhncjhhabDoorNttM
namespace Go.Proofs.YtgfnjbkhncjhhabDoor

/-- The place of number p at the axis of d places whose steps go over u numbers; the number with the place s there. -/
def dg (u d p : Nat) : Nat := p / u % d
def st (u d p s : Nat) : Nat := p / (u * d) * (u * d) + s * u + p % u

theorem div_of {q b r : Nat} (h : r < b) : (q * b + r) / b = q := by
  rw [Nat.mul_comm, Nat.mul_add_div (by omega), Nat.div_eq_of_lt h, Nat.add_zero]
theorem mod_of {q b r : Nat} (h : r < b) : (q * b + r) % b = r := by
  rw [Nat.mul_comm, Nat.mul_add_mod, Nat.mod_eq_of_lt h]
theorem low_lt {u d s r : Nat} (hs : s < d) (hr : r < u) : s * u + r < u * d := by
  have : (s + 1) * u ≤ d * u := Nat.mul_le_mul_right _ hs
  rw [Nat.add_mul, Nat.one_mul, Nat.mul_comm d u] at this
  omega
theorem st_div {u d p s : Nat} (hu : 0 < u) (hs : s < d) : st u d p s / (u * d) = p / (u * d) := by
  unfold st
  rw [Nat.add_assoc]
  exact div_of (low_lt hs (Nat.mod_lt _ hu))
theorem st_mod {u d p s : Nat} (hu : 0 < u) : st u d p s % u = p % u := by
  unfold st
  have e : p / (u * d) * (u * d) + s * u = (p / (u * d) * d + s) * u := by grind
  rw [e]
  exact mod_of (Nat.mod_lt _ hu)
theorem dg_st {u d p s : Nat} (hu : 0 < u) (hs : s < d) : dg u d (st u d p s) = s := by
  unfold dg st
  have e : p / (u * d) * (u * d) + s * u = (p / (u * d) * d + s) * u := by grind
  rw [e, div_of (Nat.mod_lt _ hu)]
  exact mod_of hs
theorem dg_lt {u d p : Nat} (hd : 0 < d) : dg u d p < d := Nat.mod_lt _ hd
theorem st_self (u d p : Nat) : st u d p (dg u d p) = p := by
  unfold st dg
  have h1 := Nat.div_add_mod p u
  have h2 := Nat.div_add_mod (p / u) d
  rw [Nat.div_div_eq_div_mul] at h2
  have e : p / (u * d) * (u * d) + p / u % d * u = u * (d * (p / (u * d)) + p / u % d) := by grind
  rw [e, h2, h1]
theorem st_st {u d p s t : Nat} (hu : 0 < u) (hs : s < d) : st u d (st u d p s) t = st u d p t := by
  rw [show st u d (st u d p s) t = st u d p s / (u * d) * (u * d) + t * u + st u d p s % u from rfl, st_div hu hs, st_mod hu]; rfl
theorem st_high {u d : Nat} (hu : 0 < u) (hd : 0 < d) (m Y l s : Nat) : st u d (Y * (u * d * m) + l) s = Y * (u * d * m) + st u d l s := by
  unfold st
  have hp : 0 < u * d := Nat.mul_pos hu hd
  have e1 : Y * (u * d * m) + l = u * d * (Y * m) + l := by grind
  have e2 : Y * (u * d * m) + l = u * (Y * d * m) + l := by grind
  rw [show (Y * (u * d * m) + l) / (u * d) = Y * m + l / (u * d) by rw [e1, Nat.mul_add_div hp], show (Y * (u * d * m) + l) % u = l % u by rw [e2, Nat.mul_add_mod]]
  grind
theorem st_lt {u d : Nat} (hu : 0 < u) {m l s : Nat} (hl : l < u * d * m) (hs : s < d) : st u d l s < u * d * m := by
  unfold st
  have h1 : l / (u * d) < m := Nat.div_lt_of_lt_mul hl
  have h2 : (l / (u * d) + 1) * (u * d) ≤ m * (u * d) := Nat.mul_le_mul_right _ h1
  have h3 := low_lt (r := l % u) hs (Nat.mod_lt l hu)
  rw [Nat.add_mul, Nat.one_mul, Nat.mul_comm m] at h2
  omega

/-- Two axes: what is behind the one is a part of a step of the other. -/
theorem st_parts {u d m d' : Nat} (hu : 0 < u) (hd : 0 < d) (hm : 0 < m) (p : Nat) {s : Nat} (hs : s < d) (s' : Nat) :
    dg (u * d * m) d' (st u d p s) = dg (u * d * m) d' p ∧ dg u d (st (u * d * m) d' p s') = dg u d p ∧ st u d (st (u * d * m) d' p s') s = st (u * d * m) d' (st u d p s) s' := by
  have hU : 0 < u * d * m := Nat.mul_pos (Nat.mul_pos hu hd) hm
  obtain ⟨Y, l, hl, rfl⟩ : ∃ Y l, l < u * d * m ∧ p = Y * (u * d * m) + l := ⟨p / (u * d * m), p % (u * d * m), Nat.mod_lt _ hU, by rw [Nat.mul_comm, Nat.div_add_mod]⟩
  rw [st_high hu hd]
  have h2 := st_lt hu hl hs
  have dgl : ∀ Z r, dg u d (Z * (u * d * m) + r) = dg u d r := fun Z r => by
    unfold dg
    have e : Z * (u * d * m) + r = u * (d * (Z * m)) + r := by grind
    rw [e, Nat.mul_add_div hu, Nat.mul_add_mod]
  have sto : ∀ r, r < u * d * m → st (u * d * m) d' (Y * (u * d * m) + r) s' = (Y / d' * d' + s') * (u * d * m) + r := fun r hr => by
    unfold st
    rw [mod_of hr, ← Nat.div_div_eq_div_mul, div_of hr]; grind
  refine ⟨?_, ?_, ?_⟩
  · unfold dg
    rw [div_of h2, div_of hl]
  · rw [sto l hl, dgl, dgl]
  · rw [sto l hl, sto _ h2, st_high hu hd]

/-- A transform along one axis, each number times c. -/
def ax (c w : F) (u d : Nat) (f : Nat → F) (p : Nat) : F := c * dft w d (fun s => f (st u d p s)) (dg u d p)
theorem ax_congr {c w : F} {u d m : Nat} {f g : Nat → F} (hu : 0 < u) (h : ∀ i, i < u * d * m → f i = g i) (p : Nat) (hp : p < u * d * m) : ax c w u d f p = ax c w u d g p := by
  unfold ax
  rw [dft_congr (fun s hs => h _ (st_lt hu hp hs))]
theorem ax_comm {u d m d' : Nat} (hu : 0 < u) (hd : 0 < d) (hm : 0 < m) (c w c' w' : F) (f : Nat → F) (p : Nat) :
    ax c w u d (ax c' w' (u * d * m) d' f) p = ax c' w' (u * d * m) d' (ax c w u d f) p := by
  unfold ax dft
  have e1 : S d (fun s => c' * S d' (fun s' => f (st (u * d * m) d' (st u d p s) s') * pw w' (s' * dg (u * d * m) d' (st u d p s))) * pw w (s * dg u d p)) = S d (fun s => S d' (fun s' => c' * (f (st (u * d * m) d' (st u d p s) s') * pw w' (s' * dg (u * d * m) d' p)) * pw w (s * dg u d p))) := by
    refine S_congr fun s hs => ?_
    rw [show c' * S d' (fun s' => f (st (u * d * m) d' (st u d p s) s') * pw w' (s' * dg (u * d * m) d' (st u d p s))) * pw w (s * dg u d p) = (c' * pw w (s * dg u d p)) * S d' (fun s' => f (st (u * d * m) d' (st u d p s) s') * pw w' (s' * dg (u * d * m) d' (st u d p s))) by grind, ← S_mul]
    refine S_congr fun s' _ => ?_
    rw [(st_parts hu hd hm p hs s').1]; grind
  have e2 : S d' (fun s' => c * S d (fun s => f (st u d (st (u * d * m) d' p s') s) * pw w (s * dg u d (st (u * d * m) d' p s'))) * pw w' (s' * dg (u * d * m) d' p)) = S d' (fun s' => S d (fun s => c * (f (st (u * d * m) d' (st u d p s) s') * pw w (s * dg u d p)) * pw w' (s' * dg (u * d * m) d' p))) := by
    refine S_congr fun s' _ => ?_
    rw [show c * S d (fun s => f (st u d (st (u * d * m) d' p s') s) * pw w (s * dg u d (st (u * d * m) d' p s'))) * pw w' (s' * dg (u * d * m) d' p) = (c * pw w' (s' * dg (u * d * m) d' p)) * S d (fun s => f (st u d (st (u * d * m) d' p s') s) * pw w (s * dg u d (st (u * d * m) d' p s'))) by grind, ← S_mul]
    refine S_congr fun s hs => ?_
    rw [(st_parts hu hd hm p hs s').2.1, (st_parts hu hd hm p hs s').2.2]; grind
  rw [e1, e2, S_comm, ← S_mul, ← S_mul]
  refine S_congr fun s' _ => ?_
  rw [← S_mul, ← S_mul]
  exact S_congr fun s _ => by grind

/-- The sum over a times b numbers. -/
theorem S_two (a b : Nat) (f : Nat → F) : S (a * b) f = S a (fun i => S b (fun j => f (i * b + j))) := by
  induction a with
  | zero => rw [Nat.zero_mul, S_zero, S_zero]
  | succ a ih => rw [Nat.add_mul, Nat.one_mul, S_split, ih, S_succ]

/-- Axes, by their sizes d x and roots w x: what a number is worth at another one. -/
def chi (w : Nat → F) (d : Nat → Nat) : Nat → Nat → Nat → F
  | 0, _, _ => 1
  | x + 1, q, p => chi w d x (q / d x) (p / d x) * pw (w x) (q % d x * (p % d x))
/-- How many numbers the first x axes have. -/
def sizN (d : Nat → Nat) : Nat → Nat
  | 0 => 1
  | x + 1 => sizN d x * d x
/-- All axes up to x, one after another; U x: how many numbers lie behind the first x axes. -/
def whK (c w : Nat → F) (d U : Nat → Nat) (f : Nat → F) : Nat → Nat → F
  | 0 => f
  | x + 1 => ax (c x) (w x) (U (x + 1)) (d x) (whK c w d U f x)
def cfs (c : Nat → F) : Nat → F
  | 0 => 1
  | x + 1 => cfs c x * c x
theorem whK_chi (c w : Nat → F) (d U : Nat → Nat) (f : Nat → F) (x : Nat) (hU : ∀ y, y < x → U y = U (y + 1) * d y) (hp : ∀ y, y ≤ x → 0 < U y) (hd : ∀ y, y < x → 0 < d y) (p : Nat) :
    whK c w d U f x p = cfs c x * S (sizN d x) (fun q => f ((p / U 0 * sizN d x + q) * U x + p % U x) * chi w d x q (p / U x)) := by
  induction x generalizing p with
  | zero =>
    rw [whK, cfs, sizN, S_succ, S_zero]
    have e : (p / U 0 * 1 + 0) * U 0 + p % U 0 = p := by rw [Nat.mul_one, Nat.add_zero, Nat.mul_comm, Nat.div_add_mod]
    rw [e, chi]; grind
  | succ x ih =>
    have hUx := hU x (by omega)
    have hu := hp (x + 1) (Nat.le_refl _)
    have hdx := hd x (by omega)
    have hux := hp x (by omega)
    rw [whK, ax, dft, cfs, sizN, S_two, S_comm]
    have key : ∀ s, s < d x → whK c w d U f x (st (U (x + 1)) (d x) p s) = cfs c x * S (sizN d x) (fun q => f ((p / U 0 * (sizN d x * d x) + (q * d x + s)) * U (x + 1) + p % U (x + 1)) * chi w d x q (p / U x)) := by
      intro s hs
      rw [ih (fun y hy => hU y (by omega)) (fun y hy => hp y (by omega)) (fun y hy => hd y (by omega))]
      have h1 : st (U (x + 1)) (d x) p s / U x = p / U x := by rw [hUx]; exact st_div hu hs
      have h0 : ∀ y, y ≤ x → st (U (x + 1)) (d x) p s / U y = p / U y := by
        intro y hy
        have hdv : ∃ m, U y = U x * m := by
          clear h1 ih hux hdx hu
          induction hk : x - y generalizing y with
          | zero => obtain rfl : y = x := by omega
                    exact ⟨1, by omega⟩
          | succ k ihk =>
            obtain ⟨m, hm⟩ := ihk (y + 1) (by omega) (by omega)
            exact ⟨m * d y, by rw [hU y (by omega), hm, Nat.mul_assoc]⟩
        obtain ⟨m, hm⟩ := hdv
        rw [hm, ← Nat.div_div_eq_div_mul, h1, Nat.div_div_eq_div_mul]
      rw [h1, h0 0 (by omega)]
      congr 1
      refine S_congr fun q _ => ?_
      congr 2
      have h2 : st (U (x + 1)) (d x) p s % U x = s * U (x + 1) + p % U (x + 1) := by
        rw [hUx]
        unfold st
        rw [Nat.add_assoc]
        exact mod_of (low_lt hs (Nat.mod_lt _ hu))
      rw [h2, hUx]; grind
    have e1 : S (d x) (fun s => whK c w d U f x (st (U (x + 1)) (d x) p s) * pw (w x) (s * dg (U (x + 1)) (d x) p)) = cfs c x * S (d x) (fun s => S (sizN d x) (fun q => f ((p / U 0 * (sizN d x * d x) + (q * d x + s)) * U (x + 1) + p % U (x + 1)) * chi w d (x + 1) (q * d x + s) (p / U (x + 1)))) := by
      rw [← S_mul]
      refine S_congr fun s hs => ?_
      rw [key s hs]
      rw [show cfs c x * S (sizN d x) (fun q => f ((p / U 0 * (sizN d x * d x) + (q * d x + s)) * U (x + 1) + p % U (x + 1)) * chi w d x q (p / U x)) * pw (w x) (s * dg (U (x + 1)) (d x) p) = cfs c x * (pw (w x) (s * dg (U (x + 1)) (d x) p) * S (sizN d x) (fun q => f ((p / U 0 * (sizN d x * d x) + (q * d x + s)) * U (x + 1) + p % U (x + 1)) * chi w d x q (p / U x))) by grind, ← S_mul]
      congr 1
      refine S_congr fun q _ => ?_
      rw [chi, div_of hs, mod_of hs, Nat.div_div_eq_div_mul, ← hUx]
      unfold dg
      grind
    rw [e1, S_comm]; grind

/-- Products, and places, round all axes. -/
def atN (d : Nat → Nat) : Nat → Nat → Nat → Nat
  | 0, _, _ => 0
  | x + 1, q, r => atN d x (q / d x) (r / d x) * d x + (q % d x + r % d x) % d x
theorem atN_lt (d : Nat → Nat) (x : Nat) (hd : ∀ y, y < x → 0 < d y) (q r : Nat) : atN d x q r < sizN d x := by
  induction x generalizing q r with
  | zero => exact Nat.zero_lt_one
  | succ x ih =>
    rw [atN, sizN]
    have h1 := ih (fun y hy => hd y (by omega)) (q / d x) (r / d x)
    have h2 : (q % d x + r % d x) % d x < d x := Nat.mod_lt _ (hd x (by omega))
    have h3 : (atN d x (q / d x) (r / d x) + 1) * d x ≤ sizN d x * d x := Nat.mul_le_mul_right _ h1
    rw [Nat.add_mul, Nat.one_mul] at h3
    omega
theorem chi_symm (w : Nat → F) (d : Nat → Nat) (x q p : Nat) : chi w d x q p = chi w d x p q := by
  induction x generalizing q p with
  | zero => rfl
  | succ x ih => rw [chi, chi, ih, Nat.mul_comm]
theorem pw_mod_of {w : F} {d : Nat} (h : pw w d = 1) (m : Nat) : pw w (m % d) = pw w m := by
  have e := Nat.div_add_mod m d
  conv => rhs; rw [← e, pw_add, pw_mul, h, pw_one]
  grind
theorem chi_at (w : Nat → F) (d : Nat → Nat) (x : Nat) (hw : ∀ y, y < x → pw (w y) (d y) = 1) (hd : ∀ y, y < x → 0 < d y) (q r p : Nat) : chi w d x (atN d x q r) p = chi w d x q p * chi w d x r p := by
  induction x generalizing q r p with
  | zero => rw [chi, chi, chi]; grind
  | succ x ih =>
    rw [chi, atN]
    have h2 : (q % d x + r % d x) % d x < d x := Nat.mod_lt _ (hd x (by omega))
    rw [div_of h2, mod_of h2, ih (fun y hy => hw y (by omega)) (fun y hy => hd y (by omega)), chi, chi]
    have e : pw (w x) ((q % d x + r % d x) % d x * (p % d x)) = pw (w x) (q % d x * (p % d x)) * pw (w x) (r % d x * (p % d x)) := by
      rw [pw_mul, pw_mod_of (hw x (by omega)), ← pw_mul, Nat.add_mul, pw_add]
    rw [e]; grind
/-- The product round all axes. -/
def cyc (d : Nat → Nat) (x n : Nat) (f g : Nat → F) (k : Nat) : F := S n (fun i => S n (fun j => if atN d x i j = k then f i * g j else 0))
theorem chi_cyc (w : Nat → F) (d : Nat → Nat) (x : Nat) (hw : ∀ y, y < x → pw (w y) (d y) = 1) (hd : ∀ y, y < x → 0 < d y) (f g : Nat → F) (p : Nat) :
    S (sizN d x) (fun k => cyc d x (sizN d x) f g k * chi w d x k p) = S (sizN d x) (fun i => f i * chi w d x i p) * S (sizN d x) (fun j => g j * chi w d x j p) := by
  have e1 : S (sizN d x) (fun k => cyc d x (sizN d x) f g k * chi w d x k p) = S (sizN d x) (fun k => S (sizN d x) (fun i => S (sizN d x) (fun j => if atN d x i j = k then f i * g j * chi w d x k p else 0))) := by
    refine S_congr fun k _ => ?_
    unfold cyc
    rw [show S (sizN d x) (fun i => S (sizN d x) (fun j => if atN d x i j = k then f i * g j else 0)) * chi w d x k p = chi w d x k p * S (sizN d x) (fun i => S (sizN d x) (fun j => if atN d x i j = k then f i * g j else 0)) by grind, ← S_mul]
    refine S_congr fun i _ => ?_
    rw [← S_mul]
    refine S_congr fun j _ => ?_
    by_cases h : atN d x i j = k
    · rw [if_pos h, if_pos h]; grind
    · rw [if_neg h, if_neg h]; grind
  rw [e1, S_comm, show S (sizN d x) (fun i => f i * chi w d x i p) * S (sizN d x) (fun j => g j * chi w d x j p) = S (sizN d x) (fun j => g j * chi w d x j p) * S (sizN d x) (fun i => f i * chi w d x i p) by grind, ← S_mul]
  refine S_congr fun i _ => ?_
  rw [S_comm, show S (sizN d x) (fun j => g j * chi w d x j p) * (f i * chi w d x i p) = (f i * chi w d x i p) * S (sizN d x) (fun j => g j * chi w d x j p) by grind, ← S_mul]
  refine S_congr fun j _ => ?_
  rw [S_delta _ (atN d x i j) (atN_lt d x hd i j)]
  · rw [if_pos rfl, chi_at w d x hw hd]; grind
  · intro k _ hne
    rw [if_neg (Ne.symm hne)]

/-- Back: sums of what numbers are worth. -/
theorem chi_back (w v : Nat → F) (d : Nat → Nat) (x : Nat) (h : ∀ y, y < x → ∃ k, d y = 2 ^ k ∧ Ord (w y) k ∧ w y * v y = 1) (f : Nat → F) (p : Nat) (hp : p < sizN d x) :
    S (sizN d x) (fun q => S (sizN d x) (fun r => f r * chi w d x r q) * chi v d x q p) = toF (sizN d x) * f p := by
  induction x generalizing f p with
  | zero =>
    have : p = 0 := by rw [sizN] at hp; omega
    subst this
    rw [sizN, S_succ, S_zero, S_succ, S_zero, chi, chi, toF_one]; grind
  | succ x ih =>
    obtain ⟨k, hk, ho, hv⟩ := h x (by omega)
    have hdx : 0 < d x := by rw [hk]; exact Nat.pow_pos (by decide)
    rw [sizN] at hp
    have hp1 : p / d x < sizN d x := Nat.div_lt_of_lt_mul (by rw [Nat.mul_comm]; exact hp)
    have hp2 : p % d x < d x := Nat.mod_lt _ hdx
    have ih' := ih (fun y hy => h y (by omega))
    have e0 : ∀ q, S (sizN d x * d x) (fun r => f r * chi w d (x + 1) r q) = S (sizN d x) (fun a => dft (w x) (d x) (fun s => f (a * d x + s)) (q % d x) * chi w d x a (q / d x)) := by
      intro q
      rw [S_two]
      refine S_congr fun a _ => ?_
      unfold dft
      rw [show S (d x) (fun i => f (a * d x + i) * pw (w x) (i * (q % d x))) * chi w d x a (q / d x) = chi w d x a (q / d x) * S (d x) (fun i => f (a * d x + i) * pw (w x) (i * (q % d x))) by grind, ← S_mul]
      refine S_congr fun s hs => ?_
      rw [chi, div_of hs, mod_of hs]; grind
    have e1 : S (sizN d x * d x) (fun q => S (sizN d x * d x) (fun r => f r * chi w d (x + 1) r q) * chi v d (x + 1) q p) = S (d x) (fun t => S (sizN d x) (fun b => S (sizN d x) (fun a => dft (w x) (d x) (fun s => f (a * d x + s)) t * chi w d x a b) * chi v d x b (p / d x)) * pw (v x) (t * (p % d x))) := by
      rw [S_two, S_comm]
      refine S_congr fun t ht => ?_
      rw [show S (sizN d x) (fun b => S (sizN d x) (fun a => dft (w x) (d x) (fun s => f (a * d x + s)) t * chi w d x a b) * chi v d x b (p / d x)) * pw (v x) (t * (p % d x)) = pw (v x) (t * (p % d x)) * S (sizN d x) (fun b => S (sizN d x) (fun a => dft (w x) (d x) (fun s => f (a * d x + s)) t * chi w d x a b) * chi v d x b (p / d x)) by grind, ← S_mul]
      refine S_congr fun b _ => ?_
      rw [e0, div_of ht, mod_of ht, chi, div_of ht, mod_of ht]; grind
    rw [sizN, e1]
    have e2 : S (d x) (fun t => S (sizN d x) (fun b => S (sizN d x) (fun a => dft (w x) (d x) (fun s => f (a * d x + s)) t * chi w d x a b) * chi v d x b (p / d x)) * pw (v x) (t * (p % d x))) = toF (sizN d x) * dft (v x) (d x) (dft (w x) (d x) (fun s => f (p / d x * d x + s))) (p % d x) := by
      rw [show dft (v x) (d x) (dft (w x) (d x) (fun s => f (p / d x * d x + s))) (p % d x) = S (d x) (fun t => dft (w x) (d x) (fun s => f (p / d x * d x + s)) t * pw (v x) (t * (p % d x))) from rfl, ← S_mul]
      refine S_congr fun t _ => ?_
      rw [ih' (fun a => dft (w x) (d x) (fun s => f (a * d x + s)) t) (p / d x) hp1]; grind
    rw [e2, hk, dft_back ho hv _ _ (by rw [← hk]; exact hp2), ← hk, toF_mul, show p / d x * d x + p % d x = p by rw [Nat.mul_comm, Nat.div_add_mod]]
    grind

end Go.Proofs.YtgfnjbkhncjhhabDoor
