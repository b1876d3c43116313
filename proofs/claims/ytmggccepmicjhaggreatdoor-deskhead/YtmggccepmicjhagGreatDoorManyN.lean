/-
  Arrays of a shape: the axes of a list of powers of two; transforms along an axis and along all of them, back and forth, in either order; products round all axes; no program in sight.
-/
import Derived.Test.YtmggccepmicjhagGreatDoorPure
import Derived.Test.YtmggccepmicjhagGreatDoorSlZAll
namespace Go.Proofs.YtmggccepmicjhagGreatDoor

/-- The root of an axis of d places, and what each number is taken times: forth, and back. -/
def axW (back : Bool) (d : Nat) : F := if back then inv (toF (rt (Nat.log2 d))) else toF (rt (Nat.log2 d))
def axC (back : Bool) (d : Nat) : F := if back then inv (toF d) else 1
def sz (ds : List Nat) (x : Nat) : Nat := ds.getD x 0
def beh (ds : List Nat) (x : Nat) : Nat := prd2 (ds.drop x)
/-- An array transformed along axis x; along the first x axes. -/
def alo (ds : List Nat) (x : Nat) (back : Bool) (f : Nat → F) : Nat → F := ax (axC back (sz ds x)) (axW back (sz ds x)) (beh ds (x + 1)) (sz ds x) f
def who (ds : List Nat) (back : Bool) (f : Nat → F) (x : Nat) : Nat → F := whK (fun y => axC back (sz ds y)) (fun y => axW back (sz ds y)) (sz ds) (beh ds) f x
theorem who_zero (ds : List Nat) (back : Bool) (f : Nat → F) : who ds back f 0 = f := rfl
theorem who_succ (ds : List Nat) (back : Bool) (f : Nat → F) (x : Nat) : who ds back f (x + 1) = alo ds x back (who ds back f x) := rfl

/-- A right shape. -/
def Shp (ds : List Nat) : Prop := ∀ d ∈ ds, P2 d
theorem Shp.at {ds : List Nat} (h : Shp ds) (x : Nat) (hx : x < ds.length) : P2 (sz ds x) := by
  unfold sz
  have e : ds.getD x 0 = ds[x] := by simp [List.getD, hx]
  rw [e]
  exact h _ (List.getElem_mem hx)
theorem Shp.pos {ds : List Nat} (h : Shp ds) : ∀ d ∈ ds, 0 < d := fun d hd => P2_pos (h d hd)
theorem beh_step (ds : List Nat) (x : Nat) (hx : x < ds.length) : beh ds x = beh ds (x + 1) * sz ds x := by
  unfold beh sz
  rw [List.drop_eq_getElem_cons hx, prd2, Nat.mul_comm]
  congr 1
  simp [List.getD, hx]
theorem beh_pos {ds : List Nat} (h : Shp ds) (x : Nat) : 0 < beh ds x := prd2_pos fun d hd => h.pos d (List.mem_of_mem_drop hd)
theorem beh_zero (ds : List Nat) : beh ds 0 = prd2 ds := rfl
theorem beh_end (ds : List Nat) : beh ds ds.length = 1 := by unfold beh; rw [List.drop_length]; rfl
theorem sizN_take (ds : List Nat) (x : Nat) (hx : x ≤ ds.length) : sizN (sz ds) x = prd2 (ds.take x) := by
  induction x with
  | zero => rfl
  | succ x ih => rw [sizN, ih (by omega), prd2_take ds x (by omega)]; rfl
theorem sizN_all (ds : List Nat) : sizN (sz ds) ds.length = prd2 ds := by rw [sizN_take ds _ (Nat.le_refl _), List.take_length]
theorem ordW {d : Nat} (h : P2 d) (hd : d ≤ 1024) : ∃ k, d = 2 ^ k ∧ k ≤ 10 ∧ Nat.log2 d = k := by
  obtain ⟨k, rfl⟩ := h
  refine ⟨k, rfl, ?_, Nat.log2_two_pow⟩
  rcases Nat.lt_or_ge 10 k with h1 | h1
  · have : 2 ^ 11 ≤ 2 ^ k := Nat.pow_le_pow_right (by decide) h1
    have e : (2 : Nat) ^ 11 = 2048 := by decide
    omega
  · exact h1
theorem sz_le {ds : List Nat} (h : Shp ds) (hn : prd2 ds ≤ 1024) (x : Nat) (hx : x < ds.length) : sz ds x ≤ 1024 := by
  have h1 := prd2_take ds x hx
  have h2 := prd2_take_le h.pos (x + 1)
  have h3 : 0 < prd2 (ds.take x) := prd2_pos fun d hd => h.pos d (List.mem_of_mem_take hd)
  have h4 : ds.getD x 0 ≤ prd2 (ds.take x) * ds.getD x 0 := Nat.le_mul_of_pos_left _ h3
  unfold sz; omega
theorem axW_ord {ds : List Nat} (h : Shp ds) (hn : prd2 ds ≤ 1024) (x : Nat) (hx : x < ds.length) : ∃ k, sz ds x = 2 ^ k ∧ k ≤ 10 ∧ Ord (axW false (sz ds x)) k ∧ Ord (axW true (sz ds x)) k ∧ axW false (sz ds x) * axW true (sz ds x) = 1 := by
  obtain ⟨k, hk, hk10, hl⟩ := ordW (h.at x hx) (sz_le h hn x hx)
  refine ⟨k, hk, hk10, ?_, ?_, ?_⟩
  · unfold axW; rw [hl]; exact ord_rt k (by omega)
  · unfold axW; rw [hl]; exact (ord_rt k (by omega)).inv (rt_inv k (by omega))
  · unfold axW; rw [hl]; exact rt_inv k (by omega)

theorem who_chi {ds : List Nat} (h : Shp ds) (back : Bool) (f : Nat → F) (p : Nat) (hp : p < prd2 ds) :
    who ds back f ds.length p = cfs (fun y => axC back (sz ds y)) ds.length * S (prd2 ds) (fun q => f q * chi (fun y => axW back (sz ds y)) (sz ds) ds.length q p) := by
  unfold who
  rw [whK_chi _ _ _ _ f ds.length (fun y hy => beh_step ds y hy) (fun y _ => beh_pos h y) (fun y hy => P2_pos (h.at y hy)), sizN_all, beh_zero, beh_end]
  congr 1
  refine S_congr fun q _ => ?_
  rw [Nat.div_eq_of_lt hp, Nat.zero_mul, Nat.zero_add, Nat.mul_one, Nat.mod_one, Nat.add_zero, Nat.div_one]
theorem cfs_false (ds : List Nat) (x : Nat) : cfs (fun y => axC false (sz ds y)) x = 1 := by
  induction x with
  | zero => rfl
  | succ x ih => rw [cfs, ih]; unfold axC; grind
theorem cfs_true {ds : List Nat} (h : Shp ds) (hn : prd2 ds ≤ 1024) (x : Nat) (hx : x ≤ ds.length) : cfs (fun y => axC true (sz ds y)) x * toF (sizN (sz ds) x) = 1 := by
  induction x with
  | zero => rw [cfs, sizN, toF_one]; grind
  | succ x ih =>
    obtain ⟨k, hk, hk10, -⟩ := axW_ord h hn x hx
    have h1 := mul_inv (two_pow_ne k (by omega))
    rw [← hk] at h1
    rw [cfs, sizN, toF_mul]
    have h2 := ih (by omega)
    have e : axC true (sz ds x) = inv (toF (sz ds x)) := rfl
    rw [e]
    grind
theorem who_congr {ds : List Nat} (h : Shp ds) (back : Bool) {f g : Nat → F} (hfg : ∀ i, i < prd2 ds → f i = g i) (p : Nat) (hp : p < prd2 ds) : who ds back f ds.length p = who ds back g ds.length p := by
  rw [who_chi h back f p hp, who_chi h back g p hp]
  congr 1
  exact S_congr fun q hq => by rw [hfg q hq]
/-- Back and forth, either way. -/
theorem who_back {ds : List Nat} (h : Shp ds) (hn : prd2 ds ≤ 1024) (b : Bool) (f : Nat → F) (p : Nat) (hp : p < prd2 ds) : who ds (!b) (who ds b f ds.length) ds.length p = f p := by
  rw [who_chi h (!b) _ p hp]
  have e1 : S (prd2 ds) (fun q => who ds b f ds.length q * chi (fun y => axW (!b) (sz ds y)) (sz ds) ds.length q p) = cfs (fun y => axC b (sz ds y)) ds.length * (toF (prd2 ds) * f p) := by
    have e2 := chi_back (fun y => axW b (sz ds y)) (fun y => axW (!b) (sz ds y)) (sz ds) ds.length (fun y hy => by
      obtain ⟨k, hk, _, ho, ho', hm⟩ := axW_ord h hn y hy
      cases b
      · exact ⟨k, hk, ho, hm⟩
      · exact ⟨k, hk, ho', by show axW true (sz ds y) * axW false (sz ds y) = 1; grind⟩) f p (by rw [sizN_all]; exact hp)
    rw [sizN_all] at e2
    rw [← e2, ← S_mul]
    refine S_congr fun q hq => ?_
    rw [who_chi h b f q hq]; grind
  rw [e1]
  have e3 := cfs_true h hn ds.length (Nat.le_refl _)
  rw [sizN_all] at e3
  cases b
  · rw [cfs_false]
    show cfs (fun y => axC true (sz ds y)) ds.length * (1 * (toF (prd2 ds) * f p)) = f p
    grind
  · show cfs (fun y => axC false (sz ds y)) ds.length * _ = f p
    rw [cfs_false]
    grind
/-- The product round all axes. -/
def cyD (ds : List Nat) (f g : Nat → F) : Nat → F := cyc (sz ds) ds.length (prd2 ds) f g
theorem who_cyc {ds : List Nat} (h : Shp ds) (hn : prd2 ds ≤ 1024) (f g : Nat → F) (p : Nat) (hp : p < prd2 ds) : who ds false (cyD ds f g) ds.length p = who ds false f ds.length p * who ds false g ds.length p := by
  rw [who_chi h false _ p hp, who_chi h false f p hp, who_chi h false g p hp, cfs_false]
  have e := chi_cyc (fun y => axW false (sz ds y)) (sz ds) ds.length (fun y hy => by
    obtain ⟨k, hk, _, ho, _⟩ := axW_ord h hn y hy
    rw [hk] at ho ⊢
    exact ho.one) (fun y hy => P2_pos (h.at y hy)) f g p
  rw [sizN_all] at e
  unfold cyD
  rw [e]; grind
theorem cyc_by {ds : List Nat} (h : Shp ds) (hn : prd2 ds ≤ 1024) (f g : Nat → F) (p : Nat) (hp : p < prd2 ds) : who ds true (fun q => who ds false f ds.length q * who ds false g ds.length q) ds.length p = cyD ds f g p := by
  rw [← who_back h hn false (cyD ds f g) p hp]
  exact who_congr h true (fun i hi => (who_cyc h hn f g i hi).symm) p hp

/-- It doesn't matter which axis is first. -/
theorem alo_comm {ds : List Nat} (h : Shp ds) (x y : Nat) (hxy : x < y) (hy : y < ds.length) (b b' : Bool) (f : Nat → F) : alo ds y b (alo ds x b' f) = alo ds x b' (alo ds y b f) := by
  funext p
  have hm : ∀ k, ∃ m, 0 < m ∧ (x + 1 + k = y → beh ds (x + 1) = beh ds (y + 1) * sz ds y * m) := by
    intro k
    induction k generalizing x with
    | zero => exact ⟨1, Nat.zero_lt_one, fun e => by rw [Nat.mul_one, ← beh_step ds y hy, ← e]⟩
    | succ k ih =>
      by_cases hk : x + 1 < y
      · obtain ⟨m, hm0, hm⟩ := ih (x + 1) hk
        refine ⟨m * sz ds (x + 1), Nat.mul_pos hm0 (P2_pos (h.at _ (by omega))), fun e => ?_⟩
        rw [beh_step ds (x + 1) (by omega), hm (by omega), Nat.mul_assoc]
      · exact ⟨1, Nat.zero_lt_one, fun e => by omega⟩
  obtain ⟨m, hm0, hm⟩ := hm (y - (x + 1))
  unfold alo
  rw [hm (by omega)]
  exact ax_comm (beh_pos h _) (P2_pos (h.at y hy)) hm0 _ _ _ _ f p
/-- The axes from the last one down: those from x on. -/
def dwn (ds : List Nat) (back : Bool) (f : Nat → F) (x : Nat) : Nat → Nat → F
  | 0 => f
  | k + 1 => alo ds (x - (k + 1)) back (dwn ds back f x k)
theorem dwn_who {ds : List Nat} (h : Shp ds) (h1 : 1 ≤ ds.length) (h3 : ds.length ≤ 3) (b : Bool) (f : Nat → F) : dwn ds b f ds.length ds.length = who ds b f ds.length := by
  have hc := fun x y hxy hy g => alo_comm h x y hxy hy b b g
  generalize ds.length = m at *
  have hm : m = 1 ∨ m = 2 ∨ m = 3 := by omega
  rcases hm with rfl | rfl | rfl
  · rfl
  · show alo ds 0 b (alo ds 1 b f) = alo ds 1 b (alo ds 0 b f)
    rw [hc 0 1 (by omega) (by omega)]
  · show alo ds 0 b (alo ds 1 b (alo ds 2 b f)) = alo ds 2 b (alo ds 1 b (alo ds 0 b f))
    rw [hc 0 1 (by omega) (by omega), hc 0 2 (by omega) (by omega), hc 1 2 (by omega) (by omega)]
theorem prd2_at (ds : List Nat) (x : Nat) (hx : x < ds.length) : prd2 ds = beh ds (x + 1) * sz ds x * prd2 (ds.take x) := by
  rw [← beh_step ds x hx, prd2_split ds x, Nat.mul_comm]; rfl
theorem alo_congr {ds : List Nat} (h : Shp ds) (x : Nat) (hx : x < ds.length) (b : Bool) {f g : Nat → F} (hfg : ∀ i, i < prd2 ds → f i = g i) (p : Nat) (hp : p < prd2 ds) : alo ds x b f p = alo ds x b g p := by
  have e := prd2_at ds x hx
  exact ax_congr (beh_pos h _) (m := prd2 (ds.take x)) (fun i hi => hfg i (by rw [e]; exact hi)) p (by rw [← e]; exact hp)

/-- Numbers that are products of two lists. -/
theorem who_outer (a b : Nat) (ha : P2 a) (hb : P2 b) (hab : a * b ≤ 1024) (f g h : Nat → F) (hh : ∀ i j, i < a → j < b → h (i * b + j) = f i * g j) (i j : Nat) (hi : i < a) (hj : j < b) :
    who [a, b] false h 2 (i * b + j) = dft (axW false a) a f i * dft (axW false b) b g j := by
  have hS : Shp [a, b] := by
    intro d hd
    simp at hd
    rcases hd with rfl | rfl
    · exact ha
    · exact hb
  have hn : prd2 [a, b] = a * b := by simp [prd2]
  have hp : i * b + j < prd2 [a, b] := by
    rw [hn]
    have : (i + 1) * b ≤ a * b := Nat.mul_le_mul_right _ hi
    rw [Nat.add_mul, Nat.one_mul] at this
    omega
  have e := who_chi hS false h (i * b + j) hp
  rw [cfs_false, hn, S_two, show ∀ z : F, 1 * z = z from fun z => by grind] at e
  rw [show who [a, b] false h 2 = who [a, b] false h [a, b].length from rfl, e]
  unfold dft
  rw [show S a (fun i_1 => f i_1 * pw (axW false a) (i_1 * i)) * S b (fun i => g i * pw (axW false b) (i * j)) = S b (fun i => g i * pw (axW false b) (i * j)) * S a (fun i_1 => f i_1 * pw (axW false a) (i_1 * i)) by grind, ← S_mul]
  refine S_congr fun s hs => ?_
  rw [show S b (fun i => g i * pw (axW false b) (i * j)) * (f s * pw (axW false a) (s * i)) = (f s * pw (axW false a) (s * i)) * S b (fun i => g i * pw (axW false b) (i * j)) by grind, ← S_mul]
  refine S_congr fun t ht => ?_
  have ec : chi (fun y => axW false (sz [a, b] y)) (sz [a, b]) 2 (s * b + t) (i * b + j) = pw (axW false a) (s * i) * pw (axW false b) (t * j) := by
    show 1 * pw (axW false a) ((s * b + t) / b % a * ((i * b + j) / b % a)) * pw (axW false b) ((s * b + t) % b * ((i * b + j) % b)) = _
    rw [div_of ht, mod_of ht, div_of hj, mod_of hj, Nat.mod_eq_of_lt hs, Nat.mod_eq_of_lt hi]; grind
  rw [hh s t hs ht, show [a, b].length = 2 from rfl, ec]; grind

end Go.Proofs.YtmggccepmicjhagGreatDoor
