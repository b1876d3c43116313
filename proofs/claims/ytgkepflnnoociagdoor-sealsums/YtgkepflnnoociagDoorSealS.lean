/-
  Corners and shifts of one array: what SealSums asks; no program in sight.
-/
import Derived.Test.YtgkepflnnoociagDoorSealX
namespace Go.Proofs.YtgkepflnnoociagDoor

theorem good2 : Good [2] [2] := ⟨by decide, by decide, rfl, fun d hd => by simp at hd; exact ⟨1, hd⟩⟩
theorem who2 (f : Nat → F) : who [2] false f 1 0 = f 0 + f 1 ∧ who [2] false f 1 1 = f 0 - f 1 := by
  have hS : Shp [2] := good2.2.2.2
  have hw : axW false (sz [2] 0) = -1 := by
    have h2 : sz [2] 0 = 2 := rfl
    have hl : Nat.log2 2 = 1 := Nat.log2_two_pow (n := 1)
    unfold axW
    rw [if_neg (by decide), h2, hl, rt_one]
    exact toF_neg_one
  have h : ∀ p, p < 2 → who [2] false f 1 p = f 0 + f 1 * pw (-1) p := fun p hp => by
    have e := who_chi hS false f p (by show p < 2; exact hp)
    rw [cfs_false] at e
    have e2 : who [2] false f [2].length p = who [2] false f 1 p := rfl
    rw [← e2, e]
    show 1 * S 2 (fun q => f q * (1 * pw (axW false (sz [2] 0)) (q % 2 * (p % 2)))) = _
    rw [S_succ, S_succ, S_zero, hw, Nat.mod_eq_of_lt hp]
    show 1 * (0 + f 0 * (1 * pw (-1) (0 * p)) + f 1 * (1 * pw (-1) (1 * p))) = _
    rw [Nat.zero_mul, Nat.one_mul, pw_zero]
    grind
  refine ⟨?_, ?_⟩
  · rw [h 0 (by decide), pw_zero]; grind
  · rw [h 1 (by decide), show pw (-1) 1 = -1 from rfl]; grind
theorem seal_ex : slE [2] 2 = 0 ∧ coL [2] [5, 3] = [8, 2] := by
  have hE : spE [2] = 0 := spE_ok good2 (by decide)
  have hd : dsZ [2] = [2] := dsZ_of good2
  have e1 : slE [2] 2 = 0 := by unfold slE; rw [if_pos hE, hd, if_pos (show 2 = prd2 [2] from rfl)]
  refine ⟨e1, ?_⟩
  unfold coL
  rw [show ([5, 3] : List Nat).length = 2 from rfl, e1, if_pos rfl, hd]
  unfold crW
  rw [show crs [2] (prd2 [2]) = [0, 1] from by decide]
  show [(who [2] false (cf [5, 3]) 1 0).val, (who [2] false (cf [5, 3]) 1 1).val] = [8, 2]
  rw [(who2 _).1, (who2 _).2]
  rfl
theorem crW_length (ds xs : List Nat) : (crW ds xs).length = (crs ds (prd2 ds)).length := by unfold crW; rw [List.length_map]
theorem crW_get (ds xs : List Nat) (i : Nat) (h : i < (crs ds (prd2 ds)).length) : (crW ds xs).getD i 0 = (who ds false (cf xs) ds.length ((crs ds (prd2 ds)).getD i 0)).val := by
  unfold crW
  simp [List.getD, h]
theorem crs_pos {ds : List Nat} (hS : Shp ds) : 0 < (crs ds (prd2 ds)).length ∧ (crs ds (prd2 ds)).getD 0 0 = 0 := by
  obtain ⟨t, e⟩ := crs_head (ds := ds) (prd2_pos hS.pos)
  rw [e]
  exact ⟨by simp, rfl⟩
theorem crs_len {ds : List Nat} (n : Nat) : (crs ds n).length ≤ n := by
  unfold crs
  have := List.length_filter_le (fun k => decide (Crn ds k)) (List.range n)
  rw [List.length_range] at this
  exact this
theorem crW_rng (ds xs : List Nat) : ∀ x ∈ crW ds xs, (x : Int) < 18446744073709551616 := fun x hx => by
  obtain ⟨q, _, rfl⟩ := List.mem_map.mp hx
  have := val_lt (who ds false (cf xs) ds.length q)
  unfold P at this
  omega
/-- The first corner is the sum of all: the value at 1. -/
theorem first_sum {ds xs : List Nat} (hS : Shp ds) (hl : xs.length = prd2 ds) : (crW ds xs).getD 0 0 = pE xs 1 := by
  obtain ⟨h1, h2⟩ := crs_pos hS
  rw [crW_get ds xs 0 h1, h2, who_sum hS]
  unfold pE
  rw [evF_S, List.length_map, hl]
  congr 1
  refine S_congr fun i _ => ?_
  rw [← cf_gf, toF_one, pw_one]
  grind
theorem shW_length (ds : List Nat) (bs : List Int) (xs : List Nat) : (shW ds bs xs).length = prd2 ds := mk_length _ _
theorem cf_shW (ds : List Nat) (bs : List Int) (xs : List Nat) (k : Nat) (hk : k < prd2 ds) : cf (shW ds bs xs) k = cf xs (shN ds bs k) := by
  unfold shW
  rw [cf_mk, if_pos hk]
theorem first_stays {ds : List Nat} (hS : Shp ds) (hn : prd2 ds ≤ 1024) (bs : List Int) (xs : List Nat) : (crW ds (shW ds bs xs)).getD 0 0 = (crW ds xs).getD 0 0 := by
  obtain ⟨h1, h2⟩ := crs_pos hS
  rw [crW_get _ _ 0 h1, crW_get _ _ 0 h1, h2, who_first hS hn bs (cf xs) (cf (shW ds bs xs)) (fun k hk => cf_shW ds bs xs k hk)]
theorem corner_sign {ds : List Nat} (hS : Shp ds) (hn : prd2 ds ≤ 1024) (bs : List Int) (xs : List Nat) (i : Nat) (hi : i < (crs ds (prd2 ds)).length) :
    (crW ds (shW ds bs xs)).getD i 0 = (crW ds xs).getD i 0 ∨ (crW ds (shW ds bs xs)).getD i 0 = fS 0 ((crW ds xs).getD i 0) := by
  have hm : (crs ds (prd2 ds)).getD i 0 ∈ crs ds (prd2 ds) := by
    rw [List.getD, List.getElem?_eq_getElem hi]
    exact List.getElem_mem hi
  obtain ⟨h1, h2⟩ := crs_mem hm
  rw [crW_get _ _ i hi, crW_get _ _ i hi]
  rcases who_corner hS hn bs (cf xs) (cf (shW ds bs xs)) (fun k hk => cf_shW ds bs xs k hk) _ h1 h2 with h | h
  · left; rw [h]
  · right
    rw [h, fS_val, toF_val, toF_zero]
    congr 1
    (try grind)
/-- The shifts back, and on by a whole axis: the first y of them. -/
def bkL (ds : List Nat) (bs : List Int) (y : Nat) : List Int := (List.range y).map fun t => -(bs.getD t 0 % (sz ds t : Int))
def wlL (ds : List Nat) (bs : List Int) (y : Nat) : List Int := (List.range y).map fun t => bs.getD t 0 % (sz ds t : Int) + (sz ds t : Int)
theorem bkL_succ (ds : List Nat) (bs : List Int) (y : Nat) : bkL ds bs (y + 1) = bkL ds bs y ++ [-(bs.getD y 0 % (sz ds y : Int))] := by unfold bkL; rw [List.range_succ, List.map_append]; rfl
theorem wlL_succ (ds : List Nat) (bs : List Int) (y : Nat) : wlL ds bs (y + 1) = wlL ds bs y ++ [bs.getD y 0 % (sz ds y : Int) + (sz ds y : Int)] := by unfold wlL; rw [List.range_succ, List.map_append]; rfl
theorem bkL_length (ds : List Nat) (bs : List Int) (y : Nat) : (bkL ds bs y).length = y := by simp [bkL]
theorem wlL_length (ds : List Nat) (bs : List Int) (y : Nat) : (wlL ds bs y).length = y := by simp [wlL]
theorem bkL_get (ds : List Nat) (bs : List Int) (n y : Nat) (hy : y < n) : (bkL ds bs n).getD y 0 = -(bs.getD y 0 % (sz ds y : Int)) := by simp [bkL, List.getD, hy]
theorem wlL_get (ds : List Nat) (bs : List Int) (n y : Nat) (hy : y < n) : (wlL ds bs n).getD y 0 = bs.getD y 0 % (sz ds y : Int) + (sz ds y : Int) := by simp [wlL, List.getD, hy]
theorem back_all {ds : List Nat} (hS : Shp ds) (bs : List Int) (xs : List Nat) (i : Nat) (hi : i < prd2 ds) : (shW ds (bkL ds bs ds.length) (shW ds bs xs)).getD i 0 = fN (xs.getD i 0) := by
  rw [show (shW ds (bkL ds bs ds.length) (shW ds bs xs)).getD i 0 = (cf (shW ds bs xs) (shN ds (bkL ds bs ds.length) i)).val from mk_getD _ _ _ hi, cf_shW _ _ _ _ (shN_lt hS _ i)]
  rw [shN_back hS (fun y hy => by
    rw [bkL_get _ _ _ _ hy]
    have h0 := P2_pos (hS.at y hy)
    have := Int.emod_add_mul_ediv (bs.getD y 0) (sz ds y : Int)
    have e : bs.getD y 0 + -(bs.getD y 0 % (sz ds y : Int)) = (sz ds y : Int) * (bs.getD y 0 / (sz ds y : Int)) := by omega
    rw [e, Int.mul_emod_right]) hi, fN_val]
  rfl
theorem whole_all {ds : List Nat} (hS : Shp ds) (bs : List Int) (xs : List Nat) : shW ds (wlL ds bs ds.length) xs = shW ds bs xs := by
  unfold shW
  refine mk_congr fun k _ => ?_
  have e := shN_mod hS (bs := wlL ds bs ds.length) (cs := bs) (fun y hy => by
    rw [wlL_get _ _ _ _ hy, Int.add_emod_right, Int.emod_emod_of_dvd _ (Int.dvd_refl _)]) k
  rw [e]

end Go.Proofs.YtgkepflnnoociagDoor
