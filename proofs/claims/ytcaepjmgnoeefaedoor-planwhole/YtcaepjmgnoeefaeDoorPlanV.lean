/-
  A plan that is made is right; lines done in whatever order make the whole; no program in sight.
-/
import Derived.Test.YtcaepjmgnoeefaeDoorRefPhases
namespace Go.Proofs.YtcaepjmgnoeefaeDoor

theorem ful_hits (x c t k : Nat) : hits (ful x c t) k = if k < t * c then 1 else 0 := by
  induction t with
  | zero => simp [ful, hits]
  | succ t ih =>
    rw [ful_succ]
    unfold hits at ih ⊢
    rw [List.map_append, List.sum_append, ih]
    simp only [List.map_cons, List.map_nil, List.sum_cons, List.sum_nil, hit]
    show (if k < t * c then 1 else 0) + ((if ((t * c : Nat) : Int) ≤ (k : Int) ∧ (k : Int) < (((t + 1) * c : Nat) : Int) then 1 else 0) + 0) = _
    have e : (t + 1) * c = t * c + c := by rw [Nat.add_mul, Nat.one_mul]
    rw [e]
    by_cases h1 : k < t * c
    · rw [if_pos h1, if_neg (by omega), if_pos (by omega)]; rfl
    · rw [if_neg h1]
      by_cases h2 : k < t * c + c
      · rw [if_pos (by omega), if_pos h2]; rfl
      · rw [if_neg (by omega), if_neg h2]; rfl
theorem chn_right (x c n : Nat) (hc : 1 ≤ c) : RgtP n x (chn x c n) := by
  rcases Nat.eq_zero_or_pos n with h0 | h0
  · subst h0
    exact ⟨fun r hr => by simp [chn] at hr, fun k hk => by omega⟩
  · obtain ⟨t, ht⟩ : ∃ t, t = (n - 1) / c := ⟨_, rfl⟩
    have h1 : t * c ≤ n - 1 := by rw [ht]; exact Nat.div_mul_le_self _ _
    have h2 : n - 1 < (t + 1) * c := by rw [ht, Nat.mul_comm]; exact Nat.lt_mul_div_succ _ (by omega)
    rw [chn_at x c n t (by omega) (by omega)]
    refine ⟨fun r hr => ?_, fun k hk => ?_⟩
    · rcases List.mem_append.mp hr with h | h
      · obtain ⟨s, hs, rfl⟩ := List.mem_map.mp h
        have hs' := List.mem_range.mp hs
        have h3 : (s + 1) * c ≤ t * c := Nat.mul_le_mul_right _ hs'
        have h4 : (s + 1) * c = s * c + c := by rw [Nat.add_mul, Nat.one_mul]
        refine ⟨rfl, ?_, ?_, ?_⟩
        · show (0 : Int) ≤ ((s * c : Nat) : Int); omega
        · show (((s + 1) * c : Nat) : Int) ≤ (n : Int); omega
        · show ((s * c : Nat) : Int) < (((s + 1) * c : Nat) : Int); omega
      · simp only [List.mem_singleton] at h
        subst h
        refine ⟨rfl, ?_, ?_, ?_⟩
        · show (0 : Int) ≤ ((t * c : Nat) : Int); omega
        · show (n : Int) ≤ (n : Int); omega
        · show ((t * c : Nat) : Int) < (n : Int); omega
    · have e := ful_hits x c t k
      unfold hits at e ⊢
      rw [List.map_append, List.sum_append, e]
      simp only [List.map_cons, List.map_nil, List.sum_cons, List.sum_nil, hit]
      show (if k < t * c then 1 else 0) + ((if ((t * c : Nat) : Int) ≤ (k : Int) ∧ (k : Int) < (n : Int) then 1 else 0) + 0) = 1
      by_cases h3 : k < t * c
      · rw [if_pos h3, if_neg (by omega)]; rfl
      · rw [if_neg h3, if_pos (by omega)]; rfl
theorem chn_few (x c n : Nat) : (chn x c n).length ≤ n := by
  unfold chn
  split
  · simp
  · rw [List.length_append, ful_length]
    have : (n - 1) / c ≤ n - 1 := Nat.div_le_self _ _
    simp only [List.length_cons, List.length_nil]
    omega
theorem pls_get (ds : List Nat) (c x y : Nat) (hy : y < x) : (pls ds c x).getD y [] = chn y c (nln ds y) := by
  simp [pls, List.getD, hy]
theorem pls_fine (ds : List Nat) (c : Nat) (hc : 1 ≤ c) : Fine ds (pls ds c ds.length) :=
  ⟨pls_length _ _ _, fun y hy => by rw [pls_get ds c _ y hy]; exact chn_right y c _ hc⟩
theorem few_small {ds : List Nat} (h : Shp ds) (hn : prd2 ds ≤ 64) (c : Nat) : Few ds c ds.length := fun y hy =>
  Nat.le_trans (chn_few y c _) (by rw [← nln_div h y hy]; exact Nat.le_trans (Nat.div_le_self _ _) hn)
theorem pls_notbig {ds : List Nat} {c : Nat} (hF : Few ds c ds.length) : ¬ BigP (pls ds c ds.length) (pls ds c ds.length).length := fun ⟨y, hy, hb⟩ => by
  rw [pls_length] at hy
  rw [pls_get ds c _ y hy] at hb
  have := hF y hy
  omega

end Go.Proofs.YtcaepjmgnoeefaeDoor
