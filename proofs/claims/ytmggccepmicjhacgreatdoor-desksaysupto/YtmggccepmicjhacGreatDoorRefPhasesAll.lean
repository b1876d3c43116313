/-
  Texts that stood one behind the other, as one.
-/
import Derived.Test.YtmggccepmicjhacGreatDoorRefPlanAll
import Derived.Test.YtmggccepmicjhacGreatDoorRefPlacesAll
import Derived.Test.YtmggccepmicjhacGreatDoorRefPlanAll
import Derived.Test.YtmggccepmicjhacGreatDoorDkC1All
import Derived.Test.YtmggccepmicjhacGreatDoorManyC
/-! What Phases of package goldref answers: whether phases are right: each line of each axis just once; none of too many tasks. -/
namespace Go.Proofs.YtmggccepmicjhacGreatDoor
open Go.RowKit

theorem row3 {w : World} {v : Value} {T : List (List Int)} (h : IsR 3 w v T) (i : Nat) (hi : i < T.length) : ∃ a b c, T.getD i [] = [a, b, c] ∧ (-9223372036854775808 ≤ a ∧ a ≤ 9223372036854775807) ∧ (-9223372036854775808 ≤ b ∧ b ≤ 9223372036854775807) ∧ (-9223372036854775808 ≤ c ∧ c ≤ 9223372036854775807) := by
  obtain ⟨_, _, _, _, _, _, hr⟩ := h
  obtain ⟨h1, h2⟩ := hr T[i] (List.getElem_mem hi)
  obtain ⟨a, b, c, e⟩ := len_3 h1
  rw [e] at h2
  exact ⟨a, b, c, by simp [List.getD, List.getElem?_eq_getElem hi, e], h2 a (by simp), h2 b (by simp), h2 c (by simp)⟩


end Go.Proofs.YtmggccepmicjhacGreatDoor

/-! A plan that is made is right; lines done in whatever order make the whole; no program in sight. -/
namespace Go.Proofs.YtmggccepmicjhacGreatDoor

theorem ful_hits (x c t k : Nat) : hits (ful x c t) k = if k < t * c then 1 else 0 := by
  induction t with
  | zero => simp [ful, hits]
  | succ t ih =>
    rw [ful_succ]
    unfold hits at ih ⊢
    rw [List.map_append, List.sum_append, ih]
    simp only [List.map_cons, List.map_nil, List.sum_cons, List.sum_nil, hit]
    show (if k < t * c then 1 else 0) + ((if ((t * c : Nat) : Int) ≤ (k : Int) ∧ (k : Int) < (((t + 1) * c : Nat) : Int) then 1 else 0) + 0) = _
    have e : (t + 1) * c = t * c + c := by rw [Nat.add_mul, Nat.one_mul]
    rw [e]
    by_cases h1 : k < t * c
    · rw [if_pos h1, if_neg (by omega), if_pos (by omega)]; rfl
    · rw [if_neg h1]
      by_cases h2 : k < t * c + c
      · rw [if_pos (by omega), if_pos h2]; rfl
      · rw [if_neg (by omega), if_neg h2]; rfl
theorem chn_right (x c n : Nat) (hc : 1 ≤ c) : RgtP n x (chn x c n) := by
  rcases Nat.eq_zero_or_pos n with h0 | h0
  · subst h0
    exact ⟨fun r hr => by simp [chn] at hr, fun k hk => by omega⟩
  · obtain ⟨t, ht⟩ : ∃ t, t = (n - 1) / c := ⟨_, rfl⟩
    have h1 : t * c ≤ n - 1 := by rw [ht]; exact Nat.div_mul_le_self _ _
    have h2 : n - 1 < (t + 1) * c := by rw [ht, Nat.mul_comm]; exact Nat.lt_mul_div_succ _ (by omega)
    rw [chn_at x c n t (by omega) (by omega)]
    refine ⟨fun r hr => ?_, fun k hk => ?_⟩
    · rcases List.mem_append.mp hr with h | h
      · obtain ⟨s, hs, rfl⟩ := List.mem_map.mp h
        have hs' := List.mem_range.mp hs
        have h3 : (s + 1) * c ≤ t * c := Nat.mul_le_mul_right _ hs'
        have h4 : (s + 1) * c = s * c + c := by rw [Nat.add_mul, Nat.one_mul]
        refine ⟨rfl, ?_, ?_, ?_⟩
        · show (0 : Int) ≤ ((s * c : Nat) : Int); omega
        · show (((s + 1) * c : Nat) : Int) ≤ (n : Int); omega
        · show ((s * c : Nat) : Int) < (((s + 1) * c : Nat) : Int); omega
      · simp only [List.mem_singleton] at h
        subst h
        refine ⟨rfl, ?_, ?_, ?_⟩
        · show (0 : Int) ≤ ((t * c : Nat) : Int); omega
        · show (n : Int) ≤ (n : Int); omega
        · show ((t * c : Nat) : Int) < (n : Int); omega
    · have e := ful_hits x c t k
      unfold hits at e ⊢
      rw [List.map_append, List.sum_append, e]
      simp only [List.map_cons, List.map_nil, List.sum_cons, List.sum_nil, hit]
      show (if k < t * c then 1 else 0) + ((if ((t * c : Nat) : Int) ≤ (k : Int) ∧ (k : Int) < (n : Int) then 1 else 0) + 0) = 1
      by_cases h3 : k < t * c
      · rw [if_pos h3, if_neg (by omega)]; rfl
      · rw [if_neg h3, if_pos (by omega)]; rfl
theorem chn_few (x c n : Nat) : (chn x c n).length ≤ n := by
  unfold chn
  split
  · simp
  · rw [List.length_append, ful_length]
    have : (n - 1) / c ≤ n - 1 := Nat.div_le_self _ _
    simp only [List.length_cons, List.length_nil]
    omega
theorem pls_get (ds : List Nat) (c x y : Nat) (hy : y < x) : (pls ds c x).getD y [] = chn y c (nln ds y) := by
  simp [pls, List.getD, hy]
theorem pls_fine (ds : List Nat) (c : Nat) (hc : 1 ≤ c) : Fine ds (pls ds c ds.length) :=
  ⟨pls_length _ _ _, fun y hy => by rw [pls_get ds c _ y hy]; exact chn_right y c _ hc⟩
theorem few_small {ds : List Nat} (h : Shp ds) (hn : prd2 ds ≤ 64) (c : Nat) : Few ds c ds.length := fun y hy =>
  Nat.le_trans (chn_few y c _) (by rw [← nln_div h y hy]; exact Nat.le_trans (Nat.div_le_self _ _) hn)
theorem pls_notbig {ds : List Nat} {c : Nat} (hF : Few ds c ds.length) : ¬ BigP (pls ds c ds.length) (pls ds c ds.length).length := fun ⟨y, hy, hb⟩ => by
  rw [pls_length] at hy
  rw [pls_get ds c _ y hy] at hb
  have := hF y hy
  omega

end Go.Proofs.YtmggccepmicjhacGreatDoor

/-! Blocks that hold values of one type and nothing else. -/
namespace Go.Proofs.YtmggccepmicjhacGreatDoor
open Go.RowKit

/-- Block g holds the cells vs, of that type, and nothing else. -/
def RowV (t : Nat) (w : World) (g : Nat) (vs : List Value) : Prop := w.heap[g]? = some (.cells vs.toArray t (0, 0))
section
variable {t : Nat} {w w' : World} {g g' : Nat} {xs ys : List Value}
theorem RowV.lt (h : RowV t w g xs) : g < w.heap.size := by
  obtain ⟨hlt, _⟩ := Array.getElem?_eq_some_iff.1 h
  exact hlt
theorem RowV.cell (h : RowV t w g xs) (i : Nat) : w.cell? ⟨g, i, none⟩ = xs[i]? := by
  have hh : w.heap[g]? = _ := h
  simp only [World.cell?, hh, List.getElem?_toArray]
  cases xs[i]? <;> rfl
theorem RowV.frozen (h : RowV t w g xs) (i : Nat) : w.frozen? ⟨g, i, none⟩ = false := by
  have hh : w.heap[g]? = _ := h
  simp [World.frozen?, hh]
theorem RowV.set (h : RowV t w g xs) (i : Nat) (u : Value) : RowV t (w.setCell ⟨g, i, none⟩ u) g (xs.set i u) := by
  have hh : w.heap[g]? = _ := h
  unfold RowV
  simp [World.setCell, Array.getElem?_modify, hh]
theorem RowV.block (h : RowV t w g xs) (e : w'.heap[g]? = w.heap[g]?) : RowV t w' g xs := e.trans h
theorem RowV.below (h : RowV t w g xs) (hb : Below w.heap.size w w') : RowV t w' g xs := h.block (hb.block g h.lt)
theorem RowV.bar (h : RowV t w g' xs) (hne : g' ≠ g) (hb : Bar g w w') : RowV t w' g' xs := h.block (hb.block g' h.lt hne)
theorem RowV.cast (h : RowV t w g xs) (e : xs = ys) : RowV t w g ys := e ▸ h
end

end Go.Proofs.YtmggccepmicjhacGreatDoor

/-! Blocks that hold values of one type and nothing else; what coversAxis of package plan answers: whether tasks have each line of an axis just once. -/
namespace Go.Proofs.YtmggccepmicjhacGreatDoor
open Go.RowKit

theorem wp_makeV {ops : Array Oper} {rest : List Oper} {o : Oper} {a : Act} {Q : Exit → Act → World → Prop} {w : World} (hgd : o.guard = none) (l c : Operand) (s t : Nat) (ho : o.op = Op.makeSlice s l c) (z : Value) (size bytes : Nat) (hu : Tryz.prog.underlying s = some (.slice t))
    (hinf : (Tryz.prog.info? t).map (fun i => (i.zero, i.size, i.bytes)) = some (some z, size, bytes)) (n : Nat) (vs : List Value) (hvs : (madeCells z.cells (n * size)).toList = vs)
    (hl : a.eval l = .int .i64 (n : Int)) (hc : a.eval c = .int .i64 (n : Int)) (hn : n ≤ 1000000000) (hby : bytes ≤ 100)
    (h : ∀ g w', Hid (g = w.heap.size) → RowV t w' g vs → Below w.heap.size w w' → wpList Tryz.prog ops Q rest (a.put o.dst (.slice (some ⟨g, 0, none⟩) n n)) w') :
    wpList Tryz.prog ops Q (o :: rest) a w := by
  obtain ⟨i0, hi, hz0, hz1, hz2⟩ := info_parts hinf
  have hmul : bytes * n ≤ 100 * n := Nat.mul_le_mul_right n hby
  refine wpList_make_full w hgd l c s ho w.heap.size t i0 z size hu hi hz0 hz1 .i64 .i64 n n n hl hc rfl rfl (by rw [hz2]; omega) (by unfold maxLen; omega) (Nat.le_refl _) ?_
  intro w' hown hgrow
  rw [hvs] at hown
  refine h w.heap.size w' rfl ?_ ((Below.refl _ _).grown hgrow (Nat.le_refl _) (fun k hk => by cases hk))
  rcases hown.2 with ⟨hv, _⟩ | ⟨g', cap', cur, hv, hg, hh, h1, h2, h3, h4⟩
  · cases hv
  · simp only [Value.slice.injEq, Option.some.injEq, Addr.mk.injEq, and_true, true_and] at hv
    obtain ⟨rfl, rfl⟩ := hv
    have hcur : cur.toList = vs := by rw [← h4, List.take_of_length_le (by simp [h3])]
    have hcur2 : cur = vs.toArray := by rw [← hcur]
    rw [hcur2] at hh
    exact hh

/-- Sums of the first n. -/
def sm (g : Nat → Nat) : Nat → Nat
  | 0 => 0
  | n + 1 => sm g n + g n
theorem sm_add (a b : Nat → Nat) (n : Nat) : sm (fun k => a k + b k) n = sm a n + sm b n := by
  induction n with
  | zero => rfl
  | succ n ih => simp only [sm, ih]; omega
theorem sm_congr {a b : Nat → Nat} {n : Nat} (h : ∀ k, k < n → a k = b k) : sm a n = sm b n := by
  induction n with
  | zero => rfl
  | succ n ih => simp only [sm, ih (fun k hk => h k (by omega)), h n (by omega)]
theorem sm_zero (n : Nat) : sm (fun _ => 0) n = 0 := by
  induction n with
  | zero => rfl
  | succ n ih => simp only [sm, ih]
theorem sm_le {a : Nat → Nat} {n : Nat} (h : ∀ k, k < n → a k ≤ 1) : sm a n ≤ n := by
  induction n with
  | zero => exact Nat.le_refl _
  | succ n ih =>
    have h1 := ih fun k hk => h k (by omega)
    have h2 := h n (by omega)
    simp only [sm]; omega
theorem sm_all {a : Nat → Nat} {n : Nat} (h : ∀ k, k < n → a k ≤ 1) : sm a n = n ↔ ∀ k, k < n → a k = 1 := by
  induction n with
  | zero => exact ⟨fun _ k hk => by omega, fun _ => rfl⟩
  | succ n ih =>
    have h0 := sm_le fun k (hk : k < n) => h k (by omega)
    have h1 := ih fun k hk => h k (by omega)
    have h2 := h n (by omega)
    simp only [sm]
    constructor
    · intro e k hk
      rcases Nat.lt_or_ge k n with q | q
      · exact h1.mp (by omega) k q
      · rw [show k = n by omega]; omega
    · intro e
      have h3 := h1.mpr fun k hk => e k (by omega)
      have h4 := e n (by omega)
      omega
theorem sm_seg (f l : Nat) (h : f ≤ l) (n : Nat) : sm (fun k => if f ≤ k ∧ k < l then 1 else 0) n = min l n - min f n := by
  induction n with
  | zero => simp [sm]
  | succ n ih =>
    simp only [sm, ih]
    split <;> omega
theorem hits_mono (T : List (List Int)) (i k : Nat) : hits (T.take i) k ≤ hits T k := by
  have e : hits T k = hits (T.take i) k + hits (T.drop i) k := by
    unfold hits
    rw [← List.sum_append, ← List.map_append, List.take_append_drop]
  omega

end Go.Proofs.YtmggccepmicjhacGreatDoor
