/-
  Texts that stood one behind the other, as one.
-/
import Derived.Test.YtmggccepmicjhagGreatDoorManyLAll
import Derived.Test.YtmggccepmicjhagGreatDoorRefPlacesAll
import Derived.Test.YtmggccepmicjhagGreatDoorManyLAll
import Derived.Test.YtmggccepmicjhagGreatDoorSlMakeAll
import Derived.Test.YtmggccepmicjhagGreatDoorManyC
import Derived.Test.YtmggccepmicjhagGreatDoorRows
import Derived.Test.YtmggccepmicjhagGreatDoorPure
import Derived.WalkKit
import Derived.WalkSpells
import Derived.WalkLawsBesides
import Derived.Laws.Bits64b
/-! What Phases of package goldref answers: whether phases are right: each line of each axis just once; none of too many tasks. -/
namespace Go.Proofs.YtmggccepmicjhagGreatDoor
open Go.RowKit
set_option maxRecDepth 100000

theorem row3 {w : World} {v : Value} {T : List (List Int)} (h : IsR 3 w v T) (i : Nat) (hi : i < T.length) : ∃ a b c, T.getD i [] = [a, b, c] ∧ (-9223372036854775808 ≤ a ∧ a ≤ 9223372036854775807) ∧ (-9223372036854775808 ≤ b ∧ b ≤ 9223372036854775807) ∧ (-9223372036854775808 ≤ c ∧ c ≤ 9223372036854775807) := by
  obtain ⟨_, _, _, _, _, _, hr⟩ := h
  obtain ⟨h1, h2⟩ := hr T[i] (List.getElem_mem hi)
  obtain ⟨a, b, c, e⟩ := len_3 h1
  rw [e] at h2
  exact ⟨a, b, c, by simp [List.getD, List.getElem?_eq_getElem hi, e], h2 a (by simp), h2 b (by simp), h2 c (by simp)⟩


end Go.Proofs.YtmggccepmicjhagGreatDoor

/-! A plan that is made is right; lines done in whatever order make the whole; no program in sight. -/
namespace Go.Proofs.YtmggccepmicjhagGreatDoor

theorem ful_hits (x c t k : Nat) : hits (ful x c t) k = if k < t * c then 1 else 0 := by
  induction t with
  | zero => simp [ful, hits]
  | succ t ih =>
    rw [ful_succ]
    unfold hits at ih ⊢
    rw [List.map_append, List.sum_append, ih]
    simp only [List.map_cons, List.map_nil, List.sum_cons, List.sum_nil, hit]
    show (if k < t * c then 1 else 0) + ((if ((t * c : Nat) : Int) ≤ (k : Int) ∧ (k : Int) < (((t + 1) * c : Nat) : Int) then 1 else 0) + 0) = _
    have e : (t + 1) * c = t * c + c := by rw [Nat.add_mul, Nat.one_mul]
    rw [e]
    by_cases h1 : k < t * c
    · rw [if_pos h1, if_neg (by omega), if_pos (by omega)]; rfl
    · rw [if_neg h1]
      by_cases h2 : k < t * c + c
      · rw [if_pos (by omega), if_pos h2]; rfl
      · rw [if_neg (by omega), if_neg h2]; rfl
theorem chn_right (x c n : Nat) (hc : 1 ≤ c) : RgtP n x (chn x c n) := by
  rcases Nat.eq_zero_or_pos n with h0 | h0
  · subst h0
    exact ⟨fun r hr => by simp [chn] at hr, fun k hk => by omega⟩
  · obtain ⟨t, ht⟩ : ∃ t, t = (n - 1) / c := ⟨_, rfl⟩
    have h1 : t * c ≤ n - 1 := by rw [ht]; exact Nat.div_mul_le_self _ _
    have h2 : n - 1 < (t + 1) * c := by rw [ht, Nat.mul_comm]; exact Nat.lt_mul_div_succ _ (by omega)
    rw [chn_at x c n t (by omega) (by omega)]
    refine ⟨fun r hr => ?_, fun k hk => ?_⟩
    · rcases List.mem_append.mp hr with h | h
      · obtain ⟨s, hs, rfl⟩ := List.mem_map.mp h
        have hs' := List.mem_range.mp hs
        have h3 : (s + 1) * c ≤ t * c := Nat.mul_le_mul_right _ hs'
        have h4 : (s + 1) * c = s * c + c := by rw [Nat.add_mul, Nat.one_mul]
        refine ⟨rfl, ?_, ?_, ?_⟩
        · show (0 : Int) ≤ ((s * c : Nat) : Int); omega
        · show (((s + 1) * c : Nat) : Int) ≤ (n : Int); omega
        · show ((s * c : Nat) : Int) < (((s + 1) * c : Nat) : Int); omega
      · simp only [List.mem_singleton] at h
        subst h
        refine ⟨rfl, ?_, ?_, ?_⟩
        · show (0 : Int) ≤ ((t * c : Nat) : Int); omega
        · show (n : Int) ≤ (n : Int); omega
        · show ((t * c : Nat) : Int) < (n : Int); omega
    · have e := ful_hits x c t k
      unfold hits at e ⊢
      rw [List.map_append, List.sum_append, e]
      simp only [List.map_cons, List.map_nil, List.sum_cons, List.sum_nil, hit]
      show (if k < t * c then 1 else 0) + ((if ((t * c : Nat) : Int) ≤ (k : Int) ∧ (k : Int) < (n : Int) then 1 else 0) + 0) = 1
      by_cases h3 : k < t * c
      · rw [if_pos h3, if_neg (by omega)]; rfl
      · rw [if_neg h3, if_pos (by omega)]; rfl
theorem chn_few (x c n : Nat) : (chn x c n).length ≤ n := by
  unfold chn
  split
  · simp
  · rw [List.length_append, ful_length]
    have : (n - 1) / c ≤ n - 1 := Nat.div_le_self _ _
    simp only [List.length_cons, List.length_nil]
    omega
theorem pls_get (ds : List Nat) (c x y : Nat) (hy : y < x) : (pls ds c x).getD y [] = chn y c (nln ds y) := by
  simp [pls, List.getD, hy]
theorem pls_fine (ds : List Nat) (c : Nat) (hc : 1 ≤ c) : Fine ds (pls ds c ds.length) :=
  ⟨pls_length _ _ _, fun y hy => by rw [pls_get ds c _ y hy]; exact chn_right y c _ hc⟩
theorem few_small {ds : List Nat} (h : Shp ds) (hn : prd2 ds ≤ 64) (c : Nat) : Few ds c ds.length := fun y hy =>
  Nat.le_trans (chn_few y c _) (by rw [← nln_div h y hy]; exact Nat.le_trans (Nat.div_le_self _ _) hn)
theorem pls_notbig {ds : List Nat} {c : Nat} (hF : Few ds c ds.length) : ¬ BigP (pls ds c ds.length) (pls ds c ds.length).length := fun ⟨y, hy, hb⟩ => by
  rw [pls_length] at hy
  rw [pls_get ds c _ y hy] at hb
  have := hF y hy
  omega

end Go.Proofs.YtmggccepmicjhagGreatDoor

/-! Blocks that hold values of one type and nothing else. -/
namespace Go.Proofs.YtmggccepmicjhagGreatDoor
open Go.RowKit
set_option maxRecDepth 100000

/-- Block g holds the cells vs, of that type, and nothing else. -/
def RowV (t : Nat) (w : World) (g : Nat) (vs : List Value) : Prop := w.heap[g]? = some (.cells vs.toArray t (0, 0))
section
variable {t : Nat} {w w' : World} {g g' : Nat} {xs ys : List Value}
theorem RowV.lt (h : RowV t w g xs) : g < w.heap.size := by
  obtain ⟨hlt, _⟩ := Array.getElem?_eq_some_iff.1 h
  exact hlt
theorem RowV.cell (h : RowV t w g xs) (i : Nat) : w.cell? ⟨g, i, none⟩ = xs[i]? := by
  have hh : w.heap[g]? = _ := h
  simp only [World.cell?, hh, List.getElem?_toArray]
  cases xs[i]? <;> rfl
theorem RowV.frozen (h : RowV t w g xs) (i : Nat) : w.frozen? ⟨g, i, none⟩ = false := by
  have hh : w.heap[g]? = _ := h
  simp [World.frozen?, hh]
theorem RowV.set (h : RowV t w g xs) (i : Nat) (u : Value) : RowV t (w.setCell ⟨g, i, none⟩ u) g (xs.set i u) := by
  have hh : w.heap[g]? = _ := h
  unfold RowV
  simp [World.setCell, Array.getElem?_modify, hh]
theorem RowV.block (h : RowV t w g xs) (e : w'.heap[g]? = w.heap[g]?) : RowV t w' g xs := e.trans h
theorem RowV.below (h : RowV t w g xs) (hb : Below w.heap.size w w') : RowV t w' g xs := h.block (hb.block g h.lt)
theorem RowV.bar (h : RowV t w g' xs) (hne : g' ≠ g) (hb : Bar g w w') : RowV t w' g' xs := h.block (hb.block g' h.lt hne)
theorem RowV.cast (h : RowV t w g xs) (e : xs = ys) : RowV t w g ys := e ▸ h
end

end Go.Proofs.YtmggccepmicjhagGreatDoor

/-! Blocks that hold values of one type and nothing else; what coversAxis of package plan answers: whether tasks have each line of an axis just once. -/
namespace Go.Proofs.YtmggccepmicjhagGreatDoor
open Go.RowKit
set_option maxRecDepth 100000

theorem wp_makeV {ops : Array Oper} {rest : List Oper} {o : Oper} {a : Act} {Q : Exit → Act → World → Prop} {w : World} (hgd : o.guard = none) (l c : Operand) (s t : Nat) (ho : o.op = Op.makeSlice s l c) (z : Value) (size bytes : Nat) (hu : Tryz.prog.underlying s = some (.slice t))
    (hinf : (Tryz.prog.info? t).map (fun i => (i.zero, i.size, i.bytes)) = some (some z, size, bytes)) (n : Nat) (vs : List Value) (hvs : (madeCells z.cells (n * size)).toList = vs)
    (hl : a.eval l = .int .i64 (n : Int)) (hc : a.eval c = .int .i64 (n : Int)) (hn : n ≤ 1000000000) (hby : bytes ≤ 100)
    (h : ∀ g w', Hid (g = w.heap.size) → RowV t w' g vs → Below w.heap.size w w' → wpList Tryz.prog ops Q rest (a.put o.dst (.slice (some ⟨g, 0, none⟩) n n)) w') :
    wpList Tryz.prog ops Q (o :: rest) a w := by
  obtain ⟨i0, hi, hz0, hz1, hz2⟩ := info_parts hinf
  have hmul : bytes * n ≤ 100 * n := Nat.mul_le_mul_right n hby
  refine wpList_make_full w hgd l c s ho w.heap.size t i0 z size hu hi hz0 hz1 .i64 .i64 n n n hl hc rfl rfl (by rw [hz2]; omega) (by unfold maxLen; omega) (Nat.le_refl _) ?_
  intro w' hown hgrow
  rw [hvs] at hown
  refine h w.heap.size w' rfl ?_ ((Below.refl _ _).grown hgrow (Nat.le_refl _) (fun k hk => by cases hk))
  rcases hown.2 with ⟨hv, _⟩ | ⟨g', cap', cur, hv, hg, hh, h1, h2, h3, h4⟩
  · cases hv
  · simp only [Value.slice.injEq, Option.some.injEq, Addr.mk.injEq, and_true, true_and] at hv
    obtain ⟨rfl, rfl⟩ := hv
    have hcur : cur.toList = vs := by rw [← h4, List.take_of_length_le (by simp [h3])]
    have hcur2 : cur = vs.toArray := by rw [← hcur]
    rw [hcur2] at hh
    exact hh

/-- Sums of the first n. -/
def sm (g : Nat → Nat) : Nat → Nat
  | 0 => 0
  | n + 1 => sm g n + g n
theorem sm_add (a b : Nat → Nat) (n : Nat) : sm (fun k => a k + b k) n = sm a n + sm b n := by
  induction n with
  | zero => rfl
  | succ n ih => simp only [sm, ih]; omega
theorem sm_congr {a b : Nat → Nat} {n : Nat} (h : ∀ k, k < n → a k = b k) : sm a n = sm b n := by
  induction n with
  | zero => rfl
  | succ n ih => simp only [sm, ih (fun k hk => h k (by omega)), h n (by omega)]
theorem sm_zero (n : Nat) : sm (fun _ => 0) n = 0 := by
  induction n with
  | zero => rfl
  | succ n ih => simp only [sm, ih]
theorem sm_le {a : Nat → Nat} {n : Nat} (h : ∀ k, k < n → a k ≤ 1) : sm a n ≤ n := by
  induction n with
  | zero => exact Nat.le_refl _
  | succ n ih =>
    have h1 := ih fun k hk => h k (by omega)
    have h2 := h n (by omega)
    simp only [sm]; omega
theorem sm_all {a : Nat → Nat} {n : Nat} (h : ∀ k, k < n → a k ≤ 1) : sm a n = n ↔ ∀ k, k < n → a k = 1 := by
  induction n with
  | zero => exact ⟨fun _ k hk => by omega, fun _ => rfl⟩
  | succ n ih =>
    have h0 := sm_le fun k (hk : k < n) => h k (by omega)
    have h1 := ih fun k hk => h k (by omega)
    have h2 := h n (by omega)
    simp only [sm]
    constructor
    · intro e k hk
      rcases Nat.lt_or_ge k n with q | q
      · exact h1.mp (by omega) k q
      · rw [show k = n by omega]; omega
    · intro e
      have h3 := h1.mpr fun k hk => e k (by omega)
      have h4 := e n (by omega)
      omega
theorem sm_seg (f l : Nat) (h : f ≤ l) (n : Nat) : sm (fun k => if f ≤ k ∧ k < l then 1 else 0) n = min l n - min f n := by
  induction n with
  | zero => simp [sm]
  | succ n ih =>
    simp only [sm, ih]
    split <;> omega
theorem hits_mono (T : List (List Int)) (i k : Nat) : hits (T.take i) k ≤ hits T k := by
  have e : hits T k = hits (T.take i) k + hits (T.drop i) k := by
    unfold hits
    rw [← List.sum_append, ← List.map_append, List.take_append_drop]
  omega

end Go.Proofs.YtmggccepmicjhagGreatDoor

/-! What each call of package field answers, for all numbers of 64 bits: the rest by the prime of the sum, the difference, the product, the power. -/
namespace Go.Proofs.YtmggccepmicjhagGreatDoor
open Go.RowKit
set_option maxRecDepth 100000

theorem norm_ge (a : Nat) (ha : (a : Int) < 18446744073709551616) (h : (18446744069414584321 : Int) ≤ a) : ((fN a : Nat) : Int) = (a : Int) - 18446744069414584321 := by
  rw [fN_eq]; unfold P; omega
theorem norm_lt (a : Nat) (h : (a : Int) < 18446744069414584321) : ((fN a : Nat) : Int) = (a : Int) := by
  rw [fN_eq]; unfold P; omega

theorem field_Norm (a : Nat) (ha : (a : Int) < 18446744073709551616) (w : World) :
    Calls Tryz.prog 60 #[.int .u64 (a : Int)] w fun e w' => e = .returned (.int .u64 ((fN a : Nat) : Int)) ∧ w' = w := by
  by_cases h : (18446744069414584321 : Int) ≤ a
  · rw [norm_ge a ha h]
    go_enter Tryz.func60, Tryz.ntmps60
    go_wp2
    go_ret
    exact ⟨rfl, rfl⟩
  · have h' : (a : Int) < 18446744069414584321 := by omega
    rw [norm_lt a h']
    go_enter Tryz.func60, Tryz.ntmps60
    go_wp2
    go_ret
    exact ⟨rfl, rfl⟩

theorem add_ge (a b : Nat) (h : 18446744069414584321 - (fN b : Int) ≤ (fN a : Int)) : ((fA a b : Nat) : Int) = (fN a : Int) - (18446744069414584321 - (fN b : Int)) := by
  simp only [fA_eq, fN_eq] at *; unfold P at *; omega
theorem add_lt (a b : Nat) (h : (fN a : Int) < 18446744069414584321 - (fN b : Int)) : ((fA a b : Nat) : Int) = (fN a : Int) + (fN b : Int) := by
  simp only [fA_eq, fN_eq] at *; unfold P at *; omega

theorem field_Add (a b : Nat) (ha : (a : Int) < 18446744073709551616) (hb : (b : Int) < 18446744073709551616) (w : World) :
    Calls Tryz.prog 34 #[.int .u64 (a : Int), .int .u64 (b : Int)] w fun e w' => e = .returned (.int .u64 ((fA a b : Nat) : Int)) ∧ w' = w := by
  have ba := fN_lt a
  have bb := fN_lt b
  by_cases h : 18446744069414584321 - (fN b : Int) ≤ (fN a : Int)
  · rw [add_ge a b h]
    go_enter Tryz.func34, Tryz.ntmps34
    go_wp2_with (go_at_call 60; refine Calls.mono (field_Norm _ ?_ _) ?_; omega; rintro e w' ⟨rfl, hw⟩; rw [hw]; clear hw)
    go_ret
    exact ⟨rfl, rfl⟩
  · rw [add_lt a b (by omega)]
    have h' : (fN a : Int) + (fN b : Int) < 18446744069414584321 := by omega
    replace h := decide_eq_false h
    go_enter Tryz.func34, Tryz.ntmps34
    go_wp2_with (go_at_call 60; refine Calls.mono (field_Norm _ ?_ _) ?_; omega; rintro e w' ⟨rfl, hw⟩; rw [hw]; clear hw)
    go_ret
    exact ⟨rfl, rfl⟩

theorem sub_ge (a b : Nat) (h : (fN b : Int) ≤ (fN a : Int)) : ((fS a b : Nat) : Int) = (fN a : Int) - (fN b : Int) := by
  simp only [fS_eq, fN_eq] at *; unfold P at *; omega
theorem sub_lt (a b : Nat) (h : (fN a : Int) < (fN b : Int)) : ((fS a b : Nat) : Int) = 18446744069414584321 - ((fN b : Int) - (fN a : Int)) := by
  simp only [fS_eq, fN_eq] at *; unfold P at *; omega

theorem field_Sub (a b : Nat) (ha : (a : Int) < 18446744073709551616) (hb : (b : Int) < 18446744073709551616) (w : World) :
    Calls Tryz.prog 35 #[.int .u64 (a : Int), .int .u64 (b : Int)] w fun e w' => e = .returned (.int .u64 ((fS a b : Nat) : Int)) ∧ w' = w := by
  have ba := fN_lt a
  have bb := fN_lt b
  by_cases h : (fN b : Int) ≤ (fN a : Int)
  · rw [sub_ge a b h]
    go_enter Tryz.func35, Tryz.ntmps35
    go_wp2_with (go_at_call 60; refine Calls.mono (field_Norm _ ?_ _) ?_; omega; rintro e w' ⟨rfl, hw⟩; rw [hw]; clear hw)
    go_ret
    exact ⟨rfl, rfl⟩
  · have h' : (fN a : Int) < (fN b : Int) := by omega
    rw [sub_lt a b h']
    replace h : decide (fN b ≤ fN a) = false := decide_eq_false (by omega)
    go_enter Tryz.func35, Tryz.ntmps35
    go_wp2_with (go_at_call 60; refine Calls.mono (field_Norm _ ?_ _) ?_; omega; rintro e w' ⟨rfl, hw⟩; rw [hw]; clear hw)
    go_ret
    exact ⟨rfl, rfl⟩

/-! ### The product of two words, as two words: each number of the walk under a name of its own -/
theorem low_half (a : Nat) (ha : (a : Int) < 18446744073709551616) : bits .and .u64 (a : Int) 4294967295 = ((a % 4294967296 : Nat) : Int) := by
  rw [← Nat.and_two_pow_sub_one_eq_mod a 32]
  exact bits_and_u64_nat a 4294967295 (by omega) (by omega)
theorem high_half (a : Nat) : (a : Int) / 4294967296 = ((a / 4294967296 : Nat) : Int) := by omega
theorem fits_u64 (a : Nat) (ha : (a : Int) < 18446744073709551616) : IntKind.u64.wrap (a : Int) = (a : Int) := by
  rw [IntKind.wrap_u64]; omega

theorem mul64_walk (x y x0 x1 y0 y1 p q r s t m l : Nat) (ex : bits .and .u64 (x : Int) 4294967295 = (x0 : Int)) (ey : bits .and .u64 (y : Int) 4294967295 = (y0 : Int))
    (fx : (x : Int) / 4294967296 = (x1 : Int)) (fy : (y : Int) / 4294967296 = (y1 : Int))
    (ep : (x0 : Int) * (y0 : Int) = (p : Int)) (eq : (x1 : Int) * (y0 : Int) = (q : Int)) (er : (x0 : Int) * (y1 : Int) = (r : Int)) (es : (x1 : Int) * (y1 : Int) = (s : Int))
    (bp : (p : Int) ≤ 18446744065119617025) (bq : (q : Int) ≤ 18446744065119617025) (br : (r : Int) ≤ 18446744065119617025) (bs : (s : Int) ≤ 18446744065119617025)
    (et : (q : Int) + (p : Int) / 4294967296 = (t : Int)) (bt : (t : Int) < 18446744073709551616) (em : bits .and .u64 (t : Int) 4294967295 = (m : Int)) (bm : (m : Int) < 4294967296)
    (el : IntKind.u64.wrap ((x : Int) * (y : Int)) = (l : Int)) (w : World) :
    Calls Tryz.prog 61 #[.int .u64 (x : Int), .int .u64 (y : Int)] w fun e w' => e = .returned (.tuple #[.int .u64 ((s : Int) + (t : Int) / 4294967296 + ((m : Int) + (r : Int)) / 4294967296), .int .u64 (l : Int)]) ∧ w' = w := by
  go_enter Tryz.func61, Tryz.ntmps61
  go_wp2
  go_ret2
  exact ⟨rfl, rfl⟩

theorem school (x1 x0 y1 y0 : Nat) : (4294967296 * x1 + x0) * (4294967296 * y1 + y0) = 18446744073709551616 * (x1 * y1) + 4294967296 * (x1 * y0 + x0 * y1) + x0 * y0 := by
  grind
theorem halves_le {a b : Nat} (ha : a < 4294967296) (hb : b < 4294967296) : ((a * b : Nat) : Int) ≤ 18446744065119617025 := by
  have := Nat.mul_le_mul (show a ≤ 4294967295 by omega) (show b ≤ 4294967295 by omega)
  omega

theorem bits_Mul64 (x y : Nat) (hx : (x : Int) < 18446744073709551616) (hy : (y : Int) < 18446744073709551616) (w : World) :
    Calls Tryz.prog 61 #[.int .u64 (x : Int), .int .u64 (y : Int)] w fun e w' => e = .returned (.tuple #[.int .u64 ((x * y / 18446744073709551616 : Nat) : Int), .int .u64 ((x * y % 18446744073709551616 : Nat) : Int)]) ∧ w' = w := by
  have hp := school (x / 4294967296) (x % 4294967296) (y / 4294967296) (y % 4294967296)
  rw [Nat.div_add_mod, Nat.div_add_mod] at hp
  have bp := halves_le (a := x % 4294967296) (b := y % 4294967296) (by omega) (by omega)
  have bq := halves_le (a := x / 4294967296) (b := y % 4294967296) (by omega) (by omega)
  have br := halves_le (a := x % 4294967296) (b := y / 4294967296) (by omega) (by omega)
  have bs := halves_le (a := x / 4294967296) (b := y / 4294967296) (by omega) (by omega)
  have ep := (Int.natCast_mul (x % 4294967296) (y % 4294967296)).symm
  have eq := (Int.natCast_mul (x / 4294967296) (y % 4294967296)).symm
  have er := (Int.natCast_mul (x % 4294967296) (y / 4294967296)).symm
  have es := (Int.natCast_mul (x / 4294967296) (y / 4294967296)).symm
  have el : IntKind.u64.wrap ((x : Int) * (y : Int)) = ((x * y % 18446744073709551616 : Nat) : Int) := by
    rw [IntKind.wrap_u64, ← Int.natCast_mul]; omega
  have h := fun t m ht hb hm hb2 => mul64_walk x y _ _ _ _ _ _ _ _ t m _ (low_half x hx) (low_half y hy) (high_half x) (high_half y) ep eq er es bp bq br bs ht hb hm hb2 el w
  clear ep eq er es el
  generalize x % 4294967296 * (y % 4294967296) = p at *
  generalize x / 4294967296 * (y % 4294967296) = q at *
  generalize x % 4294967296 * (y / 4294967296) = r at *
  generalize x / 4294967296 * (y / 4294967296) = s at *
  generalize x * y = z at *
  have e : ((z / 18446744073709551616 : Nat) : Int) = (s : Int) + ((q + p / 4294967296 : Nat) : Int) / 4294967296 + (((((q + p / 4294967296) % 4294967296 : Nat) : Int)) + (r : Int)) / 4294967296 := by omega
  rw [e]
  exact h (q + p / 4294967296) ((q + p / 4294967296) % 4294967296) (by omega) (by omega) (low_half _ (by omega)) (by omega)

end Go.Proofs.YtmggccepmicjhagGreatDoor

/-! What Norm of package goldref answers, for all numbers of 64 bits. -/
namespace Go.Proofs.YtmggccepmicjhagGreatDoor
open Go.RowKit
set_option maxRecDepth 100000

theorem rem_fN (a : Nat) : (a : Int) % 18446744069414584321 = ((fN a : Nat) : Int) := by
  rw [fN_eq]; unfold P; omega


end Go.Proofs.YtmggccepmicjhagGreatDoor
