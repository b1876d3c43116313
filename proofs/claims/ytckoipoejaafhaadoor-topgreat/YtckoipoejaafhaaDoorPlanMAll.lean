/-
  Texts that stood one behind the other, as one.
-/
import Derived.Test.YtckoipoejaafhaaDoorManyCAll
import Derived.Test.YtckoipoejaafhaaDoorManyGAll
import Derived.Test.YtckoipoejaafhaaDoorSlAll
namespace Go.Proofs.YtckoipoejaafhaaDoor
def Vld (n x : Nat) (r : List Int) : Prop := r.getD 0 0 = (x : Int) ∧ 0 ≤ r.getD 1 0 ∧ r.getD 2 0 ≤ (n : Int) ∧ r.getD 1 0 < r.getD 2 0
def hit (r : List Int) (k : Nat) : Nat := if r.getD 1 0 ≤ (k : Int) ∧ (k : Int) < r.getD 2 0 then 1 else 0
def hits (T : List (List Int)) (k : Nat) : Nat := (T.map fun r => hit r k).sum
def RgtP (n x : Nat) (T : List (List Int)) : Prop := (∀ r ∈ T, Vld n x r) ∧ ∀ k, k < n → hits T k = 1
def Fine (ds : List Nat) (L : List (List (List Int))) : Prop := L.length = ds.length ∧ ∀ y, y < ds.length → RgtP (nln ds y) y (L.getD y [])
def BigP (L : List (List (List Int))) (x : Nat) : Prop := ∃ y, y < x ∧ 64 < (L.getD y []).length
theorem hits_succ (T : List (List Int)) (i k : Nat) (hi : i < T.length) : hits (T.take (i + 1)) k = hits (T.take i) k + hit (T.getD i []) k := by
  unfold hits
  rw [List.take_add_one, List.getElem?_eq_getElem hi, List.map_append, List.sum_append]
  simp [List.getD, List.getElem?_eq_getElem hi]
theorem hits_le (T : List (List Int)) (k : Nat) : hits T k ≤ T.length := by
  induction T with
  | nil => simp [hits]
  | cons r T ih =>
    have h1 : hit r k ≤ 1 := by unfold hit; split <;> omega
    simp only [hits, List.map_cons, List.sum_cons, List.length_cons] at ih ⊢
    omega
theorem valid_succ {n x : Nat} {T : List (List Int)} {i : Nat} (hi : i < T.length) (h : ∀ r ∈ T.take i, Vld n x r) (h1 : Vld n x (T.getD i [])) : ∀ r ∈ T.take (i + 1), Vld n x r := by
  intro r hr
  rw [List.take_add_one, List.getElem?_eq_getElem hi] at hr
  rcases List.mem_append.mp hr with h2 | h2
  · exact h r h2
  · simp only [Option.toList_some, List.mem_singleton] at h2
    rw [h2]
    simpa [List.getD, List.getElem?_eq_getElem hi] using h1
theorem getD_mem {T : List (List Int)} {i : Nat} (hi : i < T.length) : T.getD i [] ∈ T := by
  rw [List.getD, List.getElem?_eq_getElem hi]
  exact List.getElem_mem hi
def trS (ds xs : List Nat) (x : Nat) (back : Bool) (D : Nat → Bool) : List Nat :=
  tb (prd2 ds) fun p => if D (lnO (beh ds (x + 1)) (sz ds x) p) = true then (alo ds x back (cf xs) p).val else xs.getD p 0
theorem trS_none {ds xs : List Nat} (hl : xs.length = prd2 ds) (x : Nat) (back : Bool) : trS ds xs x back (fun _ => false) = xs := by
  have : trS ds xs x back (fun _ => false) = tb xs.length (fun p => xs.getD p 0) := by
    unfold trS; rw [hl]
    exact tb_congr fun p _ => if_neg (by simp)
  rw [this, tb_self]
theorem alo_same {ds : List Nat} (h : Shp ds) (x : Nat) (hx : x < ds.length) (b : Bool) {f g : Nat → F} (p : Nat) (hp : p < prd2 ds)
    (hfg : ∀ q, q < prd2 ds → lnO (beh ds (x + 1)) (sz ds x) q = lnO (beh ds (x + 1)) (sz ds x) p → f q = g q) : alo ds x b f p = alo ds x b g p := by
  have hu := beh_pos h (x + 1)
  have hd := P2_pos (h.at x hx)
  have hk := dg_lt (u := beh ds (x + 1)) (p := p) hd
  unfold alo ax
  congr 1
  refine dft_congr (fun s hs => ?_) _
  have e : st (beh ds (x + 1)) (sz ds x) p s = ps (beh ds (x + 1)) (sz ds x) (lnO (beh ds (x + 1)) (sz ds x) p) s := by
    have := ps_st (i := lnO (beh ds (x + 1)) (sz ds x) p) hu hk s
    rw [ps_of hu p] at this
    exact this
  rw [e]
  refine hfg _ ?_ (ps_ln hu hs)
  have hln : lnO (beh ds (x + 1)) (sz ds x) p < beh ds (x + 1) * prd2 (ds.take x) := by
    rw [prd2_at ds x hx] at hp
    exact ln_lt hu hp
  rw [prd2_at ds x hx]
  exact ps_lt hu hln hs
theorem trS_step {ds : List Nat} (h : Shp ds) (xs : List Nat) (x : Nat) (hx : x < ds.length) (back : Bool) (D : Nat → Bool) (f l : Nat) (hD : ∀ i, f ≤ i → i < l → D i = false) :
    trn ds (trS ds xs x back D) x f l back = trS ds xs x back (fun i => D i || (decide (f ≤ i) && decide (i < l))) := by
  unfold trn trK
  conv => rhs; unfold trS
  refine tb_congr fun p hp => ?_
  by_cases hin : f ≤ lnO (beh ds (x + 1)) (sz ds x) p ∧ lnO (beh ds (x + 1)) (sz ds x) p < l
  · rw [if_pos ⟨hin.1, .inl hin.2⟩, if_pos (by simp [hin.1, hin.2])]
    congr 1
    refine alo_same h x hx back p hp fun q hq e => ?_
    unfold cf
    congr 1
    unfold trS
    rw [tb_get _ _ _ hq, e, if_neg (by rw [hD _ hin.1 hin.2]; simp)]
  · rw [if_neg (by omega)]
    have e : ((D (lnO (beh ds (x + 1)) (sz ds x) p) || (decide (f ≤ lnO (beh ds (x + 1)) (sz ds x) p) && decide (lnO (beh ds (x + 1)) (sz ds x) p < l))) = true) = (D (lnO (beh ds (x + 1)) (sz ds x) p) = true) := by
      by_cases h1 : f ≤ lnO (beh ds (x + 1)) (sz ds x) p
      · have h2 : ¬ lnO (beh ds (x + 1)) (sz ds x) p < l := fun h2 => hin ⟨h1, h2⟩
        simp [h1, h2]
      · simp [h1]
    simp only [e]
    unfold trS
    rw [tb_get _ _ _ hp]
def nmL (xs : List Nat) : List Nat := xs.map fN
theorem nmL_length (xs : List Nat) : (nmL xs).length = xs.length := by simp [nmL]
theorem nmL_get (xs : List Nat) (i : Nat) : (nmL xs).getD i 0 = fN (xs.getD i 0) := by
  unfold nmL
  rw [List.getD, List.getD, List.getElem?_map]
  cases xs[i]? <;> rfl
theorem cf_nmL (xs : List Nat) : cf (nmL xs) = cf xs := funext fun i => by
  unfold cf
  rw [nmL_get, toF_fN]
theorem fN_small {a : Nat} (h : a < P) : fN a = a := by rw [fN_eq, Nat.mod_eq_of_lt h]
theorem nmL_tb (n : Nat) (g : Nat → Nat) : nmL (tb n g) = tb n (fun p => fN (g p)) := by simp [nmL, tb]
theorem nmL_trS (ds xs : List Nat) (x : Nat) (back : Bool) (D : Nat → Bool) : nmL (trS ds xs x back D) = trS ds (nmL xs) x back D := by
  unfold trS
  rw [nmL_tb, cf_nmL]
  refine tb_congr fun p _ => ?_
  split
  · exact fN_small (Fin.isLt _)
  · rw [nmL_get]
theorem trS_stepN {ds : List Nat} (h : Shp ds) (xs : List Nat) (x : Nat) (hx : x < ds.length) (back : Bool) (D : Nat → Bool) (f l : Nat) (hD : ∀ i, f ≤ i → i < l → D i = false) :
    trn ds (nmL (trS ds xs x back D)) x f l back = trS ds (nmL xs) x back (fun i => D i || (decide (f ≤ i) && decide (i < l))) := by
  rw [nmL_trS]
  exact trS_step h (nmL xs) x hx back D f l hD
end Go.Proofs.YtckoipoejaafhaaDoor

namespace Go.Proofs.YtckoipoejaafhaaDoor
open Go.RowKit
set_option maxRecDepth 100000
theorem row3 {w : World} {v : Value} {T : List (List Int)} (h : IsR 3 w v T) (i : Nat) (hi : i < T.length) : ∃ a b c, T.getD i [] = [a, b, c] ∧ (-9223372036854775808 ≤ a ∧ a ≤ 9223372036854775807) ∧ (-9223372036854775808 ≤ b ∧ b ≤ 9223372036854775807) ∧ (-9223372036854775808 ≤ c ∧ c ≤ 9223372036854775807) := by
  obtain ⟨_, _, _, _, _, _, hr⟩ := h
  obtain ⟨h1, h2⟩ := hr T[i] (List.getElem_mem hi)
  obtain ⟨a, b, c, e⟩ := len_3 h1
  rw [e] at h2
  exact ⟨a, b, c, by simp [List.getD, List.getElem?_eq_getElem hi, e], h2 a (by simp), h2 b (by simp), h2 c (by simp)⟩
end Go.Proofs.YtckoipoejaafhaaDoor

namespace Go.Proofs.YtckoipoejaafhaaDoor
theorem ful_hits (x c t k : Nat) : hits (ful x c t) k = if k < t * c then 1 else 0 := by
  induction t with
  | zero => simp [ful, hits]
  | succ t ih =>
    rw [ful_succ]
    unfold hits at ih ⊢
    rw [List.map_append, List.sum_append, ih]
    simp only [List.map_cons, List.map_nil, List.sum_cons, List.sum_nil, hit]
    show (if k < t * c then 1 else 0) + ((if ((t * c : Nat) : Int) ≤ (k : Int) ∧ (k : Int) < (((t + 1) * c : Nat) : Int) then 1 else 0) + 0) = _
    have e : (t + 1) * c = t * c + c := by rw [Nat.add_mul, Nat.one_mul]
    rw [e]
    by_cases h1 : k < t * c
    · rw [if_pos h1, if_neg (by omega), if_pos (by omega)]; rfl
    · rw [if_neg h1]
      by_cases h2 : k < t * c + c
      · rw [if_pos (by omega), if_pos h2]; rfl
      · rw [if_neg (by omega), if_neg h2]; rfl
theorem chn_right (x c n : Nat) (hc : 1 ≤ c) : RgtP n x (chn x c n) := by
  rcases Nat.eq_zero_or_pos n with h0 | h0
  · subst h0
    exact ⟨fun r hr => by simp [chn] at hr, fun k hk => by omega⟩
  · obtain ⟨t, ht⟩ : ∃ t, t = (n - 1) / c := ⟨_, rfl⟩
    have h1 : t * c ≤ n - 1 := by rw [ht]; exact Nat.div_mul_le_self _ _
    have h2 : n - 1 < (t + 1) * c := by rw [ht, Nat.mul_comm]; exact Nat.lt_mul_div_succ _ (by omega)
    rw [chn_at x c n t (by omega) (by omega)]
    refine ⟨fun r hr => ?_, fun k hk => ?_⟩
    · rcases List.mem_append.mp hr with h | h
      · obtain ⟨s, hs, rfl⟩ := List.mem_map.mp h
        have hs' := List.mem_range.mp hs
        have h3 : (s + 1) * c ≤ t * c := Nat.mul_le_mul_right _ hs'
        have h4 : (s + 1) * c = s * c + c := by rw [Nat.add_mul, Nat.one_mul]
        refine ⟨rfl, ?_, ?_, ?_⟩
        · show (0 : Int) ≤ ((s * c : Nat) : Int); omega
        · show (((s + 1) * c : Nat) : Int) ≤ (n : Int); omega
        · show ((s * c : Nat) : Int) < (((s + 1) * c : Nat) : Int); omega
      · simp only [List.mem_singleton] at h
        subst h
        refine ⟨rfl, ?_, ?_, ?_⟩
        · show (0 : Int) ≤ ((t * c : Nat) : Int); omega
        · show (n : Int) ≤ (n : Int); omega
        · show ((t * c : Nat) : Int) < (n : Int); omega
    · have e := ful_hits x c t k
      unfold hits at e ⊢
      rw [List.map_append, List.sum_append, e]
      simp only [List.map_cons, List.map_nil, List.sum_cons, List.sum_nil, hit]
      show (if k < t * c then 1 else 0) + ((if ((t * c : Nat) : Int) ≤ (k : Int) ∧ (k : Int) < (n : Int) then 1 else 0) + 0) = 1
      by_cases h3 : k < t * c
      · rw [if_pos h3, if_neg (by omega)]; rfl
      · rw [if_neg h3, if_pos (by omega)]; rfl
theorem chn_few (x c n : Nat) : (chn x c n).length ≤ n := by
  unfold chn
  split
  · simp
  · rw [List.length_append, ful_length]
    have : (n - 1) / c ≤ n - 1 := Nat.div_le_self _ _
    simp only [List.length_cons, List.length_nil]
    omega
theorem pls_get (ds : List Nat) (c x y : Nat) (hy : y < x) : (pls ds c x).getD y [] = chn y c (nln ds y) := by
  simp [pls, List.getD, hy]
theorem pls_fine (ds : List Nat) (c : Nat) (hc : 1 ≤ c) : Fine ds (pls ds c ds.length) :=
  ⟨pls_length _ _ _, fun y hy => by rw [pls_get ds c _ y hy]; exact chn_right y c _ hc⟩
theorem few_small {ds : List Nat} (h : Shp ds) (hn : prd2 ds ≤ 64) (c : Nat) : Few ds c ds.length := fun y hy =>
  Nat.le_trans (chn_few y c _) (by rw [← nln_div h y hy]; exact Nat.le_trans (Nat.div_le_self _ _) hn)
theorem pls_notbig {ds : List Nat} {c : Nat} (hF : Few ds c ds.length) : ¬ BigP (pls ds c ds.length) (pls ds c ds.length).length := fun ⟨y, hy, hb⟩ => by
  rw [pls_length] at hy
  rw [pls_get ds c _ y hy] at hb
  have := hF y hy
  omega
end Go.Proofs.YtckoipoejaafhaaDoor

namespace Go.Proofs.YtckoipoejaafhaaDoor
open Go.RowKit
set_option maxRecDepth 100000
def RowV (t : Nat) (w : World) (g : Nat) (vs : List Value) : Prop := w.heap[g]? = some (.cells vs.toArray t (0, 0))
section
variable {t : Nat} {w w' : World} {g g' : Nat} {xs ys : List Value}
theorem RowV.lt (h : RowV t w g xs) : g < w.heap.size := by
  obtain ⟨hlt, _⟩ := Array.getElem?_eq_some_iff.1 h
  exact hlt
theorem RowV.cell (h : RowV t w g xs) (i : Nat) : w.cell? ⟨g, i, none⟩ = xs[i]? := by
  have hh : w.heap[g]? = _ := h
  simp only [World.cell?, hh, List.getElem?_toArray]
  cases xs[i]? <;> rfl
theorem RowV.frozen (h : RowV t w g xs) (i : Nat) : w.frozen? ⟨g, i, none⟩ = false := by
  have hh : w.heap[g]? = _ := h
  simp [World.frozen?, hh]
theorem RowV.set (h : RowV t w g xs) (i : Nat) (u : Value) : RowV t (w.setCell ⟨g, i, none⟩ u) g (xs.set i u) := by
  have hh : w.heap[g]? = _ := h
  unfold RowV
  simp [World.setCell, Array.getElem?_modify, hh]
theorem RowV.block (h : RowV t w g xs) (e : w'.heap[g]? = w.heap[g]?) : RowV t w' g xs := e.trans h
theorem RowV.below (h : RowV t w g xs) (hb : Below w.heap.size w w') : RowV t w' g xs := h.block (hb.block g h.lt)
theorem RowV.cast (h : RowV t w g xs) (e : xs = ys) : RowV t w g ys := e ▸ h
end
theorem wp_makeV {ops : Array Oper} {rest : List Oper} {o : Oper} {a : Act} {Q : Exit → Act → World → Prop} {w : World} (hgd : o.guard = none) (l c : Operand) (s t : Nat) (ho : o.op = Op.makeSlice s l c) (z : Value) (size bytes : Nat) (hu : Tryd.prog.underlying s = some (.slice t))
    (hinf : (Tryd.prog.info? t).map (fun i => (i.zero, i.size, i.bytes)) = some (some z, size, bytes)) (n : Nat) (vs : List Value) (hvs : (madeCells z.cells (n * size)).toList = vs)
    (hl : a.eval l = .int .i64 (n : Int)) (hc : a.eval c = .int .i64 (n : Int)) (hn : n ≤ 1000000000) (hby : bytes ≤ 100)
    (h : ∀ g w', Hid (g = w.heap.size) → RowV t w' g vs → Below w.heap.size w w' → wpList Tryd.prog ops Q rest (a.put o.dst (.slice (some ⟨g, 0, none⟩) n n)) w') :
    wpList Tryd.prog ops Q (o :: rest) a w := by
  obtain ⟨i0, hi, hz0, hz1, hz2⟩ := info_parts hinf
  have hmul : bytes * n ≤ 100 * n := Nat.mul_le_mul_right n hby
  refine wpList_make_full w hgd l c s ho w.heap.size t i0 z size hu hi hz0 hz1 .i64 .i64 n n n hl hc rfl rfl (by rw [hz2]; omega) (by unfold maxLen; omega) (Nat.le_refl _) ?_
  intro w' hown hgrow
  rw [hvs] at hown
  refine h w.heap.size w' rfl ?_ ((Below.refl _ _).grown hgrow (Nat.le_refl _) (fun k hk => by cases hk))
  rcases hown.2 with ⟨hv, _⟩ | ⟨g', cap', cur, hv, hg, hh, h1, h2, h3, h4⟩
  · cases hv
  · simp only [Value.slice.injEq, Option.some.injEq, Addr.mk.injEq, and_true, true_and] at hv
    obtain ⟨rfl, rfl⟩ := hv
    have hcur : cur.toList = vs := by rw [← h4, List.take_of_length_le (by simp [h3])]
    have hcur2 : cur = vs.toArray := by rw [← hcur]
    rw [hcur2] at hh
    exact hh
def sm (g : Nat → Nat) : Nat → Nat
  | 0 => 0
  | n + 1 => sm g n + g n
theorem sm_add (a b : Nat → Nat) (n : Nat) : sm (fun k => a k + b k) n = sm a n + sm b n := by
  induction n with
  | zero => rfl
  | succ n ih => simp only [sm, ih]; omega
theorem sm_congr {a b : Nat → Nat} {n : Nat} (h : ∀ k, k < n → a k = b k) : sm a n = sm b n := by
  induction n with
  | zero => rfl
  | succ n ih => simp only [sm, ih (fun k hk => h k (by omega)), h n (by omega)]
theorem sm_zero (n : Nat) : sm (fun _ => 0) n = 0 := by
  induction n with
  | zero => rfl
  | succ n ih => simp only [sm, ih]
theorem sm_le {a : Nat → Nat} {n : Nat} (h : ∀ k, k < n → a k ≤ 1) : sm a n ≤ n := by
  induction n with
  | zero => exact Nat.le_refl _
  | succ n ih =>
    have h1 := ih fun k hk => h k (by omega)
    have h2 := h n (by omega)
    simp only [sm]; omega
theorem sm_all {a : Nat → Nat} {n : Nat} (h : ∀ k, k < n → a k ≤ 1) : sm a n = n ↔ ∀ k, k < n → a k = 1 := by
  induction n with
  | zero => exact ⟨fun _ k hk => by omega, fun _ => rfl⟩
  | succ n ih =>
    have h0 := sm_le fun k (hk : k < n) => h k (by omega)
    have h1 := ih fun k hk => h k (by omega)
    have h2 := h n (by omega)
    simp only [sm]
    constructor
    · intro e k hk
      rcases Nat.lt_or_ge k n with q | q
      · exact h1.mp (by omega) k q
      · rw [show k = n by omega]; omega
    · intro e
      have h3 := h1.mpr fun k hk => e k (by omega)
      have h4 := e n (by omega)
      omega
theorem sm_seg (f l : Nat) (h : f ≤ l) (n : Nat) : sm (fun k => if f ≤ k ∧ k < l then 1 else 0) n = min l n - min f n := by
  induction n with
  | zero => simp [sm]
  | succ n ih =>
    simp only [sm, ih]
    split <;> omega
theorem hits_mono (T : List (List Int)) (i k : Nat) : hits (T.take i) k ≤ hits T k := by
  have e : hits T k = hits (T.take i) k + hits (T.drop i) k := by
    unfold hits
    rw [← List.sum_append, ← List.map_append, List.take_append_drop]
  omega
theorem plan_isWithin (w : World) (a b c n : Int) :
    Calls Tryd.prog 143 #[.agg #[.int .i64 a, .int .i64 b, .int .i64 c], .int .i64 n] w fun e w' => e = .returned (.bool (decide (0 ≤ b ∧ b < c ∧ c ≤ n))) ∧ w' = w.alloc (.cells #[.int .i64 a, .int .i64 b, .int .i64 c] 71) := by
  by_cases h0 : 0 ≤ b
  · by_cases h1 : b < c
    · by_cases h2 : c ≤ n
      · have e : decide (0 ≤ b ∧ b < c ∧ c ≤ n) = true := decide_eq_true ⟨h0, h1, h2⟩
        rw [e]
        clear e
        go_enter Tryd.func143, Tryd.ntmps143
        go_wp2
        go_ret
        exact ⟨rfl, rfl⟩
      · have e : decide (0 ≤ b ∧ b < c ∧ c ≤ n) = false := decide_eq_false (fun h => h2 h.2.2)
        have h3 : decide (c ≤ n) = false := decide_eq_false h2
        rw [e]
        clear e h2
        go_enter Tryd.func143, Tryd.ntmps143
        go_wp2
        go_ret
        exact ⟨rfl, rfl⟩
    · have e : decide (0 ≤ b ∧ b < c ∧ c ≤ n) = false := decide_eq_false (fun h => h1 h.2.1)
      have h3 : decide (b < c) = false := decide_eq_false h1
      rw [e]
      clear e h1
      go_enter Tryd.func143, Tryd.ntmps143
      go_wp2
      go_ret
      exact ⟨rfl, rfl⟩
  · have e : decide (0 ≤ b ∧ b < c ∧ c ≤ n) = false := decide_eq_false (fun h => h0 h.1)
    have h3 : decide (0 ≤ b) = false := decide_eq_false h0
    rw [e]
    clear e h0
    go_enter Tryd.func143, Tryd.ntmps143
    go_wp2
    go_ret
    exact ⟨rfl, rfl⟩
theorem info_bool : (Tryd.prog.info? 4).map (fun i => (i.zero, i.size, i.bytes)) = some (some (.bool false), 1, 1) := by kernel_rfl
def bb (m : Nat) (p : Nat → Bool) : List Value := (List.range m).map fun k => .bool (p k)
theorem bb_length (m : Nat) (p : Nat → Bool) : (bb m p).length = m := by simp [bb]
theorem bb_get (m : Nat) (p : Nat → Bool) (i : Nat) (h : i < m) : (bb m p)[i]? = some (.bool (p i)) := by simp [bb, h]
theorem bb_congr {m : Nat} {p q : Nat → Bool} (h : ∀ k, k < m → p k = q k) : bb m p = bb m q := by
  unfold bb
  exact List.map_congr_left fun k hk => by rw [h k (List.mem_range.mp hk)]
theorem bb_set (m : Nat) (p : Nat → Bool) (j : Nat) (v : Bool) : (bb m p).set j (.bool v) = bb m (fun k => if k = j then v else p k) := by
  apply List.ext_getElem
  · rw [List.length_set, bb_length, bb_length]
  · intro i h1 h2
    rw [List.getElem_set]
    by_cases e : j = i
    · rw [if_pos e]; simp [bb, e]
    · rw [if_neg e]; simp [bb, Ne.symm e]
theorem made_bool (n : Nat) : (madeCells (Value.bool false).cells (n * 1)).toList = bb n (fun _ => false) := by
  rw [show (Value.bool false).cells = #[Value.bool false] from rfl, Nat.mul_one, toList_madeCells_one]
  unfold bb
  rw [List.map_const', List.length_range]
set_option maxRecDepth 100000 in
set_option maxHeartbeats 8000000 in
theorem plan_coversAxis (w : World) (vu : Value) (T : List (List Int)) (x m : Nat) (hR : IsR 3 w vu T) (hm : m ≤ 1024) :
    Calls Tryd.prog 108 #[vu, .int .i64 (x : Int), .int .i64 (m : Int)] w fun e w' => ∃ b : Bool, e = .returned (.bool b) ∧ (b = true ↔ RgtP m x T) ∧ Below w.heap.size w w' := by
  have hR0 := hR
  obtain ⟨au, cu, rfl, hTl0, hmu, hrow, -⟩ := hR0
  have hTl : T.length ≤ 9223372036854775807 := by unfold maxLen at hmu; omega
  clear hTl0 hmu
  have hm9 : m ≤ 1000000000 := by omega
  have hW := plan_isWithin
  go_enter Tryd.func108, Tryd.ntmps108
  go_wp2_with (at_make; refine wp_makeV rfl _ _ 181 4 rfl (.bool false) 1 1 Tryd.underlying181 info_bool m _ (made_bool m) rfl rfl hm9 (by decide) ?_; intro g w2 hg hrowB hb2)
  replace hg : w.heap.size ≤ g := Nat.le_of_eq hg.out.symm
  go_loopw [8, 17] (fun vf vi wi => ∃ (i lf : Nat), i ≤ T.length ∧ vi = .int .i64 (i : Int) ∧ vf = .int .i64 (lf : Int) ∧ lf ≤ m ∧ Hid (lf + sm (hits (T.take i)) m = m) ∧ Hid (∀ k, k < m → hits (T.take i) k ≤ 1) ∧ RowV 4 wi g (bb m fun k => decide (0 < hits (T.take i) k)) ∧ Hid (∀ r ∈ T.take i, Vld m x r) ∧ Below w.heap.size w wi)
    (fun _ vi _ => T.length - (intOf vi).toNat)
  case atStart =>
    refine ⟨0, m, Nat.zero_le _, rfl, rfl, Nat.le_refl _, ?_, fun k _ => by simp [hits], hrowB.cast (bb_congr fun k _ => by simp [hits]), fun r hr => by simp at hr, hb2⟩
    have e : sm (hits (T.take 0)) m = 0 := by
      rw [sm_congr (b := fun _ => 0) (fun k _ => by simp [hits]), sm_zero]
    show m + sm (hits (T.take 0)) m = m
    omega
  case round =>
    clear hrowB hb2
    obtain ⟨i, lf, hi, rfl, rfl, hlf, hsum, hle, hrowB, hvl, hnx⟩ := hrel
    by_cases hlt2 : i < T.length
    · obtain ⟨t0, t1, t2, hTi, hb0, hb1, hb2⟩ := row3 hR i hlt2
      obtain ⟨br, or, rfl, hce⟩ := hrow i hlt2
      rw [hTi] at hce
      have q0 := (hnx.cell (block_lt (hce 0 (by decide)))).trans (hce 0 (by decide))
      have q1 := (hnx.cell (block_lt (hce 1 (by decide)))).trans (hce 1 (by decide))
      have q2 := (hnx.cell (block_lt (hce 2 (by decide)))).trans (hce 2 (by decide))
      replace q0 : wr.cell? ⟨br, or + i * 3, none⟩ = some (.int .i64 t0) := q0
      replace q1 : wr.cell? ⟨br, or + i * 3 + 1, none⟩ = some (.int .i64 t1) := q1
      replace q2 : wr.cell? ⟨br, or + i * 3 + 2, none⟩ = some (.int .i64 t2) := q2
      clear hce
      have hnof : Hid (¬ (t0 = (x : Int) ∧ 0 ≤ t1 ∧ t1 < t2 ∧ t2 ≤ (m : Int)) → ¬ RgtP m x T) := fun hn hF => by
        have h1 := hF.1 (T.getD i []) (getD_mem hlt2)
        rw [hTi] at h1
        exact hn ⟨h1.1, h1.2.1, h1.2.2.2, h1.2.2.1⟩
      have hA0 : (wr.alloc (.cells #[.int .i64 t0, .int .i64 t1, .int .i64 t2] 71)).cell? ⟨wr.heap.size, 0, none⟩ = some (.int .i64 t0) := by rw [World.cell?_alloc_at _ _ _ _ rfl]; rfl
      have hA1 : (wr.alloc (.cells #[.int .i64 t0, .int .i64 t1, .int .i64 t2] 71)).cell? ⟨wr.heap.size, 1, none⟩ = some (.int .i64 t1) := by rw [World.cell?_alloc_at _ _ _ _ rfl]; rfl
      have hA2 : (wr.alloc (.cells #[.int .i64 t0, .int .i64 t1, .int .i64 t2] 71)).cell? ⟨wr.heap.size, 2, none⟩ = some (.int .i64 t2) := by rw [World.cell?_alloc_at _ _ _ _ rfl]; rfl
      have hbW := below_alloc1 wr (.cells #[.int .i64 t0, .int .i64 t1, .int .i64 t2] 71)
      by_cases hd1 : t0 = (x : Int)
      · subst hd1
        have c3 := fun W => hW W (x : Int) t1 t2 (m : Int)
        by_cases hV : 0 ≤ t1 ∧ t1 < t2 ∧ t2 ≤ (m : Int)
        · rw [decide_eq_true hV] at c3
          obtain ⟨hV1, hV2, hV3⟩ := hV
          obtain ⟨f, rfl⟩ := Int.eq_ofNat_of_zero_le hV1
          obtain ⟨l, rfl⟩ := Int.eq_ofNat_of_zero_le (show 0 ≤ t2 by omega)
          have hvl2 : Hid (∀ r ∈ T.take (i + 1), Vld m x r) := valid_succ hlt2 hvl.out (by rw [hTi]; exact ⟨rfl, hV1, hV3, hV2⟩)
          have hhit : Hid (∀ k, hits (T.take (i + 1)) k = hits (T.take i) k + if f ≤ k ∧ k < l then 1 else 0) := fun k => by
            rw [hits_succ T i k hlt2, hTi]
            show _ + (if (f : Int) ≤ (k : Int) ∧ (k : Int) < (l : Int) then 1 else 0) = _
            congr 1
            simp only [Int.ofNat_le, Int.ofNat_lt]
          have hsum2 : Hid (sm (hits (T.take (i + 1))) m = sm (hits (T.take i)) m + (l - f)) := by
            show _ = _
            have h1 : l ≤ m := by omega
            rw [sm_congr (fun k _ => hhit.out k), sm_add, sm_seg f l (by omega), Nat.min_eq_left h1, Nat.min_eq_left (by omega)]
          have hbW3 := fun (W : World) => below_alloc1 W (.cells #[.int .i64 (x : Int), .int .i64 (f : Int), .int .i64 (l : Int)] 71)
          clear hvl hnof
          go_wp2_with (go_at_call 143; refine Calls.mono (c3 _) ?_; rintro e w3 ⟨rfl, hw⟩; have hb3 := hbW3 (wr.alloc (.cells #[.int .i64 (x : Int), .int .i64 (f : Int), .int .i64 (l : Int)] 71)); rw [← hw] at hb3; clear hw c3 hbW3; replace hA0 := (hb3.cell (block_lt hA0)).trans hA0; replace hA1 := (hb3.cell (block_lt hA1)).trans hA1; replace hA2 := (hb3.cell (block_lt hA2)).trans hA2; replace hbW := hbW.trans (hb3.mono hbW.size); clear hb3)
          obtain ⟨gt, hgt⟩ : ∃ gt, gt = wr.heap.size := ⟨_, rfl⟩
          have hglt := hrowB.lt
          have hrowB3 := hrowB.below hbW
          have hnx3 := hnx.trans (hbW.mono hnx.size)
          rw [← hgt] at hA0 hA1 hA2 hglt ⊢
          clear hgt hbW q0 q1 q2 hrowB hA0 hnx
          go_loopw [11] (fun vk wi => ∃ (q : Nat), f ≤ q ∧ q ≤ l ∧ vk = .int .i64 (q : Int) ∧ RowV 4 wi g (bb m fun k => decide (0 < hits (T.take i) k + if f ≤ k ∧ k < q then 1 else 0)) ∧ Hid (∀ k, f ≤ k → k < q → hits (T.take i) k = 0) ∧ wi.cell? ⟨gt, 1, none⟩ = some (.int .i64 (f : Int)) ∧ wi.cell? ⟨gt, 2, none⟩ = some (.int .i64 (l : Int)) ∧ Below w.heap.size w wi)
            (fun vk _ => l - (intOf vk).toNat)
          case atStart => exact ⟨f, Nat.le_refl _, by omega, rfl, hrowB3.cast (bb_congr fun k _ => by rw [if_neg (by omega), Nat.add_zero]), fun k _ _ => by omega, hA1, hA2, hnx3⟩
          case round =>
            clear hrowB3 hA1 hA2 hnx3
            obtain ⟨q, hq1, hq2, rfl, hrowB, hz, hA1, hA2, hnx⟩ := hrel
            by_cases hlt3 : q < l
            · have hqm : q < m := by omega
              have hcq := hrowB.cell q
              rw [bb_get _ _ _ hqm, if_neg (by omega), Nat.add_zero] at hcq
              have hfr := hrowB.frozen q
              by_cases h0 : hits (T.take i) q = 0
              · rw [h0, show decide (0 < 0) = false from rfl] at hcq
                have hset : RowV 4 (wr.setCell ⟨g, q, none⟩ (.bool true)) g (bb m fun k => decide (0 < hits (T.take i) k + if f ≤ k ∧ k < q + 1 then 1 else 0)) := (hrowB.set q (.bool true)).cast (by
                  rw [bb_set]
                  refine bb_congr fun k _ => ?_
                  by_cases e : k = q
                  · rw [if_pos e, e, if_pos (by omega)]; symm; exact decide_eq_true (by omega)
                  · rw [if_neg e]
                    simp only [show (f ≤ k ∧ k < q + 1) = (f ≤ k ∧ k < q) from propext (by omega)])
                have hz2 : Hid (∀ k, f ≤ k → k < q + 1 → hits (T.take i) k = 0) := fun k h1 h2 => by
                  by_cases e : k = q
                  · rw [e]; exact h0
                  · exact hz.out k h1 (by omega)
                have k1 := (World.cell?_of_block (w := wr) (((Bar.refl g wr).setCell q (.bool true)).block gt (block_lt hA1) (by omega))).trans hA1
                have k2 := (World.cell?_of_block (w := wr) (((Bar.refl g wr).setCell q (.bool true)).block gt (block_lt hA2) (by omega))).trans hA2
                have hB2 : Below w.heap.size w (wr.setCell ⟨g, q, none⟩ (.bool true)) := hnx.setCell (p := ⟨g, q, none⟩) hg _
                clear hrowB hnx hz h0 hle hsum hvl2 hhit hsum2 hW
                go_wp2
                go_roundw
                case rel => exact ⟨q + 1, by omega, by omega, by go_num, hset, hz2, k1, k2, hB2⟩
                case measure => simp only [intOf]; omega
              · rw [show decide (0 < hits (T.take i) q) = true from decide_eq_true (by omega)] at hcq
                have hno : Hid (¬ RgtP m x T) := fun hF => by
                  have h1 := hF.2 q hqm
                  have h2 := hits_mono T (i + 1) q
                  have h3 := hhit.out q
                  rw [if_pos (by omega)] at h3
                  omega
                clear hrowB hz h0 hle hsum hvl2 hhit hsum2 hW
                go_wp2
                go_ret
                exact ⟨false, rfl, ⟨fun e => (by cases e), fun e => absurd e hno.out⟩, hnx⟩
            · have e : l = q := by omega
              subst e
              have hle2 : Hid (∀ k, k < m → hits (T.take (i + 1)) k ≤ 1) := fun k hk => by
                rw [hhit.out k]
                have h1 := hle.out k hk
                by_cases hin : f ≤ k ∧ k < l
                · rw [if_pos hin, hz.out k hin.1 hin.2]; omega
                · rw [if_neg hin]; exact h1
              have hsl := sm_le hle2.out
              rw [hsum2.out] at hsl
              have hs0 := hsum.out
              obtain ⟨lf2, hlf2⟩ : ∃ lf2, lf = lf2 + (l - f) := ⟨lf - (l - f), by omega⟩
              have hsum3 : Hid (lf2 + sm (hits (T.take (i + 1))) m = m) := by
                show _ = _
                rw [hsum2.out]; omega
              have hrow2 : RowV 4 wr g (bb m fun k => decide (0 < hits (T.take (i + 1)) k)) := hrowB.cast (bb_congr fun k _ => by rw [hhit.out k])
              have hge : l ≤ l := Nat.le_refl _
              have he : (lf : Int) - ((l : Int) - (f : Int)) = (lf2 : Int) := by omega
              have hlf3 : lf2 ≤ m := by omega
              clear hrowB hz hle hsum hhit hsum2 hsl hs0 hlf2 hW
              go_wp2
              go_roundw
              case rel => exact ⟨i + 1, lf2, by omega, by go_num, rfl, hlf3, hsum3, hle2, hrow2, hvl2, hnx⟩
              case measure => simp only [intOf]; omega
        · rw [decide_eq_false hV] at c3
          have hno : Hid (¬ RgtP m x T) := hnof.out (fun h => hV h.2)
          have hend := hnx.trans (hbW.mono hnx.size)
          have hbW3 := fun (W : World) => below_alloc1 W (.cells #[.int .i64 (x : Int), .int .i64 t1, .int .i64 t2] 71)
          clear hvl hnof hV hle hsum hW hrowB
          go_wp2_with (go_at_call 143; refine Calls.mono (c3 _) ?_; rintro e w3 ⟨rfl, hw⟩; have hb3 := hbW3 (wr.alloc (.cells #[.int .i64 (x : Int), .int .i64 t1, .int .i64 t2] 71)); rw [← hw] at hb3; clear hw c3 hbW3; replace hend := hend.trans (hb3.mono hend.size))
          go_ret
          exact ⟨false, rfl, ⟨fun e => (by cases e), fun e => absurd e hno.out⟩, hend⟩
      · have hdd : (t0 != (x : Int)) = true := by rw [bne_iff_ne]; exact hd1
        have hno : Hid (¬ RgtP m x T) := hnof.out (fun h => hd1 h.1)
        have hend := hnx.trans (hbW.mono hnx.size)
        clear hvl hnof hle hsum hW hrowB hd1
        go_wp2
        go_ret
        exact ⟨false, rfl, ⟨fun e => (by cases e), fun e => absurd e hno.out⟩, hend⟩
    · have e : T.length = i := by omega
      have hge : T.length ≤ i := by omega
      rw [← e, List.take_length] at hsum hle hvl
      have hi9 : i ≤ 9223372036854775807 := by omega
      have hall := sm_all hle.out
      have hs := hsum.out
      clear e hrowB hW hrow
      by_cases h0 : lf = 0
      · have hyes : Hid (RgtP m x T) := ⟨hvl.out, hall.mp (by omega)⟩
        subst h0
        clear hall hs hsum hle hvl
        go_wp2
        go_ret
        exact ⟨true, rfl, ⟨fun _ => hyes.out, fun _ => rfl⟩, hnx⟩
      · have hno : Hid (¬ RgtP m x T) := fun hF => by have := hall.mpr hF.2; omega
        have hd : ((lf : Int) == 0) = false := by rw [beq_eq_false_iff_ne]; omega
        clear hall hs hsum hle hvl
        go_wp2
        go_ret
        exact ⟨false, rfl, ⟨fun e => (by cases e), fun e => absurd e hno.out⟩, hnx⟩
end Go.Proofs.YtckoipoejaafhaaDoor
