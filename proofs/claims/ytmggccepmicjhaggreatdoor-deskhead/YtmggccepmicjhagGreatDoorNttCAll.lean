/-
  Texts that stood one behind the other, as one.
-/
import Derived.Test.YtmggccepmicjhagGreatDoorNttT
import Derived.Test.YtmggccepmicjhagGreatDoorPolyCAll
import Derived.Test.YtmggccepmicjhagGreatDoorFieldBAll
import Derived.Test.YtmggccepmicjhagGreatDoorPure
import Derived.Test.YtmggccepmicjhagGreatDoorNttKAll
/-! What Forward and Inverse of package ntt answer: the transform of a list of 2^k numbers and the way back; ErrForm of other lists. -/
namespace Go.Proofs.YtmggccepmicjhagGreatDoor
open Go.RowKit
set_option maxRecDepth 100000

theorem and_pow_all : ((List.range 11).all fun k => (2 ^ k &&& (2 ^ k - 1)) == 0) = true := by decide +kernel
theorem and_pow (k : Nat) (hk : k ≤ 10) : 2 ^ k &&& (2 ^ k - 1) = 0 :=
  beq_iff_eq.mp (List.all_eq_true.mp and_pow_all k (List.mem_range.mpr (by omega)))
theorem and_none_all : ((List.range 1025).all fun n => n == 0 || (List.range 11).any (fun k => n == 2 ^ k) || !((n &&& (n - 1)) == 0)) = true := by decide +kernel
theorem and_none (n : Nat) (h0 : n ≠ 0) (h1 : n ≤ 1024) (h : ∀ j, j ≤ 10 → n ≠ 2 ^ j) : n &&& (n - 1) ≠ 0 := by
  have h2 := List.all_eq_true.mp and_none_all n (List.mem_range.mpr (by omega))
  simp only [Bool.or_eq_true, beq_iff_eq, List.any_eq_true, List.mem_range, Bool.not_eq_true', beq_eq_false_iff_ne] at h2
  rcases h2 with (h3 | ⟨j, hj, e⟩) | h3
  · exact absurd h3 h0
  · exact absurd e (h j (by omega))
  · exact h3
theorem and_i64 (n m : Nat) (hn : n ≤ 1024) (hm : m ≤ 1024) : bits .and .i64 (n : Int) (m : Int) = ((n &&& m : Nat) : Int) :=
  (bits_nat .i64 62 (by decide) wraps_i64 n m (by omega) (by omega)).1

theorem ntt_logSize_ok (w : World) (a : Option Addr) (n cap k : Nat) (hn : n = 2 ^ k) (hk : k ≤ 10) (ht : Tab w) :
    Calls Tryz.prog 65 #[.slice a n cap] w fun e w' => e = .returned (.tuple #[.int .i64 (k : Int), .int .i64 0]) ∧ w' = w := by
  have c := bits_TrailingZeros k hk w ht
  rw [← hn] at c
  have h9 : n ≤ 1024 := by rw [hn]; exact (two_pow_bound k hk).2
  have h1 : 1 ≤ n := by rw [hn]; exact Nat.pow_pos (by decide)
  have hand : bits .and .i64 (n : Int) ((n : Int) - 1) = 0 := by
    rw [show (n : Int) - 1 = ((n - 1 : Nat) : Int) by omega, and_i64 n (n - 1) h9 (by omega), hn, and_pow k hk]; rfl
  clear hn ht
  go_enter Tryz.func65, Tryz.ntmps65
  go_wp2_with (go_at_call 88; refine Calls.mono c ?_; rintro e w' ⟨rfl, hw⟩; rw [hw]; clear hw)
  go_ret2
  exact ⟨rfl, rfl⟩
theorem ntt_logSize_form (w : World) (a : Option Addr) (n cap : Nat) (hm : n ≤ maxLen) (hl : ∀ j, j ≤ 10 → n ≠ 2 ^ j) :
    Calls Tryz.prog 65 #[.slice a n cap] w fun e w' => e = .returned (.tuple #[.int .i64 0, .int .i64 5]) ∧ w' = w := by
  unfold maxLen at hm
  by_cases h0 : n = 0
  · subst h0
    clear hl
    go_enter Tryz.func65, Tryz.ntmps65
    go_wp2
    go_ret2
    exact ⟨rfl, rfl⟩
  · have h1 : 1 ≤ n := by omega
    by_cases h9 : n ≤ 1024
    · have hand : bits .and .i64 (n : Int) ((n : Int) - 1) = ((n &&& (n - 1) : Nat) : Int) := by
        rw [show (n : Int) - 1 = ((n - 1 : Nat) : Int) by omega, and_i64 n (n - 1) h9 (by omega)]
      have hne := and_none n h0 h9 hl
      have hb : ((((n &&& (n - 1) : Nat) : Int)) != 0) = true := by rw [bne_iff_ne]; omega
      clear hne hl
      generalize n &&& (n - 1) = z at *
      go_enter Tryz.func65, Tryz.ntmps65
      go_wp2
      go_ret2
      exact ⟨rfl, rfl⟩
    · have hgt : 1024 < n := by omega
      clear hl h9
      go_enter Tryz.func65, Tryz.ntmps65
      go_wp2
      go_ret2
      exact ⟨rfl, rfl⟩

theorem rt_64 (k : Nat) : ((rt k : Nat) : Int) < 18446744073709551616 := by
  have h : ((rt k : Nat) : Int) < 18446744069414584321 := fW_lt _ _
  omega
theorem ntt_Forward_row (w : World) (v : Value) (xs : List Nat) (k : Nat) (h : IsU w v xs) (ht : Tab w) (hl : xs.length = 2 ^ k) (hk : k ≤ 10) :
    Calls Tryz.prog 42 #[v] w fun e w' => ∃ g, e = .returned (.tuple #[.slice (some ⟨g, 0, none⟩) (2 ^ k) (2 ^ k), .int .i64 0]) ∧ w.heap.size ≤ g ∧ RowU w' g (mk (2 ^ k) (fw xs k)) ∧ Below w.heap.size w w' := by
  have hA := h
  obtain ⟨a, cap, rfl, -⟩ := h
  have c1 := ntt_logSize_ok w a xs.length cap k hl hk ht
  have c2 := field_Root_in k (by omega)
  have h64 := rt_64 k
  have c3 := ntt_transform w _ xs k (rt k) hA hl hk h64 (ord_rt k (by omega))
  rw [show dft (toF (rt k)) (2 ^ k) (cf xs) = fw xs k from rfl] at c3
  have hN9 := (two_pow_bound k hk).2
  rw [show fW 7 (18446744069414584320 / 2 ^ k) = rt k from rfl] at c2
  generalize mk (2 ^ k) (fw xs k) = RL at *
  clear h64 ht hl
  generalize rt k = r at *
  generalize 2 ^ k = N at *
  go_enter Tryz.func42, Tryz.ntmps42
  go_wp2_with (first
    | (go_at_call 65; refine Calls.mono c1 ?_; rintro e w' ⟨rfl, hw⟩; rw [hw]; clear hw)
    | (go_at_call 62; refine Calls.mono (c2 _) ?_; rintro e w' ⟨rfl, hw⟩; rw [hw]; clear hw)
    | (go_at_call 66; refine Calls.mono c3 ?_; rintro e w2 ⟨g, rfl, hg, hrow, hb⟩))
  go_ret2
  exact ⟨g, rfl, hg, hrow, hb⟩
theorem ntt_Forward_ok (w : World) (v : Value) (xs : List Nat) (k : Nat) (h : IsU w v xs) (ht : Tab w) (hl : xs.length = 2 ^ k) (hk : k ≤ 10) :
    Calls Tryz.prog 42 #[v] w fun e w' => ∃ u, e = .returned (.tuple #[u, .int .i64 0]) ∧ IsU w' u (mk (2 ^ k) (fw xs k)) ∧ Below w.heap.size w w' := by
  refine Calls.mono (ntt_Forward_row w v xs k h ht hl hk) ?_
  rintro e w' ⟨g, rfl, -, hrow, hb⟩
  have hN9 := (two_pow_bound k hk).2
  exact ⟨_, rfl, hrow.isUN (Rng_of_P (mk_lt _ _)) (by rw [mk_length]; omega) (mk_length _ _), hb⟩
theorem ntt_Forward_form (w : World) (v : Value) (xs : List Nat) (h : IsU w v xs) (hl : ∀ j, j ≤ 10 → xs.length ≠ 2 ^ j) :
    Calls Tryz.prog 42 #[v] w fun e w' => ∃ u, e = .returned (.tuple #[u, .int .i64 5]) ∧ IsU w' u [] ∧ Below w.heap.size w w' := by
  obtain ⟨a, cap, rfl, h1, h2, -⟩ := h
  have c1 := ntt_logSize_form w a xs.length cap (Nat.le_trans h1 h2) hl
  clear h1 h2 hl
  go_enter Tryz.func42, Tryz.ntmps42
  go_wp2_with (go_at_call 65; refine Calls.mono c1 ?_; rintro e w' ⟨rfl, hw⟩; rw [hw]; clear hw)
  go_ret2
  exact ⟨_, rfl, IsU.nil _, Below.refl _ _⟩
theorem ntt_Inverse_form (w : World) (v : Value) (xs : List Nat) (h : IsU w v xs) (hl : ∀ j, j ≤ 10 → xs.length ≠ 2 ^ j) :
    Calls Tryz.prog 43 #[v] w fun e w' => ∃ u, e = .returned (.tuple #[u, .int .i64 5]) ∧ IsU w' u [] ∧ Below w.heap.size w w' := by
  obtain ⟨a, cap, rfl, h1, h2, -⟩ := h
  have c1 := ntt_logSize_form w a xs.length cap (Nat.le_trans h1 h2) hl
  clear h1 h2 hl
  go_enter Tryz.func43, Tryz.ntmps43
  go_wp2_with (go_at_call 65; refine Calls.mono c1 ?_; rintro e w' ⟨rfl, hw⟩; rw [hw]; clear hw)
  go_ret2
  exact ⟨_, rfl, IsU.nil _, Below.refl _ _⟩

/-- The first i numbers of a list times c. -/
def tmK (zs : List Nat) (c : Nat) : Nat → List Nat
  | 0 => zs
  | i + 1 => (tmK zs c i).set i (fM ((tmK zs c i).getD i 0) c)
theorem tmK_length (zs : List Nat) (c i : Nat) : (tmK zs c i).length = zs.length := by
  induction i with
  | zero => rfl
  | succ i ih => rw [tmK, List.length_set, ih]
theorem tmK_P (zs : List Nat) (c i : Nat) (hz : ∀ x ∈ zs, x < P) : ∀ x ∈ tmK zs c i, x < P := by
  induction i with
  | zero => exact hz
  | succ i ih =>
    intro x hx
    rw [tmK] at hx
    rcases List.mem_or_eq_of_mem_set hx with h1 | h1
    · exact ih x h1
    · rw [h1]; have := fM_lt ((tmK zs c i).getD i 0) c; unfold P; omega
theorem cf_tmK (zs : List Nat) (c i : Nat) (hi : i ≤ zs.length) (j : Nat) : cf (tmK zs c i) j = if j < i then cf zs j * toF c else cf zs j := by
  induction i generalizing j with
  | zero => rw [if_neg (by omega)]; rfl
  | succ i ih =>
    have h1 := ih (by omega) i
    rw [if_neg (by omega)] at h1
    rw [tmK, cf_setN _ _ _ _ (by rw [tmK_length]; omega), toF_fM]
    show (if j = i then cf (tmK zs c i) i * toF c else cf (tmK zs c i) j) = _
    rw [h1]
    by_cases e : j = i
    · rw [if_pos e, if_pos (by omega), e]
    · rw [if_neg e, ih (by omega) j]
      by_cases e2 : j < i
      · rw [if_pos e2, if_pos (by omega)]
      · rw [if_neg e2, if_neg (by omega)]

set_option maxRecDepth 100000 in
set_option maxHeartbeats 2000000 in
theorem ntt_Inverse_row (w : World) (v : Value) (xs : List Nat) (k : Nat) (h : IsU w v xs) (ht : Tab w) (hl : xs.length = 2 ^ k) (hk : k ≤ 10) :
    Calls Tryz.prog 43 #[v] w fun e w' => ∃ g, e = .returned (.tuple #[.slice (some ⟨g, 0, none⟩) (2 ^ k) (2 ^ k), .int .i64 0]) ∧ w.heap.size ≤ g ∧ RowU w' g (mk (2 ^ k) (bw xs k)) ∧ Below w.heap.size w w' := by
  have hA := h
  obtain ⟨a, cap, rfl, -⟩ := h
  have c1 := ntt_logSize_ok w a xs.length cap k hl hk ht
  have c2 := field_Root_in k (by omega)
  rw [show fW 7 (18446744069414584320 / 2 ^ k) = rt k from rfl] at c2
  have h64 := rt_64 k
  obtain ⟨hpow, hN9⟩ := two_pow_bound k hk
  have c4 := field_Inv_some (rt k) h64 (rt_ne k (by omega))
  have c5 := field_Inv_some (2 ^ k) (by omega) (len_ne k (by omega))
  have hv := toF_inv (rt k)
  have hpt := toF_inv (2 ^ k)
  have hb64 : ((fW (rt k) 18446744069414584319 : Nat) : Int) < 18446744073709551616 := by have := fW_lt (rt k) 18446744069414584319; omega
  have hp64 : ((fW (2 ^ k) 18446744069414584319 : Nat) : Int) < 18446744073709551616 := by have := fW_lt (2 ^ k) 18446744069414584319; omega
  have hord : Ord (toF (fW (rt k) 18446744069414584319)) k := by rw [hv]; exact (ord_rt k (by omega)).inv (rt_inv k (by omega))
  have c3 := ntt_transform w _ xs k (fW (rt k) 18446744069414584319) hA hl hk hb64 hord
  have hfin : Hid (tmK (mk (2 ^ k) (dft (toF (fW (rt k) 18446744069414584319)) (2 ^ k) (cf xs))) (fW (2 ^ k) 18446744069414584319) (2 ^ k) = mk (2 ^ k) (bw xs k)) := by
    show _ = _
    refine list_of_cf _ _ _ (by rw [tmK_length, mk_length]) (tmK_P _ _ _ (mk_lt _ _)) fun i hi => ?_
    rw [cf_tmK _ _ _ (by rw [mk_length]; exact Nat.le_refl _), if_pos hi, cf_mk, if_pos hi, hpt, hv]
    unfold bw; grind
  have hlen := mk_length (2 ^ k) (dft (toF (fW (rt k) 18446744069414584319)) (2 ^ k) (cf xs))
  have hPz := mk_lt (2 ^ k) (dft (toF (fW (rt k) 18446744069414584319)) (2 ^ k) (cf xs))
  clear hord hv hpt hb64 h64 ht
  generalize mk (2 ^ k) (dft (toF (fW (rt k) 18446744069414584319)) (2 ^ k) (cf xs)) = zs at *
  generalize mk (2 ^ k) (bw xs k) = RL at *
  generalize fW (rt k) 18446744069414584319 = vr at *
  generalize fW (2 ^ k) 18446744069414584319 = pt at *
  generalize rt k = r at *
  have hlen' : Hid (zs.length = 2 ^ k) := hlen
  clear hlen hl
  generalize 2 ^ k = N at *
  go_enter Tryz.func43, Tryz.ntmps43
  go_wp2_with (first
    | (go_at_call 65; refine Calls.mono c1 ?_; rintro e w' ⟨rfl, hw⟩; rw [hw]; clear hw)
    | (go_at_call 62; refine Calls.mono (c2 _) ?_; rintro e w' ⟨rfl, hw⟩; rw [hw]; clear hw)
    | (go_at_call 39; refine Calls.mono (c4 _) ?_; rintro e w' ⟨rfl, hw⟩; rw [hw]; clear hw)
    | (go_at_call 39; refine Calls.mono (c5 _) ?_; rintro e w' ⟨rfl, hw⟩; rw [hw]; clear hw)
    | (go_at_call 66; refine Calls.mono c3 ?_; rintro e w2 ⟨g, rfl, hg, hrow, hb⟩))
  go_loopw [45] (fun vi wr => ∃ i : Nat, i ≤ N ∧ vi = .int .i64 (i : Int) ∧ RowU wr g (tmK zs pt i) ∧ Below w.heap.size w wr)
    (fun vi _ => N - (intOf vi).toNat)
  case atStart => exact ⟨0, Nat.zero_le _, rfl, hrow, hb⟩
  case round =>
    clear hrow hb
    obtain ⟨i, hi, rfl, hrow, hnx⟩ := hrel
    by_cases hlt : i < N
    · have hcS := hrow.cell i (by rw [tmK_length, hlen'.out]; exact hlt)
      have hfr := hrow.frozen i
      have hset : Hid (RowU (wr.setCell ⟨g, i, none⟩ (.int .u64 ((fM ((tmK zs pt i).getD i 0) pt : Nat) : Int))) g (tmK zs pt (i + 1))) := hrow.set i _
      have cM := field_Mul ((tmK zs pt i).getD i 0) pt (range_getD (Rng_of_P (tmK_P zs pt i hPz)) _) hp64
      have hB2 := fun (u : Value) => hnx.setCell (p := ⟨g, i, none⟩) hg u
      clear hrow c1 c2 c3 c4 c5 hp64 hA hPz
      generalize fM ((tmK zs pt i).getD i 0) pt = z at *
      generalize (tmK zs pt i).getD i 0 = old at *
      go_wp2_with (go_at_call 36; refine Calls.mono (cM _) ?_; rintro e w' ⟨rfl, hw⟩; rw [hw]; clear hw)
      go_roundw
      case rel => exact ⟨i + 1, by omega, by go_num, hset.out, hB2 _⟩
      case measure => simp only [intOf]; omega
    · have e : N = i := by omega
      subst e
      rw [hfin.out] at hrow
      have hge : N ≤ N := Nat.le_refl _
      clear c1 c2 c3 c4 c5 hA hpow hp64
      go_wp2
      go_ret2
      exact ⟨g, rfl, hg, hrow, hnx⟩
theorem ntt_Inverse_ok (w : World) (v : Value) (xs : List Nat) (k : Nat) (h : IsU w v xs) (ht : Tab w) (hl : xs.length = 2 ^ k) (hk : k ≤ 10) :
    Calls Tryz.prog 43 #[v] w fun e w' => ∃ u, e = .returned (.tuple #[u, .int .i64 0]) ∧ IsU w' u (mk (2 ^ k) (bw xs k)) ∧ Below w.heap.size w w' := by
  refine Calls.mono (ntt_Inverse_row w v xs k h ht hl hk) ?_
  rintro e w' ⟨g, rfl, -, hrow, hb⟩
  have hN9 := (two_pow_bound k hk).2
  exact ⟨_, rfl, hrow.isUN (Rng_of_P (mk_lt _ _)) (by rw [mk_length]; omega) (mk_length _ _), hb⟩

end Go.Proofs.YtmggccepmicjhagGreatDoor

/-! The steps of the landed conv: numbers weighed by powers, two lists multiplied number by number, the bits of a size; no program in sight. -/
namespace Go.Proofs.YtmggccepmicjhagGreatDoor

theorem list_cf (zs : List Nat) (n : Nat) (f : Nat → F) (hl : zs.length = n) (hz : ∀ x ∈ zs, x < P) (h : ∀ i, i < n → cf zs i = f i) : zs = mk n f := by
  refine List.ext_getElem (by rw [hl, mk_length]) fun i h1 h2 => ?_
  have e1 := h i (by omega)
  have e2 : zs[i] = zs.getD i 0 := by simp [List.getD, List.getElem?_eq_getElem h1]
  have e3 : (mk n f)[i] = (mk n f).getD i 0 := by simp [List.getD, List.getElem?_eq_getElem h2]
  have hlt : zs.getD i 0 < P := by rw [← e2]; exact hz _ (List.getElem_mem h1)
  rw [e2, e3, mk_getD _ _ _ (by omega), ← e1]
  show zs.getD i 0 = (toF (zs.getD i 0)).val
  exact (Nat.mod_eq_of_lt hlt).symm

/-- The powers of r, one by one. -/
def pwN (r : Nat) : Nat → Nat
  | 0 => 1
  | i + 1 => fM (pwN r i) r
theorem toF_pwN (r i : Nat) : toF (pwN r i) = pw (toF r) i := by
  induction i with
  | zero => rfl
  | succ i ih => rw [pwN, toF_fM, ih, pw_succ]
theorem pwN_lt (r i : Nat) : ((pwN r i : Nat) : Int) < 18446744073709551616 := by
  cases i with
  | zero => show ((1 : Nat) : Int) < _; decide
  | succ i => have := fM_lt (pwN r i) r; rw [pwN]; omega
/-- The first i numbers weighed. -/
def wgK (xs : List Nat) (r : Nat) : Nat → List Nat
  | 0 => List.replicate xs.length 0
  | i + 1 => (wgK xs r i).set i (fM (xs.getD i 0) (pwN r i))
theorem wgK_length (xs : List Nat) (r i : Nat) : (wgK xs r i).length = xs.length := by
  induction i with
  | zero => exact List.length_replicate
  | succ i ih => rw [wgK, List.length_set, ih]
theorem wgK_P (xs : List Nat) (r i : Nat) : ∀ x ∈ wgK xs r i, x < P := by
  induction i with
  | zero => intro x hx; rw [List.eq_of_mem_replicate hx]; decide
  | succ i ih =>
    intro x hx
    rw [wgK] at hx
    rcases List.mem_or_eq_of_mem_set hx with h1 | h1
    · exact ih x h1
    · rw [h1]; have := fM_lt (xs.getD i 0) (pwN r i); unfold P; omega
theorem cf_wgK (xs : List Nat) (r i : Nat) (hi : i ≤ xs.length) (j : Nat) : cf (wgK xs r i) j = if j < i then cf xs j * pw (toF r) j else 0 := by
  induction i generalizing j with
  | zero =>
    rw [if_neg (by omega)]
    show toF ((List.replicate xs.length 0).getD j 0) = 0
    rw [List.getD, List.getElem?_replicate]
    split <;> rfl
  | succ i ih =>
    rw [wgK, cf_setN _ _ _ _ (by rw [wgK_length]; omega), toF_fM, toF_pwN]
    by_cases e : j = i
    · rw [if_pos e, if_pos (by omega), e]; rfl
    · rw [if_neg e, ih (by omega) j]
      by_cases e2 : j < i
      · rw [if_pos e2, if_pos (by omega)]
      · rw [if_neg e2, if_neg (by omega)]
/-- All of them. -/
def wg (xs : List Nat) (r : Nat) : List Nat := wgK xs r xs.length
theorem wg_length (xs : List Nat) (r : Nat) : (wg xs r).length = xs.length := wgK_length _ _ _
theorem cf_wg (xs : List Nat) (r j : Nat) : cf (wg xs r) j = cf xs j * pw (toF r) j := by
  unfold wg
  rw [cf_wgK _ _ _ (Nat.le_refl _)]
  by_cases h : j < xs.length
  · rw [if_pos h]
  · rw [if_neg h, cf_ge (by omega)]; grind

/-- The first i numbers of two lists multiplied. -/
def muK (zs ys : List Nat) : Nat → List Nat
  | 0 => zs
  | i + 1 => (muK zs ys i).set i (fM ((muK zs ys i).getD i 0) (ys.getD i 0))
theorem muK_length (zs ys : List Nat) (i : Nat) : (muK zs ys i).length = zs.length := by
  induction i with
  | zero => rfl
  | succ i ih => rw [muK, List.length_set, ih]
theorem muK_P (zs ys : List Nat) (i : Nat) (hz : ∀ x ∈ zs, x < P) : ∀ x ∈ muK zs ys i, x < P := by
  induction i with
  | zero => exact hz
  | succ i ih =>
    intro x hx
    rw [muK] at hx
    rcases List.mem_or_eq_of_mem_set hx with h1 | h1
    · exact ih x h1
    · rw [h1]; have := fM_lt ((muK zs ys i).getD i 0) (ys.getD i 0); unfold P; omega
theorem cf_muK (zs ys : List Nat) (i : Nat) (hi : i ≤ zs.length) (j : Nat) : cf (muK zs ys i) j = if j < i then cf zs j * cf ys j else cf zs j := by
  induction i generalizing j with
  | zero => rw [if_neg (by omega)]; rfl
  | succ i ih =>
    have h1 := ih (by omega) i
    rw [if_neg (by omega)] at h1
    rw [muK, cf_setN _ _ _ _ (by rw [muK_length]; omega), toF_fM]
    show (if j = i then cf (muK zs ys i) i * cf ys i else cf (muK zs ys i) j) = _
    rw [h1]
    by_cases e : j = i
    · rw [if_pos e, if_pos (by omega), e]
    · rw [if_neg e, ih (by omega) j]
      by_cases e2 : j < i
      · rw [if_pos e2, if_pos (by omega)]
      · rw [if_neg e2, if_neg (by omega)]

/-- There, number by number, and back: of the lists that the transforms answer. -/
theorem cyc_mu (A B : List Nat) (k : Nat) (hk : k ≤ 32) (hA : A.length = 2 ^ k) (hB : B.length = 2 ^ k) :
    mk (2 ^ k) (bw (muK (mk (2 ^ k) (fw A k)) (mk (2 ^ k) (fw B k)) (2 ^ k)) k) = mk (2 ^ k) (rnd A B false) := by
  refine cyc_way A B k hk hA hB _ fun t ht => ?_
  rw [cf_muK _ _ _ (by rw [mk_length]; exact Nat.le_refl _), if_pos ht, cf_mk, if_pos ht, cf_mk, if_pos ht]
/-- Skew: weighed, round, and the weights taken off. -/
theorem skew_way (A B : List Nat) (k : Nat) (hk : k ≤ 10) (hA : A.length = 2 ^ k) (_hB : B.length = 2 ^ k) (c v : Nat) (hc : c = rt (k + 1)) (hv : v = fW c 18446744069414584319) :
    wg (mk A.length (rnd (wg A c) (wg B c) false)) v = mk A.length (rnd A B true) := by
  have hone : toF c * toF v = 1 := by rw [hv, toF_inv, hc]; exact rt_inv (k + 1) (by omega)
  refine list_cf _ _ _ (by rw [wg_length, mk_length]) (wgK_P _ _ _) fun i hi => ?_
  rw [cf_wg, cf_mk, if_pos hi, rnd_skewK A B (wg A c) (wg B c) (toF c) (wg_length _ _) (by rw [hA, hc]; exact rt_neg k (by omega)) (fun j => cf_wg A c j) (fun j => cf_wg B c j)]
  have e : pw (toF c) i * pw (toF v) i = 1 := by rw [← pw_mul_base, hone, pw_one]
  calc pw (toF c) i * rnd A B true i * pw (toF v) i = (pw (toF c) i * pw (toF v) i) * rnd A B true i := by grind
    _ = rnd A B true i := by rw [e]; grind

end Go.Proofs.YtmggccepmicjhagGreatDoor
