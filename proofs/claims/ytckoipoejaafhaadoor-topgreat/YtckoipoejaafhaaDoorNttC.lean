/-
  What Forward and Inverse of package ntt answer: the transform of a list of 2^k numbers and the way back; ErrForm of other lists.
-/
import Derived.Test.YtckoipoejaafhaaDoorFieldBAll
import Derived.Test.YtckoipoejaafhaaDoorFieldBAll
import Derived.Test.YtckoipoejaafhaaDoorFieldBAll
namespace Go.Proofs.YtckoipoejaafhaaDoor
open Go.RowKit
set_option maxRecDepth 100000
theorem and_pow_all : ((List.range 11).all fun k => (2 ^ k &&& (2 ^ k - 1)) == 0) = true := by decide +kernel
theorem and_pow (k : Nat) (hk : k ≤ 10) : 2 ^ k &&& (2 ^ k - 1) = 0 :=
  beq_iff_eq.mp (List.all_eq_true.mp and_pow_all k (List.mem_range.mpr (by omega)))
theorem and_i64 (n m : Nat) (hn : n ≤ 1024) (hm : m ≤ 1024) : bits .and .i64 (n : Int) (m : Int) = ((n &&& m : Nat) : Int) :=
  (bits_nat .i64 62 (by decide) wraps_i64 n m (by omega) (by omega)).1
theorem ntt_logSize_ok (w : World) (a : Option Addr) (n cap k : Nat) (hn : n = 2 ^ k) (hk : k ≤ 10) (ht : Tab w) :
    Calls Tryd.prog 139 #[.slice a n cap] w fun e w' => e = .returned (.tuple #[.int .i64 (k : Int), .int .i64 0]) ∧ w' = w := by
  have c := bits_TrailingZeros k hk w ht
  rw [← hn] at c
  have h9 : n ≤ 1024 := by rw [hn]; exact (two_pow_bound k hk).2
  have h1 : 1 ≤ n := by rw [hn]; exact Nat.pow_pos (by decide)
  have hand : bits .and .i64 (n : Int) ((n : Int) - 1) = 0 := by
    rw [show (n : Int) - 1 = ((n - 1 : Nat) : Int) by omega, and_i64 n (n - 1) h9 (by omega), hn, and_pow k hk]; rfl
  clear hn ht
  go_enter Tryd.func139, Tryd.ntmps139
  go_wp2_with (go_at_call 158; refine Calls.mono c ?_; rintro e w' ⟨rfl, hw⟩; rw [hw]; clear hw)
  go_ret2
  exact ⟨rfl, rfl⟩
theorem rt_64 (k : Nat) : ((rt k : Nat) : Int) < 18446744073709551616 := by
  have h : ((rt k : Nat) : Int) < 18446744069414584321 := fW_lt _ _
  omega
theorem ntt_Forward_row (w : World) (v : Value) (xs : List Nat) (k : Nat) (h : IsU w v xs) (ht : Tab w) (hl : xs.length = 2 ^ k) (hk : k ≤ 10) :
    Calls Tryd.prog 101 #[v] w fun e w' => ∃ g, e = .returned (.tuple #[.slice (some ⟨g, 0, none⟩) (2 ^ k) (2 ^ k), .int .i64 0]) ∧ w.heap.size ≤ g ∧ RowU w' g (mk (2 ^ k) (fw xs k)) ∧ Below w.heap.size w w' := by
  have hA := h
  obtain ⟨a, cap, rfl, -⟩ := h
  have c1 := ntt_logSize_ok w a xs.length cap k hl hk ht
  have c2 := field_Root_in k (by omega)
  have h64 := rt_64 k
  have c3 := ntt_transform w _ xs k (rt k) hA hl hk h64 (ord_rt k (by omega))
  rw [show dft (toF (rt k)) (2 ^ k) (cf xs) = fw xs k from rfl] at c3
  have hN9 := (two_pow_bound k hk).2
  rw [show fW 7 (18446744069414584320 / 2 ^ k) = rt k from rfl] at c2
  generalize mk (2 ^ k) (fw xs k) = RL at *
  clear h64 ht hl
  generalize rt k = r at *
  generalize 2 ^ k = N at *
  go_enter Tryd.func101, Tryd.ntmps101
  go_wp2_with (first
    | (go_at_call 139; refine Calls.mono c1 ?_; rintro e w' ⟨rfl, hw⟩; rw [hw]; clear hw)
    | (go_at_call 29; refine Calls.mono (c2 _) ?_; rintro e w' ⟨rfl, hw⟩; rw [hw]; clear hw)
    | (go_at_call 140; refine Calls.mono c3 ?_; rintro e w2 ⟨g, rfl, hg, hrow, hb⟩))
  go_ret2
  exact ⟨g, rfl, hg, hrow, hb⟩
def tmK (zs : List Nat) (c : Nat) : Nat → List Nat
  | 0 => zs
  | i + 1 => (tmK zs c i).set i (fM ((tmK zs c i).getD i 0) c)
theorem tmK_length (zs : List Nat) (c i : Nat) : (tmK zs c i).length = zs.length := by
  induction i with
  | zero => rfl
  | succ i ih => rw [tmK, List.length_set, ih]
theorem tmK_P (zs : List Nat) (c i : Nat) (hz : ∀ x ∈ zs, x < P) : ∀ x ∈ tmK zs c i, x < P := by
  induction i with
  | zero => exact hz
  | succ i ih =>
    intro x hx
    rw [tmK] at hx
    rcases List.mem_or_eq_of_mem_set hx with h1 | h1
    · exact ih x h1
    · rw [h1]; have := fM_lt ((tmK zs c i).getD i 0) c; unfold P; omega
theorem cf_tmK (zs : List Nat) (c i : Nat) (hi : i ≤ zs.length) (j : Nat) : cf (tmK zs c i) j = if j < i then cf zs j * toF c else cf zs j := by
  induction i generalizing j with
  | zero => rw [if_neg (by omega)]; rfl
  | succ i ih =>
    have h1 := ih (by omega) i
    rw [if_neg (by omega)] at h1
    rw [tmK, cf_setN _ _ _ _ (by rw [tmK_length]; omega), toF_fM]
    show (if j = i then cf (tmK zs c i) i * toF c else cf (tmK zs c i) j) = _
    rw [h1]
    by_cases e : j = i
    · rw [if_pos e, if_pos (by omega), e]
    · rw [if_neg e, ih (by omega) j]
      by_cases e2 : j < i
      · rw [if_pos e2, if_pos (by omega)]
      · rw [if_neg e2, if_neg (by omega)]
set_option maxRecDepth 100000 in
set_option maxHeartbeats 2000000 in
theorem ntt_Inverse_row (w : World) (v : Value) (xs : List Nat) (k : Nat) (h : IsU w v xs) (ht : Tab w) (hl : xs.length = 2 ^ k) (hk : k ≤ 10) :
    Calls Tryd.prog 102 #[v] w fun e w' => ∃ g, e = .returned (.tuple #[.slice (some ⟨g, 0, none⟩) (2 ^ k) (2 ^ k), .int .i64 0]) ∧ w.heap.size ≤ g ∧ RowU w' g (mk (2 ^ k) (bw xs k)) ∧ Below w.heap.size w w' := by
  have hA := h
  obtain ⟨a, cap, rfl, -⟩ := h
  have c1 := ntt_logSize_ok w a xs.length cap k hl hk ht
  have c2 := field_Root_in k (by omega)
  rw [show fW 7 (18446744069414584320 / 2 ^ k) = rt k from rfl] at c2
  have h64 := rt_64 k
  obtain ⟨hpow, hN9⟩ := two_pow_bound k hk
  have c4 := field_Inv_some (rt k) h64 (rt_ne k (by omega))
  have c5 := field_Inv_some (2 ^ k) (by omega) (len_ne k (by omega))
  have hv := toF_inv (rt k)
  have hpt := toF_inv (2 ^ k)
  have hb64 : ((fW (rt k) 18446744069414584319 : Nat) : Int) < 18446744073709551616 := by have := fW_lt (rt k) 18446744069414584319; omega
  have hp64 : ((fW (2 ^ k) 18446744069414584319 : Nat) : Int) < 18446744073709551616 := by have := fW_lt (2 ^ k) 18446744069414584319; omega
  have hord : Ord (toF (fW (rt k) 18446744069414584319)) k := by rw [hv]; exact (ord_rt k (by omega)).inv (rt_inv k (by omega))
  have c3 := ntt_transform w _ xs k (fW (rt k) 18446744069414584319) hA hl hk hb64 hord
  have hfin : Hid (tmK (mk (2 ^ k) (dft (toF (fW (rt k) 18446744069414584319)) (2 ^ k) (cf xs))) (fW (2 ^ k) 18446744069414584319) (2 ^ k) = mk (2 ^ k) (bw xs k)) := by
    show _ = _
    refine list_of_cf _ _ _ (by rw [tmK_length, mk_length]) (tmK_P _ _ _ (mk_lt _ _)) fun i hi => ?_
    rw [cf_tmK _ _ _ (by rw [mk_length]; exact Nat.le_refl _), if_pos hi, cf_mk, if_pos hi, hpt, hv]
    unfold bw; grind
  have hlen := mk_length (2 ^ k) (dft (toF (fW (rt k) 18446744069414584319)) (2 ^ k) (cf xs))
  have hPz := mk_lt (2 ^ k) (dft (toF (fW (rt k) 18446744069414584319)) (2 ^ k) (cf xs))
  clear hord hv hpt hb64 h64 ht
  generalize mk (2 ^ k) (dft (toF (fW (rt k) 18446744069414584319)) (2 ^ k) (cf xs)) = zs at *
  generalize mk (2 ^ k) (bw xs k) = RL at *
  generalize fW (rt k) 18446744069414584319 = vr at *
  generalize fW (2 ^ k) 18446744069414584319 = pt at *
  generalize rt k = r at *
  have hlen' : Hid (zs.length = 2 ^ k) := hlen
  clear hlen hl
  generalize 2 ^ k = N at *
  go_enter Tryd.func102, Tryd.ntmps102
  go_wp2_with (first
    | (go_at_call 139; refine Calls.mono c1 ?_; rintro e w' ⟨rfl, hw⟩; rw [hw]; clear hw)
    | (go_at_call 29; refine Calls.mono (c2 _) ?_; rintro e w' ⟨rfl, hw⟩; rw [hw]; clear hw)
    | (go_at_call 68; refine Calls.mono (c4 _) ?_; rintro e w' ⟨rfl, hw⟩; rw [hw]; clear hw)
    | (go_at_call 68; refine Calls.mono (c5 _) ?_; rintro e w' ⟨rfl, hw⟩; rw [hw]; clear hw)
    | (go_at_call 140; refine Calls.mono c3 ?_; rintro e w2 ⟨g, rfl, hg, hrow, hb⟩))
  go_loopw [45] (fun vi wr => ∃ i : Nat, i ≤ N ∧ vi = .int .i64 (i : Int) ∧ RowU wr g (tmK zs pt i) ∧ Below w.heap.size w wr)
    (fun vi _ => N - (intOf vi).toNat)
  case atStart => exact ⟨0, Nat.zero_le _, rfl, hrow, hb⟩
  case round =>
    clear hrow hb
    obtain ⟨i, hi, rfl, hrow, hnx⟩ := hrel
    by_cases hlt : i < N
    · have hcS := hrow.cell i (by rw [tmK_length, hlen'.out]; exact hlt)
      have hfr := hrow.frozen i
      have hset : Hid (RowU (wr.setCell ⟨g, i, none⟩ (.int .u64 ((fM ((tmK zs pt i).getD i 0) pt : Nat) : Int))) g (tmK zs pt (i + 1))) := hrow.set i _
      have cM := field_Mul ((tmK zs pt i).getD i 0) pt (range_getD (Rng_of_P (tmK_P zs pt i hPz)) _) hp64
      have hB2 := fun (u : Value) => hnx.setCell (p := ⟨g, i, none⟩) hg u
      clear hrow c1 c2 c3 c4 c5 hp64 hA hPz
      generalize fM ((tmK zs pt i).getD i 0) pt = z at *
      generalize (tmK zs pt i).getD i 0 = old at *
      go_wp2_with (go_at_call 22; refine Calls.mono (cM _) ?_; rintro e w' ⟨rfl, hw⟩; rw [hw]; clear hw)
      go_roundw
      case rel => exact ⟨i + 1, by omega, by go_num, hset.out, hB2 _⟩
      case measure => simp only [intOf]; omega
    · have e : N = i := by omega
      subst e
      rw [hfin.out] at hrow
      have hge : N ≤ N := Nat.le_refl _
      clear c1 c2 c3 c4 c5 hA hpow hp64
      go_wp2
      go_ret2
      exact ⟨g, rfl, hg, hrow, hnx⟩
theorem ntt_Inverse_ok (w : World) (v : Value) (xs : List Nat) (k : Nat) (h : IsU w v xs) (ht : Tab w) (hl : xs.length = 2 ^ k) (hk : k ≤ 10) :
    Calls Tryd.prog 102 #[v] w fun e w' => ∃ u, e = .returned (.tuple #[u, .int .i64 0]) ∧ IsU w' u (mk (2 ^ k) (bw xs k)) ∧ Below w.heap.size w w' := by
  refine Calls.mono (ntt_Inverse_row w v xs k h ht hl hk) ?_
  rintro e w' ⟨g, rfl, -, hrow, hb⟩
  have hN9 := (two_pow_bound k hk).2
  exact ⟨_, rfl, hrow.isUN (Rng_of_P (mk_lt _ _)) (by rw [mk_length]; omega) (mk_length _ _), hb⟩
end Go.Proofs.YtckoipoejaafhaaDoor
