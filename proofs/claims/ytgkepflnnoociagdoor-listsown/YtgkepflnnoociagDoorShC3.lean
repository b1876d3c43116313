/-
  What Encode of package share answers: the symbols of data, in new memory.
-/
import Derived.Test.YtgkepflnnoociagDoorShC1
import Derived.Test.YtgkepflnnoociagDoorSlAppAll
namespace Go.Proofs.YtgkepflnnoociagDoor
open Go.RowKit

theorem enk_start (n : Nat) (f : Nat → F) : mk 0 f ++ List.replicate (n - 0) 0 = List.replicate n 0 := by simp [mk]
theorem set_app (l r : List Nat) (a x : Nat) : (l ++ a :: r).set l.length x = l ++ x :: r := by
  induction l with
  | nil => rfl
  | cons b l ih => simp [ih]
theorem enk_step (n i : Nat) (f : Nat → F) (h : i < n) : (mk i f ++ List.replicate (n - i) 0).set i (f i).val = mk (i + 1) f ++ List.replicate (n - (i + 1)) 0 := by
  obtain ⟨m, rfl⟩ : ∃ m, n = i + 1 + m := ⟨n - (i + 1), by omega⟩
  rw [show i + 1 + m - i = m + 1 by omega, show i + 1 + m - (i + 1) = m by omega, List.replicate_succ, mk_succ, List.append_assoc]
  have e := set_app (mk i f) (List.replicate m 0) 0 (f i).val
  rw [mk_length] at e
  exact e
set_option maxHeartbeats 2000000 in
theorem share_Encode_ok (w : World) (v : Value) (xs : List Nat) (n : Nat) (h : IsU w v xs) (h0 : 0 < xs.length) (hn : (1 ≤ (n : Int) ∧ (n : Int) ≤ 64)) (hl : xs.length ≤ n) :
    Calls Tryd.prog 32 #[v, .int .i64 (n : Int)] w fun e w' => ∃ g, e = .returned (.tuple #[.slice (some ⟨g, 0, none⟩) n n, .int .i64 0]) ∧ w.heap.size ≤ g ∧ RowU w' g (mk n (symF xs)) ∧ Below w.heap.size w w' := by
  have c1 := share_isCount (n : Int)
  rw [decide_eq_true hn] at c1
  have hn64 : n ≤ 64 := by omega
  have hxl : xs.length ≤ 2048 := by omega
  have hn9 : n ≤ 1000000000 := by omega
  have hle : ¬ ((n : Int) < (xs.length : Int)) := by omega
  have hz : ((xs.length : Int) == 0) = false := by
    rw [beq_eq_false_iff_ne]; omega
  have hIU := h
  obtain ⟨a, cap, rfl, -⟩ := h
  clear hn hl h0
  go_enter Tryd.func32, Tryd.ntmps32
  go_wp2_with (first
    | (go_at_call 76; refine Calls.mono (c1 _) ?_; rintro e w' ⟨rfl, hw⟩; rw [hw]; clear hw)
    | (at_make; refine wp_makeG rfl _ _ rfl n rfl rfl hn9 ?_; intro g w2 hg hrow hb; have hgw : w.heap.size ≤ g := (by rw [hg.out]; exact Nat.le_refl _); clear hg))
  rw [← enk_start n (symF xs)] at hrow
  clear hz hle c1
  go_loopw [26] (fun vi wr => ∃ i : Nat, i ≤ n ∧ vi = .int .i64 (i : Int) ∧ RowU wr g (mk i (symF xs) ++ List.replicate (n - i) 0) ∧ Below w.heap.size w wr)
    (fun vi _ => n - (intOf vi).toNat)
  case atStart => exact ⟨0, Nat.zero_le _, rfl, hrow, hb⟩
  case round =>
    clear hrow hb
    obtain ⟨i, hi, rfl, hR, hB⟩ := hrel
    by_cases hlt : i < n
    · have cp := share_point i (by omega)
      have ce := fun (W : World) (hU : IsU W (.slice a xs.length cap) xs) => poly_Eval_ok W _ xs (fW (rt 6) i) hU hxl (by have := fW_lt (rt 6) i; omega)
      rw [← symF_val] at ce
      have hst := enk_step n i (symF xs) hlt
      have hlen : (mk i (symF xs) ++ List.replicate (n - i) 0).length = n := by simp [mk_length]; omega
      have hU : IsU wr (.slice a xs.length cap) xs := hIU.below hB
      have hup : Hid (∀ W : World, Below w.heap.size w W → RowU W g (mk i (symF xs) ++ List.replicate (n - i) 0) → RowU (W.setCell ⟨g, i, none⟩ (.int .u64 (((symF xs i).val : Nat) : Int))) g (mk (i + 1) (symF xs) ++ List.replicate (n - (i + 1)) 0) ∧ Below w.heap.size w (W.setCell ⟨g, i, none⟩ (.int .u64 (((symF xs i).val : Nat) : Int)))) := fun W h1 h2 => ⟨(h2.set i _).cast hst, h1.setCell (p := ⟨g, i, none⟩) hgw _⟩
      have hcl : Hid (∀ W : World, RowU W g (mk i (symF xs) ++ List.replicate (n - i) 0) → ∃ u, W.cell? ⟨g, i, none⟩ = some u ∧ W.frozen? ⟨g, i, none⟩ = false) := fun W h2 => ⟨_, h2.cell i (by omega), h2.frozen i⟩
      clear hst hlen hIU
      generalize (symF xs i).val = z at *
      generalize fW (rt 6) i = p at *
      generalize mk i (symF xs) ++ List.replicate (n - i) 0 = l1 at *
      go_wp2_with (first
        | (go_at_call 77; refine Calls.mono (cp _) ?_; rintro e w' ⟨rfl, hw⟩; rw [hw]; clear hw)
        | (go_at_call 56; refine Calls.mono (ce _ hU) ?_; rintro e w3 ⟨rfl, hb⟩; replace hR := hR.below hb; replace hB := hB.trans (hb.mono hB.size); obtain ⟨u, hc1, hc2⟩ := hcl.out _ hR; clear hb hU ce))
      obtain ⟨hR2, hB2⟩ := hup.out _ hB hR
      go_roundw
      case rel => exact ⟨i + 1, by omega, by go_num, hR2, hB2⟩
      case measure => simp only [intOf]; omega
    · have e : i = n := by omega
      subst e
      have hnl : ¬ i < i := Nat.lt_irrefl _
      rw [Nat.sub_self, List.replicate_zero, List.append_nil] at hR
      go_wp2
      go_ret2
      exact ⟨_, rfl, hgw, hR, hB⟩
set_option maxHeartbeats 2000000 in
theorem share_Encode_bad (w : World) (v : Value) (xs : List Nat) (n : Int) (h : IsU w v xs) (hE : ¬ EnOk xs n) :
    Calls Tryd.prog 32 #[v, .int .i64 n] w fun e w' => e = .returned (.tuple #[.slice none 0 0, .int .i64 1]) ∧ w' = w := by
  have c1 := share_isCount n
  by_cases h0 : 0 < xs.length
  · have hz : ((xs.length : Int) == 0) = false := by
      rw [beq_eq_false_iff_ne]; omega
    by_cases hn : 1 ≤ n ∧ n ≤ 64
    · rw [decide_eq_true hn] at c1
      have hle : n < (xs.length : Int) := by
        by_cases r : n < (xs.length : Int)
        · exact r
        · exact absurd ⟨h0, hn, by omega⟩ hE
      obtain ⟨a, cap, rfl, -⟩ := h
      clear hn h0 hE
      go_enter Tryd.func32, Tryd.ntmps32
      go_wp2_with (go_at_call 76; refine Calls.mono (c1 _) ?_; rintro e w' ⟨rfl, hw⟩; rw [hw]; clear hw)
      go_ret2
      exact ⟨rfl, rfl⟩
    · rw [decide_eq_false hn] at c1
      obtain ⟨a, cap, rfl, -⟩ := h
      clear hn h0 hE
      go_enter Tryd.func32, Tryd.ntmps32
      go_wp2_with (go_at_call 76; refine Calls.mono (c1 _) ?_; rintro e w' ⟨rfl, hw⟩; rw [hw]; clear hw)
      go_ret2
      exact ⟨rfl, rfl⟩
  · obtain ⟨a, cap, rfl, -⟩ := h
    obtain rfl : xs = [] := List.eq_nil_of_length_eq_zero (by omega)
    clear h0 hE c1
    go_enter Tryd.func32, Tryd.ntmps32
    go_wp2
    go_ret2
    exact ⟨rfl, rfl⟩
theorem mk_rng (n : Nat) (f : Nat → F) : Rng (mk n f) := Rng_of_P (mk_lt n f)
theorem share_EncodeN (w : World) (v : Value) (xs : List Nat) (n : Int) (h : IsU w v xs) :
    Calls Tryd.prog 32 #[v, .int .i64 n] w fun e w' => ∃ u, e = .returned (.tuple #[u, .int .i64 (enE xs n)]) ∧ IsU w' u (enL xs n) ∧ NewU w.heap.size w' u ∧ Below w.heap.size w w' := by
  by_cases hE : EnOk xs n
  · obtain ⟨m, rfl⟩ : ∃ m : Nat, n = (m : Int) := ⟨n.toNat, by have := hE.2.1; omega⟩
    unfold enE enL
    rw [if_pos hE, if_pos hE]
    refine (share_Encode_ok w v xs m h hE.1 hE.2.1 (by have := hE.2.2; omega)).mono ?_
    rintro e w' ⟨g, rfl, hg, hR, hB⟩
    have hm9 : m ≤ 1000000000 := by have := hE.2.1; omega
    exact ⟨_, rfl, hR.isUN (mk_rng _ _) (by rw [mk_length]; exact hm9) (mk_length _ _), .of_row hR (mk_length _ _) hm9 hg, hB⟩
  · unfold enE enL
    rw [if_neg hE, if_neg hE]
    refine (share_Encode_bad w v xs n h hE).mono ?_
    rintro e w' ⟨rfl, rfl⟩
    exact ⟨_, rfl, IsU.nil _, .nil _ _, Below.refl _ _⟩
theorem share_Encode (w : World) (v : Value) (xs : List Nat) (n : Int) (h : IsU w v xs) (_hn : (Lit.int .i64 n).wf = true) (_hTb : Tab w) :
    Calls Tryd.prog 32 #[v, .int .i64 n] w fun e w' => ∃ u, e = .returned (.tuple #[u, .int .i64 (enE xs n)]) ∧ IsU w' u (enL xs n) ∧ Below w.heap.size w w' := by
  refine (share_EncodeN w v xs n h).mono ?_
  rintro e w' ⟨u, rfl, hU, _, hB⟩
  exact ⟨u, rfl, hU, hB⟩

end Go.Proofs.YtgkepflnnoociagDoor
