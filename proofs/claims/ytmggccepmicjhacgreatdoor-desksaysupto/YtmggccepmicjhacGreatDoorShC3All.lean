/-
  Texts that stood one behind the other, as one.
-/
import Derived.Test.YtmggccepmicjhacGreatDoorPolyHAll
import Derived.Test.YtmggccepmicjhacGreatDoorPolyHAll
import Derived.Test.YtmggccepmicjhacGreatDoorRefShapesAll
import Derived.Test.YtmggccepmicjhacGreatDoorRefShapeAll
import Derived.Test.YtmggccepmicjhacGreatDoorDkNAll
import Derived.Test.YtmggccepmicjhacGreatDoorSlAll
import Derived.Laws.Bits64b
import Derived.Test.YtmggccepmicjhacGreatDoorRefPlacesAll
/-! What Encode of package share answers: the symbols of data, in new memory. -/
namespace Go.Proofs.YtmggccepmicjhacGreatDoor
open Go.RowKit
set_option maxRecDepth 100000

theorem enk_start (n : Nat) (f : Nat → F) : mk 0 f ++ List.replicate (n - 0) 0 = List.replicate n 0 := by simp [mk]
theorem set_app (l r : List Nat) (a x : Nat) : (l ++ a :: r).set l.length x = l ++ x :: r := by
  induction l with
  | nil => rfl
  | cons b l ih => simp [ih]
theorem enk_step (n i : Nat) (f : Nat → F) (h : i < n) : (mk i f ++ List.replicate (n - i) 0).set i (f i).val = mk (i + 1) f ++ List.replicate (n - (i + 1)) 0 := by
  obtain ⟨m, rfl⟩ : ∃ m, n = i + 1 + m := ⟨n - (i + 1), by omega⟩
  rw [show i + 1 + m - i = m + 1 by omega, show i + 1 + m - (i + 1) = m by omega, List.replicate_succ, mk_succ, List.append_assoc]
  have e := set_app (mk i f) (List.replicate m 0) 0 (f i).val
  rw [mk_length] at e
  exact e
set_option maxHeartbeats 2000000 in
theorem share_Encode_ok (w : World) (v : Value) (xs : List Nat) (n : Nat) (h : IsU w v xs) (h0 : 0 < xs.length) (hn : (1 ≤ (n : Int) ∧ (n : Int) ≤ 64)) (hl : xs.length ≤ n) :
    Calls Tryz.prog 99 #[v, .int .i64 (n : Int)] w fun e w' => ∃ g, e = .returned (.tuple #[.slice (some ⟨g, 0, none⟩) n n, .int .i64 0]) ∧ w.heap.size ≤ g ∧ RowU w' g (mk n (symF xs)) ∧ Below w.heap.size w w' := by
  have c1 := share_isCount (n : Int)
  rw [decide_eq_true hn] at c1
  have hn64 : n ≤ 64 := by omega
  have hxl : xs.length ≤ 2048 := by omega
  have hn9 : n ≤ 1000000000 := by omega
  have hle : ¬ ((n : Int) < (xs.length : Int)) := by omega
  have hz : ((xs.length : Int) == 0) = false := by
    rw [beq_eq_false_iff_ne]; omega
  have hIU := h
  obtain ⟨a, cap, rfl, -⟩ := h
  clear hn hl h0
  go_enter Tryz.func99, Tryz.ntmps99
  go_wp2_with (first
    | (go_at_call 123; refine Calls.mono (c1 _) ?_; rintro e w' ⟨rfl, hw⟩; rw [hw]; clear hw)
    | (at_make; refine wp_makeG rfl _ _ rfl n rfl rfl hn9 ?_; intro g w2 hg hrow hb; have hgw : w.heap.size ≤ g := (by rw [hg.out]; exact Nat.le_refl _); clear hg))
  rw [← enk_start n (symF xs)] at hrow
  clear hz hle c1
  go_loopw [26] (fun vi wr => ∃ i : Nat, i ≤ n ∧ vi = .int .i64 (i : Int) ∧ RowU wr g (mk i (symF xs) ++ List.replicate (n - i) 0) ∧ Below w.heap.size w wr)
    (fun vi _ => n - (intOf vi).toNat)
  case atStart => exact ⟨0, Nat.zero_le _, rfl, hrow, hb⟩
  case round =>
    clear hrow hb
    obtain ⟨i, hi, rfl, hR, hB⟩ := hrel
    by_cases hlt : i < n
    · have cp := share_point i (by omega)
      have ce := fun (W : World) (hU : IsU W (.slice a xs.length cap) xs) => poly_Eval_ok W _ xs (fW (rt 6) i) hU hxl (by have := fW_lt (rt 6) i; omega)
      rw [← symF_val] at ce
      have hst := enk_step n i (symF xs) hlt
      have hlen : (mk i (symF xs) ++ List.replicate (n - i) 0).length = n := by simp [mk_length]; omega
      have hU : IsU wr (.slice a xs.length cap) xs := hIU.below hB
      have hup : Hid (∀ W : World, Below w.heap.size w W → RowU W g (mk i (symF xs) ++ List.replicate (n - i) 0) → RowU (W.setCell ⟨g, i, none⟩ (.int .u64 (((symF xs i).val : Nat) : Int))) g (mk (i + 1) (symF xs) ++ List.replicate (n - (i + 1)) 0) ∧ Below w.heap.size w (W.setCell ⟨g, i, none⟩ (.int .u64 (((symF xs i).val : Nat) : Int)))) := fun W h1 h2 => ⟨(h2.set i _).cast hst, h1.setCell (p := ⟨g, i, none⟩) hgw _⟩
      have hcl : Hid (∀ W : World, RowU W g (mk i (symF xs) ++ List.replicate (n - i) 0) → ∃ u, W.cell? ⟨g, i, none⟩ = some u ∧ W.frozen? ⟨g, i, none⟩ = false) := fun W h2 => ⟨_, h2.cell i (by omega), h2.frozen i⟩
      clear hst hlen hIU
      generalize (symF xs i).val = z at *
      generalize fW (rt 6) i = p at *
      generalize mk i (symF xs) ++ List.replicate (n - i) 0 = l1 at *
      go_wp2_with (first
        | (go_at_call 125; refine Calls.mono (cp _) ?_; rintro e w' ⟨rfl, hw⟩; rw [hw]; clear hw)
        | (go_at_call 124; refine Calls.mono (ce _ hU) ?_; rintro e w3 ⟨rfl, hb⟩; replace hR := hR.below hb; replace hB := hB.trans (hb.mono hB.size); obtain ⟨u, hc1, hc2⟩ := hcl.out _ hR; clear hb hU ce))
      obtain ⟨hR2, hB2⟩ := hup.out _ hB hR
      go_roundw
      case rel => exact ⟨i + 1, by omega, by go_num, hR2, hB2⟩
      case measure => simp only [intOf]; omega
    · have e : i = n := by omega
      subst e
      have hnl : ¬ i < i := Nat.lt_irrefl _
      rw [Nat.sub_self, List.replicate_zero, List.append_nil] at hR
      go_wp2
      go_ret2
      exact ⟨_, rfl, hgw, hR, hB⟩
set_option maxHeartbeats 2000000 in
theorem share_Encode_bad (w : World) (v : Value) (xs : List Nat) (n : Int) (h : IsU w v xs) (hE : ¬ EnOk xs n) :
    Calls Tryz.prog 99 #[v, .int .i64 n] w fun e w' => e = .returned (.tuple #[.slice none 0 0, .int .i64 1]) ∧ w' = w := by
  have c1 := share_isCount n
  by_cases h0 : 0 < xs.length
  · have hz : ((xs.length : Int) == 0) = false := by
      rw [beq_eq_false_iff_ne]; omega
    by_cases hn : 1 ≤ n ∧ n ≤ 64
    · rw [decide_eq_true hn] at c1
      have hle : n < (xs.length : Int) := by
        by_cases r : n < (xs.length : Int)
        · exact r
        · exact absurd ⟨h0, hn, by omega⟩ hE
      obtain ⟨a, cap, rfl, -⟩ := h
      clear hn h0 hE
      go_enter Tryz.func99, Tryz.ntmps99
      go_wp2_with (go_at_call 123; refine Calls.mono (c1 _) ?_; rintro e w' ⟨rfl, hw⟩; rw [hw]; clear hw)
      go_ret2
      exact ⟨rfl, rfl⟩
    · rw [decide_eq_false hn] at c1
      obtain ⟨a, cap, rfl, -⟩ := h
      clear hn h0 hE
      go_enter Tryz.func99, Tryz.ntmps99
      go_wp2_with (go_at_call 123; refine Calls.mono (c1 _) ?_; rintro e w' ⟨rfl, hw⟩; rw [hw]; clear hw)
      go_ret2
      exact ⟨rfl, rfl⟩
  · obtain ⟨a, cap, rfl, -⟩ := h
    obtain rfl : xs = [] := List.eq_nil_of_length_eq_zero (by omega)
    clear h0 hE c1
    go_enter Tryz.func99, Tryz.ntmps99
    go_wp2
    go_ret2
    exact ⟨rfl, rfl⟩
theorem mk_rng (n : Nat) (f : Nat → F) : Rng (mk n f) := Rng_of_P (mk_lt n f)
theorem share_EncodeN (w : World) (v : Value) (xs : List Nat) (n : Int) (h : IsU w v xs) :
    Calls Tryz.prog 99 #[v, .int .i64 n] w fun e w' => ∃ u, e = .returned (.tuple #[u, .int .i64 (enE xs n)]) ∧ IsU w' u (enL xs n) ∧ NewU w.heap.size w' u ∧ Below w.heap.size w w' := by
  by_cases hE : EnOk xs n
  · obtain ⟨m, rfl⟩ : ∃ m : Nat, n = (m : Int) := ⟨n.toNat, by have := hE.2.1; omega⟩
    unfold enE enL
    rw [if_pos hE, if_pos hE]
    refine (share_Encode_ok w v xs m h hE.1 hE.2.1 (by have := hE.2.2; omega)).mono ?_
    rintro e w' ⟨g, rfl, hg, hR, hB⟩
    have hm9 : m ≤ 1000000000 := by have := hE.2.1; omega
    exact ⟨_, rfl, hR.isUN (mk_rng _ _) (by rw [mk_length]; exact hm9) (mk_length _ _), .of_row hR (mk_length _ _) hm9 hg, hB⟩
  · unfold enE enL
    rw [if_neg hE, if_neg hE]
    refine (share_Encode_bad w v xs n h hE).mono ?_
    rintro e w' ⟨rfl, rfl⟩
    exact ⟨_, rfl, IsU.nil _, .nil _ _, Below.refl _ _⟩
theorem share_Encode (w : World) (v : Value) (xs : List Nat) (n : Int) (h : IsU w v xs) (_hn : (Lit.int .i64 n).wf = true) (_hTb : Tab w) :
    Calls Tryz.prog 99 #[v, .int .i64 n] w fun e w' => ∃ u, e = .returned (.tuple #[u, .int .i64 (enE xs n)]) ∧ IsU w' u (enL xs n) ∧ Below w.heap.size w w' := by
  refine (share_EncodeN w v xs n h).mono ?_
  rintro e w' ⟨u, rfl, hU, _, hB⟩
  exact ⟨u, rfl, hU, hB⟩

end Go.Proofs.YtmggccepmicjhacGreatDoor

/-! What answer of package goldref answers to share; all its answers together. -/
namespace Go.Proofs.YtmggccepmicjhacGreatDoor
open Go.RowKit
set_option maxRecDepth 100000

theorem IsU.drop1 {w : World} {b off cap : Nat} {n : List Nat} (h : IsU w (.slice (some ⟨b, off, none⟩) n.length cap) n) (h1 : 0 < n.length) : IsU w (.slice (some ⟨b, off + 1, none⟩) (n.length - 1) (cap - 1)) (n.drop 1) := by
  have hc := h
  obtain ⟨a, cap', e, h2, h3, _, hr⟩ := h
  simp only [Value.slice.injEq, true_and] at e
  obtain ⟨rfl, rfl⟩ := e
  refine ⟨_, _, by rw [List.length_drop], by rw [List.length_drop]; omega, by omega, fun i hi => ⟨b, off + 1, rfl, ?_⟩, fun x hx => hr x (List.mem_of_mem_drop hx)⟩
  rw [List.length_drop] at hi
  have := hc.cell (1 + i) (by omega)
  rw [Nat.add_assoc, this, Nat.add_comm 1 i]
  simp [List.getD]
theorem in_smN (x : Nat) : (1 ≤ ((smN x : Nat) : Int) ∧ ((smN x : Nat) : Int) ≤ 64) ↔ (1 ≤ x ∧ x ≤ 64) := by
  unfold smN
  split <;> omega
theorem ref_InB (n lo hi : Int) (w : World) :
    Calls Tryz.prog 75 #[.int .i64 n, .int .i64 lo, .int .i64 hi] w fun e w' => e = .returned (.bool (decide (lo ≤ n ∧ n ≤ hi))) ∧ w' = w := by
  by_cases h1 : lo ≤ n
  · by_cases h2 : n ≤ hi
    · rw [decide_eq_true ⟨h1, h2⟩]; exact ref_In_true n lo hi h1 h2 w
    · rw [decide_eq_false (fun h => h2 h.2)]; exact ref_In_high n lo hi h1 (by omega) w
  · rw [decide_eq_false (fun h => h1 h.1)]; exact ref_In_low n lo hi (by omega) w
set_option maxRecDepth 100000 in
set_option maxHeartbeats 4000000 in
theorem ref_answer_share (w : World) (v : Value) (n : List Nat) (h : IsU w v n) (h1 : 0 < n.length) (h9 : n.length ≤ 1000000) (ht : Tab w) :
    Calls Tryz.prog 36 #[.string { data := #[115, 104, 97, 114, 101] }, v] w fun e w' => e = .returned (.string (bs (ansV [115, 104, 97, 114, 101] n))) ∧ Below w.heap.size w w' := by
  rw [ansV_share]
  obtain ⟨b, off, cap, rfl, hc0⟩ := one_cell h h1
  have hx : ((n.getD 0 0 : Nat) : Int) < 18446744073709551616 := range_getD h.range 0
  have cs := ref_small (n.getD 0 0) hx
  have cI := ref_InB ((smN (n.getD 0 0) : Nat) : Int) 1 64
  have cW := ref_wrong 1 (by decide) (by decide) w ht
  have hn9 : n.length ≤ 9223372036854775807 := by omega
  have hD : IsU w (.slice (some ⟨b, off + 1, none⟩) (n.length - 1) (cap - 1)) (n.drop 1) := IsU.drop1 h h1
  have hcap : n.length ≤ cap ∧ cap ≤ 9223372036854775807 := by
    obtain ⟨a', cap', e, h2, h3, _⟩ := h
    simp only [Value.slice.injEq, true_and] at e
    obtain ⟨_, rfl⟩ := e
    unfold maxLen at h3
    omega
  by_cases hS : ShrV n
  · have hV : shrV n = sayN (mk (n.getD 0 0) (symF (n.drop 1))) := by unfold shrV; rw [if_pos hS]
    rw [hV]
    obtain ⟨g1, g2, g3⟩ := hS
    rw [decide_eq_true ((in_smN _).mpr g2)] at cI
    have hsm : smN (n.getD 0 0) = n.getD 0 0 := by unfold smN; rw [if_neg (by omega)]
    rw [hsm] at cs cI
    have cY := ref_Symbols w.drew _ (n.drop 1) (n.getD 0 0) (hD.below (below_drewN (Below.refl _ _) 1)) (by omega)
    have cS : ∀ (W : World) (u : Value), Below w.drew.heap.size w.drew W → IsU W u (mk (n.getD 0 0) (symF (n.drop 1))) → Calls Tryz.prog 28 #[u] W fun e w' => e = .returned (.string (bs (sayN (mk (n.getD 0 0) (symF (n.drop 1)))))) ∧ Below w.heap.size w w' := fun W u hb hU => by
      have hb' : Below w.heap.size w W := (below_drewN (Below.refl _ _) 1).trans hb
      refine (ref_said W u _ hU (by rw [mk_length]; omega) (ht.below hb')).mono ?_
      rintro e w' ⟨rfl, hb2⟩
      exact ⟨rfl, hb'.trans (hb2.mono hb'.size)⟩
    have h2 : ¬ ((n.length : Int) < 2) := by omega
    have h3 : ¬ (((n.getD 0 0 : Nat) : Int) < (n.length : Int) - 1) := by omega
    have hx64 : ((n.getD 0 0 : Nat) : Int) ≤ 64 := by omega
    have hc1 : ¬ cap = 1 := by omega
    have hwx : IntKind.i64.wrap ((n.getD 0 0 : Nat) : Int) = ((n.getD 0 0 : Nat) : Int) := by rw [IntKind.wrap_i64]; omega
    have hl1 : 1 ≤ n.length := by omega
    clear h hD hV g1 g2 g3 hx hsm h9 cW
    generalize sayN (mk (n.getD 0 0) (symF (n.drop 1))) = R at *
    generalize mk (n.getD 0 0) (symF (n.drop 1)) = ys at *
    generalize n.getD 0 0 = x at *
    generalize n.length = m at *
    go_enter Tryz.func36, Tryz.ntmps36
    go_wp2_with (first
      | (go_at_call 72; refine Calls.mono (cs _) ?_; rintro e w' ⟨rfl, hw⟩; rw [hw]; clear hw)
      | (go_at_call 75; refine Calls.mono (cI _) ?_; rintro e w' ⟨rfl, hw⟩; rw [hw]; clear hw))
    go_region_with (first
      | (go_at_call 76; refine Calls.mono cY ?_; rintro e w1 ⟨u, rfl, hU, hB1⟩)
      | (go_at_call 28; refine Calls.mono (cS _ _ hB1 hU) ?_; rintro e w2 ⟨rfl, hB⟩))
    all_goals
      go_wp2
      go_ret
      exact ⟨rfl, hB⟩
  · have hV : shrV n = wrg 1 := by unfold shrV; rw [if_neg hS]
    rw [hV]
    by_cases g1 : n.length < 2
    · have h2 : ((n.length : Int) < 2) := by omega
      clear h hD hV g1 hx h9 hS cI
      generalize wrg 1 = R at *
      generalize smN (n.getD 0 0) = y at *
      generalize n.getD 0 0 = x at *
      generalize n.length = m at *
      go_enter Tryz.func36, Tryz.ntmps36
      go_wp2_with (first
        | (go_at_call 72; refine Calls.mono (cs _) ?_; rintro e w' ⟨rfl, hw⟩; rw [hw]; clear hw)
        | (go_at_call 26; refine Calls.mono cW ?_; rintro e w1 ⟨rfl, hB⟩))
      go_ret
      exact ⟨rfl, hB⟩
    · have h2 : ¬ ((n.length : Int) < 2) := by omega
      by_cases g2 : 1 ≤ n.getD 0 0 ∧ n.getD 0 0 ≤ 64
      · rw [decide_eq_true ((in_smN _).mpr g2)] at cI
        have hsm : smN (n.getD 0 0) = n.getD 0 0 := by unfold smN; rw [if_neg (by omega)]
        rw [hsm] at cs cI
        have h3 : ((n.getD 0 0 : Nat) : Int) < (n.length : Int) - 1 := by
          by_cases g3 : n.length - 1 ≤ n.getD 0 0
          · exact absurd ⟨by omega, g2, g3⟩ hS
          · omega
        clear h hD hV g1 g2 hx h9 hS hsm
        generalize wrg 1 = R at *
        generalize n.getD 0 0 = x at *
        generalize n.length = m at *
        go_enter Tryz.func36, Tryz.ntmps36
        go_wp2_with (first
          | (go_at_call 72; refine Calls.mono (cs _) ?_; rintro e w' ⟨rfl, hw⟩; rw [hw]; clear hw)
          | (go_at_call 75; refine Calls.mono (cI _) ?_; rintro e w' ⟨rfl, hw⟩; rw [hw]; clear hw)
          | (go_at_call 26; refine Calls.mono cW ?_; rintro e w1 ⟨rfl, hB⟩))
        go_ret
        exact ⟨rfl, hB⟩
      · rw [decide_eq_false (fun q => g2 ((in_smN _).mp q))] at cI
        clear h hD hV g1 g2 hx h9 hS
        generalize wrg 1 = R at *
        generalize smN (n.getD 0 0) = y at *
        generalize n.getD 0 0 = x at *
        generalize n.length = m at *
        go_enter Tryz.func36, Tryz.ntmps36
        go_wp2_with (first
          | (go_at_call 72; refine Calls.mono (cs _) ?_; rintro e w' ⟨rfl, hw⟩; rw [hw]; clear hw)
          | (go_at_call 75; refine Calls.mono (cI _) ?_; rintro e w' ⟨rfl, hw⟩; rw [hw]; clear hw)
          | (go_at_call 26; refine Calls.mono cW ?_; rintro e w1 ⟨rfl, hB⟩))
        go_ret
        exact ⟨rfl, hB⟩

end Go.Proofs.YtmggccepmicjhacGreatDoor

/-! What Reverse64 and TrailingZeros of package math/bits answer, as far as package ntt asks them: bits read from the other end; the place of the one bit of a power of two. -/
namespace Go.Proofs.YtmggccepmicjhacGreatDoor
open Go.RowKit
set_option maxRecDepth 100000

/-- Neighbours of s bits change places: those of the mask m and those beside them. -/
def swp (s m x : Nat) : Nat := (x / s &&& m) ||| ((x &&& m) * s % 18446744073709551616)
def swL (x : Nat) : Nat := x / 4294967296 ||| (x * 4294967296 % 18446744073709551616)
def rev64 (x : Nat) : Nat := swL (swp 65536 281470681808895 (swp 256 71777214294589695 (swp 16 1085102592571150095 (swp 4 3689348814741910323 (swp 2 6148914691236517205 x)))))
theorem swp_lt (s m x : Nat) (hm : m < 18446744073709551616) : swp s m x < 18446744073709551616 := by
  have h1 : x / s &&& m < 2 ^ 64 := Nat.and_lt_two_pow _ (by omega)
  have h2 : (x &&& m) * s % 18446744073709551616 < 2 ^ 64 := by omega
  have := Nat.or_lt_two_pow h1 h2
  unfold swp; omega
theorem swp_bits (s m x : Nat) (S M : Int) (hS : (s : Int) = S) (hM : (m : Int) = M) (hx : x < 18446744073709551616) (hm : m < 18446744073709551616) :
    bits .or .u64 (bits .and .u64 ((x : Int) / S) M) (IntKind.u64.wrap (bits .and .u64 (x : Int) M * S)) = ((swp s m x : Nat) : Int) := by
  subst hS hM
  have hd : x / s < 18446744073709551616 := Nat.lt_of_le_of_lt (Nat.div_le_self _ _) hx
  have h1 : x / s &&& m < 2 ^ 64 := Nat.and_lt_two_pow _ (by omega)
  rw [← Int.natCast_ediv, bits_and_u64_nat _ m hd hm, bits_and_u64_nat x m hx hm, ← Int.natCast_mul, IntKind.wrap_u64]
  have e : (((x &&& m) * s : Nat) : Int) % 18446744073709551616 = (((x &&& m) * s % 18446744073709551616 : Nat) : Int) := by omega
  rw [e, bits_or_u64_nat _ _ (by omega) (by omega)]; rfl
theorem swL_bits (x : Nat) (hx : x < 18446744073709551616) :
    bits .or .u64 ((x : Int) / 4294967296) (IntKind.u64.wrap ((x : Int) * 4294967296)) = ((swL x : Nat) : Int) := by
  rw [IntKind.wrap_u64, show (x : Int) / 4294967296 = ((x / 4294967296 : Nat) : Int) by omega, show (x : Int) * 4294967296 % 18446744073709551616 = ((x * 4294967296 % 18446744073709551616 : Nat) : Int) by omega,
    bits_or_u64_nat _ _ (by omega) (by omega)]; rfl

theorem bits_ReverseBytes64 (x : Nat) (hx : x < 18446744073709551616) (w : World) :
    Calls Tryz.prog 152 #[.int .u64 (x : Int)] w fun e w' => e = .returned (.int .u64 ((swL (swp 65536 281470681808895 (swp 256 71777214294589695 x)) : Nat) : Int)) ∧ w' = w := by
  have e1 := swp_bits 256 71777214294589695 x 256 71777214294589695 rfl rfl hx (by decide)
  have l1 := swp_lt 256 71777214294589695 x (by decide)
  generalize swp 256 71777214294589695 x = y at *
  have e2 := swp_bits 65536 281470681808895 y 65536 281470681808895 rfl rfl l1 (by decide)
  have l2 := swp_lt 65536 281470681808895 y (by decide)
  generalize swp 65536 281470681808895 y = z at *
  have e3 := swL_bits z l2
  generalize swL z = u at *
  clear l1 l2 hx
  go_enter Tryz.func152, Tryz.ntmps152
  go_wp2
  go_ret
  exact ⟨rfl, rfl⟩

theorem bits_Reverse64 (x : Nat) (hx : x < 18446744073709551616) (w : World) :
    Calls Tryz.prog 139 #[.int .u64 (x : Int)] w fun e w' => e = .returned (.int .u64 ((rev64 x : Nat) : Int)) ∧ w' = w := by
  unfold rev64
  have e1 := swp_bits 2 6148914691236517205 x 2 6148914691236517205 rfl rfl hx (by decide)
  have l1 := swp_lt 2 6148914691236517205 x (by decide)
  generalize swp 2 6148914691236517205 x = y at *
  have e2 := swp_bits 4 3689348814741910323 y 4 3689348814741910323 rfl rfl l1 (by decide)
  have l2 := swp_lt 4 3689348814741910323 y (by decide)
  generalize swp 4 3689348814741910323 y = z at *
  have e3 := swp_bits 16 1085102592571150095 z 16 1085102592571150095 rfl rfl l2 (by decide)
  have l3 := swp_lt 16 1085102592571150095 z (by decide)
  generalize swp 16 1085102592571150095 z = u at *
  have c := bits_ReverseBytes64 u l3
  generalize swL (swp 65536 281470681808895 (swp 256 71777214294589695 u)) = v at *
  clear l1 l2 l3 hx
  go_enter Tryz.func139, Tryz.ntmps139
  go_wp2_with (go_at_call 152; refine Calls.mono (c _) ?_; rintro e w' ⟨rfl, hw⟩; rw [hw]; clear hw)
  go_ret
  exact ⟨rfl, rfl⟩

/-- Of numbers of few bits. -/
theorem rev64_all : ((List.range 11).all fun k => (List.range (2 ^ k)).all fun i => rev64 i / 2 ^ (64 - k) == rv k i) = true := by decide +kernel
theorem rev64_rv (k i : Nat) (hk : k ≤ 10) (hi : i < 2 ^ k) : rev64 i / 2 ^ (64 - k) = rv k i := by
  have h1 := List.all_eq_true.mp rev64_all k (List.mem_range.mpr (by omega))
  have h2 := List.all_eq_true.mp h1 i (List.mem_range.mpr hi)
  exact beq_iff_eq.mp h2

def tzI (k : Nat) : Nat := 2 ^ k * 285870213051353865 % 18446744073709551616 / 288230376151711744
theorem tz_all : ((List.range 11).all fun k => decide (tzI k < 64) && (tz64.getD (tzI k) 0 == k) && ((2 ^ k &&& (18446744073709551616 - 2 ^ k)) == 2 ^ k)) = true := by decide +kernel

theorem tz_key (x a : Nat) (hx : x < 18446744073709551616) (hx0 : x ≠ 0) (hlow : x &&& (18446744073709551616 - x) = a) :
    IntKind.u64.wrap (bits .and .u64 (x : Int) (IntKind.u64.wrap (-(x : Int))) * 285870213051353865) / 288230376151711744 = ((a * 285870213051353865 % 18446744073709551616 / 288230376151711744 : Nat) : Int) := by
  have e1 : IntKind.u64.wrap (-(x : Int)) = ((18446744073709551616 - x : Nat) : Int) := by rw [IntKind.wrap_u64]; omega
  rw [e1, bits_and_u64_nat x _ hx (by omega), hlow, IntKind.wrap_u64]
  omega
set_option maxHeartbeats 1000000 in
theorem tz_core (x k q : Nat) (w : World) (hx0 : ((x : Int) == 0) = false)
    (key : IntKind.u64.wrap (bits .and .u64 (x : Int) (IntKind.u64.wrap (-(x : Int))) * 285870213051353865) / 288230376151711744 = (q : Int)) (hi : q < 64) (hk : k ≤ 10)
    (hcell : w.cell? ⟨5, q, none⟩ = some (.int .u8 (k : Int))) :
    Calls Tryz.prog 138 #[.int .u64 (x : Int)] w fun e w' => e = .returned (.int .i64 (k : Int)) ∧ w' = w := by
  go_enter Tryz.func138, Tryz.ntmps138
  go_wp2_with (simp only [key])
  go_ret
  exact ⟨rfl, rfl⟩
theorem bits_TrailingZeros (k : Nat) (hk : k ≤ 10) (w : World) (ht : Tab w) :
    Calls Tryz.prog 113 #[.int .u64 ((2 ^ k : Nat) : Int)] w fun e w' => e = .returned (.int .i64 (k : Int)) ∧ w' = w := by
  have h1 := List.all_eq_true.mp tz_all k (List.mem_range.mpr (by omega))
  simp only [Bool.and_eq_true, decide_eq_true_eq, beq_iff_eq] at h1
  obtain ⟨⟨hi, hv⟩, hand⟩ := h1
  have hcell := ht.1 _ hi
  rw [hv] at hcell
  have hx := (two_pow_bound k hk).2
  have hp : 0 < 2 ^ k := Nat.pow_pos (by decide)
  have key := tz_key (2 ^ k) (2 ^ k) (by omega) (by omega) hand
  have hx0 : (((2 ^ k : Nat) : Int) == 0) = false := by rw [beq_eq_false_iff_ne]; omega
  have c64 := tz_core (2 ^ k) k (tzI k) w hx0 key hi hk hcell
  clear key hcell hx0 hand hv ht hi hp
  generalize 2 ^ k = x at *
  go_enter Tryz.func113, Tryz.ntmps113
  go_wp2_with (go_at_call 138; refine Calls.mono c64 ?_; rintro e w' ⟨rfl, hw⟩; rw [hw]; clear hw)
  go_ret
  exact ⟨rfl, rfl⟩

end Go.Proofs.YtmggccepmicjhacGreatDoor

/-! What turned and Order of package ntt answer. -/
namespace Go.Proofs.YtmggccepmicjhacGreatDoor
open Go.RowKit
set_option maxRecDepth 100000

/-- The first m of n ints, noughts behind them. -/
def SI (n m : Nat) (f : Nat → Nat) : List Nat := (List.range m).map f ++ List.replicate (n - m) 0
theorem SI_zero (n : Nat) (f : Nat → Nat) : SI n 0 f = List.replicate n 0 := by simp [SI]
theorem SI_length {n m : Nat} (f : Nat → Nat) (h : m ≤ n) : (SI n m f).length = n := by
  unfold SI
  simp; omega
theorem SI_set {n m : Nat} (f : Nat → Nat) (h : m < n) : (SI n m f).set m (f m) = SI n (m + 1) f := by
  unfold SI
  obtain ⟨r, hr⟩ : ∃ r, n - m = r + 1 := ⟨n - m - 1, by omega⟩
  rw [hr, show n - (m + 1) = r by omega, List.set_append_right _ _ (by simp), List.length_map, List.length_range, Nat.sub_self, List.replicate_succ, List.set_cons_zero, List.range_succ, List.map_append, List.append_assoc]; rfl
theorem SI_full (n : Nat) (f : Nat → Nat) : SI n n f = (List.range n).map f := by simp [SI]

set_option maxHeartbeats 2000000 in
theorem ntt_turned (w : World) (k : Nat) (hk : k ≤ 10) :
    Calls Tryz.prog 114 #[.int .i64 (k : Int)] w fun e w' => ∃ g, e = .returned (.slice (some ⟨g, 0, none⟩) (2 ^ k) (2 ^ k)) ∧ w.heap.size ≤ g ∧ RowI w' g (ord k) ∧ Below w.heap.size w w' := by
  obtain ⟨hpow, hN9⟩ := two_pow_bound k hk
  have hrev : Hid (∀ i, i < 2 ^ k → rev64 i / 2 ^ (64 - k) = rv k i) := fun i hi => rev64_rv k i hk hi
  have hord : Hid (SI (2 ^ k) (2 ^ k) (rv k) = ord k) := SI_full _ _
  have hsub : (64 : Int) - (k : Int) = ((64 - k : Nat) : Int) := by omega
  have hlt : ∀ i, rv k i < 2 ^ k := fun i => by
    have := rvK_le k i k (Nat.le_refl _)
    rw [Nat.sub_self, Nat.pow_zero] at this
    unfold rv; omega
  generalize 2 ^ k = N at *
  have hn9 : N ≤ 1000000000 := by omega
  go_enter Tryz.func114, Tryz.ntmps114
  go_wp2_with (at_make; refine wp_makeI rfl _ _ rfl N rfl rfl hn9 ?_; intro g w2 hg hrow hb)
  have hgw : w.heap.size ≤ g := Nat.le_of_eq hg.out.symm
  clear hg
  go_loopw [10] (fun vi wr => ∃ i : Nat, i ≤ N ∧ vi = .int .i64 (i : Int) ∧ RowI wr g (SI N i (rv k)) ∧ Below w.heap.size w wr)
    (fun vi _ => N - (intOf vi).toNat)
  case atStart => exact ⟨0, Nat.zero_le _, rfl, hrow.cast (SI_zero _ _).symm, hb⟩
  case round =>
    clear hrow hb
    obtain ⟨i, hi, rfl, hrow, hnx⟩ := hrel
    by_cases hlti : i < N
    · have hc := hrow.cell i (by rw [SI_length _ hi]; exact hlti)
      have hfr := hrow.frozen i
      have hset := hrow.set i (rv k i)
      rw [SI_set _ hlti] at hset
      have hB2 := fun (u : Value) => hnx.setCell (p := ⟨g, i, none⟩) hgw u
      have cR := bits_Reverse64 i (by omega)
      have hq := hrev.out i hlti
      have hrl := hlt i
      have hsh : ((rev64 i : Nat) : Int) / 2 ^ (64 - k) = ((rv k i : Nat) : Int) := by
        rw [← hq, Int.natCast_ediv, Int.natCast_pow]; rfl
      clear hq hrev hlt
      generalize (SI N i (rv k)).getD i 0 = old at *
      generalize rev64 i = r at *
      generalize rv k i = z at *
      go_wp2_with (go_at_call 139; refine Calls.mono (cR _) ?_; rintro e w' ⟨rfl, hw⟩; rw [hw]; clear hw)
      go_roundw
      case rel => exact ⟨i + 1, by omega, by go_num, hset, hB2 _⟩
      case measure => simp only [intOf]; omega
    · have e : i = N := by omega
      subst e
      rw [hord.out] at hrow
      have hge : i ≤ i := Nat.le_refl _
      clear hrev hlt hpow hord
      go_wp2
      go_ret
      exact ⟨g, rfl, hgw, hrow, hnx⟩


end Go.Proofs.YtmggccepmicjhacGreatDoor
