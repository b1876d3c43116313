/-
  Texts that stood one behind the other, as one.
-/
import Derived.Test.YtmggccepmicjhagGreatDoorFieldBAll
import Derived.Test.YtmggccepmicjhagGreatDoorShDAll
import Derived.Test.YtmggccepmicjhagGreatDoorShDAll
import Derived.Test.YtmggccepmicjhagGreatDoorSlAll
import Derived.Test.YtmggccepmicjhagGreatDoorSlMakeAll
import Derived.Test.YtmggccepmicjhagGreatDoorRefIAll
/-! What Through of package poly answers; with what stands in the texts that are imported, all of the package. -/
namespace Go.Proofs.YtmggccepmicjhagGreatDoor
open Go.RowKit
set_option maxRecDepth 100000

/-- Points so far are distinct. -/
def Dst (xs : List Nat) (k : Nat) : Prop := ∀ i j, j < i → i < k → cf xs i ≠ cf xs j
theorem Pts_of {xs ys : List Nat} (h1 : xs.length = ys.length) (h2 : xs.length ≤ 128) (h : Dst xs xs.length) : Pts xs ys := by
  refine ⟨h1, h2, fun i k hi hk e => h i k hk hi ?_, fun k hk => by omega⟩
  rw [fN_val, fN_val] at e
  exact Fin.ext e
theorem Dst_of {xs ys : List Nat} (h : Pts xs ys) : Dst xs xs.length := by
  intro i j hj hi e
  refine h.2.2.1 i j hi hj ?_
  rw [fN_val, fN_val]
  exact congrArg Fin.val e
theorem Dst_step {xs : List Nat} {k : Nat} (h : Dst xs k) (hz : zp (cf xs) k (cf xs k) ≠ 0) : Dst xs (k + 1) := by
  intro i j hj hi e
  by_cases hik : i = k
  · subst hik
    exact hz (by rw [e]; exact zp_at _ _ _ hj)
  · exact h i j hj (by omega) e
theorem not_Pts {xs ys : List Nat} {k : Nat} (hk : k < xs.length) (hz : zp (cf xs) k (cf xs k) = 0) : ¬ Pts xs ys := fun h =>
  zp_ne (cf xs) k (cf xs k) (fun j hj => Dst_of h k j hj hk) hz

end Go.Proofs.YtmggccepmicjhagGreatDoor

/-! What Root of package field answers, for all numbers: a power of 7, or the error. -/
namespace Go.Proofs.YtmggccepmicjhagGreatDoor
open Go.RowKit
set_option maxRecDepth 100000

theorem half_cast (k : Nat) : ((18446744069414584320 / 2 ^ k : Nat) : Int) = 18446744069414584320 / 2 ^ k := by
  rw [Int.natCast_ediv, Int.natCast_pow]; rfl

theorem field_Root_in (k : Nat) (hk : (k : Int) ≤ 32) (w : World) :
    Calls Tryz.prog 62 #[.int .i64 (k : Int)] w fun e w' => e = .returned (.tuple #[.int .u64 ((fW 7 (18446744069414584320 / 2 ^ k) : Nat) : Int), .int .i64 0]) ∧ w' = w := by
  have hle : 18446744069414584320 / 2 ^ k ≤ 18446744069414584320 := Nat.div_le_self _ _
  have c := field_Pow 7 (18446744069414584320 / 2 ^ k) (by omega) (by omega)
  rw [half_cast] at c
  clear hle
  go_enter Tryz.func62, Tryz.ntmps62
  go_wp2_with (go_at_call 37; refine Calls.mono (c _) ?_; rintro e w' ⟨rfl, hw⟩; rw [hw]; clear hw)
  go_ret2
  exact ⟨rfl, rfl⟩

theorem field_Root_out (k : Int) (hk : k < 0 ∨ 32 < k) (w : World) :
    Calls Tryz.prog 62 #[.int .i64 k] w fun e w' => e = .returned (.tuple #[.int .u64 0, .int .i64 1]) ∧ w' = w := by
  by_cases h : k < 0
  · go_enter Tryz.func62, Tryz.ntmps62
    go_wp2
    go_ret2
    exact ⟨rfl, rfl⟩
  · have h' : 32 < k := by omega
    clear hk
    go_enter Tryz.func62, Tryz.ntmps62
    go_wp2
    go_ret2
    exact ⟨rfl, rfl⟩

end Go.Proofs.YtmggccepmicjhagGreatDoor

/-! Small functions of package share: what may be, and where a symbol is a value. -/
namespace Go.Proofs.YtmggccepmicjhagGreatDoor
open Go.RowKit
set_option maxRecDepth 100000

theorem share_isCount (n : Int) (w : World) :
    Calls Tryz.prog 98 #[.int .i64 n] w fun e w' => e = .returned (.bool (decide (1 ≤ n ∧ n ≤ 64))) ∧ w' = w := by
  by_cases h1 : 1 ≤ n
  · by_cases h2 : n ≤ 64
    · rw [decide_eq_true ⟨h1, h2⟩]
      go_enter Tryz.func98, Tryz.ntmps98
      go_wp2
      go_ret
      exact ⟨rfl, rfl⟩
    · rw [decide_eq_false (fun h => h2 h.2)]
      go_enter Tryz.func98, Tryz.ntmps98
      go_wp2
      go_ret
      exact ⟨rfl, rfl⟩
  · rw [decide_eq_false (fun h => h1 h.1)]
    go_enter Tryz.func98, Tryz.ntmps98
    go_wp2
    go_ret
    exact ⟨rfl, rfl⟩
theorem share_point (i : Nat) (hi : i ≤ 1000000) (w : World) :
    Calls Tryz.prog 100 #[.int .i64 (i : Int)] w fun e w' => e = .returned (.int .u64 ((fW (rt 6) i : Nat) : Int)) ∧ w' = w := by
  have cr : ∀ w, Calls Tryz.prog 62 #[.int .i64 6] w fun e w' => e = .returned (.tuple #[.int .u64 ((rt 6 : Nat) : Int), .int .i64 0]) ∧ w' = w := field_Root_in 6 (by decide)
  have cp := field_Pow (rt 6) i (by have : (rt 6 : Int) < 18446744069414584321 := fW_lt _ _
                                    omega) (by omega)
  generalize rt 6 = q at *
  generalize fW q i = p at *
  go_enter Tryz.func100, Tryz.ntmps100
  go_wp2_with (first
    | (go_at_call 62; refine Calls.mono (cr _) ?_; rintro e w' ⟨rfl, hw⟩; rw [hw]; clear hw)
    | (go_at_call 37; refine Calls.mono (cp _) ?_; rintro e w' ⟨rfl, hw⟩; rw [hw]; clear hw))
  go_ret
  exact ⟨rfl, rfl⟩

end Go.Proofs.YtmggccepmicjhagGreatDoor

/-! Slices of numbers that lie in new memory, with all that they have room for. -/
namespace Go.Proofs.YtmggccepmicjhagGreatDoor
open Go.RowKit
set_option maxRecDepth 100000

/-- The slice v is nil, or lies in a block from B on that may be written, with all that it has room for. -/
def NewU (B : Nat) (w : World) (v : Value) : Prop :=
  v = .slice none 0 0 ∨ ∃ (g off n cap : Nat) (cs : Array Value), v = .slice (some ⟨g, off, none⟩) n cap ∧ B ≤ g ∧ w.heap[g]? = some (.cells cs 77 (0, 0)) ∧ off + cap ≤ cs.size ∧ n ≤ cap ∧ cap ≤ maxLen
theorem NewU.nil (B : Nat) (w : World) : NewU B w (.slice none 0 0) := .inl rfl
theorem NewU.of_row {B g n : Nat} {w : World} {xs : List Nat} (h : RowU w g xs) (hl : xs.length = n) (h9 : n ≤ 1000000000) (hg : B ≤ g) : NewU B w (.slice (some ⟨g, 0, none⟩) n n) :=
  .inr ⟨g, 0, n, n, _, rfl, hg, h, by simp [cellsU_length, hl], Nat.le_refl _, by unfold maxLen; omega⟩
theorem NewU.mono {B B' : Nat} {w : World} {v : Value} (h : NewU B' w v) (hB : B ≤ B') : NewU B w v := by
  rcases h with h | ⟨g, off, n, cap, cs, e, hg, r⟩
  · exact .inl h
  · exact .inr ⟨g, off, n, cap, cs, e, Nat.le_trans hB hg, r⟩
theorem NewU.below {B : Nat} {w w' : World} {v : Value} (h : NewU B w v) (hb : Below w.heap.size w w') : NewU B w' v := by
  rcases h with h | ⟨g, off, n, cap, cs, e, hg, hh, r⟩
  · exact .inl h
  · have hlt : g < w.heap.size := by
      rcases Nat.lt_or_ge g w.heap.size with hl | hl
      · exact hl
      · rw [Array.getElem?_eq_none hl] at hh; cases hh
    exact .inr ⟨g, off, n, cap, cs, e, hg, (hb.block g hlt).trans hh, r⟩
theorem NewU.take {B : Nat} {w : World} {a : Option Addr} {l c n : Nat} (h : NewU B w (.slice a l c)) (hn : n ≤ l) : NewU B w (.slice a n c) := by
  rcases h with h | ⟨g, off, n', cap, cs, e, hg, hh, h1, h2, h3⟩
  · simp only [Value.slice.injEq] at h
    obtain ⟨rfl, rfl, rfl⟩ := h
    obtain rfl : n = 0 := by omega
    exact .inl rfl
  · simp only [Value.slice.injEq] at e
    obtain ⟨rfl, rfl, rfl⟩ := e
    exact .inr ⟨g, off, n, c, cs, rfl, hg, hh, h1, by omega, h3⟩
theorem NewU.cells {w : World} {g : Nat} {cs : Array Value} {t : Nat} {fr : Nat × Nat} (hh : w.heap[g]? = some (.cells cs t fr)) : g < w.heap.size := by
  rcases Nat.lt_or_ge g w.heap.size with hl | hl
  · exact hl
  · rw [Array.getElem?_eq_none hl] at hh; cases hh

end Go.Proofs.YtmggccepmicjhagGreatDoor

/-! What Encode of package share answers: the symbols of data, in new memory. -/
namespace Go.Proofs.YtmggccepmicjhagGreatDoor
open Go.RowKit
set_option maxRecDepth 100000

theorem enk_start (n : Nat) (f : Nat → F) : mk 0 f ++ List.replicate (n - 0) 0 = List.replicate n 0 := by simp [mk]
theorem set_app (l r : List Nat) (a x : Nat) : (l ++ a :: r).set l.length x = l ++ x :: r := by
  induction l with
  | nil => rfl
  | cons b l ih => simp [ih]
theorem enk_step (n i : Nat) (f : Nat → F) (h : i < n) : (mk i f ++ List.replicate (n - i) 0).set i (f i).val = mk (i + 1) f ++ List.replicate (n - (i + 1)) 0 := by
  obtain ⟨m, rfl⟩ : ∃ m, n = i + 1 + m := ⟨n - (i + 1), by omega⟩
  rw [show i + 1 + m - i = m + 1 by omega, show i + 1 + m - (i + 1) = m by omega, List.replicate_succ, mk_succ, List.append_assoc]
  have e := set_app (mk i f) (List.replicate m 0) 0 (f i).val
  rw [mk_length] at e
  exact e
set_option maxHeartbeats 2000000 in
theorem share_Encode_ok (w : World) (v : Value) (xs : List Nat) (n : Nat) (h : IsU w v xs) (h0 : 0 < xs.length) (hn : (1 ≤ (n : Int) ∧ (n : Int) ≤ 64)) (hl : xs.length ≤ n) :
    Calls Tryz.prog 77 #[v, .int .i64 (n : Int)] w fun e w' => ∃ g, e = .returned (.tuple #[.slice (some ⟨g, 0, none⟩) n n, .int .i64 0]) ∧ w.heap.size ≤ g ∧ RowU w' g (mk n (symF xs)) ∧ Below w.heap.size w w' := by
  have c1 := share_isCount (n : Int)
  rw [decide_eq_true hn] at c1
  have hn64 : n ≤ 64 := by omega
  have hxl : xs.length ≤ 2048 := by omega
  have hn9 : n ≤ 1000000000 := by omega
  have hle : ¬ ((n : Int) < (xs.length : Int)) := by omega
  have hz : ((xs.length : Int) == 0) = false := by
    rw [beq_eq_false_iff_ne]; omega
  have hIU := h
  obtain ⟨a, cap, rfl, -⟩ := h
  clear hn hl h0
  go_enter Tryz.func77, Tryz.ntmps77
  go_wp2_with (first
    | (go_at_call 98; refine Calls.mono (c1 _) ?_; rintro e w' ⟨rfl, hw⟩; rw [hw]; clear hw)
    | (at_make; refine wp_makeG rfl _ _ rfl n rfl rfl hn9 ?_; intro g w2 hg hrow hb; have hgw : w.heap.size ≤ g := (by rw [hg.out]; exact Nat.le_refl _); clear hg))
  rw [← enk_start n (symF xs)] at hrow
  clear hz hle c1
  go_loopw [26] (fun vi wr => ∃ i : Nat, i ≤ n ∧ vi = .int .i64 (i : Int) ∧ RowU wr g (mk i (symF xs) ++ List.replicate (n - i) 0) ∧ Below w.heap.size w wr)
    (fun vi _ => n - (intOf vi).toNat)
  case atStart => exact ⟨0, Nat.zero_le _, rfl, hrow, hb⟩
  case round =>
    clear hrow hb
    obtain ⟨i, hi, rfl, hR, hB⟩ := hrel
    by_cases hlt : i < n
    · have cp := share_point i (by omega)
      have ce := fun (W : World) (hU : IsU W (.slice a xs.length cap) xs) => poly_Eval_ok W _ xs (fW (rt 6) i) hU hxl (by have := fW_lt (rt 6) i; omega)
      rw [← symF_val] at ce
      have hst := enk_step n i (symF xs) hlt
      have hlen : (mk i (symF xs) ++ List.replicate (n - i) 0).length = n := by simp [mk_length]; omega
      have hU : IsU wr (.slice a xs.length cap) xs := hIU.below hB
      have hup : Hid (∀ W : World, Below w.heap.size w W → RowU W g (mk i (symF xs) ++ List.replicate (n - i) 0) → RowU (W.setCell ⟨g, i, none⟩ (.int .u64 (((symF xs i).val : Nat) : Int))) g (mk (i + 1) (symF xs) ++ List.replicate (n - (i + 1)) 0) ∧ Below w.heap.size w (W.setCell ⟨g, i, none⟩ (.int .u64 (((symF xs i).val : Nat) : Int)))) := fun W h1 h2 => ⟨(h2.set i _).cast hst, h1.setCell (p := ⟨g, i, none⟩) hgw _⟩
      have hcl : Hid (∀ W : World, RowU W g (mk i (symF xs) ++ List.replicate (n - i) 0) → ∃ u, W.cell? ⟨g, i, none⟩ = some u ∧ W.frozen? ⟨g, i, none⟩ = false) := fun W h2 => ⟨_, h2.cell i (by omega), h2.frozen i⟩
      clear hst hlen hIU
      generalize (symF xs i).val = z at *
      generalize fW (rt 6) i = p at *
      generalize mk i (symF xs) ++ List.replicate (n - i) 0 = l1 at *
      go_wp2_with (first
        | (go_at_call 100; refine Calls.mono (cp _) ?_; rintro e w' ⟨rfl, hw⟩; rw [hw]; clear hw)
        | (go_at_call 99; refine Calls.mono (ce _ hU) ?_; rintro e w3 ⟨rfl, hb⟩; replace hR := hR.below hb; replace hB := hB.trans (hb.mono hB.size); obtain ⟨u, hc1, hc2⟩ := hcl.out _ hR; clear hb hU ce))
      obtain ⟨hR2, hB2⟩ := hup.out _ hB hR
      go_roundw
      case rel => exact ⟨i + 1, by omega, by go_num, hR2, hB2⟩
      case measure => simp only [intOf]; omega
    · have e : i = n := by omega
      subst e
      have hnl : ¬ i < i := Nat.lt_irrefl _
      rw [Nat.sub_self, List.replicate_zero, List.append_nil] at hR
      go_wp2
      go_ret2
      exact ⟨_, rfl, hgw, hR, hB⟩
set_option maxHeartbeats 2000000 in
theorem share_Encode_bad (w : World) (v : Value) (xs : List Nat) (n : Int) (h : IsU w v xs) (hE : ¬ EnOk xs n) :
    Calls Tryz.prog 77 #[v, .int .i64 n] w fun e w' => e = .returned (.tuple #[.slice none 0 0, .int .i64 1]) ∧ w' = w := by
  have c1 := share_isCount n
  by_cases h0 : 0 < xs.length
  · have hz : ((xs.length : Int) == 0) = false := by
      rw [beq_eq_false_iff_ne]; omega
    by_cases hn : 1 ≤ n ∧ n ≤ 64
    · rw [decide_eq_true hn] at c1
      have hle : n < (xs.length : Int) := by
        by_cases r : n < (xs.length : Int)
        · exact r
        · exact absurd ⟨h0, hn, by omega⟩ hE
      obtain ⟨a, cap, rfl, -⟩ := h
      clear hn h0 hE
      go_enter Tryz.func77, Tryz.ntmps77
      go_wp2_with (go_at_call 98; refine Calls.mono (c1 _) ?_; rintro e w' ⟨rfl, hw⟩; rw [hw]; clear hw)
      go_ret2
      exact ⟨rfl, rfl⟩
    · rw [decide_eq_false hn] at c1
      obtain ⟨a, cap, rfl, -⟩ := h
      clear hn h0 hE
      go_enter Tryz.func77, Tryz.ntmps77
      go_wp2_with (go_at_call 98; refine Calls.mono (c1 _) ?_; rintro e w' ⟨rfl, hw⟩; rw [hw]; clear hw)
      go_ret2
      exact ⟨rfl, rfl⟩
  · obtain ⟨a, cap, rfl, -⟩ := h
    obtain rfl : xs = [] := List.eq_nil_of_length_eq_zero (by omega)
    clear h0 hE c1
    go_enter Tryz.func77, Tryz.ntmps77
    go_wp2
    go_ret2
    exact ⟨rfl, rfl⟩
theorem mk_rng (n : Nat) (f : Nat → F) : Rng (mk n f) := Rng_of_P (mk_lt n f)
theorem share_EncodeN (w : World) (v : Value) (xs : List Nat) (n : Int) (h : IsU w v xs) :
    Calls Tryz.prog 77 #[v, .int .i64 n] w fun e w' => ∃ u, e = .returned (.tuple #[u, .int .i64 (enE xs n)]) ∧ IsU w' u (enL xs n) ∧ NewU w.heap.size w' u ∧ Below w.heap.size w w' := by
  by_cases hE : EnOk xs n
  · obtain ⟨m, rfl⟩ : ∃ m : Nat, n = (m : Int) := ⟨n.toNat, by have := hE.2.1; omega⟩
    unfold enE enL
    rw [if_pos hE, if_pos hE]
    refine (share_Encode_ok w v xs m h hE.1 hE.2.1 (by have := hE.2.2; omega)).mono ?_
    rintro e w' ⟨g, rfl, hg, hR, hB⟩
    have hm9 : m ≤ 1000000000 := by have := hE.2.1; omega
    exact ⟨_, rfl, hR.isUN (mk_rng _ _) (by rw [mk_length]; exact hm9) (mk_length _ _), .of_row hR (mk_length _ _) hm9 hg, hB⟩
  · unfold enE enL
    rw [if_neg hE, if_neg hE]
    refine (share_Encode_bad w v xs n h hE).mono ?_
    rintro e w' ⟨rfl, rfl⟩
    exact ⟨_, rfl, IsU.nil _, .nil _ _, Below.refl _ _⟩
theorem share_Encode (w : World) (v : Value) (xs : List Nat) (n : Int) (h : IsU w v xs) (_hn : (Lit.int .i64 n).wf = true) (_hTb : Tab w) :
    Calls Tryz.prog 77 #[v, .int .i64 n] w fun e w' => ∃ u, e = .returned (.tuple #[u, .int .i64 (enE xs n)]) ∧ IsU w' u (enL xs n) ∧ Below w.heap.size w w' := by
  refine (share_EncodeN w v xs n h).mono ?_
  rintro e w' ⟨u, rfl, hU, _, hB⟩
  exact ⟨u, rfl, hU, hB⟩

end Go.Proofs.YtmggccepmicjhagGreatDoor

/-! What answer of package goldref answers to share; all its answers together. -/
namespace Go.Proofs.YtmggccepmicjhagGreatDoor
open Go.RowKit
set_option maxRecDepth 100000

theorem IsU.drop1 {w : World} {b off cap : Nat} {n : List Nat} (h : IsU w (.slice (some ⟨b, off, none⟩) n.length cap) n) (h1 : 0 < n.length) : IsU w (.slice (some ⟨b, off + 1, none⟩) (n.length - 1) (cap - 1)) (n.drop 1) := by
  have hc := h
  obtain ⟨a, cap', e, h2, h3, _, hr⟩ := h
  simp only [Value.slice.injEq, true_and] at e
  obtain ⟨rfl, rfl⟩ := e
  refine ⟨_, _, by rw [List.length_drop], by rw [List.length_drop]; omega, by omega, fun i hi => ⟨b, off + 1, rfl, ?_⟩, fun x hx => hr x (List.mem_of_mem_drop hx)⟩
  rw [List.length_drop] at hi
  have := hc.cell (1 + i) (by omega)
  rw [Nat.add_assoc, this, Nat.add_comm 1 i]
  simp [List.getD]
theorem in_smN (x : Nat) : (1 ≤ ((smN x : Nat) : Int) ∧ ((smN x : Nat) : Int) ≤ 64) ↔ (1 ≤ x ∧ x ≤ 64) := by
  unfold smN
  split <;> omega
end Go.Proofs.YtmggccepmicjhagGreatDoor
