/-
  Texts that stood one behind the other, as one.
-/
import Derived.Test.YtmggccepmicjhagGreatDoorDkAAll
import Derived.Test.YtmggccepmicjhagGreatDoorDkAAll
import Derived.Test.YtmggccepmicjhagGreatDoorRefPhasesAll
import Derived.Test.YtmggccepmicjhagGreatDoorFieldAll
import Derived.Test.YtmggccepmicjhagGreatDoorRows
import Derived.WalkKit
import Derived.WalkSpells
import Derived.WalkLawsBesides
import Derived.Test.YtmggccepmicjhagGreatDoorDkC1All
import Derived.Test.YtmggccepmicjhagGreatDoorPure
import Derived.Test.YtmggccepmicjhagGreatDoorRefGreatAll
import Derived.Deep.RegionWith
import Derived.Test.YtmggccepmicjhagGreatDoorRowUAll
import Derived.Test.YtmggccepmicjhagGreatDoorSlIAll
/-! How long the answers of the desk are; what a text is answered; no program in sight. -/
namespace Go.Proofs.YtmggccepmicjhagGreatDoor

theorem wrg_len (e : Int) (h0 : 0 ≤ e) (h1 : e ≤ 100) : (wrg e).length ≤ 100 := by
  unfold wrg
  have := Lib.itoa_length_le e (by omega) (by omega)
  simp
  omega
theorem fA_rng (a b : Nat) : fA a b < 18446744073709551616 := by have := fA_lt a b; omega
theorem fS_rng (a b : Nat) : fS a b < 18446744073709551616 := by have := fS_lt a b; omega
theorem fM_rng (a b : Nat) : fM a b < 18446744073709551616 := by have := fM_lt a b; omega
theorem fW_rng (a b : Nat) : fW a b < 18446744073709551616 := by have := fW_lt a b; omega
theorem say1_len (x : Nat) (h : x < 18446744073709551616) : (sayN [x]).length ≤ 100 := by
  have := sayN_le [x] (fun y hy => by simp at hy; subst hy; exact h)
  simp at this
  omega
theorem sayP_len (l : List Nat) (h : ∀ x ∈ l, x < P) (n : Nat) (hn : l.length ≤ n) : (sayN l).length ≤ 21 * n + 4 := by
  have := sayN_le l (fun x hx => by have := h x hx; unfold P at this; omega)
  omega
theorem pow_len {c : List Nat} (hc : Gt c) {k : Nat} (h : val c < 10 ^ k) : c.length ≤ k + 1 := by
  rcases Nat.lt_or_ge c.length 2 with q | q
  · omega
  · have h1 := val_ge hc q
    have h2 : 10 ^ (c.length - 1) < 10 ^ k := by omega
    have := (Nat.pow_lt_pow_iff_right (by decide)).mp h2
    omega
theorem dec_len {n k : Nat} (h : n < 10 ^ k) : (Lib.decDigits n).length ≤ k + 1 := by
  obtain ⟨c, h1, h2, h3⟩ := dec_tx n
  rw [h3, tx_length]
  exact pow_len h1 (by rw [h2]; exact h)
theorem val_dgs {s : List UInt8} (h : greE s = 0) : val (dgT s) < 10 ^ s.length ∧ s.length ≤ 2000 := by
  obtain ⟨h1, ds, h2⟩ := greE_zero h
  rw [Gs_dgs h2]
  have := dval_lt h2.1.1
  have hl : s.length = ds.length := by have := h2.size; rw [bs_size] at this; exact this
  rw [hl]
  exact ⟨this, by omega⟩
theorem greT_len (tim : Bool) {s t : List UInt8} (h1 : greE s = 0) (h2 : greE t = 0) : (greT tim s t).length ≤ 4002 := by
  obtain ⟨a1, a2⟩ := val_dgs h1
  obtain ⟨b1, b2⟩ := val_dgs h2
  unfold greT
  cases tim with
  | true =>
    rw [if_pos rfl]
    have h : val (dgT s) * val (dgT t) < 10 ^ (s.length + t.length) := by
      rw [Nat.pow_add]
      exact Nat.mul_lt_mul'' a1 b1
    have := dec_len h
    omega
  | false =>
    rw [if_neg (by decide)]
    have p1 : 10 ^ s.length ≤ 10 ^ (s.length + t.length) := Nat.pow_le_pow_right (by decide) (by omega)
    have p2 : 10 ^ t.length ≤ 10 ^ (s.length + t.length) := Nat.pow_le_pow_right (by decide) (by omega)
    have h : val (dgT s) + val (dgT t) < 10 ^ (s.length + t.length + 1) := by
      rw [Nat.pow_succ]
      omega
    have := dec_len h
    omega
theorem pM_rngP (a b : List Nat) : ∀ x ∈ pM a b, x < P := fun x hx => by
  unfold pM at hx
  split at hx
  · cases hx
  · exact mk_lt _ _ x hx
theorem bigV_len (tim : Bool) (W : List (List UInt8)) : (bigV tim W).length ≤ 1000000 := by
  unfold bigV
  split
  · split
    · have := greE_le (W.getD 0 [])
      have := wrg_len (greE (W.getD 0 [])) (by omega) (by omega)
      omega
    · next z0 =>
      split
      · have := greE_le (W.getD 1 [])
        have := wrg_len (greE (W.getD 1 [])) (by omega) (by omega)
        omega
      · next z1 =>
        have := greT_len tim (s := W.getD 0 []) (t := W.getD 1 []) (by simpa using z0) (by simpa using z1)
        omega
  · have := wrg_len 3 (by decide) (by decide)
    omega
theorem prdV_len (lin : Bool) (a b : List Nat) : (prdV lin a b).length ≤ 1000000 := by
  have w2 := wrg_len 2 (by decide) (by decide)
  have w5 := wrg_len 5 (by decide) (by decide)
  unfold prdV
  split
  · split
    · omega
    · next hL =>
      have hl := pM_length_le a b
      have h1 : ¬ 1024 < a.length := fun q => hL (.inl q)
      have h2 : ¬ 1024 < b.length := fun q => hL (.inr (.inl q))
      have := sayP_len (pM a b) (pM_rngP a b) 2048 (by omega)
      omega
  · split
    · next h =>
      obtain ⟨_, k, hk, hl⟩ := h
      have h1 : 2 ^ k ≤ 1024 := Nat.le_trans (Nat.pow_le_pow_right (by decide) hk) (by decide)
      have := sayP_len (mk a.length (rnd a b false)) (mk_lt _ _) 1024 (by rw [mk_length]; omega)
      omega
    · omega
theorem pairV_len (lin : Bool) (W : List (List UInt8)) : (pairV lin W).length ≤ 1000000 := by
  have w3 := wrg_len 3 (by decide) (by decide)
  unfold pairV
  split
  · omega
  · split
    · exact prdV_len _ _ _
    · omega
theorem plE_zero {ds : List Nat} {c : Nat} (h : plE ds c = 0) : GoodV ds ∧ prd2 ds ≤ 1024 ∧ 1 ≤ c ∧ Few ds c ds.length := by
  unfold plE at h
  split at h
  · next hG =>
    split at h
    · cases h
    · next h1 =>
      split at h
      · cases h
      · next h2 =>
        split at h
        · next hF => exact ⟨hG, by omega, by omega, hF⟩
        · cases h
  · cases h
theorem nln_le {ds : List Nat} (h : Shp ds) (x : Nat) (hx : x < ds.length) : nln ds x ≤ prd2 ds := by
  rw [← nln_div h x hx]
  exact Nat.div_le_self _ _
theorem plan_len {ds : List Nat} {c : Nat} (h : plE ds c = 0) : (ptx (plL ds c) (plL ds c).length).length ≤ 20000 := by
  obtain ⟨hG, hn, hc, hF⟩ := plE_zero h
  have eL : plL ds c = pls ds c ds.length := by unfold plL; rw [if_pos h]
  rw [eL]
  have hfine := pls_fine ds c hc
  have hl : (pls ds c ds.length).length = ds.length := hfine.1
  have hb : ∀ y, y < (pls ds c ds.length).length → ∀ i, i < ((pls ds c ds.length).getD y []).length → B3 (((pls ds c ds.length).getD y []).getD i []) := fun y hy i hi => by
    rw [hl] at hy
    have hv := (hfine.2 y hy).1 _ (show ((pls ds c ds.length).getD y []).getD i [] ∈ (pls ds c ds.length).getD y [] by
      generalize (pls ds c ds.length).getD y [] = T at hi ⊢
      rw [List.getD, List.getElem?_eq_getElem hi]
      exact List.getElem_mem hi)
    have hnl := nln_le (ds := ds) hG.2.2 y hy
    have h3 := hG.2.1
    obtain ⟨v1, v2, v3, v4⟩ := hv
    unfold B3
    omega
  have h1 := ptx_le _ hb (pls ds c ds.length).length (Nat.le_refl _)
  have h2 : ∀ i, i ≤ ds.length → tot (pls ds c ds.length) i ≤ 64 * i := fun i hi => by
    induction i with
    | zero => simp [tot]
    | succ i ih =>
      have := ih (by omega)
      unfold tot
      rw [pls_get ds c _ i (by omega)]
      have := hF i (by omega)
      omega
  have := h2 ds.length (Nat.le_refl _)
  have := hG.2.1
  rw [hl] at h1 ⊢
  omega
theorem ansV_len (verb : List UInt8) (n : List Nat) : (ansV verb n).length ≤ 1000000 := by
  have w1 := wrg_len 1 (by decide) (by decide)
  have w3 := wrg_len 3 (by decide) (by decide)
  have w4 := wrg_len 4 (by decide) (by decide)
  have w5 := wrg_len 5 (by decide) (by decide)
  have hp : ∀ (f : Nat → F), IsPw n.length → (sayN (mk n.length f)).length ≤ 1000000 := fun f hp => by
    obtain ⟨k, hk, hl⟩ := hp
    have h1 : 2 ^ k ≤ 1024 := Nat.le_trans (Nat.pow_le_pow_right (by decide) hk) (by decide)
    have := sayP_len (mk n.length f) (mk_lt _ _) 1024 (by rw [mk_length]; omega)
    omega
  have hq : (plnV n).length ≤ 1000000 := by
    unfold plnV
    split
    · next h =>
      have := plan_len h
      rw [List.length_append, List.length_cons, List.length_cons, List.length_nil]
      omega
    · have h2 : 0 ≤ plE (shpV n) (smN (n.getD 0 0)) ∧ plE (shpV n) (smN (n.getD 0 0)) ≤ 2 := by
        unfold plE
        split <;> (try split) <;> (try split) <;> (try split) <;> decide
      have := wrg_len _ h2.1 (by omega)
      omega
  unfold ansV
  split
  · have := say1_len _ (fA_rng (n.getD 0 0) (n.getD 1 0)); omega
  split
  · have := say1_len _ (fS_rng (n.getD 0 0) (n.getD 1 0)); omega
  split
  · have := say1_len _ (fM_rng (n.getD 0 0) (n.getD 1 0)); omega
  split
  · have := say1_len _ (fW_rng (n.getD 0 0) (n.getD 1 0)); omega
  split
  · split
    · omega
    · have := say1_len _ (fW_rng (n.getD 0 0) 18446744069414584319); omega
  split
  · split
    · omega
    · have : (sayN [rt (n.getD 0 0)]).length ≤ 100 := say1_len _ (fW_rng _ _)
      omega
  split
  · unfold nttV
    split
    · next h => exact hp _ h
    · omega
  split
  · unfold bckV
    split
    · next h => exact hp _ h
    · omega
  split
  · exact hq
  split
  · unfold shrV
    split
    · next h =>
      have := sayP_len (mk (n.getD 0 0) (symF (n.drop 1))) (mk_lt _ _) 64 (by rw [mk_length]; exact h.2.1.2)
      omega
    · omega
  · omega
theorem linV_len (verb : List UInt8) (W : List (List UInt8)) : (linV verb W).length ≤ 1000000 := by
  have w3 := wrg_len 3 (by decide) (by decide)
  unfold linV
  split
  · exact pairV_len _ _
  split
  · exact pairV_len _ _
  split
  · exact bigV_len _ _
  split
  · exact bigV_len _ _
  · unfold numV
    split
    · exact ansV_len _ _
    · omega
/-- What a line is answered: nothing, or its answer and a byte 10. -/
noncomputable def ansL (l : List UInt8) : List UInt8 := match wds l with
  | [] => []
  | v :: W => if v.headD 0 = 35 then [] else linV v W ++ [10]
/-- The answers of the first lines. -/
noncomputable def outK (L : List (List UInt8)) : Nat → List UInt8
  | 0 => []
  | i + 1 => outK L i ++ ansL (L.getD i [])
open Classical in
/-- What a text is answered. -/
noncomputable def dskV (s : List UInt8) : List UInt8 := if 65536 < s.length ∨ 200 < (tlns s).length then [101, 114, 114, 111, 114, 32, 50, 10] else outK (tlns s) (tlns s).length
theorem ansL_len (l : List UInt8) : (ansL l).length ≤ 1000001 := by
  unfold ansL
  split
  · simp
  · next v W _ =>
    split
    · simp
    · have := linV_len v W
      rw [List.length_append]
      simp
      omega
theorem outK_len (L : List (List UInt8)) (i : Nat) : (outK L i).length ≤ 1000001 * i := by
  induction i with
  | zero => simp [outK]
  | succ i ih =>
    have := ansL_len (L.getD i [])
    unfold outK
    rw [List.length_append]
    omega

end Go.Proofs.YtmggccepmicjhagGreatDoor

/-! What Sub of package goldref answers, for all numbers of 64 bits: the same number as that of package field. -/
namespace Go.Proofs.YtmggccepmicjhagGreatDoor
open Go.RowKit

theorem sub_add (a b : Nat) : fA a (18446744069414584321 - fN b) = fS a b := by
  rw [fA_eq, fS_eq, fN_eq]; rfl

end Go.Proofs.YtmggccepmicjhagGreatDoor

/-! What Inv of package goldref answers: the inverse by EUCLID's steps is the power below the last one. -/
namespace Go.Proofs.YtmggccepmicjhagGreatDoor
open Go.RowKit

theorem cancel {A B C D : Nat} (h1 : (A + B) % P = (C + D) % P) (h2 : B % P = D % P) : A % P = C % P := by
  unfold P at *; omega
theorem fS_add (x y : Nat) : (fS x y + y) % P = x % P := by
  rw [fS_eq]; unfold P; omega

theorem euclid_step (a r n x t : Nat) (hx : x * a % P = r % P) (ht : t * a % P = n % P) : fS x (fM (r / n) t) * a % P = (r % n) % P := by
  have h1 : (fS x (fM (r / n) t) * a + fM (r / n) t * a) % P = (r % n + r / n * n) % P := by
    rw [← Nat.add_mul, Nat.mul_mod, fS_add, ← Nat.mul_mod, hx, Nat.mod_add_div']
  refine cancel h1 ?_
  rw [fM_eq, Nat.mod_mul_mod, Nat.mul_assoc, Nat.mul_mod, ht, ← Nat.mul_mod]

theorem gcd_step {r n : Nat} (h : Nat.gcd r n = 1) : Nat.gcd n (r % n) = 1 := by
  rw [Nat.gcd_comm, ← Nat.gcd_rec, Nat.gcd_comm]; exact h

end Go.Proofs.YtmggccepmicjhagGreatDoor

/-! What Log of package goldref answers: of 2^k, k from 0 to 10, k; of other numbers -1. -/
namespace Go.Proofs.YtmggccepmicjhagGreatDoor
open Go.RowKit

theorem two_pow_bound (j : Nat) (hj : j ≤ 10) : ((2 : Int) ^ j) = ((2 ^ j : Nat) : Int) ∧ 2 ^ j ≤ 1024 := by
  refine ⟨by rw [Int.natCast_pow]; rfl, ?_⟩
  exact Nat.le_trans (Nat.pow_le_pow_right (by decide) hj) (by decide)


end Go.Proofs.YtmggccepmicjhagGreatDoor

/-! What Forward and Inverse of package goldref answer, of a list of 2^k numbers, k from 0 to 10: the transform, sum by sum; that by the inverse root, by how many there are. -/
namespace Go.Proofs.YtmggccepmicjhagGreatDoor
open Go.RowKit

theorem pE_fw (xs : List Nat) (k j : Nat) (h : xs.length = 2 ^ k) : pE xs (pwK (rt k) j) = (fw xs k j).val := by
  unfold pE pwK fw
  rw [toF_val, dft_cf _ xs k j h]
theorem pE_bw (xs : List Nat) (k j : Nat) (h : xs.length = 2 ^ k) : fM (fW (2 ^ k) 18446744069414584319) (pE xs (pwK (fW (rt k) 18446744069414584319) j)) = (bw xs k j).val := by
  rw [fM_val, toF_inv, toF_pE]
  unfold pwK bw
  rw [toF_val, toF_inv, dft_cf _ xs k j h]

end Go.Proofs.YtmggccepmicjhagGreatDoor

/-! What answer of package goldref answers, verb by verb. -/
namespace Go.Proofs.YtmggccepmicjhagGreatDoor
open Go.RowKit

theorem two_cells {w : World} {v : Value} {n : List Nat} (h : IsU w v n) (h2 : n.length = 2) : ∃ b off cap, v = .slice (some ⟨b, off, none⟩) 2 cap ∧ w.cell? ⟨b, off, none⟩ = some (.int .u64 ((n.getD 0 0 : Nat) : Int)) ∧ w.cell? ⟨b, off + 1, none⟩ = some (.int .u64 ((n.getD 1 0 : Nat) : Int)) := by
  obtain ⟨b, off, cap, e⟩ := h.placeN h2 (by decide)
  subst e
  exact ⟨b, off, cap, rfl, h.cell 0 (by omega), h.cell 1 (by omega)⟩
theorem one_cell {w : World} {v : Value} {n : List Nat} (h : IsU w v n) (h2 : 0 < n.length) : ∃ b off cap, v = .slice (some ⟨b, off, none⟩) n.length cap ∧ w.cell? ⟨b, off, none⟩ = some (.int .u64 ((n.getD 0 0 : Nat) : Int)) := by
  obtain ⟨b, off, cap, e⟩ := h.place h2
  subst e
  exact ⟨b, off, cap, rfl, h.cell 0 h2⟩
theorem bs_list (l : List UInt8) : (bs l).toList = l := by rw [ByteArray.toList_eq]; rfl
end Go.Proofs.YtmggccepmicjhagGreatDoor

/-! What Shape of package goldref answers, case by case. -/
namespace Go.Proofs.YtmggccepmicjhagGreatDoor
open Go.RowKit

theorem Good_same {zs : List Int} {ds ds' : List Nat} (h : Good zs ds) (h' : Good zs ds') : ds' = ds := by
  have e : ds.map (fun (d : Nat) => (d : Int)) = ds'.map (fun (d : Nat) => (d : Int)) := h.2.2.1.symm.trans h'.2.2.1
  exact (List.map_inj_right (fun a b hab => by omega)).mp e.symm
end Go.Proofs.YtmggccepmicjhagGreatDoor

/-! What answer of package goldref answers to plan and share. -/
namespace Go.Proofs.YtmggccepmicjhagGreatDoor
open Go.RowKit

theorem IsI.z {w : World} {v : Value} {ds : List Nat} (h : IsI w v ds) (hr : ∀ d ∈ ds, d ≤ 9223372036854775807) : IsZ w v (ds.map fun (d : Nat) => (d : Int)) := by
  obtain ⟨a, cap, rfl, h1, h2, hc⟩ := h
  refine ⟨a, cap, by rw [List.length_map], by rw [List.length_map]; exact h1, h2, fun i hi => ?_, fun z hz => ?_⟩
  · rw [List.length_map] at hi
    obtain ⟨b, off, e, c⟩ := hc i hi
    refine ⟨b, off, e, ?_⟩
    rw [c]
    simp [List.getD, hi]
  · obtain ⟨d, hd, rfl⟩ := List.mem_map.mp hz
    have := hr d hd
    omega
theorem goodV_iff {ds : List Nat} : GoodV ds ↔ Good (ds.map fun (d : Nat) => (d : Int)) ds := by
  unfold GoodV Good
  rw [List.length_map]
  constructor
  · rintro ⟨h1, h2, h3⟩
    exact ⟨h1, h2, rfl, h3⟩
  · rintro ⟨h1, h2, _, h3⟩
    exact ⟨h1, h2, h3⟩
theorem plE_le (ds : List Nat) (c : Nat) : 0 ≤ plE ds c ∧ plE ds c ≤ 2 := by
  unfold plE
  split <;> (try split) <;> (try split) <;> (try split) <;> decide
theorem plL_small (ds : List Nat) (c : Nat) : (plL ds c).length ≤ 3 ∧ ∀ y, ((plL ds c).getD y []).length ≤ 64 := by
  unfold plL
  split
  · next h =>
    have hG : GoodV ds ∧ Few ds c ds.length := by
      unfold plE at h
      split at h
      · next hG =>
        split at h
        · cases h
        · split at h
          · cases h
          · split at h
            · next hF => exact ⟨hG, hF⟩
            · cases h
      · cases h
    have hl : (pls ds c ds.length).length = ds.length := by simp [pls]
    refine ⟨by rw [hl]; exact hG.1.2.1, fun y => ?_⟩
    rcases Nat.lt_or_ge y ds.length with q | q
    · have e : (pls ds c ds.length).getD y [] = chn y c (nln ds y) := by simp [pls, List.getD, q]
      rw [e]
      exact hG.2 y q
    · rw [List.getD, List.getElem?_eq_none (by rw [hl]; exact q)]
      decide
  · exact ⟨by decide, fun y => by simp⟩
theorem tot_small {L : List (List (List Int))} (h : ∀ y, (L.getD y []).length ≤ 64) (i : Nat) : tot L i ≤ 64 * i := by
  induction i with
  | zero => simp [tot]
  | succ i ih =>
    unfold tot
    have := h i
    omega
/-- The shape under way. -/
def shK (n : List Nat) (i : Nat) : List Nat := ((n.drop 1).take (i - 1)).map smN
theorem shK_succ (n : List Nat) (i : Nat) (h1 : 1 ≤ i) (h : i < n.length) : shK n (i + 1) = shK n i ++ [smN (n.getD i 0)] := by
  obtain ⟨j, rfl⟩ : ∃ j, i = j + 1 := ⟨i - 1, by omega⟩
  unfold shK
  have hj : j < (n.drop 1).length := by rw [List.length_drop]; omega
  rw [Nat.add_sub_cancel, Nat.add_sub_cancel, List.take_succ_eq_append_getElem hj, List.map_append]
  have e : (n.drop 1)[j]'hj = n.getD (j + 1) 0 := by
    rw [List.getElem_drop]
    simp [List.getD, show 1 + j = j + 1 by omega, h]
  rw [e]
  rfl
theorem shK_end (n : List Nat) : shK n n.length = shpV n := by
  unfold shK shpV
  rw [List.take_of_length_le (by rw [List.length_drop]; omega)]
theorem shK_length (n : List Nat) (i : Nat) : (shK n i).length ≤ n.length := by
  unfold shK
  rw [List.length_map, List.length_take, List.length_drop]
  omega
theorem shpV_le (n : List Nat) : ∀ d ∈ shpV n, d ≤ 9223372036854775807 := fun d hd => by
  obtain ⟨x, _, rfl⟩ := List.mem_map.mp hd
  have := smN_le x
  omega
/-- A row of ints of the call's own. -/
def OwI (B : Nat) (w : World) (v : Value) (L : List Nat) : Prop := w.ownsRow B 3 1 v L.length (cellsI L)
theorem OwI.below {B : Nat} {w w' : World} {v : Value} {L : List Nat} (h : OwI B w v L) (hb : Below w.heap.size w w') : OwI B w' v L := owns_below h hb
theorem wp_appOI {ops : Array Oper} {rest : List Oper} {o : Oper} {a : Act} {Q : Exit → Act → World → Prop} {w w0 : World} (hgd : o.guard = none) (s x : Operand)
    (ho : o.op = .call { callee := .builtin .append, args := #[s, x], argTypes := #[97, 97] }) (v : Value) (L : List Nat) (z : Nat)
    (hs : a.eval s = v) (hown : OwI w0.heap.size w v L) (hx : a.eval x = .slice (some ⟨w.heap.size, 0, none⟩) 1 1)
    (hn : L.length ≤ 1000000000) (hnx : Below w0.heap.size w0 w)
    (h : ∀ v' w', OwI w0.heap.size w' v' (L ++ [z]) → Below w0.heap.size w0 w' → wpList Tryz.prog ops Q rest (a.put o.dst v') w') :
    wpList Tryz.prog ops Q (o :: rest) a (w.alloc (.cells #[.int .i64 (z : Int)] 3)) := by
  refine wp_appendI (w0 := w0) hgd s x ho v L.length (cellsI L) z hs hown hx hn hnx fun v' w' h1 h2 => h v' w' ?_ h2
  unfold OwI
  rw [List.length_append, cellsI_append]
  exact h1
end Go.Proofs.YtmggccepmicjhagGreatDoor
