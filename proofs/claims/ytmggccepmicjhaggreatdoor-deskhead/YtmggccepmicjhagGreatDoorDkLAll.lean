/-
  Texts that stood one behind the other, as one.
-/
import Derived.Test.YtmggccepmicjhagGreatDoorRefAll
import Derived.Test.YtmggccepmicjhagGreatDoorRefAll
import Derived.Test.YtmggccepmicjhagGreatDoorBigL
import Derived.Lib.ItoaLen
import Derived.Test.YtmggccepmicjhagGreatDoorRefPhasesAll
/-! What a line of the desk is answered, by its verb and the words behind it; no program in sight. -/
namespace Go.Proofs.YtmggccepmicjhagGreatDoor

/-- cyclic (false), linear (true). -/
def LrgV (a b : List Nat) : Prop := 1024 < a.length ∨ 1024 < b.length ∨ (0 < a.length ∧ 0 < b.length ∧ 1025 < a.length + b.length)
open Classical in
noncomputable def prdV (lin : Bool) (a b : List Nat) : List UInt8 :=
  if lin = true then (if LrgV a b then wrg 2 else sayN (pM a b)) else (if a.length = b.length ∧ IsPw a.length then sayN (mk a.length (rnd a b false)) else wrg 5)
noncomputable def pairV (lin : Bool) (W : List (List UInt8)) : List UInt8 :=
  match ixO W [47] with
  | none => wrg 3
  | some k => if numsB (W.take k) = true ∧ numsB (W.drop (k + 1)) = true then prdV lin (numsL (W.take k)) (numsL (W.drop (k + 1))) else wrg 3
/-- The error of a great number's text; sum (false), times (true). -/
def dgT (s : List UInt8) : List Nat := s.map fun b => b.toNat - 48
open Classical in
noncomputable def greE (s : List UInt8) : Int := if 2000 < s.length then 2 else if ∃ ds, Gs (bs s) ds then 0 else 3
def greT (tim : Bool) (s t : List UInt8) : List UInt8 := Lib.decDigits (if tim = true then val (dgT s) * val (dgT t) else val (dgT s) + val (dgT t))
noncomputable def bigV (tim : Bool) (W : List (List UInt8)) : List UInt8 :=
  if W.length = 2 then (if greE (W.getD 0 []) ≠ 0 then wrg (greE (W.getD 0 [])) else if greE (W.getD 1 []) ≠ 0 then wrg (greE (W.getD 1 [])) else greT tim (W.getD 0 []) (W.getD 1 [])) else wrg 3
theorem Gs_dgs {s : List UInt8} {ds : List Nat} (h : Gs (bs s) ds) : dgT s = ds := by
  have hsz : s.length = ds.length := by have := h.size; rw [bs_size] at this; exact this
  apply List.ext_getElem
  · simp [dgT, hsz]
  · intro i h1 h2
    have h3 : i < (bs s).size := by rw [bs_size, hsz]; exact h2
    have hb := h.byte i h2 h3
    have hb2 : ((bs s)[i]'h3).toNat = (s[i]'(by omega)).toNat := bs_get s i h3 (by omega)
    rw [hb2] at hb
    simp only [dgT, List.getElem_map]
    rw [hb]
    simp [List.getD, h2]
theorem greE_ok {s : List UInt8} {ds : List Nat} (h : Gs (bs s) ds) (h9 : s.length ≤ 2000) : greE s = 0 := by
  unfold greE
  rw [if_neg (by omega), if_pos ⟨ds, h⟩]
theorem greE_large {s : List UInt8} (h : 2000 < s.length) : greE s = 2 := by unfold greE; rw [if_pos h]
theorem greE_bad {s : List UInt8} (h9 : s.length ≤ 2000) (h : ∀ ds, ¬ Gs (bs s) ds) : greE s = 3 := by
  unfold greE
  rw [if_neg (by omega), if_neg (fun ⟨ds, q⟩ => h ds q)]
theorem greE_zero {s : List UInt8} (h : greE s = 0) : s.length ≤ 2000 ∧ ∃ ds, Gs (bs s) ds := by
  unfold greE at h
  split at h
  · cases h
  · split at h
    · next h1 h2 => exact ⟨by omega, h2⟩
    · cases h
theorem greE_le (s : List UInt8) : 0 ≤ greE s ∧ greE s ≤ 3 := by
  unfold greE
  split <;> (try split) <;> decide
theorem dec_of {c : List Nat} (h : Gt c) : Lib.decDigits (val c) = tx c := by
  obtain ⟨d, h1, h2, h3⟩ := dec_tx (val c)
  rw [h3, h1.one h h2]
/-- How many numbers a verb asks: so many; 0: one at least; -1: any. -/
def cntV (verb : List UInt8) : Int :=
  if verb = [112, 108, 97, 110] ∨ verb = [115, 104, 97, 114, 101] then 0
  else if verb = [105, 110, 118] ∨ verb = [114, 111, 111, 116] then 1
  else if verb = [97, 100, 100] ∨ verb = [115, 117, 98] ∨ verb = [109, 117, 108] ∨ verb = [112, 111, 119] then 2
  else -1
def CntK (verb : List UInt8) (m : Nat) : Prop := (cntV verb = 0 → 0 < m) ∧ (0 < cntV verb → (m : Int) = cntV verb)
open Classical in
noncomputable def numV (verb : List UInt8) (W : List (List UInt8)) : List UInt8 := if numsB W = true ∧ CntK verb W.length then ansV verb (numsL W) else wrg 3
noncomputable def linV (verb : List UInt8) (W : List (List UInt8)) : List UInt8 :=
  if verb = [99, 121, 99, 108, 105, 99] then pairV false W
  else if verb = [108, 105, 110, 101, 97, 114] then pairV true W
  else if verb = [115, 117, 109] then bigV false W
  else if verb = [116, 105, 109, 101, 115] then bigV true W
  else numV verb W
theorem linV_cyclic (W : List (List UInt8)) : linV [99, 121, 99, 108, 105, 99] W = pairV false W := by unfold linV; rw [if_pos rfl]
theorem linV_linear (W : List (List UInt8)) : linV [108, 105, 110, 101, 97, 114] W = pairV true W := by unfold linV; rw [if_neg (by decide), if_pos rfl]
theorem linV_sum (W : List (List UInt8)) : linV [115, 117, 109] W = bigV false W := by unfold linV; rw [if_neg (by decide), if_neg (by decide), if_pos rfl]
theorem linV_times (W : List (List UInt8)) : linV [116, 105, 109, 101, 115] W = bigV true W := by unfold linV; rw [if_neg (by decide), if_neg (by decide), if_neg (by decide), if_pos rfl]
def NoL (verb : List UInt8) : Prop := verb ≠ [99, 121, 99, 108, 105, 99] ∧ verb ≠ [108, 105, 110, 101, 97, 114] ∧ verb ≠ [115, 117, 109] ∧ verb ≠ [116, 105, 109, 101, 115]
theorem linV_num {verb : List UInt8} (h : NoL verb) (W : List (List UInt8)) : linV verb W = numV verb W := by
  obtain ⟨h1, h2, h3, h4⟩ := h
  unfold linV
  rw [if_neg h1, if_neg h2, if_neg h3, if_neg h4]
/-- goldref's kind of a verb, and where it stands among three. -/
def kdV (verb : List UInt8) : List UInt8 :=
  if verb = [112, 108, 97, 110] ∨ verb = [115, 104, 97, 114, 101] then [112, 108, 97, 110, 32, 115, 104, 97, 114, 101]
  else if verb = [105, 110, 118] ∨ verb = [114, 111, 111, 116] then [105, 110, 118, 32, 114, 111, 111, 116]
  else if verb = [97, 100, 100] ∨ verb = [115, 117, 98] ∨ verb = [109, 117, 108] ∨ verb = [112, 111, 119] then [97, 100, 100, 32, 115, 117, 98, 32, 109, 117, 108, 32, 112, 111, 119]
  else verb
def kds : List (List UInt8) := [[112, 108, 97, 110, 32, 115, 104, 97, 114, 101], [105, 110, 118, 32, 114, 111, 111, 116], [97, 100, 100, 32, 115, 117, 98, 32, 109, 117, 108, 32, 112, 111, 119]]
theorem ixV_kd {verb : List UInt8} (h : (32 : UInt8) ∉ verb) : ixV kds (kdV verb) = cntV verb := by
  unfold kdV cntV
  split
  · decide
  · split
    · decide
    · split
      · decide
      · have e : ixO kds verb = none := ixO_none (fun j hj q => h (by
          rw [← q]
          match j, hj with
          | 0, _ => decide
          | 1, _ => decide
          | 2, _ => decide))
        unfold ixV
        rw [e]

end Go.Proofs.YtmggccepmicjhagGreatDoor

/-! How long the text of phases is at the most: so many bytes a task. -/
namespace Go.Proofs.YtmggccepmicjhagGreatDoor
open Go.RowKit
set_option maxRecDepth 100000

def tot (L : List (List (List Int))) : Nat → Nat
  | 0 => 0
  | i + 1 => tot L i + (L.getD i []).length
theorem tot_le (L : List (List (List Int))) (i j : Nat) (h : i ≤ j) : tot L i ≤ tot L j := by
  induction j with
  | zero => rw [show i = 0 by omega]; exact Nat.le_refl _
  | succ j ih =>
    rcases Nat.lt_or_ge i (j + 1) with q | q
    · have := ih (by omega); rw [tot]; omega
    · rw [show i = j + 1 by omega]; exact Nat.le_refl _
def B3 (r : List Int) : Prop := (-9223372036854775808 ≤ r.getD 0 0 ∧ r.getD 0 0 ≤ 9223372036854775807) ∧ (-9223372036854775808 ≤ r.getD 1 0 ∧ r.getD 1 0 ≤ 9223372036854775807) ∧ (-9223372036854775808 ≤ r.getD 2 0 ∧ r.getD 2 0 ≤ 9223372036854775807)
theorem tkx_le (r : List Int) (h : B3 r) : (tkx r).length ≤ 65 := by
  have h0 := Lib.itoa_length_le (r.getD 0 0) h.1.1 h.1.2
  have h1 := Lib.itoa_length_le (r.getD 1 0) h.2.1.1 h.2.1.2
  have h2 := Lib.itoa_length_le (r.getD 2 0) h.2.2.1 h.2.2.2
  unfold tkx
  simp only [List.length_append, List.length_cons, List.length_nil]
  omega
theorem lnx_le (T : List (List Int)) (h : ∀ i, i < T.length → B3 (T.getD i [])) (k : Nat) (hk : k ≤ T.length) : (lnx T k).length ≤ 66 * k := by
  induction k with
  | zero => simp [lnx]
  | succ k ih =>
    have h1 := ih (by omega)
    have h2 := tkx_le _ (h k (by omega))
    rw [lnx, List.length_append]
    split
    · rw [List.length_append]; simp only [List.length_cons, List.length_nil]; omega
    · omega
theorem ptx_le (L : List (List (List Int))) (h : ∀ y, y < L.length → ∀ i, i < (L.getD y []).length → B3 ((L.getD y []).getD i [])) (i : Nat) (hi : i ≤ L.length) : (ptx L i).length ≤ 66 * tot L i + i := by
  induction i with
  | zero => simp [ptx]
  | succ i ih =>
    have h1 := ih (by omega)
    have h2 := lnx_le _ (h i (by omega)) _ (Nat.le_refl _)
    rw [ptx, tot, List.length_append, List.length_append]
    simp only [List.length_cons, List.length_nil]
    omega
theorem IsP.b3 {w : World} {v : Value} {L : List (List (List Int))} (h : IsP 3 w v L) : ∀ y, y < L.length → ∀ i, i < (L.getD y []).length → B3 ((L.getD y []).getD i []) := by
  intro y hy i hi
  obtain ⟨_, _, _, _, _, hph⟩ := h
  obtain ⟨_, _, _, _, _, hR⟩ := hph y hy
  obtain ⟨a, b, c, e, ha, hb, hc⟩ := row3 hR i hi
  rw [e]
  exact ⟨ha, hb, hc⟩
theorem text_size {w : World} {v : Value} {L : List (List (List Int))} (h : IsP 3 w v L) (hn : L.length + tot L L.length ≤ 1048576) : ∀ i k, i < L.length → k ≤ (L.getD i []).length → (ptx L i ++ lnx (L.getD i []) k).length ≤ 1099511627776 := by
  intro i k hi hk
  have h1 := ptx_le L h.b3 i (by omega)
  have h2 := lnx_le _ (h.b3 i hi) k hk
  have h3 := tot_le L (i + 1) L.length (by omega)
  rw [tot] at h3
  rw [List.length_append]
  omega

end Go.Proofs.YtmggccepmicjhagGreatDoor

/-! How long the answers of the desk are; what a text is answered; no program in sight. -/
namespace Go.Proofs.YtmggccepmicjhagGreatDoor

theorem wrg_len (e : Int) (h0 : 0 ≤ e) (h1 : e ≤ 100) : (wrg e).length ≤ 100 := by
  unfold wrg
  have := Lib.itoa_length_le e (by omega) (by omega)
  simp
  omega
theorem fA_rng (a b : Nat) : fA a b < 18446744073709551616 := by have := fA_lt a b; omega
theorem fS_rng (a b : Nat) : fS a b < 18446744073709551616 := by have := fS_lt a b; omega
theorem fM_rng (a b : Nat) : fM a b < 18446744073709551616 := by have := fM_lt a b; omega
theorem fW_rng (a b : Nat) : fW a b < 18446744073709551616 := by have := fW_lt a b; omega
theorem say1_len (x : Nat) (h : x < 18446744073709551616) : (sayN [x]).length ≤ 100 := by
  have := sayN_le [x] (fun y hy => by simp at hy; subst hy; exact h)
  simp at this
  omega
theorem sayP_len (l : List Nat) (h : ∀ x ∈ l, x < P) (n : Nat) (hn : l.length ≤ n) : (sayN l).length ≤ 21 * n + 4 := by
  have := sayN_le l (fun x hx => by have := h x hx; unfold P at this; omega)
  omega
theorem pow_len {c : List Nat} (hc : Gt c) {k : Nat} (h : val c < 10 ^ k) : c.length ≤ k + 1 := by
  rcases Nat.lt_or_ge c.length 2 with q | q
  · omega
  · have h1 := val_ge hc q
    have h2 : 10 ^ (c.length - 1) < 10 ^ k := by omega
    have := (Nat.pow_lt_pow_iff_right (by decide)).mp h2
    omega
theorem dec_len {n k : Nat} (h : n < 10 ^ k) : (Lib.decDigits n).length ≤ k + 1 := by
  obtain ⟨c, h1, h2, h3⟩ := dec_tx n
  rw [h3, tx_length]
  exact pow_len h1 (by rw [h2]; exact h)
theorem val_dgs {s : List UInt8} (h : greE s = 0) : val (dgT s) < 10 ^ s.length ∧ s.length ≤ 2000 := by
  obtain ⟨h1, ds, h2⟩ := greE_zero h
  rw [Gs_dgs h2]
  have := dval_lt h2.1.1
  have hl : s.length = ds.length := by have := h2.size; rw [bs_size] at this; exact this
  rw [hl]
  exact ⟨this, by omega⟩
theorem greT_len (tim : Bool) {s t : List UInt8} (h1 : greE s = 0) (h2 : greE t = 0) : (greT tim s t).length ≤ 4002 := by
  obtain ⟨a1, a2⟩ := val_dgs h1
  obtain ⟨b1, b2⟩ := val_dgs h2
  unfold greT
  cases tim with
  | true =>
    rw [if_pos rfl]
    have h : val (dgT s) * val (dgT t) < 10 ^ (s.length + t.length) := by
      rw [Nat.pow_add]
      exact Nat.mul_lt_mul'' a1 b1
    have := dec_len h
    omega
  | false =>
    rw [if_neg (by decide)]
    have p1 : 10 ^ s.length ≤ 10 ^ (s.length + t.length) := Nat.pow_le_pow_right (by decide) (by omega)
    have p2 : 10 ^ t.length ≤ 10 ^ (s.length + t.length) := Nat.pow_le_pow_right (by decide) (by omega)
    have h : val (dgT s) + val (dgT t) < 10 ^ (s.length + t.length + 1) := by
      rw [Nat.pow_succ]
      omega
    have := dec_len h
    omega
theorem pM_rngP (a b : List Nat) : ∀ x ∈ pM a b, x < P := fun x hx => by
  unfold pM at hx
  split at hx
  · cases hx
  · exact mk_lt _ _ x hx
theorem bigV_len (tim : Bool) (W : List (List UInt8)) : (bigV tim W).length ≤ 1000000 := by
  unfold bigV
  split
  · split
    · have := greE_le (W.getD 0 [])
      have := wrg_len (greE (W.getD 0 [])) (by omega) (by omega)
      omega
    · next z0 =>
      split
      · have := greE_le (W.getD 1 [])
        have := wrg_len (greE (W.getD 1 [])) (by omega) (by omega)
        omega
      · next z1 =>
        have := greT_len tim (s := W.getD 0 []) (t := W.getD 1 []) (by simpa using z0) (by simpa using z1)
        omega
  · have := wrg_len 3 (by decide) (by decide)
    omega
theorem prdV_len (lin : Bool) (a b : List Nat) : (prdV lin a b).length ≤ 1000000 := by
  have w2 := wrg_len 2 (by decide) (by decide)
  have w5 := wrg_len 5 (by decide) (by decide)
  unfold prdV
  split
  · split
    · omega
    · next hL =>
      have hl := pM_length_le a b
      have h1 : ¬ 1024 < a.length := fun q => hL (.inl q)
      have h2 : ¬ 1024 < b.length := fun q => hL (.inr (.inl q))
      have := sayP_len (pM a b) (pM_rngP a b) 2048 (by omega)
      omega
  · split
    · next h =>
      obtain ⟨_, k, hk, hl⟩ := h
      have h1 : 2 ^ k ≤ 1024 := Nat.le_trans (Nat.pow_le_pow_right (by decide) hk) (by decide)
      have := sayP_len (mk a.length (rnd a b false)) (mk_lt _ _) 1024 (by rw [mk_length]; omega)
      omega
    · omega
theorem pairV_len (lin : Bool) (W : List (List UInt8)) : (pairV lin W).length ≤ 1000000 := by
  have w3 := wrg_len 3 (by decide) (by decide)
  unfold pairV
  split
  · omega
  · split
    · exact prdV_len _ _ _
    · omega
theorem plE_zero {ds : List Nat} {c : Nat} (h : plE ds c = 0) : GoodV ds ∧ prd2 ds ≤ 1024 ∧ 1 ≤ c ∧ Few ds c ds.length := by
  unfold plE at h
  split at h
  · next hG =>
    split at h
    · cases h
    · next h1 =>
      split at h
      · cases h
      · next h2 =>
        split at h
        · next hF => exact ⟨hG, by omega, by omega, hF⟩
        · cases h
  · cases h
theorem nln_le {ds : List Nat} (h : Shp ds) (x : Nat) (hx : x < ds.length) : nln ds x ≤ prd2 ds := by
  rw [← nln_div h x hx]
  exact Nat.div_le_self _ _
theorem plan_len {ds : List Nat} {c : Nat} (h : plE ds c = 0) : (ptx (plL ds c) (plL ds c).length).length ≤ 20000 := by
  obtain ⟨hG, hn, hc, hF⟩ := plE_zero h
  have eL : plL ds c = pls ds c ds.length := by unfold plL; rw [if_pos h]
  rw [eL]
  have hfine := pls_fine ds c hc
  have hl : (pls ds c ds.length).length = ds.length := hfine.1
  have hb : ∀ y, y < (pls ds c ds.length).length → ∀ i, i < ((pls ds c ds.length).getD y []).length → B3 (((pls ds c ds.length).getD y []).getD i []) := fun y hy i hi => by
    rw [hl] at hy
    have hv := (hfine.2 y hy).1 _ (show ((pls ds c ds.length).getD y []).getD i [] ∈ (pls ds c ds.length).getD y [] by
      generalize (pls ds c ds.length).getD y [] = T at hi ⊢
      rw [List.getD, List.getElem?_eq_getElem hi]
      exact List.getElem_mem hi)
    have hnl := nln_le (ds := ds) hG.2.2 y hy
    have h3 := hG.2.1
    obtain ⟨v1, v2, v3, v4⟩ := hv
    unfold B3
    omega
  have h1 := ptx_le _ hb (pls ds c ds.length).length (Nat.le_refl _)
  have h2 : ∀ i, i ≤ ds.length → tot (pls ds c ds.length) i ≤ 64 * i := fun i hi => by
    induction i with
    | zero => simp [tot]
    | succ i ih =>
      have := ih (by omega)
      unfold tot
      rw [pls_get ds c _ i (by omega)]
      have := hF i (by omega)
      omega
  have := h2 ds.length (Nat.le_refl _)
  have := hG.2.1
  rw [hl] at h1 ⊢
  omega
theorem ansV_len (verb : List UInt8) (n : List Nat) : (ansV verb n).length ≤ 1000000 := by
  have w1 := wrg_len 1 (by decide) (by decide)
  have w3 := wrg_len 3 (by decide) (by decide)
  have w4 := wrg_len 4 (by decide) (by decide)
  have w5 := wrg_len 5 (by decide) (by decide)
  have hp : ∀ (f : Nat → F), IsPw n.length → (sayN (mk n.length f)).length ≤ 1000000 := fun f hp => by
    obtain ⟨k, hk, hl⟩ := hp
    have h1 : 2 ^ k ≤ 1024 := Nat.le_trans (Nat.pow_le_pow_right (by decide) hk) (by decide)
    have := sayP_len (mk n.length f) (mk_lt _ _) 1024 (by rw [mk_length]; omega)
    omega
  have hq : (plnV n).length ≤ 1000000 := by
    unfold plnV
    split
    · next h =>
      have := plan_len h
      rw [List.length_append, List.length_cons, List.length_cons, List.length_nil]
      omega
    · have h2 : 0 ≤ plE (shpV n) (smN (n.getD 0 0)) ∧ plE (shpV n) (smN (n.getD 0 0)) ≤ 2 := by
        unfold plE
        split <;> (try split) <;> (try split) <;> (try split) <;> decide
      have := wrg_len _ h2.1 (by omega)
      omega
  unfold ansV
  split
  · have := say1_len _ (fA_rng (n.getD 0 0) (n.getD 1 0)); omega
  split
  · have := say1_len _ (fS_rng (n.getD 0 0) (n.getD 1 0)); omega
  split
  · have := say1_len _ (fM_rng (n.getD 0 0) (n.getD 1 0)); omega
  split
  · have := say1_len _ (fW_rng (n.getD 0 0) (n.getD 1 0)); omega
  split
  · split
    · omega
    · have := say1_len _ (fW_rng (n.getD 0 0) 18446744069414584319); omega
  split
  · split
    · omega
    · have : (sayN [rt (n.getD 0 0)]).length ≤ 100 := say1_len _ (fW_rng _ _)
      omega
  split
  · unfold nttV
    split
    · next h => exact hp _ h
    · omega
  split
  · unfold bckV
    split
    · next h => exact hp _ h
    · omega
  split
  · exact hq
  split
  · unfold shrV
    split
    · next h =>
      have := sayP_len (mk (n.getD 0 0) (symF (n.drop 1))) (mk_lt _ _) 64 (by rw [mk_length]; exact h.2.1.2)
      omega
    · omega
  · omega
theorem linV_len (verb : List UInt8) (W : List (List UInt8)) : (linV verb W).length ≤ 1000000 := by
  have w3 := wrg_len 3 (by decide) (by decide)
  unfold linV
  split
  · exact pairV_len _ _
  split
  · exact pairV_len _ _
  split
  · exact bigV_len _ _
  split
  · exact bigV_len _ _
  · unfold numV
    split
    · exact ansV_len _ _
    · omega
/-- What a line is answered: nothing, or its answer and a byte 10. -/
noncomputable def ansL (l : List UInt8) : List UInt8 := match wds l with
  | [] => []
  | v :: W => if v.headD 0 = 35 then [] else linV v W ++ [10]
/-- The answers of the first lines. -/
noncomputable def outK (L : List (List UInt8)) : Nat → List UInt8
  | 0 => []
  | i + 1 => outK L i ++ ansL (L.getD i [])
open Classical in
/-- What a text is answered. -/
noncomputable def dskV (s : List UInt8) : List UInt8 := if 65536 < s.length ∨ 200 < (tlns s).length then [101, 114, 114, 111, 114, 32, 50, 10] else outK (tlns s) (tlns s).length
theorem ansL_len (l : List UInt8) : (ansL l).length ≤ 1000001 := by
  unfold ansL
  split
  · simp
  · next v W _ =>
    split
    · simp
    · have := linV_len v W
      rw [List.length_append]
      simp
      omega
theorem outK_len (L : List (List UInt8)) (i : Nat) : (outK L i).length ≤ 1000001 * i := by
  induction i with
  | zero => simp [outK]
  | succ i ih =>
    have := ansL_len (L.getD i [])
    unfold outK
    rw [List.length_append]
    omega

end Go.Proofs.YtmggccepmicjhagGreatDoor

/-! What Sub of package goldref answers, for all numbers of 64 bits: the same number as that of package field. -/
namespace Go.Proofs.YtmggccepmicjhagGreatDoor
open Go.RowKit
set_option maxRecDepth 100000

theorem sub_add (a b : Nat) : fA a (18446744069414584321 - fN b) = fS a b := by
  rw [fA_eq, fS_eq, fN_eq]; rfl

end Go.Proofs.YtmggccepmicjhagGreatDoor
