/-
  Texts that stood one behind the other, as one.
-/
import Derived.Test.YtmggccepmicjhacGreatDoorDkAAll
import Derived.Test.YtmggccepmicjhacGreatDoorDkAAll
import Derived.Test.YtmggccepmicjhacGreatDoorPlanVAll
import Derived.Test.YtmggccepmicjhacGreatDoorRows
import Derived.WalkKit
import Derived.WalkSpells
import Derived.WalkLawsBesides
/-! How long the answers of the desk are; what a text is answered; no program in sight. -/
namespace Go.Proofs.YtmggccepmicjhacGreatDoor

theorem wrg_len (e : Int) (h0 : 0 ≤ e) (h1 : e ≤ 100) : (wrg e).length ≤ 100 := by
  unfold wrg
  have := Lib.itoa_length_le e (by omega) (by omega)
  simp
  omega
theorem fA_rng (a b : Nat) : fA a b < 18446744073709551616 := by have := fA_lt a b; omega
theorem fS_rng (a b : Nat) : fS a b < 18446744073709551616 := by have := fS_lt a b; omega
theorem fM_rng (a b : Nat) : fM a b < 18446744073709551616 := by have := fM_lt a b; omega
theorem fW_rng (a b : Nat) : fW a b < 18446744073709551616 := by have := fW_lt a b; omega
theorem say1_len (x : Nat) (h : x < 18446744073709551616) : (sayN [x]).length ≤ 100 := by
  have := sayN_le [x] (fun y hy => by simp at hy; subst hy; exact h)
  simp at this
  omega
theorem sayP_len (l : List Nat) (h : ∀ x ∈ l, x < P) (n : Nat) (hn : l.length ≤ n) : (sayN l).length ≤ 21 * n + 4 := by
  have := sayN_le l (fun x hx => by have := h x hx; unfold P at this; omega)
  omega
theorem pow_len {c : List Nat} (hc : Gt c) {k : Nat} (h : val c < 10 ^ k) : c.length ≤ k + 1 := by
  rcases Nat.lt_or_ge c.length 2 with q | q
  · omega
  · have h1 := val_ge hc q
    have h2 : 10 ^ (c.length - 1) < 10 ^ k := by omega
    have := (Nat.pow_lt_pow_iff_right (by decide)).mp h2
    omega
theorem dec_len {n k : Nat} (h : n < 10 ^ k) : (Lib.decDigits n).length ≤ k + 1 := by
  obtain ⟨c, h1, h2, h3⟩ := dec_tx n
  rw [h3, tx_length]
  exact pow_len h1 (by rw [h2]; exact h)
theorem val_dgs {s : List UInt8} (h : greE s = 0) : val (dgT s) < 10 ^ s.length ∧ s.length ≤ 2000 := by
  obtain ⟨h1, ds, h2⟩ := greE_zero h
  rw [Gs_dgs h2]
  have := dval_lt h2.1.1
  have hl : s.length = ds.length := by have := h2.size; rw [bs_size] at this; exact this
  rw [hl]
  exact ⟨this, by omega⟩
theorem greT_len (tim : Bool) {s t : List UInt8} (h1 : greE s = 0) (h2 : greE t = 0) : (greT tim s t).length ≤ 4002 := by
  obtain ⟨a1, a2⟩ := val_dgs h1
  obtain ⟨b1, b2⟩ := val_dgs h2
  unfold greT
  cases tim with
  | true =>
    rw [if_pos rfl]
    have h : val (dgT s) * val (dgT t) < 10 ^ (s.length + t.length) := by
      rw [Nat.pow_add]
      exact Nat.mul_lt_mul'' a1 b1
    have := dec_len h
    omega
  | false =>
    rw [if_neg (by decide)]
    have p1 : 10 ^ s.length ≤ 10 ^ (s.length + t.length) := Nat.pow_le_pow_right (by decide) (by omega)
    have p2 : 10 ^ t.length ≤ 10 ^ (s.length + t.length) := Nat.pow_le_pow_right (by decide) (by omega)
    have h : val (dgT s) + val (dgT t) < 10 ^ (s.length + t.length + 1) := by
      rw [Nat.pow_succ]
      omega
    have := dec_len h
    omega
theorem pM_rngP (a b : List Nat) : ∀ x ∈ pM a b, x < P := fun x hx => by
  unfold pM at hx
  split at hx
  · cases hx
  · exact mk_lt _ _ x hx
theorem bigV_len (tim : Bool) (W : List (List UInt8)) : (bigV tim W).length ≤ 1000000 := by
  unfold bigV
  split
  · split
    · have := greE_le (W.getD 0 [])
      have := wrg_len (greE (W.getD 0 [])) (by omega) (by omega)
      omega
    · next z0 =>
      split
      · have := greE_le (W.getD 1 [])
        have := wrg_len (greE (W.getD 1 [])) (by omega) (by omega)
        omega
      · next z1 =>
        have := greT_len tim (s := W.getD 0 []) (t := W.getD 1 []) (by simpa using z0) (by simpa using z1)
        omega
  · have := wrg_len 3 (by decide) (by decide)
    omega
theorem prdV_len (lin : Bool) (a b : List Nat) : (prdV lin a b).length ≤ 1000000 := by
  have w2 := wrg_len 2 (by decide) (by decide)
  have w5 := wrg_len 5 (by decide) (by decide)
  unfold prdV
  split
  · split
    · omega
    · next hL =>
      have hl := pM_length_le a b
      have h1 : ¬ 1024 < a.length := fun q => hL (.inl q)
      have h2 : ¬ 1024 < b.length := fun q => hL (.inr (.inl q))
      have := sayP_len (pM a b) (pM_rngP a b) 2048 (by omega)
      omega
  · split
    · next h =>
      obtain ⟨_, k, hk, hl⟩ := h
      have h1 : 2 ^ k ≤ 1024 := Nat.le_trans (Nat.pow_le_pow_right (by decide) hk) (by decide)
      have := sayP_len (mk a.length (rnd a b false)) (mk_lt _ _) 1024 (by rw [mk_length]; omega)
      omega
    · omega
theorem pairV_len (lin : Bool) (W : List (List UInt8)) : (pairV lin W).length ≤ 1000000 := by
  have w3 := wrg_len 3 (by decide) (by decide)
  unfold pairV
  split
  · omega
  · split
    · exact prdV_len _ _ _
    · omega
theorem plE_zero {ds : List Nat} {c : Nat} (h : plE ds c = 0) : GoodV ds ∧ prd2 ds ≤ 1024 ∧ 1 ≤ c ∧ Few ds c ds.length := by
  unfold plE at h
  split at h
  · next hG =>
    split at h
    · cases h
    · next h1 =>
      split at h
      · cases h
      · next h2 =>
        split at h
        · next hF => exact ⟨hG, by omega, by omega, hF⟩
        · cases h
  · cases h
theorem nln_le {ds : List Nat} (h : Shp ds) (x : Nat) (hx : x < ds.length) : nln ds x ≤ prd2 ds := by
  rw [← nln_div h x hx]
  exact Nat.div_le_self _ _
theorem plan_len {ds : List Nat} {c : Nat} (h : plE ds c = 0) : (ptx (plL ds c) (plL ds c).length).length ≤ 20000 := by
  obtain ⟨hG, hn, hc, hF⟩ := plE_zero h
  have eL : plL ds c = pls ds c ds.length := by unfold plL; rw [if_pos h]
  rw [eL]
  have hfine := pls_fine ds c hc
  have hl : (pls ds c ds.length).length = ds.length := hfine.1
  have hb : ∀ y, y < (pls ds c ds.length).length → ∀ i, i < ((pls ds c ds.length).getD y []).length → B3 (((pls ds c ds.length).getD y []).getD i []) := fun y hy i hi => by
    rw [hl] at hy
    have hv := (hfine.2 y hy).1 _ (show ((pls ds c ds.length).getD y []).getD i [] ∈ (pls ds c ds.length).getD y [] by
      generalize (pls ds c ds.length).getD y [] = T at hi ⊢
      rw [List.getD, List.getElem?_eq_getElem hi]
      exact List.getElem_mem hi)
    have hnl := nln_le (ds := ds) hG.2.2 y hy
    have h3 := hG.2.1
    obtain ⟨v1, v2, v3, v4⟩ := hv
    unfold B3
    omega
  have h1 := ptx_le _ hb (pls ds c ds.length).length (Nat.le_refl _)
  have h2 : ∀ i, i ≤ ds.length → tot (pls ds c ds.length) i ≤ 64 * i := fun i hi => by
    induction i with
    | zero => simp [tot]
    | succ i ih =>
      have := ih (by omega)
      unfold tot
      rw [pls_get ds c _ i (by omega)]
      have := hF i (by omega)
      omega
  have := h2 ds.length (Nat.le_refl _)
  have := hG.2.1
  rw [hl] at h1 ⊢
  omega
theorem ansV_len (verb : List UInt8) (n : List Nat) : (ansV verb n).length ≤ 1000000 := by
  have w1 := wrg_len 1 (by decide) (by decide)
  have w3 := wrg_len 3 (by decide) (by decide)
  have w4 := wrg_len 4 (by decide) (by decide)
  have w5 := wrg_len 5 (by decide) (by decide)
  have hp : ∀ (f : Nat → F), IsPw n.length → (sayN (mk n.length f)).length ≤ 1000000 := fun f hp => by
    obtain ⟨k, hk, hl⟩ := hp
    have h1 : 2 ^ k ≤ 1024 := Nat.le_trans (Nat.pow_le_pow_right (by decide) hk) (by decide)
    have := sayP_len (mk n.length f) (mk_lt _ _) 1024 (by rw [mk_length]; omega)
    omega
  have hq : (plnV n).length ≤ 1000000 := by
    unfold plnV
    split
    · next h =>
      have := plan_len h
      rw [List.length_append, List.length_cons, List.length_cons, List.length_nil]
      omega
    · have h2 : 0 ≤ plE (shpV n) (smN (n.getD 0 0)) ∧ plE (shpV n) (smN (n.getD 0 0)) ≤ 2 := by
        unfold plE
        split <;> (try split) <;> (try split) <;> (try split) <;> decide
      have := wrg_len _ h2.1 (by omega)
      omega
  unfold ansV
  split
  · have := say1_len _ (fA_rng (n.getD 0 0) (n.getD 1 0)); omega
  split
  · have := say1_len _ (fS_rng (n.getD 0 0) (n.getD 1 0)); omega
  split
  · have := say1_len _ (fM_rng (n.getD 0 0) (n.getD 1 0)); omega
  split
  · have := say1_len _ (fW_rng (n.getD 0 0) (n.getD 1 0)); omega
  split
  · split
    · omega
    · have := say1_len _ (fW_rng (n.getD 0 0) 18446744069414584319); omega
  split
  · split
    · omega
    · have : (sayN [rt (n.getD 0 0)]).length ≤ 100 := say1_len _ (fW_rng _ _)
      omega
  split
  · unfold nttV
    split
    · next h => exact hp _ h
    · omega
  split
  · unfold bckV
    split
    · next h => exact hp _ h
    · omega
  split
  · exact hq
  split
  · unfold shrV
    split
    · next h =>
      have := sayP_len (mk (n.getD 0 0) (symF (n.drop 1))) (mk_lt _ _) 64 (by rw [mk_length]; exact h.2.1.2)
      omega
    · omega
  · omega
theorem linV_len (verb : List UInt8) (W : List (List UInt8)) : (linV verb W).length ≤ 1000000 := by
  have w3 := wrg_len 3 (by decide) (by decide)
  unfold linV
  split
  · exact pairV_len _ _
  split
  · exact pairV_len _ _
  split
  · exact bigV_len _ _
  split
  · exact bigV_len _ _
  · unfold numV
    split
    · exact ansV_len _ _
    · omega
/-- What a line is answered: nothing, or its answer and a byte 10. -/
noncomputable def ansL (l : List UInt8) : List UInt8 := match wds l with
  | [] => []
  | v :: W => if v.headD 0 = 35 then [] else linV v W ++ [10]
/-- The answers of the first lines. -/
noncomputable def outK (L : List (List UInt8)) : Nat → List UInt8
  | 0 => []
  | i + 1 => outK L i ++ ansL (L.getD i [])
open Classical in
/-- What a text is answered. -/
noncomputable def dskV (s : List UInt8) : List UInt8 := if 65536 < s.length ∨ 200 < (tlns s).length then [101, 114, 114, 111, 114, 32, 50, 10] else outK (tlns s) (tlns s).length
theorem ansL_len (l : List UInt8) : (ansL l).length ≤ 1000001 := by
  unfold ansL
  split
  · simp
  · next v W _ =>
    split
    · simp
    · have := linV_len v W
      rw [List.length_append]
      simp
      omega
theorem outK_len (L : List (List UInt8)) (i : Nat) : (outK L i).length ≤ 1000001 * i := by
  induction i with
  | zero => simp [outK]
  | succ i ih =>
    have := ansL_len (L.getD i [])
    unfold outK
    rw [List.length_append]
    omega

end Go.Proofs.YtmggccepmicjhacGreatDoor

/-! What Sub of package goldref answers, for all numbers of 64 bits: the same number as that of package field. -/
namespace Go.Proofs.YtmggccepmicjhacGreatDoor
open Go.RowKit
set_option maxRecDepth 100000

theorem sub_add (a b : Nat) : fA a (18446744069414584321 - fN b) = fS a b := by
  rw [fA_eq, fS_eq, fN_eq]; rfl

theorem ref_Sub (a b : Nat) (w : World) :
    Calls Tryz.prog 65 #[.int .u64 (a : Int), .int .u64 (b : Int)] w fun e w' => e = .returned (.int .u64 ((fS a b : Nat) : Int)) ∧ w' = w := by
  have bb := fN_lt b
  have eb := rem_fN b
  have c := ref_Add a (18446744069414584321 - fN b)
  rw [sub_add] at c
  have e : ((18446744069414584321 - fN b : Nat) : Int) = 18446744069414584321 - (fN b : Int) := by omega
  rw [e] at c
  clear e
  go_enter Tryz.func65, Tryz.ntmps65
  go_wp2_with (go_at_call 62; refine Calls.mono (c _) ?_; rintro e w' ⟨rfl, hw⟩; rw [hw]; clear hw)
  go_ret
  exact ⟨rfl, rfl⟩

end Go.Proofs.YtmggccepmicjhacGreatDoor

/-! What Inv of package goldref answers: the inverse by EUCLID's steps is the power below the last one. -/
namespace Go.Proofs.YtmggccepmicjhacGreatDoor
open Go.RowKit
set_option maxRecDepth 100000

theorem cancel {A B C D : Nat} (h1 : (A + B) % P = (C + D) % P) (h2 : B % P = D % P) : A % P = C % P := by
  unfold P at *; omega
theorem fS_add (x y : Nat) : (fS x y + y) % P = x % P := by
  rw [fS_eq]; unfold P; omega

theorem euclid_step (a r n x t : Nat) (hx : x * a % P = r % P) (ht : t * a % P = n % P) : fS x (fM (r / n) t) * a % P = (r % n) % P := by
  have h1 : (fS x (fM (r / n) t) * a + fM (r / n) t * a) % P = (r % n + r / n * n) % P := by
    rw [← Nat.add_mul, Nat.mul_mod, fS_add, ← Nat.mul_mod, hx, Nat.mod_add_div']
  refine cancel h1 ?_
  rw [fM_eq, Nat.mod_mul_mod, Nat.mul_assoc, Nat.mul_mod, ht, ← Nat.mul_mod]

theorem gcd_step {r n : Nat} (h : Nat.gcd r n = 1) : Nat.gcd n (r % n) = 1 := by
  rw [Nat.gcd_comm, ← Nat.gcd_rec, Nat.gcd_comm]; exact h

set_option maxHeartbeats 1000000 in
theorem ref_Inv (a : Nat) (h0 : fN a ≠ 0) (w : World) :
    Calls Tryz.prog 68 #[.int .u64 (a : Int)] w fun e w' => e = .returned (.int .u64 ((fW a 18446744069414584319 : Nat) : Int)) ∧ w' = w := by
  have ea := rem_fN a
  have bn := fN_lt a
  have hg : Hid (Nat.gcd P (fN a) = 1) := by
    show Nat.gcd P (fN a) = 1
    rcases prime_P.2 _ (Nat.gcd_dvd_left P (fN a)) with h | h
    · exact h
    · exfalso
      have h2 : P ∣ fN a := by rw [← h]; exact Nat.gcd_dvd_right P (fN a)
      have h3 := Nat.le_of_dvd (by omega) h2
      unfold P at h3; omega
  have hta : Hid (1 * a % P = fN a % P) := by
    show 1 * a % P = fN a % P
    rw [fN_eq, Nat.mod_mod, Nat.one_mul]
  have hfin : Hid (∀ x : Nat, (x : Int) < 18446744069414584321 → x * a % P = 1 → x = fW a 18446744069414584319) := fun x hx h => inv_unique a x h0 (by unfold P; omega) h
  clear h0
  generalize fW a 18446744069414584319 = z at *
  generalize fN a = n0 at *
  go_enter Tryz.func68, Tryz.ntmps68
  go_wp2
  simp only [ea]
  clear ea
  go_loop [3, 4, 5, 6] (fun vr vn vx vt => ∃ r n x t : Nat, vr = .int .u64 (r : Int) ∧ vn = .int .u64 (n : Int) ∧ vx = .int .u64 (x : Int) ∧ vt = .int .u64 (t : Int) ∧ (r : Int) < 18446744073709551616 ∧ (n : Int) < 18446744073709551616 ∧ (x : Int) < 18446744069414584321 ∧ (t : Int) < 18446744069414584321 ∧ Hid (Nat.gcd r n = 1) ∧ Hid (x * a % P = r % P) ∧ Hid (t * a % P = n % P))
    (fun _ vn _ _ => (intOf vn).toNat)
  case atStart => exact ⟨P, n0, 0, 1, rfl, rfl, rfl, rfl, by unfold P; omega, by omega, by omega, by omega, hg, by show 0 * a % P = P % P; rw [Nat.zero_mul, Nat.zero_mod, Nat.mod_self], hta⟩
  case round =>
    obtain ⟨r, n, x, t, rfl, rfl, rfl, rfl, hr, hn, hx, ht, hG, hX, hT⟩ := hrel
    rcases Nat.eq_zero_or_pos n with h | h
    · subst h
      have e : x = z := by
        have g : r = 1 := by rw [← hG.out, Nat.gcd_zero_right]
        have hX' := hX.out
        rw [g] at hX'
        exact hfin.out x hx (hX'.trans (by decide))
      subst e
      clear hfin hG hX hT hg hta
      go_wp2
      go_ret
      exact ⟨rfl, rfl⟩
    · have hne : ((n : Int) != 0) = true := by simp; omega
      have hle : (r / n * n : Nat) ≤ r := Nat.div_mul_le_self r n
      have eq1 : (r : Int) / (n : Int) = ((r / n : Nat) : Int) := (Int.natCast_ediv r n).symm
      have hmod : r - r / n * n = r % n := by
        have := Nat.mod_add_div' r n
        omega
      have hlt : r % n < n := Nat.mod_lt r h
      have hX' : Hid (fS x (fM (r / n) t) * a % P = (r % n) % P) := euclid_step a r n x t hX.out hT.out
      have hG' : Hid (Nat.gcd n (r % n) = 1) := gcd_step hG.out
      have hq : r / n ≤ r := Nat.div_le_self r n
      generalize r / n = q at *
      generalize r % n = m at *
      have hle' : (q : Int) * (n : Int) ≤ (r : Int) := by rw [← Int.natCast_mul]; omega
      have hmod' : Hid ((r : Int) - (q : Int) * (n : Int) = (m : Int)) := by
        show (r : Int) - (q : Int) * (n : Int) = (m : Int)
        rw [← Int.natCast_mul]; omega
      have hq0 : 0 ≤ (q : Int) * (n : Int) := by rw [← Int.natCast_mul]; omega
      clear hle hmod
      have b1 := fM_lt q t
      have b2 := fS_lt x (fM q t)
      go_wp2_with (first
        | (go_at_call 63; refine Calls.mono (ref_Mul _ _ _) ?_; rintro e w' ⟨rfl, hw⟩; rw [hw]; clear hw)
        | (go_at_call 65; refine Calls.mono (ref_Sub _ _ _) ?_; rintro e w' ⟨rfl, hw⟩; rw [hw]; clear hw))
      go_round
      case rel => exact ⟨n, m, t, fS x (fM q t), rfl, by rw [← hmod'.out], rfl, rfl, hn, by omega, ht, b2, hG', hT, hX'⟩
      case measure => simp only [intOf]; rw [hmod'.out]; omega

end Go.Proofs.YtmggccepmicjhacGreatDoor

/-! What Log of package goldref answers: of 2^k, k from 0 to 10, k; of other numbers -1. -/
namespace Go.Proofs.YtmggccepmicjhacGreatDoor
open Go.RowKit
set_option maxRecDepth 100000

theorem two_pow_bound (j : Nat) (hj : j ≤ 10) : ((2 : Int) ^ j) = ((2 ^ j : Nat) : Int) ∧ 2 ^ j ≤ 1024 := by
  refine ⟨by rw [Int.natCast_pow]; rfl, ?_⟩
  exact Nat.le_trans (Nat.pow_le_pow_right (by decide) hj) (by decide)

set_option maxHeartbeats 1000000 in
theorem ref_Log_ok (k : Nat) (hk : k ≤ 10) (w : World) :
    Calls Tryz.prog 30 #[.int .i64 ((2 ^ k : Nat) : Int)] w fun e w' => e = .returned (.int .i64 (k : Int)) ∧ w' = w := by
  obtain ⟨n, hn⟩ : ∃ n : Nat, n = 2 ^ k := ⟨_, rfl⟩
  rw [← hn]
  have hn' : Hid (n = 2 ^ k) := hn
  clear hn
  go_enter Tryz.func30, Tryz.ntmps30
  go_wp2
  go_loop [3] (fun vj => ∃ j : Nat, j ≤ k ∧ vj = .int .i64 (j : Int))
    (fun vj => k - (intOf vj).toNat)
  case atStart => exact ⟨0, Nat.zero_le _, rfl⟩
  case round =>
    obtain ⟨j, hj, rfl⟩ := hrel
    obtain ⟨q, hq⟩ : ∃ q : Nat, q = 2 ^ j := ⟨_, rfl⟩
    obtain ⟨e2, h2⟩ := two_pow_bound j (by omega)
    rw [← hq] at e2 h2
    have hq' : Hid (q = 2 ^ j) := hq
    clear hq
    by_cases hjk : j = k
    · subst hjk
      have e : n = q := hn'.out.trans hq'.out.symm
      subst e
      go_wp2
      go_ret
      exact ⟨rfl, rfl⟩
    · have hne : ((n : Int) == (q : Int)) = false := by
        rw [beq_eq_false_iff_ne]
        intro h
        have h3 : 2 ^ k = 2 ^ j := by rw [← hn'.out, ← hq'.out]; omega
        exact hjk ((Nat.pow_right_inj (show 1 < 2 by decide)).mp h3).symm
      go_wp2
      go_round
      case rel => exact ⟨j + 1, by omega, by go_num⟩
      case measure => simp only [intOf]; omega

set_option maxHeartbeats 1000000 in
theorem ref_Log_none (n : Nat) (hn : ∀ j, j ≤ 10 → n ≠ 2 ^ j) (w : World) :
    Calls Tryz.prog 30 #[.int .i64 (n : Int)] w fun e w' => e = .returned (.int .i64 (-1)) ∧ w' = w := by
  have hn' : Hid (∀ j, j ≤ 10 → n ≠ 2 ^ j) := hn
  clear hn
  go_enter Tryz.func30, Tryz.ntmps30
  go_wp2
  go_loop [3] (fun vj => ∃ j : Nat, j ≤ 11 ∧ vj = .int .i64 (j : Int))
    (fun vj => 11 - (intOf vj).toNat)
  case atStart => exact ⟨0, Nat.zero_le _, rfl⟩
  case round =>
    obtain ⟨j, hj, rfl⟩ := hrel
    by_cases hj10 : j ≤ 10
    · obtain ⟨q, hq⟩ : ∃ q : Nat, q = 2 ^ j := ⟨_, rfl⟩
      obtain ⟨e2, h2⟩ := two_pow_bound j (by omega)
      have hne : ((n : Int) == (q : Int)) = false := by
        rw [beq_eq_false_iff_ne]
        intro h
        exact hn'.out j hj10 (by rw [← hq]; omega)
      rw [← hq] at e2 h2
      clear hq
      go_wp2
      go_round
      case rel => exact ⟨j + 1, by omega, by go_num⟩
      case measure => simp only [intOf]; omega
    · have e : j = 11 := by omega
      subst e
      clear hj hj10
      go_wp2
      go_ret
      exact ⟨rfl, rfl⟩

end Go.Proofs.YtmggccepmicjhacGreatDoor
