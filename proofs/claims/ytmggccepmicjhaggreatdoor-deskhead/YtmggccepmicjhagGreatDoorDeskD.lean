/-
  What do of package desk tells, by the line's first word.
-/
import Derived.Test.YtmggccepmicjhagGreatDoorDkC5
import Derived.Test.YtmggccepmicjhagGreatDoorPolyCAll
import Derived.Test.YtmggccepmicjhagGreatDoorNttCAll
import Derived.Test.YtmggccepmicjhagGreatDoorConvCAll
import Derived.Test.YtmggccepmicjhagGreatDoorBigC
namespace Go.Proofs.YtmggccepmicjhagGreatDoor
open Go.RowKit
set_option maxRecDepth 100000

/-! The calls that are handed on. -/
theorem cntK_two {verb : List UInt8} (h : cntV verb = 2) (m : Nat) : CntK verb m ↔ m = 2 := by
  unfold CntK
  rw [h]
  exact ⟨fun q => by have := q.2 (by decide); omega, fun q => ⟨fun e => absurd e (by decide), fun _ => by omega⟩⟩
theorem cntK_one {verb : List UInt8} (h : cntV verb = 1) (m : Nat) : CntK verb m ↔ m = 1 := by
  unfold CntK
  rw [h]
  exact ⟨fun q => by have := q.2 (by decide); omega, fun q => ⟨fun e => absurd e (by decide), fun _ => by omega⟩⟩
theorem cntK_some {verb : List UInt8} (h : cntV verb = 0) (m : Nat) : CntK verb m ↔ 0 < m := by
  unfold CntK
  rw [h]
  exact ⟨fun q => q.1 rfl, fun q => ⟨fun _ => q, fun e => by omega⟩⟩
theorem cntK_any {verb : List UInt8} (h : cntV verb = -1) (m : Nat) : CntK verb m := by
  unfold CntK
  rw [h]
  exact ⟨fun e => absurd e (by decide), fun e => by omega⟩
theorem num_yes {verb : List UInt8} {W : List (List UInt8)} (hn : NoL verb) (h : numsB W = true) (hc : CntK verb W.length) : linV verb W = ansV verb (numsL W) := by
  rw [linV_num hn]
  unfold numV
  rw [if_pos ⟨h, hc⟩]
theorem num_no {verb : List UInt8} {W : List (List UInt8)} (hn : NoL verb) (h : ¬ (numsB W = true ∧ CntK verb W.length)) : linV verb W = wrg 3 := by
  rw [linV_num hn]
  unfold numV
  rw [if_neg h]
theorem fA_64 (a b : Nat) : fA a b < 18446744073709551616 := by have := fA_lt a b; omega
theorem fS_64 (a b : Nat) : fS a b < 18446744073709551616 := by have := fS_lt a b; omega
theorem fM_64 (a b : Nat) : fM a b < 18446744073709551616 := by have := fM_lt a b; omega
theorem fW_64 (a b : Nat) : fW a b < 18446744073709551616 := by have := fW_lt a b; omega
def invN (a : Nat) : Nat := if fN a = 0 then 0 else fW a 18446744069414584319
def invE (a : Nat) : Int := if fN a = 0 then 4 else 0
theorem invN_64 (a : Nat) : invN a < 18446744073709551616 := by
  unfold invN
  split
  · omega
  · exact fW_64 _ _
theorem invE_le (a : Nat) : 0 ≤ invE a ∧ invE a ≤ 100 := by
  unfold invE
  split <;> omega
theorem inv_call (a : Nat) (W : World) (ha : (a : Int) < 18446744073709551616) : Calls Tryz.prog 39 #[.int .u64 (a : Int)] W fun e w' => e = .returned (.tuple #[.int .u64 ((invN a : Nat) : Int), .int .i64 (invE a)]) ∧ w' = W := by
  unfold invN invE
  by_cases h : fN a = 0
  · rw [if_pos h, if_pos h]
    exact field_Inv_none a ha h W
  · rw [if_neg h, if_neg h]
    exact field_Inv_some a ha h W
def rotN (a : Nat) : Nat := if 32 < a then 0 else rt a
def rotE (a : Nat) : Int := if 32 < a then 1 else 0
theorem rotN_64 (a : Nat) : rotN a < 18446744073709551616 := by
  unfold rotN
  split
  · omega
  · exact fW_64 _ _
theorem rotE_le (a : Nat) : 0 ≤ rotE a ∧ rotE a ≤ 100 := by
  unfold rotE
  split <;> omega
theorem rot_call (a : Nat) (W : World) (ha : (a : Int) < 18446744073709551616) : Calls Tryz.prog 40 #[.int .u64 (a : Int)] W fun e w' => e = .returned (.tuple #[.int .u64 ((rotN a : Nat) : Int), .int .i64 (rotE a)]) ∧ w' = W := by
  have c1 := desk_count a ha W
  have c2 : Calls Tryz.prog 62 #[.int .i64 ((smN a : Nat) : Int)] W fun e w' => e = .returned (.tuple #[.int .u64 ((rotN a : Nat) : Int), .int .i64 (rotE a)]) ∧ w' = W := by
    unfold rotN rotE
    by_cases h : 32 < a
    · rw [if_pos h, if_pos h]
      exact field_Root_out _ (.inr (by unfold smN; split <;> omega)) W
    · rw [if_neg h, if_neg h]
      have e : smN a = a := by unfold smN; rw [if_neg (by omega)]
      rw [e]
      exact field_Root_in a (by omega) W
  generalize smN a = s at *
  generalize rotN a = r at *
  generalize rotE a = k at *
  clear ha
  go_enter Tryz.func40, Tryz.ntmps40
  go_wp2_with (first
    | (go_at_call 63; refine Calls.mono c1 ?_; rintro e w' ⟨rfl, hw⟩; rw [hw]; clear hw)
    | (go_at_call 62; refine Calls.mono c2 ?_; rintro e w' ⟨rfl, hw⟩; rw [hw]; clear hw))
  go_ret2
  exact ⟨rfl, rfl⟩
open Classical in
noncomputable def pwE (xs : List Nat) : Int := if IsPw xs.length then 0 else 5
theorem pwE_le (xs : List Nat) : 0 ≤ pwE xs ∧ pwE xs ≤ 100 := by
  unfold pwE
  split <;> omega
open Classical in
noncomputable def fwL (xs : List Nat) : List Nat := if IsPw xs.length then mk xs.length (fw xs xs.length.log2) else []
open Classical in
noncomputable def bwL (xs : List Nat) : List Nat := if IsPw xs.length then mk xs.length (bw xs xs.length.log2) else []
theorem pw_le {n : Nat} (h : IsPw n) : n ≤ 1024 := by
  obtain ⟨k, hk, rfl⟩ := h
  exact Nat.le_trans (Nat.pow_le_pow_right (by decide) hk) (by decide)
theorem fwL_le (xs : List Nat) : (fwL xs).length ≤ 1000000 := by
  unfold fwL
  split
  · next h => rw [mk_length]; have := pw_le h; omega
  · simp
theorem bwL_le (xs : List Nat) : (bwL xs).length ≤ 1000000 := by
  unfold bwL
  split
  · next h => rw [mk_length]; have := pw_le h; omega
  · simp
theorem fwL_call (xs : List Nat) (u : Value) (W : World) (hU : IsU W u xs) (hT : Tab W) : Calls Tryz.prog 42 #[u] W fun e w' => ∃ z, e = .returned (.tuple #[z, .int .i64 (pwE xs)]) ∧ IsU w' z (fwL xs) ∧ Below W.heap.size W w' := by
  unfold pwE fwL
  by_cases h : IsPw xs.length
  · rw [if_pos h, if_pos h]
    obtain ⟨k, hk, hl⟩ := h
    have c := ntt_Forward_ok W u xs k hU hT hl hk
    rw [hl, Nat.log2_two_pow]
    exact c
  · rw [if_neg h, if_neg h]
    exact ntt_Forward_form W u xs hU (fun j hj e => h ⟨j, hj, e⟩)
theorem bwL_call (xs : List Nat) (u : Value) (W : World) (hU : IsU W u xs) (hT : Tab W) : Calls Tryz.prog 43 #[u] W fun e w' => ∃ z, e = .returned (.tuple #[z, .int .i64 (pwE xs)]) ∧ IsU w' z (bwL xs) ∧ Below W.heap.size W w' := by
  unfold pwE bwL
  by_cases h : IsPw xs.length
  · rw [if_pos h, if_pos h]
    obtain ⟨k, hk, hl⟩ := h
    have c := ntt_Inverse_ok W u xs k hU hT hl hk
    rw [hl, Nat.log2_two_pow]
    exact c
  · rw [if_neg h, if_neg h]
    exact ntt_Inverse_form W u xs hU (fun j hj e => h ⟨j, hj, e⟩)
open Classical in
noncomputable def cyE (a b : List Nat) : Int := if a.length = b.length ∧ IsPw a.length then 0 else 5
open Classical in
noncomputable def cyL (a b : List Nat) : List Nat := if a.length = b.length ∧ IsPw a.length then mk a.length (rnd a b false) else []
theorem cyE_le (a b : List Nat) : 0 ≤ cyE a b ∧ cyE a b ≤ 100 := by
  unfold cyE
  split <;> omega
theorem cyL_le (a b : List Nat) : (cyL a b).length ≤ 1000000 := by
  unfold cyL
  split
  · next h => rw [mk_length]; have := pw_le h.2; omega
  · simp
theorem cy_call (xs ys : List Nat) (u u' : Value) (W : World) (hU : IsU W u xs) (hU' : IsU W u' ys) (hT : Tab W) : Calls Tryz.prog 45 #[u, u'] W fun e w' => ∃ z, e = .returned (.tuple #[z, .int .i64 (cyE xs ys)]) ∧ IsU w' z (cyL xs ys) ∧ Below W.heap.size W w' := by
  unfold cyE cyL
  by_cases h : xs.length = ys.length ∧ IsPw xs.length
  · rw [if_pos h, if_pos h]
    obtain ⟨h1, k, hk, hl⟩ := h
    exact conv_Cyclic_ok W u u' xs ys k hU hU' hT hl (by omega) hk
  · rw [if_neg h, if_neg h]
    refine conv_Cyclic_form W u u' xs ys hU hU' ?_
    by_cases h1 : xs.length = ys.length
    · exact .inr (fun j hj e => h ⟨h1, j, hj, e⟩)
    · exact .inl h1
open Classical in
noncomputable def liE (a b : List Nat) : Int := if LrgV a b then 2 else 0
open Classical in
noncomputable def liL (a b : List Nat) : List Nat := if LrgV a b then [] else pM a b
theorem liE_le (a b : List Nat) : 0 ≤ liE a b ∧ liE a b ≤ 100 := by
  unfold liE
  split <;> omega
theorem liL_le (a b : List Nat) : (liL a b).length ≤ 1000000 := by
  unfold liL
  split
  · simp
  · next h =>
    have h1 : ¬ 1024 < a.length := fun q => h (.inl q)
    have h2 : ¬ 1024 < b.length := fun q => h (.inr (.inl q))
    have := pM_length_le a b
    omega
theorem li_call (xs ys : List Nat) (u u' : Value) (W : World) (hU : IsU W u xs) (hU' : IsU W u' ys) (hT : Tab W) : Calls Tryz.prog 46 #[u, u'] W fun e w' => ∃ z, e = .returned (.tuple #[z, .int .i64 (liE xs ys)]) ∧ IsU w' z (liL xs ys) ∧ Below W.heap.size W w' := by
  unfold liE liL
  by_cases h : LrgV xs ys
  · rw [if_pos h, if_pos h]
    exact conv_Linear_large W u u' xs ys hU hU' h
  · rw [if_neg h, if_neg h]
    have h1 : ¬ 1024 < xs.length := fun q => h (.inl q)
    have h2 : ¬ 1024 < ys.length := fun q => h (.inr (.inl q))
    have h3 : ¬ (0 < xs.length ∧ 0 < ys.length ∧ 1025 < xs.length + ys.length) := fun q => h (.inr (.inr q))
    exact conv_Linear_ok W u u' xs ys hU hU' hT (by omega) (by omega) (by omega)
theorem greE_chk (s : List UInt8) : gchk (bs s) = greE s := by
  unfold gchk greE
  rw [bs_size]
noncomputable def bgT (tim : Bool) (s t : List UInt8) : List UInt8 := if greE s ≠ 0 then wrg (greE s) else if greE t ≠ 0 then wrg (greE t) else greT tim s t
theorem bgT_bad (tim : Bool) (s t : List UInt8) (h : gchk2 (bs s) (bs t) ≠ 0) : Says [] (gchk2 (bs s) (bs t)) (bgT tim s t) := by
  unfold gchk2 at h ⊢
  rw [greE_chk, greE_chk] at *
  have h1 := greE_le s
  have h2 := greE_le t
  unfold bgT
  by_cases q : greE s = 0
  · rw [if_pos q] at h ⊢
    rw [if_neg (fun e => e q), if_pos h]
    exact Says.err (by omega) (by omega) rfl
  · rw [if_neg q] at h ⊢
    rw [if_pos q]
    exact Says.err (by omega) (by omega) rfl
theorem bgT_ok (tim : Bool) (s t : List UInt8) (h : gchk2 (bs s) (bs t) = 0) : (∃ a, Gd (bs s) a) ∧ (∃ b, Gd (bs t) b) ∧ bgT tim s t = greT tim s t := by
  unfold gchk2 at h
  by_cases q : gchk (bs s) = 0
  · rw [if_pos q] at h
    refine ⟨gchk_zero q, gchk_zero h, ?_⟩
    rw [greE_chk] at q h
    unfold bgT
    rw [if_neg (fun e => e q), if_neg (fun e => e h)]
  · rw [if_neg q] at h
    exact absurd h q
theorem bigAdd_call (s t : List UInt8) (W : World) (hT : Tab W) : Calls Tryz.prog 48 #[.string (bs s), .string (bs t)] W fun e w' => ∃ r k, e = .returned (.tuple #[.string (bs r), .int .i64 k]) ∧ Says r k (bgT false s t) ∧ Below W.heap.size W w' := by
  by_cases h : gchk2 (bs s) (bs t) = 0
  · obtain ⟨⟨a, ha⟩, ⟨b, hb⟩, hV⟩ := bgT_ok false s t h
    refine (big_Add_ok W _ _ a b ha hb hT).mono ?_
    rintro e w' ⟨c, rfl, hc, hv, hB⟩
    have hTx : greT false s t = tx c := by
      unfold greT
      rw [Gs_dgs ha.1, Gs_dgs hb.1, if_neg (by decide), ← hv]
      exact dec_of hc
    refine ⟨tx c, 0, rfl, ?_, hB⟩
    rw [hV, hTx]
    exact Says.ok _
  · refine (big_Add_bad W _ _ h hT).mono ?_
    rintro e w' ⟨rfl, hB⟩
    exact ⟨[], _, rfl, bgT_bad false s t h, hB⟩
theorem bigMul_call (s t : List UInt8) (W : World) (hT : Tab W) : Calls Tryz.prog 49 #[.string (bs s), .string (bs t)] W fun e w' => ∃ r k, e = .returned (.tuple #[.string (bs r), .int .i64 k]) ∧ Says r k (bgT true s t) ∧ Below W.heap.size W w' := by
  by_cases h : gchk2 (bs s) (bs t) = 0
  · obtain ⟨⟨a, ha⟩, ⟨b, hb⟩, hV⟩ := bgT_ok true s t h
    refine (big_Mul_ok W _ _ a b ha hb hT).mono ?_
    rintro e w' ⟨c, rfl, hc, hv, hB⟩
    have hTx : greT true s t = tx c := by
      unfold greT
      rw [Gs_dgs ha.1, Gs_dgs hb.1, if_pos (by decide), ← hv]
      exact dec_of hc
    refine ⟨tx c, 0, rfl, ?_, hB⟩
    rw [hV, hTx]
    exact Says.ok _
  · refine (big_Mul_bad W _ _ h hT).mono ?_
    rintro e w' ⟨rfl, hB⟩
    exact ⟨[], _, rfl, bgT_bad true s t h, hB⟩
set_option maxRecDepth 100000 in
set_option maxHeartbeats 4000000 in
theorem desk_do_add (w : World) (v : Value) (W : List (List UInt8)) (h : IsB w v W) (hs : ∀ l ∈ W, l.length ≤ 1000000000) (h9 : W.length ≤ 1000000) (ht : Tab w) :
    Calls Tryz.prog 28 #[.string { data := #[97, 100, 100] }, v] w fun e w' => ∃ t k, e = .returned (.tuple #[.string (bs t), .int .i64 k]) ∧ Says t k (linV [97, 100, 100] W) ∧ Below w.heap.size w w' := by
  have c := desk_ofTwo 34 (enters_of Tryz.func34 (by kernel_rfl) rfl) fA fA_64 (fun a b W ha hb => field_Add a b ha hb W) w v W h hs h9 ht (linV [97, 100, 100] W)
    (fun h1 h2 => by rw [num_yes ⟨by decide, by decide, by decide, by decide⟩ h1 ((cntK_two (by decide) _).mpr h2), ansV_add])
    (fun q => num_no ⟨by decide, by decide, by decide, by decide⟩ (fun r => q ⟨r.1, (cntK_two (by decide) _).mp r.2⟩))
  obtain ⟨a, cap, rfl⟩ := h.len
  clear h hs h9 ht
  generalize linV [97, 100, 100] W = R at *
  go_enter Tryz.func28, Tryz.ntmps28
  go_wp2_with (go_at_call 33; refine Calls.mono c ?_; rintro e w1 ⟨t, k, rfl, hS, hb⟩; clear c; replace hS : Hid _ := hS)
  go_ret2
  exact ⟨t, k, rfl, hS.out, hb⟩
set_option maxRecDepth 100000 in
set_option maxHeartbeats 4000000 in
theorem desk_do_sub (w : World) (v : Value) (W : List (List UInt8)) (h : IsB w v W) (hs : ∀ l ∈ W, l.length ≤ 1000000000) (h9 : W.length ≤ 1000000) (ht : Tab w) :
    Calls Tryz.prog 28 #[.string { data := #[115, 117, 98] }, v] w fun e w' => ∃ t k, e = .returned (.tuple #[.string (bs t), .int .i64 k]) ∧ Says t k (linV [115, 117, 98] W) ∧ Below w.heap.size w w' := by
  have c := desk_ofTwo 35 (enters_of Tryz.func35 (by kernel_rfl) rfl) fS fS_64 (fun a b W ha hb => field_Sub a b ha hb W) w v W h hs h9 ht (linV [115, 117, 98] W)
    (fun h1 h2 => by rw [num_yes ⟨by decide, by decide, by decide, by decide⟩ h1 ((cntK_two (by decide) _).mpr h2), ansV_sub])
    (fun q => num_no ⟨by decide, by decide, by decide, by decide⟩ (fun r => q ⟨r.1, (cntK_two (by decide) _).mp r.2⟩))
  obtain ⟨a, cap, rfl⟩ := h.len
  clear h hs h9 ht
  generalize linV [115, 117, 98] W = R at *
  go_enter Tryz.func28, Tryz.ntmps28
  go_wp2_with (go_at_call 33; refine Calls.mono c ?_; rintro e w1 ⟨t, k, rfl, hS, hb⟩; clear c; replace hS : Hid _ := hS)
  go_ret2
  exact ⟨t, k, rfl, hS.out, hb⟩
set_option maxRecDepth 100000 in
set_option maxHeartbeats 4000000 in
theorem desk_do_mul (w : World) (v : Value) (W : List (List UInt8)) (h : IsB w v W) (hs : ∀ l ∈ W, l.length ≤ 1000000000) (h9 : W.length ≤ 1000000) (ht : Tab w) :
    Calls Tryz.prog 28 #[.string { data := #[109, 117, 108] }, v] w fun e w' => ∃ t k, e = .returned (.tuple #[.string (bs t), .int .i64 k]) ∧ Says t k (linV [109, 117, 108] W) ∧ Below w.heap.size w w' := by
  have c := desk_ofTwo 36 (enters_of Tryz.func36 (by kernel_rfl) rfl) fM fM_64 (fun a b W ha hb => field_Mul a b ha hb W) w v W h hs h9 ht (linV [109, 117, 108] W)
    (fun h1 h2 => by rw [num_yes ⟨by decide, by decide, by decide, by decide⟩ h1 ((cntK_two (by decide) _).mpr h2), ansV_mul])
    (fun q => num_no ⟨by decide, by decide, by decide, by decide⟩ (fun r => q ⟨r.1, (cntK_two (by decide) _).mp r.2⟩))
  obtain ⟨a, cap, rfl⟩ := h.len
  clear h hs h9 ht
  generalize linV [109, 117, 108] W = R at *
  go_enter Tryz.func28, Tryz.ntmps28
  go_wp2_with (go_at_call 33; refine Calls.mono c ?_; rintro e w1 ⟨t, k, rfl, hS, hb⟩; clear c; replace hS : Hid _ := hS)
  go_ret2
  exact ⟨t, k, rfl, hS.out, hb⟩
set_option maxRecDepth 100000 in
set_option maxHeartbeats 4000000 in
theorem desk_do_pow (w : World) (v : Value) (W : List (List UInt8)) (h : IsB w v W) (hs : ∀ l ∈ W, l.length ≤ 1000000000) (h9 : W.length ≤ 1000000) (ht : Tab w) :
    Calls Tryz.prog 28 #[.string { data := #[112, 111, 119] }, v] w fun e w' => ∃ t k, e = .returned (.tuple #[.string (bs t), .int .i64 k]) ∧ Says t k (linV [112, 111, 119] W) ∧ Below w.heap.size w w' := by
  have c := desk_ofTwo 37 (enters_of Tryz.func37 (by kernel_rfl) rfl) fW fW_64 (fun a b W ha hb => field_Pow a b ha hb W) w v W h hs h9 ht (linV [112, 111, 119] W)
    (fun h1 h2 => by rw [num_yes ⟨by decide, by decide, by decide, by decide⟩ h1 ((cntK_two (by decide) _).mpr h2), ansV_pow])
    (fun q => num_no ⟨by decide, by decide, by decide, by decide⟩ (fun r => q ⟨r.1, (cntK_two (by decide) _).mp r.2⟩))
  obtain ⟨a, cap, rfl⟩ := h.len
  clear h hs h9 ht
  generalize linV [112, 111, 119] W = R at *
  go_enter Tryz.func28, Tryz.ntmps28
  go_wp2_with (go_at_call 33; refine Calls.mono c ?_; rintro e w1 ⟨t, k, rfl, hS, hb⟩; clear c; replace hS : Hid _ := hS)
  go_ret2
  exact ⟨t, k, rfl, hS.out, hb⟩
set_option maxRecDepth 100000 in
set_option maxHeartbeats 4000000 in
theorem desk_do_inv (w : World) (v : Value) (W : List (List UInt8)) (h : IsB w v W) (hs : ∀ l ∈ W, l.length ≤ 1000000000) (h9 : W.length ≤ 1000000) (ht : Tab w) :
    Calls Tryz.prog 28 #[.string { data := #[105, 110, 118] }, v] w fun e w' => ∃ t k, e = .returned (.tuple #[.string (bs t), .int .i64 k]) ∧ Says t k (linV [105, 110, 118] W) ∧ Below w.heap.size w w' := by
  have c := desk_ofOne 39 (enters_of Tryz.func39 (by kernel_rfl) rfl) invN invE invN_64 invE_le (fun a W ha => inv_call a W ha) w v W h hs h9 ht (linV [105, 110, 118] W)
    (fun h1 h2 => by
      rw [num_yes ⟨by decide, by decide, by decide, by decide⟩ h1 ((cntK_one (by decide) _).mpr h2), ansV_inv]
      unfold invN invE
      split
      · rw [if_neg (by decide)]
      · rw [if_pos rfl])
    (fun q => num_no ⟨by decide, by decide, by decide, by decide⟩ (fun r => q ⟨r.1, (cntK_one (by decide) _).mp r.2⟩))
  obtain ⟨a, cap, rfl⟩ := h.len
  clear h hs h9 ht
  generalize linV [105, 110, 118] W = R at *
  go_enter Tryz.func28, Tryz.ntmps28
  go_wp2_with (go_at_call 38; refine Calls.mono c ?_; rintro e w1 ⟨t, k, rfl, hS, hb⟩; clear c; replace hS : Hid _ := hS)
  go_ret2
  exact ⟨t, k, rfl, hS.out, hb⟩
set_option maxRecDepth 100000 in
set_option maxHeartbeats 4000000 in
theorem desk_do_root (w : World) (v : Value) (W : List (List UInt8)) (h : IsB w v W) (hs : ∀ l ∈ W, l.length ≤ 1000000000) (h9 : W.length ≤ 1000000) (ht : Tab w) :
    Calls Tryz.prog 28 #[.string { data := #[114, 111, 111, 116] }, v] w fun e w' => ∃ t k, e = .returned (.tuple #[.string (bs t), .int .i64 k]) ∧ Says t k (linV [114, 111, 111, 116] W) ∧ Below w.heap.size w w' := by
  have c := desk_ofOne 40 (enters_of Tryz.func40 (by kernel_rfl) rfl) rotN rotE rotN_64 rotE_le (fun a W ha => rot_call a W ha) w v W h hs h9 ht (linV [114, 111, 111, 116] W)
    (fun h1 h2 => by
      rw [num_yes ⟨by decide, by decide, by decide, by decide⟩ h1 ((cntK_one (by decide) _).mpr h2), ansV_root]
      unfold rotN rotE
      split
      · rw [if_neg (by decide)]
      · rw [if_pos rfl])
    (fun q => num_no ⟨by decide, by decide, by decide, by decide⟩ (fun r => q ⟨r.1, (cntK_one (by decide) _).mp r.2⟩))
  obtain ⟨a, cap, rfl⟩ := h.len
  clear h hs h9 ht
  generalize linV [114, 111, 111, 116] W = R at *
  go_enter Tryz.func28, Tryz.ntmps28
  go_wp2_with (go_at_call 38; refine Calls.mono c ?_; rintro e w1 ⟨t, k, rfl, hS, hb⟩; clear c; replace hS : Hid _ := hS)
  go_ret2
  exact ⟨t, k, rfl, hS.out, hb⟩
set_option maxRecDepth 100000 in
set_option maxHeartbeats 4000000 in
theorem desk_do_ntt (w : World) (v : Value) (W : List (List UInt8)) (h : IsB w v W) (hs : ∀ l ∈ W, l.length ≤ 1000000000) (h9 : W.length ≤ 1000000) (ht : Tab w) :
    Calls Tryz.prog 28 #[.string { data := #[110, 116, 116] }, v] w fun e w' => ∃ t k, e = .returned (.tuple #[.string (bs t), .int .i64 k]) ∧ Says t k (linV [110, 116, 116] W) ∧ Below w.heap.size w w' := by
  have c := desk_ofList 42 (enters_of Tryz.func42 (by kernel_rfl) rfl) fwL pwE fwL_le pwE_le (fun xs u W hU hT => fwL_call xs u W hU hT) w v W h hs h9 ht (linV [110, 116, 116] W)
    (fun h1 => by
      rw [num_yes ⟨by decide, by decide, by decide, by decide⟩ h1 (cntK_any (by decide) _), ansV_ntt]
      unfold nttV pwE fwL
      split
      · rw [if_pos rfl]
      · rw [if_neg (by decide)])
    (fun q => num_no ⟨by decide, by decide, by decide, by decide⟩ (fun r => by rw [q] at r; cases r.1))
  obtain ⟨a, cap, rfl⟩ := h.len
  clear h hs h9 ht
  generalize linV [110, 116, 116] W = R at *
  go_enter Tryz.func28, Tryz.ntmps28
  go_wp2_with (go_at_call 41; refine Calls.mono c ?_; rintro e w1 ⟨t, k, rfl, hS, hb⟩; clear c; replace hS : Hid _ := hS)
  go_ret2
  exact ⟨t, k, rfl, hS.out, hb⟩
set_option maxRecDepth 100000 in
set_option maxHeartbeats 4000000 in
theorem desk_do_back (w : World) (v : Value) (W : List (List UInt8)) (h : IsB w v W) (hs : ∀ l ∈ W, l.length ≤ 1000000000) (h9 : W.length ≤ 1000000) (ht : Tab w) :
    Calls Tryz.prog 28 #[.string { data := #[98, 97, 99, 107] }, v] w fun e w' => ∃ t k, e = .returned (.tuple #[.string (bs t), .int .i64 k]) ∧ Says t k (linV [98, 97, 99, 107] W) ∧ Below w.heap.size w w' := by
  have c := desk_ofList 43 (enters_of Tryz.func43 (by kernel_rfl) rfl) bwL pwE bwL_le pwE_le (fun xs u W hU hT => bwL_call xs u W hU hT) w v W h hs h9 ht (linV [98, 97, 99, 107] W)
    (fun h1 => by
      rw [num_yes ⟨by decide, by decide, by decide, by decide⟩ h1 (cntK_any (by decide) _), ansV_back]
      unfold bckV pwE bwL
      split
      · rw [if_pos rfl]
      · rw [if_neg (by decide)])
    (fun q => num_no ⟨by decide, by decide, by decide, by decide⟩ (fun r => by rw [q] at r; cases r.1))
  obtain ⟨a, cap, rfl⟩ := h.len
  clear h hs h9 ht
  generalize linV [98, 97, 99, 107] W = R at *
  go_enter Tryz.func28, Tryz.ntmps28
  go_wp2_with (go_at_call 41; refine Calls.mono c ?_; rintro e w1 ⟨t, k, rfl, hS, hb⟩; clear c; replace hS : Hid _ := hS)
  go_ret2
  exact ⟨t, k, rfl, hS.out, hb⟩
set_option maxRecDepth 100000 in
set_option maxHeartbeats 4000000 in
theorem desk_do_cyclic (w : World) (v : Value) (W : List (List UInt8)) (h : IsB w v W) (hs : ∀ l ∈ W, l.length ≤ 1000000000) (h9 : W.length ≤ 1000000) (ht : Tab w) :
    Calls Tryz.prog 28 #[.string { data := #[99, 121, 99, 108, 105, 99] }, v] w fun e w' => ∃ t k, e = .returned (.tuple #[.string (bs t), .int .i64 k]) ∧ Says t k (linV [99, 121, 99, 108, 105, 99] W) ∧ Below w.heap.size w w' := by
  have c := desk_ofLists 45 (enters_of Tryz.func45 (by kernel_rfl) rfl) cyL cyE cyL_le cyE_le (fun xs ys u u' W hU hU' hT => cy_call xs ys u u' W hU hU' hT) w v W h hs h9 ht (linV [99, 121, 99, 108, 105, 99] W)
    (fun q => by rw [linV_cyclic]; unfold pairV; rw [q])
    (fun k q r => by
      rw [linV_cyclic]
      unfold pairV
      rw [q]
      dsimp only
      rw [if_pos r]
      unfold prdV cyE cyL
      rw [if_neg (by decide)]
      split
      · rw [if_pos rfl]
      · rw [if_neg (by decide)])
    (fun k q r => by
      rw [linV_cyclic]
      unfold pairV
      rw [q]
      dsimp only
      rw [if_neg r])
  obtain ⟨a, cap, rfl⟩ := h.len
  clear h hs h9 ht
  generalize linV [99, 121, 99, 108, 105, 99] W = R at *
  go_enter Tryz.func28, Tryz.ntmps28
  go_wp2_with (go_at_call 44; refine Calls.mono c ?_; rintro e w1 ⟨t, k, rfl, hS, hb⟩; clear c; replace hS : Hid _ := hS)
  go_ret2
  exact ⟨t, k, rfl, hS.out, hb⟩
set_option maxRecDepth 100000 in
set_option maxHeartbeats 4000000 in
theorem desk_do_linear (w : World) (v : Value) (W : List (List UInt8)) (h : IsB w v W) (hs : ∀ l ∈ W, l.length ≤ 1000000000) (h9 : W.length ≤ 1000000) (ht : Tab w) :
    Calls Tryz.prog 28 #[.string { data := #[108, 105, 110, 101, 97, 114] }, v] w fun e w' => ∃ t k, e = .returned (.tuple #[.string (bs t), .int .i64 k]) ∧ Says t k (linV [108, 105, 110, 101, 97, 114] W) ∧ Below w.heap.size w w' := by
  have c := desk_ofLists 46 (enters_of Tryz.func46 (by kernel_rfl) rfl) liL liE liL_le liE_le (fun xs ys u u' W hU hU' hT => li_call xs ys u u' W hU hU' hT) w v W h hs h9 ht (linV [108, 105, 110, 101, 97, 114] W)
    (fun q => by rw [linV_linear]; unfold pairV; rw [q])
    (fun k q r => by
      rw [linV_linear]
      unfold pairV
      rw [q]
      dsimp only
      rw [if_pos r]
      unfold prdV liE liL
      rw [if_pos rfl]
      split
      · rw [if_neg (by decide)]
      · rw [if_pos rfl])
    (fun k q r => by
      rw [linV_linear]
      unfold pairV
      rw [q]
      dsimp only
      rw [if_neg r])
  obtain ⟨a, cap, rfl⟩ := h.len
  clear h hs h9 ht
  generalize linV [108, 105, 110, 101, 97, 114] W = R at *
  go_enter Tryz.func28, Tryz.ntmps28
  go_wp2_with (go_at_call 44; refine Calls.mono c ?_; rintro e w1 ⟨t, k, rfl, hS, hb⟩; clear c; replace hS : Hid _ := hS)
  go_ret2
  exact ⟨t, k, rfl, hS.out, hb⟩
set_option maxRecDepth 100000 in
set_option maxHeartbeats 4000000 in
theorem desk_do_sum (w : World) (v : Value) (W : List (List UInt8)) (h : IsB w v W) (_hs : ∀ l ∈ W, l.length ≤ 1000000000) (_h9 : W.length ≤ 1000000) (ht : Tab w) :
    Calls Tryz.prog 28 #[.string { data := #[115, 117, 109] }, v] w fun e w' => ∃ t k, e = .returned (.tuple #[.string (bs t), .int .i64 k]) ∧ Says t k (linV [115, 117, 109] W) ∧ Below w.heap.size w w' := by
  have c := desk_ofTexts 48 (enters_of Tryz.func48 (by kernel_rfl) rfl) (bgT false) (fun s t W hT => bigAdd_call s t W hT) w v W h ht (linV [115, 117, 109] W)
    (fun q => by rw [linV_sum]; unfold bigV bgT; rw [if_pos q])
    (fun q => by rw [linV_sum]; unfold bigV; rw [if_neg q])
  obtain ⟨a, cap, rfl⟩ := h.len
  clear h ht
  generalize linV [115, 117, 109] W = R at *
  go_enter Tryz.func28, Tryz.ntmps28
  go_wp2_with (go_at_call 47; refine Calls.mono c ?_; rintro e w1 ⟨t, k, rfl, hS, hb⟩; clear c; replace hS : Hid _ := hS)
  go_ret2
  exact ⟨t, k, rfl, hS.out, hb⟩
set_option maxRecDepth 100000 in
set_option maxHeartbeats 4000000 in
theorem desk_do_times (w : World) (v : Value) (W : List (List UInt8)) (h : IsB w v W) (_hs : ∀ l ∈ W, l.length ≤ 1000000000) (_h9 : W.length ≤ 1000000) (ht : Tab w) :
    Calls Tryz.prog 28 #[.string { data := #[116, 105, 109, 101, 115] }, v] w fun e w' => ∃ t k, e = .returned (.tuple #[.string (bs t), .int .i64 k]) ∧ Says t k (linV [116, 105, 109, 101, 115] W) ∧ Below w.heap.size w w' := by
  have c := desk_ofTexts 49 (enters_of Tryz.func49 (by kernel_rfl) rfl) (bgT true) (fun s t W hT => bigMul_call s t W hT) w v W h ht (linV [116, 105, 109, 101, 115] W)
    (fun q => by rw [linV_times]; unfold bigV bgT; rw [if_pos q])
    (fun q => by rw [linV_times]; unfold bigV; rw [if_neg q])
  obtain ⟨a, cap, rfl⟩ := h.len
  clear h ht
  generalize linV [116, 105, 109, 101, 115] W = R at *
  go_enter Tryz.func28, Tryz.ntmps28
  go_wp2_with (go_at_call 47; refine Calls.mono c ?_; rintro e w1 ⟨t, k, rfl, hS, hb⟩; clear c; replace hS : Hid _ := hS)
  go_ret2
  exact ⟨t, k, rfl, hS.out, hb⟩
set_option maxRecDepth 100000 in
set_option maxHeartbeats 4000000 in
theorem desk_do_plan (w : World) (v : Value) (W : List (List UInt8)) (h : IsB w v W) (hs : ∀ l ∈ W, l.length ≤ 1000000000) (h9 : W.length ≤ 1000000) (ht : Tab w) :
    Calls Tryz.prog 28 #[.string { data := #[112, 108, 97, 110] }, v] w fun e w' => ∃ t k, e = .returned (.tuple #[.string (bs t), .int .i64 k]) ∧ Says t k (linV [112, 108, 97, 110] W) ∧ Below w.heap.size w w' := by
  have c := desk_planOf w v W h hs h9 ht (linV [112, 108, 97, 110] W)
    (fun h1 h2 => by rw [num_yes ⟨by decide, by decide, by decide, by decide⟩ h1 ((cntK_some (by decide) _).mpr h2), ansV_plan])
    (fun q => num_no ⟨by decide, by decide, by decide, by decide⟩ (fun r => q ⟨r.1, (cntK_some (by decide) _).mp r.2⟩))
  obtain ⟨a, cap, rfl⟩ := h.len
  clear h hs h9 ht
  generalize linV [112, 108, 97, 110] W = R at *
  go_enter Tryz.func28, Tryz.ntmps28
  go_wp2_with (go_at_call 50; refine Calls.mono c ?_; rintro e w1 ⟨t, k, rfl, hS, hb⟩; clear c; replace hS : Hid _ := hS)
  go_ret2
  exact ⟨t, k, rfl, hS.out, hb⟩
set_option maxRecDepth 100000 in
set_option maxHeartbeats 4000000 in
theorem desk_do_share (w : World) (v : Value) (W : List (List UInt8)) (h : IsB w v W) (hs : ∀ l ∈ W, l.length ≤ 1000000000) (h9 : W.length ≤ 1000000) (ht : Tab w) :
    Calls Tryz.prog 28 #[.string { data := #[115, 104, 97, 114, 101] }, v] w fun e w' => ∃ t k, e = .returned (.tuple #[.string (bs t), .int .i64 k]) ∧ Says t k (linV [115, 104, 97, 114, 101] W) ∧ Below w.heap.size w w' := by
  have c := desk_shareOf w v W h hs h9 ht (linV [115, 104, 97, 114, 101] W)
    (fun h1 h2 => by rw [num_yes ⟨by decide, by decide, by decide, by decide⟩ h1 ((cntK_some (by decide) _).mpr h2), ansV_share])
    (fun q => num_no ⟨by decide, by decide, by decide, by decide⟩ (fun r => q ⟨r.1, (cntK_some (by decide) _).mp r.2⟩))
  obtain ⟨a, cap, rfl⟩ := h.len
  clear h hs h9 ht
  generalize linV [115, 104, 97, 114, 101] W = R at *
  go_enter Tryz.func28, Tryz.ntmps28
  go_wp2_with (go_at_call 51; refine Calls.mono c ?_; rintro e w1 ⟨t, k, rfl, hS, hb⟩; clear c; replace hS : Hid _ := hS)
  go_ret2
  exact ⟨t, k, rfl, hS.out, hb⟩
set_option maxRecDepth 100000 in
set_option maxHeartbeats 4000000 in
theorem desk_do_no (w : World) (v : Value) (verb : List UInt8) (W : List (List UInt8)) (h : IsB w v W) (k0 : verb ≠ [97, 100, 100]) (k1 : verb ≠ [115, 117, 98]) (k2 : verb ≠ [109, 117, 108]) (k3 : verb ≠ [112, 111, 119]) (k4 : verb ≠ [105, 110, 118]) (k5 : verb ≠ [114, 111, 111, 116]) (k6 : verb ≠ [110, 116, 116]) (k7 : verb ≠ [98, 97, 99, 107]) (k8 : verb ≠ [99, 121, 99, 108, 105, 99]) (k9 : verb ≠ [108, 105, 110, 101, 97, 114]) (k10 : verb ≠ [115, 117, 109]) (k11 : verb ≠ [116, 105, 109, 101, 115]) (k12 : verb ≠ [112, 108, 97, 110]) (k13 : verb ≠ [115, 104, 97, 114, 101]) :
    Calls Tryz.prog 28 #[.string (bs verb), v] w fun e w' => ∃ t k, e = .returned (.tuple #[.string (bs t), .int .i64 k]) ∧ Says t k (linV verb W) ∧ Below w.heap.size w w' := by
  have hV : Hid (linV verb W = wrg 3) := by
    show _ = _
    rw [linV_num ⟨k8, k9, k10, k11⟩]
    unfold numV
    split
    · exact ansV_no ⟨k0, k1, k2, k3, k4, k5, k6, k7, k12, k13⟩ _
    · rfl
  have hb := bs_list verb
  have g0 : ((bs verb).toList == [97, 100, 100]) = false := by rw [hb, beq_eq_false_iff_ne]; exact k0
  have g1 : ((bs verb).toList == [115, 117, 98]) = false := by rw [hb, beq_eq_false_iff_ne]; exact k1
  have g2 : ((bs verb).toList == [109, 117, 108]) = false := by rw [hb, beq_eq_false_iff_ne]; exact k2
  have g3 : ((bs verb).toList == [112, 111, 119]) = false := by rw [hb, beq_eq_false_iff_ne]; exact k3
  have g4 : ((bs verb).toList == [105, 110, 118]) = false := by rw [hb, beq_eq_false_iff_ne]; exact k4
  have g5 : ((bs verb).toList == [114, 111, 111, 116]) = false := by rw [hb, beq_eq_false_iff_ne]; exact k5
  have g6 : ((bs verb).toList == [110, 116, 116]) = false := by rw [hb, beq_eq_false_iff_ne]; exact k6
  have g7 : ((bs verb).toList == [98, 97, 99, 107]) = false := by rw [hb, beq_eq_false_iff_ne]; exact k7
  have g8 : ((bs verb).toList == [99, 121, 99, 108, 105, 99]) = false := by rw [hb, beq_eq_false_iff_ne]; exact k8
  have g9 : ((bs verb).toList == [108, 105, 110, 101, 97, 114]) = false := by rw [hb, beq_eq_false_iff_ne]; exact k9
  have g10 : ((bs verb).toList == [115, 117, 109]) = false := by rw [hb, beq_eq_false_iff_ne]; exact k10
  have g11 : ((bs verb).toList == [116, 105, 109, 101, 115]) = false := by rw [hb, beq_eq_false_iff_ne]; exact k11
  have g12 : ((bs verb).toList == [112, 108, 97, 110]) = false := by rw [hb, beq_eq_false_iff_ne]; exact k12
  have g13 : ((bs verb).toList == [115, 104, 97, 114, 101]) = false := by rw [hb, beq_eq_false_iff_ne]; exact k13
  obtain ⟨a, cap, rfl⟩ := h.len
  clear hb h k0 k1 k2 k3 k4 k5 k6 k7 k8 k9 k10 k11 k12 k13
  generalize linV verb W = R at *
  generalize bs verb = S at *
  go_enter Tryz.func28, Tryz.ntmps28
  go_wp2
  go_ret2
  exact ⟨[], 3, rfl, Says.err (by decide) (by decide) hV.out.symm, Below.refl _ _⟩
theorem desk_do (w : World) (v : Value) (verb : List UInt8) (W : List (List UInt8)) (h : IsB w v W) (hs : ∀ l ∈ W, l.length ≤ 1000000000) (h9 : W.length ≤ 1000000) (ht : Tab w) :
    Calls Tryz.prog 28 #[.string (bs verb), v] w fun e w' => ∃ t k, e = .returned (.tuple #[.string (bs t), .int .i64 k]) ∧ Says t k (linV verb W) ∧ Below w.heap.size w w' := by
  by_cases k0 : verb = [97, 100, 100]
  · subst k0
    exact desk_do_add w v W h hs h9 ht
  by_cases k1 : verb = [115, 117, 98]
  · subst k1
    exact desk_do_sub w v W h hs h9 ht
  by_cases k2 : verb = [109, 117, 108]
  · subst k2
    exact desk_do_mul w v W h hs h9 ht
  by_cases k3 : verb = [112, 111, 119]
  · subst k3
    exact desk_do_pow w v W h hs h9 ht
  by_cases k4 : verb = [105, 110, 118]
  · subst k4
    exact desk_do_inv w v W h hs h9 ht
  by_cases k5 : verb = [114, 111, 111, 116]
  · subst k5
    exact desk_do_root w v W h hs h9 ht
  by_cases k6 : verb = [110, 116, 116]
  · subst k6
    exact desk_do_ntt w v W h hs h9 ht
  by_cases k7 : verb = [98, 97, 99, 107]
  · subst k7
    exact desk_do_back w v W h hs h9 ht
  by_cases k8 : verb = [99, 121, 99, 108, 105, 99]
  · subst k8
    exact desk_do_cyclic w v W h hs h9 ht
  by_cases k9 : verb = [108, 105, 110, 101, 97, 114]
  · subst k9
    exact desk_do_linear w v W h hs h9 ht
  by_cases k10 : verb = [115, 117, 109]
  · subst k10
    exact desk_do_sum w v W h hs h9 ht
  by_cases k11 : verb = [116, 105, 109, 101, 115]
  · subst k11
    exact desk_do_times w v W h hs h9 ht
  by_cases k12 : verb = [112, 108, 97, 110]
  · subst k12
    exact desk_do_plan w v W h hs h9 ht
  by_cases k13 : verb = [115, 104, 97, 114, 101]
  · subst k13
    exact desk_do_share w v W h hs h9 ht
  exact desk_do_no w v verb W h k0 k1 k2 k3 k4 k5 k6 k7 k8 k9 k10 k11 k12 k13

end Go.Proofs.YtmggccepmicjhagGreatDoor
