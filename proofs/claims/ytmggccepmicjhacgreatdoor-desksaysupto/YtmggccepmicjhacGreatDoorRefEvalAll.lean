/-
  Texts that stood one behind the other, as one.
-/
import Derived.Test.YtmggccepmicjhacGreatDoorPlanVAll
import Derived.Test.YtmggccepmicjhacGreatDoorSlAll
import Derived.Test.YtmggccepmicjhacGreatDoorPure
import Derived.Test.YtmggccepmicjhacGreatDoorSlRowAll
import Derived.Test.YtmggccepmicjhacGreatDoorItoaAll
import Derived.Test.YtmggccepmicjhacGreatDoorRefPlanAll
import Derived.Shelf.SlSortCmp.QuietGrown
/-! What Eval of package goldref answers: the value of a polynomial at a place. -/
namespace Go.Proofs.YtmggccepmicjhacGreatDoor
open Go.RowKit
set_option maxRecDepth 100000

/-- The first k summands; the k-th power. -/
def evK (xs : List Nat) (x k : Nat) : Nat := (S k (fun i => gf (xs.map toF) i * pw (toF x) i)).val
def pwK (x k : Nat) : Nat := (pw (toF x) k).val
theorem evK_succ (xs : List Nat) (x k : Nat) : fA (evK xs x k) (fM (xs.getD k 0) (pwK x k)) = evK xs x (k + 1) := by
  unfold evK pwK
  rw [S_succ, fA_val, toF_val, toF_fM, toF_val, ← cf_gf]; rfl
theorem pwK_succ (x k : Nat) : fM (pwK x k) x = pwK x (k + 1) := by
  unfold pwK
  rw [fM_val, toF_val, pw_succ]
theorem evK_all (xs : List Nat) (x : Nat) : evK xs x xs.length = pE xs x := by
  unfold evK pE
  rw [evF_S, List.length_map]
theorem evK_lt (xs : List Nat) (x k : Nat) : (evK xs x k : Int) < 18446744069414584321 := lt_int (val_lt _)
theorem pwK_lt (x k : Nat) : (pwK x k : Int) < 18446744069414584321 := lt_int (val_lt _)
theorem pE_lt (xs : List Nat) (x : Nat) : (pE xs x : Int) < 18446744069414584321 := lt_int (val_lt _)

set_option maxHeartbeats 1000000 in
theorem ref_Eval (w : World) (v : Value) (xs : List Nat) (x : Nat) (h : IsU w v xs) :
    Calls Tryz.prog 101 #[v, .int .u64 (x : Int)] w fun e w' => e = .returned (.int .u64 ((pE xs x : Nat) : Int)) ∧ w' = w := by
  obtain ⟨a, cap, rfl, hcap, hmax, hc, hr⟩ := h
  have hlen : (xs.length : Int) ≤ 9223372036854775807 := by unfold maxLen at hmax; omega
  clear hcap hmax hr
  go_enter Tryz.func101, Tryz.ntmps101
  go_wp2
  go_loop [5, 6, 7] (fun vo vp vi => ∃ k : Nat, k ≤ xs.length ∧ vi = .int .i64 (k : Int) ∧ vo = .int .u64 ((evK xs x k : Nat) : Int) ∧ vp = .int .u64 ((pwK x k : Nat) : Int))
    (fun _ _ vi => xs.length - (intOf vi).toNat)
  case atStart => exact ⟨0, Nat.zero_le _, rfl, rfl, rfl⟩
  case round =>
    obtain ⟨k, hk, rfl, rfl, rfl⟩ := hrel
    by_cases hlt : k < xs.length
    · obtain ⟨b, off, rfl, hcell⟩ := hc k hlt
      have c1 := ref_Mul (xs.getD k 0) (pwK x k)
      have c2 := ref_Add (evK xs x k) (fM (xs.getD k 0) (pwK x k))
      have c3 := ref_Mul (pwK x k) x
      rw [evK_succ] at c2
      rw [pwK_succ] at c3
      clear hc
      generalize fM (xs.getD k 0) (pwK x k) = m at *
      generalize xs.getD k 0 = y at *
      have tok : True := trivial
      go_wp2_with (first
        | (go_at_call 63; have _t := tok; refine Calls.mono (c1 _) ?_; rintro e w' ⟨rfl, hw⟩; rw [hw]; clear hw tok)
        | (go_at_call 62; refine Calls.mono (c2 _) ?_; rintro e w' ⟨rfl, hw⟩; rw [hw]; clear hw)
        | (go_at_call 63; refine Calls.mono (c3 _) ?_; rintro e w' ⟨rfl, hw⟩; rw [hw]; clear hw))
      go_round
      case rel => exact ⟨k + 1, by omega, by go_num, rfl, rfl⟩
      case measure => simp only [intOf]; omega
    · have e : k = xs.length := by omega
      have e2 := evK_all xs x
      rw [← e] at e2
      rw [e2]
      have hge : xs.length ≤ k := by omega
      clear hc e2 e
      go_wp2
      go_ret
      exact ⟨rfl, rfl⟩

end Go.Proofs.YtmggccepmicjhacGreatDoor

/-! What Pow of package goldref answers, for all numbers of 64 bits: the same number as that of package field. -/
namespace Go.Proofs.YtmggccepmicjhacGreatDoor
open Go.RowKit
set_option maxRecDepth 100000

/-! ### Pow: from the highest bit -/
theorem pow_dbl (x y t : Nat) (h : y / 2 ^ t % 2 = 0) : fM (fW x (y / 2 ^ (t + 1))) (fW x (y / 2 ^ (t + 1))) = fW x (y / 2 ^ t) := by
  have e := half_step y t
  rw [h] at e
  rw [e, fM_eq, fW_eq, fW_eq, ← Nat.mul_mod, ← Nat.pow_add]
  congr 2
  omega
theorem pow_dbl1 (x y t : Nat) (h : y / 2 ^ t % 2 = 1) : fM (fM (fW x (y / 2 ^ (t + 1))) (fW x (y / 2 ^ (t + 1)))) x = fW x (y / 2 ^ t) := by
  have e := half_step y t
  rw [h] at e
  rw [e, fM_eq, fM_eq, fW_eq, fW_eq, ← Nat.mul_mod, ← Nat.pow_add, Nat.mod_mul_mod, ← Nat.pow_succ]
  congr 2
  omega
theorem pow_top (x y : Nat) (hy : (y : Int) < 18446744073709551616) : fW x (y / 2 ^ 64) = 1 := by
  have e : y / 2 ^ 64 = 0 := Nat.div_eq_of_lt (by omega)
  rw [e, fW_eq, Nat.pow_zero]; rfl

set_option maxHeartbeats 1000000 in
theorem ref_Pow (x y : Nat) (hy : (y : Int) < 18446744073709551616) (w : World) :
    Calls Tryz.prog 66 #[.int .u64 (x : Int), .int .u64 (y : Int)] w fun e w' => e = .returned (.int .u64 ((fW x y : Nat) : Int)) ∧ w' = w := by
  go_enter Tryz.func66, Tryz.ntmps66
  go_wp2
  go_loop [5, 6] (fun vo vi => ∃ (j : Nat) (q : Int), vo = .int .u64 ((fW x (y / 2 ^ j) : Nat) : Int) ∧ vi = .int .i64 q ∧ q = (j : Int) - 1 ∧ j ≤ 64)
    (fun _ vi => (intOf vi + 1).toNat)
  case atStart => exact ⟨64, 63, by rw [pow_top x y hy]; rfl, rfl, rfl, by omega⟩
  case round =>
    obtain ⟨j, q, rfl, rfl, hq, hj⟩ := hrel
    rcases j with _ | t
    · have e : q = -1 := by omega
      subst e
      clear hq hj
      rw [Nat.pow_zero, Nat.div_one]
      go_wp2
      go_ret
      exact ⟨rfl, rfl⟩
    · have e : q = (t : Int) := by omega
      subst e
      clear hq
      have hbit := bit_cast y t
      rcases Nat.mod_two_eq_zero_or_one (y / 2 ^ t) with h | h
      · rw [h, Int.natCast_zero] at hbit
        have hp := pow_dbl x y t h
        generalize fW x (y / 2 ^ (t + 1)) = o at *
        have hp2 : Hid (fM o o = fW x (y / 2 ^ t)) := hp
        clear hp h
        go_wp2_with (go_at_call 63; refine Calls.mono (ref_Mul _ _ _) ?_; rintro e w' ⟨rfl, hw⟩; rw [hw]; clear hw)
        go_round
        case rel => exact ⟨t, (t : Int) - 1, by rw [← hp2.out], by go_num, rfl, by omega⟩
        case measure => simp only [intOf]; omega
      · rw [h, Int.natCast_one] at hbit
        have hp := pow_dbl1 x y t h
        generalize fW x (y / 2 ^ (t + 1)) = o at *
        have hp2 : Hid (fM (fM o o) x = fW x (y / 2 ^ t)) := hp
        clear hp h
        go_wp2_with (go_at_call 63; refine Calls.mono (ref_Mul _ _ _) ?_; rintro e w' ⟨rfl, hw⟩; rw [hw]; clear hw)
        go_round
        case rel => exact ⟨t, (t : Int) - 1, by rw [← hp2.out], by go_num, rfl, by omega⟩
        case measure => simp only [intOf]; omega

end Go.Proofs.YtmggccepmicjhacGreatDoor

/-! What Root and In of package goldref answer: a root is the power of 7; a number lies between two others or not. -/
namespace Go.Proofs.YtmggccepmicjhacGreatDoor
open Go.RowKit
set_option maxRecDepth 100000

theorem half_half (i : Nat) : 18446744069414584320 / 2 ^ (i + 1) = 18446744069414584320 / 2 ^ i / 2 := by
  rw [Nat.pow_succ, Nat.div_div_eq_div_mul]

set_option maxHeartbeats 1000000 in
theorem ref_Root (k : Nat) (hk : (k : Int) ≤ 32) (w : World) :
    Calls Tryz.prog 69 #[.int .i64 (k : Int)] w fun e w' => e = .returned (.int .u64 ((fW 7 (18446744069414584320 / 2 ^ k) : Nat) : Int)) ∧ w' = w := by
  go_enter Tryz.func69, Tryz.ntmps69
  go_wp2
  go_loop [3, 4] (fun vn vi => ∃ i m : Nat, vn = .int .u64 (m : Int) ∧ vi = .int .i64 (i : Int) ∧ (i : Int) ≤ (k : Int) ∧ (m : Int) < 18446744073709551616 ∧ Hid (m = 18446744069414584320 / 2 ^ i))
    (fun _ vi => (k - (intOf vi)).toNat)
  case atStart => exact ⟨0, 18446744069414584320, rfl, rfl, by omega, by omega, by show _ = _; rw [Nat.pow_zero, Nat.div_one]⟩
  case round =>
    obtain ⟨i, m, rfl, rfl, hi, hm, hM⟩ := hrel
    by_cases hlt : (i : Int) < (k : Int)
    · have hd : decide (i < k) = true := decide_eq_true (by omega)
      have hM' : Hid (m / 2 = 18446744069414584320 / 2 ^ (i + 1)) := by
        show m / 2 = _
        rw [half_half, ← hM.out]
      go_wp2
      go_round
      case rel => exact ⟨i + 1, m / 2, by go_num, by go_num, by omega, by omega, hM'⟩
      case measure => simp only [intOf]; omega
    · have e : i = k := by omega
      subst e
      have hd : decide (i < i) = false := decide_eq_false (by omega)
      clear hlt hi
      have hM' := hM.out
      have c := ref_Pow 7 m hm
      have c' : ∀ w, Calls Tryz.prog 66 #[.int .u64 7, .int .u64 (m : Int)] w fun e w' => e = .returned (.int .u64 ((fW 7 (18446744069414584320 / 2 ^ i) : Nat) : Int)) ∧ w' = w := by
        intro w
        rw [← hM']
        exact c w
      clear c hM' hM
      go_wp2_with (go_at_call 66; refine Calls.mono (c' _) ?_; rintro e w' ⟨rfl, hw⟩; rw [hw]; clear hw)
      go_ret
      exact ⟨rfl, rfl⟩

end Go.Proofs.YtmggccepmicjhacGreatDoor

/-! What Symbols of package goldref answers: the values of a polynomial at powers of the root. -/
namespace Go.Proofs.YtmggccepmicjhacGreatDoor
open Go.RowKit
set_option maxRecDepth 100000

/-- Symbol i of data. -/
def symF (xs : List Nat) (i : Nat) : F := evF (xs.map toF) (pw (toF (rt 6)) i)
theorem symF_val (xs : List Nat) (i : Nat) : (symF xs i).val = pE xs (fW (rt 6) i) := by unfold symF pE; rw [toF_fW]
theorem ref_Root6 (w : World) : Calls Tryz.prog 69 #[.int .i64 6] w fun e w' => e = .returned (.int .u64 ((rt 6 : Nat) : Int)) ∧ w' = w := ref_Root 6 (by decide) w
set_option maxHeartbeats 2000000 in
theorem ref_Symbols (w : World) (v : Value) (xs : List Nat) (n : Nat) (h : IsU w v xs) (hn : n ≤ 1000000) :
    Calls Tryz.prog 76 #[v, .int .i64 (n : Int)] w fun e w' => ∃ u, e = .returned u ∧ IsU w' u (mk n (symF xs)) ∧ Below w.heap.size w w' := by
  have h0 := h
  obtain ⟨a, cap, rfl, hcap, hmax, hc, hr⟩ := h
  clear hc hr hcap hmax
  go_enter Tryz.func76, Tryz.ntmps76
  go_wp2
  go_loopw [5, 6] (fun u vi wr => ∃ k : Nat, k ≤ n ∧ vi = .int .i64 (k : Int) ∧ wr.ownsRow w.heap.size 78 1 u k (rowK k (symF xs)) ∧ Below w.heap.size w wr)
    (fun _ vi _ => n - (intOf vi).toNat)
  case atStart => exact ⟨0, Nat.zero_le _, rfl, World.ownsRow_nil _ _ _ _, Below.refl _ _⟩
  case round =>
    obtain ⟨k, hk, rfl, hown, hnx⟩ := hrel
    have hsz := hnx.size
    by_cases hlt : k < n
    · have cr := ref_Root6
      have cp := ref_Pow (rt 6) k (by omega)
      have ce := ref_Eval wr _ xs (fW (rt 6) k) (h0.below hnx)
      have e : (symF xs k).val = pE xs (fW (rt 6) k) := symF_val xs k
      have hnew := rowK_succ k (symF xs)
      rw [e] at hnew
      clear e h0
      generalize fW (rt 6) k = p at *
      generalize rt 6 = q at *
      generalize pE xs p = z at *
      have hrow : Hid (∀ (w1 : World) (u : Value), w1.ownsRow w.heap.size 78 1 u (k + 1) (rowK k (symF xs) ++ [.int .u64 (z : Int)]) → w1.ownsRow w.heap.size 78 1 u (k + 1) (rowK (k + 1) (symF xs))) := fun w1 u h => by rw [hnew]; exact h
      clear hnew
      go_wp2_with (first
        | (go_at_call 69; refine Calls.mono (cr _) ?_; rintro e w' ⟨rfl, hw⟩; rw [hw]; clear hw)
        | (go_at_call 66; refine Calls.mono (cp _) ?_; rintro e w' ⟨rfl, hw⟩; rw [hw]; clear hw)
        | (go_at_call 101; refine Calls.mono ce ?_; rintro e w' ⟨rfl, hw⟩; rw [hw]; clear hw)
        | (at_builtin; refine wp_append1 rfl _ _ rfl _ _ _ _ rfl hown rfl ?c3 hnx ?_))
      case c3 => omega
      · intro u' w1 hown' hnx'
        have hown2 := hrow.out _ _ hown'
        clear hown' hown hrow hnx
        go_wp2
        go_roundw
        case rel => exact ⟨k + 1, by omega, by go_num, hown2, hnx'⟩
        case measure => simp only [intOf]; omega
    · have e : k = n := by omega
      have hU := rowK_isU hown
      subst e
      have hge : ¬ k < k := Nat.lt_irrefl _
      clear hown h0
      go_wp2
      go_ret
      exact ⟨_, rfl, hU, hnx⟩

end Go.Proofs.YtmggccepmicjhacGreatDoor

/-! What PlanText of package goldref answers: the text of phases. -/
namespace Go.Proofs.YtmggccepmicjhacGreatDoor
open Go.RowKit Go.Sort

/-- The text of a task, of the first k tasks of a phase, of the first i phases. -/
def tkx (r : List Int) : List UInt8 := Lib.itoa (r.getD 0 0) ++ [58] ++ Lib.itoa (r.getD 1 0) ++ [45] ++ Lib.itoa (r.getD 2 0)
def lnx (T : List (List Int)) : Nat → List UInt8
  | 0 => []
  | k + 1 => (if 0 < k then lnx T k ++ [32] else lnx T k) ++ tkx (T.getD k [])
def ptx (L : List (List (List Int))) : Nat → List UInt8
  | 0 => []
  | i + 1 => ptx L i ++ lnx (L.getD i []) (L.getD i []).length ++ [10]

set_option maxRecDepth 100000 in
set_option maxHeartbeats 8000000 in
theorem ref_PlanText (w : World) (vl : Value) (L : List (List (List Int))) (hP : IsP 3 w vl L) (ht : Tab w) (hsz : ∀ i k, i < L.length → k ≤ (L.getD i []).length → (ptx L i ++ lnx (L.getD i []) k).length ≤ 1099511627776) :
    Calls Tryz.prog 74 #[vl] w fun e w' => e = .returned (.string (bs (ptx L L.length))) ∧ Below w.heap.size w w' := by
  obtain ⟨al, cl, rfl, hl0, hl1, hph⟩ := hP
  have hsz' : Hid (∀ i k, i < L.length → k ≤ (L.getD i []).length → (ptx L i ++ lnx (L.getD i []) k).length ≤ 1099511627776) := hsz
  have hLl : L.length ≤ 9223372036854775807 := by unfold maxLen at hl1; omega
  have hph' : Hid (∀ i, i < L.length → ∃ b off u, al = some ⟨b, off, none⟩ ∧ w.cell? ⟨b, off + i, none⟩ = some u ∧ IsR 3 w u (L.getD i [])) := hph
  clear hl0 hl1 hph hsz
  go_enter Tryz.func74, Tryz.ntmps74
  go_wp2
  go_loopw [4, 5] (fun vs vi wr => ∃ (i : Nat), i ≤ L.length ∧ vi = .int .i64 (i : Int) ∧ vs = .string (bs (ptx L i)) ∧ Below w.heap.size w wr)
    (fun _ vi _ => L.length - (intOf vi).toNat)
  case atStart => exact ⟨0, Nat.zero_le _, rfl, rfl, Below.refl _ _⟩
  case round =>
    obtain ⟨i, hi, rfl, rfl, hnx⟩ := hrel
    by_cases hlt : i < L.length
    · obtain ⟨bl, ol, ul, rfl, hcu, hR⟩ := hph'.out i hlt
      have hR0 := hR
      obtain ⟨au, cu, rfl, hTl0, hmu, hrow, -⟩ := hR0
      have hTl : (L.getD i []).length ≤ 9223372036854775807 := by unfold maxLen at hmu; omega
      have hszi : Hid (∀ k, k ≤ (L.getD i []).length → (ptx L i ++ lnx (L.getD i []) k).length ≤ 1099511627776) := fun k hk => hsz'.out i k hlt hk
      have hnext : Hid (ptx L (i + 1) = ptx L i ++ lnx (L.getD i []) (L.getD i []).length ++ [10]) := rfl
      clear hTl0 hmu
      obtain ⟨T, hTe⟩ : ∃ T, T = L.getD i [] := ⟨_, rfl⟩
      rw [← hTe] at hcu hR hrow hTl hszi hnext
      clear hTe
      obtain ⟨S, hS⟩ : ∃ S, S = ptx L i := ⟨_, rfl⟩
      rw [← hS] at hszi hnext ⊢
      clear hS
      go_wp2
      obtain ⟨wk, hwk⟩ : ∃ wk : World, wk = wr := ⟨_, rfl⟩
      rw [← hwk] at hnx ⊢
      clear hwk
      go_loopw [4, 6] (fun vs vk wi => ∃ (k : Nat), k ≤ T.length ∧ vk = .int .i64 (k : Int) ∧ vs = .string (bs (S ++ lnx T k)) ∧ Below w.heap.size w wi)
        (fun _ vk _ => T.length - (intOf vk).toNat)
      case atStart => exact ⟨0, Nat.zero_le _, rfl, by rw [lnx, List.append_nil], hnx⟩
      case round =>
        clear hnx
        obtain ⟨k, hk, rfl, rfl, hnx⟩ := hrel
        have hcu1 := (hnx.cell (block_lt hcu)).trans hcu
        by_cases hlt2 : k < T.length
        · obtain ⟨t0, t1, t2, hTi, hb0, hb1, hb2⟩ := row3 hR k hlt2
          obtain ⟨br, or, rfl, hce⟩ := hrow k hlt2
          rw [hTi] at hce
          have q0 := (hnx.cell (block_lt (hce 0 (by decide)))).trans (hce 0 (by decide))
          have q1 := (hnx.cell (block_lt (hce 1 (by decide)))).trans (hce 1 (by decide))
          have q2 := (hnx.cell (block_lt (hce 2 (by decide)))).trans (hce 2 (by decide))
          replace q0 : wr.cell? ⟨br, or + k * 3, none⟩ = some (.int .i64 t0) := q0
          replace q1 : wr.cell? ⟨br, or + k * 3 + 1, none⟩ = some (.int .i64 t1) := q1
          replace q2 : wr.cell? ⟨br, or + k * 3 + 2, none⟩ = some (.int .i64 t2) := q2
          clear hce
          obtain ⟨A, hA⟩ : ∃ A, A = (if 0 < k then lnx T k ++ [32] else lnx T k) := ⟨_, rfl⟩
          have hsum : Hid (S ++ lnx T (k + 1) = S ++ A ++ tkx [t0, t1, t2]) := by
            show _ = _
            rw [hA, lnx, hTi, ← List.append_assoc]
          have hs1 := hszi.out (k + 1) hlt2
          rw [hsum.out] at hs1
          have hL0 : (S ++ A).length ≤ 1099511627776 ∧ (tkx [t0, t1, t2]).length ≤ 1099511627776 := by rw [List.length_append] at hs1; omega
          have hs9 : (S ++ lnx T k).length ≤ 1099511627776 := hszi.out k (by omega)
          have hlen : Hid (Lib.itoa t0 ++ [58] ++ Lib.itoa t1 ++ [45] ++ Lib.itoa t2 = tkx [t0, t1, t2]) := rfl
          have hW1 := below_alloc1 wr (.cells #[.int .i64 t0, .int .i64 t1, .int .i64 t2] 120)
          have hA0 : (wr.alloc (.cells #[.int .i64 t0, .int .i64 t1, .int .i64 t2] 120)).cell? ⟨wr.heap.size, 0, none⟩ = some (.int .i64 t0) := by rw [World.cell?_alloc_at _ _ _ _ rfl]; rfl
          have hA1 : (wr.alloc (.cells #[.int .i64 t0, .int .i64 t1, .int .i64 t2] 120)).cell? ⟨wr.heap.size, 1, none⟩ = some (.int .i64 t1) := by rw [World.cell?_alloc_at _ _ _ _ rfl]; rfl
          have hA2 : (wr.alloc (.cells #[.int .i64 t0, .int .i64 t1, .int .i64 t2] 120)).cell? ⟨wr.heap.size, 2, none⟩ = some (.int .i64 t2) := by rw [World.cell?_alloc_at _ _ _ _ rfl]; rfl
          obtain ⟨I0, hI0⟩ : ∃ I, I = Lib.itoa t0 := ⟨_, rfl⟩
          obtain ⟨I1, hI1⟩ : ∃ I, I = Lib.itoa t1 := ⟨_, rfl⟩
          obtain ⟨I2, hI2⟩ : ∃ I, I = Lib.itoa t2 := ⟨_, rfl⟩
          have c0 := fun W (hT : Tab W) => itoa_gr W t0 hb0.1 hb0.2 hT
          have c1 := fun W (hT : Tab W) => itoa_gr W t1 hb1.1 hb1.2 hT
          have c2 := fun W (hT : Tab W) => itoa_gr W t2 hb2.1 hb2.2 hT
          rw [← hI0] at hlen c0
          rw [← hI1] at hlen c1
          rw [← hI2] at hlen c2
          obtain ⟨Z, hZ⟩ : ∃ Z, Z = tkx [t0, t1, t2] := ⟨_, rfl⟩
          rw [← hZ] at hlen hL0 hs1 hsum
          clear hZ hI0 hI1 hI2
          have k1 : bs I0 ++ ({ data := #[58] } : ByteArray) = bs (I0 ++ [58]) := bs_append _ [58]
          have k2 : bs (I0 ++ [58]) ++ bs I1 = bs (I0 ++ [58] ++ I1) := bs_append _ _
          have k3 : bs (I0 ++ [58] ++ I1) ++ ({ data := #[45] } : ByteArray) = bs (I0 ++ [58] ++ I1 ++ [45]) := bs_append _ [45]
          have k4 : bs (I0 ++ [58] ++ I1 ++ [45]) ++ bs I2 = bs Z := by rw [bs_append, hlen.out]
          have k5 : bs (S ++ A) ++ bs Z = bs (S ++ A ++ Z) := bs_append _ _
          have hZl : Z.length ≤ 1099511627776 := hL0.2
          have hZ2 := congrArg List.length hlen.out
          simp only [List.length_append, List.length_cons, List.length_nil] at hZ2
          have z0 : (bs I0).size ≤ 1099511627776 := by rw [bs_size]; omega
          have z1 : (bs I1).size ≤ 1099511627776 := by rw [bs_size]; omega
          have z2 : (bs I2).size ≤ 1099511627776 := by rw [bs_size]; omega
          have z3 : (bs (I0 ++ [58])).size ≤ 1099511627776 := by rw [bs_size, List.length_append]; simp only [List.length_cons, List.length_nil]; omega
          have z4 : (bs (I0 ++ [58] ++ I1)).size ≤ 1099511627776 := by rw [bs_size, List.length_append, List.length_append]; simp only [List.length_cons, List.length_nil]; omega
          have z5 : (bs (I0 ++ [58] ++ I1 ++ [45])).size ≤ 1099511627776 := by rw [bs_size, List.length_append, List.length_append, List.length_append]; simp only [List.length_cons, List.length_nil]; omega
          have z6 : (bs Z).size ≤ 1099511627776 := by rw [bs_size]; exact hZl
          have z7 : (bs (S ++ A)).size ≤ 1099511627776 := by rw [bs_size]; exact hL0.1
          have z8 : (bs (S ++ lnx T k)).size ≤ 1099511627776 := by rw [bs_size]; exact hs9
          clear hZ2 hZl hlen
          generalize I0 ++ [58] ++ I1 ++ [45] = J3 at *
          generalize I0 ++ [58] ++ I1 = J2 at *
          generalize I0 ++ [58] = J1 at *
          have n1 : (9223372036854775807 < (bs I0).size + 1) = False := eq_false (by omega)
          have n2 : (9223372036854775807 < (bs J1).size + (bs I1).size) = False := eq_false (by omega)
          have n3 : (9223372036854775807 < (bs J2).size + 1) = False := eq_false (by omega)
          have n4 : (9223372036854775807 < (bs J3).size + (bs I2).size) = False := eq_false (by omega)
          have n5 : (9223372036854775807 < (bs (S ++ A)).size + (bs Z).size) = False := eq_false (by omega)
          by_cases hk0 : 0 < k
          · have hd0 : decide ((0 : Int) < (k : Int)) = true := decide_eq_true (by omega)
            rw [if_pos hk0] at hA
            have hcat0 : bs (S ++ lnx T k) ++ ({ data := #[32] } : ByteArray) = bs (S ++ A) := by rw [hA, ← List.append_assoc]; exact bs_append _ [32]
            clear hA
            go_wp2
            generalize wr.alloc (.cells #[.int .i64 t0, .int .i64 t1, .int .i64 t2] 120) = W1 at *
            have hnx1 := hnx.trans (hW1.mono hnx.size)
            have hT1 : Tab W1 := ht.below hnx1
            obtain ⟨gt, hgt⟩ : ∃ gt, gt = wr.heap.size := ⟨_, rfl⟩
            rw [← hgt] at hA0 hA1 hA2 ⊢
            have y0 := cell_grown (block_lt hA0) hA0
            have y1 := cell_grown (block_lt hA1) hA1
            have y2 := cell_grown (block_lt hA2) hA2
            have c0' := fun n os => c0 (grow (W1.drewN n) os) (hT1.grown n os)
            have c1' := fun n os => c1 (grow (W1.drewN n) os) (hT1.grown n os)
            have c2' := fun n os => c2 (grow (W1.drewN n) os) (hT1.grown n os)
            have mixed : Tryz.prog.follows .mixedOrders = true := by kernel_rfl
            clear hgt hW1 hnx hcu1 q0 q1 q2 hs1 hs9 hL0 c0 c1 c2 hA0 hA1 hA2
            go_quiet_grown (first | (go_at_call 17; refine Calls.grown_of (c0' _ _)) | (go_at_call 17; refine Calls.grown_of (c1' _ _)) | (go_at_call 17; refine Calls.grown_of (c2' _ _)))
            have hnx6 := hnx1.trans ((below_grow W1 nq osq).mono hnx1.size)
            replace hnx6 : Below w.heap.size w (grow (W1.drewN (GrownBy.mk nq osq).n) (GrownBy.mk nq osq).os) := hnx6
            have hfin : Hid (bs (S ++ (A ++ Z)) = bs (S ++ lnx T (k + 1))) := by show _ = _; rw [hsum.out, List.append_assoc]
            generalize grow (W1.drewN (GrownBy.mk nq osq).n) (GrownBy.mk nq osq).os = w6 at *
            clear y0 y1 y2 c0' c1' c2' mixed hT1 hnx1 k1 k2 k3 k4 k5 n1 n2 n3 n4 n5 hsum
            go_wp2
            go_roundw
            case rel => exact ⟨k + 1, by omega, by go_num, by rw [hfin.out], hnx6⟩
            case measure => simp only [intOf]; omega
          · have hd0 : decide ((0 : Int) < (k : Int)) = false := decide_eq_false (by omega)
            rw [if_neg hk0] at hA
            rw [← hA]
            clear hA
            go_wp2
            generalize wr.alloc (.cells #[.int .i64 t0, .int .i64 t1, .int .i64 t2] 120) = W1 at *
            have hnx1 := hnx.trans (hW1.mono hnx.size)
            have hT1 : Tab W1 := ht.below hnx1
            obtain ⟨gt, hgt⟩ : ∃ gt, gt = wr.heap.size := ⟨_, rfl⟩
            rw [← hgt] at hA0 hA1 hA2 ⊢
            have y0 := cell_grown (block_lt hA0) hA0
            have y1 := cell_grown (block_lt hA1) hA1
            have y2 := cell_grown (block_lt hA2) hA2
            have c0' := fun n os => c0 (grow (W1.drewN n) os) (hT1.grown n os)
            have c1' := fun n os => c1 (grow (W1.drewN n) os) (hT1.grown n os)
            have c2' := fun n os => c2 (grow (W1.drewN n) os) (hT1.grown n os)
            have mixed : Tryz.prog.follows .mixedOrders = true := by kernel_rfl
            clear hgt hW1 hnx hcu1 q0 q1 q2 hs1 hs9 hL0 c0 c1 c2 hA0 hA1 hA2
            go_quiet_grown (first | (go_at_call 17; refine Calls.grown_of (c0' _ _)) | (go_at_call 17; refine Calls.grown_of (c1' _ _)) | (go_at_call 17; refine Calls.grown_of (c2' _ _)))
            have hnx6 := hnx1.trans ((below_grow W1 nq osq).mono hnx1.size)
            replace hnx6 : Below w.heap.size w (grow (W1.drewN (GrownBy.mk nq osq).n) (GrownBy.mk nq osq).os) := hnx6
            have hfin : Hid (bs (S ++ (A ++ Z)) = bs (S ++ lnx T (k + 1))) := by show _ = _; rw [hsum.out, List.append_assoc]
            generalize grow (W1.drewN (GrownBy.mk nq osq).n) (GrownBy.mk nq osq).os = w6 at *
            clear y0 y1 y2 c0' c1' c2' mixed hT1 hnx1 k1 k2 k3 k4 k5 n1 n2 n3 n4 n5 hsum
            go_wp2
            go_roundw
            case rel => exact ⟨k + 1, by omega, by go_num, by rw [hfin.out], hnx6⟩
            case measure => simp only [intOf]; omega
        · have e : T.length = k := by omega
          have hge : T.length ≤ k := by omega
          have hs9 : (S ++ lnx T k).length ≤ 1099511627776 := hszi.out k (by omega)
          have z8 : (bs (S ++ lnx T k)).size ≤ 1099511627776 := by rw [bs_size]; exact hs9
          have n8 : (9223372036854775807 < (bs (S ++ lnx T k)).size + 1) = False := eq_false (by omega)
          have hcat : bs (S ++ lnx T k) ++ ({ data := #[10] } : ByteArray) = bs (ptx L (i + 1)) := by
            rw [hnext.out, e]
            exact bs_append _ [10]
          clear hs9 e
          go_wp2
          go_roundw
          case rel => exact ⟨i + 1, by omega, by go_num, rfl, hnx⟩
          case measure => simp only [intOf]; omega
    · have e : L.length = i := by omega
      have hge : L.length ≤ i := by omega
      rw [← e]
      clear hph' hsz'
      have hlt' : ¬ L.length < L.length := by omega
      go_wp2
      go_ret
      exact ⟨rfl, hnx⟩

end Go.Proofs.YtmggccepmicjhacGreatDoor
