/-
  Texts that stood one behind the other, as one.
-/
import Derived.Test.YtmggccepmicjhagGreatDoorRefPhasesAll
import Derived.Test.YtmggccepmicjhagGreatDoorSlAll
import Derived.Test.YtmggccepmicjhagGreatDoorPure
import Derived.Test.YtmggccepmicjhagGreatDoorSlMakeAll
import Derived.Test.YtmggccepmicjhagGreatDoorDkMAll
import Derived.Shelf.SlSortCmp.QuietGrown
import Derived.Test.YtmggccepmicjhagGreatDoorRefGreatAll
import Derived.Test.YtmggccepmicjhagGreatDoorManyLAll
/-! What Add and Mul of package goldref answer, for all numbers of 64 bits: the same numbers as those of package field. -/
namespace Go.Proofs.YtmggccepmicjhagGreatDoor
open Go.RowKit
set_option maxRecDepth 100000

/-! ### Mul: doubled, bit by bit -/
theorem half_step (y t : Nat) : y / 2 ^ t = 2 * (y / 2 ^ (t + 1)) + y / 2 ^ t % 2 := by
  rw [Nat.pow_succ, ← Nat.div_div_eq_div_mul]; omega

theorem mul_dbl (x y t : Nat) (h : y / 2 ^ t % 2 = 0) : fA (fM x (y / 2 ^ (t + 1))) (fM x (y / 2 ^ (t + 1))) = fM x (y / 2 ^ t) := by
  have e := half_step y t
  rw [h] at e
  rw [e, fA_eq, fM_eq, fM_eq, ← Nat.add_mod]
  congr 1
  grind
theorem mul_dbl1 (x y t : Nat) (h : y / 2 ^ t % 2 = 1) : fA (fA (fM x (y / 2 ^ (t + 1))) (fM x (y / 2 ^ (t + 1)))) x = fM x (y / 2 ^ t) := by
  have e := half_step y t
  rw [h] at e
  rw [e, fA_eq, fA_eq, fM_eq, fM_eq, ← Nat.add_mod, Nat.mod_add_mod]
  congr 1
  grind
theorem fM_fN (a b : Nat) : fM (fN a) (fN b) = fM a b := by
  rw [fM_eq, fM_eq, fN_eq, fN_eq, ← Nat.mul_mod]
theorem div_top (x y : Nat) (hy : (y : Int) < 18446744073709551616) : fM x (y / 2 ^ 64) = 0 := by
  have e : y / 2 ^ 64 = 0 := Nat.div_eq_of_lt (by omega)
  rw [e, fM_eq]; rfl
theorem bit_cast (y t : Nat) : ((y : Int) / 2 ^ t).tmod 2 = ((y / 2 ^ t % 2 : Nat) : Int) := by
  have e : (y : Int) / 2 ^ t = ((y / 2 ^ t : Nat) : Int) := by rw [Int.natCast_ediv, Int.natCast_pow]; rfl
  rw [e]
  generalize y / 2 ^ t = z
  rw [Int.tmod_eq_emod_of_nonneg (by omega)]; omega

end Go.Proofs.YtmggccepmicjhagGreatDoor

/-! What Eval of package goldref answers: the value of a polynomial at a place. -/
namespace Go.Proofs.YtmggccepmicjhagGreatDoor
open Go.RowKit
set_option maxRecDepth 100000

/-- The first k summands; the k-th power. -/
def evK (xs : List Nat) (x k : Nat) : Nat := (S k (fun i => gf (xs.map toF) i * pw (toF x) i)).val
def pwK (x k : Nat) : Nat := (pw (toF x) k).val
theorem evK_succ (xs : List Nat) (x k : Nat) : fA (evK xs x k) (fM (xs.getD k 0) (pwK x k)) = evK xs x (k + 1) := by
  unfold evK pwK
  rw [S_succ, fA_val, toF_val, toF_fM, toF_val, ← cf_gf]; rfl
theorem pwK_succ (x k : Nat) : fM (pwK x k) x = pwK x (k + 1) := by
  unfold pwK
  rw [fM_val, toF_val, pw_succ]
theorem evK_all (xs : List Nat) (x : Nat) : evK xs x xs.length = pE xs x := by
  unfold evK pE
  rw [evF_S, List.length_map]
theorem evK_lt (xs : List Nat) (x k : Nat) : (evK xs x k : Int) < 18446744069414584321 := lt_int (val_lt _)
theorem pwK_lt (x k : Nat) : (pwK x k : Int) < 18446744069414584321 := lt_int (val_lt _)
theorem pE_lt (xs : List Nat) (x : Nat) : (pE xs x : Int) < 18446744069414584321 := lt_int (val_lt _)

end Go.Proofs.YtmggccepmicjhagGreatDoor

/-! What Pow of package goldref answers, for all numbers of 64 bits: the same number as that of package field. -/
namespace Go.Proofs.YtmggccepmicjhagGreatDoor
open Go.RowKit
set_option maxRecDepth 100000

/-! ### Pow: from the highest bit -/
theorem pow_dbl (x y t : Nat) (h : y / 2 ^ t % 2 = 0) : fM (fW x (y / 2 ^ (t + 1))) (fW x (y / 2 ^ (t + 1))) = fW x (y / 2 ^ t) := by
  have e := half_step y t
  rw [h] at e
  rw [e, fM_eq, fW_eq, fW_eq, ← Nat.mul_mod, ← Nat.pow_add]
  congr 2
  omega
theorem pow_dbl1 (x y t : Nat) (h : y / 2 ^ t % 2 = 1) : fM (fM (fW x (y / 2 ^ (t + 1))) (fW x (y / 2 ^ (t + 1)))) x = fW x (y / 2 ^ t) := by
  have e := half_step y t
  rw [h] at e
  rw [e, fM_eq, fM_eq, fW_eq, fW_eq, ← Nat.mul_mod, ← Nat.pow_add, Nat.mod_mul_mod, ← Nat.pow_succ]
  congr 2
  omega
theorem pow_top (x y : Nat) (hy : (y : Int) < 18446744073709551616) : fW x (y / 2 ^ 64) = 1 := by
  have e : y / 2 ^ 64 = 0 := Nat.div_eq_of_lt (by omega)
  rw [e, fW_eq, Nat.pow_zero]; rfl

end Go.Proofs.YtmggccepmicjhagGreatDoor

/-! What Root and In of package goldref answer: a root is the power of 7; a number lies between two others or not. -/
namespace Go.Proofs.YtmggccepmicjhagGreatDoor
open Go.RowKit
set_option maxRecDepth 100000

theorem half_half (i : Nat) : 18446744069414584320 / 2 ^ (i + 1) = 18446744069414584320 / 2 ^ i / 2 := by
  rw [Nat.pow_succ, Nat.div_div_eq_div_mul]

end Go.Proofs.YtmggccepmicjhagGreatDoor

/-! What Symbols of package goldref answers: the values of a polynomial at powers of the root. -/
namespace Go.Proofs.YtmggccepmicjhagGreatDoor
open Go.RowKit
set_option maxRecDepth 100000

/-- Symbol i of data. -/
def symF (xs : List Nat) (i : Nat) : F := evF (xs.map toF) (pw (toF (rt 6)) i)
theorem symF_val (xs : List Nat) (i : Nat) : (symF xs i).val = pE xs (fW (rt 6) i) := by unfold symF pE; rw [toF_fW]
end Go.Proofs.YtmggccepmicjhagGreatDoor

/-! What PlanText of package goldref answers: the text of phases. -/
namespace Go.Proofs.YtmggccepmicjhagGreatDoor
open Go.RowKit Go.Sort

/-- The text of a task, of the first k tasks of a phase, of the first i phases. -/
def tkx (r : List Int) : List UInt8 := Lib.itoa (r.getD 0 0) ++ [58] ++ Lib.itoa (r.getD 1 0) ++ [45] ++ Lib.itoa (r.getD 2 0)
def lnx (T : List (List Int)) : Nat → List UInt8
  | 0 => []
  | k + 1 => (if 0 < k then lnx T k ++ [32] else lnx T k) ++ tkx (T.getD k [])
def ptx (L : List (List (List Int))) : Nat → List UInt8
  | 0 => []
  | i + 1 => ptx L i ++ lnx (L.getD i []) (L.getD i []).length ++ [10]

end Go.Proofs.YtmggccepmicjhagGreatDoor

/-! What a line of the desk is answered, as a function of its words; no program in sight. -/
namespace Go.Proofs.YtmggccepmicjhagGreatDoor

/-- A list that may be transformed: as many numbers as a power of two, at most 1024. -/
def IsPw (n : Nat) : Prop := ∃ k, k ≤ 10 ∧ n = 2 ^ k
open Classical in
noncomputable def nttV (n : List Nat) : List UInt8 := if IsPw n.length then sayN (mk n.length (fw n n.length.log2)) else wrg 5
open Classical in
noncomputable def bckV (n : List Nat) : List UInt8 := if IsPw n.length then sayN (mk n.length (bw n n.length.log2)) else wrg 5
theorem nttV_ok {n : List Nat} {k : Nat} (hk : k ≤ 10) (h : n.length = 2 ^ k) : nttV n = sayN (mk (2 ^ k) (fw n k)) := by
  unfold nttV
  rw [if_pos ⟨k, hk, h⟩, h, Nat.log2_two_pow]
theorem bckV_ok {n : List Nat} {k : Nat} (hk : k ≤ 10) (h : n.length = 2 ^ k) : bckV n = sayN (mk (2 ^ k) (bw n k)) := by
  unfold bckV
  rw [if_pos ⟨k, hk, h⟩, h, Nat.log2_two_pow]
/-- The shape and the cut that are asked for. -/
def shpV (n : List Nat) : List Nat := (n.drop 1).map smN
def GoodV (ds : List Nat) : Prop := 1 ≤ ds.length ∧ ds.length ≤ 3 ∧ ∀ d ∈ ds, P2 d
open Classical in
/-- Make's error, and its phases. -/
noncomputable def plE (ds : List Nat) (c : Nat) : Int := if GoodV ds then (if 1024 < prd2 ds then 2 else if c < 1 then 1 else if Few ds c ds.length then 0 else 2) else 1
noncomputable def plL (ds : List Nat) (c : Nat) : List (List (List Int)) := if plE ds c = 0 then pls ds c ds.length else []
noncomputable def plnV (n : List Nat) : List UInt8 :=
  if plE (shpV n) (smN (n.getD 0 0)) = 0 then ptx (plL (shpV n) (smN (n.getD 0 0))) (plL (shpV n) (smN (n.getD 0 0))).length ++ [111, 107] else wrg (plE (shpV n) (smN (n.getD 0 0)))
def ShrV (n : List Nat) : Prop := 2 ≤ n.length ∧ (1 ≤ n.getD 0 0 ∧ n.getD 0 0 ≤ 64) ∧ n.length - 1 ≤ n.getD 0 0
open Classical in
noncomputable def shrV (n : List Nat) : List UInt8 := if ShrV n then sayN (mk (n.getD 0 0) (symF (n.drop 1))) else wrg 1
/-- The answer of a verb with numbers. -/
noncomputable def ansV (verb : List UInt8) (n : List Nat) : List UInt8 :=
  if verb = [97, 100, 100] then sayN [fA (n.getD 0 0) (n.getD 1 0)]
  else if verb = [115, 117, 98] then sayN [fS (n.getD 0 0) (n.getD 1 0)]
  else if verb = [109, 117, 108] then sayN [fM (n.getD 0 0) (n.getD 1 0)]
  else if verb = [112, 111, 119] then sayN [fW (n.getD 0 0) (n.getD 1 0)]
  else if verb = [105, 110, 118] then (if fN (n.getD 0 0) = 0 then wrg 4 else sayN [fW (n.getD 0 0) 18446744069414584319])
  else if verb = [114, 111, 111, 116] then (if 32 < n.getD 0 0 then wrg 1 else sayN [rt (n.getD 0 0)])
  else if verb = [110, 116, 116] then nttV n
  else if verb = [98, 97, 99, 107] then bckV n
  else if verb = [112, 108, 97, 110] then plnV n
  else if verb = [115, 104, 97, 114, 101] then shrV n
  else wrg 3
theorem ansV_add (n : List Nat) : ansV [97, 100, 100] n = sayN [fA (n.getD 0 0) (n.getD 1 0)] := by unfold ansV; rw [if_pos rfl]
theorem ansV_sub (n : List Nat) : ansV [115, 117, 98] n = sayN [fS (n.getD 0 0) (n.getD 1 0)] := by unfold ansV; rw [if_neg (by decide), if_pos rfl]
theorem ansV_mul (n : List Nat) : ansV [109, 117, 108] n = sayN [fM (n.getD 0 0) (n.getD 1 0)] := by unfold ansV; rw [if_neg (by decide), if_neg (by decide), if_pos rfl]
theorem ansV_pow (n : List Nat) : ansV [112, 111, 119] n = sayN [fW (n.getD 0 0) (n.getD 1 0)] := by unfold ansV; rw [if_neg (by decide), if_neg (by decide), if_neg (by decide), if_pos rfl]
theorem ansV_inv (n : List Nat) : ansV [105, 110, 118] n = (if fN (n.getD 0 0) = 0 then wrg 4 else sayN [fW (n.getD 0 0) 18446744069414584319]) := by unfold ansV; rw [if_neg (by decide), if_neg (by decide), if_neg (by decide), if_neg (by decide), if_pos rfl]
theorem ansV_root (n : List Nat) : ansV [114, 111, 111, 116] n = (if 32 < n.getD 0 0 then wrg 1 else sayN [rt (n.getD 0 0)]) := by unfold ansV; rw [if_neg (by decide), if_neg (by decide), if_neg (by decide), if_neg (by decide), if_neg (by decide), if_pos rfl]
theorem ansV_ntt (n : List Nat) : ansV [110, 116, 116] n = nttV n := by unfold ansV; rw [if_neg (by decide), if_neg (by decide), if_neg (by decide), if_neg (by decide), if_neg (by decide), if_neg (by decide), if_pos rfl]
theorem ansV_back (n : List Nat) : ansV [98, 97, 99, 107] n = bckV n := by unfold ansV; rw [if_neg (by decide), if_neg (by decide), if_neg (by decide), if_neg (by decide), if_neg (by decide), if_neg (by decide), if_neg (by decide), if_pos rfl]
theorem ansV_plan (n : List Nat) : ansV [112, 108, 97, 110] n = plnV n := by unfold ansV; rw [if_neg (by decide), if_neg (by decide), if_neg (by decide), if_neg (by decide), if_neg (by decide), if_neg (by decide), if_neg (by decide), if_neg (by decide), if_pos rfl]
theorem ansV_share (n : List Nat) : ansV [115, 104, 97, 114, 101] n = shrV n := by unfold ansV; rw [if_neg (by decide), if_neg (by decide), if_neg (by decide), if_neg (by decide), if_neg (by decide), if_neg (by decide), if_neg (by decide), if_neg (by decide), if_neg (by decide), if_pos rfl]
/-- None of the verbs that are asked with numbers. -/
def NoV (verb : List UInt8) : Prop := verb ≠ [97, 100, 100] ∧ verb ≠ [115, 117, 98] ∧ verb ≠ [109, 117, 108] ∧ verb ≠ [112, 111, 119] ∧ verb ≠ [105, 110, 118] ∧ verb ≠ [114, 111, 111, 116] ∧ verb ≠ [110, 116, 116] ∧ verb ≠ [98, 97, 99, 107] ∧ verb ≠ [112, 108, 97, 110] ∧ verb ≠ [115, 104, 97, 114, 101]
theorem ansV_no {verb : List UInt8} (h : NoV verb) (n : List Nat) : ansV verb n = wrg 3 := by
  obtain ⟨h1, h2, h3, h4, h5, h6, h7, h8, h9, h10⟩ := h
  unfold ansV
  rw [if_neg h1, if_neg h2, if_neg h3, if_neg h4, if_neg h5, if_neg h6, if_neg h7, if_neg h8, if_neg h9, if_neg h10]

end Go.Proofs.YtmggccepmicjhagGreatDoor

/-! What slices.Index answers on texts: where one stands first. -/
namespace Go.Proofs.YtmggccepmicjhagGreatDoor
open Go.RowKit
set_option maxRecDepth 100000

/-- Where a text stands first in a list; none: nowhere. -/
def ixO (L : List (List UInt8)) (t : List UInt8) : Option Nat := L.findIdx? (· == t)
def ixV (L : List (List UInt8)) (t : List UInt8) : Int := match ixO L t with | some k => (k : Int) | none => -1
theorem ixO_some {L : List (List UInt8)} {t : List UInt8} {k : Nat} (hk : k < L.length) (h1 : L.getD k [] = t) (h2 : ∀ j, j < k → L.getD j [] ≠ t) : ixO L t = some k := by
  unfold ixO
  rw [List.findIdx?_eq_some_iff_getElem]
  have g : ∀ j (hj : j < L.length), L.getD j [] = L[j] := fun j hj => by simp [List.getD, hj]
  refine ⟨hk, by rw [← g k hk, h1]; exact beq_self_eq_true t, fun j hj => ?_⟩
  have := h2 j hj
  rw [g j (by omega)] at this
  simpa using this
theorem ixO_none {L : List (List UInt8)} {t : List UInt8} (h : ∀ j, j < L.length → L.getD j [] ≠ t) : ixO L t = none := by
  unfold ixO
  rw [List.findIdx?_eq_none_iff]
  intro x hx
  obtain ⟨j, hj, rfl⟩ := List.getElem_of_mem hx
  have := h j hj
  rw [show L.getD j [] = L[j] by simp [List.getD, hj]] at this
  simpa using this
theorem ixO_lt {L : List (List UInt8)} {t : List UInt8} {k : Nat} (h : ixO L t = some k) : k < L.length := by
  unfold ixO at h
  rw [List.findIdx?_eq_some_iff_getElem] at h
  exact h.1
theorem bs_listI (l : List UInt8) : (bs l).toList = l := by rw [ByteArray.toList_eq]; rfl
set_option maxHeartbeats 2000000 in
theorem slices_IndexT (w : World) (v : Value) (L : List (List UInt8)) (t : List UInt8) (h : IsB w v L) :
    Calls Tryz.prog 67 #[v, .string (bs t)] w fun e w' => e = .returned (.int .i64 (ixV L t)) ∧ w' = w := by
  obtain ⟨a, cap, rfl, h1, h2, hc0⟩ := h
  have hc : Hid (∀ i, i < L.length → ∃ b off, a = some ⟨b, off, none⟩ ∧ w.cell? ⟨b, off + i, none⟩ = some (.string (bs (L.getD i [])))) := hc0
  have hs : Hid (∀ k, k < L.length → L.getD k [] = t → (∀ j, j < k → L.getD j [] ≠ t) → ixV L t = (k : Int)) := fun k hk q1 q2 => by unfold ixV; rw [ixO_some hk q1 q2]
  have hn : Hid ((∀ j, j < L.length → L.getD j [] ≠ t) → ixV L t = -1) := fun q => by unfold ixV; rw [ixO_none q]
  have hln : L.length ≤ 9223372036854775807 := by unfold maxLen at h2; omega
  have hT := bs_listI t
  have hT' : Hid ((bs t).toList = t) := hT
  clear hc0 h1 h2 hT
  generalize ixV L t = R at *
  generalize hS : bs t = S at *
  replace hS : Hid _ := hS
  go_enter Tryz.func67, Tryz.ntmps67
  go_wp2
  go_loopw [8] (fun vi wr => ∃ i : Nat, i ≤ L.length ∧ vi = .int .i64 (i : Int) ∧ Hid (∀ j, j < i → L.getD j [] ≠ t) ∧ wr = w)
    (fun vi _ => L.length - (intOf vi).toNat)
  case atStart => exact ⟨0, Nat.zero_le _, rfl, fun j hj => by omega, rfl⟩
  case round =>
    obtain ⟨i, hi, rfl, hD, hwr⟩ := hrel
    rw [hwr]
    clear hwr
    by_cases hlt : i < L.length
    · obtain ⟨b, off, rfl, hcell⟩ := hc.out i hlt
      by_cases hq : L.getD i [] = t
      · have hR := hs.out i hlt hq hD.out
        rw [hq, hS.out] at hcell
        subst hR
        have hbe : (S.toList == S.toList) = true := beq_self_eq_true _
        clear hs hn hD hq
        go_wp2
        go_ret
        exact ⟨rfl, rfl⟩
      · have hD2 : Hid (∀ j, j < i + 1 → L.getD j [] ≠ t) := fun j hj => by
          rcases Nat.lt_or_ge j i with r | r
          · exact hD.out j r
          · obtain rfl : j = i := by omega
            exact hq
        have hbe : (S.toList == (bs (L.getD i [])).toList) = false := by
          rw [bs_listI, hT'.out, beq_eq_false_iff_ne]
          exact fun e => hq e.symm
        clear hs hn hD hq
        generalize bs (L.getD i []) = X at *
        go_wp2
        go_roundw
        case rel => exact ⟨i + 1, by omega, by go_num, hD2, by trivial⟩
        case measure => simp only [intOf]; omega
    · have e : i = L.length := by omega
      subst e
      have hR := hn.out hD.out
      subst hR
      have hnl : ¬ L.length < L.length := Nat.lt_irrefl _
      clear hs hn hD
      go_wp2
      go_ret
      exact ⟨rfl, rfl⟩

end Go.Proofs.YtmggccepmicjhagGreatDoor
