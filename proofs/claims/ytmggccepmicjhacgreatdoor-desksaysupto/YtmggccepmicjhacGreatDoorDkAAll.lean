/-
  Texts that stood one behind the other, as one.
-/
import Derived.Test.YtmggccepmicjhacGreatDoorRefNumAll
import Derived.Test.YtmggccepmicjhacGreatDoorRefEvalAll
import Derived.Test.YtmggccepmicjhacGreatDoorRefPlanAll
import Derived.Test.YtmggccepmicjhacGreatDoorRefEvalAll
import Derived.Test.YtmggccepmicjhacGreatDoorPure
import Derived.Test.YtmggccepmicjhacGreatDoorBigL
import Derived.Lib.ItoaLen
/-! What a line of the desk is answered, as a function of its words; no program in sight. -/
namespace Go.Proofs.YtmggccepmicjhacGreatDoor

/-- A list that may be transformed: as many numbers as a power of two, at most 1024. -/
def IsPw (n : Nat) : Prop := ∃ k, k ≤ 10 ∧ n = 2 ^ k
open Classical in
noncomputable def nttV (n : List Nat) : List UInt8 := if IsPw n.length then sayN (mk n.length (fw n n.length.log2)) else wrg 5
open Classical in
noncomputable def bckV (n : List Nat) : List UInt8 := if IsPw n.length then sayN (mk n.length (bw n n.length.log2)) else wrg 5
theorem nttV_ok {n : List Nat} {k : Nat} (hk : k ≤ 10) (h : n.length = 2 ^ k) : nttV n = sayN (mk (2 ^ k) (fw n k)) := by
  unfold nttV
  rw [if_pos ⟨k, hk, h⟩, h, Nat.log2_two_pow]
theorem bckV_ok {n : List Nat} {k : Nat} (hk : k ≤ 10) (h : n.length = 2 ^ k) : bckV n = sayN (mk (2 ^ k) (bw n k)) := by
  unfold bckV
  rw [if_pos ⟨k, hk, h⟩, h, Nat.log2_two_pow]
/-- The shape and the cut that are asked for. -/
def shpV (n : List Nat) : List Nat := (n.drop 1).map smN
def GoodV (ds : List Nat) : Prop := 1 ≤ ds.length ∧ ds.length ≤ 3 ∧ ∀ d ∈ ds, P2 d
open Classical in
/-- Make's error, and its phases. -/
noncomputable def plE (ds : List Nat) (c : Nat) : Int := if GoodV ds then (if 1024 < prd2 ds then 2 else if c < 1 then 1 else if Few ds c ds.length then 0 else 2) else 1
noncomputable def plL (ds : List Nat) (c : Nat) : List (List (List Int)) := if plE ds c = 0 then pls ds c ds.length else []
noncomputable def plnV (n : List Nat) : List UInt8 :=
  if plE (shpV n) (smN (n.getD 0 0)) = 0 then ptx (plL (shpV n) (smN (n.getD 0 0))) (plL (shpV n) (smN (n.getD 0 0))).length ++ [111, 107] else wrg (plE (shpV n) (smN (n.getD 0 0)))
def ShrV (n : List Nat) : Prop := 2 ≤ n.length ∧ (1 ≤ n.getD 0 0 ∧ n.getD 0 0 ≤ 64) ∧ n.length - 1 ≤ n.getD 0 0
open Classical in
noncomputable def shrV (n : List Nat) : List UInt8 := if ShrV n then sayN (mk (n.getD 0 0) (symF (n.drop 1))) else wrg 1
/-- The answer of a verb with numbers. -/
noncomputable def ansV (verb : List UInt8) (n : List Nat) : List UInt8 :=
  if verb = [97, 100, 100] then sayN [fA (n.getD 0 0) (n.getD 1 0)]
  else if verb = [115, 117, 98] then sayN [fS (n.getD 0 0) (n.getD 1 0)]
  else if verb = [109, 117, 108] then sayN [fM (n.getD 0 0) (n.getD 1 0)]
  else if verb = [112, 111, 119] then sayN [fW (n.getD 0 0) (n.getD 1 0)]
  else if verb = [105, 110, 118] then (if fN (n.getD 0 0) = 0 then wrg 4 else sayN [fW (n.getD 0 0) 18446744069414584319])
  else if verb = [114, 111, 111, 116] then (if 32 < n.getD 0 0 then wrg 1 else sayN [rt (n.getD 0 0)])
  else if verb = [110, 116, 116] then nttV n
  else if verb = [98, 97, 99, 107] then bckV n
  else if verb = [112, 108, 97, 110] then plnV n
  else if verb = [115, 104, 97, 114, 101] then shrV n
  else wrg 3
theorem ansV_add (n : List Nat) : ansV [97, 100, 100] n = sayN [fA (n.getD 0 0) (n.getD 1 0)] := by unfold ansV; rw [if_pos rfl]
theorem ansV_sub (n : List Nat) : ansV [115, 117, 98] n = sayN [fS (n.getD 0 0) (n.getD 1 0)] := by unfold ansV; rw [if_neg (by decide), if_pos rfl]
theorem ansV_mul (n : List Nat) : ansV [109, 117, 108] n = sayN [fM (n.getD 0 0) (n.getD 1 0)] := by unfold ansV; rw [if_neg (by decide), if_neg (by decide), if_pos rfl]
theorem ansV_pow (n : List Nat) : ansV [112, 111, 119] n = sayN [fW (n.getD 0 0) (n.getD 1 0)] := by unfold ansV; rw [if_neg (by decide), if_neg (by decide), if_neg (by decide), if_pos rfl]
theorem ansV_inv (n : List Nat) : ansV [105, 110, 118] n = (if fN (n.getD 0 0) = 0 then wrg 4 else sayN [fW (n.getD 0 0) 18446744069414584319]) := by unfold ansV; rw [if_neg (by decide), if_neg (by decide), if_neg (by decide), if_neg (by decide), if_pos rfl]
theorem ansV_root (n : List Nat) : ansV [114, 111, 111, 116] n = (if 32 < n.getD 0 0 then wrg 1 else sayN [rt (n.getD 0 0)]) := by unfold ansV; rw [if_neg (by decide), if_neg (by decide), if_neg (by decide), if_neg (by decide), if_neg (by decide), if_pos rfl]
theorem ansV_ntt (n : List Nat) : ansV [110, 116, 116] n = nttV n := by unfold ansV; rw [if_neg (by decide), if_neg (by decide), if_neg (by decide), if_neg (by decide), if_neg (by decide), if_neg (by decide), if_pos rfl]
theorem ansV_back (n : List Nat) : ansV [98, 97, 99, 107] n = bckV n := by unfold ansV; rw [if_neg (by decide), if_neg (by decide), if_neg (by decide), if_neg (by decide), if_neg (by decide), if_neg (by decide), if_neg (by decide), if_pos rfl]
theorem ansV_plan (n : List Nat) : ansV [112, 108, 97, 110] n = plnV n := by unfold ansV; rw [if_neg (by decide), if_neg (by decide), if_neg (by decide), if_neg (by decide), if_neg (by decide), if_neg (by decide), if_neg (by decide), if_neg (by decide), if_pos rfl]
theorem ansV_share (n : List Nat) : ansV [115, 104, 97, 114, 101] n = shrV n := by unfold ansV; rw [if_neg (by decide), if_neg (by decide), if_neg (by decide), if_neg (by decide), if_neg (by decide), if_neg (by decide), if_neg (by decide), if_neg (by decide), if_neg (by decide), if_pos rfl]
/-- None of the verbs that are asked with numbers. -/
def NoV (verb : List UInt8) : Prop := verb ≠ [97, 100, 100] ∧ verb ≠ [115, 117, 98] ∧ verb ≠ [109, 117, 108] ∧ verb ≠ [112, 111, 119] ∧ verb ≠ [105, 110, 118] ∧ verb ≠ [114, 111, 111, 116] ∧ verb ≠ [110, 116, 116] ∧ verb ≠ [98, 97, 99, 107] ∧ verb ≠ [112, 108, 97, 110] ∧ verb ≠ [115, 104, 97, 114, 101]
theorem ansV_no {verb : List UInt8} (h : NoV verb) (n : List Nat) : ansV verb n = wrg 3 := by
  obtain ⟨h1, h2, h3, h4, h5, h6, h7, h8, h9, h10⟩ := h
  unfold ansV
  rw [if_neg h1, if_neg h2, if_neg h3, if_neg h4, if_neg h5, if_neg h6, if_neg h7, if_neg h8, if_neg h9, if_neg h10]

end Go.Proofs.YtmggccepmicjhacGreatDoor

/-! What slices.Index answers on texts: where one stands first. -/
namespace Go.Proofs.YtmggccepmicjhacGreatDoor
open Go.RowKit
set_option maxRecDepth 100000

/-- Where a text stands first in a list; none: nowhere. -/
def ixO (L : List (List UInt8)) (t : List UInt8) : Option Nat := L.findIdx? (· == t)
def ixV (L : List (List UInt8)) (t : List UInt8) : Int := match ixO L t with | some k => (k : Int) | none => -1
theorem ixO_some {L : List (List UInt8)} {t : List UInt8} {k : Nat} (hk : k < L.length) (h1 : L.getD k [] = t) (h2 : ∀ j, j < k → L.getD j [] ≠ t) : ixO L t = some k := by
  unfold ixO
  rw [List.findIdx?_eq_some_iff_getElem]
  have g : ∀ j (hj : j < L.length), L.getD j [] = L[j] := fun j hj => by simp [List.getD, hj]
  refine ⟨hk, by rw [← g k hk, h1]; exact beq_self_eq_true t, fun j hj => ?_⟩
  have := h2 j hj
  rw [g j (by omega)] at this
  simpa using this
theorem ixO_none {L : List (List UInt8)} {t : List UInt8} (h : ∀ j, j < L.length → L.getD j [] ≠ t) : ixO L t = none := by
  unfold ixO
  rw [List.findIdx?_eq_none_iff]
  intro x hx
  obtain ⟨j, hj, rfl⟩ := List.getElem_of_mem hx
  have := h j hj
  rw [show L.getD j [] = L[j] by simp [List.getD, hj]] at this
  simpa using this
theorem ixO_lt {L : List (List UInt8)} {t : List UInt8} {k : Nat} (h : ixO L t = some k) : k < L.length := by
  unfold ixO at h
  rw [List.findIdx?_eq_some_iff_getElem] at h
  exact h.1
theorem bs_listI (l : List UInt8) : (bs l).toList = l := by rw [ByteArray.toList_eq]; rfl
set_option maxHeartbeats 2000000 in
theorem slices_IndexT (w : World) (v : Value) (L : List (List UInt8)) (t : List UInt8) (h : IsB w v L) :
    Calls Tryz.prog 25 #[v, .string (bs t)] w fun e w' => e = .returned (.int .i64 (ixV L t)) ∧ w' = w := by
  obtain ⟨a, cap, rfl, h1, h2, hc0⟩ := h
  have hc : Hid (∀ i, i < L.length → ∃ b off, a = some ⟨b, off, none⟩ ∧ w.cell? ⟨b, off + i, none⟩ = some (.string (bs (L.getD i [])))) := hc0
  have hs : Hid (∀ k, k < L.length → L.getD k [] = t → (∀ j, j < k → L.getD j [] ≠ t) → ixV L t = (k : Int)) := fun k hk q1 q2 => by unfold ixV; rw [ixO_some hk q1 q2]
  have hn : Hid ((∀ j, j < L.length → L.getD j [] ≠ t) → ixV L t = -1) := fun q => by unfold ixV; rw [ixO_none q]
  have hln : L.length ≤ 9223372036854775807 := by unfold maxLen at h2; omega
  have hT := bs_listI t
  have hT' : Hid ((bs t).toList = t) := hT
  clear hc0 h1 h2 hT
  generalize ixV L t = R at *
  generalize hS : bs t = S at *
  replace hS : Hid _ := hS
  go_enter Tryz.func25, Tryz.ntmps25
  go_wp2
  go_loopw [8] (fun vi wr => ∃ i : Nat, i ≤ L.length ∧ vi = .int .i64 (i : Int) ∧ Hid (∀ j, j < i → L.getD j [] ≠ t) ∧ wr = w)
    (fun vi _ => L.length - (intOf vi).toNat)
  case atStart => exact ⟨0, Nat.zero_le _, rfl, fun j hj => by omega, rfl⟩
  case round =>
    obtain ⟨i, hi, rfl, hD, hwr⟩ := hrel
    rw [hwr]
    clear hwr
    by_cases hlt : i < L.length
    · obtain ⟨b, off, rfl, hcell⟩ := hc.out i hlt
      by_cases hq : L.getD i [] = t
      · have hR := hs.out i hlt hq hD.out
        rw [hq, hS.out] at hcell
        subst hR
        have hbe : (S.toList == S.toList) = true := beq_self_eq_true _
        clear hs hn hD hq
        go_wp2
        go_ret
        exact ⟨rfl, rfl⟩
      · have hD2 : Hid (∀ j, j < i + 1 → L.getD j [] ≠ t) := fun j hj => by
          rcases Nat.lt_or_ge j i with r | r
          · exact hD.out j r
          · obtain rfl : j = i := by omega
            exact hq
        have hbe : (S.toList == (bs (L.getD i [])).toList) = false := by
          rw [bs_listI, hT'.out, beq_eq_false_iff_ne]
          exact fun e => hq e.symm
        clear hs hn hD hq
        generalize bs (L.getD i []) = X at *
        go_wp2
        go_roundw
        case rel => exact ⟨i + 1, by omega, by go_num, hD2, by trivial⟩
        case measure => simp only [intOf]; omega
    · have e : i = L.length := by omega
      subst e
      have hR := hn.out hD.out
      subst hR
      have hnl : ¬ L.length < L.length := Nat.lt_irrefl _
      clear hs hn hD
      go_wp2
      go_ret
      exact ⟨rfl, rfl⟩

end Go.Proofs.YtmggccepmicjhacGreatDoor

/-! What a line of the desk is answered, by its verb and the words behind it; no program in sight. -/
namespace Go.Proofs.YtmggccepmicjhacGreatDoor

/-- cyclic (false), linear (true). -/
def LrgV (a b : List Nat) : Prop := 1024 < a.length ∨ 1024 < b.length ∨ (0 < a.length ∧ 0 < b.length ∧ 1025 < a.length + b.length)
open Classical in
noncomputable def prdV (lin : Bool) (a b : List Nat) : List UInt8 :=
  if lin = true then (if LrgV a b then wrg 2 else sayN (pM a b)) else (if a.length = b.length ∧ IsPw a.length then sayN (mk a.length (rnd a b false)) else wrg 5)
noncomputable def pairV (lin : Bool) (W : List (List UInt8)) : List UInt8 :=
  match ixO W [47] with
  | none => wrg 3
  | some k => if numsB (W.take k) = true ∧ numsB (W.drop (k + 1)) = true then prdV lin (numsL (W.take k)) (numsL (W.drop (k + 1))) else wrg 3
/-- The error of a great number's text; sum (false), times (true). -/
def dgT (s : List UInt8) : List Nat := s.map fun b => b.toNat - 48
open Classical in
noncomputable def greE (s : List UInt8) : Int := if 2000 < s.length then 2 else if ∃ ds, Gs (bs s) ds then 0 else 3
def greT (tim : Bool) (s t : List UInt8) : List UInt8 := Lib.decDigits (if tim = true then val (dgT s) * val (dgT t) else val (dgT s) + val (dgT t))
noncomputable def bigV (tim : Bool) (W : List (List UInt8)) : List UInt8 :=
  if W.length = 2 then (if greE (W.getD 0 []) ≠ 0 then wrg (greE (W.getD 0 [])) else if greE (W.getD 1 []) ≠ 0 then wrg (greE (W.getD 1 [])) else greT tim (W.getD 0 []) (W.getD 1 [])) else wrg 3
theorem Gs_dgs {s : List UInt8} {ds : List Nat} (h : Gs (bs s) ds) : dgT s = ds := by
  have hsz : s.length = ds.length := by have := h.size; rw [bs_size] at this; exact this
  apply List.ext_getElem
  · simp [dgT, hsz]
  · intro i h1 h2
    have h3 : i < (bs s).size := by rw [bs_size, hsz]; exact h2
    have hb := h.byte i h2 h3
    have hb2 : ((bs s)[i]'h3).toNat = (s[i]'(by omega)).toNat := bs_get s i h3 (by omega)
    rw [hb2] at hb
    simp only [dgT, List.getElem_map]
    rw [hb]
    simp [List.getD, h2]
theorem greE_ok {s : List UInt8} {ds : List Nat} (h : Gs (bs s) ds) (h9 : s.length ≤ 2000) : greE s = 0 := by
  unfold greE
  rw [if_neg (by omega), if_pos ⟨ds, h⟩]
theorem greE_large {s : List UInt8} (h : 2000 < s.length) : greE s = 2 := by unfold greE; rw [if_pos h]
theorem greE_bad {s : List UInt8} (h9 : s.length ≤ 2000) (h : ∀ ds, ¬ Gs (bs s) ds) : greE s = 3 := by
  unfold greE
  rw [if_neg (by omega), if_neg (fun ⟨ds, q⟩ => h ds q)]
theorem greE_zero {s : List UInt8} (h : greE s = 0) : s.length ≤ 2000 ∧ ∃ ds, Gs (bs s) ds := by
  unfold greE at h
  split at h
  · cases h
  · split at h
    · next h1 h2 => exact ⟨by omega, h2⟩
    · cases h
theorem greE_le (s : List UInt8) : 0 ≤ greE s ∧ greE s ≤ 3 := by
  unfold greE
  split <;> (try split) <;> decide
theorem dec_of {c : List Nat} (h : Gt c) : Lib.decDigits (val c) = tx c := by
  obtain ⟨d, h1, h2, h3⟩ := dec_tx (val c)
  rw [h3, h1.one h h2]
/-- How many numbers a verb asks: so many; 0: one at least; -1: any. -/
def cntV (verb : List UInt8) : Int :=
  if verb = [112, 108, 97, 110] ∨ verb = [115, 104, 97, 114, 101] then 0
  else if verb = [105, 110, 118] ∨ verb = [114, 111, 111, 116] then 1
  else if verb = [97, 100, 100] ∨ verb = [115, 117, 98] ∨ verb = [109, 117, 108] ∨ verb = [112, 111, 119] then 2
  else -1
def CntK (verb : List UInt8) (m : Nat) : Prop := (cntV verb = 0 → 0 < m) ∧ (0 < cntV verb → (m : Int) = cntV verb)
open Classical in
noncomputable def numV (verb : List UInt8) (W : List (List UInt8)) : List UInt8 := if numsB W = true ∧ CntK verb W.length then ansV verb (numsL W) else wrg 3
noncomputable def linV (verb : List UInt8) (W : List (List UInt8)) : List UInt8 :=
  if verb = [99, 121, 99, 108, 105, 99] then pairV false W
  else if verb = [108, 105, 110, 101, 97, 114] then pairV true W
  else if verb = [115, 117, 109] then bigV false W
  else if verb = [116, 105, 109, 101, 115] then bigV true W
  else numV verb W
theorem linV_cyclic (W : List (List UInt8)) : linV [99, 121, 99, 108, 105, 99] W = pairV false W := by unfold linV; rw [if_pos rfl]
theorem linV_linear (W : List (List UInt8)) : linV [108, 105, 110, 101, 97, 114] W = pairV true W := by unfold linV; rw [if_neg (by decide), if_pos rfl]
theorem linV_sum (W : List (List UInt8)) : linV [115, 117, 109] W = bigV false W := by unfold linV; rw [if_neg (by decide), if_neg (by decide), if_pos rfl]
theorem linV_times (W : List (List UInt8)) : linV [116, 105, 109, 101, 115] W = bigV true W := by unfold linV; rw [if_neg (by decide), if_neg (by decide), if_neg (by decide), if_pos rfl]
def NoL (verb : List UInt8) : Prop := verb ≠ [99, 121, 99, 108, 105, 99] ∧ verb ≠ [108, 105, 110, 101, 97, 114] ∧ verb ≠ [115, 117, 109] ∧ verb ≠ [116, 105, 109, 101, 115]
theorem linV_num {verb : List UInt8} (h : NoL verb) (W : List (List UInt8)) : linV verb W = numV verb W := by
  obtain ⟨h1, h2, h3, h4⟩ := h
  unfold linV
  rw [if_neg h1, if_neg h2, if_neg h3, if_neg h4]
/-- goldref's kind of a verb, and where it stands among three. -/
def kdV (verb : List UInt8) : List UInt8 :=
  if verb = [112, 108, 97, 110] ∨ verb = [115, 104, 97, 114, 101] then [112, 108, 97, 110, 32, 115, 104, 97, 114, 101]
  else if verb = [105, 110, 118] ∨ verb = [114, 111, 111, 116] then [105, 110, 118, 32, 114, 111, 111, 116]
  else if verb = [97, 100, 100] ∨ verb = [115, 117, 98] ∨ verb = [109, 117, 108] ∨ verb = [112, 111, 119] then [97, 100, 100, 32, 115, 117, 98, 32, 109, 117, 108, 32, 112, 111, 119]
  else verb
def kds : List (List UInt8) := [[112, 108, 97, 110, 32, 115, 104, 97, 114, 101], [105, 110, 118, 32, 114, 111, 111, 116], [97, 100, 100, 32, 115, 117, 98, 32, 109, 117, 108, 32, 112, 111, 119]]
theorem ixV_kd {verb : List UInt8} (h : (32 : UInt8) ∉ verb) : ixV kds (kdV verb) = cntV verb := by
  unfold kdV cntV
  split
  · decide
  · split
    · decide
    · split
      · decide
      · have e : ixO kds verb = none := ixO_none (fun j hj q => h (by
          rw [← q]
          match j, hj with
          | 0, _ => decide
          | 1, _ => decide
          | 2, _ => decide))
        unfold ixV
        rw [e]

end Go.Proofs.YtmggccepmicjhacGreatDoor

/-! How long the text of phases is at the most: so many bytes a task. -/
namespace Go.Proofs.YtmggccepmicjhacGreatDoor
open Go.RowKit
set_option maxRecDepth 100000

def tot (L : List (List (List Int))) : Nat → Nat
  | 0 => 0
  | i + 1 => tot L i + (L.getD i []).length
theorem tot_le (L : List (List (List Int))) (i j : Nat) (h : i ≤ j) : tot L i ≤ tot L j := by
  induction j with
  | zero => rw [show i = 0 by omega]; exact Nat.le_refl _
  | succ j ih =>
    rcases Nat.lt_or_ge i (j + 1) with q | q
    · have := ih (by omega); rw [tot]; omega
    · rw [show i = j + 1 by omega]; exact Nat.le_refl _
def B3 (r : List Int) : Prop := (-9223372036854775808 ≤ r.getD 0 0 ∧ r.getD 0 0 ≤ 9223372036854775807) ∧ (-9223372036854775808 ≤ r.getD 1 0 ∧ r.getD 1 0 ≤ 9223372036854775807) ∧ (-9223372036854775808 ≤ r.getD 2 0 ∧ r.getD 2 0 ≤ 9223372036854775807)
theorem tkx_le (r : List Int) (h : B3 r) : (tkx r).length ≤ 65 := by
  have h0 := Lib.itoa_length_le (r.getD 0 0) h.1.1 h.1.2
  have h1 := Lib.itoa_length_le (r.getD 1 0) h.2.1.1 h.2.1.2
  have h2 := Lib.itoa_length_le (r.getD 2 0) h.2.2.1 h.2.2.2
  unfold tkx
  simp only [List.length_append, List.length_cons, List.length_nil]
  omega
theorem lnx_le (T : List (List Int)) (h : ∀ i, i < T.length → B3 (T.getD i [])) (k : Nat) (hk : k ≤ T.length) : (lnx T k).length ≤ 66 * k := by
  induction k with
  | zero => simp [lnx]
  | succ k ih =>
    have h1 := ih (by omega)
    have h2 := tkx_le _ (h k (by omega))
    rw [lnx, List.length_append]
    split
    · rw [List.length_append]; simp only [List.length_cons, List.length_nil]; omega
    · omega
theorem ptx_le (L : List (List (List Int))) (h : ∀ y, y < L.length → ∀ i, i < (L.getD y []).length → B3 ((L.getD y []).getD i [])) (i : Nat) (hi : i ≤ L.length) : (ptx L i).length ≤ 66 * tot L i + i := by
  induction i with
  | zero => simp [ptx]
  | succ i ih =>
    have h1 := ih (by omega)
    have h2 := lnx_le _ (h i (by omega)) _ (Nat.le_refl _)
    rw [ptx, tot, List.length_append, List.length_append]
    simp only [List.length_cons, List.length_nil]
    omega
theorem IsP.b3 {w : World} {v : Value} {L : List (List (List Int))} (h : IsP 3 w v L) : ∀ y, y < L.length → ∀ i, i < (L.getD y []).length → B3 ((L.getD y []).getD i []) := by
  intro y hy i hi
  obtain ⟨_, _, _, _, _, hph⟩ := h
  obtain ⟨_, _, _, _, _, hR⟩ := hph y hy
  obtain ⟨a, b, c, e, ha, hb, hc⟩ := row3 hR i hi
  rw [e]
  exact ⟨ha, hb, hc⟩
theorem text_size {w : World} {v : Value} {L : List (List (List Int))} (h : IsP 3 w v L) (hn : L.length + tot L L.length ≤ 1048576) : ∀ i k, i < L.length → k ≤ (L.getD i []).length → (ptx L i ++ lnx (L.getD i []) k).length ≤ 1099511627776 := by
  intro i k hi hk
  have h1 := ptx_le L h.b3 i (by omega)
  have h2 := lnx_le _ (h.b3 i hi) k hk
  have h3 := tot_le L (i + 1) L.length (by omega)
  rw [tot] at h3
  rw [List.length_append]
  omega

end Go.Proofs.YtmggccepmicjhacGreatDoor
