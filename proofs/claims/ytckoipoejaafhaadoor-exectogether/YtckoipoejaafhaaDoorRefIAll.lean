/-
  Texts that stood one behind the other, as one.
-/
import Derived.Test.YtckoipoejaafhaaDoorCeSAll
import Derived.Test.YtckoipoejaafhaaDoorCeBAll
import Derived.Test.YtckoipoejaafhaaDoorSlAppAll
import Derived.Test.YtckoipoejaafhaaDoorPure
import Derived.Test.YtckoipoejaafhaaDoorManyCAll
import Derived.Deep.RegionWith
/-! What Inv of package goldref answers: the inverse by EUCLID's steps is the power below the last one. -/
namespace Go.Proofs.YtckoipoejaafhaaDoor
open Go.RowKit
set_option maxRecDepth 100000

theorem cancel {A B C D : Nat} (h1 : (A + B) % P = (C + D) % P) (h2 : B % P = D % P) : A % P = C % P := by
  unfold P at *; omega
theorem fS_add (x y : Nat) : (fS x y + y) % P = x % P := by
  rw [fS_eq]; unfold P; omega

theorem euclid_step (a r n x t : Nat) (hx : x * a % P = r % P) (ht : t * a % P = n % P) : fS x (fM (r / n) t) * a % P = (r % n) % P := by
  have h1 : (fS x (fM (r / n) t) * a + fM (r / n) t * a) % P = (r % n + r / n * n) % P := by
    rw [← Nat.add_mul, Nat.mul_mod, fS_add, ← Nat.mul_mod, hx, Nat.mod_add_div']
  refine cancel h1 ?_
  rw [fM_eq, Nat.mod_mul_mod, Nat.mul_assoc, Nat.mul_mod, ht, ← Nat.mul_mod]

theorem gcd_step {r n : Nat} (h : Nat.gcd r n = 1) : Nat.gcd n (r % n) = 1 := by
  rw [Nat.gcd_comm, ← Nat.gcd_rec, Nat.gcd_comm]; exact h

set_option maxHeartbeats 1000000 in
theorem ref_Inv (a : Nat) (h0 : fN a ≠ 0) (w : World) :
    Calls Tryd.prog 104 #[.int .u64 (a : Int)] w fun e w' => e = .returned (.int .u64 ((fW a 18446744069414584319 : Nat) : Int)) ∧ w' = w := by
  have ea := rem_fN a
  have bn := fN_lt a
  have hg : Hid (Nat.gcd P (fN a) = 1) := by
    show Nat.gcd P (fN a) = 1
    rcases prime_P.2 _ (Nat.gcd_dvd_left P (fN a)) with h | h
    · exact h
    · exfalso
      have h2 : P ∣ fN a := by rw [← h]; exact Nat.gcd_dvd_right P (fN a)
      have h3 := Nat.le_of_dvd (by omega) h2
      unfold P at h3; omega
  have hta : Hid (1 * a % P = fN a % P) := by
    show 1 * a % P = fN a % P
    rw [fN_eq, Nat.mod_mod, Nat.one_mul]
  have hfin : Hid (∀ x : Nat, (x : Int) < 18446744069414584321 → x * a % P = 1 → x = fW a 18446744069414584319) := fun x hx h => inv_unique a x h0 (by unfold P; omega) h
  clear h0
  generalize fW a 18446744069414584319 = z at *
  generalize fN a = n0 at *
  go_enter Tryd.func104, Tryd.ntmps104
  go_wp2
  simp only [ea]
  clear ea
  go_loop [3, 4, 5, 6] (fun vr vn vx vt => ∃ r n x t : Nat, vr = .int .u64 (r : Int) ∧ vn = .int .u64 (n : Int) ∧ vx = .int .u64 (x : Int) ∧ vt = .int .u64 (t : Int) ∧ (r : Int) < 18446744073709551616 ∧ (n : Int) < 18446744073709551616 ∧ (x : Int) < 18446744069414584321 ∧ (t : Int) < 18446744069414584321 ∧ Hid (Nat.gcd r n = 1) ∧ Hid (x * a % P = r % P) ∧ Hid (t * a % P = n % P))
    (fun _ vn _ _ => (intOf vn).toNat)
  case atStart => exact ⟨P, n0, 0, 1, rfl, rfl, rfl, rfl, by unfold P; omega, by omega, by omega, by omega, hg, by show 0 * a % P = P % P; rw [Nat.zero_mul, Nat.zero_mod, Nat.mod_self], hta⟩
  case round =>
    obtain ⟨r, n, x, t, rfl, rfl, rfl, rfl, hr, hn, hx, ht, hG, hX, hT⟩ := hrel
    rcases Nat.eq_zero_or_pos n with h | h
    · subst h
      have e : x = z := by
        have g : r = 1 := by rw [← hG.out, Nat.gcd_zero_right]
        have hX' := hX.out
        rw [g] at hX'
        exact hfin.out x hx (hX'.trans (by decide))
      subst e
      clear hfin hG hX hT hg hta
      go_wp2
      go_ret
      exact ⟨rfl, rfl⟩
    · have hne : ((n : Int) != 0) = true := by simp; omega
      have hle : (r / n * n : Nat) ≤ r := Nat.div_mul_le_self r n
      have eq1 : (r : Int) / (n : Int) = ((r / n : Nat) : Int) := (Int.natCast_ediv r n).symm
      have hmod : r - r / n * n = r % n := by
        have := Nat.mod_add_div' r n
        omega
      have hlt : r % n < n := Nat.mod_lt r h
      have hX' : Hid (fS x (fM (r / n) t) * a % P = (r % n) % P) := euclid_step a r n x t hX.out hT.out
      have hG' : Hid (Nat.gcd n (r % n) = 1) := gcd_step hG.out
      have hq : r / n ≤ r := Nat.div_le_self r n
      generalize r / n = q at *
      generalize r % n = m at *
      have hle' : (q : Int) * (n : Int) ≤ (r : Int) := by rw [← Int.natCast_mul]; omega
      have hmod' : Hid ((r : Int) - (q : Int) * (n : Int) = (m : Int)) := by
        show (r : Int) - (q : Int) * (n : Int) = (m : Int)
        rw [← Int.natCast_mul]; omega
      have hq0 : 0 ≤ (q : Int) * (n : Int) := by rw [← Int.natCast_mul]; omega
      clear hle hmod
      have b1 := fM_lt q t
      have b2 := fS_lt x (fM q t)
      go_wp2_with (first
        | (go_at_call 53; refine Calls.mono (ref_Mul _ _ _) ?_; rintro e w' ⟨rfl, hw⟩; rw [hw]; clear hw)
        | (go_at_call 141; refine Calls.mono (ref_Sub _ _ _) ?_; rintro e w' ⟨rfl, hw⟩; rw [hw]; clear hw))
      go_round
      case rel => exact ⟨n, m, t, fS x (fM q t), rfl, by rw [← hmod'.out], rfl, rfl, hn, by omega, ht, b2, hG', hT, hX'⟩
      case measure => simp only [intOf]; rw [hmod'.out]; omega

end Go.Proofs.YtckoipoejaafhaaDoor

/-! What Forward and Inverse of package goldref answer, of a list of 2^k numbers, k from 0 to 10: the transform, sum by sum; that by the inverse root, by how many there are. -/
namespace Go.Proofs.YtckoipoejaafhaaDoor
open Go.RowKit
set_option maxRecDepth 100000

theorem pE_fw (xs : List Nat) (k j : Nat) (h : xs.length = 2 ^ k) : pE xs (pwK (rt k) j) = (fw xs k j).val := by
  unfold pE pwK fw
  rw [toF_val, dft_cf _ xs k j h]
theorem ref_Root_rt (k : Nat) (hk : (k : Int) ≤ 32) (w : World) : Calls Tryd.prog 105 #[.int .i64 (k : Int)] w fun e w' => e = .returned (.int .u64 ((rt k : Nat) : Int)) ∧ w' = w := ref_Root k hk w

set_option maxHeartbeats 2000000 in
theorem ref_ForwardO (w : World) (v : Value) (xs : List Nat) (k : Nat) (h : IsU w v xs) (hl : xs.length = 2 ^ k) (hk : k ≤ 10) :
    Calls Tryd.prog 75 #[v] w fun e w' => ∃ u, e = .returned u ∧ w'.ownsRow w.heap.size 34 1 u (2 ^ k) (rowK (2 ^ k) (fw xs k)) ∧ Below w.heap.size w w' := by
  have h0 := h
  obtain ⟨a, cap, rfl, hcap, hmax, hc, hr⟩ := h
  clear hcap hmax hc hr
  have hb := (two_pow_bound k hk).2
  have cL := ref_Log_ok k hk
  have cR := ref_Root_rt k (by omega)
  have hE : Hid (∀ j, pE xs (pwK (rt k) j) = (fw xs k j).val) := fun j => pE_fw xs k j hl
  rw [← hl] at cL ⊢
  have hb' : xs.length ≤ 1024 := by omega
  clear hb hl
  go_enter Tryd.func75, Tryd.ntmps75
  go_wp2_with (first
    | (go_at_call 106; refine Calls.mono (cL _) ?_; rintro e w' ⟨rfl, hw⟩; rw [hw]; clear hw)
    | (go_at_call 105; refine Calls.mono (cR _) ?_; rintro e w' ⟨rfl, hw⟩; rw [hw]; clear hw))
  go_loopw [4, 5, 6] (fun u vs vi wr => ∃ j : Nat, j ≤ xs.length ∧ vi = .int .i64 (j : Int) ∧ vs = .int .u64 ((pwK (rt k) j : Nat) : Int) ∧ wr.ownsRow w.heap.size 34 1 u j (rowK j (fw xs k)) ∧ Below w.heap.size w wr)
    (fun _ _ vi _ => xs.length - (intOf vi).toNat)
  case atStart => exact ⟨0, Nat.zero_le _, rfl, rfl, World.ownsRow_nil _ _ _ _, Below.refl _ _⟩
  case round =>
    obtain ⟨j, hj, rfl, rfl, hown, hnx⟩ := hrel
    by_cases hlt : j < xs.length
    · have hd : decide (j < xs.length) = true := decide_eq_true hlt
      have cE := ref_Eval wr _ xs (pwK (rt k) j) (h0.below hnx)
      rw [hE.out j] at cE
      have cM := ref_Mul (pwK (rt k) j) (rt k)
      rw [pwK_succ] at cM
      have hnew := rowK_succ j (fw xs k)
      have hrow : Hid (∀ (w1 : World) (u : Value), w1.ownsRow w.heap.size 34 1 u (j + 1) (rowK j (fw xs k) ++ [.int .u64 (((fw xs k j).val : Nat) : Int)]) → w1.ownsRow w.heap.size 34 1 u (j + 1) (rowK (j + 1) (fw xs k))) := fun w1 u h => by rw [hnew]; exact h
      clear hnew h0
      generalize (fw xs k j).val = z at *
      go_wp2_with (first
        | (go_at_call 107; refine Calls.mono cE ?_; rintro e w' ⟨rfl, hw⟩; rw [hw]; clear hw)
        | (go_at_call 53; refine Calls.mono (cM _) ?_; rintro e w' ⟨rfl, hw⟩; rw [hw]; clear hw)
        | (at_builtin; refine wp_append1 rfl _ _ rfl _ _ _ _ rfl hown rfl ?c3 hnx ?_; rotate_right; intro u' w1 hown' hnx'))
      case c3 => omega
      · have hown2 := hrow.out _ _ hown'
        clear hown' hown hrow hnx
        go_roundw
        case rel => exact ⟨j + 1, by omega, by go_num, rfl, hown2, hnx'⟩
        case measure => simp only [intOf]; omega
    · have e : j = xs.length := by omega
      subst e
      have hU : Hid (wr.ownsRow w.heap.size 34 1 u4 xs.length (rowK xs.length (fw xs k))) := hown
      clear hown h0
      go_wp2
      go_ret
      exact ⟨_, rfl, hU.out, hnx⟩

theorem pE_bw (xs : List Nat) (k j : Nat) (h : xs.length = 2 ^ k) : fM (fW (2 ^ k) 18446744069414584319) (pE xs (pwK (fW (rt k) 18446744069414584319) j)) = (bw xs k j).val := by
  rw [fM_val, toF_inv, toF_pE]
  unfold pwK bw
  rw [toF_val, toF_inv, dft_cf _ xs k j h]

set_option maxHeartbeats 2000000 in
theorem ref_InverseO (w : World) (v : Value) (xs : List Nat) (k : Nat) (h : IsU w v xs) (hl : xs.length = 2 ^ k) (hk : k ≤ 10) :
    Calls Tryd.prog 74 #[v] w fun e w' => ∃ u, e = .returned u ∧ w'.ownsRow w.heap.size 34 1 u (2 ^ k) (rowK (2 ^ k) (bw xs k)) ∧ Below w.heap.size w w' := by
  have h0 := h
  obtain ⟨a, cap, rfl, hcap, hmax, hc, hr⟩ := h
  clear hcap hmax hc hr
  have hb := (two_pow_bound k hk).2
  have cL := ref_Log_ok k hk
  have cR := ref_Root_rt k (by omega)
  have cI := ref_Inv (rt k) (rt_ne k (by omega))
  have cN := ref_Inv (2 ^ k) (len_ne k (by omega))
  have hE : Hid (∀ j, fM (fW (2 ^ k) 18446744069414584319) (pE xs (pwK (fW (rt k) 18446744069414584319) j)) = (bw xs k j).val) := fun j => pE_bw xs k j hl
  rw [← hl] at cL cN hE ⊢
  have hb' : xs.length ≤ 1024 := by omega
  clear hb hl
  generalize fW (rt k) 18446744069414584319 = iw at *
  generalize fW xs.length 18446744069414584319 = il at *
  have tk1 : True := trivial
  go_enter Tryd.func74, Tryd.ntmps74
  go_wp2_with (first
    | (go_at_call 106; refine Calls.mono (cL _) ?_; rintro e w' ⟨rfl, hw⟩; rw [hw]; clear hw)
    | (go_at_call 105; refine Calls.mono (cR _) ?_; rintro e w' ⟨rfl, hw⟩; rw [hw]; clear hw)
    | (go_at_call 104; have _t := tk1; refine Calls.mono (cI _) ?_; rintro e w' ⟨rfl, hw⟩; rw [hw]; clear hw tk1)
    | (go_at_call 104; refine Calls.mono (cN _) ?_; rintro e w' ⟨rfl, hw⟩; rw [hw]; clear hw))
  go_loopw [5, 6, 7] (fun u vs vi wr => ∃ j : Nat, j ≤ xs.length ∧ vi = .int .i64 (j : Int) ∧ vs = .int .u64 ((pwK iw j : Nat) : Int) ∧ wr.ownsRow w.heap.size 34 1 u j (rowK j (bw xs k)) ∧ Below w.heap.size w wr)
    (fun _ _ vi _ => xs.length - (intOf vi).toNat)
  case atStart => exact ⟨0, Nat.zero_le _, rfl, rfl, World.ownsRow_nil _ _ _ _, Below.refl _ _⟩
  case round =>
    obtain ⟨j, hj, rfl, rfl, hown, hnx⟩ := hrel
    by_cases hlt : j < xs.length
    · have hd : decide (j < xs.length) = true := decide_eq_true hlt
      have cE := ref_Eval wr _ xs (pwK iw j) (h0.below hnx)
      have cQ := ref_Mul il (pE xs (pwK iw j))
      rw [hE.out j] at cQ
      have cM := ref_Mul (pwK iw j) iw
      rw [pwK_succ] at cM
      have hnew := rowK_succ j (bw xs k)
      have hrow : Hid (∀ (w1 : World) (u : Value), w1.ownsRow w.heap.size 34 1 u (j + 1) (rowK j (bw xs k) ++ [.int .u64 (((bw xs k j).val : Nat) : Int)]) → w1.ownsRow w.heap.size 34 1 u (j + 1) (rowK (j + 1) (bw xs k))) := fun w1 u h => by rw [hnew]; exact h
      clear hnew h0
      generalize (bw xs k j).val = z at *
      generalize pE xs (pwK iw j) = y at *
      have tk2 : True := trivial
      go_wp2_with (first
        | (go_at_call 107; refine Calls.mono cE ?_; rintro e w' ⟨rfl, hw⟩; rw [hw]; clear hw)
        | (go_at_call 53; have _t := tk2; refine Calls.mono (cQ _) ?_; rintro e w' ⟨rfl, hw⟩; rw [hw]; clear hw tk2)
        | (go_at_call 53; refine Calls.mono (cM _) ?_; rintro e w' ⟨rfl, hw⟩; rw [hw]; clear hw)
        | (at_builtin; refine wp_append1 rfl _ _ rfl _ _ _ _ rfl hown rfl ?c3 hnx ?_; rotate_right; intro u' w1 hown' hnx'))
      case c3 => omega
      · have hown2 := hrow.out _ _ hown'
        clear hown' hown hrow hnx
        go_roundw
        case rel => exact ⟨j + 1, by omega, by go_num, rfl, hown2, hnx'⟩
        case measure => simp only [intOf]; omega
    · have e : j = xs.length := by omega
      subst e
      have hU : Hid (wr.ownsRow w.heap.size 34 1 u5 xs.length (rowK xs.length (bw xs k))) := hown
      clear hown h0
      go_wp2
      go_ret
      exact ⟨_, rfl, hU.out, hnx⟩
end Go.Proofs.YtckoipoejaafhaaDoor

/-! What Turned of package goldref answers: an array with lines of an axis transformed. -/
namespace Go.Proofs.YtckoipoejaafhaaDoor
open Go.RowKit
set_option maxRecDepth 100000

theorem IsI.bar {w w' : World} {g gl l c : Nat} {xs : List Nat} (h : IsI w (.slice (some ⟨gl, 0, none⟩) l c) xs) (hlt : gl < w.heap.size) (hne : gl ≠ g) (hb : Bar g w w') : IsI w' (.slice (some ⟨gl, 0, none⟩) l c) xs := h.block (hb.block gl hlt hne)
theorem IsI.cellAt {w : World} {g l c : Nat} {xs : List Nat} (h : IsI w (.slice (some ⟨g, 0, none⟩) l c) xs) (i : Nat) (hi : i < xs.length) : w.cell? ⟨g, i, none⟩ = some (.int .i64 ((xs.getD i 0 : Nat) : Int)) := by
  obtain ⟨a, cap, e, _, _, hc⟩ := h
  simp only [Value.slice.injEq] at e
  obtain ⟨rfl, rfl, rfl⟩ := e
  obtain ⟨b, off, e2, hcell⟩ := hc i hi
  simp only [Option.some.injEq, Addr.mk.injEq, and_true] at e2
  obtain ⟨rfl, rfl⟩ := e2
  rw [Nat.zero_add] at hcell
  exact hcell
/-- A line: where it lies, that it lies in new memory, and its numbers. -/
theorem IsLF.line {B : Nat} {w : World} {v : Value} {L : List (List Nat)} (h : IsLF B w v L) (i : Nat) (hi : i < L.length) : ∃ b off cap gl cl, v = .slice (some ⟨b, off, none⟩) L.length cap ∧ B ≤ b ∧ B ≤ gl ∧
    w.cell? ⟨b, off + i, none⟩ = some (.slice (some ⟨gl, 0, none⟩) (L.getD i []).length cl) ∧ (∀ t, t < (L.getD i []).length → w.cell? ⟨gl, t, none⟩ = some (.int .i64 (((L.getD i []).getD t 0 : Nat) : Int))) := by
  obtain ⟨a, cap, rfl, h1, h2, hc⟩ := h
  obtain ⟨b, off, gl, cl, rfl, hB1, hB2, hcell, hI⟩ := hc i hi
  exact ⟨b, off, cap, gl, cl, rfl, hB1, hB2, hcell, fun t ht => hI.cellAt t ht⟩

/-- A number of a line's list that is read while the list is made. -/
def lnR (ds xs : List Nat) (x i k : Nat) : List Nat := (List.range k).map fun t => xs.getD (ps (beh ds (x + 1)) (sz ds x) i t) 0
theorem lnR_succ (ds xs : List Nat) (x i k : Nat) : lnR ds xs x i (k + 1) = lnR ds xs x i k ++ [xs.getD (ps (beh ds (x + 1)) (sz ds x) i k) 0] := by simp [lnR, List.range_succ]
theorem lnR_length (ds xs : List Nat) (x i k : Nat) : (lnR ds xs x i k).length = k := by simp [lnR]
theorem lnR_get (ds xs : List Nat) (x i k t : Nat) (h : t < k) : (lnR ds xs x i k).getD t 0 = xs.getD (ps (beh ds (x + 1)) (sz ds x) i t) 0 := by simp [lnR, List.getD, h]

set_option maxHeartbeats 8000000 in
theorem ref_TurnedF (w : World) (v v' : Value) (zs : List Int) (ds xs : List Nat) (x f l : Nat) (back : Bool) (h : IsZ w v zs) (h' : IsU w v' xs) (hG : Good zs ds) (hn : prd2 ds ≤ 1024) (hl : xs.length = prd2 ds) (hx : x < ds.length) (hfl : f ≤ l) (hln : l ≤ nln ds x) :
    Calls Tryd.prog 35 #[v, v', .int .i64 (x : Int), .int .i64 (f : Int), .int .i64 (l : Int), .bool back] w fun e w' => ∃ g c, e = .returned (.slice (some ⟨g, 0, none⟩) xs.length c) ∧ w.heap.size ≤ g ∧ c ≤ maxLen ∧ Rng (trn ds xs x f l back) ∧ RowX w' g c (trn ds xs x f l back) ∧ Below w.heap.size w w' := by
  have hS : Shp ds := hG.2.2.2
  have hA := h'
  obtain ⟨a, cap, rfl, hcap, hmax, hc, hrx⟩ := h'
  clear hcap hmax
  have cL := fun (W : World) (hb : Below w.heap.size w W) => ref_LinesF W v zs ds x (h.below hb) hG hn hx
  have hLe := lns_eq hS x hx
  rw [hLe] at cL
  have hpos : 0 < prd2 ds := prd2_pos hS.pos
  have hxl : 0 < xs.length := by omega
  have hd0 := P2_pos (hS.at x hx)
  have hu0 := beh_pos hS (x + 1)
  have hnl : nln ds x ≤ 1024 := by rw [← nln_div hS x hx]; exact Nat.le_trans (Nat.div_le_self _ _) hn
  obtain ⟨kk, hkk, hkk10, -⟩ := axW_ord hS hn x hx
  have hd9 := sz_le hS hn x hx
  have hpslt : Hid (∀ i k, i < nln ds x → k < sz ds x → ps (beh ds (x + 1)) (sz ds x) i k < xs.length) := fun i k hi hk => by
    rw [hl, prd2_at ds x hx]; exact ps_lt hu0 hi hk
  have hline : Hid (∀ i, i < nln ds x → (((List.range (nln ds x)).map fun i => lin ds x (ps (beh ds (x + 1)) (sz ds x) i 0) (sz ds x)).getD i []) = lin ds x (ps (beh ds (x + 1)) (sz ds x) i 0) (sz ds x)) := fun i hi => by simp [List.getD, hi]
  have hLl : ((List.range (nln ds x)).map fun i => lin ds x (ps (beh ds (x + 1)) (sz ds x) i 0) (sz ds x)).length = nln ds x := by simp
  have hstart : Hid (trK ds xs x f back f 0 = xs) := trK_start hl x f back
  have hsets : Hid (∀ i k, f ≤ i → k < sz ds x → (trK ds xs x f back i k).set (ps (beh ds (x + 1)) (sz ds x) i k) (alo ds x back (cf xs) (ps (beh ds (x + 1)) (sz ds x) i k)).val = trK ds xs x f back i (k + 1)) := fun i k hf hk => trK_set hS xs x f back i k hf hk
  have hlines : Hid (∀ i, f ≤ i → trK ds xs x f back i (sz ds x) = trK ds xs x f back (i + 1) 0) := fun i hf => trK_line hS xs x hx f back i hf
  have halo : Hid (∀ i k, k < sz ds x → alo ds x back (cf xs) (ps (beh ds (x + 1)) (sz ds x) i k) = (if back then bw (lnR ds xs x i (sz ds x)) kk k else fw (lnR ds xs x i (sz ds x)) kk k)) := fun i k hk =>
    alo_line hS xs x back i k kk hk hkk _ (fun t ht => lnR_get ds xs x i _ t ht)
  have hlp : Hid (∀ i t, t < sz ds x → (lin ds x (ps (beh ds (x + 1)) (sz ds x) i 0) (sz ds x)).getD t 0 = ps (beh ds (x + 1)) (sz ds x) i t) := fun i t ht => lin_ps ds x i t ht
  have hpl : Hid (∀ i k, (trK ds xs x f back i k).length = xs.length) := fun i k => (trK_length ds xs x f back i k).trans hl.symm
  have htr : Hid (∀ i k, Rng (trK ds xs x f back i k)) := fun i k z hz => by
    unfold trK tb at hz
    obtain ⟨p, _, rfl⟩ := List.mem_map.mp hz
    split
    · have := (alo ds x back (cf xs) p).isLt
      unfold P at this
      omega
    · exact range_getD hrx p
  have hx9 : xs.length ≤ 1000000000 := by omega
  have hlnS : Hid (∀ i k, lnR ds xs x i (k + 1) = lnR ds xs x i k ++ [xs.getD (ps (beh ds (x + 1)) (sz ds x) i k) 0]) := fun i k => lnR_succ ds xs x i k
  have hlnR : Hid (∀ i k, Rng (lnR ds xs x i k)) := fun i k z hz => by
    obtain ⟨p, _, rfl⟩ := List.mem_map.mp hz
    exact range_getD hrx _
  generalize (List.range (nln ds x)).map (fun i => lin ds x (ps (beh ds (x + 1)) (sz ds x) i 0) (sz ds x)) = L at *
  have hLl' : Hid (L.length = nln ds x) := hLl
  have hkk' : Hid (sz ds x = 2 ^ kk) := hkk
  have hll : Hid (∀ i, (lin ds x (ps (beh ds (x + 1)) (sz ds x) i 0) (sz ds x)).length = sz ds x) := fun i => lin_length _ _ _ _
  clear hLe hLl hkk hl hu0 hpos h
  generalize nln ds x = M at *
  generalize sz ds x = d at *
  generalize beh ds (x + 1) = u at *
  clear hG hn hx hS
  go_enter Tryd.func35, Tryd.ntmps35
  go_wp2_with (first
    | (at_builtin; refine wp_appendAll rfl _ _ rfl _ xs rfl rfl hA hxl hx9 ?_; intro g c w1 hg hc9 hrow hb1)
    | (go_at_call 73; refine Calls.mono (cL _ hb1) ?_; rintro e w2 ⟨ul, rfl, hL, hb2⟩))
  have hgB := hrow.lt
  have hrow2 := hrow.below hb2
  have hB2 : Below w.heap.size w w2 := hb1.trans (hb2.mono hb1.size)
  have hAg := hA.apart hg
  clear hrow hb1 hb2 cL
  go_loopw [15] (fun vi wr => ∃ i : Nat, f ≤ i ∧ i ≤ l ∧ vi = .int .i64 (i : Int) ∧ RowX wr g c (trK ds xs x f back i 0) ∧ Bar g w2 wr)
    (fun vi _ => l - (intOf vi).toNat)
  case atStart => exact ⟨f, Nat.le_refl _, hfl, rfl, hrow2.cast hstart.out.symm, Bar.refl _ _⟩
  case round =>
    clear hrow2
    obtain ⟨i, hfi, hil, rfl, hrow, hbar⟩ := hrel
    by_cases hlt : i < l
    · obtain ⟨b, off, capl, gl, cl, rfl, hBb, hBgl, hcl, hct⟩ := hL.line i (by rw [hLl'.out]; omega)
      rw [hline.out i (by omega), hll.out i] at hcl hct
      have hlo := hlp.out i
      have hps := fun k => hpslt.out i k (by omega)
      have hnb : b ≠ g := by omega
      have hngl : gl ≠ g := by omega
      have hcl1 := (World.cell?_of_block (w := w2) (hbar.block b (block_lt hcl) hnb)).trans hcl
      have hct1 : ∀ t, t < d → wr.cell? ⟨gl, t, none⟩ = some (.int .i64 ((ps u d i t : Nat) : Int)) := fun t ht => by
        have := (World.cell?_of_block (w := w2) (hbar.block gl (block_lt (hct t ht)) hngl)).trans (hct t ht)
        rw [hlo t ht] at this
        exact this
      have hA1 := (hA.below hB2).bar hAg hbar
      obtain ⟨ba, oa, rfl, _⟩ := hc 0 hxl
      have hiM : i < L.length := by rw [hLl'.out]; omega
      obtain ⟨wo, hwo⟩ : ∃ wo : World, wo = wr := ⟨_, rfl⟩
      rw [← hwo] at hrow hbar hcl1 hct1 hA1 ⊢
      clear hwo hcl hct hc
      have hprep : Hid (∀ W : World, Below wo.heap.size wo W → W.cell? ⟨b, off + i, none⟩ = some (.slice (some ⟨gl, 0, none⟩) d cl) ∧ ∀ k, k < d → W.cell? ⟨gl, k, none⟩ = some (.int .i64 ((ps u d i k : Nat) : Int)) ∧ W.cell? ⟨ba, oa + ps u d i k, none⟩ = some (.int .u64 ((xs.getD (ps u d i k) 0 : Nat) : Int))) := fun W hb =>
        ⟨(hb.cell (block_lt hcl1)).trans hcl1, fun k hk => ⟨(hb.cell (block_lt (hct1 k hk))).trans (hct1 k hk), (hA1.below hb).cell _ (hps k hk)⟩⟩
      clear hcl1 hct1
      go_wp2
      go_loopw [16, 17] (fun u16 vk wr => ∃ k : Nat, k ≤ d ∧ vk = .int .i64 (k : Int) ∧ wr.ownsRow wo.heap.size 34 1 u16 k (cellsU (lnR ds xs x i k)) ∧ Below wo.heap.size wo wr)
        (fun _ vk _ => d - (intOf vk).toNat)
      case atStart => exact ⟨0, Nat.zero_le _, rfl, World.ownsRow_nil _ _ _ _, Below.refl _ _⟩
      case round =>
        obtain ⟨k, hk, rfl, hown, hnx⟩ := hrel
        obtain ⟨q1, q2⟩ := hprep.out wr hnx
        by_cases hkd : k < d
        · obtain ⟨q3, q4⟩ := q2 k hkd
          have hpk := hps k hkd
          have hnew : Hid (∀ (w1 : World) (u' : Value), w1.ownsRow wo.heap.size 34 1 u' (k + 1) (cellsU (lnR ds xs x i k) ++ [.int .u64 ((xs.getD (ps u d i k) 0 : Nat) : Int)]) → w1.ownsRow wo.heap.size 34 1 u' (k + 1) (cellsU (lnR ds xs x i (k + 1)))) := fun w1 u' h => by rw [hlnS.out, cellsU_append]; exact h
          clear q2 hps hlo hA hAg hA1 hrow hbar hL hB2 hrx hlnS
          generalize xs.getD (ps u d i k) 0 = z at *
          generalize ps u d i k = pk at *
          go_wp2_with (at_builtin; refine wp_append1 rfl _ _ rfl _ _ _ _ rfl hown rfl ?c3 hnx ?_; rotate_right; intro u' w3 hown' hnx')
          case c3 => omega
          · have hown2 := hnew.out _ _ hown'
            clear hown' hown hnew hnx q1 q3 q4
            go_wp2
            go_roundw
            case rel => exact ⟨k + 1, by omega, by go_num, hown2, hnx'⟩
            case measure => simp only [intOf]; omega
        · have e : d = k := by omega
          subst e
          have hX := IsU.of_owns hown (hlnR.out _ _)
          obtain ⟨rl, hrl⟩ : ∃ rl : List Nat, rl = mk d (fun t => if back then bw (lnR ds xs x i d) kk t else fw (lnR ds xs x i d) kk t) := ⟨_, rfl⟩
          have hrlen : rl.length = d := by rw [hrl, mk_length]
          have hlnl : (lnR ds xs x i d).length = 2 ^ kk := by rw [lnR_length, hkk'.out]
          have cF : back = false → Calls Tryd.prog 75 #[u16] wr fun e w' => ∃ u, e = .returned u ∧ w'.ownsRow wr.heap.size 34 1 u d (cellsU rl) ∧ Below wr.heap.size wr w' := by
            intro hb
            have := ref_ForwardO wr u16 (lnR ds xs x i d) kk hX hlnl hkk10
            rw [← hkk'.out] at this
            subst hb hrl
            exact this
          have cI : back = true → Calls Tryd.prog 74 #[u16] wr fun e w' => ∃ u, e = .returned u ∧ w'.ownsRow wr.heap.size 34 1 u d (cellsU rl) ∧ Below wr.heap.size wr w' := by
            intro hb
            have := ref_InverseO wr u16 (lnR ds xs x i d) kk hX hlnl hkk10
            rw [← hkk'.out] at this
            subst hb hrl
            exact this
          have hset2 : Hid (∀ k, k < d → (trK ds xs x f back i k).set (ps u d i k) (rl.getD k 0) = trK ds xs x f back i (k + 1)) := fun k hk => by
            have e : rl.getD k 0 = (alo ds x back (cf xs) (ps u d i k)).val := by rw [hrl, mk_getD d _ k hk, halo.out i k hk]
            rw [e, hsets.out i k hfi hk]
          have hend : Hid (trK ds xs x f back i d = trK ds xs x f back (i + 1) 0) := hlines.out i hfi
          have hlenT : Hid (∀ k, (trK ds xs x f back i k).length = xs.length) := fun k => hpl.out i k
          have hgo := hrow.lt
          have hrow3 := hrow.below hnx
          obtain ⟨w3, hw3⟩ : ∃ w3 : World, w3 = wr := ⟨_, rfl⟩
          rw [← hw3] at hrow3 hnx q1 cF cI ⊢
          clear hw3 hrl hX hown hlnl q2 hsets halo hlines hrow hA hAg hA1 hrx hlnS hlnR hL hlo hlp hll hpslt hline hstart hpl
          generalize trK ds xs x f back i = T at *
          cases back
          all_goals
            go_wp2_with (first
              | (go_at_call 75; refine Calls.mono (cF rfl) ?_; rintro e w5 ⟨u5, rfl, hO5, hb5⟩)
              | (go_at_call 74; refine Calls.mono (cI rfl) ?_; rintro e w5 ⟨u5, rfl, hO5, hb5⟩))
            obtain ⟨gx, cx, rfl, hgx, hcx9, hrx5⟩ := RowX.of_owns hO5 hd0
            have hrow5 := hrow3.below hb5
            have hnx5 : Below wo.heap.size wo w5 := hnx.trans (hb5.mono hnx.size)
            have hgx2 : gx ≠ g := by have := hnx.size; omega
            obtain ⟨p1, p2⟩ := hprep.out w5 hnx5
            clear hrow3 hb5 hO5 hnx cF cI q1 hprep
            go_loopw [18] (fun vk wr => ∃ k : Nat, k ≤ d ∧ vk = .int .i64 (k : Int) ∧ RowX wr g c (T k) ∧ Bar g w5 wr)
              (fun vk _ => d - (intOf vk).toNat)
            case atStart => exact ⟨0, Nat.zero_le _, rfl, hrow5, Bar.refl _ _⟩
            case round =>
              clear hrow5
              obtain ⟨k, hk, rfl, hrowk, hbar5⟩ := hrel
              have r1 := (World.cell?_of_block (w := w5) (hbar5.block b (block_lt p1) hnb)).trans p1
              by_cases hkd2 : k < d
              · obtain ⟨q3, -⟩ := p2 k hkd2
                have r2 := (World.cell?_of_block (w := w5) (hbar5.block gl (block_lt q3) hngl)).trans q3
                have r3 := (hrx5.bar hgx2 hbar5).cell k (by rw [hrlen]; exact hkd2)
                have hpk := hps k hkd2
                have r4 := hrowk.cell (ps u d i k) (by rw [hlenT.out]; exact hpk)
                have r5 := hrowk.frozen (ps u d i k)
                have r6 := hrowk.set (ps u d i k) (rl.getD k 0)
                rw [hset2.out k hkd2] at r6
                have hB3 := hbar5.setCell (ps u d i k) (.int .u64 ((rl.getD k 0 : Nat) : Int))
                clear hrowk hbar5 p1 p2 q3 hps hset2 hlenT
                generalize rl.getD k 0 = z at *
                generalize (T k).getD (ps u d i k) 0 = old at *
                generalize ps u d i k = pk at *
                go_wp2
                go_region
                go_wp2
                go_roundw
                case rel => exact ⟨k + 1, by omega, by go_num, r6, ⟨hB3.os, hB3.tape, hB3.output, hB3.size, hB3.block⟩⟩
                case measure => simp only [intOf]; omega
              · have e : d = k := by omega
                subst e
                rw [hend.out] at hrowk
                have hbN : Bar g w2 wr := (hbar.trans (Bar.of_below hnx5)).trans hbar5
                clear p1 p2 hset2 hlenT hbar5 hps
                go_wp2
                go_roundw
                case rel => exact ⟨i + 1, by omega, by omega, by go_num, hrowk, hbN⟩
                case measure => simp only [intOf]; omega
    · have e : i = l := by omega
      subst e
      have hge : ¬ i < i := Nat.lt_irrefl _
      have hRg := htr.out i 0
      clear hc hL hlt
      go_wp2
      go_ret
      exact ⟨g, c, rfl, hg, hc9, hRg, hrow, Bar.fresh hB2 hg hbar⟩
theorem ref_Turned (w : World) (v v' : Value) (zs : List Int) (ds xs : List Nat) (x f l : Nat) (back : Bool) (h : IsZ w v zs) (h' : IsU w v' xs) (hG : Good zs ds) (hn : prd2 ds ≤ 1024) (hl : xs.length = prd2 ds) (hx : x < ds.length) (hfl : f ≤ l) (hln : l ≤ nln ds x) :
    Calls Tryd.prog 35 #[v, v', .int .i64 (x : Int), .int .i64 (f : Int), .int .i64 (l : Int), .bool back] w fun e w' => ∃ u, e = .returned u ∧ IsU w' u (trn ds xs x f l back) ∧ Below w.heap.size w w' := by
  refine (ref_TurnedF w v v' zs ds xs x f l back h h' hG hn hl hx hfl hln).mono ?_
  rintro e w' ⟨g, c, rfl, -, hc, hR, hr, hb⟩
  exact ⟨_, rfl, hr.isUN hR hc (by rw [hl]; exact trK_length _ _ _ _ _ _ _), hb⟩

end Go.Proofs.YtckoipoejaafhaaDoor

/-! What Whole of package goldref answers: an array transformed along all axes. -/
namespace Go.Proofs.YtckoipoejaafhaaDoor
open Go.RowKit
set_option maxRecDepth 100000

set_option maxHeartbeats 2000000 in
theorem ref_Whole (w : World) (v v' : Value) (zs : List Int) (ds xs : List Nat) (back : Bool) (h : IsZ w v zs) (h' : IsU w v' xs) (hG : Good zs ds) (hn : prd2 ds ≤ 1024) (hl : xs.length = prd2 ds) :
    Calls Tryd.prog 12 #[v, v', .bool back] w fun e w' => ∃ u, e = .returned u ∧ IsU w' u (mk (prd2 ds) (who ds back (cf xs) ds.length)) ∧ Below w.heap.size w w' := by
  have hZ := h
  have hS : Shp ds := hG.2.2.2
  obtain ⟨a, cap, rfl, hcap, hmax, hc, hr⟩ := h
  clear hcap hmax hr
  have hlen : zs.length = ds.length := by rw [hG.2.2.1, List.length_map]
  have h1 : 1 ≤ ds.length := by rw [← hlen]; exact hG.1
  have h3 : ds.length ≤ 3 := by rw [← hlen]; exact hG.2.1
  have hcz : Hid (∀ W : World, Below w.heap.size w W → ∀ x, x < ds.length → ∃ b off, a = some ⟨b, off, none⟩ ∧ W.cell? ⟨b, off + x, none⟩ = some (.int .i64 ((sz ds x : Nat) : Int))) := fun W hb x hx => by
    obtain ⟨b, off, rfl, hcell⟩ := hc x (by omega)
    rw [(Good_get hG x (by omega)).1] at hcell
    exact ⟨b, off, rfl, (hb.cell (block_lt hcell)).trans hcell⟩
  have cT : Hid (∀ (W : World) (u : Value) (cur : List Nat) (x : Nat), Below w.heap.size w W → IsU W u cur → cur.length = prd2 ds → x < ds.length → Calls Tryd.prog 35 #[.slice a zs.length cap, u, .int .i64 (x : Int), .int .i64 0, .int .i64 ((nln ds x : Nat) : Int), .bool back] W fun e w' => ∃ u, e = .returned u ∧ IsU w' u (mk (prd2 ds) (alo ds x back (cf cur))) ∧ Below W.heap.size W w') := fun W u cur x hb hU hcl hx => by
    have := ref_Turned W (.slice a zs.length cap) u zs ds cur x 0 (nln ds x) back (hZ.below hb) hU hG hn hcl hx (Nat.zero_le _) (Nat.le_refl _)
    rw [trn_all hS cur x hx back] at this
    exact this
  have hnx : Hid (∀ x, x < ds.length → Int.tdiv ((prd2 ds : Nat) : Int) ((sz ds x : Nat) : Int) = ((nln ds x : Nat) : Int) ∧ nln ds x ≤ 1024 ∧ 0 < sz ds x) := fun x hx => by
    refine ⟨?_, ?_, P2_pos (hS.at x hx)⟩
    · rw [Int.tdiv_eq_ediv_of_nonneg (by omega), ← Int.natCast_ediv, nln_div hS x hx]
    · rw [← nln_div hS x hx]; exact Nat.le_trans (Nat.div_le_self _ _) hn
  have hstep : Hid (∀ (cur : List Nat) (x : Nat), x < ds.length → (∀ i, i < prd2 ds → cf cur i = who ds back (cf xs) x i) → mk (prd2 ds) (alo ds x back (cf cur)) = mk (prd2 ds) (who ds back (cf xs) (x + 1))) := fun cur x hx hcur =>
    mk_congr fun p hp => by rw [who_succ]; exact alo_congr hS x hx back hcur p hp
  have hl' : Hid (xs.length = prd2 ds) := hl
  have hn' : Hid (prd2 ds ≤ 1024) := hn
  rw [hlen] at cT ⊢
  clear hc hG hZ hS hlen hl hn
  generalize hN : prd2 ds = N at *
  clear hN
  go_enter Tryd.func12, Tryd.ntmps12
  go_wp2
  go_loopw [1, 7] (fun va vi wr => ∃ (x : Nat) (cur : List Nat), x ≤ ds.length ∧ vi = .int .i64 (x : Int) ∧ IsU wr va cur ∧ Hid (cur.length = N) ∧ Hid (∀ i, i < N → cf cur i = who ds back (cf xs) x i) ∧ Hid (0 < x → cur = mk N (who ds back (cf xs) x)) ∧ Below w.heap.size w wr)
    (fun _ vi _ => ds.length - (intOf vi).toNat)
  case atStart => exact ⟨0, xs, Nat.zero_le _, rfl, h', hl', fun i _ => rfl, fun h0 => absurd h0 (Nat.lt_irrefl 0), Below.refl _ _⟩
  case round =>
    obtain ⟨x, cur, hx, rfl, hU, hcl, hcf, hcm, hbw⟩ := hrel
    by_cases hlt : x < ds.length
    · obtain ⟨b, off, rfl, hcell⟩ := hcz.out wr hbw x hlt
      obtain ⟨e1, e2, e3⟩ := hnx.out x hlt
      obtain ⟨ac, cc, rfl, -⟩ := id hU
      have c1 := cT.out wr _ cur x hbw hU hcl.out hlt
      rw [hstep.out cur x hlt hcf.out] at c1
      have hc0 := hcl.out
      have hwq : IntKind.i64.wrap ((nln ds x : Nat) : Int) = ((nln ds x : Nat) : Int) := wraps_i64 _ (Int.natCast_nonneg _) (by omega)
      have hd0 : ¬ ((sz ds x : Nat) : Int) = 0 := by omega
      rw [hc0] at c1 hU ⊢
      have hnew : Hid (∀ i, i < N → cf (mk N (who ds back (cf xs) (x + 1))) i = who ds back (cf xs) (x + 1) i) := fun i hi => by rw [cf_mk, if_pos hi]
      have hlm : Hid ((mk N (who ds back (cf xs) (x + 1))).length = N) := mk_length _ _
      have hN9 := hn'.out
      obtain ⟨nw, hnw⟩ : ∃ nw : List Nat, nw = mk N (who ds back (cf xs) (x + 1)) := ⟨_, rfl⟩
      have hnw' : Hid (nw = mk N (who ds back (cf xs) (x + 1))) := hnw
      rw [← hnw] at c1 hnew hlm
      clear hcz hnx cT hstep hcf hcm hc0 hcl e3 hU hnw
      generalize nln ds x = M at *
      generalize sz ds x = d at *
      go_wp2_with (go_at_call 35; refine Calls.mono c1 ?_; rintro e w2 ⟨u2, rfl, hU2, hb2⟩)
      go_roundw
      case rel => exact ⟨x + 1, nw, by omega, by go_num, hU2, hlm, hnew, fun _ => hnw'.out, hbw.trans (hb2.mono hbw.size)⟩
      case measure => simp only [intOf]; omega
    · have e : ds.length = x := by omega
      subst e
      have hcur := hcm.out (by omega)
      have hU2 := hU.cast hcur
      clear hcz hnx cT hstep hcf hcm hcl hcur
      obtain ⟨ac, cc, rfl, -⟩ := id hU
      clear hU
      go_wp2
      go_ret
      exact ⟨_, rfl, hU2, hbw⟩

end Go.Proofs.YtckoipoejaafhaaDoor
