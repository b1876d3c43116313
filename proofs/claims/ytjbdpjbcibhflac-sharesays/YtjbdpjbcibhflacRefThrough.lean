/-
  What Through of package goldref answers (LAGRANGE): of points that may be, the polynomial through them, in normal form and in new memory.
-/
import Derived.Test.YtjbdpjbcibhflacRefProduct
import Derived.Test.YtjbdpjbcibhflacRefSum
import Derived.Test.YtjbdpjbcibhflacRefI
import Derived.Test.YtjbdpjbcibhflacRefPoints
import Derived.Test.YtjbdpjbcibhflacPure
import Derived.Deep.RegionWith
namespace Go.Proofs.Ytjbdpjbcibhflac
open Go.RowKit

theorem k_sub0 (x : Nat) (w : World) : Calls Try.prog 31 #[.int .u64 0, .int .u64 (x : Int)] w fun e w' => e = .returned (.int .u64 ((fS 0 x : Nat) : Int)) ∧ w' = w := ref_Sub 0 x w

theorem Dif_cf {xs : List Nat} (h : Dif xs xs.length 0) : ∀ i j, i < xs.length → j < xs.length → j ≠ i → cf xs i ≠ cf xs j := by
  have h1 : ∀ i j, j < i → i < xs.length → cf xs i ≠ cf xs j := by
    intro i j hij hi e
    apply h.1 i j hi hij
    rw [fN_val, fN_val]
    exact congrArg Fin.val e
  intro i j hi hj hne e
  rcases Nat.lt_or_gt_of_ne hne with h2 | h2
  · exact h1 i j h2 hi e
  · exact h1 j i h2 hj e.symm

/-- What holds of the inner loop's list. -/
def One (xs l : List Nat) (i k : Nat) : Prop := l.length ≤ k + 1 ∧ ∀ x, evF (l.map toF) x = prd (cf xs) i k x
theorem One_zero (xs : List Nat) (i : Nat) : One xs [1] i 0 := by
  refine ⟨by simp, fun x => ?_⟩
  rw [ev_one, prd_zero, toF_one]
theorem One_skip {xs l : List Nat} {i : Nat} (h : One xs l i i) : One xs l i (i + 1) :=
  ⟨by have := h.1; omega, fun x => by rw [h.2, prd_skip]⟩
theorem One_step {xs l : List Nat} {i k : Nat} (h : One xs l i k) (hne : k ≠ i) : One xs (pM l [fS 0 (xs.getD k 0), 1]) i (k + 1) := by
  refine ⟨?_, fun x => ?_⟩
  · have := pM_length_le l [fS 0 (xs.getD k 0), 1]
    have := h.1
    simp only [List.length_cons, List.length_nil] at *
    omega
  · rw [ev_pM, h.2, ev_lin, prd_succ _ hne]; rfl

theorem Goes_step {xs ys o l : List Nat} {i z : Nat} (hi : i < xs.length) (hd : ∀ i j, i < xs.length → j < xs.length → j ≠ i → cf xs i ≠ cf xs j) (ho : Goes o xs.length (cf xs) (fun j => if j < i then cf ys j else 0)) (hl : One xs l i xs.length) (hlen : l.length ≤ xs.length)
    (hz : toF z = cf ys i * inv (prd (cf xs) i xs.length (cf xs i))) : Goes (pN (pS o (pM l [z]))) xs.length (cf xs) (fun j => if j < i + 1 then cf ys j else 0) := by
  refine ⟨pN_pN _, ?_, fun j hj => ?_⟩
  · rw [pN_length]
    have h1 := sig_le (pS o (pM l [z]))
    have h2 := pM_length_le l [z]
    have h3 := ho.2.1
    simp only [pS, mk_length, List.length_cons, List.length_nil] at *
    omega
  · rw [ev_pN, ev_pS, ev_pM, ev_one, ho.2.2 j hj, hl.2, hz]
    have hn := prd_ne (cf xs) i xs.length (fun j hj hne => hd i j hi hj hne)
    have hm := mul_inv hn
    by_cases e : j = i
    · subst e
      simp only [Nat.lt_irrefl, if_false, Nat.lt_succ_self, if_true]
      grind
    · rw [prd_at _ _ _ j hj e]
      by_cases h1 : j < i
      · simp only [h1, if_true, show j < i + 1 by omega]; grind
      · simp only [h1, if_false, show ¬ j < i + 1 by omega]; grind

set_option maxHeartbeats 4000000 in
theorem ref_ThroughF (w : World) (v v' : Value) (xs ys : List Nat) (h : IsU w v xs) (h' : IsU w v' ys) (hP : Pts xs ys) :
    Calls Try.prog 20 #[v, v'] w fun e w' => ∃ u l, e = .returned u ∧ IsU w' u l ∧ Goes l xs.length (cf xs) (cf ys) ∧ Ow w.heap.size w' u l ∧ Below w.heap.size w w' := by
  have h0 := h
  have h0' := h'
  obtain ⟨a, cap, rfl, hcap, hmax, hc, hr⟩ := h
  obtain ⟨a', cap', rfl, hcap', hmax', hc', hr'⟩ := h'
  obtain ⟨hle, h128, hD⟩ := hP
  have hd : Hid (∀ i j, i < xs.length → j < xs.length → j ≠ i → cf xs i ≠ cf xs j) := Dif_cf hD
  clear hcap hcap' hmax hmax' hD
  have hlen' : Hid (xs.length = ys.length) := hle
  clear hle
  go_enter Try.func20, Try.ntmps20
  go_wp2
  go_loopw [5, 6] (fun vo vi wr => ∃ (i : Nat) (o : List Nat), i ≤ xs.length ∧ vi = .int .i64 (i : Int) ∧ IsU wr vo o ∧ Ow w.heap.size wr vo o ∧ Hid (Goes o xs.length (cf xs) (fun j => if j < i then cf ys j else 0)) ∧ Below w.heap.size w wr)
    (fun _ vi _ => xs.length - (intOf vi).toNat)
  case atStart => exact ⟨0, [], Nat.zero_le _, rfl, IsU.nil _, Ow.nil _ _, ⟨rfl, by simp, fun j _ => by simp [evF]⟩, Below.refl _ _⟩
  case round =>
    obtain ⟨i, o, hi, rfl, hO, hOw, hG, hnx⟩ := hrel
    by_cases hlt : i < xs.length
    · have hd13 : decide (i < xs.length) = true := decide_eq_true hlt
      clear hOw
      go_wp2
      obtain ⟨wo, hwo⟩ : ∃ wo : World, wo = wr := ⟨_, rfl⟩
      rw [← hwo] at hO hnx ⊢
      clear hwo
      have hsz := hnx.size
      go_loopw [7, 8, 9] (fun vl vu vk wi => ∃ (k : Nat) (l : List Nat), k ≤ xs.length ∧ vk = .int .i64 (k : Int) ∧ IsU wi vl l ∧ vu = .int .u64 (((prd (cf xs) i k (cf xs i)).val : Nat) : Int) ∧ Hid (One xs l i k) ∧ Hid (i < k → l.length ≤ k) ∧ IsU wi u5 o ∧ Below w.heap.size w wi)
        (fun _ _ vk _ => xs.length - (intOf vk).toNat)
      case atStart =>
        exact ⟨0, [1], Nat.zero_le _, rfl, IsU.lit1 _ _ 1 (by decide), rfl, One_zero xs i, fun h => absurd h (by omega), hO.below ((Below.refl _ _).alloc (Nat.le_refl _) _), hnx.alloc hsz _⟩
      case round =>
        clear hO hnx hsz
        obtain ⟨k, l, hk, rfl, hL, rfl, hOne, hLen, hO, hnx⟩ := hrel
        have hsz := hnx.size
        by_cases hkn : k < xs.length
        · by_cases hki : k = i
          · subst hki
            have hq : ((k : Int) != (k : Int)) = false := by simp
            have hOne2 : Hid (One xs l k (k + 1)) := One_skip hOne.out
            have hLen2 : Hid (k < k + 1 → l.length ≤ k + 1) := fun _ => hOne.out.1
            have hU2 : prd (cf xs) k (k + 1) (cf xs k) = prd (cf xs) k k (cf xs k) := prd_skip _ _ _
            clear hc hc' hOne
            go_wp2
            go_roundw
            case rel => exact ⟨k + 1, l, by omega, by go_num, hL, by rw [hU2], hOne2, hLen2, hO, hnx⟩
            case measure => simp only [intOf]; omega
          · have hq : ((k : Int) != (i : Int)) = true := by simp; omega
            have hOne2 : Hid (One xs (pM l [fS 0 (xs.getD k 0), 1]) i (k + 1)) := One_step hOne.out hki
            have hLen2 : Hid (i < k + 1 → (pM l [fS 0 (xs.getD k 0), 1]).length ≤ k + 1) := fun h => by
              have h1 := hLen.out (by omega)
              have h2 := pM_length_le l [fS 0 (xs.getD k 0), 1]
              simp only [List.length_cons, List.length_nil] at h2
              omega
            have hU2 : fM (prd (cf xs) i k (cf xs i)).val (fS (xs.getD i 0) (xs.getD k 0)) = (prd (cf xs) i (k + 1) (cf xs i)).val := by
              rw [fM_val, toF_val, toF_fS, prd_succ _ hki]; rfl
            have c1 := k_sub0 (xs.getD k 0)
            have c3 := ref_Sub (xs.getD i 0) (xs.getD k 0)
            have c4 := ref_Mul (prd (cf xs) i k (cf xs i)).val (fS (xs.getD i 0) (xs.getD k 0))
            rw [hU2] at c4
            have hlt0 := fS_lt 0 (xs.getD k 0)
            have hlB := hOne.out.1
            have hal : Below wr.heap.size wr (wr.alloc (.cells #[.int .u64 ((fS 0 (xs.getD k 0) : Nat) : Int), .int .u64 1] 30)) := (Below.refl _ _).alloc (Nat.le_refl _) _
            have cP := ref_Product _ u7 (.slice (some ⟨wr.heap.size, 0, none⟩) 2 2) l [fS 0 (xs.getD k 0), 1] (hL.below hal) (IsU.lit2 wr 30 (fS 0 (xs.getD k 0)) 1 (by omega) (by decide)) (by omega) (by simp)
            have hcells : ∀ w2, Below wr.heap.size wr w2 → ∃ b off, a = some ⟨b, off, none⟩ ∧ wr.cell? ⟨b, off + k, none⟩ = some (.int .u64 ((xs.getD k 0 : Nat) : Int)) ∧ w2.cell? ⟨b, off + k, none⟩ = some (.int .u64 ((xs.getD k 0 : Nat) : Int)) ∧ w2.cell? ⟨b, off + i, none⟩ = some (.int .u64 ((xs.getD i 0 : Nat) : Int)) := by
              intro w2 hb2
              obtain ⟨b, off, rfl, h1⟩ := hc k hkn
              obtain ⟨b', off', e, h2⟩ := hc i hlt
              simp only [Option.some.injEq, Addr.mk.injEq, and_true] at e
              obtain ⟨rfl, rfl⟩ := e
              have h3 := (hnx.cell (block_lt h1)).trans h1
              have h4 := (hnx.cell (block_lt h2)).trans h2
              exact ⟨b, off, rfl, h3, (hb2.cell (block_lt h3)).trans h3, (hb2.cell (block_lt h4)).trans h4⟩
            obtain ⟨b, off, rfl, hcell, -, -⟩ := hcells wr (Below.refl _ _)
            have hcells2 : Hid (∀ w2, Below wr.heap.size wr w2 → w2.cell? ⟨b, off + k, none⟩ = some (.int .u64 ((xs.getD k 0 : Nat) : Int)) ∧ w2.cell? ⟨b, off + i, none⟩ = some (.int .u64 ((xs.getD i 0 : Nat) : Int))) := by
              intro w2 hb2
              obtain ⟨b', off', e, _, h5, h6⟩ := hcells w2 hb2
              simp only [Option.some.injEq, Addr.mk.injEq, and_true] at e
              obtain ⟨rfl, rfl⟩ := e
              exact ⟨h5, h6⟩
            clear hcells hc hc' hU2
            generalize fS (xs.getD i 0) (xs.getD k 0) = dd at *
            generalize fS 0 (xs.getD k 0) = nx at *
            generalize xs.getD k 0 = x at *
            generalize xs.getD i 0 = y at *
            generalize (prd (cf xs) i k (cf xs i)).val = u at *
            go_wp2_with (first
              | (go_at_call 31; refine Calls.mono (c1 _) ?_; rintro e w' ⟨rfl, hw⟩; rw [hw]; clear hw)
              | (go_at_call 30; refine Calls.mono cP ?_; rintro e w2 ⟨p, rfl, hPr, hb2⟩))
            have hb3 : Below wr.heap.size wr w2 := hal.trans (hb2.mono (by simp))
            obtain ⟨hce1, hce2⟩ := hcells2.out w2 hb3
            have hO2 := hO.below hb3
            have hnx2 : Below w.heap.size w w2 := hnx.trans (hb3.mono hsz)
            clear hb2 hal hcells2 hO hcell hL
            go_quiet (first | (go_at_call 31; exact Calls.quiet_of_same (c3 _)) | (go_at_call 27; exact Calls.quiet_of_same (c4 _)))
            go_wp2
            go_roundw
            case rel => exact ⟨k + 1, pM l [nx, 1], by omega, by go_num, hPr.below (below_drewN (Below.refl _ _) _), rfl, hOne2, hLen2, hO2.below (below_drewN (Below.refl _ _) _), below_drewN hnx2 _⟩
            case measure => simp only [intOf]; omega
        · have e : k = xs.length := by omega
          subst e
          have hyl : i < ys.length := by have := hlen'.out; omega
          obtain ⟨b, off, rfl, hcell0⟩ := hc' i hyl
          have hcell := (hnx.cell (block_lt hcell0)).trans hcell0
          have hne : fN (prd (cf xs) i xs.length (cf xs i)).val ≠ 0 := by
            intro h
            rw [fN_zero, toF_val] at h
            exact prd_ne (cf xs) i xs.length (fun j hj hne => hd.out i j hlt hj hne) h
          have c1 := ref_Inv (prd (cf xs) i xs.length (cf xs i)).val hne
          have c2 := ref_Mul (ys.getD i 0) (fW (prd (cf xs) i xs.length (cf xs i)).val 18446744069414584319)
          have hz : toF (fM (ys.getD i 0) (fW (prd (cf xs) i xs.length (cf xs i)).val 18446744069414584319)) = cf ys i * inv (prd (cf xs) i xs.length (cf xs i)) := by
            rw [toF_fM, toF_inv, toF_val]; rfl
          have hzl := fM_lt (ys.getD i 0) (fW (prd (cf xs) i xs.length (cf xs i)).val 18446744069414584319)
          generalize fM (ys.getD i 0) (fW (prd (cf xs) i xs.length (cf xs i)).val 18446744069414584319) = z at *
          have hG2 : Hid (Goes (pN (pS o (pM l [z]))) xs.length (cf xs) (fun j => if j < i + 1 then cf ys j else 0)) := Goes_step hlt hd.out hG.out hOne.out (hLen.out hlt) hz
          have hlB := hOne.out.1
          have hoB := hG.out.2.1
          have hmB := pM_length_le l [z]
          simp only [List.length_cons, List.length_nil] at hmB
          have hal : Below wr.heap.size wr (wr.alloc (.cells #[.int .u64 (z : Int)] 30)).drew := ((Below.refl _ _).alloc (Nat.le_refl _) _).drew
          have hLal := hL.below hal
          have hOal := hO.below hal
          have hZal : IsU (wr.alloc (.cells #[.int .u64 (z : Int)] 30)).drew (.slice (some ⟨wr.heap.size, 0, none⟩) 1 1) [z] := (IsU.lit1 wr 30 z (by omega)).below ((Below.refl _ _).drew)
          clear hc hc' hcell0 hz hne hOne hLen hG
          generalize fW (prd (cf xs) i xs.length (cf xs i)).val 18446744069414584319 = iu at *
          generalize (prd (cf xs) i xs.length (cf xs i)).val = u at *
          generalize ys.getD i 0 = y at *
          go_wp2
          go_region_with (first
            | (go_at_call 33; refine Calls.mono (c1 _) ?_; rintro e w' ⟨rfl, hw⟩; rw [hw]; clear hw)
            | (go_at_call 27; refine Calls.mono (c2 _) ?_; rintro e w' ⟨rfl, hw⟩; rw [hw]; clear hw)
            | (go_at_call 30; refine Calls.mono (ref_Product _ _ _ l [z] hLal hZal ?_ ?_) ?_; omega; simp; rintro e w2 ⟨p, rfl, hPr, hb2⟩; have hO2 := hOal.below hb2)
            | (go_at_call 32; refine Calls.mono (ref_SumF _ _ _ o (pM l [z]) hO2 hPr ?_ ?_) ?_; omega; omega; rintro e w3 ⟨s, rfl, hS, hSo, hb3⟩))
          all_goals
            have b1 : Below wr.heap.size wr w2 := hal.trans (hb2.mono (by simp))
            have b2 : Below wr.heap.size wr w3 := b1.trans (hb3.mono b1.size)
            have b3 : Below w.heap.size w w3 := hnx.trans (b2.mono hsz)
            have hSo2 : Ow w.heap.size w3 s (pN (pS o (pM l [z]))) := hSo.mono (Nat.le_trans hsz b1.size)
            clear hSo
            clear b1 b2 hb2 hb3 hal hnx hLal hOal hZal hPr hO2 hL hO
            go_wp2
            go_roundw
            case rel => exact ⟨i + 1, pN (pS o (pM l [z])), by omega, by go_num, hS, hSo2, hG2, b3⟩
            case measure => simp only [intOf]; omega
    · have e : i = xs.length := by omega
      have hG2 : Hid (Goes o xs.length (cf xs) (cf ys)) := by
        refine ⟨hG.out.1, hG.out.2.1, fun j hj => ?_⟩
        have h1 : evF (o.map toF) (cf xs j) = if j < i then cf ys j else 0 := hG.out.2.2 j hj
        rw [h1, if_pos (by omega)]
      have hge : xs.length ≤ i := by omega
      clear hc hc' hG e
      go_wp2
      go_ret
      exact ⟨_, o, rfl, hO, hG2.out, hOw, hnx⟩
theorem ref_Through (w : World) (v v' : Value) (xs ys : List Nat) (h : IsU w v xs) (h' : IsU w v' ys) (hP : Pts xs ys) :
    Calls Try.prog 20 #[v, v'] w fun e w' => ∃ u l, e = .returned u ∧ IsU w' u l ∧ Goes l xs.length (cf xs) (cf ys) ∧ Below w.heap.size w w' := by
  refine (ref_ThroughF w v v' xs ys h h' hP).mono ?_
  rintro e w' ⟨u, l, rfl, h1, h2, -, h3⟩
  exact ⟨u, l, rfl, h1, h2, h3⟩

end Go.Proofs.Ytjbdpjbcibhflac
