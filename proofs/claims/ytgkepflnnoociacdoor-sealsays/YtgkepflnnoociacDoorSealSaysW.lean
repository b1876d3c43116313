/-
  SealSays returns true for all that is handed in.
-/
import Derived.Test.YtgkepflnnoociacDoorSealC
import Derived.Test.YtgkepflnnoociacDoorRefShifted
import Derived.Test.YtgkepflnnoociacDoorRefCorners
import Derived.Test.YtgkepflnnoociacDoorRefEval
import Derived.Test.YtgkepflnnoociacDoorSlEq
namespace Go.Proofs.YtgkepflnnoociacDoor
open Go.RowKit

theorem IsU.shq {w : World} {v : Value} {xs : List Nat} (h : IsU w v xs) : ∃ a c, v = .slice a xs.length c := by
  obtain ⟨a, c, e, _⟩ := h
  exact ⟨a, c, e⟩
set_option maxRecDepth 100000 in
set_option maxHeartbeats 4000000 in
theorem sealSays_bad (w : World) (v : Value) (zs : List Int) (h : IsZ w v zs) (v1 : Value) (xs : List Nat) (h1 : IsU w v1 xs) (key : Int) (hkw : (Lit.int .u64 key).wf = true) (v2 : Value) (bs : List Int) (h2 : IsZ w v2 bs) (hTb : Tab w) (hE : spE zs ≠ 0) :
    Calls Tryd.prog 6 #[v, v1, .int .u64 key, v2] w fun e w' => e = .returned (.bool true) ∧ Below w.heap.size w w' := by
  have hbk := bounds_u64 hkw
  obtain ⟨ky, rfl⟩ : ∃ ky : Nat, key = (ky : Int) := ⟨key.toNat, by omega⟩
  have cO := fun (W : World) (hb : Below w.heap.size w W) => seal_Of W v v1 zs xs ky (h.below hb) (h1.below hb) (by omega) (hTb.below hb)
  have cC := fun (W : World) (hb : Below w.heap.size w W) => seal_Corners W v v1 zs xs (h.below hb) (h1.below hb) (hTb.below hb)
  have cS := fun (W : World) (hb : Below w.heap.size w W) => seal_Shift W v v1 v2 zs bs xs (h.below hb) (h1.below hb) (h2.below hb) (hTb.below hb)
  have cSh : Calls Tryd.prog 7 #[v] w fun e w' => e = .returned (.tuple #[.int .i64 0, .int .i64 (spE zs)]) ∧ w' = w := by
    refine (ref_Shape w v zs h).mono ?_
    rintro e w' ⟨rfl, ⟨ds, hG, hn, rfl⟩ | ⟨ds, hG, hn, rfl⟩ | ⟨hno, rfl⟩⟩
    · exact absurd (spE_ok hG hn) hE
    · rw [spE_large hG hn]; exact ⟨rfl, rfl⟩
    · rw [spE_bad hno]; exact ⟨rfl, rfl⟩
  obtain ⟨q1, q2, q3, q4, q5⟩ := sl_bad hE xs bs ky
  rw [q1, q3] at cO
  rw [q1, q4] at cC
  rw [q2, q5] at cS
  generalize spE zs = E at *
  have hEb : (E == 0) = false := by rw [beq_eq_false_iff_ne]; exact hE
  clear hE q1 q2 q3 q4 q5
  obtain ⟨a, cap, rfl, hc1, hmx, -, -⟩ := h
  obtain ⟨a1, cap1, rfl, hc2, hmx1, -, -⟩ := h1
  obtain ⟨a2, cap2, rfl, hc3, hmx2, -, -⟩ := h2
  have hz9 : zs.length ≤ 9223372036854775807 := by unfold maxLen at hmx; omega
  have hx9 : xs.length ≤ 9223372036854775807 := by unfold maxLen at hmx1; omega
  have hb9 : bs.length ≤ 9223372036854775807 := by unfold maxLen at hmx2; omega
  clear hmx hmx1 hmx2 hc1 hc2 hc3
  have hB := Below.refl w.heap.size w
  go_enter Tryd.func6, Tryd.ntmps6
  go_wp2_with (first
    | (go_at_call 7; refine Calls.mono cSh ?_; rintro e w' ⟨rfl, hw⟩; rw [hw]; clear hw cSh)
    | (go_at_call 32; refine Calls.mono (cO _ hB) ?_; rintro e w5 ⟨rfl, hb⟩; replace hB := hB.trans (hb.mono hB.size); clear hb cO)
    | (go_at_call 33; refine Calls.mono (cC _ hB) ?_; rintro e w6 ⟨u6, rfl, hU6, hb⟩; replace hB := hB.trans (hb.mono hB.size); clear hb cC; obtain ⟨a6, c6, rfl⟩ := hU6.shq)
    | (go_at_call 34; refine Calls.mono (cS _ hB) ?_; rintro e w7 ⟨u7, rfl, hU7, hb⟩; replace hU6 := hU6.below hb; replace hB := hB.trans (hb.mono hB.size); clear hb cS; obtain ⟨a7, c7, rfl⟩ := hU7.shq; have tk : True := trivial)
    | (go_at_call 16; have _t := tk; refine Calls.mono (slices_Equal _ _ _ _ hU6 (IsU.nil _)) ?_; rintro e w8 ⟨rfl, hb⟩; clear tk hU6; replace hU7 := hU7.below hb; replace hB := hB.trans (hb.mono hB.size); clear hb)
    | (go_at_call 16; refine Calls.mono (slices_Equal _ _ _ _ hU7 (IsU.nil _)) ?_; rintro e w9 ⟨rfl, hb⟩; replace hB := hB.trans (hb.mono hB.size); clear hb))
  go_ret
  exact ⟨rfl, hB⟩
set_option maxRecDepth 100000 in
set_option maxHeartbeats 4000000 in
theorem sealSays_great (w : World) (v : Value) (zs : List Int) (h : IsZ w v zs) (v1 : Value) (xs : List Nat) (h1 : IsU w v1 xs) (key : Int) (hkw : (Lit.int .u64 key).wf = true) (v2 : Value) (bs : List Int) (h2 : IsZ w v2 bs) (hTb : Tab w) (ds : List Nat) (hG : Good zs ds) (hn : prd2 ds ≤ 1024) (h64 : 64 < prd2 ds) :
    Calls Tryd.prog 6 #[v, v1, .int .u64 key, v2] w fun e w' => e = .returned (.bool true) ∧ Below w.heap.size w w' := by
  have hbk := bounds_u64 hkw
  obtain ⟨ky, rfl⟩ : ∃ ky : Nat, key = (ky : Int) := ⟨key.toNat, by omega⟩
  have cO := fun (W : World) (hb : Below w.heap.size w W) => seal_Of W v v1 zs xs ky (h.below hb) (h1.below hb) (by omega) (hTb.below hb)
  have cC := fun (W : World) (hb : Below w.heap.size w W) => seal_Corners W v v1 zs xs (h.below hb) (h1.below hb) (hTb.below hb)
  have cS := fun (W : World) (hb : Below w.heap.size w W) => seal_Shift W v v1 v2 zs bs xs (h.below hb) (h1.below hb) (h2.below hb) (hTb.below hb)
  have hE := spE_ok hG hn
  have hds := dsZ_of hG
  have cSh := ref_Shape_ok w v zs ds h hG hn
  clear cO cC cS hE hds hG
  generalize prd2 ds = N at *
  obtain ⟨a, cap, rfl, hc1, hmx, -, -⟩ := h
  obtain ⟨a1, cap1, rfl, hc2, hmx1, -, -⟩ := h1
  obtain ⟨a2, cap2, rfl, hc3, hmx2, -, -⟩ := h2
  have hz9 : zs.length ≤ 9223372036854775807 := by unfold maxLen at hmx; omega
  have hx9 : xs.length ≤ 9223372036854775807 := by unfold maxLen at hmx1; omega
  have hb9 : bs.length ≤ 9223372036854775807 := by unfold maxLen at hmx2; omega
  clear hmx hmx1 hmx2 hc1 hc2 hc3
  have hB := Below.refl w.heap.size w
  go_enter Tryd.func6, Tryd.ntmps6
  go_wp2_with (go_at_call 7; refine Calls.mono cSh ?_; rintro e w' ⟨rfl, hw⟩; rw [hw]; clear hw cSh)
  go_ret
  exact ⟨rfl, hB⟩
set_option maxRecDepth 100000 in
set_option maxHeartbeats 4000000 in
theorem sealSays_form (w : World) (v : Value) (zs : List Int) (h : IsZ w v zs) (v1 : Value) (xs : List Nat) (h1 : IsU w v1 xs) (key : Int) (hkw : (Lit.int .u64 key).wf = true) (v2 : Value) (bs : List Int) (h2 : IsZ w v2 bs) (hTb : Tab w) (ds : List Nat) (hG : Good zs ds) (hn : prd2 ds ≤ 1024) (h64 : prd2 ds ≤ 64) (hl : xs.length ≠ prd2 ds) :
    Calls Tryd.prog 6 #[v, v1, .int .u64 key, v2] w fun e w' => e = .returned (.bool true) ∧ Below w.heap.size w w' := by
  have hbk := bounds_u64 hkw
  obtain ⟨ky, rfl⟩ : ∃ ky : Nat, key = (ky : Int) := ⟨key.toNat, by omega⟩
  have cO := fun (W : World) (hb : Below w.heap.size w W) => seal_Of W v v1 zs xs ky (h.below hb) (h1.below hb) (by omega) (hTb.below hb)
  have cC := fun (W : World) (hb : Below w.heap.size w W) => seal_Corners W v v1 zs xs (h.below hb) (h1.below hb) (hTb.below hb)
  have cS := fun (W : World) (hb : Below w.heap.size w W) => seal_Shift W v v1 v2 zs bs xs (h.below hb) (h1.below hb) (h2.below hb) (hTb.below hb)
  have hE := spE_ok hG hn
  have hds := dsZ_of hG
  have cSh := ref_Shape_ok w v zs ds h hG hn
  obtain ⟨q1, q2, q3, q4, q5⟩ := sl_form hE xs bs ky (by rw [hds]; exact hl)
  rw [q1, q3] at cO
  rw [q1, q4] at cC
  rw [q2, q5] at cS
  clear q1 q2 q3 q4 q5 hE hds hG
  generalize prd2 ds = N at *
  have hne : ((xs.length : Int) != (N : Int)) = true := by simp; omega
  have hne2 : ((xs.length : Int) == (N : Int)) = false := by simp; omega
  obtain ⟨a, cap, rfl, hc1, hmx, -, -⟩ := h
  obtain ⟨a1, cap1, rfl, hc2, hmx1, -, -⟩ := h1
  obtain ⟨a2, cap2, rfl, hc3, hmx2, -, -⟩ := h2
  have hz9 : zs.length ≤ 9223372036854775807 := by unfold maxLen at hmx; omega
  have hx9 : xs.length ≤ 9223372036854775807 := by unfold maxLen at hmx1; omega
  have hb9 : bs.length ≤ 9223372036854775807 := by unfold maxLen at hmx2; omega
  clear hmx hmx1 hmx2 hc1 hc2 hc3
  have hB := Below.refl w.heap.size w
  go_enter Tryd.func6, Tryd.ntmps6
  go_wp2_with (first
    | (go_at_call 7; refine Calls.mono cSh ?_; rintro e w' ⟨rfl, hw⟩; rw [hw]; clear hw cSh)
    | (go_at_call 32; refine Calls.mono (cO _ hB) ?_; rintro e w5 ⟨rfl, hb⟩; replace hB := hB.trans (hb.mono hB.size); clear hb cO)
    | (go_at_call 33; refine Calls.mono (cC _ hB) ?_; rintro e w6 ⟨u6, rfl, hU6, hb⟩; replace hB := hB.trans (hb.mono hB.size); clear hb cC; obtain ⟨a6, c6, rfl⟩ := hU6.shq)
    | (go_at_call 34; refine Calls.mono (cS _ hB) ?_; rintro e w7 ⟨u7, rfl, hU7, hb⟩; replace hU6 := hU6.below hb; replace hB := hB.trans (hb.mono hB.size); clear hb cS; obtain ⟨a7, c7, rfl⟩ := hU7.shq; have tk : True := trivial)
    | (go_at_call 16; have _t := tk; refine Calls.mono (slices_Equal _ _ _ _ hU6 (IsU.nil _)) ?_; rintro e w8 ⟨rfl, hb⟩; clear tk hU6; replace hU7 := hU7.below hb; replace hB := hB.trans (hb.mono hB.size); clear hb)
    | (go_at_call 16; refine Calls.mono (slices_Equal _ _ _ _ hU7 (IsU.nil _)) ?_; rintro e w9 ⟨rfl, hb⟩; replace hB := hB.trans (hb.mono hB.size); clear hb))
  go_ret
  exact ⟨rfl, hB⟩
set_option maxRecDepth 100000 in
set_option maxHeartbeats 4000000 in
theorem sealSays_arg (w : World) (v : Value) (zs : List Int) (h : IsZ w v zs) (v1 : Value) (xs : List Nat) (h1 : IsU w v1 xs) (key : Int) (hkw : (Lit.int .u64 key).wf = true) (v2 : Value) (bs : List Int) (h2 : IsZ w v2 bs) (hTb : Tab w) (ds : List Nat) (hG : Good zs ds) (hn : prd2 ds ≤ 1024) (h64 : prd2 ds ≤ 64) (hl : xs.length = prd2 ds) (hb : bs.length ≠ zs.length) :
    Calls Tryd.prog 6 #[v, v1, .int .u64 key, v2] w fun e w' => e = .returned (.bool true) ∧ Below w.heap.size w w' := by
  have hbk := bounds_u64 hkw
  obtain ⟨ky, rfl⟩ : ∃ ky : Nat, key = (ky : Int) := ⟨key.toNat, by omega⟩
  have cO := fun (W : World) (hb : Below w.heap.size w W) => seal_Of W v v1 zs xs ky (h.below hb) (h1.below hb) (by omega) (hTb.below hb)
  have cC := fun (W : World) (hb : Below w.heap.size w W) => seal_Corners W v v1 zs xs (h.below hb) (h1.below hb) (hTb.below hb)
  have cS := fun (W : World) (hb : Below w.heap.size w W) => seal_Shift W v v1 v2 zs bs xs (h.below hb) (h1.below hb) (h2.below hb) (hTb.below hb)
  have hE := spE_ok hG hn
  have hds := dsZ_of hG
  have cSh := ref_Shape_ok w v zs ds h hG hn
  have cE := fun (W : World) (hb : Below w.heap.size w W) => ref_Eval W v1 xs ky (h1.below hb)
  have cRC := fun (W : World) (hb : Below w.heap.size w W) => ref_Corners W v v1 zs ds xs (h.below hb) (h1.below hb) hG hn hl
  have hne : ((xs.length : Int) != ((prd2 ds : Nat) : Int)) = false := by simp [hl]
  have hne2 : ((xs.length : Int) == ((prd2 ds : Nat) : Int)) = true := by simp [hl]
  have hcr : crV ds xs (prd2 ds) = crW ds xs := rfl
  rw [hcr] at cRC
  obtain ⟨q1, q2, q3, q4, q5⟩ := sl_arg hE xs bs ky (by rw [hds]; exact hl) hb
  rw [q1, q3] at cO
  rw [q1, q4, hds] at cC
  rw [q2, q5] at cS
  have hnb : ((bs.length : Int) != (zs.length : Int)) = true := by simp; omega
  have hnb2 : ((bs.length : Int) == (zs.length : Int)) = false := by simp; omega
  clear q1 q2 q3 q4 q5 hE hds hG hl hb hcr
  generalize prd2 ds = N at *
  generalize pE xs ky = pv at *
  generalize crW ds xs = CL at *
  obtain ⟨a, cap, rfl, hc1, hmx, -, -⟩ := h
  obtain ⟨a1, cap1, rfl, hc2, hmx1, -, -⟩ := h1
  obtain ⟨a2, cap2, rfl, hc3, hmx2, -, -⟩ := h2
  have hz9 : zs.length ≤ 9223372036854775807 := by unfold maxLen at hmx; omega
  have hx9 : xs.length ≤ 9223372036854775807 := by unfold maxLen at hmx1; omega
  have hb9 : bs.length ≤ 9223372036854775807 := by unfold maxLen at hmx2; omega
  clear hmx hmx1 hmx2 hc1 hc2 hc3
  have hB := Below.refl w.heap.size w
  go_enter Tryd.func6, Tryd.ntmps6
  go_wp2_with (first
    | (go_at_call 7; refine Calls.mono cSh ?_; rintro e w' ⟨rfl, hw⟩; rw [hw]; clear hw cSh)
    | (go_at_call 29; refine Calls.mono (cE _ hB) ?_; rintro e w' ⟨rfl, hw⟩; rw [hw]; clear hw)
    | (go_at_call 30; refine Calls.mono (cRC _ hB) ?_; rintro e w3 ⟨u3, rfl, hU3, hb⟩; replace hB := hB.trans (hb.mono hB.size); clear hb cRC; obtain ⟨a3, c3, rfl⟩ := hU3.shq)
    | (go_at_call 32; refine Calls.mono (cO _ hB) ?_; rintro e w5 ⟨rfl, hb⟩; replace hU3 := hU3.below hb; replace hB := hB.trans (hb.mono hB.size); clear hb cO)
    | (go_at_call 33; refine Calls.mono (cC _ hB) ?_; rintro e w6 ⟨u6, rfl, hU6, hb⟩; replace hU3 := hU3.below hb; replace hB := hB.trans (hb.mono hB.size); clear hb cC; obtain ⟨a6, c6, rfl⟩ := hU6.shq)
    | (go_at_call 34; refine Calls.mono (cS _ hB) ?_; rintro e w7 ⟨u7, rfl, hU7, hb⟩; replace hU3 := hU3.below hb; replace hU6 := hU6.below hb; replace hB := hB.trans (hb.mono hB.size); clear hb cS; obtain ⟨a7, c7, rfl⟩ := hU7.shq; have tk : True := trivial)
    | (go_at_call 16; have _t := tk; refine Calls.mono (slices_Equal _ _ _ _ hU6 hU3) ?_; rintro e w8 ⟨rfl, hb⟩; clear tk hU6; replace hU7 := hU7.below hb; replace hB := hB.trans (hb.mono hB.size); clear hb)
    | (go_at_call 16; refine Calls.mono (slices_Equal _ _ _ _ hU7 (IsU.nil _)) ?_; rintro e w9 ⟨rfl, hb⟩; replace hB := hB.trans (hb.mono hB.size); clear hb))
  go_ret
  exact ⟨rfl, hB⟩
set_option maxRecDepth 100000 in
set_option maxHeartbeats 4000000 in
theorem sealSays_ok (w : World) (v : Value) (zs : List Int) (h : IsZ w v zs) (v1 : Value) (xs : List Nat) (h1 : IsU w v1 xs) (key : Int) (hkw : (Lit.int .u64 key).wf = true) (v2 : Value) (bs : List Int) (h2 : IsZ w v2 bs) (hTb : Tab w) (ds : List Nat) (hG : Good zs ds) (hn : prd2 ds ≤ 1024) (h64 : prd2 ds ≤ 64) (hl : xs.length = prd2 ds) (hb : bs.length = zs.length) :
    Calls Tryd.prog 6 #[v, v1, .int .u64 key, v2] w fun e w' => e = .returned (.bool true) ∧ Below w.heap.size w w' := by
  have hbk := bounds_u64 hkw
  obtain ⟨ky, rfl⟩ : ∃ ky : Nat, key = (ky : Int) := ⟨key.toNat, by omega⟩
  have cO := fun (W : World) (hb : Below w.heap.size w W) => seal_Of W v v1 zs xs ky (h.below hb) (h1.below hb) (by omega) (hTb.below hb)
  have cC := fun (W : World) (hb : Below w.heap.size w W) => seal_Corners W v v1 zs xs (h.below hb) (h1.below hb) (hTb.below hb)
  have cS := fun (W : World) (hb : Below w.heap.size w W) => seal_Shift W v v1 v2 zs bs xs (h.below hb) (h1.below hb) (h2.below hb) (hTb.below hb)
  have hE := spE_ok hG hn
  have hds := dsZ_of hG
  have cSh := ref_Shape_ok w v zs ds h hG hn
  have cE := fun (W : World) (hb : Below w.heap.size w W) => ref_Eval W v1 xs ky (h1.below hb)
  have cRC := fun (W : World) (hb : Below w.heap.size w W) => ref_Corners W v v1 zs ds xs (h.below hb) (h1.below hb) hG hn hl
  have hne : ((xs.length : Int) != ((prd2 ds : Nat) : Int)) = false := by simp [hl]
  have hne2 : ((xs.length : Int) == ((prd2 ds : Nat) : Int)) = true := by simp [hl]
  have hcr : crV ds xs (prd2 ds) = crW ds xs := rfl
  rw [hcr] at cRC
  have cRS := fun (W : World) (hb' : Below w.heap.size w W) => ref_Shifted W v v1 v2 zs bs ds xs (h.below hb') (h1.below hb') (h2.below hb') hG hn hl (by rw [hb, hG.2.2.1, List.length_map])
  have hcs : mk (prd2 ds) (shF ds bs xs) = shW ds bs xs := rfl
  rw [hcs] at cRS
  obtain ⟨q1, q2, q3, q4, q5⟩ := sl_ok hE xs bs ky (by rw [hds]; exact hl) hb
  rw [q1, q3] at cO
  rw [q1, q4, hds] at cC
  rw [q2, q5, hds] at cS
  have hnb : ((bs.length : Int) != (zs.length : Int)) = false := by simp [hb]
  have hnb2 : ((bs.length : Int) == (zs.length : Int)) = true := by simp [hb]
  clear q1 q2 q3 q4 q5 hE hds hG hl hb hcr hcs
  generalize prd2 ds = N at *
  generalize pE xs ky = pv at *
  generalize crW ds xs = CL at *
  generalize shW ds bs xs = SL' at *
  obtain ⟨a, cap, rfl, hc1, hmx, -, -⟩ := h
  obtain ⟨a1, cap1, rfl, hc2, hmx1, -, -⟩ := h1
  obtain ⟨a2, cap2, rfl, hc3, hmx2, -, -⟩ := h2
  have hz9 : zs.length ≤ 9223372036854775807 := by unfold maxLen at hmx; omega
  have hx9 : xs.length ≤ 9223372036854775807 := by unfold maxLen at hmx1; omega
  have hb9 : bs.length ≤ 9223372036854775807 := by unfold maxLen at hmx2; omega
  clear hmx hmx1 hmx2 hc1 hc2 hc3
  have hB := Below.refl w.heap.size w
  go_enter Tryd.func6, Tryd.ntmps6
  go_wp2_with (first
    | (go_at_call 7; refine Calls.mono cSh ?_; rintro e w' ⟨rfl, hw⟩; rw [hw]; clear hw cSh)
    | (go_at_call 29; refine Calls.mono (cE _ hB) ?_; rintro e w' ⟨rfl, hw⟩; rw [hw]; clear hw)
    | (go_at_call 30; refine Calls.mono (cRC _ hB) ?_; rintro e w3 ⟨u3, rfl, hU3, hb⟩; replace hB := hB.trans (hb.mono hB.size); clear hb cRC; obtain ⟨a3, c3, rfl⟩ := hU3.shq)
    | (go_at_call 31; refine Calls.mono (cRS _ hB) ?_; rintro e w4 ⟨u4, rfl, hU4, hb⟩; replace hU3 := hU3.below hb; replace hB := hB.trans (hb.mono hB.size); clear hb cRS; obtain ⟨a4, c4, rfl⟩ := hU4.shq)
    | (go_at_call 32; refine Calls.mono (cO _ hB) ?_; rintro e w5 ⟨rfl, hb⟩; replace hU3 := hU3.below hb; replace hU4 := hU4.below hb; replace hB := hB.trans (hb.mono hB.size); clear hb cO)
    | (go_at_call 33; refine Calls.mono (cC _ hB) ?_; rintro e w6 ⟨u6, rfl, hU6, hb⟩; replace hU3 := hU3.below hb; replace hU4 := hU4.below hb; replace hB := hB.trans (hb.mono hB.size); clear hb cC; obtain ⟨a6, c6, rfl⟩ := hU6.shq)
    | (go_at_call 34; refine Calls.mono (cS _ hB) ?_; rintro e w7 ⟨u7, rfl, hU7, hb⟩; replace hU3 := hU3.below hb; replace hU4 := hU4.below hb; replace hU6 := hU6.below hb; replace hB := hB.trans (hb.mono hB.size); clear hb cS; obtain ⟨a7, c7, rfl⟩ := hU7.shq; have tk : True := trivial)
    | (go_at_call 16; have _t := tk; refine Calls.mono (slices_Equal _ _ _ _ hU6 hU3) ?_; rintro e w8 ⟨rfl, hb⟩; clear tk hU6; replace hU4 := hU4.below hb; replace hU7 := hU7.below hb; replace hB := hB.trans (hb.mono hB.size); clear hb)
    | (go_at_call 16; refine Calls.mono (slices_Equal _ _ _ _ hU7 hU4) ?_; rintro e w9 ⟨rfl, hb⟩; replace hB := hB.trans (hb.mono hB.size); clear hb))
  go_ret
  exact ⟨rfl, hB⟩
set_option maxRecDepth 100000 in
set_option maxHeartbeats 4000000 in
theorem sealSays_walk (w : World) (v : Value) (zs : List Int) (h : IsZ w v zs) (v1 : Value) (xs : List Nat) (h1 : IsU w v1 xs) (key : Int) (hkw : (Lit.int .u64 key).wf = true) (v2 : Value) (bs : List Int) (h2 : IsZ w v2 bs) (hTb : Tab w) :
    Calls Tryd.prog 6 #[v, v1, .int .u64 key, v2] w fun e w' => e = .returned (.bool true) ∧ Below w.heap.size w w' := by
  by_cases hE : spE zs = 0
  · have hG : Good zs (dsZ zs) ∧ prd2 (dsZ zs) ≤ 1024 := by
      unfold spE at hE
      split at hE
      · next h3 =>
        split at hE
        · next h4 => exact ⟨h3, h4⟩
        · cases hE
      · cases hE
    rcases Nat.lt_or_ge 64 (prd2 (dsZ zs)) with q | q
    · exact sealSays_great w v zs h v1 xs h1 key hkw v2 bs h2 hTb _ hG.1 hG.2 q
    · by_cases hl : xs.length = prd2 (dsZ zs)
      · by_cases hb : bs.length = zs.length
        · exact sealSays_ok w v zs h v1 xs h1 key hkw v2 bs h2 hTb _ hG.1 hG.2 q hl hb
        · exact sealSays_arg w v zs h v1 xs h1 key hkw v2 bs h2 hTb _ hG.1 hG.2 q hl hb
      · exact sealSays_form w v zs h v1 xs h1 key hkw v2 bs h2 hTb _ hG.1 hG.2 q hl
  · exact sealSays_bad w v zs h v1 xs h1 key hkw v2 bs h2 hTb hE

end Go.Proofs.YtgkepflnnoociacDoor
