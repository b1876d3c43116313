/-
  Texts that stood one behind the other, as one.
-/
import Derived.Test.YtmggccepmicjhagGreatDoorRowWAll
import Derived.Test.YtmggccepmicjhagGreatDoorRowWAll
import Derived.Test.YtmggccepmicjhagGreatDoorNttCAll
import Derived.Test.YtmggccepmicjhagGreatDoorRefGreatAll
/-! What Cyclic, Skew and Linear of package conv answer. -/
namespace Go.Proofs.YtmggccepmicjhagGreatDoor
open Go.RowKit
set_option maxRecDepth 100000

theorem conv_Cyclic_form (w : World) (v v' : Value) (xs ys : List Nat) (h : IsU w v xs) (h' : IsU w v' ys) (hl : xs.length ≠ ys.length ∨ ∀ j, j ≤ 10 → xs.length ≠ 2 ^ j) :
    Calls Tryz.prog 45 #[v, v'] w fun e w' => ∃ u, e = .returned (.tuple #[u, .int .i64 5]) ∧ IsU w' u [] ∧ Below w.heap.size w w' := by
  by_cases hne : xs.length = ys.length
  · have hl2 : ∀ j, j ≤ 10 → xs.length ≠ 2 ^ j := by
      rcases hl with h1 | h1
      · exact absurd hne h1
      · exact h1
    have c := ntt_Forward_form w v xs h hl2
    obtain ⟨a, cap, rfl, -⟩ := h
    obtain ⟨a', cap', rfl, -⟩ := h'
    rw [← hne] at *
    clear hl hl2 hne
    generalize xs.length = N at *
    go_enter Tryz.func45, Tryz.ntmps45
    go_wp2_with (go_at_call 42; refine Calls.mono c ?_; rintro e w1 ⟨u, rfl, hU, hb⟩)
    go_ret2
    exact ⟨_, rfl, IsU.nil _, hb⟩
  · obtain ⟨a, cap, rfl, -⟩ := h
    obtain ⟨a', cap', rfl, -⟩ := h'
    have hb : (((xs.length : Nat) : Int) != ((ys.length : Nat) : Int)) = true := by rw [bne_iff_ne]; omega
    clear hl
    go_enter Tryz.func45, Tryz.ntmps45
    go_wp2
    go_ret2
    exact ⟨_, rfl, IsU.nil _, Below.refl _ _⟩

set_option maxHeartbeats 2000000 in
theorem conv_Cyclic_ok (w : World) (v v' : Value) (xs ys : List Nat) (k : Nat) (h : IsU w v xs) (h' : IsU w v' ys) (ht : Tab w) (hl : xs.length = 2 ^ k) (hl' : ys.length = 2 ^ k) (hk : k ≤ 10) :
    Calls Tryz.prog 45 #[v, v'] w fun e w' => ∃ u, e = .returned (.tuple #[u, .int .i64 0]) ∧ IsU w' u (mk xs.length (rnd xs ys false)) ∧ Below w.heap.size w w' := by
  have hfin := cyc_mu xs ys k (by omega) hl hl'
  have cA := fun (W : World) (hU : IsU W v xs) (hT : Tab W) => ntt_Forward_row W v xs k hU hT hl hk
  have cB := fun (W : World) (hU : IsU W v' ys) (hT : Tab W) => ntt_Forward_row W v' ys k hU hT hl' hk
  have cI := fun (W : World) (g : Nat) (zs : List Nat) (hU : IsU W (.slice (some ⟨g, 0, none⟩) (2 ^ k) (2 ^ k)) zs) (hT : Tab W) (hz : zs.length = 2 ^ k) => ntt_Inverse_ok W _ zs k hU hT hz hk
  have hlX := mk_length (2 ^ k) (fw xs k)
  have hlY := mk_length (2 ^ k) (fw ys k)
  have hPX := mk_lt (2 ^ k) (fw xs k)
  have hPY := mk_lt (2 ^ k) (fw ys k)
  have hfin' : Hid (∀ zs, muK (mk (2 ^ k) (fw xs k)) (mk (2 ^ k) (fw ys k)) (2 ^ k) = zs → mk (2 ^ k) (bw zs k) = mk xs.length (rnd xs ys false)) := fun zs e => by rw [← e, hfin, hl]
  clear hfin
  generalize mk xs.length (rnd xs ys false) = RL at *
  generalize mk (2 ^ k) (fw xs k) = X at *
  generalize mk (2 ^ k) (fw ys k) = Y at *
  have hA := h
  have hB := h'
  obtain ⟨a, cap, rfl, -⟩ := h
  obtain ⟨a', cap', rfl, -⟩ := h'
  have hN9 := (two_pow_bound k hk).2
  have hlX' : Hid (X.length = 2 ^ k) := hlX
  have hlY' : Hid (Y.length = 2 ^ k) := hlY
  obtain ⟨bk, hbk⟩ : ∃ f : List Nat → List Nat, ∀ zs, mk (2 ^ k) (bw zs k) = f zs := ⟨fun zs => mk (2 ^ k) (bw zs k), fun _ => rfl⟩
  simp only [hbk] at cI hfin'
  rw [hl, hl'] at *
  clear hlX hlY hl hl' hbk
  generalize 2 ^ k = N at *
  have ht0 := ht
  go_enter Tryz.func45, Tryz.ntmps45
  go_wp2_with (first
    | (go_at_call 42; refine Calls.mono (cA _ hA ht) ?_; rintro e w1 ⟨g, rfl, hg, hrow, hb⟩; clear cA; replace hB := hB.below hb; replace ht := ht.below hb; clear hA)
    | (go_at_call 42; refine Calls.mono (cB _ hB ht) ?_; rintro e w2 ⟨g2, rfl, hg2, hrow2, hb2⟩; clear cB; have hlt := hrow.lt; have hne : g2 ≠ g := (by omega); replace hrow := hrow.below hb2; replace hb := hb.trans (hb2.mono hb.size); clear hB hg2 hlt ht))
  go_loopw [31] (fun vi wr => ∃ i : Nat, i ≤ N ∧ vi = .int .i64 (i : Int) ∧ RowU wr g (muK X Y i) ∧ RowU wr g2 Y ∧ Below w.heap.size w wr)
    (fun vi _ => N - (intOf vi).toNat)
  case atStart => exact ⟨0, Nat.zero_le _, rfl, hrow, hrow2, hb⟩
  case round =>
    clear hrow hb hrow2 hb2
    obtain ⟨i, hi, rfl, hrow, hrow2, hnx⟩ := hrel
    by_cases hlt : i < N
    · have hcS := hrow.cell i (by rw [muK_length, hlX'.out]; exact hlt)
      have hc2 := hrow2.cell i (by rw [hlY'.out]; exact hlt)
      have hfr := hrow.frozen i
      have hset : Hid (∀ m : Nat, RowU ((wr.drewN m).setCell ⟨g, i, none⟩ (.int .u64 ((fM ((muK X Y i).getD i 0) (Y.getD i 0) : Nat) : Int))) g (muK X Y (i + 1))) := fun m => (hrow.drewN m).set i _
      have hset2 : Hid (∀ (m : Nat) (u : Value), RowU ((wr.drewN m).setCell ⟨g, i, none⟩ u) g2 Y) := fun m u => (hrow2.drewN m).bar hne ((Bar.refl g _).setCell i u)
      have cM := field_Mul ((muK X Y i).getD i 0) (Y.getD i 0) (range_getD (Rng_of_P (muK_P X Y i hPX)) _) (range_getD (Rng_of_P hPY) _)
      have hB2 : Hid (∀ (m : Nat) (u : Value), Below w.heap.size w ((wr.drewN m).setCell ⟨g, i, none⟩ u)) := fun m u => (show Below w.heap.size w (wr.drewN m) from ⟨hnx.os, hnx.tape, hnx.output, hnx.size, hnx.block⟩).setCell (p := ⟨g, i, none⟩) hg u
      clear hrow hrow2 hnx ht0 cI hPX hPY hne
      generalize fM ((muK X Y i).getD i 0) (Y.getD i 0) = z at *
      generalize (muK X Y i).getD i 0 = old at *
      generalize Y.getD i 0 = y at *
      go_wp2
      go_region_with (go_at_call 36; refine Calls.mono (cM _) ?_; rintro e w' ⟨rfl, hw⟩; rw [hw]; clear hw)
      all_goals
        clear hcS hc2 hfr
        go_wp2
        go_roundw
        case rel => exact ⟨i + 1, by omega, by go_num, hset.out 1, hset2.out 1 _, hB2.out 1 _⟩
        case measure => simp only [intOf]; omega
    · have e : N = i := by omega
      subst e
      have hlM : (muK X Y N).length = N := by rw [muK_length, hlX'.out]
      have hU := hrow.isUN (Rng_of_P (muK_P X Y N hPX)) (by rw [hlM]; omega) hlM
      have c := cI wr g (muK X Y N) hU (ht0.below hnx) hlM
      rw [hfin'.out _ rfl] at c
      have hge : N ≤ N := Nat.le_refl _
      clear hlM hU hrow hrow2 cI ht0 hPX hPY
      go_wp2_with (go_at_call 43; refine Calls.mono c ?_; rintro e w3 ⟨u, rfl, hR, hb3⟩)
      go_ret2
      exact ⟨_, rfl, hR, hnx.trans (hb3.mono hnx.size)⟩


theorem conv_Linear_large (w : World) (v v' : Value) (xs ys : List Nat) (h : IsU w v xs) (h' : IsU w v' ys) (hl : 1024 < xs.length ∨ 1024 < ys.length ∨ (0 < xs.length ∧ 0 < ys.length ∧ 1025 < xs.length + ys.length)) :
    Calls Tryz.prog 46 #[v, v'] w fun e w' => ∃ u, e = .returned (.tuple #[u, .int .i64 2]) ∧ IsU w' u [] ∧ Below w.heap.size w w' := by
  obtain ⟨a, cap, rfl, -⟩ := h
  obtain ⟨a', cap', rfl, -⟩ := h'
  generalize xs.length = n at *
  generalize ys.length = m at *
  by_cases h1 : 1024 < n
  · clear hl
    go_enter Tryz.func46, Tryz.ntmps46
    go_wp2
    go_ret2
    exact ⟨_, rfl, IsU.nil _, Below.refl _ _⟩
  · have h1' : n ≤ 1024 := by omega
    by_cases h2 : 1024 < m
    · clear hl h1
      go_enter Tryz.func46, Tryz.ntmps46
      go_wp2
      go_ret2
      exact ⟨_, rfl, IsU.nil _, Below.refl _ _⟩
    · have h2' : m ≤ 1024 := by omega
      have h3 : 0 < n := by omega
      have h4 : 0 < m := by omega
      have h5 : 1025 < n + m := by omega
      have b1 : ((n : Int) == 0) = false := by rw [beq_eq_false_iff_ne]; omega
      have b2 : ((m : Int) == 0) = false := by rw [beq_eq_false_iff_ne]; omega
      clear hl h1 h2
      go_enter Tryz.func46, Tryz.ntmps46
      go_wp2
      go_ret2
      exact ⟨_, rfl, IsU.nil _, Below.refl _ _⟩

theorem conv_Linear_none (w : World) (v v' : Value) (xs ys : List Nat) (h : IsU w v xs) (h' : IsU w v' ys) (hl : xs.length ≤ 1024) (hl' : ys.length ≤ 1024) (hs : xs.length = 0 ∨ ys.length = 0) :
    Calls Tryz.prog 46 #[v, v'] w fun e w' => ∃ u, e = .returned (.tuple #[u, .int .i64 0]) ∧ IsU w' u (pM xs ys) ∧ Below w.heap.size w w' := by
  have hz : pM xs ys = [] := by unfold pM; rw [if_pos hs]
  rw [hz]
  clear hz
  obtain ⟨a, cap, rfl, -⟩ := h
  obtain ⟨a', cap', rfl, -⟩ := h'
  generalize xs.length = n at *
  generalize ys.length = m at *
  by_cases h1 : n = 0
  · subst h1
    clear hs
    go_enter Tryz.func46, Tryz.ntmps46
    go_wp2
    go_ret2
    exact ⟨_, rfl, IsU.nil _, Below.refl _ _⟩
  · have h2 : m = 0 := by omega
    subst h2
    have h3 : 0 < n := by omega
    clear hs h1
    go_enter Tryz.func46, Tryz.ntmps46
    go_wp2
    go_ret2
    exact ⟨_, rfl, IsU.nil _, Below.refl _ _⟩

set_option maxHeartbeats 1000000 in
theorem conv_Linear_some (w : World) (v v' : Value) (xs ys : List Nat) (h : IsU w v xs) (h' : IsU w v' ys) (ht : Tab w) (h1 : 0 < xs.length) (h2 : 0 < ys.length) (hs : xs.length + ys.length ≤ 1025) :
    Calls Tryz.prog 46 #[v, v'] w fun e w' => ∃ u, e = .returned (.tuple #[u, .int .i64 0]) ∧ IsU w' u (pM xs ys) ∧ Below w.heap.size w w' := by
  have c0 := fun (W : World) => bits_Len (xs.length + ys.length - 1 - 1) W (by omega)
  obtain ⟨hk, hroom⟩ := bl64_room (xs.length + ys.length - 1 - 1) (by omega)
  generalize bl64 (xs.length + ys.length - 1 - 1) = k at *
  obtain ⟨hpow, hN9⟩ := two_pow_bound k hk
  have hN9' : 2 ^ k ≤ 1000000000 := by omega
  have hxN : xs.length ≤ 2 ^ k := by omega
  have hyN : ys.length ≤ 2 ^ k := by omega
  have hSN : xs.length + ys.length - 1 ≤ 2 ^ k := by omega
  have cA := fun (W : World) (hU : IsU W v xs) => conv_widened W v xs (2 ^ k) hU hxN hN9'
  have cB := fun (W : World) (hU : IsU W v' ys) => conv_widened W v' ys (2 ^ k) hU hyN hN9'
  have lX : (lay (List.replicate (2 ^ k) 0) 0 xs).length = 2 ^ k := by rw [lay_length (by simp; omega)]; simp
  have lY : (lay (List.replicate (2 ^ k) 0) 0 ys).length = 2 ^ k := by rw [lay_length (by simp; omega)]; simp
  have rX : Rng (lay (List.replicate (2 ^ k) 0) 0 xs) := lay_rng (Rng_replicate _) h.range
  have rY : Rng (lay (List.replicate (2 ^ k) 0) 0 ys) := lay_rng (Rng_replicate _) h'.range
  have hfin : (mk (lay (List.replicate (2 ^ k) 0) 0 xs).length (rnd (lay (List.replicate (2 ^ k) 0) 0 xs) (lay (List.replicate (2 ^ k) 0) 0 ys) false)).take (xs.length + ys.length - 1) = pM xs ys :=
    lin_take xs ys _ _ (by omega) (by omega) (by rw [lX]; exact hSN) fun j => rnd_lin xs ys _ _ (fun i => lay_zeros _ _ hxN i) (fun i => lay_zeros _ _ hyN i) (by rw [lX]; omega) j
  have hlR := mk_length (lay (List.replicate (2 ^ k) 0) 0 xs).length (rnd (lay (List.replicate (2 ^ k) 0) 0 xs) (lay (List.replicate (2 ^ k) 0) 0 ys) false)
  generalize lay (List.replicate (2 ^ k) 0) 0 xs = X at *
  generalize lay (List.replicate (2 ^ k) 0) 0 ys = Y at *
  have cC := fun (W : World) (g1 g2 : Nat) (h1 : RowU W g1 X) (h2 : RowU W g2 Y) (hT : Tab W) => conv_Cyclic_ok W (.slice (some ⟨g1, 0, none⟩) (2 ^ k) (2 ^ k)) (.slice (some ⟨g2, 0, none⟩) (2 ^ k) (2 ^ k)) X Y k
    (h1.isUN rX (by rw [lX]; omega) lX) (h2.isUN rY (by rw [lY]; omega) lY) hT lX lY hk
  generalize mk X.length (rnd X Y false) = RL at *
  have hlR' : Hid (RL.length = 2 ^ k) := by show _ = _; rw [hlR, lX]
  have hfin' : Hid (RL.take (xs.length + ys.length - 1) = pM xs ys) := hfin
  generalize pM xs ys = ZL at *
  have hA := h
  have hB := h'
  obtain ⟨a, cap, rfl, -⟩ := h
  obtain ⟨a', cap', rfl, -⟩ := h'
  clear hfin hlR lX lY rX rY hroom hN9'
  have hc0 : ((xs.length + ys.length - 1 - 1 : Nat) : Int) = (xs.length : Int) + (ys.length : Int) - 1 - 1 := by omega
  rw [hc0] at c0
  clear hc0
  generalize xs.length = n at *
  generalize ys.length = m at *
  have b1 : ((n : Int) == 0) = false := by rw [beq_eq_false_iff_ne]; omega
  have b2 : ((m : Int) == 0) = false := by rw [beq_eq_false_iff_ne]; omega
  have b3 : n ≤ 1024 := by omega
  have b4 : m ≤ 1024 := by omega
  generalize 2 ^ k = N at *
  go_enter Tryz.func46, Tryz.ntmps46
  go_wp2_with (first
    | (go_at_call 68; refine Calls.mono (c0 _) ?_; rintro e w' ⟨rfl, hw⟩; rw [hw]; clear hw)
    | (go_at_call 69; refine Calls.mono (cA _ hA) ?_; rintro e w1 ⟨g1, rfl, hg1, hrow1, hb1⟩; clear cA; replace hB := hB.below hb1; clear hA)
    | (go_at_call 69; refine Calls.mono (cB _ hB) ?_; rintro e w2 ⟨g2, rfl, hg2, hrow2, hb2⟩; clear cB; replace hrow1 := hrow1.below hb2; replace hb1 := hb1.trans (hb2.mono hb1.size); clear hB)
    | (go_at_call 45; refine Calls.mono (cC _ g1 g2 hrow1 hrow2 (ht.below hb1)) ?_; rintro e w3 ⟨u, rfl, hU, hb3⟩; clear cC; have hU0 := hU; obtain ⟨a3, cap3, rfl, hcap3, -⟩ := hU; have hUl := hlR'.out; rw [hUl] at hcap3 ⊢; have hT := hU0.take (n := n + m - 1) (by omega); rw [hfin'.out] at hT; clear hU0 hUl))
  go_ret2
  exact ⟨_, rfl, hT, hb1.trans (hb3.mono hb1.size)⟩
theorem conv_Linear_ok (w : World) (v v' : Value) (xs ys : List Nat) (h : IsU w v xs) (h' : IsU w v' ys) (ht : Tab w) (hl : xs.length ≤ 1024) (hl' : ys.length ≤ 1024) (hs : xs.length = 0 ∨ ys.length = 0 ∨ xs.length + ys.length ≤ 1025) :
    Calls Tryz.prog 46 #[v, v'] w fun e w' => ∃ u, e = .returned (.tuple #[u, .int .i64 0]) ∧ IsU w' u (pM xs ys) ∧ Below w.heap.size w w' := by
  by_cases h0 : xs.length = 0 ∨ ys.length = 0
  · exact conv_Linear_none w v v' xs ys h h' hl hl' h0
  · exact conv_Linear_some w v v' xs ys h h' ht (by omega) (by omega) (by omega)

end Go.Proofs.YtmggccepmicjhagGreatDoor

/-! Great numbers as texts: which text is less, which are the same; what Check answers; what goldref's Great answers of any text. -/
namespace Go.Proofs.YtmggccepmicjhagGreatDoor
open Go.RowKit
set_option maxRecDepth 100000

theorem u8_lt {d e : Nat} (hd : d ≤ 9) (he : e ≤ 9) : (UInt8.ofNat (48 + d) < UInt8.ofNat (48 + e)) ↔ d < e := by
  rw [UInt8.lt_iff_toNat_lt, UInt8.toNat_ofNat', UInt8.toNat_ofNat']
  omega
theorem u8_eq {d e : Nat} (hd : d ≤ 9) (he : e ≤ 9) : (UInt8.ofNat (48 + d) = UInt8.ofNat (48 + e)) ↔ d = e := by
  rw [← UInt8.toNat_inj, UInt8.toNat_ofNat', UInt8.toNat_ofNat']
  omega
theorem less_tx {a b : List Nat} (ha : Dg a) (hb : Dg b) (hl : a.length = b.length) : Op.bytesLess (tx a) (tx b) = decide (val a < val b) := by
  induction a generalizing b with
  | nil => cases b with
    | nil => rfl
    | cons _ _ => simp at hl
  | cons d a ih => cases b with
    | nil => simp at hl
    | cons e b =>
      obtain ⟨hd, ha'⟩ := Dg.cons.mp ha
      obtain ⟨he, hb'⟩ := Dg.cons.mp hb
      have hl' : a.length = b.length := by simpa using hl
      rw [tx_cons, tx_cons, Op.bytesLess, ih ha' hb' hl', val_cons, val_cons, hl']
      have h1 := dval_lt ha'
      have h2 := dval_lt hb'
      rw [hl'] at h1
      have u1 := u8_lt hd he
      have u2 := u8_eq hd he
      rcases Nat.lt_trichotomy d e with q | q | q
      · have : (d + 1) * 10 ^ b.length ≤ e * 10 ^ b.length := Nat.mul_le_mul_right _ q
        rw [Nat.add_mul, Nat.one_mul] at this
        simp only [u1.mpr q, decide_true, Bool.true_or]
        symm; rw [decide_eq_true_eq]; omega
      · subst q
        simp
      · have : (e + 1) * 10 ^ b.length ≤ d * 10 ^ b.length := Nat.mul_le_mul_right _ q
        rw [Nat.add_mul, Nat.one_mul] at this
        have n1 : ¬ UInt8.ofNat (48 + d) < UInt8.ofNat (48 + e) := fun h => by have := u1.mp h; omega
        have n2 : (UInt8.ofNat (48 + d) == UInt8.ofNat (48 + e)) = false := by rw [beq_eq_false_iff_ne]; exact fun h => by have := u2.mp h; omega
        rw [decide_eq_false n1, n2, Bool.false_or, Bool.false_and]
        symm; rw [decide_eq_false_iff_not]; omega
theorem bsX_toList (l : List UInt8) : (bsX l).toList = l := by rw [ByteArray.toList_eq]; rfl
theorem Gs.less {s t : ByteArray} {a b : List Nat} (h : Gs s a) (h' : Gs t b) (hl : a.length = b.length) : Op.bytesLess s.toList t.toList = decide (val a < val b) := by
  rw [h.text, h'.text, bsX_toList, bsX_toList]
  exact less_tx h.1.1 h'.1.1 hl
theorem Gs.eqv {s t : ByteArray} {a b : List Nat} (h : Gs s a) (h' : Gs t b) : (s.toList == t.toList) = decide (val a = val b) := by
  by_cases e : val a = val b
  · rw [h.same h' e, decide_eq_true e]; simp
  · rw [decide_eq_false e, beq_eq_false_iff_ne]
    intro q
    rw [ByteArray.toList_eq, ByteArray.toList_eq] at q
    have q2 : s = t := by
      cases s; cases t
      simp at q
      rw [q]
    subst q2
    apply e
    have h1 := h.2.1
    have h2 := h'.2.1
    have : a = b := by
      apply List.ext_getElem
      · rw [by'_length] at h1 h2; omega
      · intro i i1 i2
        have b1 := h.byte i i1 (by rw [h.size]; exact i1)
        have b2 := h'.byte i i2 (by rw [h'.size]; exact i2)
        rw [b1] at b2
        simp [List.getD, i1, i2] at b2
        exact b2
    rw [this]
theorem Gs.one' {s : ByteArray} {a b : List Nat} (h : Gs s a) (h' : Gs s b) : val a = val b := by
  have := h.eqv h'
  simpa using this
/-- Each number is told. -/
theorem ex_dg (n : Nat) : ∃ c, Gt c ∧ val c = n := by
  induction n using Nat.strongRecOn with
  | _ n ih =>
    by_cases h : n < 10
    · refine ⟨[n], ⟨fun d hd => ?_, by simp, fun h2 => by simp at h2⟩, by simp [val]⟩
      simp at hd; omega
    · obtain ⟨c, hc, hv⟩ := ih (n / 10) (by omega)
      refine ⟨c ++ [n % 10], ⟨fun d hd => ?_, by simp, fun _ => ?_⟩, by rw [val_snoc, hv]; omega⟩
      · rcases List.mem_append.mp hd with q | q
        · exact hc.1 d q
        · simp at q; omega
      · cases c with
        | nil => exact absurd rfl hc.2.1
        | cons x c =>
          simp only [List.cons_append, List.headD_cons]
          intro h0
          cases c with
          | nil =>
            rw [h0] at hv
            simp [val] at hv
            omega
          | cons y c => exact hc.2.2 (by simp) h0
noncomputable def dgs (n : Nat) : List Nat := Classical.choose (ex_dg n)
theorem dgs_gt (n : Nat) : Gt (dgs n) := (Classical.choose_spec (ex_dg n)).1
theorem dgs_val (n : Nat) : val (dgs n) = n := (Classical.choose_spec (ex_dg n)).2
theorem dgs_of {c : List Nat} {n : Nat} (h : Gt c) (hv : val c = n) : c = dgs n := h.one (dgs_gt n) (by rw [dgs_val, hv])
/-- A number's text. -/
noncomputable def txtN (n : Nat) : ByteArray := bsX (tx (dgs n))
theorem txt_gs (n : Nat) : Gs (txtN n) (dgs n) := Gs.txt (dgs_gt n)
theorem Gs.txt_eq {s : ByteArray} {a : List Nat} (h : Gs s a) : s = txtN (val a) := h.same (txt_gs _) (dgs_val _).symm
/-- As a is less than b, as great, greater. -/
def cmpN (x y : Nat) : Int := if x < y then -1 else if x = y then 0 else 1
/-- A text that is told as a great number and isn't too long. -/
def Gd (s : ByteArray) (ds : List Nat) : Prop := Gs s ds ∧ ds.length ≤ 2000
open Classical in
/-- What Check answers. -/
noncomputable def gchk (s : ByteArray) : Int := if 2000 < s.size then 2 else if ∃ ds, Gs s ds then 0 else 3
theorem gchk_ok {s : ByteArray} {ds : List Nat} (h : Gd s ds) : gchk s = 0 := by
  unfold gchk
  rw [if_neg (by rw [h.1.size]; have := h.2; omega), if_pos ⟨ds, h.1⟩]
theorem gchk_zero {s : ByteArray} (h : gchk s = 0) : ∃ ds, Gd s ds := by
  unfold gchk at h
  split at h
  · cases h
  · next h1 =>
    split at h
    · next h2 =>
      obtain ⟨ds, hd⟩ := h2
      exact ⟨ds, hd, by rw [← hd.size]; omega⟩
    · cases h
theorem gchk_cases (s : ByteArray) : (gchk s ≠ 0 ∧ (gchk s = 2 ∨ gchk s = 3)) ∨ (gchk s = 0 ∧ ∃ ds, Gd s ds) := by
  by_cases h : gchk s = 0
  · exact .inr ⟨h, gchk_zero h⟩
  · refine .inl ⟨h, ?_⟩
    unfold gchk at h ⊢
    split at h
    · next h1 => rw [if_pos h1]; exact .inl rfl
    · next h1 =>
      split at h
      · exact absurd rfl h
      · next h2 => rw [if_neg h1, if_neg h2]; exact .inr rfl
/-- The error of the first, of the second. -/
noncomputable def gchk2 (s t : ByteArray) : Int := if gchk s = 0 then gchk t else gchk s

end Go.Proofs.YtmggccepmicjhagGreatDoor
