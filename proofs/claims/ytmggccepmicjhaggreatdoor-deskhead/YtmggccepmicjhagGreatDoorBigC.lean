/-
  What Check, Cmp, Add and Mul of package big answer.
-/
import Derived.Test.YtmggccepmicjhagGreatDoorBigC2
import Derived.Test.YtmggccepmicjhagGreatDoorSlAll
import Derived.Test.YtmggccepmicjhagGreatDoorBigS
import Derived.Test.YtmggccepmicjhagGreatDoorConvCAll
namespace Go.Proofs.YtmggccepmicjhagGreatDoor
open Go.RowKit
set_option maxRecDepth 100000

theorem big_Check (w : World) (s : ByteArray) (_hTb : Tab w) :
    Calls Tryz.prog 93 #[.string s] w fun e w' => e = .returned (.int .i64 (gchk s)) ∧ Below w.heap.size w w' := by
  refine (big_Check0 w s).mono ?_
  rintro e w' ⟨rfl, rfl⟩
  exact ⟨rfl, Below.refl _ _⟩
theorem cmp_tx {a b : List Nat} (ha : Dg a) (hb : Dg b) (hl : a.length = b.length) : Lib.compareBytes (tx a) (tx b) = cmpN (val a) (val b) := by
  induction a generalizing b with
  | nil => cases b with
    | nil => rfl
    | cons _ _ => simp at hl
  | cons d a ih => cases b with
    | nil => simp at hl
    | cons e b =>
      obtain ⟨hd, ha'⟩ := Dg.cons.mp ha
      obtain ⟨he, hb'⟩ := Dg.cons.mp hb
      have hl' : a.length = b.length := by simpa using hl
      rw [tx_cons, tx_cons, Lib.compareBytes, ih ha' hb' hl', val_cons, val_cons, hl']
      have h1 := dval_lt ha'
      have h2 := dval_lt hb'
      rw [hl'] at h1
      have u1 := u8_lt hd he
      have u2 := u8_lt he hd
      rcases Nat.lt_trichotomy d e with q | q | q
      · have : (d + 1) * 10 ^ b.length ≤ e * 10 ^ b.length := Nat.mul_le_mul_right _ q
        rw [Nat.add_mul, Nat.one_mul] at this
        rw [if_pos (u1.mpr q)]
        unfold cmpN
        rw [if_pos (by omega)]
      · subst q
        rw [if_neg (fun h => by have := u1.mp h; omega), if_neg (fun h => by have := u1.mp h; omega)]
        unfold cmpN
        simp
      · have : (e + 1) * 10 ^ b.length ≤ d * 10 ^ b.length := Nat.mul_le_mul_right _ q
        rw [Nat.add_mul, Nat.one_mul] at this
        rw [if_neg (fun h => by have := u1.mp h; omega), if_pos (u2.mpr q)]
        unfold cmpN
        rw [if_neg (by omega), if_neg (by omega)]
theorem big_Add_bad (w : World) (s t : ByteArray) (h : gchk2 s t ≠ 0) (_hTb : Tab w) :
    Calls Tryz.prog 48 #[.string s, .string t] w fun e w' => e = .returned (.tuple #[.string ⟨#[]⟩, .int .i64 (gchk2 s t)]) ∧ Below w.heap.size w w' := by
  have c := fun W => big_checkBoth W s t
  generalize gchk2 s t = k at *
  have hk : (k == 0) = false := by rw [beq_eq_false_iff_ne]; exact h
  have hk2 : (k != 0) = true := by simp [h]
  go_enter Tryz.func48, Tryz.ntmps48
  go_wp2_with (go_at_call 70; refine Calls.mono (c _) ?_; rintro e w' ⟨rfl, hw⟩; rw [hw]; clear hw)
  go_ret2
  exact ⟨rfl, Below.refl _ _⟩
theorem lay_get {n : Nat} {xs : List Nat} (h : xs.length ≤ n) (i : Nat) : (lay (List.replicate n 0) 0 xs).getD i 0 = xs.getD i 0 := by
  unfold lay
  rw [List.take_zero, List.nil_append, Nat.zero_add]
  rcases Nat.lt_or_ge i xs.length with h1 | h1
  · simp [List.getD, List.getElem?_append_left h1]
  · rw [List.getD, List.getD, List.getElem?_append_right h1, List.getElem?_eq_none h1]
    rcases Nat.lt_or_ge (i - xs.length) (n - xs.length) with h2 | h2
    · simp [h2]
    · rw [List.getElem?_eq_none (by simp; omega)]
/-- The sum under way: i limbs of the second one are added. -/
structure Sa (x y s : List Nat) (i : Nat) : Prop where
  len : s.length = max x.length y.length
  get : ∀ j, s.getD j 0 = x.getD j 0 + (if j < i then y.getD j 0 else 0)
theorem Sa.start (x y : List Nat) : Sa x y (lay (List.replicate (max x.length y.length) 0) 0 x) 0 := by
  refine ⟨?_, fun j => ?_⟩
  · rw [lay_length (by simp; omega)]; simp
  · rw [lay_get (by omega), if_neg (by omega), Nat.add_zero]
theorem Sa.step {x y s : List Nat} {i : Nat} (h : Sa x y s i) (hi : i < y.length) : Sa x y (s.set i (s.getD i 0 + y.getD i 0)) (i + 1) := by
  have hl := h.len
  refine ⟨by rw [List.length_set]; exact hl, fun j => ?_⟩
  rw [getD_set_n _ _ _ _ (by omega)]
  by_cases e : j = i
  · subst e
    rw [if_pos rfl, if_pos (by omega), h.get, if_neg (by omega), Nat.add_zero]
  · rw [if_neg e, h.get]
    by_cases q : j < i
    · rw [if_pos q, if_pos (by omega)]
    · rw [if_neg q, if_neg (by omega)]
theorem Sa.ends {x y s : List Nat} (h : Sa x y s y.length) (hx : Lm x) (hy : Lm y) : lv s = lv x + lv y ∧ (∀ i, s.getD i 0 ≤ 18000000000000000000) ∧ lv s < 100000000 ^ (s.length + 1) := by
  have hg : ∀ j, s.getD j 0 = x.getD j 0 + y.getD j 0 := fun j => by
    rw [h.get]
    by_cases q : j < y.length
    · rw [if_pos q]
    · rw [if_neg q, show y.getD j 0 = 0 by rw [List.getD, List.getElem?_eq_none (by omega)]; rfl]
  have hv := lv_sum h.len (fun i _ => hg i)
  refine ⟨hv, fun i => by have := hg i; have := hx.get i; have := hy.get i; omega, ?_⟩
  have h1 := lv_lt hx
  have h2 := lv_lt hy
  have m1 : 100000000 ^ x.length ≤ 100000000 ^ s.length := Nat.pow_le_pow_right (by decide) (by rw [h.len]; omega)
  have m2 : 100000000 ^ y.length ≤ 100000000 ^ s.length := Nat.pow_le_pow_right (by decide) (by rw [h.len]; omega)
  rw [Nat.pow_succ, hv]
  omega
set_option maxHeartbeats 2000000 in
set_option maxRecDepth 100000 in
theorem big_Add_ok (w : World) (s t : ByteArray) (a b : List Nat) (ha : Gd s a) (hb : Gd t b) (hTb : Tab w) :
    Calls Tryz.prog 48 #[.string s, .string t] w fun e w' => ∃ c, e = .returned (.tuple #[.string (bsX (tx c)), .int .i64 0]) ∧ Gt c ∧ val c = val a + val b ∧ Below w.heap.size w w' := by
  have c := fun W => big_checkBoth W s t
  have hg : gchk2 s t = 0 := by unfold gchk2; rw [if_pos (gchk_ok ha)]; exact gchk_ok hb
  rw [hg] at c
  clear hg
  have cA := fun W => big_limbs W s a ha
  have cB := fun W => big_limbs W t b hb
  generalize val a = va at *
  generalize val b = vb at *
  clear ha hb
  go_enter Tryz.func48, Tryz.ntmps48
  go_upto_region 5 with (first
    | (go_at_call 70; refine Calls.mono (c _) ?_; rintro e w' ⟨rfl, hw⟩; rw [hw]; clear hw)
    | (go_at_call 71; refine Calls.mono (cA _) ?_; rintro e w1 ⟨ux, x, rfl, hX, hxl, hxv, hx0, hx9, hb1⟩; clear cA)
    | (go_at_call 71; refine Calls.mono (cB _) ?_; rintro e w2 ⟨uy, y, rfl, hY, hyl, hyv, hy0, hy9, hb2⟩; clear cB; replace hX := hX.below hb2; replace hb1 := hb1.trans (hb2.mono hb1.size); clear hb2))
  obtain ⟨n, hn⟩ : ∃ n, n = max x.length y.length := ⟨_, rfl⟩
  have hSa0 : Hid (Sa x y (lay (List.replicate n 0) 0 x) 0) := by rw [hn]; exact Sa.start x y
  have hfin : Hid (∀ z, Sa x y z y.length → lv z = va + vb ∧ (∀ i, z.getD i 0 ≤ 18000000000000000000) ∧ lv z < 100000000 ^ (z.length + 1)) := fun z hz => by have := hz.ends hxl hyl; rw [hxv, hyv] at this; exact this
  have hbd : Hid (∀ z i, Sa x y z i → z.length = n ∧ ∀ j, z.getD j 0 ≤ 1000000000) := fun z i hz => ⟨by rw [hn]; exact hz.len, fun j => by
    have h1 := hz.get j
    have h2 := hxl.get j
    have h3 := hyl.get j
    split at h1 <;> omega⟩
  have hyl' : Hid (∀ i, y.getD i 0 < 100000000) := fun i => hyl.get i
  have hxr : Hid (Rng x) := fun q hq => by have := hxl q hq; omega
  have hn9 : n ≤ 250 := by omega
  have hxn : x.length ≤ n := by omega
  have hyn : y.length ≤ n := by omega
  have m3 : max (x.length : Int) (y.length : Int) = (n : Int) := by omega
  have hT : Hid (Tab w) := hTb
  clear hn hxl hyl hxv hyv c hTb
  have hyold : Hid (∀ b off l c, uy = .slice (some ⟨b, off, none⟩) l c → b < w2.heap.size) := fun b off l c e => by rw [e] at hY; exact block_lt (hY.cell 0 hy0)
  have hX0 := hX
  have hY0 := hY
  obtain ⟨xb, xo, xc, rfl⟩ := hX.place hx0
  obtain ⟨yb, yo, yc, rfl⟩ := hY.place hy0
  generalize hlx : x.length = lx at *
  generalize hly : y.length = ly at *
  have hlx' : Hid (x.length = lx) := hlx
  have hof : 0 + n ≤ (List.replicate n 0).length := by simp
  have hxn2 : Hid (x.length ≤ n) := by show _ ≤ _; rw [hlx]; exact hxn
  have hly' : Hid (y.length = ly) := hly
  clear hlx hly
  go_upto_region 7 with (first
    | (at_make; refine wp_makeG rfl _ _ rfl n (by simp [Act.eval]) (by simp [Act.eval]) (by omega) ?_; intro g w3 hg3 hrow3 hb3; replace hg3 : w2.heap.size ≤ g := (by rw [hg3.out]; exact Nat.le_refl _); have hcp := hX0.below hb3)
    | (refine wp_copyR (w0 := w2) rfl _ _ rfl g 0 n n _ (List.replicate n 0) x rfl rfl hcp hrow3 hof hxn2.out hb3 hg3 ?_; intro w4 zc hrow4 hb4; clear hcp))
  have hB4 : Below w.heap.size w w4 := hb1.trans (hb4.mono hb1.size)
  have hY4 := hY0.below hb4
  have hg4 : w.heap.size ≤ g := Nat.le_trans hb1.size hg3
  clear hrow3 hb3 hX hY hX0 hY0 m3
  have hcy : Hid (∀ i, i < ly → w4.cell? ⟨yb, yo + i, none⟩ = some (.int .u64 ((y.getD i 0 : Nat) : Int))) := fun i hi => hY4.cell i (by rw [hly'.out]; exact hi)
  have hyne : yb ≠ g := by
    have h1 := hyold.out _ _ _ _ rfl
    omega
  clear hyold
  go_wp2
  go_loopw [33] (fun vi wr => ∃ (i : Nat) (z : List Nat), i ≤ ly ∧ vi = .int .i64 (i : Int) ∧ Hid (Sa x y z i) ∧ RowU wr g z ∧ Bar g w4 wr)
    (fun vi _ => ly - (intOf vi).toNat)
  case atStart => exact ⟨0, _, Nat.zero_le _, rfl, hSa0, hrow4, Bar.refl _ _⟩
  case round =>
    clear hrow4 hSa0
    obtain ⟨i, z, hi, rfl, hSa, hrow, hbar⟩ := hrel
    obtain ⟨hzl, hzb⟩ := hbd.out z i hSa.out
    by_cases hlt : i < ly
    · have hc0 := hcy.out i hlt
      have hcell : wr.cell? ⟨yb, yo + i, none⟩ = some (.int .u64 ((y.getD i 0 : Nat) : Int)) := (World.cell?_of_block (w := w4) (hbar.block yb (block_lt hc0) hyne)).trans hc0
      have hcS := hrow.cell i (by omega)
      have hfr := hrow.frozen i
      have hset : Hid (RowU (wr.setCell ⟨g, i, none⟩ (.int .u64 ((z.getD i 0 + y.getD i 0 : Nat) : Int))) g (z.set i (z.getD i 0 + y.getD i 0))) := hrow.set i _
      have hnext : Hid (Sa x y (z.set i (z.getD i 0 + y.getD i 0)) (i + 1)) := hSa.out.step (by rw [hly'.out]; exact hlt)
      have hb0 := hzb i
      have hb9 := hyl'.out i
      have hin : i < n := by omega
      have hB2 := fun (u : Value) => hbar.setCell i u
      clear hc0 hrow hSa hzb hzl hbar hcy
      generalize z.set i (z.getD i 0 + y.getD i 0) = z2 at *
      generalize hq : z.getD i 0 = p at *
      clear hq
      generalize hq : y.getD i 0 = q at *
      clear hq
      have hpq : ((p + q : Nat) : Int) = (p : Int) + (q : Int) := by omega
      rw [hpq] at hset
      clear hpq
      go_wp2
      go_roundw
      case rel => exact ⟨i + 1, z2, by omega, by go_num, hnext, hset.out, hB2 _⟩
      case measure => simp only [intOf]; omega
    · have e : i = ly := by omega
      subst e
      have hge : i ≤ i := Nat.le_refl _
      obtain ⟨f1, f2, f3⟩ := hfin.out z hSa.out
      have hBw : Below w.heap.size w wr := Bar.fresh hB4 hg4 hbar
      have hU : IsU wr (.slice (some ⟨g, 0, none⟩) n n) z := hrow.isUN (fun q hq => by obtain ⟨k, hk, rfl⟩ := List.mem_iff_getElem.mp hq; have := hzb k; rw [show z.getD k 0 = z[k] by simp [List.getD, hk]] at this; omega) (by omega) hzl
      have cC := big_carried wr _ z hU f2 (by omega) f3
      have hT : Hid (∀ W, Below w.heap.size w W → Tab W) := fun W hW => hT.out.below hW
      have hfv : Hid (lv z = va + vb) := f1
      have hzl9 : Hid (z.length ≤ 250) := by show _ ≤ _; omega
      clear hfin hbd hyl' hxr hSa hrow hbar hB4 hY4 hcy f1 f2 f3 hU hzb hzl hxn2 hlx' hly' hyne
      go_wp2_with (first
        | (go_at_call 73; refine Calls.mono cC ?_; rintro e w5 ⟨u5, ys, rfl, hU5, hL5, hl5, hv5, hb5⟩; clear cC; have hB5 := hBw.trans (hb5.mono hBw.size); have cX := big_text w5 u5 ys hU5 hL5 (by omega) (by have := hzl9.out; omega) (hT.out _ hB5); rw [hv5, hfv.out] at cX; clear hU5 hL5 hl5 hv5 hBw hb5)
        | (go_at_call 72; refine Calls.mono cX ?_; rintro e w6 ⟨c, rfl, hc1, hc2, hb6⟩; clear cX))
      go_ret2
      exact ⟨c, rfl, hc1, hc2, hB5.trans (hb6.mono hB5.size)⟩
theorem big_Mul_bad (w : World) (s t : ByteArray) (h : gchk2 s t ≠ 0) (_hTb : Tab w) :
    Calls Tryz.prog 49 #[.string s, .string t] w fun e w' => e = .returned (.tuple #[.string ⟨#[]⟩, .int .i64 (gchk2 s t)]) ∧ Below w.heap.size w w' := by
  have c := fun W => big_checkBoth W s t
  generalize gchk2 s t = k at *
  have hk : (k == 0) = false := by rw [beq_eq_false_iff_ne]; exact h
  have hk2 : (k != 0) = true := by simp [h]
  go_enter Tryz.func49, Tryz.ntmps49
  go_wp2_with (go_at_call 70; refine Calls.mono (c _) ?_; rintro e w' ⟨rfl, hw⟩; rw [hw]; clear hw)
  go_ret2
  exact ⟨rfl, Below.refl _ _⟩
theorem mul_bound {x y : List Nat} (hx : Lm x) (hy : Lm y) (h1 : 0 < x.length) (h2 : 0 < y.length) (h9 : x.length ≤ 250) : lv (pM x y) < 100000000 ^ ((pM x y).length + 1) := by
  obtain ⟨e1, _, e3⟩ := pM_limbs hx hy h1 h2 h9
  rw [e3, e1, show x.length + y.length - 1 + 1 = x.length + y.length by omega, Nat.pow_add]
  have a1 := lv_lt hx
  have a2 := lv_lt hy
  calc lv x * lv y ≤ lv x * 100000000 ^ y.length := Nat.mul_le_mul_left _ (by omega)
    _ < 100000000 ^ x.length * 100000000 ^ y.length := Nat.mul_lt_mul_of_pos_right a1 (lbpos _)
set_option maxHeartbeats 2000000 in
set_option maxRecDepth 100000 in
theorem big_Mul_ok (w : World) (s t : ByteArray) (a b : List Nat) (ha : Gd s a) (hb : Gd t b) (hTb : Tab w) :
    Calls Tryz.prog 49 #[.string s, .string t] w fun e w' => ∃ c, e = .returned (.tuple #[.string (bsX (tx c)), .int .i64 0]) ∧ Gt c ∧ val c = val a * val b ∧ Below w.heap.size w w' := by
  have c := fun W => big_checkBoth W s t
  have hg : gchk2 s t = 0 := by unfold gchk2; rw [if_pos (gchk_ok ha)]; exact gchk_ok hb
  rw [hg] at c
  clear hg
  have cA := fun W => big_limbs W s a ha
  have cB := fun W => big_limbs W t b hb
  have hT : Hid (∀ W, Below w.heap.size w W → Tab W) := fun W hW => hTb.below hW
  generalize val a = va at *
  generalize val b = vb at *
  clear ha hb hTb
  go_enter Tryz.func49, Tryz.ntmps49
  go_wp2_with (first
    | (go_at_call 70; refine Calls.mono (c _) ?_; rintro e w' ⟨rfl, hw⟩; rw [hw]; clear hw)
    | (go_at_call 71; refine Calls.mono (cA _) ?_; rintro e w1 ⟨ux, x, rfl, hX, hxl, hxv, hx0, hx9, hb1⟩; clear cA)
    | (go_at_call 71; refine Calls.mono (cB _) ?_; rintro e w2 ⟨uy, y, rfl, hY, hyl, hyv, hy0, hy9, hb2⟩; clear cB; replace hX := hX.below hb2; replace hb1 := hb1.trans (hb2.mono hb1.size); clear hb2; have cL := conv_Linear_ok w2 ux uy x y hX hY (hT.out _ hb1) (by omega) (by omega) (by omega); have hpm := pM_limbs hxl hyl hx0 hy0 hx9; have hpb : Hid _ := mul_bound hxl hyl hx0 hy0 hx9; rw [hxv, hyv] at hpm; have hp1 : Hid _ := hpm.1; have hp2 : Hid _ := hpm.2.1; have hp3 : Hid _ := hpm.2.2; have hxy : Hid (x.length + y.length ≤ 500 ∧ 0 < x.length ∧ 0 < y.length) := ⟨by omega, hx0, hy0⟩; clear hpm hX hY hxl hyl hxv hyv hx0 hy0 hx9 hy9; generalize pM x y = pl at *)
    | (go_at_call 46; refine Calls.mono cL ?_; rintro e w3 ⟨u3, rfl, hU3, hb3⟩; clear cL; have hB3 := hb1.trans (hb3.mono hb1.size); have cC := big_carried w3 u3 pl hU3 (fun i => by have := hp2.out i; omega) (by have := hp1.out; have := hxy.out.1; omega) hpb.out; clear hU3 hb1 hb3 hp2 hpb)
    | (go_at_call 73; refine Calls.mono cC ?_; rintro e w5 ⟨u5, ys, rfl, hU5, hL5, hl5, hv5, hb5⟩; clear cC; have hB5 := hB3.trans (hb5.mono hB3.size); have cX := big_text w5 u5 ys hU5 hL5 (by omega) (by have := hp1.out; have := hxy.out.1; omega) (hT.out _ hB5); rw [hv5, hp3.out] at cX; clear hU5 hL5 hl5 hv5 hB3 hb5)
    | (go_at_call 72; refine Calls.mono cX ?_; rintro e w6 ⟨c, rfl, hc1, hc2, hb6⟩; clear cX))
  go_ret2
  exact ⟨c, rfl, hc1, hc2, hB5.trans (hb6.mono hB5.size)⟩

end Go.Proofs.YtmggccepmicjhagGreatDoor
