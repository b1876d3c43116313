/-
  What value, limbs and carried of package big answer: digits as limbs, limbs carried.
-/
import Derived.Test.YtmggccepmicjhagGreatDoorBigC1
import Derived.Test.YtmggccepmicjhagGreatDoorBigL
import Derived.Test.YtmggccepmicjhagGreatDoorBigP
import Derived.Test.YtmggccepmicjhagGreatDoorSlMakeAll
namespace Go.Proofs.YtmggccepmicjhagGreatDoor
open Go.RowKit
set_option maxRecDepth 100000

set_option maxHeartbeats 1000000 in
theorem big_value (w : World) (s : ByteArray) (ds : List Nat) (hB : Bt s (by' ds)) (hd : Dg ds) (h8 : ds.length ≤ 8) :
    Calls Tryz.prog 94 #[.string s] w fun e w' => e = .returned (.int .u64 ((val ds : Nat) : Int)) ∧ w' = w := by
  have hsz : s.size = ds.length := by rw [hB.1, by'_length]
  have hby : Hid (∀ i, i < ds.length → ∀ hs : i < s.size, (s[i]'hs).toNat = 48 + ds.getD i 0) := fun i hi hs => by rw [hB.2 i hs, by'_get ds i hi]
  have hdg : Hid (∀ i, ds.getD i 0 ≤ 9) := fun i => by
    rcases Nat.lt_or_ge i ds.length with q | q
    · rw [show ds.getD i 0 = ds[i] by simp [List.getD, q]]; exact hd _ (List.getElem_mem q)
    · rw [List.getD, List.getElem?_eq_none q]; decide
  have hlt9 : Hid (∀ i, val (ds.take i) < 100000000) := fun i => by
    have h1 := dval_lt (l := ds.take i) (fun d hx => hd d (List.mem_of_mem_take hx))
    have h2 := pow_mono (show (ds.take i).length ≤ 8 by rw [List.length_take]; omega)
    have h3 : (10 : Nat) ^ 8 = 100000000 := by decide
    omega
  have hstep : Hid (∀ i, i < ds.length → val (ds.take (i + 1)) = val (ds.take i) * 10 + ds.getD i 0) := fun i hi => val_take_succ ds i hi
  have hend : Hid (val (ds.take ds.length) = val ds) := by show _ = _; rw [List.take_length]
  have h0 : Hid (val (ds.take 0) = 0) := rfl
  clear hB hd
  generalize hn : ds.length = n at *
  clear hn
  generalize val ds = V at *
  go_enter Tryz.func94, Tryz.ntmps94
  go_wp2
  go_loopw [3, 7] (fun vr vi wr => ∃ (i : Nat), i ≤ n ∧ vi = .int .i64 (i : Int) ∧ vr = .int .u64 ((val (ds.take i) : Nat) : Int) ∧ wr = w)
    (fun _ vi _ => n - (intOf vi).toNat)
  case atStart => exact ⟨0, Nat.zero_le _, rfl, by rw [h0.out]; rfl, rfl⟩
  case round =>
    obtain ⟨i, hi, rfl, rfl, hwr⟩ := hrel
    rw [hwr]
    by_cases hlt : i < n
    · have hb := hby.out i hlt
      have hd := hdg.out i
      have hv := hlt9.out i
      have hs := hstep.out i hlt
      have hs' : Hid (val (ds.take (i + 1)) = val (ds.take i) * 10 + ds.getD i 0) := hs
      clear hs
      generalize val (ds.take i) = x at *
      generalize ds.getD i 0 = d at *
      go_wp2
      go_roundw
      case rel => exact ⟨i + 1, by omega, by go_num, by rw [hs'.out]; refine congrArg (Value.int IntKind.u64) ?_; omega, by trivial⟩
      case measure => simp only [intOf]; omega
    · have e : n = i := by omega
      have hge : n ≤ i := by omega
      have hv : Hid (val (ds.take i) = V) := by show _ = _; rw [← e]; exact hend.out
      clear e
      rw [hv.out]
      go_wp2
      go_ret
      exact ⟨rfl, rfl⟩

set_option maxHeartbeats 1000000 in
theorem big_carried (w : World) (v : Value) (xs : List Nat) (h : IsU w v xs) (hb : ∀ i, xs.getD i 0 ≤ 18000000000000000000) (hl : xs.length ≤ 1000000) (hv : lv xs < 100000000 ^ (xs.length + 1)) :
    Calls Tryz.prog 73 #[v] w fun e w' => ∃ u ys, e = .returned u ∧ IsU w' u ys ∧ Lm ys ∧ ys.length = xs.length + 1 ∧ lv ys = lv xs ∧ Below w.heap.size w w' := by
  have h0 := h
  have hb' : Hid (∀ i, xs.getD i 0 ≤ 18000000000000000000) := hb
  have hend : Hid (∀ cr ys, Cr xs xs.length cr ys → Lm (ys.set xs.length cr) ∧ (ys.set xs.length cr).length = xs.length + 1 ∧ lv (ys.set xs.length cr) = lv xs) := fun cr ys hc => hc.ends hv
  obtain ⟨a, cap, rfl, hcap, hmax, hc, hr⟩ := h
  clear hcap hmax hb hv hr
  go_enter Tryz.func73, Tryz.ntmps73
  go_wp2_with (at_make; refine wp_makeG rfl _ _ rfl (xs.length + 1) (by simp [Act.eval]) (by simp [Act.eval]) (by omega) ?_; intro g w2 hg hrow hb; replace hg : w.heap.size ≤ g := (by rw [hg.out]; exact Nat.le_refl _))
  go_loopw [4, 13] (fun vc vi wr => ∃ (i cr : Nat) (ys : List Nat), i ≤ xs.length ∧ vi = .int .i64 (i : Int) ∧ vc = .int .u64 (cr : Int) ∧ Hid (Cr xs i cr ys) ∧ RowU wr g ys ∧ Below w.heap.size w wr)
    (fun _ vi _ => xs.length - (intOf vi).toNat)
  case atStart => exact ⟨0, 0, _, Nat.zero_le _, rfl, rfl, Cr.start xs, hrow, hb⟩
  case round =>
    clear hrow hb
    obtain ⟨i, cr, ys, hi, rfl, rfl, hCr, hrow, hnx⟩ := hrel
    have hcr := hCr.out.cr1
    have hlen := hCr.out.len
    by_cases hlt : i < xs.length
    · obtain ⟨b, o', rfl, -⟩ := hc i hlt
      have hcell := (h0.below hnx).cell i hlt
      have hcS := hrow.cell i (by omega)
      have hfr := hrow.frozen i
      have hx := hb'.out i
      have hnext : Hid (Cr xs (i + 1) ((xs.getD i 0 + cr) / 100000000) (ys.set i ((xs.getD i 0 + cr) % 100000000))) := hCr.out.step hlt hx
      have hset : Hid (RowU (wr.setCell ⟨g, i, none⟩ (.int .u64 (((xs.getD i 0 + cr) % 100000000 : Nat) : Int))) g (ys.set i ((xs.getD i 0 + cr) % 100000000))) := hrow.set i _
      have hB2 := fun (u : Value) => hnx.setCell (p := ⟨g, i, none⟩) hg u
      generalize ys.set i ((xs.getD i 0 + cr) % 100000000) = ys2 at *
      clear hCr hrow hc h0 hlen
      generalize ys.getD i 0 = old at *
      generalize xs.getD i 0 = x at *
      obtain ⟨z, hz⟩ : ∃ z, z = x + cr := ⟨_, rfl⟩
      have hz1 : (x : Int) + (cr : Int) = (z : Int) := by omega
      have hz2 : z ≤ 18000000200000000000 := by omega
      rw [← hz] at hnext hset
      have hz3 : (z : Int) % 100000000 = ((z % 100000000 : Nat) : Int) := by omega
      have hz4 : (z : Int) / 100000000 = ((z / 100000000 : Nat) : Int) := by omega
      have hz5 : (z : Int).tmod 100000000 = ((z % 100000000 : Nat) : Int) := by rw [Int.tmod_eq_emod_of_nonneg (by omega)]; omega
      have hz6 : (z : Int).tdiv 100000000 = ((z / 100000000 : Nat) : Int) := by rw [Int.tdiv_eq_ediv_of_nonneg (by omega)]; omega
      have hz7 : z % 100000000 < 100000000 := by omega
      have hz8 : z / 100000000 ≤ 200000000000 := by omega
      clear hz
      generalize z % 100000000 = zr at *
      generalize z / 100000000 = zq at *
      go_wp2
      go_roundw
      case rel => exact ⟨i + 1, zq, ys2, by omega, by go_num, rfl, hnext, hset.out, hB2 _⟩
      case measure => simp only [intOf]; omega
    · have e : i = xs.length := by omega
      subst e
      have hge : xs.length ≤ xs.length := Nat.le_refl _
      obtain ⟨e1, e2, e3⟩ := hend.out cr ys hCr.out
      have hcS := hrow.cell xs.length (by omega)
      have hfr := hrow.frozen xs.length
      have hset : Hid (RowU (wr.setCell ⟨g, xs.length, none⟩ (.int .u64 (cr : Int))) g (ys.set xs.length cr)) := hrow.set xs.length _
      have hB2 := fun (u : Value) => hnx.setCell (p := ⟨g, xs.length, none⟩) hg u
      have hRng : Hid (Rng (ys.set xs.length cr)) := fun x hx => by have := e1 x hx; omega
      have f1 : Hid (Lm (ys.set xs.length cr)) := e1
      have f2 : Hid ((ys.set xs.length cr).length = xs.length + 1) := e2
      have f3 : Hid (lv (ys.set xs.length cr) = lv xs) := e3
      clear hc h0 hCr hlen hrow e1 e2 e3 hend hb'
      generalize ys.set xs.length cr = zs at *
      generalize ys.getD xs.length 0 = old at *
      go_wp2
      go_ret
      exact ⟨_, zs, rfl, hset.out.isUN hRng.out (by rw [f2.out]; omega) f2.out, f1.out, f2.out, f3.out, hB2 _⟩

theorem Bt.ext {s : ByteArray} {X : List Nat} (h : Bt s X) (lo hi : Nat) (h1 : lo ≤ hi) (h2 : hi ≤ X.length) : Bt (s.extract lo hi) ((X.take hi).drop lo) := by
  have hsz := h.1
  have e1 : (s.extract lo hi).size = hi - lo := by rw [ByteArray.size_extract]; omega
  refine ⟨by rw [e1, List.length_drop, List.length_take]; omega, fun i hi' => ?_⟩
  rw [ByteArray.getElem_extract]
  rw [h.2 (lo + i) (by omega)]
  rw [e1] at hi'
  simp only [List.getD, List.getElem?_drop]
  rw [List.getElem?_take_of_lt (by omega)]
theorem by'_take (a : List Nat) (n : Nat) : (by' a).take n = by' (a.take n) := by simp [by']
theorem by'_drop (a : List Nat) (n : Nat) : (by' a).drop n = by' (a.drop n) := by simp [by']
theorem cellsU_snoc (xs : List Nat) (z : Nat) : cellsU xs ++ [.int .u64 (z : Int)] = cellsU (xs ++ [z]) := by rw [cellsU_append]; rfl

theorem wp_make0 {ops : Array Oper} {rest : List Oper} {o : Oper} {a : Act} {Q : Exit → Act → World → Prop} {w : World} (hgd : o.guard = none) (l c : Operand) (ho : o.op = Op.makeSlice 73 l c) (n : Nat) (C : Int)
    (hl : a.eval l = .int .i64 0) (hc : a.eval c = .int .i64 C) (hC : C = (n : Int)) (hn : n ≤ 1000000000)
    (h : ∀ u w', w'.ownsRow w.heap.size 77 1 u 0 (cellsU []) → Below w.heap.size w w' → wpList Tryz.prog ops Q rest (a.put o.dst u) w') :
    wpList Tryz.prog ops Q (o :: rest) a w := by
  obtain ⟨i0, hi, hz0, hz1, hz2⟩ := info_parts info_u64
  refine wpList_make_own w hgd l c 73 ho w.heap.size 77 i0 (.int .u64 0) 1 Tryz.underlying73 hi hz0 hz1 .i64 .i64 C n hl hc hC (by rw [hz2]; omega) (by unfold maxLen; omega) (Nat.le_refl _) ?_
  intro w' hown hgrow
  exact h _ w' hown ((Below.refl _ _).grown hgrow (Nat.le_refl _) (fun k hk => by cases hk))

set_option maxHeartbeats 1000000 in
theorem big_limbs (w : World) (s : ByteArray) (a : List Nat) (h : Gd s a) :
    Calls Tryz.prog 71 #[.string s] w fun e w' => ∃ u X, e = .returned u ∧ IsU w' u X ∧ Lm X ∧ lv X = val a ∧ 0 < X.length ∧ X.length ≤ 250 ∧ Below w.heap.size w w' := by
  have hsz := h.1.size
  have h9 := h.2
  have hpos : 0 < a.length := by
    rcases Nat.eq_zero_or_pos a.length with e | e
    · exact absurd (List.eq_nil_of_length_eq_zero e) h.1.1.2.1
    · exact e
  have hst : Hid (∀ X, Lb a X → 8 * X.length < a.length → Lb a (X ++ [val (pce a (a.length - 8 * X.length))])) := fun X hX hlt => hX.step h.1.1.1 hlt
  have hfin : Hid (∀ X, Lb a X → a.length ≤ 8 * X.length → lv X = val a ∧ Lm X ∧ 0 < X.length ∧ X.length ≤ 250) := fun X hX hge => ⟨hX.ends hge, hX.lm, by omega, by have := hX.len; omega⟩
  have cV : Hid (∀ W t, t ≤ a.length → Calls Tryz.prog 94 #[.string (s.extract (t - 8) t)] W fun e w' => e = .returned (.int .u64 ((val (pce a t) : Nat) : Int)) ∧ w' = W) := fun W t ht => by
    have hB := h.1.2.ext (t - 8) t (by omega) (by rw [by'_length]; exact ht)
    rw [by'_take, by'_drop] at hB
    exact big_value W _ (pce a t) hB (pce_dg h.1.1.1 t) (by rw [pce_len ht]; omega)
  have hz8 : Hid (∀ t, t ≤ a.length → val (pce a t) < 100000000) := fun t ht => pce_lt h.1.1.1 ht
  have hs0 : Hid (Lb a []) := Lb.start a
  clear h
  obtain ⟨la, hla⟩ : ∃ la, la = a.length := ⟨_, rfl⟩
  rw [← hla] at hsz h9 hpos hst hfin cV hz8
  clear hla
  have hq : (la : Int).tdiv 8 = ((la / 8 : Nat) : Int) := by rw [Int.tdiv_eq_ediv_of_nonneg (by omega)]; omega
  have hq2 : (la : Int) / 8 = ((la / 8 : Nat) : Int) := by omega
  have hq3 : la / 8 ≤ 250 := by omega
  generalize la / 8 = q8 at *
  go_enter Tryz.func71, Tryz.ntmps71
  go_wp2_with (at_make; refine wp_make0 rfl _ _ rfl (q8 + 1) _ rfl rfl (by omega) (by omega) ?_; intro u0 w2 hown hb)
  clear hq hq2 hq3
  go_loopw [3, 4] (fun vr ve wr => ∃ (X : List Nat) (z : Int), ve = .int .i64 z ∧ z = (la : Int) - 8 * (X.length : Int) ∧ Hid (Lb a X) ∧ wr.ownsRow w.heap.size 77 1 vr X.length (cellsU X) ∧ -8 < z ∧ Below w.heap.size w wr)
    (fun _ ve _ => (intOf ve).toNat)
  case atStart => exact ⟨[], la, rfl, by simp, hs0, hown, by omega, hb⟩
  case round =>
    clear hown hb
    obtain ⟨X, z, rfl, hz, hX, hown, hz8', hnx⟩ := hrel
    by_cases hlt : 0 < z
    · obtain ⟨t, rfl⟩ : ∃ t : Nat, z = (t : Int) := ⟨z.toNat, by omega⟩
      have ht : t ≤ la := by omega
      have hte : la - 8 * X.length = t := by omega
      have hnext := hst.out X hX.out (by omega)
      rw [hte] at hnext
      have hnext' : Hid (Lb a (X ++ [val (pce a t)])) := hnext
      have cv := cV.out wr t ht
      have hzv := hz8.out t ht
      have hXl : X.length ≤ 1000000000 := by omega
      clear hnext hst hfin cV hz8 hX
      generalize val (pce a t) = y at *
      obtain ⟨lo, hlo⟩ : ∃ lo, lo = t - 8 := ⟨_, rfl⟩
      rw [← hlo] at cv
      have hm1 : (if (t : Int) - 8 < 0 then 0 else (t : Int) - 8) = (lo : Int) := by split <;> omega
      have hm2 : (if 0 < (t : Int) - 8 then (t : Int) - 8 else 0) = (lo : Int) := by split <;> omega
      have hm3 : max (0 : Int) ((t : Int) - 8) = (lo : Int) := by omega
      have hm4 : max ((t : Int) - 8) (0 : Int) = (lo : Int) := by omega
      have hlo2 : lo ≤ t := by omega
      have hz' : Hid ((t : Int) = (la : Int) - 8 * (X.length : Int)) := hz
      clear hz hlo hte
      go_wp2_with (first
        | (go_at_call 94; refine Calls.mono cv ?_; rintro e w' ⟨rfl, hw⟩; rw [hw]; clear hw cv)
        | (at_builtin; refine wp_append1 rfl _ _ rfl _ _ _ _ rfl hown rfl ?c3 hnx ?_; rotate_right; intro v' w3 hown3 hnx3))
      case c3 => exact hXl
      rw [cellsU_snoc] at hown3
      go_roundw
      case rel => exact ⟨X ++ [y], (t : Int) - 8, by go_num, by rw [List.length_append]; have := hz'.out; simp; omega, hnext', by rw [List.length_append]; exact hown3, by omega, hnx3⟩
      case measure => simp only [intOf]; omega
    · obtain ⟨f1, f2, f3, f4⟩ := hfin.out X hX.out (by omega)
      have hU := IsU.of_owns hown (fun x hx => by have := f2 x hx; omega)
      obtain ⟨X2, hX2⟩ : ∃ X2, X2 = X := ⟨_, rfl⟩
      have hfin2 : Hid (∃ X, IsU wr u3 X ∧ Lm X ∧ lv X = val a ∧ 0 < X.length ∧ X.length ≤ 250) := ⟨X, hU, f2, f1, f3, f4⟩
      have hU' := hU
      obtain ⟨aa, cc, rfl, -⟩ := hU'
      clear f1 f2 f3 f4 hU hown hst hfin hX cV hz8 hX2 hz
      go_wp2
      go_ret
      obtain ⟨Y, g1, g2, g3, g4, g5⟩ := hfin2.out
      exact ⟨_, rfl, Y, g1, g2, g3, g4, g5, hnx⟩

end Go.Proofs.YtmggccepmicjhagGreatDoor
