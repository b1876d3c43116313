/-
  Texts that stood one behind the other, as one.
-/
import Derived.Test.YtckoipoejaafhaaDoorPolyCAll
import Derived.Test.YtckoipoejaafhaaDoorPolyCAll
import Derived.Test.YtckoipoejaafhaaDoorNttOAll
import Derived.Deep.Cut
import Derived.Test.YtckoipoejaafhaaDoorRefAll
import Derived.Test.YtckoipoejaafhaaDoorSlAll
import Derived.Deep.AppendLies
namespace Go.Proofs.YtckoipoejaafhaaDoor
open Go.RowKit
set_option maxRecDepth 100000
theorem enk_start (n : Nat) (f : Nat → F) : mk 0 f ++ List.replicate (n - 0) 0 = List.replicate n 0 := by simp [mk]
theorem set_app (l r : List Nat) (a x : Nat) : (l ++ a :: r).set l.length x = l ++ x :: r := by
  induction l with
  | nil => rfl
  | cons b l ih => simp [ih]
theorem enk_step (n i : Nat) (f : Nat → F) (h : i < n) : (mk i f ++ List.replicate (n - i) 0).set i (f i).val = mk (i + 1) f ++ List.replicate (n - (i + 1)) 0 := by
  obtain ⟨m, rfl⟩ : ∃ m, n = i + 1 + m := ⟨n - (i + 1), by omega⟩
  rw [show i + 1 + m - i = m + 1 by omega, show i + 1 + m - (i + 1) = m by omega, List.replicate_succ, mk_succ, List.append_assoc]
  have e := set_app (mk i f) (List.replicate m 0) 0 (f i).val
  rw [mk_length] at e
  exact e
set_option maxHeartbeats 2000000 in
theorem share_Encode_ok (w : World) (v : Value) (xs : List Nat) (n : Nat) (h : IsU w v xs) (h0 : 0 < xs.length) (hn : (1 ≤ (n : Int) ∧ (n : Int) ≤ 64)) (hl : xs.length ≤ n) :
    Calls Tryd.prog 28 #[v, .int .i64 (n : Int)] w fun e w' => ∃ g, e = .returned (.tuple #[.slice (some ⟨g, 0, none⟩) n n, .int .i64 0]) ∧ w.heap.size ≤ g ∧ RowU w' g (mk n (symF xs)) ∧ Below w.heap.size w w' := by
  have c1 := share_isCount (n : Int)
  rw [decide_eq_true hn] at c1
  have hn64 : n ≤ 64 := by omega
  have hxl : xs.length ≤ 2048 := by omega
  have hn9 : n ≤ 1000000000 := by omega
  have hle : ¬ ((n : Int) < (xs.length : Int)) := by omega
  have hz : ((xs.length : Int) == 0) = false := by
    rw [beq_eq_false_iff_ne]; omega
  have hIU := h
  obtain ⟨a, cap, rfl, -⟩ := h
  clear hn hl h0
  go_enter Tryd.func28, Tryd.ntmps28
  go_wp2_with (first
    | (go_at_call 61; refine Calls.mono (c1 _) ?_; rintro e w' ⟨rfl, hw⟩; rw [hw]; clear hw)
    | (at_make; refine wp_makeG rfl _ _ rfl n rfl rfl hn9 ?_; intro g w2 hg hrow hb; have hgw : w.heap.size ≤ g := (by rw [hg.out]; exact Nat.le_refl _); clear hg))
  rw [← enk_start n (symF xs)] at hrow
  clear hz hle c1
  go_loopw [26] (fun vi wr => ∃ i : Nat, i ≤ n ∧ vi = .int .i64 (i : Int) ∧ RowU wr g (mk i (symF xs) ++ List.replicate (n - i) 0) ∧ Below w.heap.size w wr)
    (fun vi _ => n - (intOf vi).toNat)
  case atStart => exact ⟨0, Nat.zero_le _, rfl, hrow, hb⟩
  case round =>
    clear hrow hb
    obtain ⟨i, hi, rfl, hR, hB⟩ := hrel
    by_cases hlt : i < n
    · have cp := share_point i (by omega)
      have ce := fun (W : World) (hU : IsU W (.slice a xs.length cap) xs) => poly_Eval_ok W _ xs (fW (rt 6) i) hU hxl (by have := fW_lt (rt 6) i; omega)
      rw [← symF_val] at ce
      have hst := enk_step n i (symF xs) hlt
      have hlen : (mk i (symF xs) ++ List.replicate (n - i) 0).length = n := by simp [mk_length]; omega
      have hU : IsU wr (.slice a xs.length cap) xs := hIU.below hB
      have hup : Hid (∀ W : World, Below w.heap.size w W → RowU W g (mk i (symF xs) ++ List.replicate (n - i) 0) → RowU (W.setCell ⟨g, i, none⟩ (.int .u64 (((symF xs i).val : Nat) : Int))) g (mk (i + 1) (symF xs) ++ List.replicate (n - (i + 1)) 0) ∧ Below w.heap.size w (W.setCell ⟨g, i, none⟩ (.int .u64 (((symF xs i).val : Nat) : Int)))) := fun W h1 h2 => ⟨(h2.set i _).cast hst, h1.setCell (p := ⟨g, i, none⟩) hgw _⟩
      have hcl : Hid (∀ W : World, RowU W g (mk i (symF xs) ++ List.replicate (n - i) 0) → ∃ u, W.cell? ⟨g, i, none⟩ = some u ∧ W.frozen? ⟨g, i, none⟩ = false) := fun W h2 => ⟨_, h2.cell i (by omega), h2.frozen i⟩
      clear hst hlen hIU
      generalize (symF xs i).val = z at *
      generalize fW (rt 6) i = p at *
      generalize mk i (symF xs) ++ List.replicate (n - i) 0 = l1 at *
      go_wp2_with (first
        | (go_at_call 63; refine Calls.mono (cp _) ?_; rintro e w' ⟨rfl, hw⟩; rw [hw]; clear hw)
        | (go_at_call 62; refine Calls.mono (ce _ hU) ?_; rintro e w3 ⟨rfl, hb⟩; replace hR := hR.below hb; replace hB := hB.trans (hb.mono hB.size); obtain ⟨u, hc1, hc2⟩ := hcl.out _ hR; clear hb hU ce))
      obtain ⟨hR2, hB2⟩ := hup.out _ hB hR
      go_roundw
      case rel => exact ⟨i + 1, by omega, by go_num, hR2, hB2⟩
      case measure => simp only [intOf]; omega
    · have e : i = n := by omega
      subst e
      have hnl : ¬ i < i := Nat.lt_irrefl _
      rw [Nat.sub_self, List.replicate_zero, List.append_nil] at hR
      go_wp2
      go_ret2
      exact ⟨_, rfl, hgw, hR, hB⟩
set_option maxHeartbeats 2000000 in
theorem share_Encode_bad (w : World) (v : Value) (xs : List Nat) (n : Int) (h : IsU w v xs) (hE : ¬ EnOk xs n) :
    Calls Tryd.prog 28 #[v, .int .i64 n] w fun e w' => e = .returned (.tuple #[.slice none 0 0, .int .i64 1]) ∧ w' = w := by
  have c1 := share_isCount n
  by_cases h0 : 0 < xs.length
  · have hz : ((xs.length : Int) == 0) = false := by
      rw [beq_eq_false_iff_ne]; omega
    by_cases hn : 1 ≤ n ∧ n ≤ 64
    · rw [decide_eq_true hn] at c1
      have hle : n < (xs.length : Int) := by
        by_cases r : n < (xs.length : Int)
        · exact r
        · exact absurd ⟨h0, hn, by omega⟩ hE
      obtain ⟨a, cap, rfl, -⟩ := h
      clear hn h0 hE
      go_enter Tryd.func28, Tryd.ntmps28
      go_wp2_with (go_at_call 61; refine Calls.mono (c1 _) ?_; rintro e w' ⟨rfl, hw⟩; rw [hw]; clear hw)
      go_ret2
      exact ⟨rfl, rfl⟩
    · rw [decide_eq_false hn] at c1
      obtain ⟨a, cap, rfl, -⟩ := h
      clear hn h0 hE
      go_enter Tryd.func28, Tryd.ntmps28
      go_wp2_with (go_at_call 61; refine Calls.mono (c1 _) ?_; rintro e w' ⟨rfl, hw⟩; rw [hw]; clear hw)
      go_ret2
      exact ⟨rfl, rfl⟩
  · obtain ⟨a, cap, rfl, -⟩ := h
    obtain rfl : xs = [] := List.eq_nil_of_length_eq_zero (by omega)
    clear h0 hE c1
    go_enter Tryd.func28, Tryd.ntmps28
    go_wp2
    go_ret2
    exact ⟨rfl, rfl⟩
theorem mk_rng (n : Nat) (f : Nat → F) : Rng (mk n f) := Rng_of_P (mk_lt n f)
theorem share_EncodeN (w : World) (v : Value) (xs : List Nat) (n : Int) (h : IsU w v xs) :
    Calls Tryd.prog 28 #[v, .int .i64 n] w fun e w' => ∃ u, e = .returned (.tuple #[u, .int .i64 (enE xs n)]) ∧ IsU w' u (enL xs n) ∧ NewU w.heap.size w' u ∧ Below w.heap.size w w' := by
  by_cases hE : EnOk xs n
  · obtain ⟨m, rfl⟩ : ∃ m : Nat, n = (m : Int) := ⟨n.toNat, by have := hE.2.1; omega⟩
    unfold enE enL
    rw [if_pos hE, if_pos hE]
    refine (share_Encode_ok w v xs m h hE.1 hE.2.1 (by have := hE.2.2; omega)).mono ?_
    rintro e w' ⟨g, rfl, hg, hR, hB⟩
    have hm9 : m ≤ 1000000000 := by have := hE.2.1; omega
    exact ⟨_, rfl, hR.isUN (mk_rng _ _) (by rw [mk_length]; exact hm9) (mk_length _ _), .of_row hR (mk_length _ _) hm9 hg, hB⟩
  · unfold enE enL
    rw [if_neg hE, if_neg hE]
    refine (share_Encode_bad w v xs n h hE).mono ?_
    rintro e w' ⟨rfl, rfl⟩
    exact ⟨_, rfl, IsU.nil _, .nil _ _, Below.refl _ _⟩
theorem share_Encode (w : World) (v : Value) (xs : List Nat) (n : Int) (h : IsU w v xs) (_hn : (Lit.int .i64 n).wf = true) (_hTb : Tab w) :
    Calls Tryd.prog 28 #[v, .int .i64 n] w fun e w' => ∃ u, e = .returned (.tuple #[u, .int .i64 (enE xs n)]) ∧ IsU w' u (enL xs n) ∧ Below w.heap.size w w' := by
  refine (share_EncodeN w v xs n h).mono ?_
  rintro e w' ⟨u, rfl, hU, _, hB⟩
  exact ⟨u, rfl, hU, hB⟩
theorem Two.start (w : World) : Two w w (.slice none 0 0) (.slice none 0 0) [] [] := ⟨Ow.nil _ _, Ow.nil _ _, fun g e => by simp [Value.ownBlock] at e, Below.refl _ _⟩
theorem wp_appX {ops : Array Oper} {rest : List Oper} {o : Oper} {a : Act} {Q : Exit → Act → World → Prop} {w0 w : World} {vx vy : Value} {X Y : List Nat} {g z : Nat} (hgd : o.guard = none) (s x : Operand)
    (ho : o.op = .call { callee := .builtin .append, args := #[s, x], argTypes := #[23, 23] }) (h : Two w0 w vx vy X Y) (hL : Lt w g z)
    (hs : a.eval s = vx) (hx : a.eval x = .slice (some ⟨g, 0, none⟩) 1 1) (hl : X.length ≤ 1000)
    (hK : ∀ v' w', Two w0 w' v' vy (X ++ [z]) Y → wpList Tryd.prog ops Q rest (a.put o.dst v') w') : wpList Tryd.prog ops Q (o :: rest) a w := by
  refine wpList_plain hgd fun K' hK' => ?_
  have := step_appX (ops := ops) (Q := Q) (K := K') (E := True) hgd s x ho h hL hs hx hl (fun v' w' h' _ => hK' _ _ (hK v' w' h'))
  split at this
  · exact this
  · next hn => exact absurd (by unfold Region.wanted; rw [hgd]) hn
theorem Two.isU {w0 w : World} {vx vy : Value} {X Y : List Nat} (h : Two w0 w vx vy X Y) (hX : ∀ x ∈ X, (x : Int) < 18446744073709551616) (hY : ∀ x ∈ Y, (x : Int) < 18446744073709551616) : IsU w vx X ∧ IsU w vy Y := ⟨h.ox.isU hX, h.oy.isU hY⟩
theorem xsS_app (L : List (Int × Nat)) (p : Int × Nat) : xsS (L ++ [p]) (L ++ [p]).length = xsS L L.length ++ [fW (rt 6) p.1.toNat] := by
  have e : ((List.range L.length).map fun i => fW (rt 6) (atS (L ++ [p]) i).toNat) = (List.range L.length).map fun i => fW (rt 6) (atS L i).toNat :=
    List.map_congr_left fun i hi => by unfold atS; rw [getS_append_one _ _ _ (List.mem_range.mp hi)]
  have e2 : atS (L ++ [p]) L.length = p.1 := by unfold atS; rw [getS_append_last]
  rw [List.length_append, List.length_singleton]
  unfold xsS
  rw [List.range_succ, List.map_append, List.map_singleton, e, e2]
theorem ysS_app (L : List (Int × Nat)) (p : Int × Nat) : ysS (L ++ [p]) (L ++ [p]).length = ysS L L.length ++ [p.2] := by
  have e : ((List.range L.length).map fun i => syS (L ++ [p]) i) = (List.range L.length).map fun i => syS L i :=
    List.map_congr_left fun i hi => by unfold syS; rw [getS_append_one _ _ _ (List.mem_range.mp hi)]
  have e2 : syS (L ++ [p]) L.length = p.2 := by unfold syS; rw [getS_append_last]
  rw [List.length_append, List.length_singleton]
  unfold ysS
  rw [List.range_succ, List.map_append, List.map_singleton, e, e2]
def XS (f : Int → Option Nat) (t : Nat) : List Nat := xsS (shr f t) (shr f t).length
def YS (f : Int → Option Nat) (t : Nat) : List Nat := ysS (shr f t) (shr f t).length
theorem XS_some {f : Int → Option Nat} {t s : Nat} (h : f (t : Int) = some s) : XS f (t + 1) = XS f t ++ [fW (rt 6) t] ∧ YS f (t + 1) = YS f t ++ [s] := by
  unfold XS YS
  rw [shr_some h, xsS_app, ysS_app]
  exact ⟨rfl, rfl⟩
theorem XS_none {f : Int → Option Nat} {t : Nat} (h : f (t : Int) = none) : XS f (t + 1) = XS f t ∧ YS f (t + 1) = YS f t := by
  unfold XS YS
  rw [shr_none h]
  exact ⟨rfl, rfl⟩
theorem XS_len (f : Int → Option Nat) (t : Nat) : (XS f t).length ≤ t ∧ (YS f t).length ≤ t := by
  unfold XS YS
  rw [xsS_length, ysS_length]
  exact ⟨shr_length f t, shr_length f t⟩
set_option maxHeartbeats 2000000 in
theorem share_shortestData (w : World) (b n : Nat) (f : Int → Option Nat) (hM : MapU w b f n) (hf : ∀ z s, f z = some s → s < 18446744073709551616) :
    Calls Tryd.prog 66 #[.map (some b)] w fun e w' => ∃ u l, e = .returned u ∧ IsU w' u l ∧ Goes l (shr f 64).length (cf (xsS (shr f 64) (shr f 64).length)) (cf (ysS (shr f 64) (shr f 64).length)) ∧ Below w.heap.size w w' := by
  have hT0 := Two.start w
  have hend : Hid (∀ (W : World) vx vy, Two w W vx vy (XS f 64) (YS f 64) → Calls Tryd.prog 33 #[vx, vy] W fun e w' => ∃ u0 l, e = .returned (.tuple #[u0, .int .i64 0]) ∧ IsU w' u0 l ∧ Hid (Goes l (shr f 64).length (cf (xsS (shr f 64) (shr f 64).length)) (cf (ysS (shr f 64) (shr f 64).length))) ∧ Below w.heap.size w w') := fun W vx vy hT => by
    have hrx := xsS_rng (shr f 64) (shr f 64).length
    have hry := ysS_rng (shr f 64) (shr f 64).length (fun i hi => by
      obtain ⟨t, _, _, e⟩ := mem_shr.mp (getS_mem hi)
      exact hf _ _ e)
    obtain ⟨h1, h2⟩ := hT.isU hrx hry
    have hl := shr_length f 64
    refine (poly_Through_ok W vx vy _ _ h1 h2 (pts_S (shr_ShK f) (by omega))).mono ?_
    rintro e w' ⟨u0, l, rfl, hU, hG, hb⟩
    unfold XS at hG
    rw [xsS_length] at hG
    exact ⟨u0, l, rfl, hU, hG, hT.bl.trans (hb.mono hT.bl.size)⟩
  go_enter Tryd.func66, Tryd.ntmps66
  go_wp2
  go_loopw [3, 4, 10] (fun vx vy vi wr => ∃ t : Nat, t ≤ 64 ∧ vi = .int .i64 (t : Int) ∧ Two w wr vx vy (XS f t) (YS f t))
    (fun _ _ vi _ => 64 - (intOf vi).toNat)
  case atStart => exact ⟨0, Nat.zero_le _, rfl, hT0⟩
  case round =>
    clear hT0
    obtain ⟨t, ht, rfl, hT⟩ := hrel
    by_cases hlt : t < 64
    · have hwf : (Lit.int .i64 (t : Int)).wf = true := by simp [Lit.wf, IntKind.min, IntKind.max, IntKind.signed, IntKind.bits]; omega
      have hMr : MapU wr b f n := hM.below hT.bl
      have hlti : (t : Int) < 64 := by omega
      rcases hft : f (t : Int) with _ | s
      · obtain ⟨e1, e2⟩ := XS_none hft
        rw [← e1, ← e2] at hT
        clear e1 e2 hend
        go_wp2_with (at_lookup; refine wp_lookNone rfl _ _ rfl b f n (t : Int) rfl hMr rfl hwf hft ?_)
        go_roundw
        case rel => exact ⟨t + 1, by omega, by go_num, hT⟩
        case measure => simp only [intOf]; omega
      · obtain ⟨e1, e2⟩ := XS_some hft
        have cp := share_point t (by omega)
        have hlX : (XS f t).length ≤ 1000 := by have := (XS_len f t).1; omega
        have hlY : (YS f t).length ≤ 1000 := by have := (XS_len f t).2; omega
        have hup : Hid (∀ W vx vy, Two w W vy vx (YS f t ++ [s]) (XS f t ++ [fW (rt 6) t]) → Two w W vx vy (XS f (t + 1)) (YS f (t + 1))) := fun W vx vy h => by rw [e1, e2]; exact h.swap
        clear e1 e2 hend
        generalize fW (rt 6) t = p at *
        go_wp2_with (first
          | (at_lookup; refine wp_lookSome rfl _ _ rfl b f n (t : Int) s rfl hMr rfl hwf hft ?_)
          | (go_at_call 63; refine Calls.mono (cp _) ?_; rintro e w' ⟨rfl, hw⟩; rw [hw]; clear hw)
          | (at_builtin; refine wp_appX rfl _ _ rfl (hT.below (below_alloc1 _ _)) (lt_new _ _) rfl rfl hlX ?_; intro v1 w1 hT1; clear hT hMr)
          | (at_builtin; refine wp_appX rfl _ _ rfl (hT1.swap.below (below_alloc1 _ _)) (lt_new _ _) rfl rfl hlY ?_; intro v2 w2 hT2; replace hT2 := hup.out _ _ _ hT2; clear hT1 hup))
        go_roundw
        case rel => exact ⟨t + 1, by omega, by go_num, hT2⟩
        case measure => simp only [intOf]; omega
    · obtain rfl : t = 64 := by omega
      have cT := hend.out _ _ _ hT
      clear hend hT hf hlt ht
      go_wp2_with (go_at_call 33; refine Calls.mono cT ?_; rintro e w3 ⟨u0, l, rfl, hU, hG, hb⟩)
      go_ret
      exact ⟨_, l, rfl, hU, hG.out, hb⟩
theorem lk_rng {w : World} {v : Value} {L : List (Int × Nat)} (h : IsS w v L) : ∀ z s, lkS L L.length z = some s → s < 18446744073709551616 := fun z s e => by
  obtain ⟨a, cap, rfl, hcap, hmax, hc, hr⟩ := h
  obtain ⟨j, hj, _, e2⟩ := lkS_some e
  have := (hr (L.getD j (0, 0)) (getS_mem hj)).2
  unfold syS at e2
  omega
theorem share_short {w : World} {L : List (Int × Nat)} {k : Int} (h0 : shE k L = 0) (W : World) (b : Nat) (hM : MapU W b (lkS L L.length) L.length) (hr : ∀ z s, lkS L L.length z = some s → s < 18446744073709551616) (hW : Below w.heap.size w W) :
    Calls Tryd.prog 66 #[.map (some b)] W fun e w' => ∃ u l, e = .returned u ∧ IsU w' u l ∧ Hid ((FitK k.toNat L ↔ l.length ≤ k.toNat) ∧ (l.length ≤ k.toNat → (mk k.toNat (cf l)).length = k.toNat ∧ Has (mk k.toNat (cf l)) L L.length) ∧ ∀ x ∈ l, x < P) ∧ Below w.heap.size w w' := by
  refine (share_shortestData W b _ _ hM hr).mono ?_
  rintro e w' ⟨u, l, rfl, hU, hG, hb⟩
  have hf := fit_len (k := k.toNat) (shE_zero h0).2 hG
  exact ⟨u, l, rfl, hU, ⟨hf.1, hf.2, by rw [← hG.1]; exact pN_lt _⟩, hW.trans (hb.mono hW.size)⟩
set_option maxHeartbeats 2000000 in
theorem share_Recover (w : World) (k : Int) (v : Value) (L : List (Int × Nat)) (h : IsS w v L) (_hk : (Lit.int .i64 k).wf = true) (_hTb : Tab w) :
    Calls Tryd.prog 32 #[.int .i64 k, v] w fun e w' => ∃ u, e = .returned (.tuple #[u, .int .i64 (rcE k L)]) ∧ IsU w' u (rcL k L) ∧ Below w.heap.size w w' := by
  have cA := share_symbolsAt w k v L h
  have hr := lk_rng h
  obtain ⟨a, cap, rfl, -, hmax, -, -⟩ := h
  by_cases h0 : shE k L = 0
  · obtain ⟨kn, rfl⟩ : ∃ kn : Nat, k = (kn : Int) := ⟨k.toNat, by have := (shE_zero h0).1; omega⟩
    have hk9 : kn ≤ 1000000000 := by have := (shE_zero h0).1; omega
    have hof : 0 + kn ≤ (List.replicate kn 0).length := by simp
    have hcA : ∀ W b, MapU W b (lkS L L.length) L.length → Below w.heap.size w W → _ := fun W b hM hW => share_short h0 W b hM hr hW
    have cA2 : Calls Tryd.prog 65 #[.int .i64 (kn : Int), .slice a L.length cap] w fun e w' => ∃ b, e = .returned (.tuple #[.map (some b), .int .i64 0]) ∧ MapU w' b (lkS L L.length) L.length ∧ Below w.heap.size w w' := by
      refine cA.mono ?_
      rintro e w' ⟨u, rfl, hu, hb⟩
      obtain ⟨b, rfl, hM⟩ := hu h0
      rw [h0]
      exact ⟨b, rfl, hM, hb⟩
    clear cA hmax
    by_cases hfew : (L.length : Int) < (kn : Int)
    · obtain ⟨e1, e2, _⟩ := rcE_few h0 hfew
      rw [e1, e2]
      clear e1 e2 h0 hr hcA
      generalize lkS L L.length = f at *
      go_enter Tryd.func32, Tryd.ntmps32
      go_wp2_with (first
        | (go_at_call 65; refine Calls.mono cA2 ?_; rintro e w1 ⟨b, rfl, hM, hB⟩; clear cA2; have hlen := hM.len)
)
      go_ret2
      exact ⟨_, rfl, IsU.nil _, hB⟩
    · have hform : Hid (¬ FitK kn L → rcE (kn : Int) L = 5 ∧ rcL (kn : Int) L = []) := fun hf => by
        obtain ⟨e1, e2, _⟩ := rcE_form h0 hfew hf
        exact ⟨e1, e2⟩
      have hok : Hid (∀ l : List Nat, (mk kn (cf l)).length = kn → Has (mk kn (cf l)) L L.length → l.length ≤ kn → (∀ x ∈ l, x < P) → rcE (kn : Int) L = 0 ∧ rcL (kn : Int) L = lay (List.replicate kn 0) 0 l) := fun l h1 h2 h3 h4 => by
        obtain ⟨e1, e2, _⟩ := rcE_ok h0 hfew h1 h2
        refine ⟨e1, ?_⟩
        rw [e2]
        show mk kn (cf (mk kn (cf l))) = _
        rw [mk_congr (fun i _ => cf_mk_of (fun j hj => cf_ge (by omega)) i), mk_pad h3 h4]
        unfold lay
        simp
      clear h0 hr
      generalize rcE (kn : Int) L = er at *
      generalize rcL (kn : Int) L = rs at *
      have hfew2 : ¬ L.length < kn := by omega
      clear hfew
      generalize lkS L L.length = f at *
      go_enter Tryd.func32, Tryd.ntmps32
      go_upto_region 7 with (first
        | (go_at_call 65; refine Calls.mono cA2 ?_; rintro e w1 ⟨b, rfl, hM, hB⟩; clear cA2; have hlen := hM.len)
        | (go_at_call 66; refine Calls.mono (hcA _ _ hM hB) ?_; rintro e w2 ⟨u, l, rfl, hU, hF, hB2⟩; clear hcA hM hB hlen))
      obtain ⟨hF1, hF2, hF3⟩ := hF.out
      have hUl := hU
      obtain ⟨a2, cap2, rfl, -⟩ := hUl
      by_cases hl : l.length ≤ kn
      · obtain ⟨hm1, hm2⟩ := hF2 hl
        obtain ⟨rfl, rfl⟩ := hok.out l hm1 hm2 hl hF3
        have hres : Hid (∀ W g, RowU W g (lay (List.replicate kn 0) 0 l) → IsU W (.slice (some ⟨g, 0, none⟩) kn kn) (lay (List.replicate kn 0) 0 l)) := fun W g h => by
          have hll : (lay (List.replicate kn 0) 0 l).length = kn := by rw [lay_length (by simp; omega)]; simp
          exact h.isUN (lay_rng (Rng_replicate _) (Rng_of_P hF3)) (by omega) hll
        have hgt : ¬ kn < l.length := by omega
        clear hF hF1 hF2 hF3 hform hok hm1 hm2
        go_wp2_with (first
          | (at_make; refine wp_makeG rfl _ _ rfl kn rfl rfl hk9 ?_; intro g w3 hg hrow hb; have hgw : w.heap.size ≤ g := (by rw [hg.out]; exact hB2.size); clear hg; replace hU := hU.below hb; replace hB2 := hB2.trans (hb.mono hB2.size); clear hb)
          | (refine wp_copyR (w0 := w) rfl _ _ rfl g 0 kn kn _ (List.replicate kn 0) l rfl rfl hU hrow hof hl hB2 hgw ?_; intro w4 z hrow4 hb4; clear hrow hU hB2))
        go_ret2
        exact ⟨_, rfl, hres.out _ _ hrow4, hb4⟩
      · obtain ⟨rfl, rfl⟩ := hform.out (fun h => hl (hF1.mp h))
        have hgt : kn < l.length := by omega
        clear hF hF1 hF2 hF3 hform hok hl
        go_wp2
        go_ret2
        exact ⟨_, rfl, IsU.nil _, hB2⟩
  · obtain ⟨e1, e2, _⟩ := rcE_bad h0
    rw [e1, e2]
    have hne : (shE k L != 0) = true := by simpa using h0
    clear e1 e2 hr hmax
    generalize shE k L = er at *
    go_enter Tryd.func32, Tryd.ntmps32
    go_wp2_with (go_at_call 65; refine Calls.mono cA ?_; rintro e w1 ⟨u, rfl, hu, hB⟩; clear cA hu)
    go_ret2
    exact ⟨_, rfl, IsU.nil _, hB⟩
end Go.Proofs.YtckoipoejaafhaaDoor

namespace Go.Proofs.YtckoipoejaafhaaDoor
structure Sel (n : Nat) (xs : List Nat) (i : Nat) (lf : List Nat) (L : List (Int × Nat)) : Prop where
  len : lf.length + i = n
  num : L.length = i
  nod : ∀ p q, p < q → q < lf.length → lf.getD p 0 ≠ lf.getD q 0
  bnd : ∀ p, p < lf.length → lf.getD p 0 < n
  at' : ∀ j, j < i → ∃ p, p < n ∧ L.getD j (0, 0) = ((p : Int), (symF xs p).val) ∧ ∀ q, q < lf.length → lf.getD q 0 ≠ p
  dif : ∀ j j', j < j' → j' < i → (L.getD j (0, 0)).1 ≠ (L.getD j' (0, 0)).1
def out (lf : List Nat) (t : Nat) : List Nat := lf.take t ++ lf.drop (t + 1)
theorem shE_of {k : Nat} {L : List (Int × Nat)} (hk : 1 ≤ k ∧ k ≤ 64) (h : ShK L L.length) : shE (k : Int) L = 0 := shE_ok (by omega) h
theorem rc_ok {xs : List Nat} {L : List (Int × Nat)} (hk : 1 ≤ xs.length ∧ xs.length ≤ 64) (hS : ShK L L.length) (hl : xs.length ≤ L.length) (hH : Has xs L L.length) : rcE (xs.length : Int) L = 0 ∧ rcL (xs.length : Int) L = mk xs.length (cf xs) := by
  obtain ⟨h1, h2, _⟩ := rcE_ok (shE_of hk hS) (by omega) (d := xs) (by simp) hH
  exact ⟨h1, by rw [h2]; rfl⟩
end Go.Proofs.YtckoipoejaafhaaDoor

namespace Go.Proofs.YtckoipoejaafhaaDoor
open Go.RowKit
set_option maxRecDepth 100000
def cellsS (L : List (Int × Nat)) : List Value := L.flatMap fun r => [.int .i64 r.1, .int .u64 (r.2 : Int)]
theorem cellsS_append (L M : List (Int × Nat)) : cellsS (L ++ M) = cellsS L ++ cellsS M := by unfold cellsS; rw [List.flatMap_append]
theorem cellsS_get (L : List (Int × Nat)) (i : Nat) (h : i < L.length) : (cellsS L)[i * 2]? = some (.int .i64 (L.getD i (0, 0)).1) ∧ (cellsS L)[i * 2 + 1]? = some (.int .u64 (((L.getD i (0, 0)).2 : Nat) : Int)) := by
  induction L generalizing i with
  | nil => simp at h
  | cons r L ih =>
    have e : cellsS (r :: L) = .int .i64 r.1 :: .int .u64 (r.2 : Int) :: cellsS L := rfl
    rw [e]
    cases i with
    | zero => exact ⟨rfl, rfl⟩
    | succ i =>
      have := ih i (by simpa using h)
      rw [show (i + 1) * 2 = i * 2 + 1 + 1 by omega, show i * 2 + 1 + 1 + 1 = (i * 2 + 1) + 1 + 1 by omega]
      simp only [List.getElem?_cons_succ, List.getD_cons_succ]
      exact this
def OwS (B : Nat) (w : World) (v : Value) (L : List (Int × Nat)) : Prop := w.ownsRow B 64 2 v L.length (cellsS L)
theorem OwS.below {B : Nat} {w w' : World} {v : Value} {L : List (Int × Nat)} (h : OwS B w v L) (hb : Below w.heap.size w w') : OwS B w' v L := owns_below h hb
theorem OwS.nil (B : Nat) (w : World) : OwS B w (.slice none 0 0) [] := World.ownsRow_nil _ _ _ _
def SRng (L : List (Int × Nat)) : Prop := ∀ r ∈ L, (-9223372036854775808 ≤ r.1 ∧ r.1 ≤ 9223372036854775807) ∧ r.2 < 18446744073709551616
theorem OwS.isS {B : Nat} {w : World} {v : Value} {L : List (Int × Nat)} (h : OwS B w v L) (hr : SRng L) : IsS w v L := by
  have h0 := h
  obtain ⟨hl, hv⟩ := h
  rcases hv with ⟨rfl, h2⟩ | ⟨g, cap, cur, rfl, hg, hh, hc, hm, hs, ht⟩
  · have : L = [] := List.eq_nil_of_length_eq_zero h2
    subst this
    exact IsS.nil w
  · refine ⟨some ⟨g, 0, none⟩, cap, rfl, hc, hm, fun i hi => ⟨g, 0, rfl, ?_, ?_⟩, hr⟩
    · have := h0.cellAt (i * 2) (by omega)
      rw [Nat.zero_add, this, (cellsS_get L i hi).1]
    · have := h0.cellAt (i * 2 + 1) (by omega)
      rw [Nat.zero_add, this, (cellsS_get L i hi).2]
theorem OwS.lt {B : Nat} {w : World} {v : Value} {L : List (Int × Nat)} (h : OwS B w v L) {g : Nat} (e : v.ownBlock = some g) : g < w.heap.size := by
  rcases h.2 with ⟨rfl, _⟩ | ⟨g', cap, cur, rfl, hB, hh, r⟩
  · simp [Value.ownBlock] at e
  · simp [Value.ownBlock] at e
    subst e
    rcases Nat.lt_or_ge g' w.heap.size with hl | hl
    · exact hl
    · rw [Array.getElem?_eq_none hl] at hh; cases hh
theorem info_share : (Tryd.prog.info? 64).map (fun i => (i.zero, i.size, i.bytes)) = some (some (.agg #[.int .i64 0, .int .u64 0]), 2, 16) := by kernel_rfl
theorem step_appS {ops : Array Oper} {o : Oper} {a : Act} {K : Act → World → Prop} {Q : Exit → Act → World → Prop} {E : Prop} {B : Nat} {w w0 : World} {v : Value} {L : List (Int × Nat)} {g : Nat} {p : Int} {z : Nat} (hgd : o.guard = none) (s x : Operand)
    (ho : o.op = .call { callee := .builtin .append, args := #[s, x], argTypes := #[59, 59] }) (h : OwS B w v L) (hg : w.heap[g]? = some (.cells #[.int .i64 p, .int .u64 (z : Int)] 64 (0, 0)))
    (hB0 : B = w0.heap.size) (hbl : Below w0.heap.size w0 w)
    (hs : a.eval s = v) (hx : a.eval x = .slice (some ⟨g, 0, none⟩) 1 1) (hl : L.length ≤ 1000)
    (hK : ∀ v' w', OwS B w' v' (L ++ [(p, z)]) → Below w0.heap.size w0 w' → w.grownBy w' v.ownBlock → (∀ k, v'.ownBlock = some k → v.ownBlock = some k ∨ k = w.heap.size) → K (a.put o.dst v') w') :
    if Region.wanted o (yielded ops a.tmps) = true then Oper.wp Tryd.prog o a w K Q else E := by
  obtain ⟨i0, hi, hz0, hz1, hz2⟩ := info_parts info_share
  subst hB0
  refine step_append_lies _ hgd s x 59 ho w0.heap.size 64 i0 (.agg #[.int .i64 0, .int .u64 0]) 2 16 Tryd.underlying59 hi hz0 hz1 hz2 rfl (by decide) v L.length (cellsS L) hs h ⟨g, 0, none⟩ 1 1 [.int .i64 p, .int .u64 (z : Int)] hx rfl ?_ ?_ (by decide) (by unfold maxLen; omega) (by omega) hbl.size w.heap.size rfl ?_
  · exact World.news_of_block (cs := #[.int .i64 p, .int .u64 (z : Int)]) hg
  · intro u hu
    simp only [List.mem_cons, List.not_mem_nil, or_false] at hu
    rcases hu with rfl | rfl <;> rfl
  · intro g' cap w' hown hgrow hlies hlt
    refine hK _ w' ?_ (hbl.grown hgrow hbl.size (owns_block h)) hgrow (fun k e => ?_)
    · unfold OwS
      rw [List.length_append, cellsS_append]
      exact hown
    · simp [Value.ownBlock] at e
      subst e
      exact hlies
end Go.Proofs.YtckoipoejaafhaaDoor
