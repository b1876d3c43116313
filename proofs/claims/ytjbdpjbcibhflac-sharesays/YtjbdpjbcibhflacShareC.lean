/-
  What package share answers.
-/
import Derived.Test.YtjbdpjbcibhflacShC2
import Derived.Test.YtjbdpjbcibhflacShC3
import Derived.Test.YtjbdpjbcibhflacSlMake
import Derived.Deep.Cut
namespace Go.Proofs.Ytjbdpjbcibhflac
open Go.RowKit

theorem Two.start (w : World) : Two w w (.slice none 0 0) (.slice none 0 0) [] [] := ⟨Ow.nil _ _, Ow.nil _ _, fun g e => by simp [Value.ownBlock] at e, Below.refl _ _⟩
/-- One number more for the first row, at the operation. -/
theorem wp_appX {ops : Array Oper} {rest : List Oper} {o : Oper} {a : Act} {Q : Exit → Act → World → Prop} {w0 w : World} {vx vy : Value} {X Y : List Nat} {g z : Nat} (hgd : o.guard = none) (s x : Operand)
    (ho : o.op = .call { callee := .builtin .append, args := #[s, x], argTypes := #[22, 22] }) (h : Two w0 w vx vy X Y) (hL : Lt w g z)
    (hs : a.eval s = vx) (hx : a.eval x = .slice (some ⟨g, 0, none⟩) 1 1) (hl : X.length ≤ 1000)
    (hK : ∀ v' w', Two w0 w' v' vy (X ++ [z]) Y → wpList Try.prog ops Q rest (a.put o.dst v') w') : wpList Try.prog ops Q (o :: rest) a w := by
  refine wpList_plain hgd fun K' hK' => ?_
  have := step_appX (ops := ops) (Q := Q) (K := K') (E := True) hgd s x ho h hL hs hx hl (fun v' w' h' _ => hK' _ _ (hK v' w' h'))
  split at this
  · exact this
  · next hn => exact absurd (by unfold Region.wanted; rw [hgd]) hn
theorem Two.isU {w0 w : World} {vx vy : Value} {X Y : List Nat} (h : Two w0 w vx vy X Y) (hX : ∀ x ∈ X, (x : Int) < 18446744073709551616) (hY : ∀ x ∈ Y, (x : Int) < 18446744073709551616) : IsU w vx X ∧ IsU w vy Y := ⟨h.ox.isU hX, h.oy.isU hY⟩
theorem xsS_app (L : List (Int × Nat)) (p : Int × Nat) : xsS (L ++ [p]) (L ++ [p]).length = xsS L L.length ++ [fW (rt 6) p.1.toNat] := by
  have e : ((List.range L.length).map fun i => fW (rt 6) (atS (L ++ [p]) i).toNat) = (List.range L.length).map fun i => fW (rt 6) (atS L i).toNat :=
    List.map_congr_left fun i hi => by unfold atS; rw [getD_append_one _ _ _ (List.mem_range.mp hi)]
  have e2 : atS (L ++ [p]) L.length = p.1 := by unfold atS; rw [getD_append_last]
  rw [List.length_append, List.length_singleton]
  unfold xsS
  rw [List.range_succ, List.map_append, List.map_singleton, e, e2]
theorem ysS_app (L : List (Int × Nat)) (p : Int × Nat) : ysS (L ++ [p]) (L ++ [p]).length = ysS L L.length ++ [p.2] := by
  have e : ((List.range L.length).map fun i => syS (L ++ [p]) i) = (List.range L.length).map fun i => syS L i :=
    List.map_congr_left fun i hi => by unfold syS; rw [getD_append_one _ _ _ (List.mem_range.mp hi)]
  have e2 : syS (L ++ [p]) L.length = p.2 := by unfold syS; rw [getD_append_last]
  rw [List.length_append, List.length_singleton]
  unfold ysS
  rw [List.range_succ, List.map_append, List.map_singleton, e, e2]
/-- The points of the first t places. -/
def XS (f : Int → Option Nat) (t : Nat) : List Nat := xsS (shr f t) (shr f t).length
def YS (f : Int → Option Nat) (t : Nat) : List Nat := ysS (shr f t) (shr f t).length
theorem XS_some {f : Int → Option Nat} {t s : Nat} (h : f (t : Int) = some s) : XS f (t + 1) = XS f t ++ [fW (rt 6) t] ∧ YS f (t + 1) = YS f t ++ [s] := by
  unfold XS YS
  rw [shr_some h, xsS_app, ysS_app]
  exact ⟨rfl, rfl⟩
theorem XS_none {f : Int → Option Nat} {t : Nat} (h : f (t : Int) = none) : XS f (t + 1) = XS f t ∧ YS f (t + 1) = YS f t := by
  unfold XS YS
  rw [shr_none h]
  exact ⟨rfl, rfl⟩
theorem XS_len (f : Int → Option Nat) (t : Nat) : (XS f t).length ≤ t ∧ (YS f t).length ≤ t := by
  unfold XS YS
  rw [xsS_length, ysS_length]
  exact ⟨shr_length f t, shr_length f t⟩
set_option maxHeartbeats 2000000 in
theorem share_shortestData (w : World) (b n : Nat) (f : Int → Option Nat) (hM : MapU w b f n) (hf : ∀ z s, f z = some s → s < 18446744073709551616) :
    Calls Try.prog 19 #[.map (some b)] w fun e w' => ∃ u l, e = .returned u ∧ IsU w' u l ∧ Goes l (shr f 64).length (cf (xsS (shr f 64) (shr f 64).length)) (cf (ysS (shr f 64) (shr f 64).length)) ∧ Below w.heap.size w w' := by
  have hT0 := Two.start w
  have hend : Hid (∀ (W : World) vx vy, Two w W vx vy (XS f 64) (YS f 64) → Calls Try.prog 29 #[vx, vy] W fun e w' => ∃ u0 l, e = .returned (.tuple #[u0, .int .i64 0]) ∧ IsU w' u0 l ∧ Hid (Goes l (shr f 64).length (cf (xsS (shr f 64) (shr f 64).length)) (cf (ysS (shr f 64) (shr f 64).length))) ∧ Below w.heap.size w w') := fun W vx vy hT => by
    have hrx := xsS_rng (shr f 64) (shr f 64).length
    have hry := ysS_rng (shr f 64) (shr f 64).length (fun i hi => by
      obtain ⟨t, _, _, e⟩ := mem_shr.mp (getD_mem hi)
      exact hf _ _ e)
    obtain ⟨h1, h2⟩ := hT.isU hrx hry
    have hl := shr_length f 64
    refine (poly_Through_ok W vx vy _ _ h1 h2 (pts_S (shr_ShK f) (by omega))).mono ?_
    rintro e w' ⟨u0, l, rfl, hU, hG, hb⟩
    unfold XS at hG
    rw [xsS_length] at hG
    exact ⟨u0, l, rfl, hU, hG, hT.bl.trans (hb.mono hT.bl.size)⟩
  go_enter Try.func19, Try.ntmps19
  go_wp2
  go_loopw [3, 4, 10] (fun vx vy vi wr => ∃ t : Nat, t ≤ 64 ∧ vi = .int .i64 (t : Int) ∧ Two w wr vx vy (XS f t) (YS f t))
    (fun _ _ vi _ => 64 - (intOf vi).toNat)
  case atStart => exact ⟨0, Nat.zero_le _, rfl, hT0⟩
  case round =>
    clear hT0
    obtain ⟨t, ht, rfl, hT⟩ := hrel
    by_cases hlt : t < 64
    · have hwf : (Lit.int .i64 (t : Int)).wf = true := by simp [Lit.wf, IntKind.min, IntKind.max, IntKind.signed, IntKind.bits]; omega
      have hMr : MapU wr b f n := hM.below hT.bl
      have hlti : (t : Int) < 64 := by omega
      rcases hft : f (t : Int) with _ | s
      · obtain ⟨e1, e2⟩ := XS_none hft
        rw [← e1, ← e2] at hT
        clear e1 e2 hend
        go_wp2_with (at_lookup; refine wp_lookNone rfl _ _ rfl b f n (t : Int) rfl hMr rfl hwf hft ?_)
        go_roundw
        case rel => exact ⟨t + 1, by omega, by go_num, hT⟩
        case measure => simp only [intOf]; omega
      · obtain ⟨e1, e2⟩ := XS_some hft
        have cp := share_point t (by omega)
        have hlX : (XS f t).length ≤ 1000 := by have := (XS_len f t).1; omega
        have hlY : (YS f t).length ≤ 1000 := by have := (XS_len f t).2; omega
        have hup : Hid (∀ W vx vy, Two w W vy vx (YS f t ++ [s]) (XS f t ++ [fW (rt 6) t]) → Two w W vx vy (XS f (t + 1)) (YS f (t + 1))) := fun W vx vy h => by rw [e1, e2]; exact h.swap
        clear e1 e2 hend
        generalize fW (rt 6) t = p at *
        go_wp2_with (first
          | (at_lookup; refine wp_lookSome rfl _ _ rfl b f n (t : Int) s rfl hMr rfl hwf hft ?_)
          | (go_at_call 14; refine Calls.mono (cp _) ?_; rintro e w' ⟨rfl, hw⟩; rw [hw]; clear hw)
          | (at_builtin; refine wp_appX rfl _ _ rfl (hT.below (below_alloc1 _ _)) (lt_new _ _) rfl rfl hlX ?_; intro v1 w1 hT1; clear hT hMr)
          | (at_builtin; refine wp_appX rfl _ _ rfl (hT1.swap.below (below_alloc1 _ _)) (lt_new _ _) rfl rfl hlY ?_; intro v2 w2 hT2; replace hT2 := hup.out _ _ _ hT2; clear hT1 hup))
        go_roundw
        case rel => exact ⟨t + 1, by omega, by go_num, hT2⟩
        case measure => simp only [intOf]; omega
    · obtain rfl : t = 64 := by omega
      have cT := hend.out _ _ _ hT
      clear hend hT hf hlt ht
      go_wp2_with (go_at_call 29; refine Calls.mono cT ?_; rintro e w3 ⟨u0, l, rfl, hU, hG, hb⟩)
      go_ret
      exact ⟨_, l, rfl, hU, hG.out, hb⟩
theorem lk_rng {w : World} {v : Value} {L : List (Int × Nat)} (h : IsS w v L) : ∀ z s, lkS L L.length z = some s → s < 18446744073709551616 := fun z s e => by
  obtain ⟨a, cap, rfl, hcap, hmax, hc, hr⟩ := h
  obtain ⟨j, hj, _, e2⟩ := lkS_some e
  have := (hr (L.getD j (0, 0)) (getD_mem hj)).2
  unfold syS at e2
  omega
/-- shortestData, asked of the map that symbolsAt tells. -/
theorem share_short {w : World} {L : List (Int × Nat)} {k : Int} (h0 : shE k L = 0) (W : World) (b : Nat) (hM : MapU W b (lkS L L.length) L.length) (hr : ∀ z s, lkS L L.length z = some s → s < 18446744073709551616) (hW : Below w.heap.size w W) :
    Calls Try.prog 19 #[.map (some b)] W fun e w' => ∃ u l, e = .returned u ∧ IsU w' u l ∧ Hid ((FitK k.toNat L ↔ l.length ≤ k.toNat) ∧ (l.length ≤ k.toNat → (mk k.toNat (cf l)).length = k.toNat ∧ Has (mk k.toNat (cf l)) L L.length) ∧ ∀ x ∈ l, x < P) ∧ Below w.heap.size w w' := by
  refine (share_shortestData W b _ _ hM hr).mono ?_
  rintro e w' ⟨u, l, rfl, hU, hG, hb⟩
  have hf := fit_len (k := k.toNat) (shE_zero h0).2 hG
  exact ⟨u, l, rfl, hU, ⟨hf.1, hf.2, by rw [← hG.1]; exact pN_lt _⟩, hW.trans (hb.mono hW.size)⟩
set_option maxHeartbeats 2000000 in
theorem share_Recover (w : World) (k : Int) (v : Value) (L : List (Int × Nat)) (h : IsS w v L) (_hk : (Lit.int .i64 k).wf = true) (_hTb : Tab w) :
    Calls Try.prog 8 #[.int .i64 k, v] w fun e w' => ∃ u, e = .returned (.tuple #[u, .int .i64 (rcE k L)]) ∧ IsU w' u (rcL k L) ∧ Below w.heap.size w w' := by
  have cA := share_symbolsAt w k v L h
  have hr := lk_rng h
  obtain ⟨a, cap, rfl, -, hmax, -, -⟩ := h
  by_cases h0 : shE k L = 0
  · obtain ⟨kn, rfl⟩ : ∃ kn : Nat, k = (kn : Int) := ⟨k.toNat, by have := (shE_zero h0).1; omega⟩
    have hk9 : kn ≤ 1000000000 := by have := (shE_zero h0).1; omega
    have hof : 0 + kn ≤ (List.replicate kn 0).length := by simp
    have hcA : ∀ W b, MapU W b (lkS L L.length) L.length → Below w.heap.size w W → _ := fun W b hM hW => share_short h0 W b hM hr hW
    have cA2 : Calls Try.prog 18 #[.int .i64 (kn : Int), .slice a L.length cap] w fun e w' => ∃ b, e = .returned (.tuple #[.map (some b), .int .i64 0]) ∧ MapU w' b (lkS L L.length) L.length ∧ Below w.heap.size w w' := by
      refine cA.mono ?_
      rintro e w' ⟨u, rfl, hu, hb⟩
      obtain ⟨b, rfl, hM⟩ := hu h0
      rw [h0]
      exact ⟨b, rfl, hM, hb⟩
    clear cA hmax
    by_cases hfew : (L.length : Int) < (kn : Int)
    · obtain ⟨e1, e2, _⟩ := rcE_few h0 hfew
      rw [e1, e2]
      clear e1 e2 h0 hr hcA
      generalize lkS L L.length = f at *
      go_enter Try.func8, Try.ntmps8
      go_wp2_with (first
        | (go_at_call 18; refine Calls.mono cA2 ?_; rintro e w1 ⟨b, rfl, hM, hB⟩; clear cA2; have hlen := hM.len)
)
      go_ret2
      exact ⟨_, rfl, IsU.nil _, hB⟩
    · have hform : Hid (¬ FitK kn L → rcE (kn : Int) L = 5 ∧ rcL (kn : Int) L = []) := fun hf => by
        obtain ⟨e1, e2, _⟩ := rcE_form h0 hfew hf
        exact ⟨e1, e2⟩
      have hok : Hid (∀ l : List Nat, (mk kn (cf l)).length = kn → Has (mk kn (cf l)) L L.length → l.length ≤ kn → (∀ x ∈ l, x < P) → rcE (kn : Int) L = 0 ∧ rcL (kn : Int) L = lay (List.replicate kn 0) 0 l) := fun l h1 h2 h3 h4 => by
        obtain ⟨e1, e2, _⟩ := rcE_ok h0 hfew h1 h2
        refine ⟨e1, ?_⟩
        rw [e2]
        show mk kn (cf (mk kn (cf l))) = _
        rw [mk_congr (fun i _ => cf_mk_of (fun j hj => cf_ge (by omega)) i), mk_pad h3 h4]
        unfold lay
        simp
      clear h0 hr
      generalize rcE (kn : Int) L = er at *
      generalize rcL (kn : Int) L = rs at *
      have hfew2 : ¬ L.length < kn := by omega
      clear hfew
      generalize lkS L L.length = f at *
      go_enter Try.func8, Try.ntmps8
      go_upto_region 7 with (first
        | (go_at_call 18; refine Calls.mono cA2 ?_; rintro e w1 ⟨b, rfl, hM, hB⟩; clear cA2; have hlen := hM.len)
        | (go_at_call 19; refine Calls.mono (hcA _ _ hM hB) ?_; rintro e w2 ⟨u, l, rfl, hU, hF, hB2⟩; clear hcA hM hB hlen))
      obtain ⟨hF1, hF2, hF3⟩ := hF.out
      have hUl := hU
      obtain ⟨a2, cap2, rfl, -⟩ := hUl
      by_cases hl : l.length ≤ kn
      · obtain ⟨hm1, hm2⟩ := hF2 hl
        obtain ⟨rfl, rfl⟩ := hok.out l hm1 hm2 hl hF3
        have hres : Hid (∀ W g, RowU W g (lay (List.replicate kn 0) 0 l) → IsU W (.slice (some ⟨g, 0, none⟩) kn kn) (lay (List.replicate kn 0) 0 l)) := fun W g h => by
          have hll : (lay (List.replicate kn 0) 0 l).length = kn := by rw [lay_length (by simp; omega)]; simp
          exact h.isUN (lay_rng (Rng_replicate _) (Rng_of_P hF3)) (by omega) hll
        have hgt : ¬ kn < l.length := by omega
        clear hF hF1 hF2 hF3 hform hok hm1 hm2
        go_wp2_with (first
          | (at_make; refine wp_makeG rfl _ _ rfl kn rfl rfl hk9 ?_; intro g w3 hg hrow hb; have hgw : w.heap.size ≤ g := (by rw [hg.out]; exact hB2.size); clear hg; replace hU := hU.below hb; replace hB2 := hB2.trans (hb.mono hB2.size); clear hb)
          | (refine wp_copyR (w0 := w) rfl _ _ rfl g 0 kn kn _ (List.replicate kn 0) l rfl rfl hU hrow hof hl hB2 hgw ?_; intro w4 z hrow4 hb4; clear hrow hU hB2))
        go_ret2
        exact ⟨_, rfl, hres.out _ _ hrow4, hb4⟩
      · obtain ⟨rfl, rfl⟩ := hform.out (fun h => hl (hF1.mp h))
        have hgt : kn < l.length := by omega
        clear hF hF1 hF2 hF3 hform hok hl
        go_wp2
        go_ret2
        exact ⟨_, rfl, IsU.nil _, hB2⟩
  · obtain ⟨e1, e2, _⟩ := rcE_bad h0
    rw [e1, e2]
    have hne : (shE k L != 0) = true := by simpa using h0
    clear e1 e2 hr hmax
    generalize shE k L = er at *
    go_enter Try.func8, Try.ntmps8
    go_wp2_with (go_at_call 18; refine Calls.mono cA ?_; rintro e w1 ⟨u, rfl, hu, hB⟩; clear cA hu)
    go_ret2
    exact ⟨_, rfl, IsU.nil _, hB⟩
set_option maxHeartbeats 2000000 in
theorem share_Fits (w : World) (k : Int) (v : Value) (L : List (Int × Nat)) (h : IsS w v L) (_hk : (Lit.int .i64 k).wf = true) (_hTb : Tab w) :
    Calls Try.prog 9 #[.int .i64 k, v] w fun e w' => e = .returned (.tuple #[.bool (ftB k L), .int .i64 (shE k L)]) ∧ Below w.heap.size w w' := by
  have cA := share_symbolsAt w k v L h
  have hr := lk_rng h
  obtain ⟨a, cap, rfl, -, hmax, -, -⟩ := h
  by_cases h0 : shE k L = 0
  · obtain ⟨kn, rfl⟩ : ∃ kn : Nat, k = (kn : Int) := ⟨k.toNat, by have := (shE_zero h0).1; omega⟩
    have hcA : ∀ W b, MapU W b (lkS L L.length) L.length → Below w.heap.size w W → Calls Try.prog 19 #[.map (some b)] W fun e w' => ∃ a2 n2 cap2, e = .returned (.slice a2 n2 cap2) ∧ Hid (ftB (kn : Int) L = decide ((n2 : Int) ≤ (kn : Int))) ∧ Below w.heap.size w w' := fun W b hM hW => by
      refine (share_short h0 W b hM hr hW).mono ?_
      rintro e w' ⟨u, l, rfl, hU, hF, hb⟩
      obtain ⟨a2, cap2, rfl, -⟩ := hU
      refine ⟨a2, l.length, cap2, rfl, ?_, hb⟩
      have h1 : FitK kn L ↔ l.length ≤ kn := hF.out.1
      show ftB (kn : Int) L = _
      unfold ftB
      exact decide_eq_decide.mpr ⟨fun q => by have := h1.mp q.2; omega, fun q => ⟨h0, h1.mpr (by omega)⟩⟩
    have cA2 : Calls Try.prog 18 #[.int .i64 (kn : Int), .slice a L.length cap] w fun e w' => ∃ b, e = .returned (.tuple #[.map (some b), .int .i64 0]) ∧ MapU w' b (lkS L L.length) L.length ∧ Below w.heap.size w w' := by
      refine cA.mono ?_
      rintro e w' ⟨u, rfl, hu, hb⟩
      obtain ⟨b, rfl, hM⟩ := hu h0
      rw [h0]
      exact ⟨b, rfl, hM, hb⟩
    rw [h0]
    clear cA hmax h0 hr
    generalize ftB (kn : Int) L = B at *
    generalize lkS L L.length = f at *
    go_enter Try.func9, Try.ntmps9
    go_wp2_with (first
      | (go_at_call 18; refine Calls.mono cA2 ?_; rintro e w1 ⟨b, rfl, hM, hB⟩; clear cA2)
      | (go_at_call 19; refine Calls.mono (hcA _ _ hM hB) ?_; rintro e w2 ⟨a2, n2, cap2, rfl, hF, hB2⟩; clear hcA hM hB))
    go_ret2
    rw [hF.out]
    exact ⟨by simp, hB2⟩
  · obtain ⟨_, _, e1⟩ := rcE_bad h0
    rw [e1]
    have hne : (shE k L != 0) = true := by simpa using h0
    clear e1 hr hmax
    generalize shE k L = er at *
    go_enter Try.func9, Try.ntmps9
    go_wp2_with (go_at_call 18; refine Calls.mono cA ?_; rintro e w1 ⟨u, rfl, hu, hB⟩; clear cA hu)
    go_ret2
    exact ⟨rfl, hB⟩

end Go.Proofs.Ytjbdpjbcibhflac
