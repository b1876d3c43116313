/-
  What takeOut of package poly answers: a quotient; what is left stands where the list stood.
-/
import Derived.Test.YtpoekkbofhdnnaaPolyC1
import Derived.Test.YtpoekkbofhdnnaaFieldI
namespace Go.Proofs.Ytpoekkbofhdnnaa
open Go.RowKit

theorem Bar.setFresh {g g' : Nat} {a b : World} (h : Bar g a b) (hg : a.heap.size ≤ g') (i : Nat) (u : Value) : Bar g a (b.setCell ⟨g', i, none⟩ u) :=
  ⟨h.os, h.tape, h.output, by simpa [World.setCell] using h.size, fun k hk hne => (Below.heap_setCell _ _ _ _ (by show k ≠ g'; omega)).trans (h.block k hk hne)⟩

set_option maxHeartbeats 1000000 in
theorem poly_takeOut_none (w : World) (gr gd : Nat) (rs ds : List Nat) (hl : rs.length ≤ ds.length - 1) (h9' : ds.length ≤ 2048) (hd0 : ds.length ≠ 0) :
    Calls Try.prog 43 #[.slice (some ⟨gr, 0, none⟩) rs.length rs.length, .slice (some ⟨gd, 0, none⟩) ds.length ds.length] w fun e w' => e = .returned (.slice none 0 0) ∧ w' = w := by
  obtain ⟨L, hL⟩ : ∃ L, ds.length = L + 1 := ⟨ds.length - 1, by omega⟩
  rw [hL]
  have hle : (rs.length : Int) ≤ (L : Int) := by omega
  have hL9 : L ≤ 2048 := by omega
  have hd : decide ((rs.length : Int) ≤ (L : Int)) = true := decide_eq_true hle
  clear hL hl hd0 h9'
  go_enter Try.func43, Try.ntmps43
  go_wp2
  go_ret
  exact ⟨rfl, rfl⟩

set_option maxHeartbeats 4000000 in
theorem poly_takeOut_nat (w : World) (gr gd L n lq v : Nat) (rs ds : List Nat) (hr : RowU w gr rs) (hd : RowU w gd ds) (hne : gd ≠ gr) (hrP : ∀ x ∈ rs, x < P) (hdP : ∀ x ∈ ds, x < P) (hL : ds.length = L + 1) (hn : rs.length = n) (hLn : L < n) (hlq : n - L = lq) (h9 : n ≤ 2048) (h9' : L ≤ 2048)
    (hrl : cf rs (n - 1) ≠ 0) (hv : v = fW (ds.getD L 0) 18446744069414584319) (hdl : fN (ds.getD L 0) ≠ 0) :
    Calls Try.prog 43 #[.slice (some ⟨gr, 0, none⟩) n n, .slice (some ⟨gd, 0, none⟩) (L + 1) (L + 1)] w fun e w' => ∃ u qs rs', e = .returned u ∧ IsU w' u qs ∧ RowU w' gr rs' ∧ Quo rs ds qs rs' 0 ∧ Bar gr w w' := by
  have hcL := hd.cell L (by omega)
  have hd1 : decide ((n : Int) ≤ (L : Int)) = false := decide_eq_false (by omega)
  have hsub : (n : Int) - (L : Int) = (lq : Int) := by omega
  have hq9 : lq ≤ 1000000000 := by omega
  have cI := field_Inv_some (ds.getD L 0) (range_getD (Rng_of_P hdP) L) hdl
  rw [← hv] at cI
  have hvv : Hid (v = fW (ds.getD L 0) 18446744069414584319) := hv
  have hdl' : Hid (fN (ds.getD L 0) ≠ 0) := hdl
  have hL' : Hid (ds.length = L + 1) := hL
  have hn' : Hid (rs.length = n) := hn
  have hlq' : Hid (n - L = lq) := hlq
  have hrl' : Hid (cf rs (n - 1) ≠ 0) := hrl
  have hrlt := hr.lt
  have hdlt := hd.lt
  clear hv hdl hL hn hlq hrl
  go_enter Try.func43, Try.ntmps43
  go_wp2_with (first
    | (go_at_call 8; refine Calls.mono (cI _) ?_; rintro e w1 ⟨rfl, hw⟩; rw [hw]; clear hw cI)
    | (at_make; refine wp_makeG rfl _ _ rfl lq rfl rfl hq9 ?_; intro gq w2 hg hrowq hb))
  have hlt1 : gr < gq := by rw [hg.out]; exact hrlt
  have hlt2 : gd < gq := by rw [hg.out]; exact hdlt
  have hgq : w.heap.size ≤ gq := Nat.le_of_eq hg.out.symm
  have hn := hn'.out
  have hL := hL'.out
  have hrow0 : RowU w2 gr rs := hr.below hb
  have hq0 : Quo rs ds (List.replicate lq 0) rs lq := by
    have := Quo_start (ds := ds) hrP (by rw [hL, hn]; omega)
    rw [hn, hL, Nat.add_sub_cancel, hlq'.out] at this
    exact this
  have hbar0 : Bar gr w w2 := Bar.of_below hb
  have hvi : Hid (toF v * cf ds (ds.length - 1) = 1) := by
    have h1 : cf ds L ≠ 0 := fun h => hdl'.out ((fN_zero _).mpr h)
    have h2 := mul_inv h1
    show toF v * cf ds (ds.length - 1) = 1
    rw [hL, Nat.add_sub_cancel, hvv.out, toF_inv]
    show inv (cf ds L) * cf ds L = 1
    grind
  have hv64 : (v : Int) < 18446744073709551616 := by rw [hvv.out]; have := fW_lt (ds.getD L 0) 18446744069414584319; omega
  have hrl2 : rs.length ≠ 0 → cf rs (rs.length - 1) ≠ 0 := fun _ => by rw [hn]; exact hrl'.out
  have hD0 : ∀ W : World, Bar gr w W → IsU W (.slice (some ⟨gd, 0, none⟩) (L + 1) (L + 1)) ds := fun W hB => (hd.bar hne hB).isUN (Rng_of_P hdP) (by omega) hL
  have hsteps : Hid (∀ (qs rs' : List Nat) (i : Nat), Quo rs ds qs rs' (i + 1) → i + 1 ≤ lq → Quo rs ds (qs.set i (fM (rs'.getD (i + L) 0) v)) (addT rs' i ds (fS 0 (fM (rs'.getD (i + L) 0) v))) i) := by
    intro qs rs' i hq hi
    have h1 : qs.length = lq := by rw [hq.1, hn, hL, Nat.add_sub_cancel, hlq'.out]
    have := Quo_step (v := v) hq (by omega) (by omega) (by omega) hrl2 hvi.out
    rw [hL, Nat.add_sub_cancel] at this
    exact this
  have hsizes : Hid (∀ (qs rs' : List Nat) (i : Nat), Quo rs ds qs rs' i → qs.length = lq ∧ rs'.length = n ∧ (∀ x ∈ qs, x < P) ∧ (∀ x ∈ rs', x < P)) := by
    intro qs rs' i hq
    exact ⟨by rw [hq.1, hn, hL, Nat.add_sub_cancel, hlq'.out], by rw [hq.2.1, hn], hq.2.2.1, hq.2.2.2.1⟩
  have hLn' : lq + L = n := by have := hlq'.out; omega
  have hsum : Hid (lq + L = n) := hLn'
  clear hrl2 hvi hrlt hdlt hr hd hb hg hL hn hLn' hdl' hvv hcL hd1 hsub
  generalize ds.getD L 0 = dl at *
  go_loopw [9] (fun vi wr => ∃ (z : Int) (j : Nat) (qs rs' : List Nat), j ≤ lq ∧ z = (j : Int) - 1 ∧ vi = .int .i64 z ∧ RowU wr gq qs ∧ RowU wr gr rs' ∧ Hid (Quo rs ds qs rs' j) ∧ Bar gr w wr)
    (fun vi _ => (intOf vi + 1).toNat)
  case atStart => exact ⟨_, lq, _, _, Nat.le_refl _, rfl, rfl, hrowq, hrow0, hq0, hbar0⟩
  case round =>
    clear hrowq hrow0 hq0 hbar0
    obtain ⟨z, j, qs, rs', hj, hz, rfl, hrowq, hrowr, hq, hbar⟩ := hrel
    obtain ⟨hs1, hs2, hs3, hs4⟩ := hsizes.out _ _ _ hq.out
    rcases Nat.eq_zero_or_pos j with hj0 | hj0
    · have e : z = -1 := by omega
      subst e
      subst hj0
      have hU := hrowq.isUN (Rng_of_P hs3) (by omega) hs1
      clear hz hs1 hs2 hD0
      go_wp2
      go_ret
      exact ⟨_, qs, rs', rfl, hU, hrowr, hq.out, hbar⟩
    · obtain ⟨i, rfl⟩ : ∃ i, j = i + 1 := ⟨j - 1, by omega⟩
      have e : z = (i : Int) := by omega
      subst e
      have hsm := hsum.out
      have hil : i < lq := by omega
      have hiL : i + L < n := by omega
      have hst : Hid (Quo rs ds (qs.set i (fM (rs'.getD (i + L) 0) v)) (addT rs' i ds (fS 0 (fM (rs'.getD (i + L) 0) v))) i) := hsteps.out _ _ _ hq.out hj
      have hcr := hrowr.cell (i + L) (by omega)
      have hcq := hrowq.cell i (by omega)
      have hfq := hrowq.frozen i
      have cM := field_Mul (rs'.getD (i + L) 0) v (range_getD (Rng_of_P hs4) _) hv64
      have hc64 : ((fM (rs'.getD (i + L) 0) v : Nat) : Int) < 18446744073709551616 := by have := fM_lt (rs'.getD (i + L) 0) v; omega
      have cS : ∀ W : World, Calls Try.prog 14 #[.int .u64 0, .int .u64 ((fM (rs'.getD (i + L) 0) v : Nat) : Int)] W fun e w' => e = .returned (.int .u64 ((fS 0 (fM (rs'.getD (i + L) 0) v) : Nat) : Int)) ∧ w' = W := fun W => field_Sub 0 _ (by decide) hc64 W
      have hqr : ∀ c : Nat, RowU (wr.setCell ⟨gq, i, none⟩ (.int .u64 (c : Int))) gq (qs.set i c) := fun c => hrowq.set i c
      have hrr : ∀ c : Nat, RowU (wr.setCell ⟨gq, i, none⟩ (.int .u64 (c : Int))) gr rs' := fun c => hrowr.block (Below.heap_setCell _ _ _ _ (by show gr ≠ gq; omega))
      have hbb : ∀ c : Nat, Bar gr w (wr.setCell ⟨gq, i, none⟩ (.int .u64 (c : Int))) := fun c => hbar.setFresh hgq _ _
      have hsl : ∀ c : Nat, (qs.set i c).getD i 0 = c := fun c => by simp [List.getD, hs1, hil]
      have cA : ∀ (W : World) (c : Nat), RowU W gr rs' → IsU W (.slice (some ⟨gd, 0, none⟩) (L + 1) (L + 1)) ds → Calls Try.prog 41 #[.slice (some ⟨gr, i, none⟩) (n - i) (n - i), .slice (some ⟨gd, 0, none⟩) (L + 1) (L + 1), .int .u64 ((fS 0 c : Nat) : Int)] W fun e w' => e = .returned (.tuple #[]) ∧ RowU w' gr (addT rs' i ds (fS 0 c)) ∧ Bar gr W w' := fun W c h1 h2 =>
        poly_addTimes W gr i (n - i) _ rs' ds (fS 0 c) h1 (Rng_of_P hs4) h2 (apart_of hne) (by rw [hL'.out]; omega) (by rw [hs2]) (by omega) (by have := fS_lt 0 c; omega)
      have hin : i ≤ n := by omega
      clear hrowq hrowr hbar hz hj hj0 hsm hc64 hs3 hs4
      generalize fM (rs'.getD (i + L) 0) v = c at *
      generalize rs'.getD (i + L) 0 = r at *
      generalize qs.getD i 0 = old at *
      go_wp2_with (go_at_call 16; refine Calls.mono (cM _) ?_; rintro e w' ⟨rfl, hw⟩; rw [hw]; clear hw)
      obtain ⟨W, hWe⟩ : ∃ W : World, W = wr.setCell ⟨gq, i, none⟩ (.int .u64 (c : Int)) := ⟨_, rfl⟩
      have h1 := hqr c
      have h2 := hrr c
      have h3 := hbb c
      rw [← hWe] at h1 h2 h3 ⊢
      clear hWe hqr hrr hbb hcr hcq hfq
      have hcq := h1.cell i (by rw [List.length_set]; omega)
      rw [hsl c] at hcq
      have cA2 : ∀ W' : World, (∃ m, W' = W.drewN m) → Calls Try.prog 41 #[.slice (some ⟨gr, i, none⟩) (n - i) (n - i), .slice (some ⟨gd, 0, none⟩) (L + 1) (L + 1), .int .u64 ((fS 0 c : Nat) : Int)] W' fun e w' => e = .returned (.tuple #[]) ∧ RowU w' gq (qs.set i c) ∧ RowU w' gr (addT rs' i ds (fS 0 c)) ∧ Bar gr w w' := by
        rintro W' ⟨m, rfl⟩
        refine (cA _ c (h2.drewN m) (hD0 _ (h3.drewN m))).mono ?_
        rintro e w' ⟨rfl, h4, h5⟩
        exact ⟨rfl, (h1.drewN m).bar (by omega) h5, h4, (h3.drewN m).trans h5⟩
      clear cA hD0 hsl h1 h2 h3 hv64 hdP hrP cM
      generalize fS 0 c = d at *
      go_region_with (first
        | (go_at_call 14; refine Calls.mono (cS _) ?_; rintro e w' ⟨rfl, hw⟩; rw [hw]; clear hw)
        | (go_at_call 41; refine Calls.mono (cA2 _ ?_) ?_; exact ⟨1, rfl⟩; rintro e w5 ⟨rfl, h4, h5, h6⟩))
      all_goals
        clear hcq
        go_wp2
        go_roundw
        case rel => exact ⟨_, i, _, _, by omega, rfl, by go_num, h4, h5, hst, h6⟩
        case measure => simp only [intOf]; omega

end Go.Proofs.Ytpoekkbofhdnnaa
