/-
  What symbolsAt of package share answers: the symbols by their places, in a map of the call's own.
-/
import Derived.Test.YtjbdpjbcibhflacShC1
import Derived.BigQuiet
namespace Go.Proofs.Ytjbdpjbcibhflac
open Go.RowKit

set_option maxHeartbeats 2000000 in
theorem share_symbolsAt (w : World) (k : Int) (v : Value) (L : List (Int × Nat)) (h : IsS w v L) :
    Calls Try.prog 18 #[.int .i64 k, v] w fun e w' => ∃ u, e = .returned (.tuple #[u, .int .i64 (shE k L)]) ∧ (shE k L = 0 → ∃ b, u = .map (some b) ∧ MapU w' b (lkS L L.length) L.length) ∧ Below w.heap.size w w' := by
  by_cases hk : 1 ≤ k ∧ k ≤ 64
  · have c1 := share_isCount k
    rw [decide_eq_true hk] at c1
    have hok : Hid (ShK L L.length → shE k L = 0) := fun h2 => shE_ok hk h2
    have hform : Hid (¬ ShK L L.length → shE k L = 5) := fun h2 => shE_form hk h2
    clear hk
    generalize shE k L = er at *
    obtain ⟨a, cap, rfl, hcap, hmax, hc, hr⟩ := h
    have hln : L.length ≤ 9223372036854775807 := by unfold maxLen at hmax; omega
    have hc' : Hid (∀ i, i < L.length → ∃ b off, a = some ⟨b, off, none⟩ ∧ w.cell? ⟨b, off + i * 2, none⟩ = some (.int .i64 (atS L i)) ∧ w.cell? ⟨b, off + i * 2 + 1, none⟩ = some (.int .u64 ((syS L i : Nat) : Int))) := fun i hi => by
      obtain ⟨b, off, e, c, d⟩ := hc i hi
      exact ⟨b, off, e, c, by rw [Nat.add_assoc]; exact d⟩
    have hrg : Hid (∀ i, i < L.length → (Lit.int .i64 (atS L i)).wf = true ∧ (Lit.int .u64 ((syS L i : Nat) : Int)).wf = true) := fun i hi => by
      have := hr (L.getD i (0, 0)) (getD_mem hi)
      unfold atS syS
      generalize L.getD i (0, 0) = p at this ⊢
      simp [Lit.wf, IntKind.min, IntKind.max, IntKind.signed, IntKind.bits]
      omega
    have hnm : Hid (L.length ≤ maxLen) := by show _ ≤ _; omega
    clear hc hr hcap hmax
    generalize hn : L.length = n at *
    replace hn : Hid _ := hn
    have c2 := share_isPlace
    have hmm := @run_makeMap Try.prog
    go_enter Try.func18, Try.ntmps18
    go_wp2_with (go_at_call 12; refine Calls.mono (c1 _) ?_; rintro e w' ⟨rfl, hw⟩; rw [hw]; clear hw)
    have hM0 := MapU.made w
    have hB0 : Below w.heap.size w (w.alloc (.map #[] 0)) := below_alloc1 _ _
    obtain ⟨b0, hb0⟩ : ∃ b0, b0 = w.heap.size := ⟨_, rfl⟩
    have hb1 : Hid (w.heap.size ≤ b0) := by rw [hb0]; exact Nat.le_refl _
    rw [← hb0] at hM0 ⊢
    clear hb0
    go_loopw [17] (fun vi wr => ∃ i : Nat, i ≤ n ∧ vi = .int .i64 (i : Int) ∧ Hid (ShK L i) ∧ MapU wr b0 (lkS L i) i ∧ Below w.heap.size w wr)
      (fun vi _ => n - (intOf vi).toNat)
    case atStart => exact ⟨0, Nat.zero_le _, rfl, ShK.zero L, hM0, hB0⟩
    case round =>
      clear hM0 hB0
      obtain ⟨i, hi, rfl, hS, hM, hB⟩ := hrel
      by_cases hlt : i < n
      · obtain ⟨b, off, rfl, k0, k1⟩ := hc'.out i hlt
        have q0 := (hB.cell (block_lt k0)).trans k0
        have q1 := (hB.cell (block_lt k1)).trans k1
        obtain ⟨hw0, hw1⟩ := hrg.out i hlt
        rcases hf : lkS L i (atS L i) with _ | s
        · have hMo : ∀ o, MapU (wr.alloc o) b0 (lkS L i) i := fun o => hM.below (below_alloc1 _ _)
          have hBo : ∀ o, Below w.heap.size w (wr.alloc o) := fun o => hB.trans ((below_alloc1 _ _).mono hB.size)
          by_cases hin : 0 ≤ atS L i ∧ atS L i ≤ 63
          · have c3 := c2 (atS L i)
            rw [decide_eq_true hin] at c3
            have hS2 : Hid (ShK L (i + 1)) := hS.out.succ hin (fun q hq e => by
              have h1 := lkS_of hS.out hq
              rw [e, hf] at h1
              cases h1)
            have hnx : i < maxLen := by have := hnm.out; omega
            have hb2 : w.heap.size ≤ b0 := hb1.out
            have hup : Hid (∀ (W W' : World), Below w.heap.size w W → MapU W' b0 (fun z => if z = atS L i then some (syS L i) else lkS L i z) (i + 1) → W.grownBy W' (some b0) → MapU W' b0 (lkS L (i + 1)) (i + 1) ∧ Below w.heap.size w W') := fun W W' h1 h2 h3 =>
              ⟨h2, h1.grown h3 h1.size (fun q e => by cases e; exact hb2)⟩
            clear c2 hin k0 k1 hS hM hB hb2
            generalize atS L i = x at *
            generalize syS L i = y at *
            go_wp2_with (first
              | (at_lookup; refine wp_lookNone rfl _ _ rfl b0 _ _ x rfl (hMo _) rfl hw0 hf ?_)
              | (go_at_call 28; refine Calls.mono (c3 _) ?_; rintro e w' ⟨rfl, hw⟩; rw [hw]; clear hw)
              | (at_mapUpdate; refine wp_putU rfl _ _ _ rfl b0 _ _ x y rfl (hMo _) rfl rfl hw0 hw1 hnx hf ?_; intro w3 hm3 hg3; obtain ⟨hM3, hB3⟩ := hup.out _ _ (hBo _) hm3 hg3; clear hm3 hg3 hMo hBo))
            go_roundw
            case rel => exact ⟨i + 1, by omega, by go_num, hS2, hM3, hB3⟩
            case measure => simp only [intOf]; omega
          · have c3 := c2 (atS L i)
            rw [decide_eq_false hin] at c3
            have hno : er = 5 := hform.out (fun h => hin (h.1 i hlt))
            subst hno
            clear c2 hin k0 k1 hS
            generalize atS L i = x at *
            generalize syS L i = y at *
            go_wp2_with (first
              | (at_lookup; refine wp_lookNone rfl _ _ rfl b0 _ _ x rfl (hMo _) rfl hw0 hf ?_)
              | (go_at_call 28; refine Calls.mono (c3 _) ?_; rintro e w' ⟨rfl, hw⟩; rw [hw]; clear hw))
            go_ret2
            exact ⟨_, rfl, fun h => absurd h (by decide), hBo _⟩
        · have hMo : ∀ o, MapU (wr.alloc o) b0 (lkS L i) i := fun o => hM.below (below_alloc1 _ _)
          have hBo : ∀ o, Below w.heap.size w (wr.alloc o) := fun o => hB.trans ((below_alloc1 _ _).mono hB.size)
          have hno : er = 5 := by
            obtain ⟨j, hj, e1, _⟩ := lkS_some hf
            exact hform.out (fun h => h.2 i j hj hlt e1)
          subst hno
          clear k0 k1 hS
          generalize atS L i = x at *
          generalize syS L i = y at *
          go_wp2_with (at_lookup; refine wp_lookSome rfl _ _ rfl b0 _ _ x s rfl (hMo _) rfl hw0 hf ?_)
          go_ret2
          exact ⟨⟨_, rfl⟩, hBo _⟩
      · have e : i = n := by omega
        subst e
        have hno : er = 0 := hok.out hS.out
        subst hno
        have hnl : ¬ i < i := Nat.lt_irrefl _
        clear hS
        go_wp2
        go_ret2
        exact ⟨_, rfl, ⟨_, rfl, hM⟩, hB⟩
  · have c1 := share_isCount k
    rw [decide_eq_false hk] at c1
    rw [shE_arg hk]
    obtain ⟨a, cap, rfl, -, -, -, -⟩ := h
    go_enter Try.func18, Try.ntmps18
    go_wp2_with (go_at_call 12; refine Calls.mono (c1 _) ?_; rintro e w' ⟨rfl, hw⟩; rw [hw]; clear hw)
    go_ret2
    exact ⟨_, rfl, fun h => absurd h (by decide), Below.refl _ _⟩

end Go.Proofs.Ytjbdpjbcibhflac
