/-
  What Shares of package goldref answers: what is wrong with shares.
-/
import Derived.Test.YtjbdpjbcibhflacOpenS
import Derived.Test.YtjbdpjbcibhflacRefIn
import Derived.BigQuiet
namespace Go.Proofs.Ytjbdpjbcibhflac
open Go.RowKit

/-- Where share i stands. -/
def atS (L : List (Int × Nat)) (i : Nat) : Int := (L.getD i (0, 0)).1
/-- The first i shares stand where they may, no two at one place. -/
def ShK (L : List (Int × Nat)) (i : Nat) : Prop := (∀ p, p < i → 0 ≤ atS L p ∧ atS L p ≤ 63) ∧ ∀ p q, q < p → p < i → atS L q ≠ atS L p
theorem ShK.zero (L : List (Int × Nat)) : ShK L 0 := ⟨fun p hp => by omega, fun p q _ hp => by omega⟩
theorem ShK.succ {L : List (Int × Nat)} {i : Nat} (h : ShK L i) (h1 : 0 ≤ atS L i ∧ atS L i ≤ 63) (h2 : ∀ q, q < i → atS L q ≠ atS L i) : ShK L (i + 1) := by
  refine ⟨fun p hp => ?_, fun p q hq hp => ?_⟩
  · rcases Nat.lt_or_ge p i with r | r
    · exact h.1 p r
    · obtain rfl : p = i := by omega
      exact h1
  · rcases Nat.lt_or_ge p i with r | r
    · exact h.2 p q hq r
    · obtain rfl : p = i := by omega
      exact h2 q hq
open Classical in
/-- The error of shares. -/
noncomputable def shE (k : Int) (L : List (Int × Nat)) : Int := if 1 ≤ k ∧ k ≤ 64 then (if ShK L L.length then 0 else 5) else 1
theorem shE_arg {k : Int} {L : List (Int × Nat)} (h : ¬ (1 ≤ k ∧ k ≤ 64)) : shE k L = 1 := by unfold shE; rw [if_neg h]
theorem shE_ok {k : Int} {L : List (Int × Nat)} (h : 1 ≤ k ∧ k ≤ 64) (h2 : ShK L L.length) : shE k L = 0 := by unfold shE; rw [if_pos h, if_pos h2]
theorem shE_form {k : Int} {L : List (Int × Nat)} (h : 1 ≤ k ∧ k ≤ 64) (h2 : ¬ ShK L L.length) : shE k L = 5 := by unfold shE; rw [if_pos h, if_neg h2]
theorem ref_In (n lo hi : Int) (w : World) :
    Calls Try.prog 5 #[.int .i64 n, .int .i64 lo, .int .i64 hi] w fun e w' => e = .returned (.bool (decide (lo ≤ n ∧ n ≤ hi))) ∧ w' = w := by
  by_cases h1 : lo ≤ n
  · by_cases h2 : n ≤ hi
    · rw [decide_eq_true ⟨h1, h2⟩]; exact ref_In_true n lo hi h1 h2 w
    · rw [decide_eq_false (fun h => h2 h.2)]; exact ref_In_high n lo hi h1 (by omega) w
  · rw [decide_eq_false (fun h => h1 h.1)]; exact ref_In_low n lo hi (by omega) w
set_option maxHeartbeats 2000000 in
theorem ref_Shares (w : World) (k : Int) (v : Value) (L : List (Int × Nat)) (h : IsS w v L) :
    Calls Try.prog 10 #[.int .i64 k, v] w fun e w' => e = .returned (.int .i64 (shE k L)) ∧ Below w.heap.size w w' := by
  by_cases hk : 1 ≤ k ∧ k ≤ 64
  · have c1 := ref_In k 1 64
    rw [decide_eq_true hk] at c1
    have hok : Hid (ShK L L.length → shE k L = 0) := fun h2 => shE_ok hk h2
    have hform : Hid (¬ ShK L L.length → shE k L = 5) := fun h2 => shE_form hk h2
    clear hk
    generalize shE k L = er at *
    obtain ⟨a, cap, rfl, hcap, hmax, hc, hr⟩ := h
    have hln : L.length ≤ 9223372036854775807 := by unfold maxLen at hmax; omega
    have hc' : Hid (∀ i, i < L.length → ∃ b off, a = some ⟨b, off, none⟩ ∧ w.cell? ⟨b, off + i * 2, none⟩ = some (.int .i64 (atS L i))) := fun i hi => by
      obtain ⟨b, off, e, c, _⟩ := hc i hi
      exact ⟨b, off, e, c⟩
    have hrg : Hid (∀ i, i < L.length → -9223372036854775808 ≤ atS L i ∧ atS L i ≤ 9223372036854775807) := fun i hi => by
      have := (hr (L.getD i (0, 0)) (by rw [List.getD, List.getElem?_eq_getElem hi]; exact List.getElem_mem hi)).1
      exact this
    clear hc hr hcap hmax
    generalize hn : L.length = n at *
    replace hn : Hid _ := hn
    have c2 := fun z => ref_In z 0 63
    go_enter Try.func10, Try.ntmps10
    go_wp2_with (go_at_call 5; refine Calls.mono (c1 _) ?_; rintro e w' ⟨rfl, hw⟩; rw [hw]; clear hw)
    go_loopw [5] (fun vi wr => ∃ i : Nat, i ≤ n ∧ vi = .int .i64 (i : Int) ∧ Hid (ShK L i) ∧ Below w.heap.size w wr)
      (fun vi _ => n - (intOf vi).toNat)
    case atStart => exact ⟨0, Nat.zero_le _, rfl, ShK.zero L, Below.refl _ _⟩
    case round =>
      obtain ⟨i, hi, rfl, hS, hB⟩ := hrel
      by_cases hlt : i < n
      · obtain ⟨b, off, rfl, hcell0⟩ := hc'.out i hlt
        have hcell := (hB.cell (block_lt hcell0)).trans hcell0
        have hrgi := hrg.out i hlt
        by_cases hin : 0 ≤ atS L i ∧ atS L i ≤ 63
        · have c3 := c2 (atS L i)
          rw [decide_eq_true hin] at c3
          have hx : Hid (0 ≤ atS L i ∧ atS L i ≤ 63) := hin
          clear c2 hcell0 hin
          go_wp2_with (go_at_call 5; refine Calls.mono (c3 _) ?_; rintro e w' ⟨rfl, hw⟩; rw [hw]; clear hw)
          obtain ⟨wo, hwo⟩ : ∃ wo : World, wo = wr := ⟨_, rfl⟩
          rw [← hwo] at hB ⊢
          clear hwo hcell
          go_loopw [6] (fun vj wi => ∃ j : Nat, j ≤ i ∧ vj = .int .i64 (j : Int) ∧ Hid (∀ q, q < j → atS L q ≠ atS L i) ∧ Below w.heap.size w wi)
            (fun vj _ => i - (intOf vj).toNat)
          case atStart => exact ⟨0, Nat.zero_le _, rfl, fun q hq => by omega, hB⟩
          case round =>
            clear hB
            obtain ⟨j, hj, rfl, hD, hB⟩ := hrel
            by_cases hji : j < i
            · obtain ⟨b1, off1, e1, k0⟩ := hc'.out i hlt
              simp only [Option.some.injEq, Addr.mk.injEq, and_true] at e1
              obtain ⟨rfl, rfl⟩ := e1
              obtain ⟨b2, off2, e2, k1⟩ := hc'.out j (by omega)
              simp only [Option.some.injEq, Addr.mk.injEq, and_true] at e2
              obtain ⟨rfl, rfl⟩ := e2
              have q0 := (hB.cell (block_lt k0)).trans k0
              have q1 := (hB.cell (block_lt k1)).trans k1
              have hjr := hrg.out j (by omega)
              have hjn : j < n := by omega
              by_cases he : atS L j = atS L i
              · have hno : er = 5 := hform.out (fun h => h.2 i j hji hlt he)
                subst hno
                rw [he] at q1
                clear k0 k1 hD hS hjr
                generalize atS L i = x at *
                go_wp2
                go_quiet (fail)
                go_wp2
                go_ret
                exact ⟨rfl, below_drewN hB _⟩
              · have hD2 : Hid (∀ q, q < j + 1 → atS L q ≠ atS L i) := fun q hq => by
                  rcases Nat.lt_or_ge q j with r | r
                  · exact hD.out q r
                  · obtain rfl : q = j := by omega
                    exact he
                have hq : (atS L j == atS L i) = false := by rw [beq_eq_false_iff_ne]; exact he
                clear k0 k1 hD hS he
                go_wp2
                go_quiet (fail)
                go_wp2
                go_roundw
                case rel => exact ⟨j + 1, by omega, by go_num, hD2, below_drewN hB _⟩
                case measure => simp only [intOf]; omega
            · have e : i = j := by omega
              subst e
              have hS2 : Hid (ShK L (i + 1)) := hS.out.succ hx.out hD.out
              have hnl : ¬ i < i := Nat.lt_irrefl _
              clear hS hD hx
              go_wp2
              go_roundw
              case rel => exact ⟨i + 1, by omega, by go_num, hS2, hB⟩
              case measure => simp only [intOf]; omega
        · have c3 := c2 (atS L i)
          rw [decide_eq_false hin] at c3
          have hno : er = 5 := hform.out (fun h => hin (h.1 i hlt))
          subst hno
          clear c2 hcell0 hin hS
          go_wp2_with (go_at_call 5; refine Calls.mono (c3 _) ?_; rintro e w' ⟨rfl, hw⟩; rw [hw]; clear hw)
          go_ret
          exact ⟨rfl, hB⟩
      · have e : i = n := by omega
        subst e
        have hno : er = 0 := hok.out hS.out
        subst hno
        have hnl : ¬ i < i := Nat.lt_irrefl _
        clear hS
        go_wp2
        go_ret
        exact ⟨rfl, hB⟩
  · have c1 := ref_In k 1 64
    rw [decide_eq_false hk] at c1
    rw [shE_arg hk]
    obtain ⟨a, cap, rfl, -, -, -, -⟩ := h
    go_enter Try.func10, Try.ntmps10
    go_wp2_with (go_at_call 5; refine Calls.mono (c1 _) ?_; rintro e w' ⟨rfl, hw⟩; rw [hw]; clear hw)
    go_ret
    exact ⟨rfl, Below.refl _ _⟩

end Go.Proofs.Ytjbdpjbcibhflac
