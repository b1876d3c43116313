/-
  Texts that stood one behind the other, as one.
-/
import Derived.Test.YtmggccepmicjhacGreatDoorRefPcsAll
import Derived.Test.YtmggccepmicjhacGreatDoorRefGreatAll
import Derived.Test.YtmggccepmicjhacGreatDoorRefGreatAll
import Derived.Laws.CopyOwn
/-! What number, numbers, wrong, said, kind and small of package goldref answer. -/
namespace Go.Proofs.YtmggccepmicjhacGreatDoor
open Go.RowKit
set_option maxRecDepth 100000

/-- A number, or 10^9. -/
def smN (n : Nat) : Nat := if 1000000000 < n then 1000000000 else n
theorem smN_le (n : Nat) : smN n ≤ 1000000000 := by unfold smN; split <;> omega
theorem ref_small (n : Nat) (hn : (n : Int) < 18446744073709551616) (w : World) :
    Calls Tryz.prog 72 #[.int .u64 (n : Int)] w fun e w' => e = .returned (.int .i64 ((smN n : Nat) : Int)) ∧ w' = w := by
  unfold smN
  by_cases h : 1000000000 < n
  · rw [if_pos h, show ((1000000000 : Nat) : Int) = 1000000000 from rfl]
    have h2 : (1000000000 : Int) < (n : Int) := by omega
    clear hn h
    go_enter Tryz.func72, Tryz.ntmps72
    go_wp2
    go_ret
    exact ⟨rfl, rfl⟩
  · rw [if_neg h]
    have h2 : (n : Int) ≤ 1000000000 := by omega
    clear hn h
    go_enter Tryz.func72, Tryz.ntmps72
    go_wp2
    go_ret
    exact ⟨rfl, rfl⟩
theorem ref_wrong (n : Int) (h0 : 0 ≤ n) (h1 : n ≤ 100) (w : World) (ht : Tab w) :
    Calls Tryz.prog 26 #[.int .i64 n] w fun e w' => e = .returned (.string (bs (wrg n))) ∧ Below w.heap.size w w' := by
  have c := itoa_bs w n (by omega) (by omega) ht
  have hl := Lib.itoa_length_le n (by omega) (by omega)
  have hs : ({ data := #[101, 114, 114, 111, 114, 32] } : ByteArray) ++ bs (Lib.itoa n) = bs (wrg n) := bs_append [101, 114, 114, 111, 114, 32] _
  have hz : (bs (Lib.itoa n)).size ≤ 1000 := by rw [bs_size]; omega
  clear hl
  generalize wrg n = r at *
  generalize Lib.itoa n = l at *
  go_enter Tryz.func26, Tryz.ntmps26
  go_wp2_with (go_at_call 17; refine Calls.mono c ?_; rintro e w1 ⟨rfl, hB⟩)
  go_ret
  exact ⟨rfl, hB⟩
theorem nv_wrap (n x : Nat) : IntKind.u64.wrap (IntKind.u64.wrap (IntKind.u64.wrap ((n : Int) * 10) + IntKind.u64.wrap (x : Int)) - 48) = (((n * 10 + x + 18446744073709551568) % 18446744073709551616 : Nat) : Int) := by
  rw [IntKind.wrap_u64, IntKind.wrap_u64, IntKind.wrap_u64, IntKind.wrap_u64]
  omega
set_option maxHeartbeats 2000000 in
theorem ref_number (w : World) (s : List UInt8) (ht : Tab w) (h9 : s.length ≤ 1000000000) :
    Calls Tryz.prog 60 #[.string (bs s)] w fun e w' => e = .returned (.tuple #[.int .u64 ((nv s : Nat) : Int), .bool (numB s)]) ∧ Below w.heap.size w w' := by
  have hsz : (bs s).size = s.length := bs_size s
  have cF := fmtu (nv s) (nv_lt s) w ht
  have hend : Hid (∀ i, ¬ (i < s.length ∧ i < 21) → i ≤ s.length → i ≤ 21 → (s.take i).foldl nvS 0 = nv s) := fun i h hi h21 => by
    unfold nv
    rcases Nat.lt_or_ge i 21 with q | q
    · have e : i = s.length := by omega
      rw [e, List.take_length, List.take_of_length_le (by omega)]
    · rw [show i = 21 by omega]
  have hby : Hid (∀ i, (h : i < s.length) → ∀ hs : i < (bs s).size, ((bs s)[i]'hs).toNat = (s[i]'h).toNat) := fun i h hs => bs_get s i hs h
  have hstep : Hid (∀ i, (h : i < s.length) → IntKind.u64.wrap (IntKind.u64.wrap (IntKind.u64.wrap ((((s.take i).foldl nvS 0 : Nat) : Int) * 10) + IntKind.u64.wrap (((s[i]'h).toNat : Nat) : Int)) - 48) = (((s.take (i + 1)).foldl nvS 0 : Nat) : Int)) := fun i h => by
    rw [nvK_succ s i h, nv_wrap]
    rfl
  have hlt64 : Hid (∀ i, (((s.take i).foldl nvS 0 : Nat) : Int) < 18446744073709551616) := fun i => by have := nvK_lt s i; omega
  have hd : Hid (numB s = decide (Lib.decDigits (nv s) = s)) := rfl
  generalize numB s = B at *
  obtain ⟨N, hN⟩ : ∃ N, N = nv s := ⟨_, rfl⟩
  rw [← hN] at cF hend hd ⊢
  clear hN
  generalize hS : bs s = S at *
  replace hS : Hid _ := hS
  go_enter Tryz.func60, Tryz.ntmps60
  go_wp2
  go_loopw [4, 5] (fun vn vi wr => ∃ i : Nat, i ≤ s.length ∧ i ≤ 21 ∧ vi = .int .i64 (i : Int) ∧ vn = .int .u64 (((s.take i).foldl nvS 0 : Nat) : Int) ∧ wr = w)
    (fun _ vi _ => s.length - (intOf vi).toNat)
  case atStart => exact ⟨0, Nat.zero_le _, by omega, rfl, rfl, rfl⟩
  case round =>
    obtain ⟨i, hi, hi2, rfl, rfl, hwr⟩ := hrel
    rw [hwr]
    clear hwr
    by_cases hlt : i < s.length
    · by_cases h21 : i < 21
      · have h1 := hby.out i hlt
        have h2 := hstep.out i hlt
        clear hend
        generalize (s[i]'hlt).toNat = x at *
        obtain ⟨m2, hm2⟩ : ∃ m2, m2 = (s.take (i + 1)).foldl nvS 0 := ⟨_, rfl⟩
        rw [← hm2] at h2
        replace hm2 : Hid _ := hm2
        generalize (s.take i).foldl nvS 0 = m at *
        clear hby hstep cF hlt64
        have h21i : (i : Int) < 21 := by omega
        go_wp2
        exact ⟨⟨i + 1, by omega, by omega, by go_num, by rw [hm2.out], trivial⟩, by simp only [intOf]; omega⟩
      · have h21i : ¬ (i : Int) < 21 := by omega
        have e := hend.out i (by omega) hi hi2
        rw [e]
        clear hend hby hstep hlt64 e
        have hdd := hd.out
        by_cases hq : Lib.decDigits N = s
        · rw [decide_eq_true hq] at hdd
          subst hdd
          have hqq : Hid (bsX (Lib.decDigits N) = S) := by show _ = _; rw [hq, ← hS.out]; rfl
          rw [hqq.out] at cF
          clear hq hd
          go_wp2_with (go_at_call 61; refine Calls.mono cF ?_; rintro e w1 ⟨rfl, hB⟩)
          go_ret2
          exact ⟨by simp, hB⟩
        · rw [decide_eq_false hq] at hdd
          subst hdd
          have hqq : ¬ (bsX (Lib.decDigits N)).toList = S.toList := fun h => hq (by
            rw [← hS.out, ByteArray.toList_eq, ByteArray.toList_eq] at h
            exact h)
          clear hq hd
          go_wp2_with (go_at_call 61; refine Calls.mono cF ?_; rintro e w1 ⟨rfl, hB⟩)
          go_ret2
          exact ⟨by simp [hqq], hB⟩
    · have hge : ¬ i < s.length := hlt
      have e := hend.out i (by omega) hi hi2
      rw [e]
      clear hend hby hstep hlt64 e
      have hdd := hd.out
      by_cases hq : Lib.decDigits N = s
      · rw [decide_eq_true hq] at hdd
        subst hdd
        have hqq : Hid (bsX (Lib.decDigits N) = S) := by show _ = _; rw [hq, ← hS.out]; rfl
        rw [hqq.out] at cF
        clear hq hd
        go_wp2_with (go_at_call 61; refine Calls.mono cF ?_; rintro e w1 ⟨rfl, hB⟩)
        go_ret2
        exact ⟨by simp, hB⟩
      · rw [decide_eq_false hq] at hdd
        subst hdd
        have hqq : ¬ (bsX (Lib.decDigits N)).toList = S.toList := fun h => hq (by
          rw [← hS.out, ByteArray.toList_eq, ByteArray.toList_eq] at h
          exact h)
        clear hq hd
        go_wp2_with (go_at_call 61; refine Calls.mono cF ?_; rintro e w1 ⟨rfl, hB⟩)
        go_ret2
        exact ⟨by simp [hqq], hB⟩
/-- One number more. -/
theorem wp_appO {ops : Array Oper} {rest : List Oper} {o : Oper} {a : Act} {Q : Exit → Act → World → Prop} {w w0 : World} (hgd : o.guard = none) (s x : Operand)
    (ho : o.op = .call { callee := .builtin .append, args := #[s, x], argTypes := #[51, 51] }) (v : Value) (L : List Nat) (z : Nat)
    (hs : a.eval s = v) (hown : Ow w0.heap.size w v L) (hx : a.eval x = .slice (some ⟨w.heap.size, 0, none⟩) 1 1)
    (hn : L.length ≤ 1000000000) (hnx : Below w0.heap.size w0 w)
    (h : ∀ v' w', Ow w0.heap.size w' v' (L ++ [z]) → Below w0.heap.size w0 w' → wpList Tryz.prog ops Q rest (a.put o.dst v') w') :
    wpList Tryz.prog ops Q (o :: rest) a (w.alloc (.cells #[.int .u64 (z : Int)] 78)) := by
  refine wp_append1 (w0 := w0) hgd s x ho v L.length (cellsU L) z hs hown hx hn hnx fun v' w' h1 h2 => h v' w' ?_ h2
  unfold Ow
  rw [List.length_append, cellsU_append]
  exact h1
theorem numsL_snoc (L : List (List UInt8)) (i : Nat) (h : i < L.length) : numsL (L.take (i + 1)) = numsL (L.take i) ++ [nv (L.getD i [])] := by
  have e : L.getD i [] = L[i] := by simp [List.getD, h]
  unfold numsL
  rw [List.take_succ_eq_append_getElem h, List.map_append, e]
  rfl
theorem numsB_step (L : List (List UInt8)) (i : Nat) (h : i < L.length) : numsB (L.take (i + 1)) = (numsB (L.take i) && numB (L.getD i [])) := by
  have e : L.getD i [] = L[i] := by simp [List.getD, h]
  unfold numsB
  rw [List.take_succ_eq_append_getElem h, List.all_append, e]
  simp
theorem numsB_bad {L : List (List UInt8)} {i : Nat} (h : i < L.length) (hb : numB (L.getD i []) = false) : numsB L = false := by
  have e : L.getD i [] = L[i] := by simp [List.getD, h]
  unfold numsB
  rw [List.all_eq_false]
  exact ⟨L[i], List.getElem_mem h, by rw [← e, hb]; decide⟩
theorem numsL_rng (L : List (List UInt8)) : ∀ x ∈ numsL L, (x : Int) < 18446744073709551616 := fun x hx => by
  obtain ⟨l, _, rfl⟩ := List.mem_map.mp hx
  have := nv_lt l
  omega
/-- What numbers answers. -/
def numA (L : List (List UInt8)) : List Nat := if numsB L = true then numsL L else []
theorem numA_rng (L : List (List UInt8)) : ∀ x ∈ numA L, (x : Int) < 18446744073709551616 := fun x hx => by
  unfold numA at hx
  split at hx
  · exact numsL_rng L x hx
  · cases hx
set_option maxHeartbeats 2000000 in
theorem ref_numbers (w : World) (v : Value) (L : List (List UInt8)) (h : IsB w v L) (hs : ∀ l ∈ L, l.length ≤ 1000000000) (h9 : L.length ≤ 1000000000) (ht : Tab w) :
    Calls Tryz.prog 27 #[v] w fun e w' => ∃ u, e = .returned (.tuple #[u, .bool (numsB L)]) ∧ IsU w' u (numA L) ∧ Below w.heap.size w w' := by
  obtain ⟨a, cap, rfl, -, -, hc0⟩ := h
  have hc : Hid (∀ i, i < L.length → ∃ b off, a = some ⟨b, off, none⟩ ∧ w.cell? ⟨b, off + i, none⟩ = some (.string (bs (L.getD i [])))) := hc0
  have hln : Hid (∀ i, i < L.length → (L.getD i []).length ≤ 1000000000) := fun i hi => hs _ (by
    rw [List.getD, List.getElem?_eq_getElem hi]
    exact List.getElem_mem hi)
  have hN0 : Ow w.heap.size w (.slice none 0 0) (numsL (L.take 0)) := Ow.nil _ _
  have hgood : Hid (numsB L = true → numA L = numsL L) := fun h => by unfold numA; rw [if_pos h]
  have hbad : Hid (numsB L = false → numA L = []) := fun h => by unfold numA; rw [if_neg (by rw [h]; decide)]
  have hwrong : Hid (∀ i, i < L.length → numB (L.getD i []) = false → numsB L = false) := fun i h hb => numsB_bad h hb
  have hright : Hid (numsB (L.take L.length) = true → numsB L = true) := fun h => by rw [List.take_length] at h; exact h
  have hrg := numsL_rng L
  have hrg' : Hid (∀ x ∈ numsL L, (x : Int) < 18446744073709551616) := hrg
  clear hc0 hs hrg
  generalize numsB L = B at *
  generalize numA L = A at *
  have hll : L.length ≤ 9223372036854775807 := by omega
  go_enter Tryz.func27, Tryz.ntmps27
  go_wp2
  go_loopw [4, 5] (fun u vi wr => ∃ i : Nat, i ≤ L.length ∧ vi = .int .i64 (i : Int) ∧ Ow w.heap.size wr u (numsL (L.take i)) ∧ Hid (numsB (L.take i) = true) ∧ Below w.heap.size w wr)
    (fun _ vi _ => L.length - (intOf vi).toNat)
  case atStart => exact ⟨0, Nat.zero_le _, rfl, hN0, rfl, Below.refl _ _⟩
  case round =>
    clear hN0
    obtain ⟨i, hi, rfl, hO, hT, hB⟩ := hrel
    by_cases hlt : i < L.length
    · obtain ⟨b, off, rfl, hcell0⟩ := hc.out i hlt
      have hcell := (hB.cell (block_lt hcell0)).trans hcell0
      have cN := ref_number wr (L.getD i []) (ht.below hB) (hln.out i hlt)
      have hst := numsL_snoc L i hlt
      have hstB := numsB_step L i hlt
      rw [hT.out, Bool.true_and] at hstB
      have hlen : (numsL (L.take i)).length ≤ 1000000000 := by unfold numsL; rw [List.length_map, List.length_take]; omega
      cases hq : numB (L.getD i []) with
      | false =>
        have hb := hwrong.out i hlt hq
        subst hb
        have hA := hbad.out rfl
        rw [hq] at cN
        clear hst hstB hcell0 hgood hbad hwrong hright hq hlen hO
        generalize nv (L.getD i []) = m at *
        generalize L.getD i [] = l at *
        go_wp2_with (go_at_call 60; refine Calls.mono cN ?_; rintro e w1 ⟨rfl, hb⟩; replace hB := hB.trans (hb.mono hB.size); clear hb cN)
        go_ret2
        exact ⟨_, rfl, by rw [hA]; exact IsU.nil _, hB⟩
      | true =>
        rw [hq] at cN hstB
        have hstB' : Hid (numsB (L.take (i + 1)) = true) := hstB
        have hnew : Hid (∀ W u, Ow w.heap.size W u (numsL (L.take i) ++ [nv (L.getD i [])]) → Ow w.heap.size W u (numsL (L.take (i + 1)))) := fun W u h => by
          rw [hst]
          exact h
        clear hst hstB hcell0 hgood hbad hwrong hright hq
        generalize nv (L.getD i []) = m at *
        generalize L.getD i [] = l at *
        go_wp2_with (first
          | (go_at_call 60; refine Calls.mono cN ?_; rintro e w1 ⟨rfl, hb⟩; replace hO := hO.below hb; replace hB := hB.trans (hb.mono hB.size); clear hb cN hcell)
          | (at_builtin; refine wp_appO rfl _ _ rfl _ _ m rfl hO rfl hlen hB ?_; intro v1 w2 hO1 hB1; replace hO1 := hnew.out _ _ hO1; clear hO hB hnew))
        go_roundw
        case rel => exact ⟨i + 1, by omega, by go_num, hO1, hstB', hB1⟩
        case measure => simp only [intOf]; omega
    · have e : i = L.length := by omega
      subst e
      have hB1 := hright.out hT.out
      subst hB1
      have hA := hgood.out rfl
      rw [List.take_length] at hO
      have hU := hO.isU hrg'.out
      have hnl : ¬ L.length < L.length := Nat.lt_irrefl _
      clear hgood hbad hwrong hright hO hT
      go_wp2
      go_ret2
      exact ⟨_, rfl, by rw [hA]; exact hU, hB⟩

end Go.Proofs.YtmggccepmicjhacGreatDoor

/-! What said of package goldref answers: numbers told with one blank between. -/
namespace Go.Proofs.YtmggccepmicjhacGreatDoor
open Go.RowKit
set_option maxRecDepth 100000

theorem fmtu_bs (u : Nat) (hu64 : u < 18446744073709551616) (w : World) (ht : Tab w) :
    Calls Tryz.prog 61 #[.int .u64 u, .int .i64 10] w fun e w' => e = .returned (.string (bs (Lib.decDigits u))) ∧ Below w.heap.size w w' := fmtu u hu64 w ht
theorem jnK_succ (l : List Nat) (k : Nat) : jnK l (k + 1) = (if 0 < k then jnK l k ++ [32] else jnK l k) ++ Lib.decDigits (l.getD k 0) := rfl
set_option maxHeartbeats 2000000 in
theorem ref_said (w : World) (v : Value) (l : List Nat) (h : IsU w v l) (h9 : l.length ≤ 1000000) (ht : Tab w) :
    Calls Tryz.prog 28 #[v] w fun e w' => e = .returned (.string (bs (sayN l))) ∧ Below w.heap.size w w' := by
  obtain ⟨a, cap, rfl, -, -, hc0, hr⟩ := h
  have hc : Hid (∀ i, i < l.length → ∃ b off, a = some ⟨b, off, none⟩ ∧ w.cell? ⟨b, off + i, none⟩ = some (.int .u64 ((l.getD i 0 : Nat) : Int))) := hc0
  have hrg : Hid (∀ i, l.getD i 0 < 18446744073709551616) := fun i => by have := range_getD hr i; omega
  have hjl : Hid (∀ k, k ≤ l.length → (jnK l k).length ≤ 21000000) := fun k hk => by
    have := jnK_le l (fun x hx => by have := hr x hx; omega) k hk
    omega
  have hdl : Hid (∀ i, (Lib.decDigits (l.getD i 0)).length ≤ 20) := fun i => dec_le _ (hrg.out i)
  have hs0 : Hid (l.length = 0 → sayN l = [110, 111, 110, 101]) := fun h => by unfold sayN; rw [if_pos h]
  have hs1 : Hid (l.length ≠ 0 → sayN l = jnK l l.length) := fun h => by unfold sayN; rw [if_neg h]
  have hsu : Hid (∀ k, jnK l (k + 1) = (if 0 < k then jnK l k ++ [32] else jnK l k) ++ Lib.decDigits (l.getD k 0)) := jnK_succ l
  clear hc0 hr
  generalize sayN l = R at *
  generalize hn : l.length = n at *
  replace hn : Hid _ := hn
  by_cases hz : n = 0
  · have hR := hs0.out hz
    have hz1 : ((n : Int) == 0) = true := by subst hz; rfl
    subst hR
    clear hz hs0 hs1
    go_enter Tryz.func28, Tryz.ntmps28
    go_wp2
    go_ret
    exact ⟨rfl, Below.refl _ _⟩
  · have hR := hs1.out hz
    have hz1 : ((n : Int) == 0) = false := by rw [beq_eq_false_iff_ne]; omega
    have hR' : Hid (R = jnK l n) := hR
    have hll : n ≤ 9223372036854775807 := by omega
    clear hz hs0 hs1 hR
    go_enter Tryz.func28, Tryz.ntmps28
    go_wp2
    go_loopw [3, 4] (fun vs vi wr => ∃ i : Nat, i ≤ n ∧ vi = .int .i64 (i : Int) ∧ vs = .string (bs (jnK l i)) ∧ Below w.heap.size w wr)
      (fun _ vi _ => n - (intOf vi).toNat)
    case atStart => exact ⟨0, Nat.zero_le _, rfl, rfl, Below.refl _ _⟩
    case round =>
      obtain ⟨i, hi, rfl, rfl, hB⟩ := hrel
      by_cases hlt : i < n
      · obtain ⟨b, off, rfl, hcell0⟩ := hc.out i hlt
        have hcell := (hB.cell (block_lt hcell0)).trans hcell0
        have cF := fmtu_bs (l.getD i 0) (hrg.out i) wr (ht.below hB)
        have hJ := hjl.out i hi
        have hD := hdl.out i
        have hN := hsu.out i
        by_cases h0 : 0 < i
        · rw [if_pos h0] at hN
          have e1 : bs (jnK l i) ++ ({ data := #[32] } : ByteArray) = bs (jnK l i ++ [32]) := bs_append _ [32]
          have e2 : bs (jnK l i ++ [32]) ++ bs (Lib.decDigits (l.getD i 0)) = bs (jnK l (i + 1)) := by rw [bs_append, hN]
          have z1 : (bs (jnK l i)).size ≤ 21000000 := by rw [bs_size]; exact hJ
          have z2 : (bs (jnK l i ++ [32])).size ≤ 21000001 := by rw [bs_size]; simp; omega
          have z3 : (bs (Lib.decDigits (l.getD i 0))).size ≤ 20 := by rw [bs_size]; exact hD
          clear hN hJ hD hcell0
          generalize hx1 : jnK l (i + 1) = j2 at *
          replace hx1 : Hid _ := hx1
          generalize jnK l i ++ [32] = j1 at *
          generalize jnK l i = j0 at *
          generalize Lib.decDigits (l.getD i 0) = d at *
          generalize l.getD i 0 = m at *
          go_wp2_with (go_at_call 61; refine Calls.mono cF ?_; rintro e w1 ⟨rfl, hb⟩; replace hB := hB.trans (hb.mono hB.size); clear hb cF hcell)
          go_roundw
          case rel => exact ⟨i + 1, by omega, by go_num, by rw [hx1.out], hB⟩
          case measure => simp only [intOf]; omega
        · rw [if_neg h0] at hN
          have e2 : bs (jnK l i) ++ bs (Lib.decDigits (l.getD i 0)) = bs (jnK l (i + 1)) := by rw [bs_append, hN]
          have z1 : (bs (jnK l i)).size ≤ 21000000 := by rw [bs_size]; exact hJ
          have z3 : (bs (Lib.decDigits (l.getD i 0))).size ≤ 20 := by rw [bs_size]; exact hD
          clear hN hJ hD hcell0
          generalize hx1 : jnK l (i + 1) = j2 at *
          replace hx1 : Hid _ := hx1
          generalize jnK l i = j0 at *
          generalize Lib.decDigits (l.getD i 0) = d at *
          generalize l.getD i 0 = m at *
          go_wp2_with (go_at_call 61; refine Calls.mono cF ?_; rintro e w1 ⟨rfl, hb⟩; replace hB := hB.trans (hb.mono hB.size); clear hb cF hcell)
          go_roundw
          case rel => exact ⟨i + 1, by omega, by go_num, by rw [hx1.out], hB⟩
          case measure => simp only [intOf]; omega
      · have e : i = n := by omega
        subst e
        have hnl : ¬ i < i := Nat.lt_irrefl _
        go_wp2
        go_ret
        exact ⟨by rw [hR'.out]; rfl, hB⟩

end Go.Proofs.YtmggccepmicjhacGreatDoor

/-! What strings.HasPrefix answers of a text and what it begins with. -/
namespace Go.Proofs.YtmggccepmicjhacGreatDoor
open Go.RowKit
set_option maxRecDepth 100000

theorem bs_front (a b : List UInt8) : (bs (a ++ b)).extract 0 a.length = bs a := by
  have e : ((bs (a ++ b)).extract 0 a.length).data = (a ++ b).toArray.extract 0 a.length := ByteArray.data_extract
  have e2 : ((bs (a ++ b)).extract 0 a.length).data.toList = a := by
    rw [e]
    simp [List.extract]
  rw [bs_toList ((bs (a ++ b)).extract 0 a.length), e2]
theorem has_prefix_in (w : World) (a b : List UInt8) :
    Calls Tryz.prog 39 #[.string (bs (a ++ b)), .string (bs a)] w fun e w' => e = .returned (.bool true) ∧ w' = w := by
  have h1 : (bs (a ++ b)).size = a.length + b.length := by rw [bs_size, List.length_append]
  have h2 : (bs a).size = a.length := bs_size a
  have h3 := bs_front a b
  have hle : (a.length : Int) ≤ ((a.length + b.length : Nat) : Int) := by omega
  have hle2 : a.length ≤ a.length + b.length := by omega
  generalize a.length + b.length = n at *
  generalize a.length = m at *
  generalize bs (a ++ b) = S at *
  generalize bs a = T at *
  go_enter Tryz.func39, Tryz.ntmps39
  go_wp2
  go_ret
  exact ⟨by simp, rfl⟩
theorem has_prefix (w : World) (a b : List UInt8) :
    Calls Tryz.prog 21 #[.string (bs (a ++ b)), .string (bs a)] w fun e w' => e = .returned (.bool true) ∧ w' = w := by
  have c := has_prefix_in w a b
  generalize bs (a ++ b) = S at *
  generalize bs a = T at *
  go_enter Tryz.func21, Tryz.ntmps21
  go_wp2_with (go_at_call 39; refine Calls.mono c ?_; rintro e w' ⟨rfl, hw⟩; rw [hw]; clear hw)
  go_ret
  exact ⟨rfl, rfl⟩

end Go.Proofs.YtmggccepmicjhacGreatDoor

/-! A slice of so many numbers is made; numbers are copied into it, or stored: what is owned behind it; nothing that was there is written. -/
namespace Go.Proofs.YtmggccepmicjhacGreatDoor
open Go.RowKit
set_option maxRecDepth 100000

theorem made_u64 (n : Nat) : (madeCells (Value.int .u64 0).cells (n * 1)).toList = cellsU (List.replicate n 0) := by
  rw [show (Value.int .u64 0).cells = #[Value.int .u64 0] from rfl, Nat.mul_one, toList_madeCells_one]
  unfold cellsU
  rw [List.map_replicate]; rfl

theorem wp_make {ops : Array Oper} {rest : List Oper} {o : Oper} {a : Act} {Q : Exit → Act → World → Prop} {w w0 : World} (hgd : o.guard = none) (l c : Operand) (ho : o.op = Op.makeSlice 51 l c) (n : Nat)
    (hl : a.eval l = .int .i64 (n : Int)) (hc : a.eval c = .int .i64 (n : Int)) (hn : n ≤ 1000000000) (hnx : Below w0.heap.size w0 w)
    (h : ∀ w', w'.ownsRow w0.heap.size 78 1 (.slice (some ⟨w.heap.size, 0, none⟩) n n) n (cellsU (List.replicate n 0)) → Below w.heap.size w w' → wpList Tryz.prog ops Q rest (a.put o.dst (.slice (some ⟨w.heap.size, 0, none⟩) n n)) w') :
    wpList Tryz.prog ops Q (o :: rest) a w := by
  obtain ⟨i0, hi, hz0, hz1, hz2⟩ := info_parts info_u64
  refine wpList_make_full w hgd l c 51 ho w0.heap.size 78 i0 (.int .u64 0) 1 Tryz.underlying51 hi hz0 hz1 .i64 .i64 n n n hl hc rfl rfl (by rw [hz2]; omega) (by unfold maxLen; omega) hnx.size ?_
  intro w' hown hgrow
  rw [made_u64] at hown
  exact h w' hown ((Below.refl _ _).grown hgrow (Nat.le_refl _) (fun k hk => by cases hk))

theorem cellsU_set (xs : List Nat) (j v : Nat) : (cellsU xs).set j (.int .u64 (v : Int)) = cellsU (xs.set j v) := by
  unfold cellsU
  rw [List.map_set]

/-- The first numbers of a list, and noughts behind them: n of them. -/
def szd (xs : List Nat) (n : Nat) : List Nat := xs.take n ++ List.replicate (n - xs.length) 0
theorem szd_length (xs : List Nat) (n : Nat) : (szd xs n).length = n := by simp [szd]; omega

theorem wp_copy {ops : Array Oper} {rest : List Oper} {o : Oper} {a : Act} {Q : Exit → Act → World → Prop} {w w0 : World} (hgd : o.guard = none) (d s : Operand)
    (ho : o.op = .call { callee := .builtin .copy, args := #[d, s], argTypes := #[51, 51] }) (g n : Nat) (v : Value) (xs : List Nat)
    (hd : a.eval d = .slice (some ⟨g, 0, none⟩) n n) (hs : a.eval s = v) (hU : IsU w v xs) (hown : w.ownsRow w0.heap.size 78 1 (.slice (some ⟨g, 0, none⟩) n n) n (cellsU (List.replicate n 0))) (hnx : Below w0.heap.size w0 w)
    (h : ∀ w' z, w'.ownsRow w0.heap.size 78 1 (.slice (some ⟨g, 0, none⟩) n n) n (cellsU (szd xs n)) → Below w0.heap.size w0 w' → wpList Tryz.prog ops Q rest (a.put o.dst (goInt z)) w') :
    wpList Tryz.prog ops Q (o :: rest) a w := by
  obtain ⟨p, cap, rfl, hcap, hmax, hc, hr⟩ := hU
  rcases hown.2 with ⟨hv, _⟩ | ⟨g', cap', cur, hv, hg, hh, h1, h2, h3, h4⟩
  · cases hv
  · simp only [Value.slice.injEq, Option.some.injEq, Addr.mk.injEq, and_true, true_and] at hv
    obtain ⟨rfl, rfl⟩ := hv
    have hcur : cur.toList = cellsU (List.replicate n 0) := by rw [← h4, Nat.mul_one, List.take_of_length_le (by simp [h3])]
    have hcur2 : cur = (cellsU (List.replicate n 0)).toArray := by rw [← hcur]
    rw [hcur2] at hh
    have hlen : (cellsU (xs.take n)).length = Nat.min xs.length n := by rw [cellsU_length, List.length_take, Nat.min_comm]
    refine wpList_copy_splice hgd d s 51 51 ho 78 Tryz.underlying51 (by kernel_rfl) _ _ _ _ _ _ hd hs g 0 (cellsU (List.replicate n 0)) 78 hh (cellsU (xs.take n)) hlen ?_ ?_ ?_ w0.heap.size w0 hnx hg ?_
    · intro hp
      have hpos : 0 < xs.length := by
        rw [cellsU_length, List.length_take] at hp; omega
      obtain ⟨b, off, rfl, _⟩ := hc 0 hpos
      refine ⟨rfl, ⟨b, off, none⟩, rfl, fun j u hj => ?_⟩
      have hjl : j < (xs.take n).length := by
        rcases Nat.lt_or_ge j (xs.take n).length with h5 | h5
        · exact h5
        · rw [List.getElem?_eq_none (by rw [cellsU_length]; exact h5)] at hj; cases hj
      rw [cellsU_get _ j hjl] at hj
      rw [List.length_take] at hjl
      obtain ⟨b', off', e, hcell⟩ := hc j (by omega)
      simp only [Option.some.injEq, Addr.mk.injEq, and_true] at e
      obtain ⟨rfl, rfl⟩ := e
      have e2 : (xs.take n).getD j 0 = xs.getD j 0 := by simp [List.getD, List.getElem?_take_of_lt (show j < n by omega)]
      rw [e2] at hj
      have e3 : (Addr.mk b off none).add j = ⟨b, off + j, none⟩ := Go.WideShapes.add_plain b off j
      rw [e3, hcell, ← hj]
    · rw [hlen, cellsU_length, List.length_replicate, Nat.zero_add]; exact Nat.min_le_right _ _
    · intro u hu
      obtain ⟨y, _, rfl⟩ := List.mem_map.mp hu
      rfl
    · intro w' hrow hb
      have hsp : splice (cellsU (List.replicate n 0)) 0 (cellsU (xs.take n)) = cellsU (szd xs n) := by
        unfold splice szd
        rw [List.take_zero, List.nil_append, Nat.zero_add, cellsU_append]
        congr 1
        unfold cellsU
        rw [← List.map_drop]
        congr 1
        simp
        omega
      have hrow' := hrow.out
      rw [hsp] at hrow'
      refine h w' _ ⟨by rw [cellsU_length, szd_length]; omega, Or.inr ⟨g, n, _, rfl, hg, hrow', Nat.le_refl _, h2, ?_, ?_⟩⟩ hb
      · simp [cellsU_length, szd_length]
      · rw [List.take_of_length_le (by rw [cellsU_length, szd_length]; omega)]

end Go.Proofs.YtmggccepmicjhacGreatDoor
