/-
  What PlanText of package goldref answers: the text of phases.
-/
import Derived.Test.YtcaepjmgnoeefabDoorItoaC
import Derived.Test.YtcaepjmgnoeefabDoorRefPhases
import Derived.Shelf.SlSortCmp.QuietGrown
namespace Go.Proofs.YtcaepjmgnoeefabDoor
open Go.RowKit Go.Sort

/-- The text of a task, of the first k tasks of a phase, of the first i phases. -/
def tkx (r : List Int) : List UInt8 := Lib.itoa (r.getD 0 0) ++ [58] ++ Lib.itoa (r.getD 1 0) ++ [45] ++ Lib.itoa (r.getD 2 0)
def lnx (T : List (List Int)) : Nat → List UInt8
  | 0 => []
  | k + 1 => (if 0 < k then lnx T k ++ [32] else lnx T k) ++ tkx (T.getD k [])
def ptx (L : List (List (List Int))) : Nat → List UInt8
  | 0 => []
  | i + 1 => ptx L i ++ lnx (L.getD i []) (L.getD i []).length ++ [10]

set_option maxRecDepth 100000 in
set_option maxHeartbeats 8000000 in
theorem ref_PlanText (w : World) (vl : Value) (L : List (List (List Int))) (hP : IsP 3 w vl L) (ht : Tab w) (hsz : ∀ i k, i < L.length → k ≤ (L.getD i []).length → (ptx L i ++ lnx (L.getD i []) k).length ≤ 1099511627776) :
    Calls Tryd.prog 29 #[vl] w fun e w' => e = .returned (.string (bs (ptx L L.length))) ∧ Below w.heap.size w w' := by
  obtain ⟨al, cl, rfl, hl0, hl1, hph⟩ := hP
  have hsz' : Hid (∀ i k, i < L.length → k ≤ (L.getD i []).length → (ptx L i ++ lnx (L.getD i []) k).length ≤ 1099511627776) := hsz
  have hLl : L.length ≤ 9223372036854775807 := by unfold maxLen at hl1; omega
  have hph' : Hid (∀ i, i < L.length → ∃ b off u, al = some ⟨b, off, none⟩ ∧ w.cell? ⟨b, off + i, none⟩ = some u ∧ IsR 3 w u (L.getD i [])) := hph
  clear hl0 hl1 hph hsz
  go_enter Tryd.func29, Tryd.ntmps29
  go_wp2
  go_loopw [4, 5] (fun vs vi wr => ∃ (i : Nat), i ≤ L.length ∧ vi = .int .i64 (i : Int) ∧ vs = .string (bs (ptx L i)) ∧ Below w.heap.size w wr)
    (fun _ vi _ => L.length - (intOf vi).toNat)
  case atStart => exact ⟨0, Nat.zero_le _, rfl, rfl, Below.refl _ _⟩
  case round =>
    obtain ⟨i, hi, rfl, rfl, hnx⟩ := hrel
    by_cases hlt : i < L.length
    · obtain ⟨bl, ol, ul, rfl, hcu, hR⟩ := hph'.out i hlt
      have hR0 := hR
      obtain ⟨au, cu, rfl, hTl0, hmu, hrow, -⟩ := hR0
      have hTl : (L.getD i []).length ≤ 9223372036854775807 := by unfold maxLen at hmu; omega
      have hszi : Hid (∀ k, k ≤ (L.getD i []).length → (ptx L i ++ lnx (L.getD i []) k).length ≤ 1099511627776) := fun k hk => hsz'.out i k hlt hk
      have hnext : Hid (ptx L (i + 1) = ptx L i ++ lnx (L.getD i []) (L.getD i []).length ++ [10]) := rfl
      clear hTl0 hmu
      obtain ⟨T, hTe⟩ : ∃ T, T = L.getD i [] := ⟨_, rfl⟩
      rw [← hTe] at hcu hR hrow hTl hszi hnext
      clear hTe
      obtain ⟨S, hS⟩ : ∃ S, S = ptx L i := ⟨_, rfl⟩
      rw [← hS] at hszi hnext ⊢
      clear hS
      go_wp2
      obtain ⟨wk, hwk⟩ : ∃ wk : World, wk = wr := ⟨_, rfl⟩
      rw [← hwk] at hnx ⊢
      clear hwk
      go_loopw [4, 6] (fun vs vk wi => ∃ (k : Nat), k ≤ T.length ∧ vk = .int .i64 (k : Int) ∧ vs = .string (bs (S ++ lnx T k)) ∧ Below w.heap.size w wi)
        (fun _ vk _ => T.length - (intOf vk).toNat)
      case atStart => exact ⟨0, Nat.zero_le _, rfl, by rw [lnx, List.append_nil], hnx⟩
      case round =>
        clear hnx
        obtain ⟨k, hk, rfl, rfl, hnx⟩ := hrel
        have hcu1 := (hnx.cell (block_lt hcu)).trans hcu
        by_cases hlt2 : k < T.length
        · obtain ⟨t0, t1, t2, hTi, hb0, hb1, hb2⟩ := row3 hR k hlt2
          obtain ⟨br, or, rfl, hce⟩ := hrow k hlt2
          rw [hTi] at hce
          have q0 := (hnx.cell (block_lt (hce 0 (by decide)))).trans (hce 0 (by decide))
          have q1 := (hnx.cell (block_lt (hce 1 (by decide)))).trans (hce 1 (by decide))
          have q2 := (hnx.cell (block_lt (hce 2 (by decide)))).trans (hce 2 (by decide))
          replace q0 : wr.cell? ⟨br, or + k * 3, none⟩ = some (.int .i64 t0) := q0
          replace q1 : wr.cell? ⟨br, or + k * 3 + 1, none⟩ = some (.int .i64 t1) := q1
          replace q2 : wr.cell? ⟨br, or + k * 3 + 2, none⟩ = some (.int .i64 t2) := q2
          clear hce
          obtain ⟨A, hA⟩ : ∃ A, A = (if 0 < k then lnx T k ++ [32] else lnx T k) := ⟨_, rfl⟩
          have hsum : Hid (S ++ lnx T (k + 1) = S ++ A ++ tkx [t0, t1, t2]) := by
            show _ = _
            rw [hA, lnx, hTi, ← List.append_assoc]
          have hs1 := hszi.out (k + 1) hlt2
          rw [hsum.out] at hs1
          have hL0 : (S ++ A).length ≤ 1099511627776 ∧ (tkx [t0, t1, t2]).length ≤ 1099511627776 := by rw [List.length_append] at hs1; omega
          have hs9 : (S ++ lnx T k).length ≤ 1099511627776 := hszi.out k (by omega)
          have hlen : Hid (Lib.itoa t0 ++ [58] ++ Lib.itoa t1 ++ [45] ++ Lib.itoa t2 = tkx [t0, t1, t2]) := rfl
          have hW1 := below_alloc1 wr (.cells #[.int .i64 t0, .int .i64 t1, .int .i64 t2] 50)
          have hA0 : (wr.alloc (.cells #[.int .i64 t0, .int .i64 t1, .int .i64 t2] 50)).cell? ⟨wr.heap.size, 0, none⟩ = some (.int .i64 t0) := by rw [World.cell?_alloc_at _ _ _ _ rfl]; rfl
          have hA1 : (wr.alloc (.cells #[.int .i64 t0, .int .i64 t1, .int .i64 t2] 50)).cell? ⟨wr.heap.size, 1, none⟩ = some (.int .i64 t1) := by rw [World.cell?_alloc_at _ _ _ _ rfl]; rfl
          have hA2 : (wr.alloc (.cells #[.int .i64 t0, .int .i64 t1, .int .i64 t2] 50)).cell? ⟨wr.heap.size, 2, none⟩ = some (.int .i64 t2) := by rw [World.cell?_alloc_at _ _ _ _ rfl]; rfl
          obtain ⟨I0, hI0⟩ : ∃ I, I = Lib.itoa t0 := ⟨_, rfl⟩
          obtain ⟨I1, hI1⟩ : ∃ I, I = Lib.itoa t1 := ⟨_, rfl⟩
          obtain ⟨I2, hI2⟩ : ∃ I, I = Lib.itoa t2 := ⟨_, rfl⟩
          have c0 := fun W (hT : Tab W) => itoa_gr W t0 hb0.1 hb0.2 hT
          have c1 := fun W (hT : Tab W) => itoa_gr W t1 hb1.1 hb1.2 hT
          have c2 := fun W (hT : Tab W) => itoa_gr W t2 hb2.1 hb2.2 hT
          rw [← hI0] at hlen c0
          rw [← hI1] at hlen c1
          rw [← hI2] at hlen c2
          obtain ⟨Z, hZ⟩ : ∃ Z, Z = tkx [t0, t1, t2] := ⟨_, rfl⟩
          rw [← hZ] at hlen hL0 hs1 hsum
          clear hZ hI0 hI1 hI2
          have k1 : bs I0 ++ ({ data := #[58] } : ByteArray) = bs (I0 ++ [58]) := bs_append _ [58]
          have k2 : bs (I0 ++ [58]) ++ bs I1 = bs (I0 ++ [58] ++ I1) := bs_append _ _
          have k3 : bs (I0 ++ [58] ++ I1) ++ ({ data := #[45] } : ByteArray) = bs (I0 ++ [58] ++ I1 ++ [45]) := bs_append _ [45]
          have k4 : bs (I0 ++ [58] ++ I1 ++ [45]) ++ bs I2 = bs Z := by rw [bs_append, hlen.out]
          have k5 : bs (S ++ A) ++ bs Z = bs (S ++ A ++ Z) := bs_append _ _
          have hZl : Z.length ≤ 1099511627776 := hL0.2
          have hZ2 := congrArg List.length hlen.out
          simp only [List.length_append, List.length_cons, List.length_nil] at hZ2
          have z0 : (bs I0).size ≤ 1099511627776 := by rw [bs_size]; omega
          have z1 : (bs I1).size ≤ 1099511627776 := by rw [bs_size]; omega
          have z2 : (bs I2).size ≤ 1099511627776 := by rw [bs_size]; omega
          have z3 : (bs (I0 ++ [58])).size ≤ 1099511627776 := by rw [bs_size, List.length_append]; simp only [List.length_cons, List.length_nil]; omega
          have z4 : (bs (I0 ++ [58] ++ I1)).size ≤ 1099511627776 := by rw [bs_size, List.length_append, List.length_append]; simp only [List.length_cons, List.length_nil]; omega
          have z5 : (bs (I0 ++ [58] ++ I1 ++ [45])).size ≤ 1099511627776 := by rw [bs_size, List.length_append, List.length_append, List.length_append]; simp only [List.length_cons, List.length_nil]; omega
          have z6 : (bs Z).size ≤ 1099511627776 := by rw [bs_size]; exact hZl
          have z7 : (bs (S ++ A)).size ≤ 1099511627776 := by rw [bs_size]; exact hL0.1
          have z8 : (bs (S ++ lnx T k)).size ≤ 1099511627776 := by rw [bs_size]; exact hs9
          clear hZ2 hZl hlen
          generalize I0 ++ [58] ++ I1 ++ [45] = J3 at *
          generalize I0 ++ [58] ++ I1 = J2 at *
          generalize I0 ++ [58] = J1 at *
          have n1 : (9223372036854775807 < (bs I0).size + 1) = False := eq_false (by omega)
          have n2 : (9223372036854775807 < (bs J1).size + (bs I1).size) = False := eq_false (by omega)
          have n3 : (9223372036854775807 < (bs J2).size + 1) = False := eq_false (by omega)
          have n4 : (9223372036854775807 < (bs J3).size + (bs I2).size) = False := eq_false (by omega)
          have n5 : (9223372036854775807 < (bs (S ++ A)).size + (bs Z).size) = False := eq_false (by omega)
          by_cases hk0 : 0 < k
          · have hd0 : decide ((0 : Int) < (k : Int)) = true := decide_eq_true (by omega)
            rw [if_pos hk0] at hA
            have hcat0 : bs (S ++ lnx T k) ++ ({ data := #[32] } : ByteArray) = bs (S ++ A) := by rw [hA, ← List.append_assoc]; exact bs_append _ [32]
            clear hA
            go_wp2
            generalize wr.alloc (.cells #[.int .i64 t0, .int .i64 t1, .int .i64 t2] 50) = W1 at *
            have hnx1 := hnx.trans (hW1.mono hnx.size)
            have hT1 : Tab W1 := ht.below hnx1
            obtain ⟨gt, hgt⟩ : ∃ gt, gt = wr.heap.size := ⟨_, rfl⟩
            rw [← hgt] at hA0 hA1 hA2 ⊢
            have y0 := cell_grown (block_lt hA0) hA0
            have y1 := cell_grown (block_lt hA1) hA1
            have y2 := cell_grown (block_lt hA2) hA2
            have c0' := fun n os => c0 (grow (W1.drewN n) os) (hT1.grown n os)
            have c1' := fun n os => c1 (grow (W1.drewN n) os) (hT1.grown n os)
            have c2' := fun n os => c2 (grow (W1.drewN n) os) (hT1.grown n os)
            have mixed : Tryd.prog.follows .mixedOrders = true := by kernel_rfl
            clear hgt hW1 hnx hcu1 q0 q1 q2 hs1 hs9 hL0 c0 c1 c2 hA0 hA1 hA2
            go_quiet_grown (first | (go_at_call 62; refine Calls.grown_of (c0' _ _)) | (go_at_call 62; refine Calls.grown_of (c1' _ _)) | (go_at_call 62; refine Calls.grown_of (c2' _ _)))
            have hnx6 := hnx1.trans ((below_grow W1 nq osq).mono hnx1.size)
            replace hnx6 : Below w.heap.size w (grow (W1.drewN (GrownBy.mk nq osq).n) (GrownBy.mk nq osq).os) := hnx6
            have hfin : Hid (bs (S ++ (A ++ Z)) = bs (S ++ lnx T (k + 1))) := by show _ = _; rw [hsum.out, List.append_assoc]
            generalize grow (W1.drewN (GrownBy.mk nq osq).n) (GrownBy.mk nq osq).os = w6 at *
            clear y0 y1 y2 c0' c1' c2' mixed hT1 hnx1 k1 k2 k3 k4 k5 n1 n2 n3 n4 n5 hsum
            go_wp2
            go_roundw
            case rel => exact ⟨k + 1, by omega, by go_num, by rw [hfin.out], hnx6⟩
            case measure => simp only [intOf]; omega
          · have hd0 : decide ((0 : Int) < (k : Int)) = false := decide_eq_false (by omega)
            rw [if_neg hk0] at hA
            rw [← hA]
            clear hA
            go_wp2
            generalize wr.alloc (.cells #[.int .i64 t0, .int .i64 t1, .int .i64 t2] 50) = W1 at *
            have hnx1 := hnx.trans (hW1.mono hnx.size)
            have hT1 : Tab W1 := ht.below hnx1
            obtain ⟨gt, hgt⟩ : ∃ gt, gt = wr.heap.size := ⟨_, rfl⟩
            rw [← hgt] at hA0 hA1 hA2 ⊢
            have y0 := cell_grown (block_lt hA0) hA0
            have y1 := cell_grown (block_lt hA1) hA1
            have y2 := cell_grown (block_lt hA2) hA2
            have c0' := fun n os => c0 (grow (W1.drewN n) os) (hT1.grown n os)
            have c1' := fun n os => c1 (grow (W1.drewN n) os) (hT1.grown n os)
            have c2' := fun n os => c2 (grow (W1.drewN n) os) (hT1.grown n os)
            have mixed : Tryd.prog.follows .mixedOrders = true := by kernel_rfl
            clear hgt hW1 hnx hcu1 q0 q1 q2 hs1 hs9 hL0 c0 c1 c2 hA0 hA1 hA2
            go_quiet_grown (first | (go_at_call 62; refine Calls.grown_of (c0' _ _)) | (go_at_call 62; refine Calls.grown_of (c1' _ _)) | (go_at_call 62; refine Calls.grown_of (c2' _ _)))
            have hnx6 := hnx1.trans ((below_grow W1 nq osq).mono hnx1.size)
            replace hnx6 : Below w.heap.size w (grow (W1.drewN (GrownBy.mk nq osq).n) (GrownBy.mk nq osq).os) := hnx6
            have hfin : Hid (bs (S ++ (A ++ Z)) = bs (S ++ lnx T (k + 1))) := by show _ = _; rw [hsum.out, List.append_assoc]
            generalize grow (W1.drewN (GrownBy.mk nq osq).n) (GrownBy.mk nq osq).os = w6 at *
            clear y0 y1 y2 c0' c1' c2' mixed hT1 hnx1 k1 k2 k3 k4 k5 n1 n2 n3 n4 n5 hsum
            go_wp2
            go_roundw
            case rel => exact ⟨k + 1, by omega, by go_num, by rw [hfin.out], hnx6⟩
            case measure => simp only [intOf]; omega
        · have e : T.length = k := by omega
          have hge : T.length ≤ k := by omega
          have hs9 : (S ++ lnx T k).length ≤ 1099511627776 := hszi.out k (by omega)
          have z8 : (bs (S ++ lnx T k)).size ≤ 1099511627776 := by rw [bs_size]; exact hs9
          have n8 : (9223372036854775807 < (bs (S ++ lnx T k)).size + 1) = False := eq_false (by omega)
          have hcat : bs (S ++ lnx T k) ++ ({ data := #[10] } : ByteArray) = bs (ptx L (i + 1)) := by
            rw [hnext.out, e]
            exact bs_append _ [10]
          clear hs9 e
          go_wp2
          go_roundw
          case rel => exact ⟨i + 1, by omega, by go_num, rfl, hnx⟩
          case measure => simp only [intOf]; omega
    · have e : L.length = i := by omega
      have hge : L.length ≤ i := by omega
      rw [← e]
      clear hph' hsz'
      have hlt' : ¬ L.length < L.length := by omega
      go_wp2
      go_ret
      exact ⟨rfl, hnx⟩

end Go.Proofs.YtcaepjmgnoeefabDoor
