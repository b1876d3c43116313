/-
  What strconv.FormatUint answers, to base 10: the digits of a number.
-/
import Derived.Test.YtndmhceampggmacDoorTabD
import Derived.Test.YtndmhceampggmacDoorFmtu
import Derived.Test.YtndmhceampggmacDoorBigL
import Derived.Test.YtndmhceampggmacDoorRefGreat
import Derived.Lib.Walk
import Derived.Lib.ItoaMem
import Derived.Lib.AppendIntMem
import Derived.WalkKit
import Derived.BigCall
import Derived.BigGuard
namespace Go.Proofs.YtndmhceampggmacDoor
open Go.RowKit Go.Sort Go.Lib

set_option maxHeartbeats 6400000 in
set_option maxRecDepth 100000 in
theorem fmtu_in (u : Nat) (hu64 : u < 18446744073709551616) (w : World) (ht : Tab w) :
    Calls Tryd.prog 118 #[.int .u64 u, .int .i64 10] w fun e w' => e = .returned (.string (bsX (Lib.decDigits u))) ∧ ∃ k os, w' = grow (w.drewN k) os := by
  have htab := ht.2
  by_cases hs : u < 100
  · have hu : (u : Int) < 100 := by omega
    have hwr : IntKind.i64.wrap (u : Int) = (u : Int) := by rw [IntKind.wrap_i64]; omega
    have c := fun W => Tryd.internal_strconv_small u hs W
    go_enter Tryd.func118, Tryd.ntmps118
    go_wp2_with (go_at_call 132; refine (c _).mono ?_; rintro e w' ⟨rfl, rfl⟩)
    go_ret
    exact ⟨rfl, 0, #[], by simp [World.drewN_zero]⟩
  · have hu1 : 1 ≤ u := by omega
    have hnd20 : Lib.nDigits u ≤ 20 := by have := Lib.numDigits_eq u hu1 hu64; split at this <;> omega
    have hal : Tryd.prog.arrayLen 172 = 24 := by kernel_rfl
    have hsl : ∀ W, (Instr.sliceAt 172 (.pointer (some ⟨w.heap.size, 0, none⟩)) none (some (.int .i64 (Lib.nDigits u : Int))) none).run Tryd.prog W = .ok (.slice (some ⟨w.heap.size, 0, none⟩) (Lib.nDigits u) 24) W := fun W => by
      rw [run_sliceAt_array_h W 172 ⟨w.heap.size, 0, none⟩ (by kernel_rfl) .i64 (Lib.nDigits u : Int) (by omega) (by rw [hal]; omega), hal]
      go_simp
    have hH0 := Lib.holds_zero0 w 172 (Lib.nDigits u) (by omega)
    have hfmt := Tryd.internal_strconv_formatBase10 w.heap.size 0 24 u (Array.replicate (Lib.nDigits u) 0) (w.alloc (.cells Lib.zeros24 172)) hH0 (by rw [Array.size_replicate]; exact Lib.lt_pow_nDigits u) hu64 (by rw [Array.size_replicate]; omega)
    rw [Array.size_replicate] at hfmt
    have HH0 := Lib.hid hH0
    have iu : (100 : Int) ≤ (u : Int) := by omega
    have cN := fun W (hT : Lib.TabIs Tryd.prog W "internal/strconv.uint64pow10" .u64 Lib.pow10Tab) => Tryd.internal_strconv_numDigits u hu1 hu64 W hT
    clear hH0 hal
    go_enter Tryd.func118, Tryd.ntmps118
    go_wp2_with (go_at_call 133; refine (cN _ (Lib.tabIs_alloc htab _)).mono ?_; rintro e w' ⟨rfl, rfl⟩)
    go_at_call 134
    refine hfmt.mono ?_
    rintro e w' ⟨rfl, k, v', dk, rfl, hF⟩
    have hcv : (convert 85 9 (.slice (some ⟨w.heap.size, 0, none⟩) (Lib.nDigits u) 24)).run Tryd.prog ((putRow (fun (b : UInt8) => Value.int .u8 (b.toNat : Int)) (w.alloc (.cells Lib.zeros24 172)) w.heap.size 0 dk).drewN k) = .ok (.string ⟨(Lib.decDigits u).toArray⟩) ((putRow (fun (b : UInt8) => Value.int .u8 (b.toNat : Int)) (w.alloc (.cells Lib.zeros24 172)) w.heap.size 0 dk).drewN k) := by
      have h := run_convert_bytes_back (P := Tryd.prog) ((putRow (fun (b : UInt8) => Value.int .u8 (b.toNat : Int)) (w.alloc (.cells Lib.zeros24 172)) w.heap.size 0 dk).drewN k) 85 9 5 ⟨w.heap.size, 0, none⟩ 24 (Lib.decDigits u) Tryd.underlying85 Tryd.underlying5 Tryd.underlying9 (fun j hj => by
        rw [Lib.row_is_numeral hF j hj, Lib.add_plain, World.cell?_drewN]
        exact cell?_putRow (fun (b : UInt8) => Value.int .u8 (b.toNat : Int)) _ w.heap.size 0 _ dk HH0.out (by rw [hF.size, Array.size_replicate]) j (by rw [hF.size]; rw [Lib.decDigits_length] at hj; exact hj))
      rw [Lib.decDigits_length] at h
      exact h
    go_wp2
    go_ret
    obtain ⟨os, eo⟩ := Lib.fin_at w (.cells Lib.zeros24 172) dk k 0
    exact ⟨rfl, k, os, eo⟩
theorem below_grow0 (w : World) (n : Nat) (os : Array Obj) : Below w.heap.size w (grow (w.drewN n) os) := by
  refine ⟨rfl, rfl, rfl, ?_, fun j hj => ?_⟩
  · simp [grow]
  · show ((w.drewN n).heap ++ os)[j]? = w.heap[j]?
    exact Array.getElem?_append_left hj
set_option maxRecDepth 100000 in
theorem fmtu (u : Nat) (hu64 : u < 18446744073709551616) (w : World) (ht : Tab w) :
    Calls Tryd.prog 78 #[.int .u64 u, .int .i64 10] w fun e w' => e = .returned (.string (bsX (Lib.decDigits u))) ∧ Below w.heap.size w w' := by
  have c := fun W hT => fmtu_in u hu64 W hT
  go_enter Tryd.func78, Tryd.ntmps78
  go_wp2_with (go_at_call 118; refine (c _ ht).mono ?_; rintro e w' ⟨rfl, k, os, rfl⟩)
  go_ret
  exact ⟨rfl, below_grow0 w k os⟩
/-- The digits of a limb, the noughts ahead left out. -/
theorem fmtu_top (x : Nat) (hx : x < 100000000) (w : World) (ht : Tab w) :
    Calls Tryd.prog 78 #[.int .u64 x, .int .i64 10] w fun e w' => ∃ c, e = .returned (.string (bsX (tx c))) ∧ Gt c ∧ val c = x ∧ Below w.heap.size w w' := by
  obtain ⟨c, h1, h2, h3⟩ := dec_tx x
  refine (fmtu x (by omega) w ht).mono ?_
  rintro e w' ⟨rfl, hb⟩
  exact ⟨c, by rw [h3], h1, h2, hb⟩
/-- The digits of a limb, a 1 ahead of them. -/
theorem fmtu_pad (x : Nat) (hx : x < 100000000) (w : World) (ht : Tab w) :
    Calls Tryd.prog 78 #[.int .u64 (100000000 + (x : Int)), .int .i64 10] w fun e w' => ∃ t, e = .returned (.string (bsX (49 :: tx t))) ∧ Dg t ∧ t.length = 8 ∧ val t = x ∧ Below w.heap.size w w' := by
  obtain ⟨t, h1, h2, h3, h4⟩ := pad8 hx
  have c := fmtu (100000000 + x) (by omega) w ht
  rw [show ((100000000 + x : Nat) : Int) = 100000000 + (x : Int) by omega] at c
  refine c.mono ?_
  rintro e w' ⟨rfl, hb⟩
  exact ⟨t, by rw [h4], h1, h2, h3, hb⟩

end Go.Proofs.YtndmhceampggmacDoor
