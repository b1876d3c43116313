/-
  Texts that stood one behind the other, as one.
-/
import Derived.Test.YtckoipoejaafhaaDoorSlAll
import Derived.Test.YtckoipoejaafhaaDoorBigC1All
import Derived.Test.YtckoipoejaafhaaDoorBigLAll
import Derived.Test.YtckoipoejaafhaaDoorCdFtAll
import Derived.Lib.Walk
import Derived.Lib.ItoaMem
import Derived.Lib.AppendIntMem
import Derived.WalkKit
import Derived.BigCall
import Derived.BigGuard
import Derived.Test.YtckoipoejaafhaaDoorCeVAll
import Derived.Deep.Cut
import Derived.Test.YtckoipoejaafhaaDoorSlAppAll
import Derived.Test.YtckoipoejaafhaaDoorCeUAll
import Derived.Test.YtckoipoejaafhaaDoorFieldBAll
import Derived.Lib.BitFns
import Derived.Deep.Light
import Derived.Test.YtckoipoejaafhaaDoorNttC
namespace Go.Proofs.YtckoipoejaafhaaDoor
open Go.RowKit Go.Sort Go.Lib
set_option maxHeartbeats 6400000 in
set_option maxRecDepth 100000 in
theorem fmtu_in (u : Nat) (hu64 : u < 18446744073709551616) (w : World) (ht : Tab w) :
    Calls Tryd.prog 138 #[.int .u64 u, .int .i64 10] w fun e w' => e = .returned (.string (bsX (Lib.decDigits u))) ∧ ∃ k os, w' = grow (w.drewN k) os := by
  have htab := ht.2.1
  by_cases hs : u < 100
  · have hu : (u : Int) < 100 := by omega
    have hwr : IntKind.i64.wrap (u : Int) = (u : Int) := by rw [IntKind.wrap_i64]; omega
    have c := fun W => Tryd.internal_strconv_small u hs W
    go_enter Tryd.func138, Tryd.ntmps138
    go_wp2_with (go_at_call 154; refine (c _).mono ?_; rintro e w' ⟨rfl, rfl⟩)
    go_ret
    exact ⟨rfl, 0, #[], by simp [World.drewN_zero]⟩
  · have hu1 : 1 ≤ u := by omega
    have hnd20 : Lib.nDigits u ≤ 20 := by have := Lib.numDigits_eq u hu1 hu64; split at this <;> omega
    have hal : Tryd.prog.arrayLen 196 = 24 := by kernel_rfl
    have hsl : ∀ W, (Instr.sliceAt 196 (.pointer (some ⟨w.heap.size, 0, none⟩)) none (some (.int .i64 (Lib.nDigits u : Int))) none).run Tryd.prog W = .ok (.slice (some ⟨w.heap.size, 0, none⟩) (Lib.nDigits u) 24) W := fun W => by
      rw [run_sliceAt_array_h W 196 ⟨w.heap.size, 0, none⟩ (by kernel_rfl) .i64 (Lib.nDigits u : Int) (by omega) (by rw [hal]; omega), hal]
      go_simp
    have hH0 := Lib.holds_zero0 w 196 (Lib.nDigits u) (by omega)
    have hfmt := Tryd.internal_strconv_formatBase10 w.heap.size 0 24 u (Array.replicate (Lib.nDigits u) 0) (w.alloc (.cells Lib.zeros24 196)) hH0 (by rw [Array.size_replicate]; exact Lib.lt_pow_nDigits u) hu64 (by rw [Array.size_replicate]; omega)
    rw [Array.size_replicate] at hfmt
    have HH0 := Lib.hid hH0
    have iu : (100 : Int) ≤ (u : Int) := by omega
    have cN := fun W (hT : Lib.TabIs Tryd.prog W "internal/strconv.uint64pow10" .u64 Lib.pow10Tab) => Tryd.internal_strconv_numDigits u hu1 hu64 W hT
    clear hH0 hal
    go_enter Tryd.func138, Tryd.ntmps138
    go_wp2_with (go_at_call 155; refine (cN _ (Lib.tabIs_alloc htab _)).mono ?_; rintro e w' ⟨rfl, rfl⟩)
    go_at_call 156
    refine hfmt.mono ?_
    rintro e w' ⟨rfl, k, v', dk, rfl, hF⟩
    have hcv : (convert 55 9 (.slice (some ⟨w.heap.size, 0, none⟩) (Lib.nDigits u) 24)).run Tryd.prog ((putRow (fun (b : UInt8) => Value.int .u8 (b.toNat : Int)) (w.alloc (.cells Lib.zeros24 196)) w.heap.size 0 dk).drewN k) = .ok (.string ⟨(Lib.decDigits u).toArray⟩) ((putRow (fun (b : UInt8) => Value.int .u8 (b.toNat : Int)) (w.alloc (.cells Lib.zeros24 196)) w.heap.size 0 dk).drewN k) := by
      have h := run_convert_bytes_back (P := Tryd.prog) ((putRow (fun (b : UInt8) => Value.int .u8 (b.toNat : Int)) (w.alloc (.cells Lib.zeros24 196)) w.heap.size 0 dk).drewN k) 55 9 5 ⟨w.heap.size, 0, none⟩ 24 (Lib.decDigits u) Tryd.underlying55 Tryd.underlying5 Tryd.underlying9 (fun j hj => by
        rw [Lib.row_is_numeral hF j hj, Lib.add_plain, World.cell?_drewN]
        exact cell?_putRow (fun (b : UInt8) => Value.int .u8 (b.toNat : Int)) _ w.heap.size 0 _ dk HH0.out (by rw [hF.size, Array.size_replicate]) j (by rw [hF.size]; rw [Lib.decDigits_length] at hj; exact hj))
      rw [Lib.decDigits_length] at h
      exact h
    go_wp2
    go_ret
    obtain ⟨os, eo⟩ := Lib.fin_at w (.cells Lib.zeros24 196) dk k 0
    exact ⟨rfl, k, os, eo⟩
theorem below_grow0 (w : World) (n : Nat) (os : Array Obj) : Below w.heap.size w (grow (w.drewN n) os) := by
  refine ⟨rfl, rfl, rfl, ?_, fun j hj => ?_⟩
  · simp [grow]
  · show ((w.drewN n).heap ++ os)[j]? = w.heap[j]?
    exact Array.getElem?_append_left hj
set_option maxRecDepth 100000 in
theorem fmtu (u : Nat) (hu64 : u < 18446744073709551616) (w : World) (ht : Tab w) :
    Calls Tryd.prog 97 #[.int .u64 u, .int .i64 10] w fun e w' => e = .returned (.string (bsX (Lib.decDigits u))) ∧ Below w.heap.size w w' := by
  have c := fun W hT => fmtu_in u hu64 W hT
  go_enter Tryd.func97, Tryd.ntmps97
  go_wp2_with (go_at_call 138; refine (c _ ht).mono ?_; rintro e w' ⟨rfl, k, os, rfl⟩)
  go_ret
  exact ⟨rfl, below_grow0 w k os⟩
theorem fmtu_top (x : Nat) (hx : x < 100000000) (w : World) (ht : Tab w) :
    Calls Tryd.prog 97 #[.int .u64 x, .int .i64 10] w fun e w' => ∃ c, e = .returned (.string (bsX (tx c))) ∧ Gt c ∧ val c = x ∧ Below w.heap.size w w' := by
  obtain ⟨c, h1, h2, h3⟩ := dec_tx x
  refine (fmtu x (by omega) w ht).mono ?_
  rintro e w' ⟨rfl, hb⟩
  exact ⟨c, by rw [h3], h1, h2, hb⟩
theorem fmtu_pad (x : Nat) (hx : x < 100000000) (w : World) (ht : Tab w) :
    Calls Tryd.prog 97 #[.int .u64 (100000000 + (x : Int)), .int .i64 10] w fun e w' => ∃ t, e = .returned (.string (bsX (49 :: tx t))) ∧ Dg t ∧ t.length = 8 ∧ val t = x ∧ Below w.heap.size w w' := by
  obtain ⟨t, h1, h2, h3, h4⟩ := pad8 hx
  have c := fmtu (100000000 + x) (by omega) w ht
  rw [show ((100000000 + x : Nat) : Int) = 100000000 + (x : Int) by omega] at c
  refine c.mono ?_
  rintro e w' ⟨rfl, hb⟩
  exact ⟨t, by rw [h4], h1, h2, h3, hb⟩
end Go.Proofs.YtckoipoejaafhaaDoor

namespace Go.Proofs.YtckoipoejaafhaaDoor
open Go.RowKit
set_option maxRecDepth 100000
theorem cut1 (l : List UInt8) : (bsX (49 :: l)).extract 1 (bsX (49 :: l)).size = bsX l := by
  apply ByteArray.ext
  rw [ByteArray.data_extract]
  show (List.toArray (49 :: l)).extract 1 (List.toArray (49 :: l)).size = List.toArray l
  simp
theorem bsX_size (l : List UInt8) : (bsX l).size = l.length := rfl
theorem conv_widened (w : World) (v : Value) (xs : List Nat) (n : Nat) (h : IsU w v xs) (hl : xs.length ≤ n) (hn : n ≤ 1000000000) :
    Calls Tryd.prog 60 #[v, .int .i64 (n : Int)] w fun e w' => ∃ g, e = .returned (.slice (some ⟨g, 0, none⟩) n n) ∧ w.heap.size ≤ g ∧ RowU w' g (lay (List.replicate n 0) 0 xs) ∧ Below w.heap.size w w' := by
  have h0 := h
  obtain ⟨a, cap, rfl, -⟩ := h
  have hof : 0 + n ≤ (List.replicate n 0).length := by simp
  go_enter Tryd.func60, Tryd.ntmps60
  go_wp2_with (first
    | (at_make; refine wp_makeG rfl _ _ rfl n rfl rfl hn ?_; intro g w2 hg hrow hb; replace hg : w.heap.size ≤ g := (by rw [hg.out]; exact Nat.le_refl _); replace h0 := h0.below hb)
    | (refine wp_copyR rfl _ _ rfl g 0 n n _ (List.replicate n 0) xs rfl rfl h0 hrow hof hl hb hg ?_; intro w3 z hrow3 hb3))
  go_ret
  exact ⟨g, rfl, hg, hrow3, hb3⟩
def bl8 (x : Nat) : Nat := (Lib.len8 (x : Int)).toNat
def bl16 (x : Nat) : Nat := if 256 ≤ x then bl8 (x / 256) + 8 else bl8 x
def bl32 (x : Nat) : Nat := if 65536 ≤ x then bl16 (x / 65536) + 16 else bl16 x
def bl64 (x : Nat) : Nat := if 4294967296 ≤ x then bl32 (x / 4294967296) + 32 else bl32 x
theorem bl8_all : ((List.range 256).all fun x => decide (bl8 x ≤ 8)) = true := by decide +kernel
theorem bl8_le (x : Nat) (h : x < 256) : bl8 x ≤ 8 :=
  of_decide_eq_true (List.all_eq_true.mp bl8_all x (List.mem_range.mpr h))
theorem bl64_room_all : ((List.range 1024).all fun x => decide (bl64 x ≤ 10) && decide (x < 2 ^ bl64 x)) = true := by decide +kernel
theorem bl64_room (x : Nat) (hx : x < 1024) : bl64 x ≤ 10 ∧ x < 2 ^ bl64 x := by
  have h1 := List.all_eq_true.mp bl64_room_all x (List.mem_range.mpr hx)
  simp only [Bool.and_eq_true, decide_eq_true_eq] at h1
  exact h1
theorem bl_a1 (x : Int) (h0 : 0 ≤ x) (h : 4294967296 ≤ x) : bl64 x.toNat = bl32 (x / 4294967296).toNat + 32 := by
  obtain ⟨n, rfl⟩ := Int.eq_ofNat_of_zero_le h0
  rw [show ((n : Int) / 4294967296) = ((n / 4294967296 : Nat) : Int) by omega, Int.toNat_natCast, Int.toNat_natCast]
  unfold bl64
  rw [if_pos (by omega)]
theorem bl_a0 (x : Int) (h : x < 4294967296) : bl64 x.toNat = bl32 x.toNat := by
  show (if 4294967296 ≤ x.toNat then _ else _) = _
  rw [if_neg (by omega)]
theorem bl_b1 (x : Int) (h0 : 0 ≤ x) (h : 65536 ≤ x) : bl32 x.toNat = bl16 (x / 65536).toNat + 16 := by
  obtain ⟨n, rfl⟩ := Int.eq_ofNat_of_zero_le h0
  rw [show ((n : Int) / 65536) = ((n / 65536 : Nat) : Int) by omega, Int.toNat_natCast, Int.toNat_natCast]
  unfold bl32
  rw [if_pos (by omega)]
theorem bl_b0 (x : Int) (h : x < 65536) : bl32 x.toNat = bl16 x.toNat := by
  show (if 65536 ≤ x.toNat then _ else _) = _
  rw [if_neg (by omega)]
theorem bl_c1 (x : Int) (h0 : 0 ≤ x) (h : 256 ≤ x) : bl16 x.toNat = bl8 (x / 256).toNat + 8 := by
  obtain ⟨n, rfl⟩ := Int.eq_ofNat_of_zero_le h0
  rw [show ((n : Int) / 256) = ((n / 256 : Nat) : Int) by omega, Int.toNat_natCast, Int.toNat_natCast]
  unfold bl16
  rw [if_pos (by omega)]
theorem bl_c0 (x : Int) (h : x < 256) : bl16 x.toNat = bl8 x.toNat := by
  show (if 256 ≤ x.toNat then _ else _) = _
  rw [if_neg (by omega)]
theorem tab_size : Lib.len8tab.size = 256 := by decide +kernel
theorem tab_get (y : Int) (h : y.toNat < Lib.len8tab.size) (h0 : 0 ≤ y) : ((Lib.len8tab[y.toNat]'h).toNat : Int) = ((bl8 y.toNat : Nat) : Int) := by
  unfold bl8
  rw [Int.toNat_of_nonneg h0]
  unfold Lib.len8
  rw [getElem?_pos Lib.len8tab y.toNat h]
  simp
theorem wrap_sum (k r n : Nat) (hr : r ≤ 8) (hk : k ≤ 56) (hn : n = r + k) : wrap64 ((k : Int) + wrap64 (r : Int)) = (n : Int) := by
  unfold wrap64; omega
theorem wrap_sum0 (r : Nat) (hr : r ≤ 8) : wrap64 (wrap64 (r : Int)) = (r : Int) := by
  unfold wrap64; omega
set_option maxHeartbeats 4000000 in
set_option maxRecDepth 100000 in
theorem bits_Len64 (x : Int) (w : World) (h0 : 0 ≤ x) (h1 : x ≤ 18446744073709551615) :
    Calls Tryd.prog 100 #[.int .u64 x] w fun e w' => e = .returned (.int .i64 ((bl64 x.toNat : Nat) : Int)) ∧ w' = w := by
  go_enter Tryd.func100, Tryd.ntmps100
  go_wp2
  all_goals first
    | (go_ret; refine ⟨congrArg Ending.returned (congrArg (Value.int IntKind.i64) ?_), rfl⟩; go_light)
    | (exfalso
       go_light
       have hs := tab_size
       omega)
  · rw [tab_get (((x / 4294967296) / 65536) / 256) _ (by omega), bl_a1 x h0 (by assumption), bl_b1 (x / 4294967296) (by omega) (by assumption), bl_c1 ((x / 4294967296) / 65536) (by omega) (by assumption)]
    have l8 := bl8_le (((x / 4294967296) / 65536) / 256).toNat (by omega)
    exact wrap_sum 56 _ _ l8 (by decide) (by omega)
  · rw [tab_get ((x / 4294967296) / 65536) _ (by omega), bl_a1 x h0 (by assumption), bl_b1 (x / 4294967296) (by omega) (by assumption), bl_c0 ((x / 4294967296) / 65536) (by omega)]
    have l8 := bl8_le ((x / 4294967296) / 65536).toNat (by omega)
    exact wrap_sum 48 _ _ l8 (by decide) (by omega)
  · rw [tab_get ((x / 4294967296) / 256) _ (by omega), bl_a1 x h0 (by assumption), bl_b0 (x / 4294967296) (by omega), bl_c1 (x / 4294967296) (by omega) (by assumption)]
    have l8 := bl8_le ((x / 4294967296) / 256).toNat (by omega)
    exact wrap_sum 40 _ _ l8 (by decide) (by omega)
  · rw [tab_get (x / 4294967296) _ (by omega), bl_a1 x h0 (by assumption), bl_b0 (x / 4294967296) (by omega), bl_c0 (x / 4294967296) (by omega)]
    have l8 := bl8_le (x / 4294967296).toNat (by omega)
    exact wrap_sum 32 _ _ l8 (by decide) (by omega)
  · rw [tab_get ((x / 65536) / 256) _ (by omega), bl_a0 x (by omega), bl_b1 x (by omega) (by assumption), bl_c1 (x / 65536) (by omega) (by assumption)]
    have l8 := bl8_le ((x / 65536) / 256).toNat (by omega)
    exact wrap_sum 24 _ _ l8 (by decide) (by omega)
  · rw [tab_get (x / 65536) _ (by omega), bl_a0 x (by omega), bl_b1 x (by omega) (by assumption), bl_c0 (x / 65536) (by omega)]
    have l8 := bl8_le (x / 65536).toNat (by omega)
    exact wrap_sum 16 _ _ l8 (by decide) (by omega)
  · rw [tab_get (x / 256) _ (by omega), bl_a0 x (by omega), bl_b0 x (by omega), bl_c1 x (by omega) (by assumption)]
    have l8 := bl8_le (x / 256).toNat (by omega)
    exact wrap_sum 8 _ _ l8 (by decide) (by omega)
  · rw [tab_get x _ (by omega), bl_a0 x (by omega), bl_b0 x (by omega), bl_c0 x (by omega)]
    have l8 := bl8_le x.toNat (by omega)
    exact wrap_sum0 _ l8
theorem bits_Len (x : Nat) (w : World) (hx : x < 18446744073709551616) :
    Calls Tryd.prog 58 #[.int .u64 (x : Int)] w fun e w' => e = .returned (.int .i64 ((bl64 x : Nat) : Int)) ∧ w' = w := by
  have c := bits_Len64 (x : Int) w (by omega) (by omega)
  rw [Int.toNat_natCast] at c
  generalize bl64 x = n at *
  go_enter Tryd.func58, Tryd.ntmps58
  go_wp2_with (go_at_call 100; refine Calls.mono c ?_; rintro e w' ⟨rfl, hw⟩; rw [hw]; clear hw)
  go_ret
  exact ⟨rfl, rfl⟩
set_option maxHeartbeats 2000000 in
theorem conv_Cyclic_ok (w : World) (v v' : Value) (xs ys : List Nat) (k : Nat) (h : IsU w v xs) (h' : IsU w v' ys) (ht : Tab w) (hl : xs.length = 2 ^ k) (hl' : ys.length = 2 ^ k) (hk : k ≤ 10) :
    Calls Tryd.prog 59 #[v, v'] w fun e w' => ∃ u, e = .returned (.tuple #[u, .int .i64 0]) ∧ IsU w' u (mk xs.length (rnd xs ys false)) ∧ Below w.heap.size w w' := by
  have hfin := cyc_mu xs ys k (by omega) hl hl'
  have cA := fun (W : World) (hU : IsU W v xs) (hT : Tab W) => ntt_Forward_row W v xs k hU hT hl hk
  have cB := fun (W : World) (hU : IsU W v' ys) (hT : Tab W) => ntt_Forward_row W v' ys k hU hT hl' hk
  have cI := fun (W : World) (g : Nat) (zs : List Nat) (hU : IsU W (.slice (some ⟨g, 0, none⟩) (2 ^ k) (2 ^ k)) zs) (hT : Tab W) (hz : zs.length = 2 ^ k) => ntt_Inverse_ok W _ zs k hU hT hz hk
  have hlX := mk_length (2 ^ k) (fw xs k)
  have hlY := mk_length (2 ^ k) (fw ys k)
  have hPX := mk_lt (2 ^ k) (fw xs k)
  have hPY := mk_lt (2 ^ k) (fw ys k)
  have hfin' : Hid (∀ zs, muK (mk (2 ^ k) (fw xs k)) (mk (2 ^ k) (fw ys k)) (2 ^ k) = zs → mk (2 ^ k) (bw zs k) = mk xs.length (rnd xs ys false)) := fun zs e => by rw [← e, hfin, hl]
  clear hfin
  generalize mk xs.length (rnd xs ys false) = RL at *
  generalize mk (2 ^ k) (fw xs k) = X at *
  generalize mk (2 ^ k) (fw ys k) = Y at *
  have hA := h
  have hB := h'
  obtain ⟨a, cap, rfl, -⟩ := h
  obtain ⟨a', cap', rfl, -⟩ := h'
  have hN9 := (two_pow_bound k hk).2
  have hlX' : Hid (X.length = 2 ^ k) := hlX
  have hlY' : Hid (Y.length = 2 ^ k) := hlY
  obtain ⟨bk, hbk⟩ : ∃ f : List Nat → List Nat, ∀ zs, mk (2 ^ k) (bw zs k) = f zs := ⟨fun zs => mk (2 ^ k) (bw zs k), fun _ => rfl⟩
  simp only [hbk] at cI hfin'
  rw [hl, hl'] at *
  clear hlX hlY hl hl' hbk
  generalize 2 ^ k = N at *
  have ht0 := ht
  go_enter Tryd.func59, Tryd.ntmps59
  go_wp2_with (first
    | (go_at_call 101; refine Calls.mono (cA _ hA ht) ?_; rintro e w1 ⟨g, rfl, hg, hrow, hb⟩; clear cA; replace hB := hB.below hb; replace ht := ht.below hb; clear hA)
    | (go_at_call 101; refine Calls.mono (cB _ hB ht) ?_; rintro e w2 ⟨g2, rfl, hg2, hrow2, hb2⟩; clear cB; have hlt := hrow.lt; have hne : g2 ≠ g := (by omega); replace hrow := hrow.below hb2; replace hb := hb.trans (hb2.mono hb.size); clear hB hg2 hlt ht))
  go_loopw [31] (fun vi wr => ∃ i : Nat, i ≤ N ∧ vi = .int .i64 (i : Int) ∧ RowU wr g (muK X Y i) ∧ RowU wr g2 Y ∧ Below w.heap.size w wr)
    (fun vi _ => N - (intOf vi).toNat)
  case atStart => exact ⟨0, Nat.zero_le _, rfl, hrow, hrow2, hb⟩
  case round =>
    clear hrow hb hrow2 hb2
    obtain ⟨i, hi, rfl, hrow, hrow2, hnx⟩ := hrel
    by_cases hlt : i < N
    · have hcS := hrow.cell i (by rw [muK_length, hlX'.out]; exact hlt)
      have hc2 := hrow2.cell i (by rw [hlY'.out]; exact hlt)
      have hfr := hrow.frozen i
      have hset : Hid (∀ m : Nat, RowU ((wr.drewN m).setCell ⟨g, i, none⟩ (.int .u64 ((fM ((muK X Y i).getD i 0) (Y.getD i 0) : Nat) : Int))) g (muK X Y (i + 1))) := fun m => (hrow.drewN m).set i _
      have hset2 : Hid (∀ (m : Nat) (u : Value), RowU ((wr.drewN m).setCell ⟨g, i, none⟩ u) g2 Y) := fun m u => (hrow2.drewN m).bar hne ((Bar.refl g _).setCell i u)
      have cM := field_Mul ((muK X Y i).getD i 0) (Y.getD i 0) (range_getD (Rng_of_P (muK_P X Y i hPX)) _) (range_getD (Rng_of_P hPY) _)
      have hB2 : Hid (∀ (m : Nat) (u : Value), Below w.heap.size w ((wr.drewN m).setCell ⟨g, i, none⟩ u)) := fun m u => (show Below w.heap.size w (wr.drewN m) from ⟨hnx.os, hnx.tape, hnx.output, hnx.size, hnx.block⟩).setCell (p := ⟨g, i, none⟩) hg u
      clear hrow hrow2 hnx ht0 cI hPX hPY hne
      generalize fM ((muK X Y i).getD i 0) (Y.getD i 0) = z at *
      generalize (muK X Y i).getD i 0 = old at *
      generalize Y.getD i 0 = y at *
      go_wp2
      go_region_with (go_at_call 22; refine Calls.mono (cM _) ?_; rintro e w' ⟨rfl, hw⟩; rw [hw]; clear hw)
      all_goals
        clear hcS hc2 hfr
        go_wp2
        go_roundw
        case rel => exact ⟨i + 1, by omega, by go_num, hset.out 1, hset2.out 1 _, hB2.out 1 _⟩
        case measure => simp only [intOf]; omega
    · have e : N = i := by omega
      subst e
      have hlM : (muK X Y N).length = N := by rw [muK_length, hlX'.out]
      have hU := hrow.isUN (Rng_of_P (muK_P X Y N hPX)) (by rw [hlM]; omega) hlM
      have c := cI wr g (muK X Y N) hU (ht0.below hnx) hlM
      rw [hfin'.out _ rfl] at c
      have hge : N ≤ N := Nat.le_refl _
      clear hlM hU hrow hrow2 cI ht0 hPX hPY
      go_wp2_with (go_at_call 102; refine Calls.mono c ?_; rintro e w3 ⟨u, rfl, hR, hb3⟩)
      go_ret2
      exact ⟨_, rfl, hR, hnx.trans (hb3.mono hnx.size)⟩
theorem conv_Linear_none (w : World) (v v' : Value) (xs ys : List Nat) (h : IsU w v xs) (h' : IsU w v' ys) (hl : xs.length ≤ 1024) (hl' : ys.length ≤ 1024) (hs : xs.length = 0 ∨ ys.length = 0) :
    Calls Tryd.prog 26 #[v, v'] w fun e w' => ∃ u, e = .returned (.tuple #[u, .int .i64 0]) ∧ IsU w' u (pM xs ys) ∧ Below w.heap.size w w' := by
  have hz : pM xs ys = [] := by unfold pM; rw [if_pos hs]
  rw [hz]
  clear hz
  obtain ⟨a, cap, rfl, -⟩ := h
  obtain ⟨a', cap', rfl, -⟩ := h'
  generalize xs.length = n at *
  generalize ys.length = m at *
  by_cases h1 : n = 0
  · subst h1
    clear hs
    go_enter Tryd.func26, Tryd.ntmps26
    go_wp2
    go_ret2
    exact ⟨_, rfl, IsU.nil _, Below.refl _ _⟩
  · have h2 : m = 0 := by omega
    subst h2
    have h3 : 0 < n := by omega
    clear hs h1
    go_enter Tryd.func26, Tryd.ntmps26
    go_wp2
    go_ret2
    exact ⟨_, rfl, IsU.nil _, Below.refl _ _⟩
set_option maxHeartbeats 1000000 in
theorem conv_Linear_some (w : World) (v v' : Value) (xs ys : List Nat) (h : IsU w v xs) (h' : IsU w v' ys) (ht : Tab w) (h1 : 0 < xs.length) (h2 : 0 < ys.length) (hs : xs.length + ys.length ≤ 1025) :
    Calls Tryd.prog 26 #[v, v'] w fun e w' => ∃ u, e = .returned (.tuple #[u, .int .i64 0]) ∧ IsU w' u (pM xs ys) ∧ Below w.heap.size w w' := by
  have c0 := fun (W : World) => bits_Len (xs.length + ys.length - 1 - 1) W (by omega)
  obtain ⟨hk, hroom⟩ := bl64_room (xs.length + ys.length - 1 - 1) (by omega)
  generalize bl64 (xs.length + ys.length - 1 - 1) = k at *
  obtain ⟨hpow, hN9⟩ := two_pow_bound k hk
  have hN9' : 2 ^ k ≤ 1000000000 := by omega
  have hxN : xs.length ≤ 2 ^ k := by omega
  have hyN : ys.length ≤ 2 ^ k := by omega
  have hSN : xs.length + ys.length - 1 ≤ 2 ^ k := by omega
  have cA := fun (W : World) (hU : IsU W v xs) => conv_widened W v xs (2 ^ k) hU hxN hN9'
  have cB := fun (W : World) (hU : IsU W v' ys) => conv_widened W v' ys (2 ^ k) hU hyN hN9'
  have lX : (lay (List.replicate (2 ^ k) 0) 0 xs).length = 2 ^ k := by rw [lay_length (by simp; omega)]; simp
  have lY : (lay (List.replicate (2 ^ k) 0) 0 ys).length = 2 ^ k := by rw [lay_length (by simp; omega)]; simp
  have rX : Rng (lay (List.replicate (2 ^ k) 0) 0 xs) := lay_rng (Rng_replicate _) h.range
  have rY : Rng (lay (List.replicate (2 ^ k) 0) 0 ys) := lay_rng (Rng_replicate _) h'.range
  have hfin : (mk (lay (List.replicate (2 ^ k) 0) 0 xs).length (rnd (lay (List.replicate (2 ^ k) 0) 0 xs) (lay (List.replicate (2 ^ k) 0) 0 ys) false)).take (xs.length + ys.length - 1) = pM xs ys :=
    lin_take xs ys _ _ (by omega) (by omega) (by rw [lX]; exact hSN) fun j => rnd_lin xs ys _ _ (fun i => lay_zeros _ _ hxN i) (fun i => lay_zeros _ _ hyN i) (by rw [lX]; omega) j
  have hlR := mk_length (lay (List.replicate (2 ^ k) 0) 0 xs).length (rnd (lay (List.replicate (2 ^ k) 0) 0 xs) (lay (List.replicate (2 ^ k) 0) 0 ys) false)
  generalize lay (List.replicate (2 ^ k) 0) 0 xs = X at *
  generalize lay (List.replicate (2 ^ k) 0) 0 ys = Y at *
  have cC := fun (W : World) (g1 g2 : Nat) (h1 : RowU W g1 X) (h2 : RowU W g2 Y) (hT : Tab W) => conv_Cyclic_ok W (.slice (some ⟨g1, 0, none⟩) (2 ^ k) (2 ^ k)) (.slice (some ⟨g2, 0, none⟩) (2 ^ k) (2 ^ k)) X Y k
    (h1.isUN rX (by rw [lX]; omega) lX) (h2.isUN rY (by rw [lY]; omega) lY) hT lX lY hk
  generalize mk X.length (rnd X Y false) = RL at *
  have hlR' : Hid (RL.length = 2 ^ k) := by show _ = _; rw [hlR, lX]
  have hfin' : Hid (RL.take (xs.length + ys.length - 1) = pM xs ys) := hfin
  generalize pM xs ys = ZL at *
  have hA := h
  have hB := h'
  obtain ⟨a, cap, rfl, -⟩ := h
  obtain ⟨a', cap', rfl, -⟩ := h'
  clear hfin hlR lX lY rX rY hroom hN9'
  have hc0 : ((xs.length + ys.length - 1 - 1 : Nat) : Int) = (xs.length : Int) + (ys.length : Int) - 1 - 1 := by omega
  rw [hc0] at c0
  clear hc0
  generalize xs.length = n at *
  generalize ys.length = m at *
  have b1 : ((n : Int) == 0) = false := by rw [beq_eq_false_iff_ne]; omega
  have b2 : ((m : Int) == 0) = false := by rw [beq_eq_false_iff_ne]; omega
  have b3 : n ≤ 1024 := by omega
  have b4 : m ≤ 1024 := by omega
  generalize 2 ^ k = N at *
  go_enter Tryd.func26, Tryd.ntmps26
  go_wp2_with (first
    | (go_at_call 58; refine Calls.mono (c0 _) ?_; rintro e w' ⟨rfl, hw⟩; rw [hw]; clear hw)
    | (go_at_call 60; refine Calls.mono (cA _ hA) ?_; rintro e w1 ⟨g1, rfl, hg1, hrow1, hb1⟩; clear cA; replace hB := hB.below hb1; clear hA)
    | (go_at_call 60; refine Calls.mono (cB _ hB) ?_; rintro e w2 ⟨g2, rfl, hg2, hrow2, hb2⟩; clear cB; replace hrow1 := hrow1.below hb2; replace hb1 := hb1.trans (hb2.mono hb1.size); clear hB)
    | (go_at_call 59; refine Calls.mono (cC _ g1 g2 hrow1 hrow2 (ht.below hb1)) ?_; rintro e w3 ⟨u, rfl, hU, hb3⟩; clear cC; have hU0 := hU; obtain ⟨a3, cap3, rfl, hcap3, -⟩ := hU; have hUl := hlR'.out; rw [hUl] at hcap3 ⊢; have hT := hU0.take (n := n + m - 1) (by omega); rw [hfin'.out] at hT; clear hU0 hUl))
  go_ret2
  exact ⟨_, rfl, hT, hb1.trans (hb3.mono hb1.size)⟩
theorem conv_Linear_ok (w : World) (v v' : Value) (xs ys : List Nat) (h : IsU w v xs) (h' : IsU w v' ys) (ht : Tab w) (hl : xs.length ≤ 1024) (hl' : ys.length ≤ 1024) (hs : xs.length = 0 ∨ ys.length = 0 ∨ xs.length + ys.length ≤ 1025) :
    Calls Tryd.prog 26 #[v, v'] w fun e w' => ∃ u, e = .returned (.tuple #[u, .int .i64 0]) ∧ IsU w' u (pM xs ys) ∧ Below w.heap.size w w' := by
  by_cases h0 : xs.length = 0 ∨ ys.length = 0
  · exact conv_Linear_none w v v' xs ys h h' hl hl' h0
  · exact conv_Linear_some w v v' xs ys h h' ht (by omega) (by omega) (by omega)
theorem mul_bound {x y : List Nat} (hx : Lm x) (hy : Lm y) (h1 : 0 < x.length) (h2 : 0 < y.length) (h9 : x.length ≤ 250) : lv (pM x y) < 100000000 ^ ((pM x y).length + 1) := by
  obtain ⟨e1, _, e3⟩ := pM_limbs hx hy h1 h2 h9
  rw [e3, e1, show x.length + y.length - 1 + 1 = x.length + y.length by omega, Nat.pow_add]
  have a1 := lv_lt hx
  have a2 := lv_lt hy
  calc lv x * lv y ≤ lv x * 100000000 ^ y.length := Nat.mul_le_mul_left _ (by omega)
    _ < 100000000 ^ x.length * 100000000 ^ y.length := Nat.mul_lt_mul_of_pos_right a1 (lbpos _)
end Go.Proofs.YtckoipoejaafhaaDoor
