/-
  Texts that stood one behind the other, as one.
-/
import Derived.Test.YtmggccepmicjhagGreatDoorSlMakeAll
import Derived.Test.YtmggccepmicjhagGreatDoorNttCAll
import Derived.Test.YtmggccepmicjhagGreatDoorFieldBAll
import Derived.Test.YtmggccepmicjhagGreatDoorSlZAll
import Derived.Test.YtmggccepmicjhagGreatDoorRefPhasesAll
import Derived.Lib.Walk
import Derived.Lib.BitFns
import Derived.Deep.Light
/-! Lists of any length that a program's memory can hold: made, and read as slices. -/
namespace Go.Proofs.YtmggccepmicjhagGreatDoor
open Go.RowKit
set_option maxRecDepth 100000

theorem IsU.len {w : World} {a : Option Addr} {n c : Nat} {xs : List Nat} (h : IsU w (.slice a n c) xs) : xs.length = n := by
  obtain ⟨a', c', e, -⟩ := h
  simp only [Value.slice.injEq] at e
  exact e.2.1.symm
theorem RowU.isUW {w : World} {g n : Nat} {xs : List Nat} (h : RowU w g xs) (hr : Rng xs) (hl : xs.length ≤ 35184372088832) (hn : xs.length = n) : IsU w (.slice (some ⟨g, 0, none⟩) n n) xs := by
  subst hn
  exact ⟨some ⟨g, 0, none⟩, xs.length, rfl, Nat.le_refl _, by unfold maxLen; omega, fun i hi => ⟨g, 0, rfl, by rw [Nat.zero_add]; exact h.cell i hi⟩, hr⟩

theorem wp_makeW {ops : Array Oper} {rest : List Oper} {o : Oper} {a : Act} {Q : Exit → Act → World → Prop} {w : World} (hgd : o.guard = none) (l c : Operand) (ho : o.op = Op.makeSlice 73 l c) (n : Nat)
    (hl : a.eval l = .int .i64 (n : Int)) (hc : a.eval c = .int .i64 (n : Int)) (hn : n ≤ 35184372088832)
    (h : ∀ g w', Hid (g = w.heap.size) → RowU w' g (List.replicate n 0) → Below w.heap.size w w' → wpList Tryz.prog ops Q rest (a.put o.dst (.slice (some ⟨g, 0, none⟩) n n)) w') :
    wpList Tryz.prog ops Q (o :: rest) a w := by
  obtain ⟨i0, hi, hz0, hz1, hz2⟩ := info_parts info_u64
  refine wpList_make_full w hgd l c 73 ho w.heap.size 77 i0 (.int .u64 0) 1 Tryz.underlying73 hi hz0 hz1 .i64 .i64 n n n hl hc rfl rfl (by rw [hz2]; omega) (by unfold maxLen; omega) (Nat.le_refl _) ?_
  intro w' hown hgrow
  rw [made_u64] at hown
  exact h w.heap.size w' rfl (RowU.of_owns hown) ((Below.refl _ _).grown hgrow (Nat.le_refl _) (fun k hk => by cases hk))

end Go.Proofs.YtmggccepmicjhagGreatDoor

/-! What the helpers of package conv answer: a list weighed by the powers of a number, a list among zeros. -/
namespace Go.Proofs.YtmggccepmicjhagGreatDoor
open Go.RowKit
set_option maxRecDepth 100000


theorem conv_widened (w : World) (v : Value) (xs : List Nat) (n : Nat) (h : IsU w v xs) (hl : xs.length ≤ n) (hn : n ≤ 1000000000) :
    Calls Tryz.prog 69 #[v, .int .i64 (n : Int)] w fun e w' => ∃ g, e = .returned (.slice (some ⟨g, 0, none⟩) n n) ∧ w.heap.size ≤ g ∧ RowU w' g (lay (List.replicate n 0) 0 xs) ∧ Below w.heap.size w w' := by
  have h0 := h
  obtain ⟨a, cap, rfl, -⟩ := h
  have hof : 0 + n ≤ (List.replicate n 0).length := by simp
  go_enter Tryz.func69, Tryz.ntmps69
  go_wp2_with (first
    | (at_make; refine wp_makeG rfl _ _ rfl n rfl rfl hn ?_; intro g w2 hg hrow hb; replace hg : w.heap.size ≤ g := (by rw [hg.out]; exact Nat.le_refl _); replace h0 := h0.below hb)
    | (refine wp_copyR rfl _ _ rfl g 0 n n _ (List.replicate n 0) xs rfl rfl h0 hrow hof hl hb hg ?_; intro w3 z hrow3 hb3))
  go_ret
  exact ⟨g, rfl, hg, hrow3, hb3⟩

end Go.Proofs.YtmggccepmicjhagGreatDoor

/-! What Len of package math/bits answers: how many bits a number has. -/
namespace Go.Proofs.YtmggccepmicjhagGreatDoor
open Go.RowKit
set_option maxRecDepth 100000

/-- The bits of a number of 8, 16, 32, 64 bits. -/
def bl8 (x : Nat) : Nat := (Lib.len8 (x : Int)).toNat
def bl16 (x : Nat) : Nat := if 256 ≤ x then bl8 (x / 256) + 8 else bl8 x
def bl32 (x : Nat) : Nat := if 65536 ≤ x then bl16 (x / 65536) + 16 else bl16 x
def bl64 (x : Nat) : Nat := if 4294967296 ≤ x then bl32 (x / 4294967296) + 32 else bl32 x
theorem bl8_all : ((List.range 256).all fun x => decide (bl8 x ≤ 8)) = true := by decide +kernel
theorem bl8_le (x : Nat) (h : x < 256) : bl8 x ≤ 8 :=
  of_decide_eq_true (List.all_eq_true.mp bl8_all x (List.mem_range.mpr h))
theorem bl64_all : ((List.range 11).all fun k => bl64 (2 ^ k) == k + 1) = true := by decide +kernel
theorem bl64_pow (k : Nat) (hk : k ≤ 10) : bl64 (2 ^ k) = k + 1 :=
  beq_iff_eq.mp (List.all_eq_true.mp bl64_all k (List.mem_range.mpr (by omega)))
theorem bl64_room_all : ((List.range 1024).all fun x => decide (bl64 x ≤ 10) && decide (x < 2 ^ bl64 x)) = true := by decide +kernel
theorem bl64_room (x : Nat) (hx : x < 1024) : bl64 x ≤ 10 ∧ x < 2 ^ bl64 x := by
  have h1 := List.all_eq_true.mp bl64_room_all x (List.mem_range.mpr hx)
  simp only [Bool.and_eq_true, decide_eq_true_eq] at h1
  exact h1
theorem bl64_le (x : Nat) (hx : x < 18446744073709551616) : bl64 x ≤ 64 := by
  have h16 : ∀ y, y < 65536 → bl16 y ≤ 16 := fun y hy => by
    unfold bl16; split
    · have := bl8_le (y / 256) (by omega); omega
    · have := bl8_le y (by omega); omega
  have h32 : ∀ y, y < 4294967296 → bl32 y ≤ 32 := fun y hy => by
    unfold bl32; split
    · have := h16 (y / 65536) (by omega); omega
    · have := h16 y (by omega); omega
  unfold bl64; split
  · have := h32 (x / 4294967296) (by omega); omega
  · have := h32 x (by omega); omega
theorem bl_a1 (x : Int) (h0 : 0 ≤ x) (h : 4294967296 ≤ x) : bl64 x.toNat = bl32 (x / 4294967296).toNat + 32 := by
  obtain ⟨n, rfl⟩ := Int.eq_ofNat_of_zero_le h0
  rw [show ((n : Int) / 4294967296) = ((n / 4294967296 : Nat) : Int) by omega, Int.toNat_natCast, Int.toNat_natCast]
  unfold bl64
  rw [if_pos (by omega)]
theorem bl_a0 (x : Int) (h : x < 4294967296) : bl64 x.toNat = bl32 x.toNat := by
  show (if 4294967296 ≤ x.toNat then _ else _) = _
  rw [if_neg (by omega)]
theorem bl_b1 (x : Int) (h0 : 0 ≤ x) (h : 65536 ≤ x) : bl32 x.toNat = bl16 (x / 65536).toNat + 16 := by
  obtain ⟨n, rfl⟩ := Int.eq_ofNat_of_zero_le h0
  rw [show ((n : Int) / 65536) = ((n / 65536 : Nat) : Int) by omega, Int.toNat_natCast, Int.toNat_natCast]
  unfold bl32
  rw [if_pos (by omega)]
theorem bl_b0 (x : Int) (h : x < 65536) : bl32 x.toNat = bl16 x.toNat := by
  show (if 65536 ≤ x.toNat then _ else _) = _
  rw [if_neg (by omega)]
theorem bl_c1 (x : Int) (h0 : 0 ≤ x) (h : 256 ≤ x) : bl16 x.toNat = bl8 (x / 256).toNat + 8 := by
  obtain ⟨n, rfl⟩ := Int.eq_ofNat_of_zero_le h0
  rw [show ((n : Int) / 256) = ((n / 256 : Nat) : Int) by omega, Int.toNat_natCast, Int.toNat_natCast]
  unfold bl16
  rw [if_pos (by omega)]
theorem bl_c0 (x : Int) (h : x < 256) : bl16 x.toNat = bl8 x.toNat := by
  show (if 256 ≤ x.toNat then _ else _) = _
  rw [if_neg (by omega)]
theorem tab_size : Lib.len8tab.size = 256 := by decide +kernel
theorem tab_get (y : Int) (h : y.toNat < Lib.len8tab.size) (h0 : 0 ≤ y) : ((Lib.len8tab[y.toNat]'h).toNat : Int) = ((bl8 y.toNat : Nat) : Int) := by
  unfold bl8
  rw [Int.toNat_of_nonneg h0]
  unfold Lib.len8
  rw [getElem?_pos Lib.len8tab y.toNat h]
  simp
theorem wrap_sum (k r n : Nat) (hr : r ≤ 8) (hk : k ≤ 56) (hn : n = r + k) : wrap64 ((k : Int) + wrap64 (r : Int)) = (n : Int) := by
  unfold wrap64; omega
theorem wrap_sum0 (r : Nat) (hr : r ≤ 8) : wrap64 (wrap64 (r : Int)) = (r : Int) := by
  unfold wrap64; omega
set_option maxRecDepth 100000 in
/-- The table's text, as the translation writes it, is the table. -/
@[go_sem high] theorem fold_len8 : (⟨((([0, 1, 2, 2, 3, 3, 3, 3, 4, 4, 4, 4, 4, 4, 4, 4, 5, 5, 5, 5, 5, 5, 5, 5, 5, 5, 5, 5, 5, 5, 5, 5, 6, 6, 6, 6, 6, 6, 6, 6, 6, 6, 6, 6, 6, 6, 6, 6, 6, 6, 6, 6, 6, 6, 6, 6, 6, 6, 6, 6, 6, 6, 6, 6] : List UInt8).append [7, 7, 7, 7, 7, 7, 7, 7, 7, 7, 7, 7, 7, 7, 7, 7, 7, 7, 7, 7, 7, 7, 7, 7, 7, 7, 7, 7, 7, 7, 7, 7, 7, 7, 7, 7, 7, 7, 7, 7, 7, 7, 7, 7, 7, 7, 7, 7, 7, 7, 7, 7, 7, 7, 7, 7, 7, 7, 7, 7, 7, 7, 7, 7]).append (([8, 8, 8, 8, 8, 8, 8, 8, 8, 8, 8, 8, 8, 8, 8, 8, 8, 8, 8, 8, 8, 8, 8, 8, 8, 8, 8, 8, 8, 8, 8, 8, 8, 8, 8, 8, 8, 8, 8, 8, 8, 8, 8, 8, 8, 8, 8, 8, 8, 8, 8, 8, 8, 8, 8, 8, 8, 8, 8, 8, 8, 8, 8, 8] : List UInt8).append [8, 8, 8, 8, 8, 8, 8, 8, 8, 8, 8, 8, 8, 8, 8, 8, 8, 8, 8, 8, 8, 8, 8, 8, 8, 8, 8, 8, 8, 8, 8, 8, 8, 8, 8, 8, 8, 8, 8, 8, 8, 8, 8, 8, 8, 8, 8, 8, 8, 8, 8, 8, 8, 8, 8, 8, 8, 8, 8, 8, 8, 8, 8, 8])).toArray⟩ : ByteArray) = Lib.len8tab := rfl

set_option maxHeartbeats 4000000 in
set_option maxRecDepth 100000 in
theorem bits_Len64 (x : Int) (w : World) (h0 : 0 ≤ x) (h1 : x ≤ 18446744073709551615) :
    Calls Tryz.prog 92 #[.int .u64 x] w fun e w' => e = .returned (.int .i64 ((bl64 x.toNat : Nat) : Int)) ∧ w' = w := by
  go_enter Tryz.func92, Tryz.ntmps92
  go_wp2
  all_goals first
    | (go_ret; refine ⟨congrArg Ending.returned (congrArg (Value.int IntKind.i64) ?_), rfl⟩; go_light)
    | (exfalso
       go_light
       have hs := tab_size
       omega)
  · rw [tab_get (((x / 4294967296) / 65536) / 256) _ (by omega), bl_a1 x h0 (by assumption), bl_b1 (x / 4294967296) (by omega) (by assumption), bl_c1 ((x / 4294967296) / 65536) (by omega) (by assumption)]
    have l8 := bl8_le (((x / 4294967296) / 65536) / 256).toNat (by omega)
    exact wrap_sum 56 _ _ l8 (by decide) (by omega)
  · rw [tab_get ((x / 4294967296) / 65536) _ (by omega), bl_a1 x h0 (by assumption), bl_b1 (x / 4294967296) (by omega) (by assumption), bl_c0 ((x / 4294967296) / 65536) (by omega)]
    have l8 := bl8_le ((x / 4294967296) / 65536).toNat (by omega)
    exact wrap_sum 48 _ _ l8 (by decide) (by omega)
  · rw [tab_get ((x / 4294967296) / 256) _ (by omega), bl_a1 x h0 (by assumption), bl_b0 (x / 4294967296) (by omega), bl_c1 (x / 4294967296) (by omega) (by assumption)]
    have l8 := bl8_le ((x / 4294967296) / 256).toNat (by omega)
    exact wrap_sum 40 _ _ l8 (by decide) (by omega)
  · rw [tab_get (x / 4294967296) _ (by omega), bl_a1 x h0 (by assumption), bl_b0 (x / 4294967296) (by omega), bl_c0 (x / 4294967296) (by omega)]
    have l8 := bl8_le (x / 4294967296).toNat (by omega)
    exact wrap_sum 32 _ _ l8 (by decide) (by omega)
  · rw [tab_get ((x / 65536) / 256) _ (by omega), bl_a0 x (by omega), bl_b1 x (by omega) (by assumption), bl_c1 (x / 65536) (by omega) (by assumption)]
    have l8 := bl8_le ((x / 65536) / 256).toNat (by omega)
    exact wrap_sum 24 _ _ l8 (by decide) (by omega)
  · rw [tab_get (x / 65536) _ (by omega), bl_a0 x (by omega), bl_b1 x (by omega) (by assumption), bl_c0 (x / 65536) (by omega)]
    have l8 := bl8_le (x / 65536).toNat (by omega)
    exact wrap_sum 16 _ _ l8 (by decide) (by omega)
  · rw [tab_get (x / 256) _ (by omega), bl_a0 x (by omega), bl_b0 x (by omega), bl_c1 x (by omega) (by assumption)]
    have l8 := bl8_le (x / 256).toNat (by omega)
    exact wrap_sum 8 _ _ l8 (by decide) (by omega)
  · rw [tab_get x _ (by omega), bl_a0 x (by omega), bl_b0 x (by omega), bl_c0 x (by omega)]
    have l8 := bl8_le x.toNat (by omega)
    exact wrap_sum0 _ l8

theorem bits_Len (x : Nat) (w : World) (hx : x < 18446744073709551616) :
    Calls Tryz.prog 68 #[.int .u64 (x : Int)] w fun e w' => e = .returned (.int .i64 ((bl64 x : Nat) : Int)) ∧ w' = w := by
  have c := bits_Len64 (x : Int) w (by omega) (by omega)
  rw [Int.toNat_natCast] at c
  generalize bl64 x = n at *
  go_enter Tryz.func68, Tryz.ntmps68
  go_wp2_with (go_at_call 92; refine Calls.mono c ?_; rintro e w' ⟨rfl, hw⟩; rw [hw]; clear hw)
  go_ret
  exact ⟨rfl, rfl⟩

end Go.Proofs.YtmggccepmicjhagGreatDoor
