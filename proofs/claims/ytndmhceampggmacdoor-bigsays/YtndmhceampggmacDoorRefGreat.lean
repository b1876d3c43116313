/-
  Texts by their bytes; what Great of package goldref answers: may a text be a great number?
-/
import Derived.Test.YtndmhceampggmacDoorBigM
import Derived.WalkKit
import Derived.Laws.Concat
namespace Go.Proofs.YtndmhceampggmacDoor
open Go.RowKit

/-- A text by its bytes. -/
def bsX (l : List UInt8) : ByteArray := ⟨l.toArray⟩
theorem bsX_append (a b : List UInt8) : bsX a ++ bsX b = bsX (a ++ b) := ByteArray.mk_append_mk a b
/-- A text reads as these bytes. -/
def Bt (s : ByteArray) (X : List Nat) : Prop := s.size = X.length ∧ ∀ i (h : i < s.size), (s[i]'h).toNat = X.getD i 0
theorem Bt.all (s : ByteArray) : Bt s (s.data.toList.map fun b => b.toNat) := by
  refine ⟨by rw [List.length_map, Array.length_toList]; rfl, fun i h => ?_⟩
  have h' : i < s.data.size := h
  rw [ByteArray.getElem_eq_getElem_data]
  simp only [List.getD, List.getElem?_map, Array.getElem?_toList, Array.getElem?_eq_getElem h', Option.map_some, Option.getD_some]
theorem Bt.lt {s : ByteArray} {X : List Nat} (h : Bt s X) (i : Nat) : X.getD i 0 < 256 := by
  rcases Nat.lt_or_ge i X.length with q | q
  · rw [← h.2 i (by rw [h.1]; exact q)]
    exact UInt8.toNat_lt _
  · rw [List.getD, List.getElem?_eq_none q]; decide
theorem Bt.eq {s t : ByteArray} {X : List Nat} (h : Bt s X) (h' : Bt t X) : s = t := by
  have hs : s.data.size = t.data.size := by have := h.1; have := h'.1; simp only [ByteArray.size] at *; omega
  have : s.data = t.data := by
    apply Array.ext hs
    intro i h1 h2
    have a1 := h.2 i h1
    have a2 := h'.2 i h2
    rw [ByteArray.getElem_eq_getElem_data] at a1 a2
    exact UInt8.toNat_inj.mp (a1.trans a2.symm)
  cases s; cases t; simp_all
/-- The bytes of digits. -/
def by' (ds : List Nat) : List Nat := ds.map fun d => 48 + d
theorem by'_length (ds : List Nat) : (by' ds).length = ds.length := by simp [by']
theorem by'_get (ds : List Nat) (i : Nat) (h : i < ds.length) : (by' ds).getD i 0 = 48 + ds.getD i 0 := by simp [by', List.getD, h]
theorem Bt.txt {ds : List Nat} (h : Dg ds) : Bt (bsX (tx ds)) (by' ds) := by
  have e : (tx ds).map (fun b => b.toNat) = by' ds := by
    unfold tx by'
    rw [List.map_map]
    refine List.map_congr_left fun d hd => ?_
    have := h d hd
    simp only [Function.comp, UInt8.toNat_ofNat']
    omega
  have := Bt.all (bsX (tx ds))
  rw [show (bsX (tx ds)).data.toList = tx ds from rfl, e] at this
  exact this
/-- A text that may be a great number, and its digits. -/
def Gs (s : ByteArray) (ds : List Nat) : Prop := Gt ds ∧ Bt s (by' ds)
theorem Gs.txt {ds : List Nat} (h : Gt ds) : Gs (bsX (tx ds)) ds := ⟨h, Bt.txt h.1⟩
theorem Gs.text {s : ByteArray} {ds : List Nat} (h : Gs s ds) : s = bsX (tx ds) := h.2.eq (Bt.txt h.1.1)
theorem Gs.size {s : ByteArray} {ds : List Nat} (h : Gs s ds) : s.size = ds.length := by rw [h.2.1, by'_length]
theorem Gs.byte {s : ByteArray} {ds : List Nat} (h : Gs s ds) (i : Nat) (hi : i < ds.length) (hs : i < s.size) : (s[i]'hs).toNat = 48 + ds.getD i 0 := by rw [h.2.2 i hs, by'_get ds i hi]
theorem Gs.dg {s : ByteArray} {ds : List Nat} (h : Gs s ds) (i : Nat) : ds.getD i 0 ≤ 9 := by
  rcases Nat.lt_or_ge i ds.length with q | q
  · rw [show ds.getD i 0 = ds[i] by simp [List.getD, q]]; exact h.1.1 _ (List.getElem_mem q)
  · rw [List.getD, List.getElem?_eq_none q]; decide
theorem Gs.same {s t : ByteArray} {a b : List Nat} (h : Gs s a) (h' : Gs t b) (hv : val a = val b) : s = t := by
  have e := h.1.one h'.1 hv
  subst e
  exact h.2.eq h'.2

theorem ref_Great_large (w : World) (s : ByteArray) (h : 2000 < s.size) :
    Calls Tryd.prog 21 #[.string s] w fun e w' => e = .returned (.int .i64 2) ∧ w' = w := by
  go_enter Tryd.func21, Tryd.ntmps21
  go_wp2
  go_ret
  exact ⟨rfl, rfl⟩
set_option maxHeartbeats 1000000 in
theorem ref_Great_ok (w : World) (s : ByteArray) (ds : List Nat) (h : Gs s ds) (h9 : ds.length ≤ 2000) :
    Calls Tryd.prog 21 #[.string s] w fun e w' => e = .returned (.int .i64 0) ∧ w' = w := by
  have hsz := h.size
  have hby : Hid (∀ i, i < ds.length → ∀ hs : i < s.size, (s[i]'hs).toNat = 48 + ds.getD i 0) := h.byte
  have hdg : Hid (∀ i, ds.getD i 0 ≤ 9) := h.dg
  have hne : ds.length ≠ 0 := fun e => h.1.2.1 (List.eq_nil_of_length_eq_zero e)
  have hhd : Hid (2 ≤ ds.length → ds.getD 0 0 ≠ 0) := fun q => by
    have := h.1.2.2 q
    cases ds with
    | nil => simp at q
    | cons d l => exact this
  clear h
  generalize hn : ds.length = n at *
  clear hn
  go_enter Tryd.func21, Tryd.ntmps21
  go_wp2
  go_loopw [3] (fun vi wr => ∃ (i : Nat), i ≤ n ∧ vi = .int .i64 (i : Int) ∧ wr = w)
    (fun vi _ => n - (intOf vi).toNat)
  case atStart => exact ⟨0, Nat.zero_le _, rfl, rfl⟩
  case round =>
    obtain ⟨i, hi, rfl, hwr⟩ := hrel
    rw [hwr]
    by_cases hlt : i < n
    · have hb := hby.out i hlt
      have hd := hdg.out i
      generalize ds.getD i 0 = d at *
      go_wp2
      go_roundw
      case rel => exact ⟨i + 1, by omega, by go_num, by trivial⟩
      case measure => simp only [intOf]; omega
    · have hge : n ≤ i := by omega
      have hn0 : ((n : Int) == 0) = false := by rw [beq_eq_false_iff_ne]; omega
      rcases Nat.lt_or_ge 1 n with h1 | h1
      · have hb := hby.out 0 (by omega)
        have hd := hhd.out (by omega)
        have hd2 := hdg.out 0
        generalize ds.getD 0 0 = d at *
        have hd3 : (48 + (d : Int) == 48) = false := by rw [beq_eq_false_iff_ne]; omega
        go_wp2
        go_ret
        exact ⟨rfl, rfl⟩
      · have h1' : n = 1 := by omega
        subst h1'
        go_wp2
        go_ret
        exact ⟨rfl, rfl⟩
set_option maxHeartbeats 1000000 in
theorem ref_Great_bad (w : World) (s : ByteArray) (h9 : s.size ≤ 2000) (hno : ∀ ds, ¬ Gs s ds) :
    Calls Tryd.prog 21 #[.string s] w fun e w' => e = .returned (.int .i64 3) ∧ w' = w := by
  obtain ⟨X, hX⟩ : ∃ X, Bt s X := ⟨_, Bt.all s⟩
  have hsz := hX.1
  have hby : Hid (∀ i, i < X.length → ∀ hs : i < s.size, (s[i]'hs).toNat = X.getD i 0) := fun i _ hs => hX.2 i hs
  have h256 : Hid (∀ i, X.getD i 0 < 256) := hX.lt
  have hend : Hid ((∀ i, i < X.length → 48 ≤ X.getD i 0 ∧ X.getD i 0 ≤ 57) → X.length = 0 ∨ (2 ≤ X.length ∧ X.getD 0 0 = 48)) := fun hd => by
    rcases Nat.eq_zero_or_pos X.length with q | q
    · exact .inl q
    · right
      have hXe : by' (X.map fun x => x - 48) = X := by
        unfold by'
        rw [List.map_map]
        conv => rhs; rw [← List.map_id X]
        refine List.map_congr_left fun x hx => ?_
        obtain ⟨i, hi, rfl⟩ := List.mem_iff_getElem.mp hx
        have := hd i hi
        rw [show X.getD i 0 = X[i] by simp [List.getD, hi]] at this
        simp only [Function.comp, id]
        omega
      have hDg : Dg (X.map fun x => x - 48) := fun d hd2 => by
        obtain ⟨x, hx, rfl⟩ := List.mem_map.mp hd2
        obtain ⟨i, hi, rfl⟩ := List.mem_iff_getElem.mp hx
        have := hd i hi
        rw [show X.getD i 0 = X[i] by simp [List.getD, hi]] at this
        omega
      have hn := hno (X.map fun x => x - 48)
      by_cases h2 : 2 ≤ X.length
      · refine ⟨h2, ?_⟩
        by_cases h0 : X.getD 0 0 = 48
        · exact h0
        · exfalso
          refine hn ⟨⟨hDg, fun e => ?_, fun _ => ?_⟩, by rw [hXe]; exact hX⟩
          · have := congrArg List.length e; simp at this; rw [this] at q; simp at q
          · cases X with
            | nil => simp at q
            | cons x X =>
              have h48 := hd 0 (by simp)
              simp only [List.getD_cons_zero] at h0 h48
              simp only [List.map_cons, List.headD_cons]
              omega
      · exfalso
        refine hn ⟨⟨hDg, fun e => ?_, fun e => ?_⟩, by rw [hXe]; exact hX⟩
        · have := congrArg List.length e; simp at this; rw [this] at q; simp at q
        · simp at e; omega
  clear hno hX
  generalize hn : X.length = n at *
  clear hn
  go_enter Tryd.func21, Tryd.ntmps21
  go_wp2
  go_loopw [3] (fun vi wr => ∃ (i : Nat), i ≤ n ∧ vi = .int .i64 (i : Int) ∧ Hid (∀ j, j < i → 48 ≤ X.getD j 0 ∧ X.getD j 0 ≤ 57) ∧ wr = w)
    (fun vi _ => n - (intOf vi).toNat)
  case atStart => exact ⟨0, Nat.zero_le _, rfl, fun j hj => absurd hj (by omega), rfl⟩
  case round =>
    obtain ⟨i, hi, rfl, hall, hwr⟩ := hrel
    rw [hwr]
    by_cases hlt : i < n
    · have hb := hby.out i hlt
      have h25 := h256.out i
      by_cases hg : 48 ≤ X.getD i 0 ∧ X.getD i 0 ≤ 57
      · have hall2 : Hid (∀ j, j < i + 1 → 48 ≤ X.getD j 0 ∧ X.getD j 0 ≤ 57) := fun j hj => by
          rcases Nat.lt_or_ge j i with q | q
          · exact hall.out j q
          · obtain rfl : j = i := by omega
            exact hg
        obtain ⟨g1, g2⟩ := hg
        generalize X.getD i 0 = x at *
        go_wp2
        go_roundw
        case rel => exact ⟨i + 1, by omega, by go_num, hall2, by trivial⟩
        case measure => simp only [intOf]; omega
      · generalize X.getD i 0 = x at *
        rcases Nat.lt_or_ge x 48 with q | q
        · go_wp2
          go_ret
          exact ⟨rfl, rfl⟩
        · have q2 : 57 < x := by omega
          clear hg
          go_wp2
          go_ret
          exact ⟨rfl, rfl⟩
    · have hge : n ≤ i := by omega
      rcases hend.out (fun j hj => hall.out j (by omega)) with h0 | ⟨h2, h0⟩
      · subst h0
        go_wp2
        go_ret
        exact ⟨rfl, rfl⟩
      · have hb := hby.out 0 (by omega)
        rw [h0] at hb
        have hn0 : ((n : Int) == 0) = false := by rw [beq_eq_false_iff_ne]; omega
        have hn1 : (1 : Int) < (n : Int) := by omega
        go_wp2
        go_ret
        exact ⟨rfl, rfl⟩

end Go.Proofs.YtndmhceampggmacDoor
