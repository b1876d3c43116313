/-
  Texts by their bytes; what Great of package goldref answers: may a text be a great number?
-/
import Derived.Test.YtndmhceampggmafDoorBigM
import Derived.WalkKit
import Derived.Laws.Concat
namespace Go.Proofs.YtndmhceampggmafDoor
open Go.RowKit

/-- A text by its bytes. -/
def bsX (l : List UInt8) : ByteArray := ⟨l.toArray⟩
theorem bsX_append (a b : List UInt8) : bsX a ++ bsX b = bsX (a ++ b) := ByteArray.mk_append_mk a b
/-- A text reads as these bytes. -/
def Bt (s : ByteArray) (X : List Nat) : Prop := s.size = X.length ∧ ∀ i (h : i < s.size), (s[i]'h).toNat = X.getD i 0
theorem Bt.all (s : ByteArray) : Bt s (s.data.toList.map fun b => b.toNat) := by
  refine ⟨by rw [List.length_map, Array.length_toList]; rfl, fun i h => ?_⟩
  have h' : i < s.data.size := h
  rw [ByteArray.getElem_eq_getElem_data]
  simp only [List.getD, List.getElem?_map, Array.getElem?_toList, Array.getElem?_eq_getElem h', Option.map_some, Option.getD_some]
theorem Bt.lt {s : ByteArray} {X : List Nat} (h : Bt s X) (i : Nat) : X.getD i 0 < 256 := by
  rcases Nat.lt_or_ge i X.length with q | q
  · rw [← h.2 i (by rw [h.1]; exact q)]
    exact UInt8.toNat_lt _
  · rw [List.getD, List.getElem?_eq_none q]; decide
theorem Bt.eq {s t : ByteArray} {X : List Nat} (h : Bt s X) (h' : Bt t X) : s = t := by
  have hs : s.data.size = t.data.size := by have := h.1; have := h'.1; simp only [ByteArray.size] at *; omega
  have : s.data = t.data := by
    apply Array.ext hs
    intro i h1 h2
    have a1 := h.2 i h1
    have a2 := h'.2 i h2
    rw [ByteArray.getElem_eq_getElem_data] at a1 a2
    exact UInt8.toNat_inj.mp (a1.trans a2.symm)
  cases s; cases t; simp_all
/-- The bytes of digits. -/
def by' (ds : List Nat) : List Nat := ds.map fun d => 48 + d
theorem by'_length (ds : List Nat) : (by' ds).length = ds.length := by simp [by']
theorem by'_get (ds : List Nat) (i : Nat) (h : i < ds.length) : (by' ds).getD i 0 = 48 + ds.getD i 0 := by simp [by', List.getD, h]
theorem Bt.txt {ds : List Nat} (h : Dg ds) : Bt (bsX (tx ds)) (by' ds) := by
  have e : (tx ds).map (fun b => b.toNat) = by' ds := by
    unfold tx by'
    rw [List.map_map]
    refine List.map_congr_left fun d hd => ?_
    have := h d hd
    simp only [Function.comp, UInt8.toNat_ofNat']
    omega
  have := Bt.all (bsX (tx ds))
  rw [show (bsX (tx ds)).data.toList = tx ds from rfl, e] at this
  exact this
/-- A text that may be a great number, and its digits. -/
def Gs (s : ByteArray) (ds : List Nat) : Prop := Gt ds ∧ Bt s (by' ds)
theorem Gs.txt {ds : List Nat} (h : Gt ds) : Gs (bsX (tx ds)) ds := ⟨h, Bt.txt h.1⟩
theorem Gs.text {s : ByteArray} {ds : List Nat} (h : Gs s ds) : s = bsX (tx ds) := h.2.eq (Bt.txt h.1.1)
theorem Gs.size {s : ByteArray} {ds : List Nat} (h : Gs s ds) : s.size = ds.length := by rw [h.2.1, by'_length]
theorem Gs.byte {s : ByteArray} {ds : List Nat} (h : Gs s ds) (i : Nat) (hi : i < ds.length) (hs : i < s.size) : (s[i]'hs).toNat = 48 + ds.getD i 0 := by rw [h.2.2 i hs, by'_get ds i hi]
theorem Gs.dg {s : ByteArray} {ds : List Nat} (h : Gs s ds) (i : Nat) : ds.getD i 0 ≤ 9 := by
  rcases Nat.lt_or_ge i ds.length with q | q
  · rw [show ds.getD i 0 = ds[i] by simp [List.getD, q]]; exact h.1.1 _ (List.getElem_mem q)
  · rw [List.getD, List.getElem?_eq_none q]; decide
theorem Gs.same {s t : ByteArray} {a b : List Nat} (h : Gs s a) (h' : Gs t b) (hv : val a = val b) : s = t := by
  have e := h.1.one h'.1 hv
  subst e
  exact h.2.eq h'.2


end Go.Proofs.YtndmhceampggmafDoor
