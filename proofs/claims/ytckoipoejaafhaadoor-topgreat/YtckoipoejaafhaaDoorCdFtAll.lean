/-
  Texts that stood one behind the other, as one.
-/
import Derived.Test.YtckoipoejaafhaaDoorProg
import Derived.Test.YtckoipoejaafhaaDoorCdYAll
import Derived.Test.YtckoipoejaafhaaDoorRows
import Derived.Conc.Holds
import Derived.Handed
import Derived.SevenTiedAt
import Derived.Shelf.Strings.Builder1
import Derived.Shelf.Strings.BuilderF
import Derived.Shelf.Strings.BuilderK
import Derived.Shelf.Strconv.Itoa0
import Derived.Shelf.Strconv.Itoa1
import Derived.Shelf.LaysM
import Derived.Shelf.Strconv.Itoa2
import Derived.Shelf.Bits.Mul64
import Derived.WalkKit
import Derived.Laws.Concat
namespace Go.Proofs.YtckoipoejaafhaaDoor.Cc
open Go
def tFns : Fs := ⟨[14, 17, 20, 21, 22, 25, 26, 27, 29, 31, 36, 38, 39, 40, 45, 46, 47, 48, 49, 54, 55, 57, 58, 59, 60, 68, 76, 81, 83, 93, 94, 95, 97, 98, 99, 100, 101, 102, 108, 128, 129, 136, 138, 139, 140, 143, 154, 155, 156, 157, 158, 159, 160, 161, 162, 163, 164, 165, 166, 167], [(93, 9), (93, 55)]⟩
theorem tAll : FnsAll Tryd.prog tFns := ⟨fun f hf => by
  have hm : f ∈ tFns.l := List.contains_iff_mem.1 hf
  simp only [tFns, List.mem_cons, List.not_mem_nil, or_false] at hm
  rcases hm with rfl | rfl | rfl | rfl | rfl | rfl | rfl | rfl | rfl | rfl | rfl | rfl | rfl | rfl | rfl | rfl | rfl | rfl | rfl | rfl | rfl | rfl | rfl | rfl | rfl | rfl | rfl | rfl | rfl | rfl | rfl | rfl | rfl | rfl | rfl | rfl | rfl | rfl | rfl | rfl | rfl | rfl | rfl | rfl | rfl | rfl | rfl | rfl | rfl | rfl | rfl | rfl | rfl | rfl | rfl | rfl | rfl | rfl | rfl | rfl
  · exact ⟨_, _, Tryd.func14, rfl, by kernel_rfl, by kernel_rfl⟩
  · exact ⟨_, _, Tryd.func17, rfl, by kernel_rfl, by kernel_rfl⟩
  · exact ⟨_, _, Tryd.func20, rfl, by kernel_rfl, by kernel_rfl⟩
  · exact ⟨_, _, Tryd.func21, rfl, by kernel_rfl, by kernel_rfl⟩
  · exact ⟨_, _, Tryd.func22, rfl, by kernel_rfl, by kernel_rfl⟩
  · exact ⟨_, _, Tryd.func25, rfl, by kernel_rfl, by kernel_rfl⟩
  · exact ⟨_, _, Tryd.func26, rfl, by kernel_rfl, by kernel_rfl⟩
  · exact ⟨_, _, Tryd.func27, rfl, by kernel_rfl, by kernel_rfl⟩
  · exact ⟨_, _, Tryd.func29, rfl, by kernel_rfl, by kernel_rfl⟩
  · exact ⟨_, _, Tryd.func31, rfl, by kernel_rfl, by kernel_rfl⟩
  · exact ⟨_, _, Tryd.func36, rfl, by kernel_rfl, by kernel_rfl⟩
  · exact ⟨_, _, Tryd.func38, rfl, by kernel_rfl, by kernel_rfl⟩
  · exact ⟨_, _, Tryd.func39, rfl, by kernel_rfl, by kernel_rfl⟩
  · exact ⟨_, _, Tryd.func40, rfl, by kernel_rfl, by kernel_rfl⟩
  · exact ⟨_, _, Tryd.func45, rfl, by kernel_rfl, by kernel_rfl⟩
  · exact ⟨_, _, Tryd.func46, rfl, by kernel_rfl, by kernel_rfl⟩
  · exact ⟨_, _, Tryd.func47, rfl, by kernel_rfl, by kernel_rfl⟩
  · exact ⟨_, _, Tryd.func48, rfl, by kernel_rfl, by kernel_rfl⟩
  · exact ⟨_, _, Tryd.func49, rfl, by kernel_rfl, by kernel_rfl⟩
  · exact ⟨_, _, Tryd.func54, rfl, by kernel_rfl, by kernel_rfl⟩
  · exact ⟨_, _, Tryd.func55, rfl, by kernel_rfl, by kernel_rfl⟩
  · exact ⟨_, _, Tryd.func57, rfl, by kernel_rfl, by kernel_rfl⟩
  · exact ⟨_, _, Tryd.func58, rfl, by kernel_rfl, by kernel_rfl⟩
  · exact ⟨_, _, Tryd.func59, rfl, by kernel_rfl, by kernel_rfl⟩
  · exact ⟨_, _, Tryd.func60, rfl, by kernel_rfl, by kernel_rfl⟩
  · exact ⟨_, _, Tryd.func68, rfl, by kernel_rfl, by kernel_rfl⟩
  · exact ⟨_, _, Tryd.func76, rfl, by kernel_rfl, by kernel_rfl⟩
  · exact ⟨_, _, Tryd.func81, rfl, by kernel_rfl, by kernel_rfl⟩
  · exact ⟨_, _, Tryd.func83, rfl, by kernel_rfl, by kernel_rfl⟩
  · exact ⟨_, _, Tryd.func93, rfl, by kernel_rfl, by kernel_rfl⟩
  · exact ⟨_, _, Tryd.func94, rfl, by kernel_rfl, by kernel_rfl⟩
  · exact ⟨_, _, Tryd.func95, rfl, by kernel_rfl, by kernel_rfl⟩
  · exact ⟨_, _, Tryd.func97, rfl, by kernel_rfl, by kernel_rfl⟩
  · exact ⟨_, _, Tryd.func98, rfl, by kernel_rfl, by kernel_rfl⟩
  · exact ⟨_, _, Tryd.func99, rfl, by kernel_rfl, by kernel_rfl⟩
  · exact ⟨_, _, Tryd.func100, rfl, by kernel_rfl, by kernel_rfl⟩
  · exact ⟨_, _, Tryd.func101, rfl, by kernel_rfl, by kernel_rfl⟩
  · exact ⟨_, _, Tryd.func102, rfl, by kernel_rfl, by kernel_rfl⟩
  · exact ⟨_, _, Tryd.func108, rfl, by kernel_rfl, by kernel_rfl⟩
  · exact ⟨_, _, Tryd.func128, rfl, by kernel_rfl, by kernel_rfl⟩
  · exact ⟨_, _, Tryd.func129, rfl, by kernel_rfl, by kernel_rfl⟩
  · exact ⟨_, _, Tryd.func136, rfl, by kernel_rfl, by kernel_rfl⟩
  · exact ⟨_, _, Tryd.func138, rfl, by kernel_rfl, by kernel_rfl⟩
  · exact ⟨_, _, Tryd.func139, rfl, by kernel_rfl, by kernel_rfl⟩
  · exact ⟨_, _, Tryd.func140, rfl, by kernel_rfl, by kernel_rfl⟩
  · exact ⟨_, _, Tryd.func143, rfl, by kernel_rfl, by kernel_rfl⟩
  · exact ⟨_, _, Tryd.func154, rfl, by kernel_rfl, by kernel_rfl⟩
  · exact ⟨_, _, Tryd.func155, rfl, by kernel_rfl, by kernel_rfl⟩
  · exact ⟨_, _, Tryd.func156, rfl, by kernel_rfl, by kernel_rfl⟩
  · exact ⟨_, _, Tryd.func157, rfl, by kernel_rfl, by kernel_rfl⟩
  · exact ⟨_, _, Tryd.func158, rfl, by kernel_rfl, by kernel_rfl⟩
  · exact ⟨_, _, Tryd.func159, rfl, by kernel_rfl, by kernel_rfl⟩
  · exact ⟨_, _, Tryd.func160, rfl, by kernel_rfl, by kernel_rfl⟩
  · exact ⟨_, _, Tryd.func161, rfl, by kernel_rfl, by kernel_rfl⟩
  · exact ⟨_, _, Tryd.func162, rfl, by kernel_rfl, by kernel_rfl⟩
  · exact ⟨_, _, Tryd.func163, rfl, by kernel_rfl, by kernel_rfl⟩
  · exact ⟨_, _, Tryd.func164, rfl, by kernel_rfl, by kernel_rfl⟩
  · exact ⟨_, _, Tryd.func165, rfl, by kernel_rfl, by kernel_rfl⟩
  · exact ⟨_, _, Tryd.func166, rfl, by kernel_rfl, by kernel_rfl⟩
  · exact ⟨_, _, Tryd.func167, rfl, by kernel_rfl, by kernel_rfl⟩, by kernel_rfl⟩
end Go.Proofs.YtckoipoejaafhaaDoor.Cc

namespace Go.Proofs.YtckoipoejaafhaaDoor
open Go
theorem card_goes (Lk : Looks) {p : Pinned} {s : OpenSpec} {c : OpenClaim} (kinds : List LaidKind) (tests : Bool) (har : Bool × String) (lk : Bool)
    (hc : c.holds p s) (hw : c.wfByText s = true) (htie : c.laidByTextAt Lk p kinds tests)
    (hst : c.start = .entering) (hnb : c.noBlocks = false ∧ c.again = false) (hm : p.checked.prog.mainIs = some (har.1, har.2.toList)) (hn : (!har.1 && har.2.isEmpty && !lk) = false)
    (hl : ∀ f fn, p.checked.prog.funcNamed c.func = some f → p.checked.prog.funcs[f]? = some fn → lk = p.checked.prog.looks [] ∧ ∀ (j : Nat) t, fn.params[j]? = some t → p.checked.prog.wantsStandIn t = false)
    (hg : true = c.goesBy p.checked.prog) :
    Claim7.holds p (.plain s) { stood := { row := c, standIns := [], harness := har, looks := lk }, kinds := [], alts := [], goes := true, laidByText := true, laidKinds := kinds, laidTests := tests, laidLooks := Lk } := by
  have h6 : Claim7.isSixth { stood := { row := c, standIns := [], harness := har, looks := lk }, kinds := [] } = false := by simpa [Claim7.isSixth] using hn
  have h0 := Claim7.tied_new_at Lk kinds tests (Claim7.new_of_sixth hc har lk hst hnb hm h6 hl) hw
  exact ⟨h0, (fun D hD => by cases hD), htie, (fun h => by cases h), hg⟩
end Go.Proofs.YtckoipoejaafhaaDoor

namespace Go.Proofs
open Go.Shelf
def Tryd.lays169_ren : Go.Shelf.Ren := ⟨fun | 169 => 98 | n => n, fun | 70 => 139 | 9 => 9 | 0 => 0 | 72 => 141 | 37 => 55 | 127 => 178 | 3 => 3 | 5 => 5 | n => n, fun | n => n⟩
theorem Tryd.lays169 : Go.Proofs.Lays.n169 Tryd.prog Tryd.lays169_ren := {
  mixed := by kernel_rfl
  f169 := Tryd.func98.trans (congrArg some (by kernel_rfl))
  t0 := Tryd.underlying0
  a0 := Tryd.isAgg0
  z0 := Tryd.sizeOf0
  v0 := Tryd.zeroValue0
  t3 := Tryd.underlying3
  a3 := Tryd.isAgg3
  z3 := Tryd.sizeOf3
  v3 := Tryd.zeroValue3
  t9 := Tryd.underlying9
  a9 := Tryd.isAgg9
  z9 := Tryd.sizeOf9
  v9 := Tryd.zeroValue9
  t37 := Tryd.underlying55
  a37 := Tryd.isAgg55
  z37 := Tryd.sizeOf55
  v37 := Tryd.zeroValue55
  t70 := Tryd.underlying139
  a70 := Tryd.isAgg139
  z70 := Tryd.sizeOf139
  v70 := Tryd.zeroValue139
  t72 := Tryd.underlying141
  a72 := Tryd.isAgg141
  z72 := Tryd.sizeOf141
  v72 := Tryd.zeroValue141
  t127 := Tryd.underlying178
  a127 := Tryd.isAgg178
  z127 := Tryd.sizeOf178
  v127 := Tryd.zeroValue178 }
theorem Tryd.Builder_Extra_169 : Builder.Extra Tryd.prog Tryd.lays169_ren := {
  sizeBuilder := by kernel_rfl
  liesBuilder := by kernel_rfl
  t5 := Tryd.underlying5
  a5 := Tryd.isAgg5
  z5 := Tryd.sizeOf5
  v5 := Tryd.zeroValue5
  infoByte := by kernel_rfl
  cellsByte := by kernel_rfl
  sizeByte := by kernel_rfl
  neB5 := by decide }
open Go.RowKit in
theorem Tryd.Builder_String (B b : Nat) (l : List UInt8) (w : World) (h : Lib.IsBuilder 141 5 B b (Lib.byteCells l) w) (h0 : l ≠ []) :
    Calls Tryd.prog 98 #[.pointer (some ⟨b, 0, none⟩)] w fun e w' => e = .returned (.string ⟨l.toArray⟩) ∧ Below B w w' := Any.Builder_String Tryd.lays169 Tryd.Builder_Extra_169 B b l w h h0
open Go.RowKit in
theorem Tryd.Builder_String_any (B b : Nat) (l : List UInt8) (w : World) (h : Lib.IsBuilder 141 5 B b (Lib.byteCells l) w) (hBw : B ≤ w.heap.size) :
    Calls Tryd.prog 98 #[.pointer (some ⟨b, 0, none⟩)] w fun e w' => e = .returned (.string ⟨l.toArray⟩) ∧ Below B w w' := Any.Builder_String_any Tryd.lays169 Tryd.Builder_Extra_169 B b l w h hBw
end Go.Proofs

namespace Go.Proofs.YtckoipoejaafhaaDoor
def val (l : List Nat) : Nat := l.foldl (fun v d => v * 10 + d) 0
theorem foldl_val (l : List Nat) (v : Nat) : l.foldl (fun v d => v * 10 + d) v = v * 10 ^ l.length + val l := by
  unfold val
  induction l generalizing v with
  | nil => simp
  | cons d l ih =>
    simp only [List.foldl_cons, List.length_cons, Nat.zero_mul, Nat.zero_add]
    rw [ih, ih d, Nat.pow_succ, Nat.add_mul, Nat.mul_assoc, Nat.mul_comm 10, Nat.add_assoc]
theorem val_nil : val [] = 0 := rfl
theorem val_cons (d : Nat) (l : List Nat) : val (d :: l) = d * 10 ^ l.length + val l := by
  have := foldl_val l d
  unfold val at this ⊢
  simp only [List.foldl_cons, Nat.zero_mul, Nat.zero_add]
  exact this
theorem val_append (a b : List Nat) : val (a ++ b) = val a * 10 ^ b.length + val b := by
  unfold val
  rw [List.foldl_append, foldl_val]
  rfl
theorem val_snoc (a : List Nat) (d : Nat) : val (a ++ [d]) = val a * 10 + d := by rw [val_append]; simp [val]
def Dg (l : List Nat) : Prop := ∀ d ∈ l, d ≤ 9
theorem Dg.cons {d : Nat} {l : List Nat} : Dg (d :: l) ↔ d ≤ 9 ∧ Dg l := by simp [Dg]
theorem pow_pos10 (k : Nat) : 0 < 10 ^ k := Nat.pow_pos (by decide)
theorem dval_lt {l : List Nat} (h : Dg l) : val l < 10 ^ l.length := by
  induction l with
  | nil => simp [val]
  | cons d l ih =>
    obtain ⟨h1, h2⟩ := Dg.cons.mp h
    have := ih h2
    rw [val_cons, List.length_cons, Nat.pow_succ]
    have h3 : d * 10 ^ l.length ≤ 9 * 10 ^ l.length := Nat.mul_le_mul_right _ h1
    omega
def Gt (l : List Nat) : Prop := Dg l ∧ l ≠ [] ∧ (2 ≤ l.length → l.headD 0 ≠ 0)
theorem val_ge {l : List Nat} (h : Gt l) (h2 : 2 ≤ l.length) : 10 ^ (l.length - 1) ≤ val l := by
  obtain ⟨_, _, h3⟩ := h
  cases l with
  | nil => simp at h2
  | cons d l =>
    have hd : d ≠ 0 := h3 h2
    rw [val_cons, List.length_cons, Nat.add_sub_cancel]
    have : 1 * 10 ^ l.length ≤ d * 10 ^ l.length := Nat.mul_le_mul_right _ (by omega)
    omega
theorem pow_mono {a b : Nat} (h : a ≤ b) : 10 ^ a ≤ 10 ^ b := Nat.pow_le_pow_right (by decide) h
theorem Gt.len {l : List Nat} (h : Gt l) {k : Nat} (hk : 1 ≤ k) (hv : val l < 10 ^ k) : l.length ≤ k := by
  rcases Nat.lt_or_ge k l.length with q | q
  · have h1 := val_ge h (by omega)
    have := pow_mono (show k ≤ l.length - 1 by omega)
    omega
  · exact q
theorem Gt.less {a b : List Nat} (ha : Gt a) (hb : Gt b) (h : a.length < b.length) : val a < val b := by
  have h0 : 1 ≤ a.length := by
    rcases Nat.eq_zero_or_pos a.length with q | q
    · exact absurd (List.eq_nil_of_length_eq_zero q) ha.2.1
    · exact q
  have h1 := dval_lt ha.1
  have h2 := val_ge hb (by omega)
  have := pow_mono (show a.length ≤ b.length - 1 by omega)
  omega
theorem dval_inj {a b : List Nat} (ha : Dg a) (hb : Dg b) (hl : a.length = b.length) (hv : val a = val b) : a = b := by
  induction a generalizing b with
  | nil => cases b with
    | nil => rfl
    | cons _ _ => simp at hl
  | cons d a ih => cases b with
    | nil => simp at hl
    | cons e b =>
      simp only [List.length_cons, Nat.add_right_cancel_iff] at hl
      rw [val_cons, val_cons, hl] at hv
      have h1 := dval_lt (Dg.cons.mp ha).2
      have h2 := dval_lt (Dg.cons.mp hb).2
      rw [hl] at h1
      have e1 : d = e := by
        rcases Nat.lt_trichotomy d e with q | q | q
        · have : (d + 1) * 10 ^ b.length ≤ e * 10 ^ b.length := Nat.mul_le_mul_right _ q
          rw [Nat.add_mul, Nat.one_mul] at this
          omega
        · exact q
        · have : (e + 1) * 10 ^ b.length ≤ d * 10 ^ b.length := Nat.mul_le_mul_right _ q
          rw [Nat.add_mul, Nat.one_mul] at this
          omega
      subst e1
      rw [ih (Dg.cons.mp ha).2 (Dg.cons.mp hb).2 hl (by omega)]
theorem Gt.one {a b : List Nat} (ha : Gt a) (hb : Gt b) (hv : val a = val b) : a = b := by
  refine dval_inj ha.1 hb.1 ?_ hv
  rcases Nat.lt_trichotomy a.length b.length with q | q | q
  · have := ha.less hb q; omega
  · exact q
  · have := hb.less ha q; omega
def dgE (l : List Nat) (i : Nat) : Nat := if i < l.length then l.getD (l.length - 1 - i) 0 else 0
def low (l : List Nat) : Nat → Nat
  | 0 => 0
  | i + 1 => low l i + dgE l i * 10 ^ i
structure Sm (a b : List Nat) (i cr : Nat) (o : List Nat) : Prop where
  len : o.length = i
  dg : Dg o
  cr1 : cr ≤ 1
  eq : val o + cr * 10 ^ i = low a i + low b i
def tx (l : List Nat) : List UInt8 := l.map fun d => UInt8.ofNat (48 + d)
theorem tx_length (l : List Nat) : (tx l).length = l.length := by simp [tx]
end Go.Proofs.YtckoipoejaafhaaDoor

namespace Go.Proofs.YtckoipoejaafhaaDoor
open Go.RowKit
set_option maxRecDepth 100000
def bsX (l : List UInt8) : ByteArray := ⟨l.toArray⟩
theorem bsX_append (a b : List UInt8) : bsX a ++ bsX b = bsX (a ++ b) := ByteArray.mk_append_mk a b
def Bt (s : ByteArray) (X : List Nat) : Prop := s.size = X.length ∧ ∀ i (h : i < s.size), (s[i]'h).toNat = X.getD i 0
theorem Bt.all (s : ByteArray) : Bt s (s.data.toList.map fun b => b.toNat) := by
  refine ⟨by rw [List.length_map, Array.length_toList]; rfl, fun i h => ?_⟩
  have h' : i < s.data.size := h
  rw [ByteArray.getElem_eq_getElem_data]
  simp only [List.getD, List.getElem?_map, Array.getElem?_toList, Array.getElem?_eq_getElem h', Option.map_some, Option.getD_some]
theorem Bt.lt {s : ByteArray} {X : List Nat} (h : Bt s X) (i : Nat) : X.getD i 0 < 256 := by
  rcases Nat.lt_or_ge i X.length with q | q
  · rw [← h.2 i (by rw [h.1]; exact q)]
    exact UInt8.toNat_lt _
  · rw [List.getD, List.getElem?_eq_none q]; decide
def by' (ds : List Nat) : List Nat := ds.map fun d => 48 + d
theorem by'_length (ds : List Nat) : (by' ds).length = ds.length := by simp [by']
theorem by'_get (ds : List Nat) (i : Nat) (h : i < ds.length) : (by' ds).getD i 0 = 48 + ds.getD i 0 := by simp [by', List.getD, h]
def Gs (s : ByteArray) (ds : List Nat) : Prop := Gt ds ∧ Bt s (by' ds)
theorem Gs.size {s : ByteArray} {ds : List Nat} (h : Gs s ds) : s.size = ds.length := by rw [h.2.1, by'_length]
theorem Gs.byte {s : ByteArray} {ds : List Nat} (h : Gs s ds) (i : Nat) (hi : i < ds.length) (hs : i < s.size) : (s[i]'hs).toNat = 48 + ds.getD i 0 := by rw [h.2.2 i hs, by'_get ds i hi]
theorem Gs.dg {s : ByteArray} {ds : List Nat} (h : Gs s ds) (i : Nat) : ds.getD i 0 ≤ 9 := by
  rcases Nat.lt_or_ge i ds.length with q | q
  · rw [show ds.getD i 0 = ds[i] by simp [List.getD, q]]; exact h.1.1 _ (List.getElem_mem q)
  · rw [List.getD, List.getElem?_eq_none q]; decide
theorem ref_Great_large (w : World) (s : ByteArray) (h : 2000 < s.size) :
    Calls Tryd.prog 25 #[.string s] w fun e w' => e = .returned (.int .i64 2) ∧ w' = w := by
  go_enter Tryd.func25, Tryd.ntmps25
  go_wp2
  go_ret
  exact ⟨rfl, rfl⟩
set_option maxHeartbeats 1000000 in
theorem ref_Great_ok (w : World) (s : ByteArray) (ds : List Nat) (h : Gs s ds) (h9 : ds.length ≤ 2000) :
    Calls Tryd.prog 25 #[.string s] w fun e w' => e = .returned (.int .i64 0) ∧ w' = w := by
  have hsz := h.size
  have hby : Hid (∀ i, i < ds.length → ∀ hs : i < s.size, (s[i]'hs).toNat = 48 + ds.getD i 0) := h.byte
  have hdg : Hid (∀ i, ds.getD i 0 ≤ 9) := h.dg
  have hne : ds.length ≠ 0 := fun e => h.1.2.1 (List.eq_nil_of_length_eq_zero e)
  have hhd : Hid (2 ≤ ds.length → ds.getD 0 0 ≠ 0) := fun q => by
    have := h.1.2.2 q
    cases ds with
    | nil => simp at q
    | cons d l => exact this
  clear h
  generalize hn : ds.length = n at *
  clear hn
  go_enter Tryd.func25, Tryd.ntmps25
  go_wp2
  go_loopw [3] (fun vi wr => ∃ (i : Nat), i ≤ n ∧ vi = .int .i64 (i : Int) ∧ wr = w)
    (fun vi _ => n - (intOf vi).toNat)
  case atStart => exact ⟨0, Nat.zero_le _, rfl, rfl⟩
  case round =>
    obtain ⟨i, hi, rfl, hwr⟩ := hrel
    rw [hwr]
    by_cases hlt : i < n
    · have hb := hby.out i hlt
      have hd := hdg.out i
      generalize ds.getD i 0 = d at *
      go_wp2
      go_roundw
      case rel => exact ⟨i + 1, by omega, by go_num, by trivial⟩
      case measure => simp only [intOf]; omega
    · have hge : n ≤ i := by omega
      have hn0 : ((n : Int) == 0) = false := by rw [beq_eq_false_iff_ne]; omega
      rcases Nat.lt_or_ge 1 n with h1 | h1
      · have hb := hby.out 0 (by omega)
        have hd := hhd.out (by omega)
        have hd2 := hdg.out 0
        generalize ds.getD 0 0 = d at *
        have hd3 : (48 + (d : Int) == 48) = false := by rw [beq_eq_false_iff_ne]; omega
        go_wp2
        go_ret
        exact ⟨rfl, rfl⟩
      · have h1' : n = 1 := by omega
        subst h1'
        go_wp2
        go_ret
        exact ⟨rfl, rfl⟩
set_option maxHeartbeats 1000000 in
theorem ref_Great_bad (w : World) (s : ByteArray) (h9 : s.size ≤ 2000) (hno : ∀ ds, ¬ Gs s ds) :
    Calls Tryd.prog 25 #[.string s] w fun e w' => e = .returned (.int .i64 3) ∧ w' = w := by
  obtain ⟨X, hX⟩ : ∃ X, Bt s X := ⟨_, Bt.all s⟩
  have hsz := hX.1
  have hby : Hid (∀ i, i < X.length → ∀ hs : i < s.size, (s[i]'hs).toNat = X.getD i 0) := fun i _ hs => hX.2 i hs
  have h256 : Hid (∀ i, X.getD i 0 < 256) := hX.lt
  have hend : Hid ((∀ i, i < X.length → 48 ≤ X.getD i 0 ∧ X.getD i 0 ≤ 57) → X.length = 0 ∨ (2 ≤ X.length ∧ X.getD 0 0 = 48)) := fun hd => by
    rcases Nat.eq_zero_or_pos X.length with q | q
    · exact .inl q
    · right
      have hXe : by' (X.map fun x => x - 48) = X := by
        unfold by'
        rw [List.map_map]
        conv => rhs; rw [← List.map_id X]
        refine List.map_congr_left fun x hx => ?_
        obtain ⟨i, hi, rfl⟩ := List.mem_iff_getElem.mp hx
        have := hd i hi
        rw [show X.getD i 0 = X[i] by simp [List.getD, hi]] at this
        simp only [Function.comp, id]
        omega
      have hDg : Dg (X.map fun x => x - 48) := fun d hd2 => by
        obtain ⟨x, hx, rfl⟩ := List.mem_map.mp hd2
        obtain ⟨i, hi, rfl⟩ := List.mem_iff_getElem.mp hx
        have := hd i hi
        rw [show X.getD i 0 = X[i] by simp [List.getD, hi]] at this
        omega
      have hn := hno (X.map fun x => x - 48)
      by_cases h2 : 2 ≤ X.length
      · refine ⟨h2, ?_⟩
        by_cases h0 : X.getD 0 0 = 48
        · exact h0
        · exfalso
          refine hn ⟨⟨hDg, fun e => ?_, fun _ => ?_⟩, by rw [hXe]; exact hX⟩
          · have := congrArg List.length e; simp at this; rw [this] at q; simp at q
          · cases X with
            | nil => simp at q
            | cons x X =>
              have h48 := hd 0 (by simp)
              simp only [List.getD_cons_zero] at h0 h48
              simp only [List.map_cons, List.headD_cons]
              omega
      · exfalso
        refine hn ⟨⟨hDg, fun e => ?_, fun e => ?_⟩, by rw [hXe]; exact hX⟩
        · have := congrArg List.length e; simp at this; rw [this] at q; simp at q
        · simp at e; omega
  clear hno hX
  generalize hn : X.length = n at *
  clear hn
  go_enter Tryd.func25, Tryd.ntmps25
  go_wp2
  go_loopw [3] (fun vi wr => ∃ (i : Nat), i ≤ n ∧ vi = .int .i64 (i : Int) ∧ Hid (∀ j, j < i → 48 ≤ X.getD j 0 ∧ X.getD j 0 ≤ 57) ∧ wr = w)
    (fun vi _ => n - (intOf vi).toNat)
  case atStart => exact ⟨0, Nat.zero_le _, rfl, fun j hj => absurd hj (by omega), rfl⟩
  case round =>
    obtain ⟨i, hi, rfl, hall, hwr⟩ := hrel
    rw [hwr]
    by_cases hlt : i < n
    · have hb := hby.out i hlt
      have h25 := h256.out i
      by_cases hg : 48 ≤ X.getD i 0 ∧ X.getD i 0 ≤ 57
      · have hall2 : Hid (∀ j, j < i + 1 → 48 ≤ X.getD j 0 ∧ X.getD j 0 ≤ 57) := fun j hj => by
          rcases Nat.lt_or_ge j i with q | q
          · exact hall.out j q
          · obtain rfl : j = i := by omega
            exact hg
        obtain ⟨g1, g2⟩ := hg
        generalize X.getD i 0 = x at *
        go_wp2
        go_roundw
        case rel => exact ⟨i + 1, by omega, by go_num, hall2, by trivial⟩
        case measure => simp only [intOf]; omega
      · generalize X.getD i 0 = x at *
        rcases Nat.lt_or_ge x 48 with q | q
        · go_wp2
          go_ret
          exact ⟨rfl, rfl⟩
        · have q2 : 57 < x := by omega
          clear hg
          go_wp2
          go_ret
          exact ⟨rfl, rfl⟩
    · have hge : n ≤ i := by omega
      rcases hend.out (fun j hj => hall.out j (by omega)) with h0 | ⟨h2, h0⟩
      · subst h0
        go_wp2
        go_ret
        exact ⟨rfl, rfl⟩
      · have hb := hby.out 0 (by omega)
        rw [h0] at hb
        have hn0 : ((n : Int) == 0) = false := by rw [beq_eq_false_iff_ne]; omega
        have hn1 : (1 : Int) < (n : Int) := by omega
        go_wp2
        go_ret
        exact ⟨rfl, rfl⟩
def Gd (s : ByteArray) (ds : List Nat) : Prop := Gs s ds ∧ ds.length ≤ 2000
open Classical in
noncomputable def gchk (s : ByteArray) : Int := if 2000 < s.size then 2 else if ∃ ds, Gs s ds then 0 else 3
theorem gchk_ok {s : ByteArray} {ds : List Nat} (h : Gd s ds) : gchk s = 0 := by
  unfold gchk
  rw [if_neg (by rw [h.1.size]; have := h.2; omega), if_pos ⟨ds, h.1⟩]
theorem gchk_zero {s : ByteArray} (h : gchk s = 0) : ∃ ds, Gd s ds := by
  unfold gchk at h
  split at h
  · cases h
  · next h1 =>
    split at h
    · next h2 =>
      obtain ⟨ds, hd⟩ := h2
      exact ⟨ds, hd, by rw [← hd.size]; omega⟩
    · cases h
noncomputable def gchk2 (s t : ByteArray) : Int := if gchk s = 0 then gchk t else gchk s
theorem ref_Great (w : World) (s : ByteArray) : Calls Tryd.prog 25 #[.string s] w fun e w' => e = .returned (.int .i64 (gchk s)) ∧ w' = w := by
  by_cases h1 : 2000 < s.size
  · have e : gchk s = 2 := by unfold gchk; rw [if_pos h1]
    rw [e]; exact ref_Great_large w s h1
  · by_cases h2 : ∃ ds, Gs s ds
    · have e : gchk s = 0 := by unfold gchk; rw [if_neg h1, if_pos h2]
      obtain ⟨ds, hd⟩ := h2
      rw [e]; exact ref_Great_ok w s ds hd (by rw [← hd.size]; omega)
    · have e : gchk s = 3 := by unfold gchk; rw [if_neg h1, if_neg h2]
      rw [e]; exact ref_Great_bad w s (by omega) (fun ds h => h2 ⟨ds, h⟩)
end Go.Proofs.YtckoipoejaafhaaDoor
