/-
  Texts that stood one behind the other, as one.
-/
import Derived.Test.YtgkepflnnoociagDoorSlZAll
import Derived.Test.YtgkepflnnoociagDoorRefInAll
import Derived.BigQuiet
import Derived.Test.YtgkepflnnoociagDoorRefN
import Derived.Test.YtgkepflnnoociagDoorSl
import Derived.Test.YtgkepflnnoociagDoorPure
import Derived.Test.YtgkepflnnoociagDoorSlAppAll
import Derived.Test.YtgkepflnnoociagDoorRefPoints
import Derived.OrdersHeld
import Derived.Deep.AppendLies
import Derived.Test.YtgkepflnnoociagDoorRows
import Derived.Maps.OwnOps
import Derived.Maps.OwnSet
/-! What came in as a slice of shares (an int and a number each) reads as a list of pairs. -/
namespace Go.Proofs.YtgkepflnnoociagDoor
open Go.RowKit Go.ChangeShapes Go.WideShapes

theorem u64_nat {a : Int} (h : (Lit.int .u64 a).wf = true) : ∃ n : Nat, a = (n : Int) ∧ (n : Int) < 18446744073709551616 := by
  have b := bounds_u64 h
  exact ⟨a.toNat, by omega, by omega⟩
/-- The struct's fields are an int and a number. -/
def ShrFields (P : Program) (t : TypeId) : Prop := ∃ (fs : Array Field) (f0 f1 : Field), P.underlying t = some (.struct fs) ∧ P.cellsOf t = 2 ∧ fs.size = 2 ∧ fs[0]? = some f0 ∧ fs[1]? = some f1 ∧ f0.offset = 0 ∧ P.cellsOf f0.type = 1 ∧ P.underlying f0.type = some (.int .i64) ∧ f1.offset = 1 ∧ P.cellsOf f1.type = 1 ∧ P.underlying f1.type = some (.int .u64)
/-- A slice of shares reads as a list of pairs. -/
def IsS (w : World) (v : Value) (L : List (Int × Nat)) : Prop :=
  ∃ (a : Option Addr) (cap : Nat), v = .slice a L.length cap ∧ L.length ≤ cap ∧ cap ≤ maxLen ∧
    (∀ i, i < L.length → ∃ b off, a = some ⟨b, off, none⟩ ∧ w.cell? ⟨b, off + i * 2, none⟩ = some (.int .i64 (L.getD i (0, 0)).1) ∧ w.cell? ⟨b, off + (i * 2 + 1), none⟩ = some (.int .u64 (((L.getD i (0, 0)).2 : Nat) : Int))) ∧
    (∀ r ∈ L, (-9223372036854775808 ≤ r.1 ∧ r.1 ≤ 9223372036854775807) ∧ r.2 < 18446744073709551616)
theorem IsS.below {w w' : World} {v : Value} {L : List (Int × Nat)} (h : IsS w v L) (hb : Below w.heap.size w w') : IsS w' v L := by
  obtain ⟨a, cap, rfl, h1, h2, hc, hr⟩ := h
  refine ⟨a, cap, rfl, h1, h2, fun i hi => ?_, hr⟩
  obtain ⟨b, off, rfl, c0, c1⟩ := hc i hi
  exact ⟨b, off, rfl, (hb.cell (block_lt c0)).trans c0, (hb.cell (block_lt c1)).trans c1⟩
theorem IsS.nil (w : World) : IsS w (.slice none 0 0) [] :=
  ⟨none, 0, rfl, by simp, by simp [maxLen], fun i hi => by simp at hi, fun r hr => by cases hr⟩
section
variable {H : Type} {enc : TypeId × Value → H} {P : Program} {w : World} {base : Nat} {spare : Nat → Bool} {held : Bool} {t e : TypeId} {d : DataW H} {p : List MemPlace}
theorem trod_share {fuel : Nat} {cs : List Value} {x : DataW H × List MemPlace} (hf : ShrFields P t) (h : DataW.trod enc P w base spare held fuel t cs = some x) :
    ∃ (z : Int) (y : Nat), cs.length = 2 ∧ cs[0]? = some (.int .i64 z) ∧ cs[1]? = some (.int .u64 (y : Int)) ∧ (-9223372036854775808 ≤ z ∧ z ≤ 9223372036854775807) ∧ y < 18446744073709551616 := by
  obtain ⟨fs, f0, f1, ht, hc, hs, h0, h1, o0, c0, u0, o1, c1, u1⟩ := hf
  obtain ⟨xs, m, _, _, hl, hxs, hx⟩ := DataW.trod_struct ht h
  have hx0 := hx 0 _ h0
  have hx1 := hx 1 _ h1
  have e0 : xs[0]? = some (xs[0]'(by omega)) := List.getElem?_eq_getElem _
  have e1 : xs[1]? = some (xs[1]'(by omega)) := List.getElem?_eq_getElem _
  rw [e0, o0, c0] at hx0
  rw [e1, o1, c1] at hx1
  obtain ⟨z, ez, _, hz⟩ := DataW.trod_int u0 hx0
  obtain ⟨y, ey, _, hy⟩ := DataW.trod_int u1 hx1
  obtain ⟨y', rfl, hy'⟩ := u64_nat hy
  refine ⟨z, y', by rw [hl, hc], ?_, ?_, bounds_i64 hz, by omega⟩
  · have := congrArg (fun (l : List Value) => l[0]?) ez
    simpa [List.getElem?_take, List.getElem?_drop] using this
  · have := congrArg (fun (l : List Value) => l[0]?) ey
    simpa [List.getElem?_take, List.getElem?_drop] using this
theorem trod_shares {fuel : Nat} {cs : List Value} {x : DataW H × List MemPlace} (ht : P.underlying t = some (.slice e)) (hf : ShrFields P e) (h : DataW.trod enc P w base spare held fuel t cs = some x) :
    ∃ v L, cs = [v] ∧ IsS w v L := by
  have hc : P.cellsOf e = 2 := by obtain ⟨_, _, _, _, h, _⟩ := hf; exact h
  rcases DataW.trod_slice ht h with ⟨rfl, rfl⟩ | ⟨a, len, cap, elems, rest, m, _, rfl, rfl, hb, hl, hm, hlen, hel, _, _⟩
  · exact ⟨_, [], rfl, IsS.nil w⟩
  · have hrow : ∀ i, i < len → ∃ y : Int × Nat, w.cell? (a.add (i * 2)) = some (.int .i64 y.1) ∧ w.cell? (a.add (i * 2 + 1)) = some (.int .u64 (y.2 : Int)) ∧ (-9223372036854775808 ≤ y.1 ∧ y.1 ≤ 9223372036854775807) ∧ y.2 < 18446744073709551616 := by
      intro i hi
      have h1 := hel i hi
      have hsome : elems[i]? = some (elems[i]'(by omega)) := List.getElem?_eq_getElem _
      rw [hsome, hc] at h1
      obtain ⟨cs, hcs, htr⟩ := Option.bind_eq_some_iff.mp h1
      obtain ⟨z, y, hl2, ez, ey, hz, hy⟩ := trod_share hf htr
      obtain ⟨_, _, hcell⟩ := World.cells?_some hcs
      have q0 := hcell 0 (by omega)
      have q1 := hcell 1 (by omega)
      rw [Addr.add_add, Nat.add_zero, ez] at q0
      rw [Addr.add_add, ey] at q1
      exact ⟨(z, y), q0, q1, hz, hy⟩
    obtain ⟨L, hL, hQ⟩ := list_all (0, 0) (fun i (y : Int × Nat) => w.cell? (a.add (i * 2)) = some (.int .i64 y.1) ∧ w.cell? (a.add (i * 2 + 1)) = some (.int .u64 (y.2 : Int)) ∧ (-9223372036854775808 ≤ y.1 ∧ y.1 ≤ 9223372036854775807) ∧ y.2 < 18446744073709551616) len hrow
    refine ⟨_, L, rfl, some a, cap, by rw [hL], by omega, hm, fun i hi => ?_, fun r hr => ?_⟩
    · obtain ⟨c0, c1, _, _⟩ := hQ i (by omega)
      obtain ⟨b0, _, _, _⟩ := hQ 0 (by omega)
      obtain ⟨b, off, spot⟩ := a
      have hspot : spot = none := by simpa [Addr.add] using World.cell?_spot b0
      subst hspot
      exact ⟨b, off, rfl, by rw [← add_plain]; exact c0, by rw [← add_plain]; exact c1⟩
    · obtain ⟨i, hi, rfl⟩ := List.mem_iff_getElem.mp hr
      obtain ⟨_, _, h1, h2⟩ := hQ i (by omega)
      rw [List.getD, List.getElem?_eq_getElem hi] at h1 h2
      exact ⟨h1, h2⟩
/-- A slice of shares that came in. -/
theorem isS_of_arg {v : Value} {r : Reach} {b0 : Nat} (ht : P.underlying t = some (.slice e)) (hf : ShrFields P e) (hval : Value.okWide P w r b0 t v) (h : DataW.Trod enc P w base spare held t v d p) : ∃ L, IsS w v L := by
  obtain ⟨a, len, cap, rfl⟩ := okWide_slice ht hval
  obtain ⟨fuel, h⟩ := h
  obtain ⟨v, L, e, hL⟩ := trod_shares ht hf h
  have e2 : [Value.slice a len cap] = [v] := e
  rw [List.cons.inj e2 |>.1]
  exact ⟨L, hL⟩
end

end Go.Proofs.YtgkepflnnoociagDoor

/-! What Shares of package goldref answers: what is wrong with shares. -/
namespace Go.Proofs.YtgkepflnnoociagDoor
open Go.RowKit

/-- Where share i stands. -/
def atS (L : List (Int × Nat)) (i : Nat) : Int := (L.getD i (0, 0)).1
/-- The first i shares stand where they may, no two at one place. -/
def ShK (L : List (Int × Nat)) (i : Nat) : Prop := (∀ p, p < i → 0 ≤ atS L p ∧ atS L p ≤ 63) ∧ ∀ p q, q < p → p < i → atS L q ≠ atS L p
theorem ShK.zero (L : List (Int × Nat)) : ShK L 0 := ⟨fun p hp => by omega, fun p q _ hp => by omega⟩
theorem ShK.succ {L : List (Int × Nat)} {i : Nat} (h : ShK L i) (h1 : 0 ≤ atS L i ∧ atS L i ≤ 63) (h2 : ∀ q, q < i → atS L q ≠ atS L i) : ShK L (i + 1) := by
  refine ⟨fun p hp => ?_, fun p q hq hp => ?_⟩
  · rcases Nat.lt_or_ge p i with r | r
    · exact h.1 p r
    · obtain rfl : p = i := by omega
      exact h1
  · rcases Nat.lt_or_ge p i with r | r
    · exact h.2 p q hq r
    · obtain rfl : p = i := by omega
      exact h2 q hq
open Classical in
/-- The error of shares. -/
noncomputable def shE (k : Int) (L : List (Int × Nat)) : Int := if 1 ≤ k ∧ k ≤ 64 then (if ShK L L.length then 0 else 5) else 1
theorem shE_arg {k : Int} {L : List (Int × Nat)} (h : ¬ (1 ≤ k ∧ k ≤ 64)) : shE k L = 1 := by unfold shE; rw [if_neg h]
theorem shE_ok {k : Int} {L : List (Int × Nat)} (h : 1 ≤ k ∧ k ≤ 64) (h2 : ShK L L.length) : shE k L = 0 := by unfold shE; rw [if_pos h, if_pos h2]
theorem shE_form {k : Int} {L : List (Int × Nat)} (h : 1 ≤ k ∧ k ≤ 64) (h2 : ¬ ShK L L.length) : shE k L = 5 := by unfold shE; rw [if_pos h, if_neg h2]

end Go.Proofs.YtgkepflnnoociagDoor

/-! What Add and Mul of package goldref answer, for all numbers of 64 bits: the same numbers as those of package field. -/
namespace Go.Proofs.YtgkepflnnoociagDoor
open Go.RowKit

/-! ### Mul: doubled, bit by bit -/
theorem half_step (y t : Nat) : y / 2 ^ t = 2 * (y / 2 ^ (t + 1)) + y / 2 ^ t % 2 := by
  rw [Nat.pow_succ, ← Nat.div_div_eq_div_mul]; omega

theorem mul_dbl (x y t : Nat) (h : y / 2 ^ t % 2 = 0) : fA (fM x (y / 2 ^ (t + 1))) (fM x (y / 2 ^ (t + 1))) = fM x (y / 2 ^ t) := by
  have e := half_step y t
  rw [h] at e
  rw [e, fA_eq, fM_eq, fM_eq, ← Nat.add_mod]
  congr 1
  grind
theorem mul_dbl1 (x y t : Nat) (h : y / 2 ^ t % 2 = 1) : fA (fA (fM x (y / 2 ^ (t + 1))) (fM x (y / 2 ^ (t + 1)))) x = fM x (y / 2 ^ t) := by
  have e := half_step y t
  rw [h] at e
  rw [e, fA_eq, fA_eq, fM_eq, fM_eq, ← Nat.add_mod, Nat.mod_add_mod]
  congr 1
  grind
theorem fM_fN (a b : Nat) : fM (fN a) (fN b) = fM a b := by
  rw [fM_eq, fM_eq, fN_eq, fN_eq, ← Nat.mul_mod]
theorem div_top (x y : Nat) (hy : (y : Int) < 18446744073709551616) : fM x (y / 2 ^ 64) = 0 := by
  have e : y / 2 ^ 64 = 0 := Nat.div_eq_of_lt (by omega)
  rw [e, fM_eq]; rfl
theorem bit_cast (y t : Nat) : ((y : Int) / 2 ^ t).tmod 2 = ((y / 2 ^ t % 2 : Nat) : Int) := by
  have e : (y : Int) / 2 ^ t = ((y / 2 ^ t : Nat) : Int) := by rw [Int.natCast_ediv, Int.natCast_pow]; rfl
  rw [e]
  generalize y / 2 ^ t = z
  rw [Int.tmod_eq_emod_of_nonneg (by omega)]; omega

end Go.Proofs.YtgkepflnnoociagDoor

/-! What Eval of package goldref answers: the value of a polynomial at a place. -/
namespace Go.Proofs.YtgkepflnnoociagDoor
open Go.RowKit

/-- The first k summands; the k-th power. -/
def evK (xs : List Nat) (x k : Nat) : Nat := (S k (fun i => gf (xs.map toF) i * pw (toF x) i)).val
def pwK (x k : Nat) : Nat := (pw (toF x) k).val
theorem evK_succ (xs : List Nat) (x k : Nat) : fA (evK xs x k) (fM (xs.getD k 0) (pwK x k)) = evK xs x (k + 1) := by
  unfold evK pwK
  rw [S_succ, fA_val, toF_val, toF_fM, toF_val, ← cf_gf]; rfl
theorem pwK_succ (x k : Nat) : fM (pwK x k) x = pwK x (k + 1) := by
  unfold pwK
  rw [fM_val, toF_val, pw_succ]
theorem evK_all (xs : List Nat) (x : Nat) : evK xs x xs.length = pE xs x := by
  unfold evK pE
  rw [evF_S, List.length_map]
theorem evK_lt (xs : List Nat) (x k : Nat) : (evK xs x k : Int) < 18446744069414584321 := lt_int (val_lt _)
theorem pwK_lt (x k : Nat) : (pwK x k : Int) < 18446744069414584321 := lt_int (val_lt _)
theorem pE_lt (xs : List Nat) (x : Nat) : (pE xs x : Int) < 18446744069414584321 := lt_int (val_lt _)

end Go.Proofs.YtgkepflnnoociagDoor

/-! What Pow of package goldref answers, for all numbers of 64 bits: the same number as that of package field. -/
namespace Go.Proofs.YtgkepflnnoociagDoor
open Go.RowKit

/-! ### Pow: from the highest bit -/
theorem pow_dbl (x y t : Nat) (h : y / 2 ^ t % 2 = 0) : fM (fW x (y / 2 ^ (t + 1))) (fW x (y / 2 ^ (t + 1))) = fW x (y / 2 ^ t) := by
  have e := half_step y t
  rw [h] at e
  rw [e, fM_eq, fW_eq, fW_eq, ← Nat.mul_mod, ← Nat.pow_add]
  congr 2
  omega
theorem pow_dbl1 (x y t : Nat) (h : y / 2 ^ t % 2 = 1) : fM (fM (fW x (y / 2 ^ (t + 1))) (fW x (y / 2 ^ (t + 1)))) x = fW x (y / 2 ^ t) := by
  have e := half_step y t
  rw [h] at e
  rw [e, fM_eq, fM_eq, fW_eq, fW_eq, ← Nat.mul_mod, ← Nat.pow_add, Nat.mod_mul_mod, ← Nat.pow_succ]
  congr 2
  omega
theorem pow_top (x y : Nat) (hy : (y : Int) < 18446744073709551616) : fW x (y / 2 ^ 64) = 1 := by
  have e : y / 2 ^ 64 = 0 := Nat.div_eq_of_lt (by omega)
  rw [e, fW_eq, Nat.pow_zero]; rfl

end Go.Proofs.YtgkepflnnoociagDoor

/-! What Root and In of package goldref answer: a root is the power of 7; a number lies between two others or not. -/
namespace Go.Proofs.YtgkepflnnoociagDoor
open Go.RowKit

theorem half_half (i : Nat) : 18446744069414584320 / 2 ^ (i + 1) = 18446744069414584320 / 2 ^ i / 2 := by
  rw [Nat.pow_succ, Nat.div_div_eq_div_mul]

end Go.Proofs.YtgkepflnnoociagDoor

/-! What Symbols of package goldref answers: the values of a polynomial at powers of the root. -/
namespace Go.Proofs.YtgkepflnnoociagDoor
open Go.RowKit

/-- Symbol i of data. -/
def symF (xs : List Nat) (i : Nat) : F := evF (xs.map toF) (pw (toF (rt 6)) i)
theorem symF_val (xs : List Nat) (i : Nat) : (symF xs i).val = pE xs (fW (rt 6) i) := by unfold symF pE; rw [toF_fW]

end Go.Proofs.YtgkepflnnoociagDoor

/-! Shares as points: which data has them as its symbols; one at most where there are enough; no program in sight. -/
namespace Go.Proofs.YtgkepflnnoociagDoor

/-- Share i's symbol. -/
def syS (L : List (Int × Nat)) (i : Nat) : Nat := (L.getD i (0, 0)).2
/-- The place of share i: a power of the root. -/
def plS (L : List (Int × Nat)) (i : Nat) : F := pw (toF (rt 6)) (atS L i).toNat
/-- The list has all these shares as its symbols. -/
def Has (l : List Nat) (L : List (Int × Nat)) (n : Nat) : Prop := ∀ i, i < n → evF (l.map toF) (plS L i) = toF (syS L i)
theorem plS_ne {L : List (Int × Nat)} {n : Nat} (h : ShK L n) {i j : Nat} (hij : i < j) (hj : j < n) : plS L i ≠ plS L j := by
  intro e
  have h1 := h.1 i (by omega)
  have h2 := h.1 j hj
  have := (ord_rt 6 (by omega)).inj (i := (atS L i).toNat) (j := (atS L j).toNat) (by omega) (by omega) e
  exact h.2 j i hij hj (by omega)
theorem Has.nrm {l : List Nat} {L : List (Int × Nat)} {n : Nat} (h : Has l L n) : Has (pN l) L n := fun i hi => by rw [ev_pN]; exact h i hi
theorem ev_mk_cf {l : List Nat} {k : Nat} (hl : l.length ≤ k) (x : F) : evF ((mk k (cf l)).map toF) x = evF (l.map toF) x := by
  apply evF_ext
  intro i
  rw [gf_map, gf_map, cf_mk_of (fun i hi => cf_ge (by omega))]
/-- At most one list of k numbers, where there are k shares. -/
theorem Has.one {a b : List Nat} {L : List (Int × Nat)} {k : Nat} (hS : ShK L k) (ha : a.length ≤ k) (hb : b.length ≤ k) (h1 : Has a L k) (h2 : Has b L k) : pN a = pN b := by
  have g1 : Goes (pN a) k (plS L) (fun i => toF (syS L i)) := ⟨pN_pN _, by rw [pN_length]; have := sig_le a; omega, fun i hi => h1.nrm i hi⟩
  have g2 : Goes (pN b) k (plS L) (fun i => toF (syS L i)) := ⟨pN_pN _, by rw [pN_length]; have := sig_le b; omega, fun i hi => h2.nrm i hi⟩
  exact Goes_unique (fun i j hij hj => plS_ne hS hij hj) g1 g2
/-- The lists that go through the first n shares: what Through is asked. -/
def xsS (L : List (Int × Nat)) (n : Nat) : List Nat := (List.range n).map fun i => fW (rt 6) (atS L i).toNat
def ysS (L : List (Int × Nat)) (n : Nat) : List Nat := (List.range n).map fun i => syS L i
theorem getD_rmap (f : Nat → Nat) (n i : Nat) (h : i < n) : ((List.range n).map f).getD i 0 = f i := by simp [List.getD, h]
theorem xsS_length (L : List (Int × Nat)) (n : Nat) : (xsS L n).length = n := by simp [xsS]
theorem ysS_length (L : List (Int × Nat)) (n : Nat) : (ysS L n).length = n := by simp [ysS]
theorem xsS_cf (L : List (Int × Nat)) (n i : Nat) (h : i < n) : cf (xsS L n) i = plS L i := by
  unfold cf plS xsS
  rw [getD_rmap _ n i h, toF_fW]
theorem ysS_cf (L : List (Int × Nat)) (n i : Nat) (h : i < n) : cf (ysS L n) i = toF (syS L i) := by
  unfold cf ysS
  rw [getD_rmap _ n i h]
theorem Goes.has {l : List Nat} {L : List (Int × Nat)} {n : Nat} (h : Goes l n (cf (xsS L n)) (cf (ysS L n))) : Has l L n := fun i hi => by
  have := h.2.2 i hi
  rw [xsS_cf _ _ _ hi, ysS_cf _ _ _ hi] at this
  exact this
/-- Some list of n numbers goes through n points. -/
theorem goes_ex (xs ys : List Nat) (hd : ∀ i j, i < j → j < xs.length → cf xs i ≠ cf xs j) : ∃ l, Goes l xs.length (cf xs) (cf ys) := by
  have hw : ∀ i, i ≤ xs.length → ∃ l z, Way xs ys l i ∧ Zer xs z i := by
    intro i
    induction i with
    | zero => intro _; exact ⟨_, _, Way_start xs ys, Zer_start xs⟩
    | succ i ih =>
      intro hi
      obtain ⟨l, z, h1, h2⟩ := ih (by omega)
      have hne : zp (cf xs) i (cf xs i) ≠ 0 := zp_ne _ _ _ (fun j hj => (hd j i hj (by omega)).symm)
      have hv : zp (cf xs) i (cf xs i) * toF (inv (zp (cf xs) i (cf xs i))).val = 1 := by rw [toF_val]; exact mul_inv hne
      exact ⟨_, _, Way_step (by omega) h1 h2 hv, Zer_step h2⟩
  obtain ⟨l, _, h, _⟩ := hw _ (Nat.le_refl _)
  exact ⟨_, Way_end h⟩
theorem has_ex {L : List (Int × Nat)} {n : Nat} (hS : ShK L n) : ∃ l, Goes l n (cf (xsS L n)) (cf (ysS L n)) := by
  have := goes_ex (xsS L n) (ysS L n) (fun i j hij hj => by
    rw [xsS_length] at hj
    rw [xsS_cf _ _ _ (by omega), xsS_cf _ _ _ hj]
    exact plS_ne hS hij hj)
  rw [xsS_length] at this
  exact this
/-- Some data of k numbers has all of them. -/
def FitK (k : Nat) (L : List (Int × Nat)) : Prop := ∃ l : List Nat, l.length = k ∧ Has l L L.length
theorem FitK.few {k : Nat} {L : List (Int × Nat)} (hS : ShK L L.length) (h : L.length ≤ k) : FitK k L := by
  obtain ⟨l, hl⟩ := has_ex hS
  refine ⟨mk k (cf l), mk_length _ _, fun i hi => ?_⟩
  rw [ev_mk_cf (by have := hl.2.1; omega)]
  exact hl.has i hi
/-- What goes through the first k is asked of all. -/
theorem FitK.ask {k : Nat} {L : List (Int × Nat)} {l : List Nat} (hS : ShK L L.length) (hk : k ≤ L.length) (hl : Goes l k (cf (xsS L k)) (cf (ysS L k))) : FitK k L ↔ Has l L L.length := by
  have hSk : ShK L k := ⟨fun p hp => hS.1 p (by omega), fun p q hq hp => hS.2 p q hq (by omega)⟩
  constructor
  · rintro ⟨d, hd, hh⟩ i hi
    have := Has.one hSk (by omega) hl.2.1 (fun i hi => hh i (by omega)) hl.has
    rw [hl.1] at this
    rw [← this, ev_pN]
    exact hh i hi
  · intro hh
    refine ⟨mk k (cf l), mk_length _ _, fun i hi => ?_⟩
    rw [ev_mk_cf hl.2.1]
    exact hh i hi
/-- The data that is told: k numbers. -/
theorem Has.data {k : Nat} {L : List (Int × Nat)} {l d : List Nat} (hS : ShK L L.length) (hk : k ≤ L.length) (hl : Goes l k (cf (xsS L k)) (cf (ysS L k))) (hd : d.length = k) (hh : Has d L L.length) : mk k (cf l) = mk k (cf d) := by
  have hSk : ShK L k := ⟨fun p hp => hS.1 p (by omega), fun p q hq hp => hS.2 p q hq (by omega)⟩
  have := Has.one hSk (by omega) hl.2.1 (fun i hi => hh i (by omega)) hl.has
  refine mk_congr fun i _ => ?_
  rw [← cf_pN l, ← this, cf_pN]

end Go.Proofs.YtgkepflnnoociagDoor

/-! What package share answers, as functions of what it is handed. -/
namespace Go.Proofs.YtgkepflnnoociagDoor

def EnOk (xs : List Nat) (n : Int) : Prop := 0 < xs.length ∧ (1 ≤ n ∧ n ≤ 64) ∧ (xs.length : Int) ≤ n
open Classical in
/-- Encode's error, and its symbols. -/
noncomputable def enE (xs : List Nat) (n : Int) : Int := if EnOk xs n then 0 else 1
open Classical in
noncomputable def enL (xs : List Nat) (n : Int) : List Nat := if EnOk xs n then mk n.toNat (symF xs) else []
open Classical in
/-- Recover's error, and its data. -/
noncomputable def rcE (k : Int) (L : List (Int × Nat)) : Int := if shE k L = 0 then (if (L.length : Int) < k then 4 else if FitK k.toNat L then 0 else 5) else shE k L
open Classical in
noncomputable def rcL (k : Int) (L : List (Int × Nat)) : List Nat := if h : shE k L = 0 ∧ ¬ (L.length : Int) < k ∧ FitK k.toNat L then mk k.toNat (cf (Classical.choose h.2.2)) else []
open Classical in
/-- What Fits tells. -/
noncomputable def ftB (k : Int) (L : List (Int × Nat)) : Bool := decide (shE k L = 0 ∧ FitK k.toNat L)
theorem shE_zero {k : Int} {L : List (Int × Nat)} (h : shE k L = 0) : (1 ≤ k ∧ k ≤ 64) ∧ ShK L L.length := by
  unfold shE at h
  split at h
  · next h1 =>
    split at h
    · next h2 => exact ⟨h1, h2⟩
    · cases h
  · cases h
theorem rcE_bad {k : Int} {L : List (Int × Nat)} (h : shE k L ≠ 0) : rcE k L = shE k L ∧ rcL k L = [] ∧ ftB k L = false := by
  refine ⟨by unfold rcE; rw [if_neg h], by unfold rcL; rw [dif_neg (fun q => h q.1)], by unfold ftB; rw [decide_eq_false_iff_not]; exact fun q => h q.1⟩
theorem rcE_few {k : Int} {L : List (Int × Nat)} (h : shE k L = 0) (hl : (L.length : Int) < k) : rcE k L = 4 ∧ rcL k L = [] ∧ ftB k L = true := by
  refine ⟨by unfold rcE; rw [if_pos h, if_pos hl], by unfold rcL; rw [dif_neg (fun q => q.2.1 hl)], by unfold ftB; simp only [decide_eq_true_eq]; exact ⟨h, FitK.few (shE_zero h).2 (by omega)⟩⟩
theorem rcE_form {k : Int} {L : List (Int × Nat)} (h : shE k L = 0) (hl : ¬ (L.length : Int) < k) (hf : ¬ FitK k.toNat L) : rcE k L = 5 ∧ rcL k L = [] ∧ ftB k L = false := by
  refine ⟨by unfold rcE; rw [if_pos h, if_neg hl, if_neg hf], by unfold rcL; rw [dif_neg (fun q => hf q.2.2)], by unfold ftB; rw [decide_eq_false_iff_not]; exact fun q => hf q.2⟩
theorem rcE_ok {k : Int} {L : List (Int × Nat)} {d : List Nat} (h : shE k L = 0) (hl : ¬ (L.length : Int) < k) (hd : d.length = k.toNat) (hh : Has d L L.length) : rcE k L = 0 ∧ rcL k L = mk k.toNat (cf d) ∧ ftB k L = true := by
  have hf : FitK k.toNat L := ⟨d, hd, hh⟩
  refine ⟨by unfold rcE; rw [if_pos h, if_neg hl, if_pos hf], ?_, by unfold ftB; simp only [decide_eq_true_eq]; exact ⟨h, hf⟩⟩
  have hS := (shE_zero h).2
  have hk : k.toNat ≤ L.length := by omega
  unfold rcL
  rw [dif_pos ⟨h, hl, hf⟩]
  have hc := Classical.choose_spec hf
  have hSk : ShK L k.toNat := ⟨fun p hp => hS.1 p (by omega), fun p q hq hp => hS.2 p q hq (by omega)⟩
  have e := Has.one hSk (by omega) (by omega) (fun i hi => hc.2 i (by omega)) (fun i hi => hh i (by omega))
  refine mk_congr fun i _ => ?_
  rw [← cf_pN, e, cf_pN]
theorem rcE_cases (k : Int) (L : List (Int × Nat)) (h : shE k L = 0) : ((L.length : Int) < k ∧ rcE k L = 4 ∧ rcL k L = [] ∧ ftB k L = true) ∨ (¬ (L.length : Int) < k ∧ rcE k L = 5 ∧ rcL k L = [] ∧ ftB k L = false) ∨ (¬ (L.length : Int) < k ∧ rcE k L = 0 ∧ ftB k L = true) := by
  by_cases hl : (L.length : Int) < k
  · exact .inl ⟨hl, rcE_few h hl⟩
  · by_cases hf : FitK k.toNat L
    · obtain ⟨d, hd, hh⟩ := hf
      obtain ⟨h1, _, h3⟩ := rcE_ok h hl hd hh
      exact .inr (.inr ⟨hl, h1, h3⟩)
    · exact .inr (.inl ⟨hl, rcE_form h hl hf⟩)

end Go.Proofs.YtgkepflnnoociagDoor

/-! Two rows of the call's own, each appended to; shares as points. -/
namespace Go.Proofs.YtgkepflnnoociagDoor
open Go.RowKit

section
variable {P : Program} {ops : Array Oper} {Q : Exit → Act → World → Prop} {md : Region.Mode} {S : World → Prop}
theorem wpAnyH_oneD {i : Nat} {o : Oper} {fuel : Nat} {listed : Array Bool} {a : Act} {w : World} (ho : ops[i]? = some o) (hr : Region.ready md ops listed = [i])
    (h : ∀ K' : Act → World → Prop, Hid (∀ a' w', S w' → wpAnyH P md ops Q S fuel (listed.setIfInBounds i true) a' w' → K' a' w') → if Region.wanted o (yielded ops a.tmps) = true then Oper.wp P o a w K' Q else K' (a.put o.dst undef) w) : wpAnyH P md ops Q S (fuel + 1) listed a w := by
  refine wpAnyH_all hr (by simp) fun j hj => ?_
  simp only [List.mem_singleton] at hj
  subst hj
  exact wpOp_step ho (fun K' hK => h K' (fun a' w' hS hW => hK a' w' ⟨hS, hW⟩))
theorem wpAnyH_two {i j : Nat} {o o' : Oper} {fuel : Nat} {listed : Array Bool} {a : Act} {w : World} (ho : ops[i]? = some o) (ho' : ops[j]? = some o') (hr : Region.ready md ops listed = [i, j])
    (h : ∀ K' : Act → World → Prop, Hid (∀ a' w', S w' → wpAnyH P md ops Q S fuel (listed.setIfInBounds i true) a' w' → K' a' w') → if Region.wanted o (yielded ops a.tmps) = true then Oper.wp P o a w K' Q else K' (a.put o.dst undef) w)
    (h' : ∀ K' : Act → World → Prop, Hid (∀ a' w', S w' → wpAnyH P md ops Q S fuel (listed.setIfInBounds j true) a' w' → K' a' w') → if Region.wanted o' (yielded ops a.tmps) = true then Oper.wp P o' a w K' Q else K' (a.put o'.dst undef) w) : wpAnyH P md ops Q S (fuel + 1) listed a w := by
  refine wpAnyH_all hr (by simp) fun k hk => ?_
  simp only [List.mem_cons, List.not_mem_nil, or_false] at hk
  rcases hk with e | e
  · subst e
    exact wpOp_step ho (fun K' hK => h K' (fun a' w' hS hW => hK a' w' ⟨hS, hW⟩))
  · subst e
    exact wpOp_step ho' (fun K' hK => h' K' (fun a' w' hS hW => hK a' w' ⟨hS, hW⟩))
theorem wp_region_HD {id : Nat} {a : Act} {w : World} (hm : P.follows .mixedOrders = true)
    (h : wpAnyH P .any ops Q S ops.size (Array.replicate ops.size false) a w.drew) : (Code.region id ops true).wp P Q a w := wp_region_held hm h
end

theorem Ow.grown {B : Nat} {w w' : World} {v : Value} {xs : List Nat} {row : Option Nat} (h : Ow B w v xs) (hg : w.grownBy w' row) (hne : ∀ g, v.ownBlock = some g → some g ≠ row) : Ow B w' v xs := by
  refine ⟨h.1, ?_⟩
  rcases h.2 with h2 | ⟨g, cap, cur, hv, hB, hh, r⟩
  · exact Or.inl h2
  · have hlt : g < w.heap.size := by
      rcases Nat.lt_or_ge g w.heap.size with hl | hl
      · exact hl
      · rw [Array.getElem?_eq_none hl] at hh; cases hh
    exact Or.inr ⟨g, cap, cur, hv, hB, (hg.block g hlt (hne g (by rw [hv]; rfl))).trans hh, r⟩
theorem Ow.lt {B : Nat} {w : World} {v : Value} {xs : List Nat} (h : Ow B w v xs) {g : Nat} (e : v.ownBlock = some g) : g < w.heap.size := by
  rcases h.2 with ⟨rfl, _⟩ | ⟨g', cap, cur, rfl, hB, hh, r⟩
  · simp [Value.ownBlock] at e
  · simp [Value.ownBlock] at e
    subst e
    rcases Nat.lt_or_ge g' w.heap.size with hl | hl
    · exact hl
    · rw [Array.getElem?_eq_none hl] at hh; cases hh
/-- Two rows of the call's own, apart from each other. -/
structure Two (w0 w : World) (vx vy : Value) (X Y : List Nat) : Prop where
  ox : Ow w0.heap.size w vx X
  oy : Ow w0.heap.size w vy Y
  ap : ∀ g, vx.ownBlock = some g → vy.ownBlock ≠ some g
  bl : Below w0.heap.size w0 w
theorem Two.swap {w0 w : World} {vx vy : Value} {X Y : List Nat} (h : Two w0 w vx vy X Y) : Two w0 w vy vx Y X := ⟨h.oy, h.ox, fun g e q => h.ap g q e, h.bl⟩
theorem Two.below {w0 w w' : World} {vx vy : Value} {X Y : List Nat} (h : Two w0 w vx vy X Y) (hb : Below w.heap.size w w') : Two w0 w' vx vy X Y :=
  ⟨h.ox.below hb, h.oy.below hb, h.ap, h.bl.trans (hb.mono h.bl.size)⟩
theorem Two.fresh {w0 w : World} {vx vy : Value} {X Y : List Nat} (h : Two w0 w vx vy X Y) (g : Nat) (hg : w.heap.size ≤ g) : vx.ownBlock ≠ some g ∧ vy.ownBlock ≠ some g :=
  ⟨fun e => by have := h.ox.lt e; omega, fun e => by have := h.oy.lt e; omega⟩
/-- Block g holds one number. -/
def Lt (w : World) (g z : Nat) : Prop := w.heap[g]? = some (.cells #[.int .u64 (z : Int)] 27 (0, 0))
theorem lt_new (w : World) (z : Nat) : Lt (w.alloc (.cells #[.int .u64 (z : Int)] 27)) w.heap.size z := by
  show (w.heap.push _)[w.heap.size]? = _
  simp
theorem Lt.lt {w : World} {g z : Nat} (h : Lt w g z) : g < w.heap.size := by
  rcases Nat.lt_or_ge g w.heap.size with hl | hl
  · exact hl
  · unfold Lt at h; rw [Array.getElem?_eq_none hl] at h; cases h
theorem Lt.below {w w' : World} {g z : Nat} (h : Lt w g z) (hb : Below w.heap.size w w') : Lt w' g z := (hb.block g h.lt).trans h
theorem Lt.grown {w w' : World} {g z : Nat} {row : Option Nat} (h : Lt w g z) (hg : w.grownBy w' row) (hne : row ≠ some g) : Lt w' g z := (hg.block g h.lt (fun e => hne e.symm)).trans h
/-- One number more for the first row. -/
theorem step_appX {ops : Array Oper} {o : Oper} {a : Act} {K : Act → World → Prop} {Q : Exit → Act → World → Prop} {E : Prop} {w0 w : World} {vx vy : Value} {X Y : List Nat} {g z : Nat} (hgd : o.guard = none) (s x : Operand)
    (ho : o.op = .call { callee := .builtin .append, args := #[s, x], argTypes := #[23, 23] }) (h : Two w0 w vx vy X Y) (hL : Lt w g z)
    (hs : a.eval s = vx) (hx : a.eval x = .slice (some ⟨g, 0, none⟩) 1 1) (hl : X.length ≤ 1000)
    (hK : ∀ v' w', Two w0 w' v' vy (X ++ [z]) Y → w.grownBy w' vx.ownBlock → K (a.put o.dst v') w') :
    if Region.wanted o (yielded ops a.tmps) = true then Oper.wp Tryd.prog o a w K Q else E := by
  obtain ⟨i0, hi, hz0, hz1, hz2⟩ := info_parts info_u64
  refine step_append_lies _ hgd s x 23 ho w0.heap.size 27 i0 (.int .u64 0) 1 8 Tryd.underlying23 hi hz0 hz1 hz2 rfl (by decide) vx X.length (cellsU X) hs h.ox ⟨g, 0, none⟩ 1 1 [.int .u64 (z : Int)] hx rfl ?_ ?_ (by decide) (by unfold maxLen; omega) (by omega) h.bl.size w.heap.size rfl ?_
  · exact World.news_of_block (cs := #[.int .u64 (z : Int)]) hL
  · intro u hu; simp at hu; subst hu; rfl
  · intro g' cap w' hown hgrow hlies hlt
    refine hK _ w' ⟨?_, h.oy.grown hgrow (fun k e q => h.ap k q.symm e), ?_, ?_⟩ hgrow
    · unfold Ow
      rw [List.length_append, cellsU_append]
      exact hown
    · intro k e q
      simp [Value.ownBlock] at e
      subst e
      rcases hlies with r | r
      · exact h.ap g' r q
      · have := h.oy.lt q; omega
    · exact h.bl.grown hgrow h.bl.size (owns_block h.ox)
theorem xsS_succ (L : List (Int × Nat)) (n : Nat) : xsS L (n + 1) = xsS L n ++ [fW (rt 6) (atS L n).toNat] := by unfold xsS; rw [List.range_succ, List.map_append]; rfl
theorem ysS_succ (L : List (Int × Nat)) (n : Nat) : ysS L (n + 1) = ysS L n ++ [syS L n] := by unfold ysS; rw [List.range_succ, List.map_append]; rfl

/-- The length of a slice. -/
def lenOf (v : Value) : Nat := match v with | .slice _ n _ => n | _ => 0
theorem xsS_rng (L : List (Int × Nat)) (n : Nat) : ∀ x ∈ xsS L n, (x : Int) < 18446744073709551616 := fun x hx => by
  obtain ⟨i, _, rfl⟩ := List.mem_map.mp hx
  have := fW_lt (rt 6) (atS L i).toNat
  omega
theorem ysS_rng (L : List (Int × Nat)) (n : Nat) (h : ∀ i, i < n → syS L i < 18446744073709551616) : ∀ x ∈ ysS L n, (x : Int) < 18446744073709551616 := fun x hx => by
  obtain ⟨i, hi, rfl⟩ := List.mem_map.mp hx
  have := h i (List.mem_range.mp hi)
  omega
theorem pts_S {L : List (Int × Nat)} {n : Nat} (h : ShK L n) (hn : n ≤ 128) : Pts (xsS L n) (ysS L n) := by
  refine ⟨by rw [xsS_length, ysS_length], by rw [xsS_length]; exact hn, ?_⟩
  have hd : ∀ i j, i < j → j < n → fN ((xsS L n).getD j 0) ≠ fN ((xsS L n).getD i 0) := fun i j hij hj e => by
    have h1 : cf (xsS L n) j = cf (xsS L n) i := by
      unfold cf
      rw [← toF_fN, e, toF_fN]
    rw [xsS_cf _ _ _ hj, xsS_cf _ _ _ (by omega)] at h1
    exact plS_ne h hij hj h1.symm
  rw [xsS_length]
  exact ⟨fun p q h1 h2 => hd q p h2 h1, fun _ h2 => absurd h2 (by omega)⟩
theorem mk_pad {l : List Nat} {k : Nat} (hl : l.length ≤ k) (hP : ∀ x ∈ l, x < P) : mk k (cf l) = l ++ List.replicate (k - l.length) 0 := by
  obtain ⟨m, rfl⟩ : ∃ m, k = l.length + m := ⟨k - l.length, by omega⟩
  rw [Nat.add_sub_cancel_left]
  clear hl
  induction m with
  | zero => rw [Nat.add_zero, List.replicate_zero, List.append_nil]; exact (eq_mk hP).symm
  | succ m ih => rw [← Nat.add_assoc, mk_succ, ih, cf_ge (by omega), List.replicate_succ', List.append_assoc]; rfl

end Go.Proofs.YtgkepflnnoociagDoor

/-! Shares in a map: which place has which symbol; the shares in the order of their places; no program in sight. -/
namespace Go.Proofs.YtgkepflnnoociagDoor

/-- The symbol at a place, among the first i shares. -/
def lkS (L : List (Int × Nat)) : Nat → Int → Option Nat
  | 0, _ => none
  | i + 1, z => if z = atS L i then some (syS L i) else lkS L i z
theorem lkS_some {L : List (Int × Nat)} {i : Nat} {z : Int} {s : Nat} (h : lkS L i z = some s) : ∃ j, j < i ∧ atS L j = z ∧ syS L j = s := by
  induction i with
  | zero => cases h
  | succ i ih =>
    unfold lkS at h
    split at h
    · next e => exact ⟨i, by omega, e.symm, by simpa using h⟩
    · obtain ⟨j, hj, r⟩ := ih h
      exact ⟨j, by omega, r⟩
theorem lkS_of {L : List (Int × Nat)} {i : Nat} (h : ShK L i) {j : Nat} (hj : j < i) : lkS L i (atS L j) = some (syS L j) := by
  induction i with
  | zero => omega
  | succ i ih =>
    unfold lkS
    rcases Nat.lt_or_ge j i with r | r
    · rw [if_neg (h.2 i j r (by omega))]
      exact ih ⟨fun p hp => h.1 p (by omega), fun p q hq hp => h.2 p q hq (by omega)⟩ r
    · obtain rfl : j = i := by omega
      rw [if_pos rfl]
theorem lkS_none {L : List (Int × Nat)} {i : Nat} {z : Int} (h : ∀ j, j < i → atS L j ≠ z) : lkS L i z = none := by
  rcases e : lkS L i z with _ | s
  · rfl
  · obtain ⟨j, hj, e1, _⟩ := lkS_some e
    exact absurd e1 (h j hj)
/-- The shares that a table of symbols tells, the first n places, in their order. -/
def shr (f : Int → Option Nat) : Nat → List (Int × Nat)
  | 0 => []
  | n + 1 => match f (n : Int) with
    | some s => shr f n ++ [((n : Int), s)]
    | none => shr f n
theorem shr_some {f : Int → Option Nat} {n s : Nat} (h : f (n : Int) = some s) : shr f (n + 1) = shr f n ++ [((n : Int), s)] := by simp only [shr, h]
theorem shr_none {f : Int → Option Nat} {n : Nat} (h : f (n : Int) = none) : shr f (n + 1) = shr f n := by simp only [shr, h]
theorem shr_length (f : Int → Option Nat) (n : Nat) : (shr f n).length ≤ n := by
  induction n with
  | zero => exact Nat.le_refl _
  | succ n ih =>
    rcases e : f (n : Int) with _ | s
    · rw [shr_none e]; omega
    · rw [shr_some e, List.length_append]; simp; exact ih
theorem mem_shr {f : Int → Option Nat} {n : Nat} {p : Int × Nat} : p ∈ shr f n ↔ ∃ t : Nat, t < n ∧ p.1 = (t : Int) ∧ f (t : Int) = some p.2 := by
  induction n with
  | zero => simp [shr]
  | succ n ih =>
    rcases e : f (n : Int) with _ | s
    · rw [shr_none e, ih]
      constructor
      · rintro ⟨t, ht, r⟩
        exact ⟨t, by omega, r⟩
      · rintro ⟨t, ht, r1, r2⟩
        rcases Nat.lt_or_ge t n with h | h
        · exact ⟨t, h, r1, r2⟩
        · obtain rfl : t = n := by omega
          rw [e] at r2; cases r2
    · rw [shr_some e, List.mem_append, ih]
      constructor
      · rintro (⟨t, ht, r⟩ | h)
        · exact ⟨t, by omega, r⟩
        · simp only [List.mem_singleton] at h
          subst h
          exact ⟨n, by omega, rfl, e⟩
      · rintro ⟨t, ht, r1, r2⟩
        rcases Nat.lt_or_ge t n with h | h
        · exact .inl ⟨t, h, r1, r2⟩
        · obtain rfl : t = n := by omega
          rw [e] at r2
          obtain ⟨a, b⟩ := p
          simp only at r1 r2
          cases r2
          rw [r1]
          exact .inr (by simp)
theorem getS_append_one (L : List (Int × Nat)) (p : Int × Nat) (i : Nat) (h : i < L.length) : (L ++ [p]).getD i (0, 0) = L.getD i (0, 0) := by
  simp only [List.getD, List.getElem?_append_left h]
theorem getS_append_last (L : List (Int × Nat)) (p : Int × Nat) : (L ++ [p]).getD L.length (0, 0) = p := by simp [List.getD]
theorem getS_mem {L : List (Int × Nat)} {i : Nat} (h : i < L.length) : L.getD i (0, 0) ∈ L := by
  rw [List.getD, List.getElem?_eq_getElem h]
  exact List.getElem_mem h
theorem atS_shr_lt (f : Int → Option Nat) (n i : Nat) (h : i < (shr f n).length) : 0 ≤ atS (shr f n) i ∧ atS (shr f n) i < n := by
  obtain ⟨t, ht, e, _⟩ := mem_shr.mp (getS_mem h)
  unfold atS
  omega
theorem shr_inc (f : Int → Option Nat) (n : Nat) : ∀ p q, q < p → p < (shr f n).length → atS (shr f n) q < atS (shr f n) p := by
  induction n with
  | zero => intro p q _ hp; simp [shr] at hp
  | succ n ih =>
    rcases e : f (n : Int) with _ | s
    · rw [shr_none e]; exact ih
    · intro p q hq hp
      rw [shr_some e] at hp ⊢
      rw [List.length_append] at hp
      simp only [List.length_singleton] at hp
      rcases Nat.lt_or_ge p (shr f n).length with h | h
      · have := ih p q hq h
        unfold atS at this ⊢
        rw [getS_append_one _ _ _ h, getS_append_one _ _ _ (by omega)]
        exact this
      · obtain rfl : p = (shr f n).length := by omega
        have := (atS_shr_lt f n q hq).2
        unfold atS at this ⊢
        rw [getS_append_one _ _ _ hq, getS_append_last]
        exact this
theorem shr_ShK (f : Int → Option Nat) : ShK (shr f 64) (shr f 64).length := by
  refine ⟨fun p hp => ?_, fun p q hq hp => ?_⟩
  · have := atS_shr_lt f 64 p hp
    omega
  · have := shr_inc f 64 p q hq hp
    omega
theorem Has.iff {d : List Nat} {L : List (Int × Nat)} : Has d L L.length ↔ ∀ p ∈ L, evF (d.map toF) (pw (toF (rt 6)) p.1.toNat) = toF p.2 := by
  constructor
  · intro h p hp
    obtain ⟨i, hi, rfl⟩ := List.getElem_of_mem hp
    have := h i hi
    unfold plS atS syS at this
    rw [List.getD, List.getElem?_eq_getElem hi] at this
    exact this
  · intro h i hi
    exact h _ (getS_mem hi)
theorem mem_places {L : List (Int × Nat)} (h : ShK L L.length) (p : Int × Nat) : p ∈ shr (lkS L L.length) 64 ↔ p ∈ L := by
  rw [mem_shr]
  constructor
  · rintro ⟨t, _, e1, e2⟩
    obtain ⟨j, hj, e3, e4⟩ := lkS_some e2
    have : p = L.getD j (0, 0) := Prod.ext (e1.trans e3.symm) e4.symm
    rw [this]
    exact getS_mem hj
  · intro hp
    obtain ⟨i, hi, rfl⟩ := List.getElem_of_mem hp
    have e : L[i] = L.getD i (0, 0) := by rw [List.getD, List.getElem?_eq_getElem hi]; rfl
    rw [e]
    have h1 := h.1 i hi
    have h2 := lkS_of h hi
    refine ⟨(atS L i).toNat, by omega, ?_, ?_⟩
    · show atS L i = _
      omega
    · rw [show (((atS L i).toNat : Nat) : Int) = atS L i by omega, h2]; rfl
theorem has_places {L : List (Int × Nat)} (h : ShK L L.length) (d : List Nat) : Has d (shr (lkS L L.length) 64) (shr (lkS L L.length) 64).length ↔ Has d L L.length := by
  rw [Has.iff, Has.iff]
  constructor
  · intro r p hp
    exact r p ((mem_places h p).mpr hp)
  · intro r p hp
    exact r p ((mem_places h p).mp hp)
/-- What goes through all shares is no longer than k just if some data of k numbers has them. -/
theorem fit_len {L l : List _} {k : Nat} (h : ShK L L.length) (hl : Goes l (shr (lkS L L.length) 64).length (cf (xsS (shr (lkS L L.length) 64) (shr (lkS L L.length) 64).length)) (cf (ysS (shr (lkS L L.length) 64) (shr (lkS L L.length) 64).length))) :
    (FitK k L ↔ l.length ≤ k) ∧ (l.length ≤ k → (mk k (cf l)).length = k ∧ Has (mk k (cf l)) L L.length) := by
  have hh := (has_places h l).mp hl.has
  have hm : l.length ≤ k → (mk k (cf l)).length = k ∧ Has (mk k (cf l)) L L.length := fun hk =>
    ⟨mk_length _ _, fun i hi => by rw [ev_mk_cf hk]; exact hh i hi⟩
  refine ⟨⟨?_, fun hk => ⟨_, hm hk⟩⟩, hm⟩
  rintro ⟨d, hd, hr⟩
  rcases Nat.lt_or_ge (shr (lkS L L.length) 64).length k with hlt | hge
  · have := hl.2.1
    omega
  · have hr' := (has_places h d).mpr hr
    have := Has.one (shr_ShK _) (by omega) hl.2.1 hr' hl.has
    rw [hl.1] at this
    rw [← this, pN_length]
    have := sig_le d
    omega

end Go.Proofs.YtgkepflnnoociagDoor

/-! A map from ints to numbers that the call itself made: what is looked up, how many there are, one key more. -/
namespace Go.Proofs.YtgkepflnnoociagDoor
open Go.RowKit Go.Maps

theorem lawIU : Keyed Tryd.prog 3 := int_keyed Tryd.underlying3
theorem zeroU (w : World) : (zeroValue 27).run Tryd.prog w = .ok (.int .u64 0) w := by kernel_rfl
theorem keyIU {z : Int} (hz : (Lit.int .i64 z).wf = true) : keyOf Tryd.prog 3 (.int .i64 z) = some (.int .i64 z) := keyOf_int_mk Tryd.underlying3 hz
theorem keyLitU (z : Int) : WideAt.IsKeyLit (.int .i64 z) := by simp [WideAt.IsKeyLit]

/-- Block b is a map of n keys that has the symbols that f tells. -/
def MapU (w : World) (b : Nat) (f : Int → Option Nat) (n : Nat) : Prop := ∃ (m : Nat) (D : DataW Unit), w.ownsMap Tryd.prog 3 (plainElem Tryd.prog 27) b m D ∧ m ≤ n ∧ size D = n ∧
  ∀ z : Int, has D (.int .i64 z) = (f z).isSome ∧ D.atKey (.int .i64 z) (.lit (.int .u64 0)) = .lit (.int .u64 (((f z).getD 0 : Nat) : Int))
theorem MapU.made (w : World) : MapU (w.alloc (.map #[] 0)) w.heap.size (fun _ => none) 0 :=
  ⟨0, .map [], World.ownsMap_made _ _ _ _, Nat.le_refl _, rfl, fun _ => ⟨rfl, rfl⟩⟩
theorem MapU.lt {w : World} {b n : Nat} {f : Int → Option Nat} (h : MapU w b f n) : b < w.heap.size := by
  obtain ⟨m, D, h, _⟩ := h
  exact h.lt
theorem MapU.block {w w' : World} {b n : Nat} {f : Int → Option Nat} (h : MapU w b f n) (e : w'.heap[b]? = w.heap[b]?) : MapU w' b f n := by
  obtain ⟨m, D, ⟨es, clock, hb, r⟩, r2⟩ := h
  exact ⟨m, D, ⟨es, clock, e.trans hb, r⟩, r2⟩
theorem MapU.below {w w' : World} {b n : Nat} {f : Int → Option Nat} (h : MapU w b f n) (hb : Below w.heap.size w w') : MapU w' b f n := h.block (hb.block b h.lt)
end Go.Proofs.YtgkepflnnoociagDoor
