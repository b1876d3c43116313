/-
  Texts that stood one behind the other, as one.
-/
import Derived.Test.YtckoipoejaafhaaDoorFieldBAll
import Derived.Test.YtckoipoejaafhaaDoorFieldBAll
import Derived.Test.YtckoipoejaafhaaDoorFieldBAll
import Derived.Test.YtckoipoejaafhaaDoorManyEAll
import Derived.Test.YtckoipoejaafhaaDoorSlAll
import Derived.OpenShut
import Derived.ChangeArms
import Derived.Test.YtckoipoejaafhaaDoorSlAppIAll
import Derived.Test.YtckoipoejaafhaaDoorRefLinesAll
import Derived.Test.YtckoipoejaafhaaDoorManyCAll
import Derived.BigQuiet
/-! What Forward and Inverse of package ntt answer: the transform of a list of 2^k numbers and the way back; ErrForm of other lists. -/
namespace Go.Proofs.YtckoipoejaafhaaDoor
open Go.RowKit
set_option maxRecDepth 100000

theorem and_pow_all : ((List.range 11).all fun k => (2 ^ k &&& (2 ^ k - 1)) == 0) = true := by decide +kernel
theorem and_pow (k : Nat) (hk : k ≤ 10) : 2 ^ k &&& (2 ^ k - 1) = 0 :=
  beq_iff_eq.mp (List.all_eq_true.mp and_pow_all k (List.mem_range.mpr (by omega)))
theorem and_i64 (n m : Nat) (hn : n ≤ 1024) (hm : m ≤ 1024) : bits .and .i64 (n : Int) (m : Int) = ((n &&& m : Nat) : Int) :=
  (bits_nat .i64 62 (by decide) wraps_i64 n m (by omega) (by omega)).1

theorem ntt_logSize_ok (w : World) (a : Option Addr) (n cap k : Nat) (hn : n = 2 ^ k) (hk : k ≤ 10) (ht : Tab w) :
    Calls Tryd.prog 139 #[.slice a n cap] w fun e w' => e = .returned (.tuple #[.int .i64 (k : Int), .int .i64 0]) ∧ w' = w := by
  have c := bits_TrailingZeros k hk w ht
  rw [← hn] at c
  have h9 : n ≤ 1024 := by rw [hn]; exact (two_pow_bound k hk).2
  have h1 : 1 ≤ n := by rw [hn]; exact Nat.pow_pos (by decide)
  have hand : bits .and .i64 (n : Int) ((n : Int) - 1) = 0 := by
    rw [show (n : Int) - 1 = ((n - 1 : Nat) : Int) by omega, and_i64 n (n - 1) h9 (by omega), hn, and_pow k hk]; rfl
  clear hn ht
  go_enter Tryd.func139, Tryd.ntmps139
  go_wp2_with (go_at_call 158; refine Calls.mono c ?_; rintro e w' ⟨rfl, hw⟩; rw [hw]; clear hw)
  go_ret2
  exact ⟨rfl, rfl⟩
theorem rt_64 (k : Nat) : ((rt k : Nat) : Int) < 18446744073709551616 := by
  have h : ((rt k : Nat) : Int) < 18446744069414584321 := fW_lt _ _
  omega
theorem ntt_Forward_row (w : World) (v : Value) (xs : List Nat) (k : Nat) (h : IsU w v xs) (ht : Tab w) (hl : xs.length = 2 ^ k) (hk : k ≤ 10) :
    Calls Tryd.prog 101 #[v] w fun e w' => ∃ g, e = .returned (.tuple #[.slice (some ⟨g, 0, none⟩) (2 ^ k) (2 ^ k), .int .i64 0]) ∧ w.heap.size ≤ g ∧ RowU w' g (mk (2 ^ k) (fw xs k)) ∧ Below w.heap.size w w' := by
  have hA := h
  obtain ⟨a, cap, rfl, -⟩ := h
  have c1 := ntt_logSize_ok w a xs.length cap k hl hk ht
  have c2 := field_Root_in k (by omega)
  have h64 := rt_64 k
  have c3 := ntt_transform w _ xs k (rt k) hA hl hk h64 (ord_rt k (by omega))
  rw [show dft (toF (rt k)) (2 ^ k) (cf xs) = fw xs k from rfl] at c3
  have hN9 := (two_pow_bound k hk).2
  rw [show fW 7 (18446744069414584320 / 2 ^ k) = rt k from rfl] at c2
  generalize mk (2 ^ k) (fw xs k) = RL at *
  clear h64 ht hl
  generalize rt k = r at *
  generalize 2 ^ k = N at *
  go_enter Tryd.func101, Tryd.ntmps101
  go_wp2_with (first
    | (go_at_call 139; refine Calls.mono c1 ?_; rintro e w' ⟨rfl, hw⟩; rw [hw]; clear hw)
    | (go_at_call 29; refine Calls.mono (c2 _) ?_; rintro e w' ⟨rfl, hw⟩; rw [hw]; clear hw)
    | (go_at_call 140; refine Calls.mono c3 ?_; rintro e w2 ⟨g, rfl, hg, hrow, hb⟩))
  go_ret2
  exact ⟨g, rfl, hg, hrow, hb⟩
/-- The first i numbers of a list times c. -/
def tmK (zs : List Nat) (c : Nat) : Nat → List Nat
  | 0 => zs
  | i + 1 => (tmK zs c i).set i (fM ((tmK zs c i).getD i 0) c)
theorem tmK_length (zs : List Nat) (c i : Nat) : (tmK zs c i).length = zs.length := by
  induction i with
  | zero => rfl
  | succ i ih => rw [tmK, List.length_set, ih]
theorem tmK_P (zs : List Nat) (c i : Nat) (hz : ∀ x ∈ zs, x < P) : ∀ x ∈ tmK zs c i, x < P := by
  induction i with
  | zero => exact hz
  | succ i ih =>
    intro x hx
    rw [tmK] at hx
    rcases List.mem_or_eq_of_mem_set hx with h1 | h1
    · exact ih x h1
    · rw [h1]; have := fM_lt ((tmK zs c i).getD i 0) c; unfold P; omega
theorem cf_tmK (zs : List Nat) (c i : Nat) (hi : i ≤ zs.length) (j : Nat) : cf (tmK zs c i) j = if j < i then cf zs j * toF c else cf zs j := by
  induction i generalizing j with
  | zero => rw [if_neg (by omega)]; rfl
  | succ i ih =>
    have h1 := ih (by omega) i
    rw [if_neg (by omega)] at h1
    rw [tmK, cf_setN _ _ _ _ (by rw [tmK_length]; omega), toF_fM]
    show (if j = i then cf (tmK zs c i) i * toF c else cf (tmK zs c i) j) = _
    rw [h1]
    by_cases e : j = i
    · rw [if_pos e, if_pos (by omega), e]
    · rw [if_neg e, ih (by omega) j]
      by_cases e2 : j < i
      · rw [if_pos e2, if_pos (by omega)]
      · rw [if_neg e2, if_neg (by omega)]

set_option maxRecDepth 100000 in
set_option maxHeartbeats 2000000 in
theorem ntt_Inverse_row (w : World) (v : Value) (xs : List Nat) (k : Nat) (h : IsU w v xs) (ht : Tab w) (hl : xs.length = 2 ^ k) (hk : k ≤ 10) :
    Calls Tryd.prog 102 #[v] w fun e w' => ∃ g, e = .returned (.tuple #[.slice (some ⟨g, 0, none⟩) (2 ^ k) (2 ^ k), .int .i64 0]) ∧ w.heap.size ≤ g ∧ RowU w' g (mk (2 ^ k) (bw xs k)) ∧ Below w.heap.size w w' := by
  have hA := h
  obtain ⟨a, cap, rfl, -⟩ := h
  have c1 := ntt_logSize_ok w a xs.length cap k hl hk ht
  have c2 := field_Root_in k (by omega)
  rw [show fW 7 (18446744069414584320 / 2 ^ k) = rt k from rfl] at c2
  have h64 := rt_64 k
  obtain ⟨hpow, hN9⟩ := two_pow_bound k hk
  have c4 := field_Inv_some (rt k) h64 (rt_ne k (by omega))
  have c5 := field_Inv_some (2 ^ k) (by omega) (len_ne k (by omega))
  have hv := toF_inv (rt k)
  have hpt := toF_inv (2 ^ k)
  have hb64 : ((fW (rt k) 18446744069414584319 : Nat) : Int) < 18446744073709551616 := by have := fW_lt (rt k) 18446744069414584319; omega
  have hp64 : ((fW (2 ^ k) 18446744069414584319 : Nat) : Int) < 18446744073709551616 := by have := fW_lt (2 ^ k) 18446744069414584319; omega
  have hord : Ord (toF (fW (rt k) 18446744069414584319)) k := by rw [hv]; exact (ord_rt k (by omega)).inv (rt_inv k (by omega))
  have c3 := ntt_transform w _ xs k (fW (rt k) 18446744069414584319) hA hl hk hb64 hord
  have hfin : Hid (tmK (mk (2 ^ k) (dft (toF (fW (rt k) 18446744069414584319)) (2 ^ k) (cf xs))) (fW (2 ^ k) 18446744069414584319) (2 ^ k) = mk (2 ^ k) (bw xs k)) := by
    show _ = _
    refine list_of_cf _ _ _ (by rw [tmK_length, mk_length]) (tmK_P _ _ _ (mk_lt _ _)) fun i hi => ?_
    rw [cf_tmK _ _ _ (by rw [mk_length]; exact Nat.le_refl _), if_pos hi, cf_mk, if_pos hi, hpt, hv]
    unfold bw; grind
  have hlen := mk_length (2 ^ k) (dft (toF (fW (rt k) 18446744069414584319)) (2 ^ k) (cf xs))
  have hPz := mk_lt (2 ^ k) (dft (toF (fW (rt k) 18446744069414584319)) (2 ^ k) (cf xs))
  clear hord hv hpt hb64 h64 ht
  generalize mk (2 ^ k) (dft (toF (fW (rt k) 18446744069414584319)) (2 ^ k) (cf xs)) = zs at *
  generalize mk (2 ^ k) (bw xs k) = RL at *
  generalize fW (rt k) 18446744069414584319 = vr at *
  generalize fW (2 ^ k) 18446744069414584319 = pt at *
  generalize rt k = r at *
  have hlen' : Hid (zs.length = 2 ^ k) := hlen
  clear hlen hl
  generalize 2 ^ k = N at *
  go_enter Tryd.func102, Tryd.ntmps102
  go_wp2_with (first
    | (go_at_call 139; refine Calls.mono c1 ?_; rintro e w' ⟨rfl, hw⟩; rw [hw]; clear hw)
    | (go_at_call 29; refine Calls.mono (c2 _) ?_; rintro e w' ⟨rfl, hw⟩; rw [hw]; clear hw)
    | (go_at_call 68; refine Calls.mono (c4 _) ?_; rintro e w' ⟨rfl, hw⟩; rw [hw]; clear hw)
    | (go_at_call 68; refine Calls.mono (c5 _) ?_; rintro e w' ⟨rfl, hw⟩; rw [hw]; clear hw)
    | (go_at_call 140; refine Calls.mono c3 ?_; rintro e w2 ⟨g, rfl, hg, hrow, hb⟩))
  go_loopw [45] (fun vi wr => ∃ i : Nat, i ≤ N ∧ vi = .int .i64 (i : Int) ∧ RowU wr g (tmK zs pt i) ∧ Below w.heap.size w wr)
    (fun vi _ => N - (intOf vi).toNat)
  case atStart => exact ⟨0, Nat.zero_le _, rfl, hrow, hb⟩
  case round =>
    clear hrow hb
    obtain ⟨i, hi, rfl, hrow, hnx⟩ := hrel
    by_cases hlt : i < N
    · have hcS := hrow.cell i (by rw [tmK_length, hlen'.out]; exact hlt)
      have hfr := hrow.frozen i
      have hset : Hid (RowU (wr.setCell ⟨g, i, none⟩ (.int .u64 ((fM ((tmK zs pt i).getD i 0) pt : Nat) : Int))) g (tmK zs pt (i + 1))) := hrow.set i _
      have cM := field_Mul ((tmK zs pt i).getD i 0) pt (range_getD (Rng_of_P (tmK_P zs pt i hPz)) _) hp64
      have hB2 := fun (u : Value) => hnx.setCell (p := ⟨g, i, none⟩) hg u
      clear hrow c1 c2 c3 c4 c5 hp64 hA hPz
      generalize fM ((tmK zs pt i).getD i 0) pt = z at *
      generalize (tmK zs pt i).getD i 0 = old at *
      go_wp2_with (go_at_call 22; refine Calls.mono (cM _) ?_; rintro e w' ⟨rfl, hw⟩; rw [hw]; clear hw)
      go_roundw
      case rel => exact ⟨i + 1, by omega, by go_num, hset.out, hB2 _⟩
      case measure => simp only [intOf]; omega
    · have e : N = i := by omega
      subst e
      rw [hfin.out] at hrow
      have hge : N ≤ N := Nat.le_refl _
      clear c1 c2 c3 c4 c5 hA hpow hp64
      go_wp2
      go_ret2
      exact ⟨g, rfl, hg, hrow, hnx⟩
end Go.Proofs.YtckoipoejaafhaaDoor

/-! What alongAxis and alongAll of package many answer: an array transformed along one axis, along all of them, in new memory. -/
namespace Go.Proofs.YtckoipoejaafhaaDoor
open Go.RowKit
set_option maxRecDepth 100000

/-- Of what was there, the blocks g and h alone may have changed. -/
structure Bar2 (g h : Nat) (w w' : World) : Prop where
  os : w'.os = w.os
  tape : w'.tape = w.tape
  output : w'.output = w.output
  size : w.heap.size ≤ w'.heap.size
  block : ∀ k, k < w.heap.size → k ≠ g → k ≠ h → w'.heap[k]? = w.heap[k]?
theorem Bar2.refl (g h : Nat) (w : World) : Bar2 g h w w := ⟨rfl, rfl, rfl, Nat.le_refl _, fun _ _ _ _ => rfl⟩
theorem Bar2.trans {g h : Nat} {a b c : World} (p : Bar2 g h a b) (k : Bar2 g h b c) : Bar2 g h a c :=
  ⟨k.os.trans p.os, k.tape.trans p.tape, k.output.trans p.output, Nat.le_trans p.size k.size, fun i hi hg hh => (k.block i (Nat.lt_of_lt_of_le hi p.size) hg hh).trans (p.block i hi hg hh)⟩
theorem Bar.left {g : Nat} {a b : World} (p : Bar g a b) (h : Nat) : Bar2 g h a b := ⟨p.os, p.tape, p.output, p.size, fun k hk hg _ => p.block k hk hg⟩
theorem Bar.right {h : Nat} {a b : World} (p : Bar h a b) (g : Nat) : Bar2 g h a b := ⟨p.os, p.tape, p.output, p.size, fun k hk _ hh => p.block k hk hh⟩
theorem Bar2.of_below {g h : Nat} {a b : World} (p : Below a.heap.size a b) : Bar2 g h a b := ⟨p.os, p.tape, p.output, p.size, fun k hk _ _ => p.block k hk⟩
theorem Bar2.fresh {g h : Nat} {a b c : World} (p : Below a.heap.size a b) (hg : a.heap.size ≤ g) (hh : a.heap.size ≤ h) (k : Bar2 g h b c) : Below a.heap.size a c :=
  p.trans ⟨k.os, k.tape, k.output, k.size, fun i hi => k.block i (Nat.lt_of_lt_of_le hi p.size) (by omega) (by omega)⟩
theorem Bar2.cell {g h : Nat} {w w' : World} {b off : Nat} {u : Value} (p : Bar2 g h w w') (hc : w.cell? ⟨b, off, none⟩ = some u) (hg : b ≠ g) (hh : b ≠ h) : w'.cell? ⟨b, off, none⟩ = some u :=
  (World.cell?_of_block (w := w) (p.block b (block_lt hc) hg hh)).trans hc
/-- The lines up to i - 1 transformed, and the first k numbers of line i; noughts elsewhere. -/
def trZ (ds : List Nat) (xs : List Nat) (x : Nat) (back : Bool) (i k : Nat) : List Nat :=
  tb (prd2 ds) fun p => if lnO (beh ds (x + 1)) (sz ds x) p < i ∨ (lnO (beh ds (x + 1)) (sz ds x) p = i ∧ dg (beh ds (x + 1)) (sz ds x) p < k) then (alo ds x back (cf xs) p).val else 0
/-- A line under way: its first k numbers, and what stood there. -/
def lnQ (xs ls : List Nat) (u d i k : Nat) : List Nat := (List.range d).map fun t => if t < k then xs.getD (ps u d i t) 0 else ls.getD t 0
theorem lnQ_length (xs ls : List Nat) (u d i k : Nat) : (lnQ xs ls u d i k).length = d := by simp [lnQ]
theorem lnQ_zero (xs ls : List Nat) (u d i : Nat) (hl : ls.length = d) : lnQ xs ls u d i 0 = ls := by
  apply List.ext_getElem
  · rw [lnQ_length, hl]
  · intro t h1 h2
    simp [lnQ, List.getD, h2]
theorem lnQ_set (xs ls : List Nat) (u d i k : Nat) : (lnQ xs ls u d i k).set k (xs.getD (ps u d i k) 0) = lnQ xs ls u d i (k + 1) := by
  apply List.ext_getElem
  · simp [lnQ]
  · intro t h1 h2
    rw [List.getElem_set]
    simp only [lnQ, List.getElem_map, List.getElem_range]
    by_cases e : k = t
    · subst e
      rw [if_pos rfl, if_pos (by omega)]
    · rw [if_neg e]
      by_cases e2 : t < k
      · rw [if_pos e2, if_pos (by omega)]
      · rw [if_neg e2, if_neg (by omega)]
theorem lnQ_get (xs ls : List Nat) (u d i t : Nat) (ht : t < d) : (lnQ xs ls u d i d).getD t 0 = xs.getD (ps u d i t) 0 := by simp [lnQ, List.getD, ht]

end Go.Proofs.YtckoipoejaafhaaDoor

/-! What came in as a struct of ints, as a slice of such, as a slice of such slices, reads as lists of integers. -/
namespace Go.Proofs.YtckoipoejaafhaaDoor
open Go.RowKit Go.ChangeShapes Go.WideShapes

section
variable {H : Type} {enc : TypeId × Value → H} {P : Program} {w : World} {base : Nat} {spare : Nat → Bool} {held : Bool} {fuel : Nat} {t : TypeId} {cs : List Value} {x : DataW H × List MemPlace}

def zOf : Value → Int
  | .int _ z => z
  | _ => 0
/-- Every cell is an int. -/
def Zs (cs : List Value) (ns : List Int) : Prop := cs = ns.map (fun z => Value.int .i64 z) ∧ ∀ z ∈ ns, (Lit.int .i64 z).wf = true
/-- The struct's fields are n ints, one behind the other. -/
def IntFields (P : Program) (t : TypeId) (n : Nat) : Prop := ∃ fs : Array Field, P.underlying t = some (.struct fs) ∧ P.cellsOf t = n ∧ fs.size = n ∧ ∀ (i : Nat) (f : Field), fs[i]? = some f → f.offset = i ∧ P.cellsOf f.type = 1 ∧ P.underlying f.type = some (.int .i64)
theorem zs_of {n : Nat} (hl : cs.length = n) (h : ∀ i, i < n → ∃ z, cs[i]? = some (.int .i64 z) ∧ (Lit.int .i64 z).wf = true) : ∃ ns : List Int, ns.length = n ∧ Zs cs ns := by
  refine ⟨cs.map zOf, by rw [List.length_map, hl], ?_, ?_⟩
  · apply List.ext_getElem?
    intro i
    rcases Nat.lt_or_ge i n with hi | hi
    · obtain ⟨z, e, _⟩ := h i hi
      rw [List.getElem?_map, List.getElem?_map, e]; rfl
    · rw [List.getElem?_eq_none (by omega), List.getElem?_eq_none (by simp; omega)]
  · intro z hz
    obtain ⟨v, hv, rfl⟩ := List.mem_map.mp hz
    obtain ⟨i, hi, e⟩ := List.mem_iff_getElem.mp hv
    obtain ⟨z, e2, hw⟩ := h i (by omega)
    rw [List.getElem?_eq_getElem hi] at e2
    have : v = .int .i64 z := by rw [← e]; exact Option.some.inj e2
    rw [this]; exact hw
theorem trod_ints {n : Nat} (hf : IntFields P t n) (h : DataW.trod enc P w base spare held fuel t cs = some x) : ∃ ns : List Int, ns.length = n ∧ Zs cs ns := by
  obtain ⟨fs, ht, hc, hs, hfs⟩ := hf
  obtain ⟨xs, m, _, _, hl, hxs, hx⟩ := DataW.trod_struct ht h
  refine zs_of (by rw [hl, hc]) fun i hi => ?_
  have hfi : fs[i]? = some fs[i] := by rw [Array.getElem?_eq_getElem]
  obtain ⟨ho, h1, hu⟩ := hfs i _ hfi
  have hxi := hx i _ hfi
  have hsome : xs[i]? = some (xs[i]'(by omega)) := List.getElem?_eq_getElem _
  rw [hsome, ho, h1] at hxi
  obtain ⟨z, e, _, hw⟩ := DataW.trod_int hu hxi
  refine ⟨z, ?_, hw⟩
  have := congrArg (fun (l : List Value) => l[0]?) e
  simpa [List.getElem?_take, List.getElem?_drop] using this
end

/-- Whatever is read of that type is n ints, one behind the other (structs within structs too). -/
def IntAll (P : Program) (t : TypeId) (n : Nat) : Prop := P.cellsOf t = n ∧ ∀ (H : Type) (enc : TypeId × Value → H) (w : World) (base : Nat) (spare : Nat → Bool) (held : Bool) (fuel : Nat) (cs : List Value) (x : DataW H × List MemPlace), DataW.trod enc P w base spare held fuel t cs = some x → ∃ ns : List Int, ns.length = n ∧ Zs cs ns
theorem IntFields.all {P : Program} {t : TypeId} {n : Nat} (hf : IntFields P t n) : IntAll P t n :=
  ⟨by obtain ⟨_, _, h1, _⟩ := hf; exact h1, fun _ _ _ _ _ _ _ _ _ h => trod_ints hf h⟩
theorem IntAll.int {P : Program} {t : TypeId} (hu : P.underlying t = some (.int .i64)) (hc : P.cellsOf t = 1) : IntAll P t 1 :=
  ⟨hc, fun H enc w base spare held fuel cs x h => by
    obtain ⟨z, e, _, hw⟩ := DataW.trod_int hu h
    refine ⟨[z], rfl, e, fun y hy => ?_⟩
    rw [List.mem_singleton.mp hy]; exact hw⟩
/-- How many elements a slice's reading has. -/
def cntD {H : Type} : DataW H → Nat
  | .slice es _ => es.length
  | _ => 0
theorem len_3 {l : List Int} (h : l.length = 3) : ∃ a b c, l = [a, b, c] := by
  match l, h with
  | [a, b, c], _ => exact ⟨a, b, c, rfl⟩
theorem list_all {α : Type} (d : α) (Q : Nat → α → Prop) : ∀ n, (∀ i, i < n → ∃ y, Q i y) → ∃ L : List α, L.length = n ∧ ∀ i, i < n → Q i (L.getD i d)
  | 0, _ => ⟨[], rfl, fun i hi => by omega⟩
  | n + 1, h => by
    obtain ⟨L, hl, hQ⟩ := list_all d Q n fun i hi => h i (by omega)
    obtain ⟨y, hy⟩ := h n (by omega)
    refine ⟨L ++ [y], by simp [hl], fun i hi => ?_⟩
    rcases Nat.lt_or_ge i n with h1 | h1
    · have := hQ i h1
      rw [List.getD, List.getElem?_append_left (by omega)]; exact this
    · have e : i = n := by omega
      subst e
      rw [List.getD, List.getElem?_append_right (by omega), hl]
      simpa using hy
/-- A slice of structs of k ints each reads as a list of rows. -/
def IsR (k : Nat) (w : World) (v : Value) (L : List (List Int)) : Prop :=
  ∃ (a : Option Addr) (cap : Nat), v = .slice a L.length cap ∧ L.length ≤ cap ∧ cap ≤ maxLen ∧
    (∀ i, i < L.length → ∃ b off, a = some ⟨b, off, none⟩ ∧ ∀ j, j < k → w.cell? ⟨b, off + (i * k + j), none⟩ = some (.int .i64 ((L.getD i []).getD j 0))) ∧
    (∀ r ∈ L, r.length = k ∧ ∀ z ∈ r, -9223372036854775808 ≤ z ∧ z ≤ 9223372036854775807)
theorem IsR.below {k : Nat} {w w' : World} {v : Value} {L : List (List Int)} (h : IsR k w v L) (hb : Below w.heap.size w w') : IsR k w' v L := by
  obtain ⟨a, cap, rfl, h1, h2, hc, hr⟩ := h
  refine ⟨a, cap, rfl, h1, h2, fun i hi => ?_, hr⟩
  obtain ⟨b, off, rfl, hcell⟩ := hc i hi
  exact ⟨b, off, rfl, fun j hj => (hb.cell (block_lt (hcell j hj))).trans (hcell j hj)⟩
theorem IsR.nil (k : Nat) (w : World) : IsR k w (.slice none 0 0) [] :=
  ⟨none, 0, rfl, by simp, by simp [maxLen], fun i hi => by simp at hi, fun r hr => by cases hr⟩

section
variable {H : Type} {enc : TypeId × Value → H} {P : Program} {w : World} {base : Nat} {spare : Nat → Bool} {held : Bool} {t e : TypeId} {d : DataW H} {p : List MemPlace}
theorem trod_rowsA {k fuel : Nat} {cs : List Value} {x : DataW H × List MemPlace} (hk : 0 < k) (ht : P.underlying t = some (.slice e)) (hf : IntAll P e k) (h : DataW.trod enc P w base spare held fuel t cs = some x) :
    ∃ v L, cs = [v] ∧ IsR k w v L ∧ cntD x.1 = L.length := by
  have hc : P.cellsOf e = k := hf.1
  rcases DataW.trod_slice ht h with ⟨rfl, rfl⟩ | ⟨a, len, cap, elems, rest, m, _, rfl, rfl, hb, hl, hm, hlen, hel, _, _⟩
  · exact ⟨_, [], rfl, IsR.nil k w, rfl⟩
  · have hrow : ∀ i, i < len → ∃ ns : List Int, ns.length = k ∧ (∀ z ∈ ns, (Lit.int .i64 z).wf = true) ∧ ∀ j, j < k → w.cell? (a.add (i * k + j)) = some (.int .i64 (ns.getD j 0)) := by
      intro i hi
      have h1 := hel i hi
      have hsome : elems[i]? = some (elems[i]'(by omega)) := List.getElem?_eq_getElem _
      rw [hsome, hc] at h1
      obtain ⟨cs, hcs, htr⟩ := Option.bind_eq_some_iff.mp h1
      obtain ⟨ns, hn, he, hw⟩ := hf.2 _ _ _ _ _ _ _ _ _ htr
      obtain ⟨_, _, hcell⟩ := World.cells?_some hcs
      refine ⟨ns, hn, hw, fun j hj => ?_⟩
      have := hcell j (by omega)
      rw [Addr.add_add] at this
      rw [this, he, List.getElem?_map, List.getD, List.getElem?_eq_getElem (by omega)]; rfl
    obtain ⟨L, hL, hQ⟩ := list_all [] (fun i ns => ns.length = k ∧ (∀ z ∈ ns, (Lit.int .i64 z).wf = true) ∧ ∀ j, j < k → w.cell? (a.add (i * k + j)) = some (.int .i64 (ns.getD j 0))) len hrow
    refine ⟨_, L, rfl, ⟨some a, cap, by rw [hL], by omega, hm, fun i hi => ?_, fun r hr => ?_⟩, by show (elems.map _).length = _; rw [List.length_map, hlen, hL]⟩
    · obtain ⟨_, _, hcell⟩ := hQ i (by omega)
      obtain ⟨_, _, hcell0⟩ := hQ 0 (by omega)
      obtain ⟨b, off, spot⟩ := a
      have hspot : spot = none := by simpa [Addr.add] using World.cell?_spot (hcell0 0 hk)
      subst hspot
      exact ⟨b, off, rfl, fun j hj => by rw [← add_plain]; exact hcell j hj⟩
    · obtain ⟨i, hi, rfl⟩ := List.mem_iff_getElem.mp hr
      obtain ⟨h1, h2, _⟩ := hQ i (by omega)
      rw [List.getD, List.getElem?_eq_getElem hi] at h1 h2
      exact ⟨h1, fun z hz => bounds_i64 (h2 z hz)⟩
theorem trod_rows {k fuel : Nat} {cs : List Value} {x : DataW H × List MemPlace} (hk : 0 < k) (ht : P.underlying t = some (.slice e)) (hf : IntFields P e k) (h : DataW.trod enc P w base spare held fuel t cs = some x) :
    ∃ v L, cs = [v] ∧ IsR k w v L ∧ cntD x.1 = L.length := trod_rowsA hk ht hf.all h
end

/-- A slice of slices of structs of k ints. -/
def IsP (k : Nat) (w : World) (v : Value) (L : List (List (List Int))) : Prop :=
  ∃ (a : Option Addr) (cap : Nat), v = .slice a L.length cap ∧ L.length ≤ cap ∧ cap ≤ maxLen ∧
    ∀ i, i < L.length → ∃ b off u, a = some ⟨b, off, none⟩ ∧ w.cell? ⟨b, off + i, none⟩ = some u ∧ IsR k w u (L.getD i [])
theorem IsP.below {k : Nat} {w w' : World} {v : Value} {L : List (List (List Int))} (h : IsP k w v L) (hb : Below w.heap.size w w') : IsP k w' v L := by
  obtain ⟨a, cap, rfl, h1, h2, hc⟩ := h
  refine ⟨a, cap, rfl, h1, h2, fun i hi => ?_⟩
  obtain ⟨b, off, u, rfl, hcell, hu⟩ := hc i hi
  exact ⟨b, off, u, rfl, (hb.cell (block_lt hcell)).trans hcell, hu.below hb⟩
theorem IsP.nil (k : Nat) (w : World) : IsP k w (.slice none 0 0) [] :=
  ⟨none, 0, rfl, by simp, by simp [maxLen], fun i hi => by simp at hi⟩

/-- A reading of as many phases, each of as many rows. -/
def Dat {H : Type} (d : DataW H) (L : List (List (List Int))) : Prop :=
  (d = .nil ∧ L = []) ∨ ∃ D sp, d = .slice D sp ∧ D.length = L.length ∧ ∀ i, i < L.length → cntD (D.getD i .nil) = (L.getD i []).length
section
variable {H : Type} {enc : TypeId × Value → H} {P : Program} {w : World} {base : Nat} {spare : Nat → Bool} {held : Bool} {t q e : TypeId} {d : DataW H} {p : List MemPlace}
theorem trod_phases {k fuel : Nat} {cs : List Value} {x : DataW H × List MemPlace} (hk : 0 < k) (ht : P.underlying t = some (.slice q)) (hq1 : P.cellsOf q = 1) (hq : P.underlying q = some (.slice e)) (hf : IntFields P e k) (h : DataW.trod enc P w base spare held fuel t cs = some x) :
    ∃ v L, cs = [v] ∧ IsP k w v L ∧ Dat x.1 L := by
  rcases DataW.trod_slice ht h with ⟨rfl, rfl⟩ | ⟨a, len, cap, elems, rest, m, _, rfl, rfl, hb, hl, hm, hlen, hel, _, _⟩
  · exact ⟨_, [], rfl, IsP.nil k w, .inl ⟨rfl, rfl⟩⟩
  · have hrow : ∀ i, i < len → ∃ (L : List (List Int)), (∃ u, w.cell? (a.add i) = some u ∧ IsR k w u L) ∧ cntD ((elems.map (·.1)).getD i .nil) = L.length := by
      intro i hi
      have h1 := hel i hi
      have hsome : elems[i]? = some (elems[i]'(by omega)) := List.getElem?_eq_getElem _
      rw [hsome, hq1, Nat.mul_one] at h1
      obtain ⟨cs, hcs, htr⟩ := Option.bind_eq_some_iff.mp h1
      obtain ⟨u, L, rfl, hL, hcn⟩ := trod_rows hk hq hf htr
      obtain ⟨_, _, hcell⟩ := World.cells?_some hcs
      have := hcell 0 (by omega)
      rw [Addr.add_add, Nat.add_zero] at this
      refine ⟨L, ⟨u, this, hL⟩, ?_⟩
      rw [← hcn, List.getD, List.getElem?_map, hsome]; rfl
    obtain ⟨L, hL, hQ⟩ := list_all [] (fun i (l : List (List Int)) => (∃ u, w.cell? (a.add i) = some u ∧ IsR k w u l) ∧ cntD ((elems.map (·.1)).getD i .nil) = l.length) len hrow
    refine ⟨_, L, rfl, ⟨some a, cap, by rw [hL], by omega, hm, fun i hi => ?_⟩, .inr ⟨_, _, rfl, by rw [List.length_map, hlen, hL], fun i hi => (hQ i (by omega)).2⟩⟩
    obtain ⟨⟨u, hcell, hu⟩, _⟩ := hQ i (by omega)
    obtain ⟨⟨_, hcell0, _⟩, _⟩ := hQ 0 (by omega)
    obtain ⟨b, off, spot⟩ := a
    have hspot : spot = none := by simpa [Addr.add] using World.cell?_spot hcell0
    subst hspot
    exact ⟨b, off, u, rfl, by rw [← add_plain]; exact hcell, hu⟩
theorem isP_of_arg {v : Value} {k : Nat} {r : Reach} {b0 : Nat} (hk : 0 < k) (ht : P.underlying t = some (.slice q)) (hq1 : P.cellsOf q = 1) (hq : P.underlying q = some (.slice e)) (hf : IntFields P e k) (hval : Value.okWide P w r b0 t v) (h : DataW.Trod enc P w base spare held t v d p) : ∃ L, IsP k w v L ∧ Dat d L := by
  obtain ⟨a, len, cap, rfl⟩ := okWide_slice ht hval
  obtain ⟨fuel, h⟩ := h
  obtain ⟨v, L, e, hL, hD⟩ := trod_phases hk ht hq1 hq hf h
  have e2 : [Value.slice a len cap] = [v] := e
  rw [List.cons.inj e2 |>.1]
  exact ⟨L, hL, hD⟩
end

end Go.Proofs.YtckoipoejaafhaaDoor

/-! The cells of a list of tasks. -/
namespace Go.Proofs.YtckoipoejaafhaaDoor
open Go.RowKit
set_option maxRecDepth 100000

/-- The cells of a list of tasks. -/
def tc (T : List (List Int)) : List Value := T.flatMap fun r => r.map fun z => Value.int .i64 z
def T3 (T : List (List Int)) : Prop := ∀ r ∈ T, r.length = 3 ∧ ∀ z ∈ r, -9223372036854775808 ≤ z ∧ z ≤ 9223372036854775807
theorem T3.nil : T3 [] := fun r hr => by cases hr
theorem T3.append {A B : List (List Int)} (hA : T3 A) (hB : T3 B) : T3 (A ++ B) := fun r hr => by
  rcases List.mem_append.mp hr with h | h
  · exact hA r h
  · exact hB r h
theorem T3.one {a b c : Int} (ha : -9223372036854775808 ≤ a ∧ a ≤ 9223372036854775807) (hb : -9223372036854775808 ≤ b ∧ b ≤ 9223372036854775807) (hc : -9223372036854775808 ≤ c ∧ c ≤ 9223372036854775807) : T3 [[a, b, c]] := fun r hr => by
  simp only [List.mem_singleton] at hr
  subst hr
  refine ⟨rfl, fun z hz => ?_⟩
  simp only [List.mem_cons, List.not_mem_nil, or_false] at hz
  rcases hz with rfl | rfl | rfl
  · exact ha
  · exact hb
  · exact hc
theorem tc_cons (r : List Int) (T : List (List Int)) : tc (r :: T) = (r.map fun z => Value.int .i64 z) ++ tc T := by simp [tc]
theorem tc_length {T : List (List Int)} (h : T3 T) : (tc T).length = T.length * 3 := by
  induction T with
  | nil => rfl
  | cons r T ih =>
    have h1 := (h r (List.mem_cons_self)).1
    rw [tc_cons, List.length_append, List.length_map, h1, ih (fun q hq => h q (List.mem_cons_of_mem _ hq)), List.length_cons]; omega
theorem tc_get {T : List (List Int)} (h : T3 T) (i j : Nat) (hi : i < T.length) (hj : j < 3) : (tc T)[i * 3 + j]? = some (.int .i64 ((T.getD i []).getD j 0)) := by
  induction T generalizing i with
  | nil => simp at hi
  | cons r T ih =>
    have h1 := (h r (List.mem_cons_self)).1
    rw [tc_cons]
    cases i with
    | zero =>
      rw [List.getElem?_append_left (by rw [List.length_map]; omega), List.getElem?_map]
      simp only [Nat.zero_mul, Nat.zero_add, List.getD_cons_zero]
      rw [List.getD, List.getElem?_eq_getElem (by omega)]; rfl
    | succ i =>
      rw [List.getElem?_append_right (by rw [List.length_map]; omega), List.length_map, h1, show (i + 1) * 3 + j - 3 = i * 3 + j by omega, ih (fun q hq => h q (List.mem_cons_of_mem _ hq)) i (by simp at hi; omega)]
      simp
end Go.Proofs.YtckoipoejaafhaaDoor

/-! Slices of tasks that the call itself made: a task appended, a phase appended; what they read as. -/
namespace Go.Proofs.YtckoipoejaafhaaDoor
open Go.RowKit
set_option maxRecDepth 100000


theorem IsR.of_owns {w : World} {base e n : Nat} {v : Value} {T : List (List Int)} (h : w.ownsRow base e 3 v n (tc T)) (hT : T3 T) : IsR 3 w v T := by
  have h0 := h
  obtain ⟨hl, hv⟩ := h
  rw [tc_length hT] at hl
  have hn : T.length = n := by omega
  subst hn
  rcases hv with ⟨rfl, h2⟩ | ⟨g, cap, cur, rfl, hg, hh, hc, hm, hs, ht⟩
  · have : T = [] := List.eq_nil_of_length_eq_zero h2
    subst this
    exact IsR.nil 3 w
  · refine ⟨some ⟨g, 0, none⟩, cap, rfl, hc, hm, fun i hi => ⟨g, 0, rfl, fun j hj => ?_⟩, hT⟩
    rw [Nat.zero_add, h0.cellAt (i * 3 + j) (by omega), tc_get hT i j hi hj]
theorem IsR.block {k : Nat} {w w' : World} {g l c : Nat} {T : List (List Int)} (h : IsR k w (.slice (some ⟨g, 0, none⟩) l c) T) (e : w'.heap[g]? = w.heap[g]?) : IsR k w' (.slice (some ⟨g, 0, none⟩) l c) T := by
  obtain ⟨a, cap, hv, h1, h2, hc, hr⟩ := h
  refine ⟨a, cap, hv, h1, h2, fun i hi => ?_, hr⟩
  obtain ⟨b, off, rfl, hcell⟩ := hc i hi
  simp only [Value.slice.injEq, Option.some.injEq, Addr.mk.injEq, and_true] at hv
  obtain ⟨⟨rfl, rfl⟩, _⟩ := hv
  exact ⟨g, 0, rfl, fun j hj => (World.cell?_of_block (w := w) e).trans (hcell j hj)⟩
/-- The slices vs, that lie in blocks from B on other than the one of u, read as the phases L. -/
def InnT (B : Nat) (w : World) (u : Value) (vs : List Value) (L : List (List (List Int))) : Prop :=
  vs.length = L.length ∧ ∀ i, i < L.length → ∃ g cap, vs[i]? = some (.slice (some ⟨g, 0, none⟩) (L.getD i []).length cap) ∧ u.ownBlock ≠ some g ∧ g < w.heap.size ∧ B ≤ g ∧ IsR 3 w (.slice (some ⟨g, 0, none⟩) (L.getD i []).length cap) (L.getD i [])
theorem InnT.below {B : Nat} {w w' : World} {u : Value} {vs : List Value} {L : List (List (List Int))} (h : InnT B w u vs L) (hb : Below w.heap.size w w') : InnT B w' u vs L := by
  refine ⟨h.1, fun i hi => ?_⟩
  obtain ⟨g, cap, h1, h2, h3, hB, h4⟩ := h.2 i hi
  exact ⟨g, cap, h1, h2, Nat.lt_of_lt_of_le h3 hb.size, hB, h4.below hb⟩
theorem InnT.grow {B : Nat} {w w' : World} {u u' : Value} {vs : List Value} {L : List (List (List Int))} {g gl cap n c : Nat} {ls : List (List Int)} (h : InnT B w u vs L) (hu' : u' = .slice (some ⟨g, 0, none⟩) n c)
    (hk : ∀ b, b < w.heap.size → u.ownBlock ≠ some b → w'.heap[b]? = w.heap[b]?) (hat : u.ownBlock = some g ∨ w.heap.size < g) (hsz : w.heap.size ≤ w'.heap.size)
    (hl : IsR 3 w (.slice (some ⟨gl, 0, none⟩) ls.length cap) ls) (hgl : gl < w.heap.size) (hBl : B ≤ gl) (hne : u.ownBlock ≠ some gl) : InnT B w' u' (vs ++ [.slice (some ⟨gl, 0, none⟩) ls.length cap]) (L ++ [ls]) := by
  have hap : ∀ b, b < w.heap.size → u.ownBlock ≠ some b → u'.ownBlock ≠ some b := by
    intro b hb hn e
    rw [hu'] at e
    simp only [Value.ownBlock, Option.some.injEq] at e
    subst e
    rcases hat with h1 | h1
    · exact hn h1
    · omega
  refine ⟨by simp [h.1], fun i hi => ?_⟩
  rw [List.length_append] at hi
  by_cases e : i < L.length
  · obtain ⟨b, c', h1, h2, h3, hB, h4⟩ := h.2 i e
    have e1 : (L ++ [ls]).getD i [] = L.getD i [] := by simp [List.getD, List.getElem?_append_left e]
    rw [e1]
    exact ⟨b, c', by rw [List.getElem?_append_left (by rw [h.1]; exact e)]; exact h1, hap b h3 h2, by omega, hB, h4.block (hk b h3 h2)⟩
  · have e2 : i = L.length := by simp at hi; omega
    subst e2
    have e1 : (L ++ [ls]).getD L.length [] = ls := by simp [List.getD]
    rw [e1]
    exact ⟨gl, cap, by rw [← h.1]; simp, hap gl hgl hne, by omega, hBl, hl.block (hk gl hgl hne)⟩
/-- The first t tasks of c lines each; those of n lines. -/
def ful (x c t : Nat) : List (List Int) := (List.range t).map fun (s : Nat) => [(x : Int), ((s * c : Nat) : Int), (((s + 1) * c : Nat) : Int)]
def chn (x c n : Nat) : List (List Int) := if n = 0 then [] else ful x c ((n - 1) / c) ++ [[(x : Int), (((n - 1) / c * c : Nat) : Int), (n : Int)]]
end Go.Proofs.YtckoipoejaafhaaDoor

/-! What Plan of package goldref answers: for each axis its lines, so many a task; the errors. -/
namespace Go.Proofs.YtckoipoejaafhaaDoor
open Go.RowKit
set_option maxRecDepth 100000

/-- The phases of the first x axes. -/
def pls (ds : List Nat) (c x : Nat) : List (List (List Int)) := (List.range x).map fun y => chn y c (nln ds y)
/-- None of the first x phases has more tasks than it may. -/
def Few (ds : List Nat) (c x : Nat) : Prop := ∀ y, y < x → (chn y c (nln ds y)).length ≤ 64

end Go.Proofs.YtckoipoejaafhaaDoor
