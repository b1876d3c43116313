/-
  Texts that stood one behind the other, as one.
-/
import Derived.Test.YtckoipoejaafhabDoorSlAll
import Derived.OpenShut
import Derived.ChangeArms
import Derived.Test.YtckoipoejaafhabDoorRowIAll
import Derived.BigQuiet
namespace Go.Proofs.YtckoipoejaafhabDoor
open Go.RowKit Go.ChangeShapes Go.WideShapes
section
variable {H : Type} {enc : TypeId × Value → H} {P : Program} {w : World} {base : Nat} {spare : Nat → Bool} {held : Bool} {fuel : Nat} {t : TypeId} {cs : List Value} {x : DataW H × List MemPlace}
def zOf : Value → Int
  | .int _ z => z
  | _ => 0
def Zs (cs : List Value) (ns : List Int) : Prop := cs = ns.map (fun z => Value.int .i64 z) ∧ ∀ z ∈ ns, (Lit.int .i64 z).wf = true
def IntFields (P : Program) (t : TypeId) (n : Nat) : Prop := ∃ fs : Array Field, P.underlying t = some (.struct fs) ∧ P.cellsOf t = n ∧ fs.size = n ∧ ∀ (i : Nat) (f : Field), fs[i]? = some f → f.offset = i ∧ P.cellsOf f.type = 1 ∧ P.underlying f.type = some (.int .i64)
theorem zs_of {n : Nat} (hl : cs.length = n) (h : ∀ i, i < n → ∃ z, cs[i]? = some (.int .i64 z) ∧ (Lit.int .i64 z).wf = true) : ∃ ns : List Int, ns.length = n ∧ Zs cs ns := by
  refine ⟨cs.map zOf, by rw [List.length_map, hl], ?_, ?_⟩
  · apply List.ext_getElem?
    intro i
    rcases Nat.lt_or_ge i n with hi | hi
    · obtain ⟨z, e, _⟩ := h i hi
      rw [List.getElem?_map, List.getElem?_map, e]; rfl
    · rw [List.getElem?_eq_none (by omega), List.getElem?_eq_none (by simp; omega)]
  · intro z hz
    obtain ⟨v, hv, rfl⟩ := List.mem_map.mp hz
    obtain ⟨i, hi, e⟩ := List.mem_iff_getElem.mp hv
    obtain ⟨z, e2, hw⟩ := h i (by omega)
    rw [List.getElem?_eq_getElem hi] at e2
    have : v = .int .i64 z := by rw [← e]; exact Option.some.inj e2
    rw [this]; exact hw
theorem trod_ints {n : Nat} (hf : IntFields P t n) (h : DataW.trod enc P w base spare held fuel t cs = some x) : ∃ ns : List Int, ns.length = n ∧ Zs cs ns := by
  obtain ⟨fs, ht, hc, hs, hfs⟩ := hf
  obtain ⟨xs, m, _, _, hl, hxs, hx⟩ := DataW.trod_struct ht h
  refine zs_of (by rw [hl, hc]) fun i hi => ?_
  have hfi : fs[i]? = some fs[i] := by rw [Array.getElem?_eq_getElem]
  obtain ⟨ho, h1, hu⟩ := hfs i _ hfi
  have hxi := hx i _ hfi
  have hsome : xs[i]? = some (xs[i]'(by omega)) := List.getElem?_eq_getElem _
  rw [hsome, ho, h1] at hxi
  obtain ⟨z, e, _, hw⟩ := DataW.trod_int hu hxi
  refine ⟨z, ?_, hw⟩
  have := congrArg (fun (l : List Value) => l[0]?) e
  simpa [List.getElem?_take, List.getElem?_drop] using this
end
def IntAll (P : Program) (t : TypeId) (n : Nat) : Prop := P.cellsOf t = n ∧ ∀ (H : Type) (enc : TypeId × Value → H) (w : World) (base : Nat) (spare : Nat → Bool) (held : Bool) (fuel : Nat) (cs : List Value) (x : DataW H × List MemPlace), DataW.trod enc P w base spare held fuel t cs = some x → ∃ ns : List Int, ns.length = n ∧ Zs cs ns
theorem IntFields.all {P : Program} {t : TypeId} {n : Nat} (hf : IntFields P t n) : IntAll P t n :=
  ⟨by obtain ⟨_, _, h1, _⟩ := hf; exact h1, fun _ _ _ _ _ _ _ _ _ h => trod_ints hf h⟩
def cntD {H : Type} : DataW H → Nat
  | .slice es _ => es.length
  | _ => 0
theorem len_3 {l : List Int} (h : l.length = 3) : ∃ a b c, l = [a, b, c] := by
  match l, h with
  | [a, b, c], _ => exact ⟨a, b, c, rfl⟩
theorem list_all {α : Type} (d : α) (Q : Nat → α → Prop) : ∀ n, (∀ i, i < n → ∃ y, Q i y) → ∃ L : List α, L.length = n ∧ ∀ i, i < n → Q i (L.getD i d)
  | 0, _ => ⟨[], rfl, fun i hi => by omega⟩
  | n + 1, h => by
    obtain ⟨L, hl, hQ⟩ := list_all d Q n fun i hi => h i (by omega)
    obtain ⟨y, hy⟩ := h n (by omega)
    refine ⟨L ++ [y], by simp [hl], fun i hi => ?_⟩
    rcases Nat.lt_or_ge i n with h1 | h1
    · have := hQ i h1
      rw [List.getD, List.getElem?_append_left (by omega)]; exact this
    · have e : i = n := by omega
      subst e
      rw [List.getD, List.getElem?_append_right (by omega), hl]
      simpa using hy
def IsR (k : Nat) (w : World) (v : Value) (L : List (List Int)) : Prop :=
  ∃ (a : Option Addr) (cap : Nat), v = .slice a L.length cap ∧ L.length ≤ cap ∧ cap ≤ maxLen ∧
    (∀ i, i < L.length → ∃ b off, a = some ⟨b, off, none⟩ ∧ ∀ j, j < k → w.cell? ⟨b, off + (i * k + j), none⟩ = some (.int .i64 ((L.getD i []).getD j 0))) ∧
    (∀ r ∈ L, r.length = k ∧ ∀ z ∈ r, -9223372036854775808 ≤ z ∧ z ≤ 9223372036854775807)
theorem IsR.below {k : Nat} {w w' : World} {v : Value} {L : List (List Int)} (h : IsR k w v L) (hb : Below w.heap.size w w') : IsR k w' v L := by
  obtain ⟨a, cap, rfl, h1, h2, hc, hr⟩ := h
  refine ⟨a, cap, rfl, h1, h2, fun i hi => ?_, hr⟩
  obtain ⟨b, off, rfl, hcell⟩ := hc i hi
  exact ⟨b, off, rfl, fun j hj => (hb.cell (block_lt (hcell j hj))).trans (hcell j hj)⟩
theorem IsR.nil (k : Nat) (w : World) : IsR k w (.slice none 0 0) [] :=
  ⟨none, 0, rfl, by simp, by simp [maxLen], fun i hi => by simp at hi, fun r hr => by cases hr⟩
section
variable {H : Type} {enc : TypeId × Value → H} {P : Program} {w : World} {base : Nat} {spare : Nat → Bool} {held : Bool} {t e : TypeId} {d : DataW H} {p : List MemPlace}
theorem trod_rowsA {k fuel : Nat} {cs : List Value} {x : DataW H × List MemPlace} (hk : 0 < k) (ht : P.underlying t = some (.slice e)) (hf : IntAll P e k) (h : DataW.trod enc P w base spare held fuel t cs = some x) :
    ∃ v L, cs = [v] ∧ IsR k w v L ∧ cntD x.1 = L.length := by
  have hc : P.cellsOf e = k := hf.1
  rcases DataW.trod_slice ht h with ⟨rfl, rfl⟩ | ⟨a, len, cap, elems, rest, m, _, rfl, rfl, hb, hl, hm, hlen, hel, _, _⟩
  · exact ⟨_, [], rfl, IsR.nil k w, rfl⟩
  · have hrow : ∀ i, i < len → ∃ ns : List Int, ns.length = k ∧ (∀ z ∈ ns, (Lit.int .i64 z).wf = true) ∧ ∀ j, j < k → w.cell? (a.add (i * k + j)) = some (.int .i64 (ns.getD j 0)) := by
      intro i hi
      have h1 := hel i hi
      have hsome : elems[i]? = some (elems[i]'(by omega)) := List.getElem?_eq_getElem _
      rw [hsome, hc] at h1
      obtain ⟨cs, hcs, htr⟩ := Option.bind_eq_some_iff.mp h1
      obtain ⟨ns, hn, he, hw⟩ := hf.2 _ _ _ _ _ _ _ _ _ htr
      obtain ⟨_, _, hcell⟩ := World.cells?_some hcs
      refine ⟨ns, hn, hw, fun j hj => ?_⟩
      have := hcell j (by omega)
      rw [Addr.add_add] at this
      rw [this, he, List.getElem?_map, List.getD, List.getElem?_eq_getElem (by omega)]; rfl
    obtain ⟨L, hL, hQ⟩ := list_all [] (fun i ns => ns.length = k ∧ (∀ z ∈ ns, (Lit.int .i64 z).wf = true) ∧ ∀ j, j < k → w.cell? (a.add (i * k + j)) = some (.int .i64 (ns.getD j 0))) len hrow
    refine ⟨_, L, rfl, ⟨some a, cap, by rw [hL], by omega, hm, fun i hi => ?_, fun r hr => ?_⟩, by show (elems.map _).length = _; rw [List.length_map, hlen, hL]⟩
    · obtain ⟨_, _, hcell⟩ := hQ i (by omega)
      obtain ⟨_, _, hcell0⟩ := hQ 0 (by omega)
      obtain ⟨b, off, spot⟩ := a
      have hspot : spot = none := by simpa [Addr.add] using World.cell?_spot (hcell0 0 hk)
      subst hspot
      exact ⟨b, off, rfl, fun j hj => by rw [← add_plain]; exact hcell j hj⟩
    · obtain ⟨i, hi, rfl⟩ := List.mem_iff_getElem.mp hr
      obtain ⟨h1, h2, _⟩ := hQ i (by omega)
      rw [List.getD, List.getElem?_eq_getElem hi] at h1 h2
      exact ⟨h1, fun z hz => bounds_i64 (h2 z hz)⟩
theorem trod_rows {k fuel : Nat} {cs : List Value} {x : DataW H × List MemPlace} (hk : 0 < k) (ht : P.underlying t = some (.slice e)) (hf : IntFields P e k) (h : DataW.trod enc P w base spare held fuel t cs = some x) :
    ∃ v L, cs = [v] ∧ IsR k w v L ∧ cntD x.1 = L.length := trod_rowsA hk ht hf.all h
end
def IsP (k : Nat) (w : World) (v : Value) (L : List (List (List Int))) : Prop :=
  ∃ (a : Option Addr) (cap : Nat), v = .slice a L.length cap ∧ L.length ≤ cap ∧ cap ≤ maxLen ∧
    ∀ i, i < L.length → ∃ b off u, a = some ⟨b, off, none⟩ ∧ w.cell? ⟨b, off + i, none⟩ = some u ∧ IsR k w u (L.getD i [])
theorem IsP.below {k : Nat} {w w' : World} {v : Value} {L : List (List (List Int))} (h : IsP k w v L) (hb : Below w.heap.size w w') : IsP k w' v L := by
  obtain ⟨a, cap, rfl, h1, h2, hc⟩ := h
  refine ⟨a, cap, rfl, h1, h2, fun i hi => ?_⟩
  obtain ⟨b, off, u, rfl, hcell, hu⟩ := hc i hi
  exact ⟨b, off, u, rfl, (hb.cell (block_lt hcell)).trans hcell, hu.below hb⟩
theorem IsP.nil (k : Nat) (w : World) : IsP k w (.slice none 0 0) [] :=
  ⟨none, 0, rfl, by simp, by simp [maxLen], fun i hi => by simp at hi⟩
def Dat {H : Type} (d : DataW H) (L : List (List (List Int))) : Prop :=
  (d = .nil ∧ L = []) ∨ ∃ D sp, d = .slice D sp ∧ D.length = L.length ∧ ∀ i, i < L.length → cntD (D.getD i .nil) = (L.getD i []).length
section
variable {H : Type} {enc : TypeId × Value → H} {P : Program} {w : World} {base : Nat} {spare : Nat → Bool} {held : Bool} {t q e : TypeId} {d : DataW H} {p : List MemPlace}
theorem trod_phases {k fuel : Nat} {cs : List Value} {x : DataW H × List MemPlace} (hk : 0 < k) (ht : P.underlying t = some (.slice q)) (hq1 : P.cellsOf q = 1) (hq : P.underlying q = some (.slice e)) (hf : IntFields P e k) (h : DataW.trod enc P w base spare held fuel t cs = some x) :
    ∃ v L, cs = [v] ∧ IsP k w v L ∧ Dat x.1 L := by
  rcases DataW.trod_slice ht h with ⟨rfl, rfl⟩ | ⟨a, len, cap, elems, rest, m, _, rfl, rfl, hb, hl, hm, hlen, hel, _, _⟩
  · exact ⟨_, [], rfl, IsP.nil k w, .inl ⟨rfl, rfl⟩⟩
  · have hrow : ∀ i, i < len → ∃ (L : List (List Int)), (∃ u, w.cell? (a.add i) = some u ∧ IsR k w u L) ∧ cntD ((elems.map (·.1)).getD i .nil) = L.length := by
      intro i hi
      have h1 := hel i hi
      have hsome : elems[i]? = some (elems[i]'(by omega)) := List.getElem?_eq_getElem _
      rw [hsome, hq1, Nat.mul_one] at h1
      obtain ⟨cs, hcs, htr⟩ := Option.bind_eq_some_iff.mp h1
      obtain ⟨u, L, rfl, hL, hcn⟩ := trod_rows hk hq hf htr
      obtain ⟨_, _, hcell⟩ := World.cells?_some hcs
      have := hcell 0 (by omega)
      rw [Addr.add_add, Nat.add_zero] at this
      refine ⟨L, ⟨u, this, hL⟩, ?_⟩
      rw [← hcn, List.getD, List.getElem?_map, hsome]; rfl
    obtain ⟨L, hL, hQ⟩ := list_all [] (fun i (l : List (List Int)) => (∃ u, w.cell? (a.add i) = some u ∧ IsR k w u l) ∧ cntD ((elems.map (·.1)).getD i .nil) = l.length) len hrow
    refine ⟨_, L, rfl, ⟨some a, cap, by rw [hL], by omega, hm, fun i hi => ?_⟩, .inr ⟨_, _, rfl, by rw [List.length_map, hlen, hL], fun i hi => (hQ i (by omega)).2⟩⟩
    obtain ⟨⟨u, hcell, hu⟩, _⟩ := hQ i (by omega)
    obtain ⟨⟨_, hcell0, _⟩, _⟩ := hQ 0 (by omega)
    obtain ⟨b, off, spot⟩ := a
    have hspot : spot = none := by simpa [Addr.add] using World.cell?_spot hcell0
    subst hspot
    exact ⟨b, off, u, rfl, by rw [← add_plain]; exact hcell, hu⟩
theorem isP_of_arg {v : Value} {k : Nat} {r : Reach} {b0 : Nat} (hk : 0 < k) (ht : P.underlying t = some (.slice q)) (hq1 : P.cellsOf q = 1) (hq : P.underlying q = some (.slice e)) (hf : IntFields P e k) (hval : Value.okWide P w r b0 t v) (h : DataW.Trod enc P w base spare held t v d p) : ∃ L, IsP k w v L ∧ Dat d L := by
  obtain ⟨a, len, cap, rfl⟩ := okWide_slice ht hval
  obtain ⟨fuel, h⟩ := h
  obtain ⟨v, L, e, hL, hD⟩ := trod_phases hk ht hq1 hq hf h
  have e2 : [Value.slice a len cap] = [v] := e
  rw [List.cons.inj e2 |>.1]
  exact ⟨L, hL, hD⟩
end
end Go.Proofs.YtckoipoejaafhabDoor

namespace Go.Proofs.YtckoipoejaafhabDoor
open Go.RowKit
set_option maxRecDepth 100000
def T3 (T : List (List Int)) : Prop := ∀ r ∈ T, r.length = 3 ∧ ∀ z ∈ r, -9223372036854775808 ≤ z ∧ z ≤ 9223372036854775807
theorem T3.append {A B : List (List Int)} (hA : T3 A) (hB : T3 B) : T3 (A ++ B) := fun r hr => by
  rcases List.mem_append.mp hr with h | h
  · exact hA r h
  · exact hB r h
theorem T3.one {a b c : Int} (ha : -9223372036854775808 ≤ a ∧ a ≤ 9223372036854775807) (hb : -9223372036854775808 ≤ b ∧ b ≤ 9223372036854775807) (hc : -9223372036854775808 ≤ c ∧ c ≤ 9223372036854775807) : T3 [[a, b, c]] := fun r hr => by
  simp only [List.mem_singleton] at hr
  subst hr
  refine ⟨rfl, fun z hz => ?_⟩
  simp only [List.mem_cons, List.not_mem_nil, or_false] at hz
  rcases hz with rfl | rfl | rfl
  · exact ha
  · exact hb
  · exact hc
theorem info_task : (Tryd.prog.info? 40).map (fun i => (i.zero, i.size, i.bytes)) = some (some (.agg #[.int .i64 0, .int .i64 0, .int .i64 0]), 3, 24) := by kernel_rfl
theorem info_phase : (Tryd.prog.info? 37).map (fun i => (i.zero, i.size, i.bytes)) = some (some (.slice none 0 0), 1, 24) := by kernel_rfl
def ful (x c t : Nat) : List (List Int) := (List.range t).map fun (s : Nat) => [(x : Int), ((s * c : Nat) : Int), (((s + 1) * c : Nat) : Int)]
def chn (x c n : Nat) : List (List Int) := if n = 0 then [] else ful x c ((n - 1) / c) ++ [[(x : Int), (((n - 1) / c * c : Nat) : Int), (n : Int)]]
theorem ful_length (x c t : Nat) : (ful x c t).length = t := by simp [ful]
theorem ful_succ (x c t : Nat) : ful x c (t + 1) = ful x c t ++ [[(x : Int), ((t * c : Nat) : Int), (((t + 1) * c : Nat) : Int)]] := by simp [ful, List.range_succ]
theorem chn_at (x c n t : Nat) (h1 : t * c < n) (h2 : n ≤ (t + 1) * c) : chn x c n = ful x c t ++ [[(x : Int), ((t * c : Nat) : Int), (n : Int)]] := by
  unfold chn
  rw [if_neg (by omega)]
  have e : (n - 1) / c = t := by
    rw [Nat.div_eq_iff (Nat.pos_of_ne_zero (fun h => by subst h; omega))]
    rw [Nat.add_mul, Nat.one_mul] at h2
    omega
  rw [e]
theorem ful_T3 (x c t n : Nat) (hx : x ≤ 1024) (hn : t * c ≤ n) (h9 : n ≤ 1024) : T3 (ful x c t) := by
  intro r hr
  obtain ⟨s, hs, rfl⟩ := List.mem_map.mp hr
  have hs' := List.mem_range.mp hs
  have h1 : (s + 1) * c ≤ t * c := Nat.mul_le_mul_right _ hs'
  have h2 : s * c ≤ (s + 1) * c := Nat.mul_le_mul_right _ (by omega)
  refine ⟨rfl, fun z hz => ?_⟩
  simp only [List.mem_cons, List.not_mem_nil, or_false] at hz
  rcases hz with rfl | rfl | rfl <;> omega
def pls (ds : List Nat) (c x : Nat) : List (List (List Int)) := (List.range x).map fun y => chn y c (nln ds y)
theorem pls_length (ds : List Nat) (c x : Nat) : (pls ds c x).length = x := by simp [pls]
def Few (ds : List Nat) (c x : Nat) : Prop := ∀ y, y < x → (chn y c (nln ds y)).length ≤ 64
end Go.Proofs.YtckoipoejaafhabDoor

namespace Go.Proofs.YtckoipoejaafhabDoor
def Vld (n x : Nat) (r : List Int) : Prop := r.getD 0 0 = (x : Int) ∧ 0 ≤ r.getD 1 0 ∧ r.getD 2 0 ≤ (n : Int) ∧ r.getD 1 0 < r.getD 2 0
def hit (r : List Int) (k : Nat) : Nat := if r.getD 1 0 ≤ (k : Int) ∧ (k : Int) < r.getD 2 0 then 1 else 0
def hits (T : List (List Int)) (k : Nat) : Nat := (T.map fun r => hit r k).sum
def RgtP (n x : Nat) (T : List (List Int)) : Prop := (∀ r ∈ T, Vld n x r) ∧ ∀ k, k < n → hits T k = 1
def Fine (ds : List Nat) (L : List (List (List Int))) : Prop := L.length = ds.length ∧ ∀ y, y < ds.length → RgtP (nln ds y) y (L.getD y [])
def BigP (L : List (List (List Int))) (x : Nat) : Prop := ∃ y, y < x ∧ 64 < (L.getD y []).length
theorem hits_succ (T : List (List Int)) (i k : Nat) (hi : i < T.length) : hits (T.take (i + 1)) k = hits (T.take i) k + hit (T.getD i []) k := by
  unfold hits
  rw [List.take_add_one, List.getElem?_eq_getElem hi, List.map_append, List.sum_append]
  simp [List.getD, List.getElem?_eq_getElem hi]
theorem hits_le (T : List (List Int)) (k : Nat) : hits T k ≤ T.length := by
  induction T with
  | nil => simp [hits]
  | cons r T ih =>
    have h1 : hit r k ≤ 1 := by unfold hit; split <;> omega
    simp only [hits, List.map_cons, List.sum_cons, List.length_cons] at ih ⊢
    omega
theorem valid_succ {n x : Nat} {T : List (List Int)} {i : Nat} (hi : i < T.length) (h : ∀ r ∈ T.take i, Vld n x r) (h1 : Vld n x (T.getD i [])) : ∀ r ∈ T.take (i + 1), Vld n x r := by
  intro r hr
  rw [List.take_add_one, List.getElem?_eq_getElem hi] at hr
  rcases List.mem_append.mp hr with h2 | h2
  · exact h r h2
  · simp only [Option.toList_some, List.mem_singleton] at h2
    rw [h2]
    simpa [List.getD, List.getElem?_eq_getElem hi] using h1
theorem getD_mem {T : List (List Int)} {i : Nat} (hi : i < T.length) : T.getD i [] ∈ T := by
  rw [List.getD, List.getElem?_eq_getElem hi]
  exact List.getElem_mem hi
def trS (ds xs : List Nat) (x : Nat) (back : Bool) (D : Nat → Bool) : List Nat :=
  tb (prd2 ds) fun p => if D (lnO (beh ds (x + 1)) (sz ds x) p) = true then (alo ds x back (cf xs) p).val else xs.getD p 0
theorem trS_none {ds xs : List Nat} (hl : xs.length = prd2 ds) (x : Nat) (back : Bool) : trS ds xs x back (fun _ => false) = xs := by
  have : trS ds xs x back (fun _ => false) = tb xs.length (fun p => xs.getD p 0) := by
    unfold trS; rw [hl]
    exact tb_congr fun p _ => if_neg (by simp)
  rw [this, tb_self]
theorem alo_same {ds : List Nat} (h : Shp ds) (x : Nat) (hx : x < ds.length) (b : Bool) {f g : Nat → F} (p : Nat) (hp : p < prd2 ds)
    (hfg : ∀ q, q < prd2 ds → lnO (beh ds (x + 1)) (sz ds x) q = lnO (beh ds (x + 1)) (sz ds x) p → f q = g q) : alo ds x b f p = alo ds x b g p := by
  have hu := beh_pos h (x + 1)
  have hd := P2_pos (h.at x hx)
  have hk := dg_lt (u := beh ds (x + 1)) (p := p) hd
  unfold alo ax
  congr 1
  refine dft_congr (fun s hs => ?_) _
  have e : st (beh ds (x + 1)) (sz ds x) p s = ps (beh ds (x + 1)) (sz ds x) (lnO (beh ds (x + 1)) (sz ds x) p) s := by
    have := ps_st (i := lnO (beh ds (x + 1)) (sz ds x) p) hu hk s
    rw [ps_of hu p] at this
    exact this
  rw [e]
  refine hfg _ ?_ (ps_ln hu hs)
  have hln : lnO (beh ds (x + 1)) (sz ds x) p < beh ds (x + 1) * prd2 (ds.take x) := by
    rw [prd2_at ds x hx] at hp
    exact ln_lt hu hp
  rw [prd2_at ds x hx]
  exact ps_lt hu hln hs
theorem trS_step {ds : List Nat} (h : Shp ds) (xs : List Nat) (x : Nat) (hx : x < ds.length) (back : Bool) (D : Nat → Bool) (f l : Nat) (hD : ∀ i, f ≤ i → i < l → D i = false) :
    trn ds (trS ds xs x back D) x f l back = trS ds xs x back (fun i => D i || (decide (f ≤ i) && decide (i < l))) := by
  unfold trn trK
  conv => rhs; unfold trS
  refine tb_congr fun p hp => ?_
  by_cases hin : f ≤ lnO (beh ds (x + 1)) (sz ds x) p ∧ lnO (beh ds (x + 1)) (sz ds x) p < l
  · rw [if_pos ⟨hin.1, .inl hin.2⟩, if_pos (by simp [hin.1, hin.2])]
    congr 1
    refine alo_same h x hx back p hp fun q hq e => ?_
    unfold cf
    congr 1
    unfold trS
    rw [tb_get _ _ _ hq, e, if_neg (by rw [hD _ hin.1 hin.2]; simp)]
  · rw [if_neg (by omega)]
    have e : ((D (lnO (beh ds (x + 1)) (sz ds x) p) || (decide (f ≤ lnO (beh ds (x + 1)) (sz ds x) p) && decide (lnO (beh ds (x + 1)) (sz ds x) p < l))) = true) = (D (lnO (beh ds (x + 1)) (sz ds x) p) = true) := by
      by_cases h1 : f ≤ lnO (beh ds (x + 1)) (sz ds x) p
      · have h2 : ¬ lnO (beh ds (x + 1)) (sz ds x) p < l := fun h2 => hin ⟨h1, h2⟩
        simp [h1, h2]
      · simp [h1]
    simp only [e]
    unfold trS
    rw [tb_get _ _ _ hp]
def nmL (xs : List Nat) : List Nat := xs.map fN
theorem nmL_length (xs : List Nat) : (nmL xs).length = xs.length := by simp [nmL]
theorem nmL_get (xs : List Nat) (i : Nat) : (nmL xs).getD i 0 = fN (xs.getD i 0) := by
  unfold nmL
  rw [List.getD, List.getD, List.getElem?_map]
  cases xs[i]? <;> rfl
theorem cf_nmL (xs : List Nat) : cf (nmL xs) = cf xs := funext fun i => by
  unfold cf
  rw [nmL_get, toF_fN]
theorem fN_small {a : Nat} (h : a < P) : fN a = a := by rw [fN_eq, Nat.mod_eq_of_lt h]
theorem nmL_tb (n : Nat) (g : Nat → Nat) : nmL (tb n g) = tb n (fun p => fN (g p)) := by simp [nmL, tb]
theorem nmL_trS (ds xs : List Nat) (x : Nat) (back : Bool) (D : Nat → Bool) : nmL (trS ds xs x back D) = trS ds (nmL xs) x back D := by
  unfold trS
  rw [nmL_tb, cf_nmL]
  refine tb_congr fun p _ => ?_
  split
  · exact fN_small (Fin.isLt _)
  · rw [nmL_get]
theorem trS_stepN {ds : List Nat} (h : Shp ds) (xs : List Nat) (x : Nat) (hx : x < ds.length) (back : Bool) (D : Nat → Bool) (f l : Nat) (hD : ∀ i, f ≤ i → i < l → D i = false) :
    trn ds (nmL (trS ds xs x back D)) x f l back = trS ds (nmL xs) x back (fun i => D i || (decide (f ≤ i) && decide (i < l))) := by
  rw [nmL_trS]
  exact trS_step h (nmL xs) x hx back D f l hD
end Go.Proofs.YtckoipoejaafhabDoor

namespace Go.Proofs.YtckoipoejaafhabDoor
open Go.RowKit
set_option maxRecDepth 100000
theorem row3 {w : World} {v : Value} {T : List (List Int)} (h : IsR 3 w v T) (i : Nat) (hi : i < T.length) : ∃ a b c, T.getD i [] = [a, b, c] ∧ (-9223372036854775808 ≤ a ∧ a ≤ 9223372036854775807) ∧ (-9223372036854775808 ≤ b ∧ b ≤ 9223372036854775807) ∧ (-9223372036854775808 ≤ c ∧ c ≤ 9223372036854775807) := by
  obtain ⟨_, _, _, _, _, _, hr⟩ := h
  obtain ⟨h1, h2⟩ := hr T[i] (List.getElem_mem hi)
  obtain ⟨a, b, c, e⟩ := len_3 h1
  rw [e] at h2
  exact ⟨a, b, c, by simp [List.getD, List.getElem?_eq_getElem hi, e], h2 a (by simp), h2 b (by simp), h2 c (by simp)⟩
end Go.Proofs.YtckoipoejaafhabDoor

namespace Go.Proofs.YtckoipoejaafhabDoor
theorem ful_hits (x c t k : Nat) : hits (ful x c t) k = if k < t * c then 1 else 0 := by
  induction t with
  | zero => simp [ful, hits]
  | succ t ih =>
    rw [ful_succ]
    unfold hits at ih ⊢
    rw [List.map_append, List.sum_append, ih]
    simp only [List.map_cons, List.map_nil, List.sum_cons, List.sum_nil, hit]
    show (if k < t * c then 1 else 0) + ((if ((t * c : Nat) : Int) ≤ (k : Int) ∧ (k : Int) < (((t + 1) * c : Nat) : Int) then 1 else 0) + 0) = _
    have e : (t + 1) * c = t * c + c := by rw [Nat.add_mul, Nat.one_mul]
    rw [e]
    by_cases h1 : k < t * c
    · rw [if_pos h1, if_neg (by omega), if_pos (by omega)]; rfl
    · rw [if_neg h1]
      by_cases h2 : k < t * c + c
      · rw [if_pos (by omega), if_pos h2]; rfl
      · rw [if_neg (by omega), if_neg h2]; rfl
theorem chn_right (x c n : Nat) (hc : 1 ≤ c) : RgtP n x (chn x c n) := by
  rcases Nat.eq_zero_or_pos n with h0 | h0
  · subst h0
    exact ⟨fun r hr => by simp [chn] at hr, fun k hk => by omega⟩
  · obtain ⟨t, ht⟩ : ∃ t, t = (n - 1) / c := ⟨_, rfl⟩
    have h1 : t * c ≤ n - 1 := by rw [ht]; exact Nat.div_mul_le_self _ _
    have h2 : n - 1 < (t + 1) * c := by rw [ht, Nat.mul_comm]; exact Nat.lt_mul_div_succ _ (by omega)
    rw [chn_at x c n t (by omega) (by omega)]
    refine ⟨fun r hr => ?_, fun k hk => ?_⟩
    · rcases List.mem_append.mp hr with h | h
      · obtain ⟨s, hs, rfl⟩ := List.mem_map.mp h
        have hs' := List.mem_range.mp hs
        have h3 : (s + 1) * c ≤ t * c := Nat.mul_le_mul_right _ hs'
        have h4 : (s + 1) * c = s * c + c := by rw [Nat.add_mul, Nat.one_mul]
        refine ⟨rfl, ?_, ?_, ?_⟩
        · show (0 : Int) ≤ ((s * c : Nat) : Int); omega
        · show (((s + 1) * c : Nat) : Int) ≤ (n : Int); omega
        · show ((s * c : Nat) : Int) < (((s + 1) * c : Nat) : Int); omega
      · simp only [List.mem_singleton] at h
        subst h
        refine ⟨rfl, ?_, ?_, ?_⟩
        · show (0 : Int) ≤ ((t * c : Nat) : Int); omega
        · show (n : Int) ≤ (n : Int); omega
        · show ((t * c : Nat) : Int) < (n : Int); omega
    · have e := ful_hits x c t k
      unfold hits at e ⊢
      rw [List.map_append, List.sum_append, e]
      simp only [List.map_cons, List.map_nil, List.sum_cons, List.sum_nil, hit]
      show (if k < t * c then 1 else 0) + ((if ((t * c : Nat) : Int) ≤ (k : Int) ∧ (k : Int) < (n : Int) then 1 else 0) + 0) = 1
      by_cases h3 : k < t * c
      · rw [if_pos h3, if_neg (by omega)]; rfl
      · rw [if_neg h3, if_pos (by omega)]; rfl
theorem chn_few (x c n : Nat) : (chn x c n).length ≤ n := by
  unfold chn
  split
  · simp
  · rw [List.length_append, ful_length]
    have : (n - 1) / c ≤ n - 1 := Nat.div_le_self _ _
    simp only [List.length_cons, List.length_nil]
    omega
theorem pls_get (ds : List Nat) (c x y : Nat) (hy : y < x) : (pls ds c x).getD y [] = chn y c (nln ds y) := by
  simp [pls, List.getD, hy]
theorem pls_fine (ds : List Nat) (c : Nat) (hc : 1 ≤ c) : Fine ds (pls ds c ds.length) :=
  ⟨pls_length _ _ _, fun y hy => by rw [pls_get ds c _ y hy]; exact chn_right y c _ hc⟩
theorem few_small {ds : List Nat} (h : Shp ds) (hn : prd2 ds ≤ 64) (c : Nat) : Few ds c ds.length := fun y hy =>
  Nat.le_trans (chn_few y c _) (by rw [← nln_div h y hy]; exact Nat.le_trans (Nat.div_le_self _ _) hn)
theorem pls_notbig {ds : List Nat} {c : Nat} (hF : Few ds c ds.length) : ¬ BigP (pls ds c ds.length) (pls ds c ds.length).length := fun ⟨y, hy, hb⟩ => by
  rw [pls_length] at hy
  rw [pls_get ds c _ y hy] at hb
  have := hF y hy
  omega
end Go.Proofs.YtckoipoejaafhabDoor

namespace Go.Proofs.YtckoipoejaafhabDoor
open Go.RowKit
set_option maxRecDepth 100000
def RowV (t : Nat) (w : World) (g : Nat) (vs : List Value) : Prop := w.heap[g]? = some (.cells vs.toArray t (0, 0))
section
variable {t : Nat} {w w' : World} {g g' : Nat} {xs ys : List Value}
theorem RowV.lt (h : RowV t w g xs) : g < w.heap.size := by
  obtain ⟨hlt, _⟩ := Array.getElem?_eq_some_iff.1 h
  exact hlt
theorem RowV.cell (h : RowV t w g xs) (i : Nat) : w.cell? ⟨g, i, none⟩ = xs[i]? := by
  have hh : w.heap[g]? = _ := h
  simp only [World.cell?, hh, List.getElem?_toArray]
  cases xs[i]? <;> rfl
theorem RowV.frozen (h : RowV t w g xs) (i : Nat) : w.frozen? ⟨g, i, none⟩ = false := by
  have hh : w.heap[g]? = _ := h
  simp [World.frozen?, hh]
theorem RowV.set (h : RowV t w g xs) (i : Nat) (u : Value) : RowV t (w.setCell ⟨g, i, none⟩ u) g (xs.set i u) := by
  have hh : w.heap[g]? = _ := h
  unfold RowV
  simp [World.setCell, Array.getElem?_modify, hh]
theorem RowV.block (h : RowV t w g xs) (e : w'.heap[g]? = w.heap[g]?) : RowV t w' g xs := e.trans h
theorem RowV.below (h : RowV t w g xs) (hb : Below w.heap.size w w') : RowV t w' g xs := h.block (hb.block g h.lt)
theorem RowV.cast (h : RowV t w g xs) (e : xs = ys) : RowV t w g ys := e ▸ h
end
end Go.Proofs.YtckoipoejaafhabDoor
