/-
  Texts that stood one behind the other, as one.
-/
import Derived.Test.YtmggccepmicjhagGreatDoorSlZAll
import Derived.OpenShut
import Derived.ChangeArms
/-! What came in as a struct of ints, as a slice of such, as a slice of such slices, reads as lists of integers. -/
namespace Go.Proofs.YtmggccepmicjhagGreatDoor
open Go.RowKit Go.ChangeShapes Go.WideShapes

section
variable {H : Type} {enc : TypeId × Value → H} {P : Program} {w : World} {base : Nat} {spare : Nat → Bool} {held : Bool} {fuel : Nat} {t : TypeId} {cs : List Value} {x : DataW H × List MemPlace}

def zOf : Value → Int
  | .int _ z => z
  | _ => 0
/-- Every cell is an int. -/
def Zs (cs : List Value) (ns : List Int) : Prop := cs = ns.map (fun z => Value.int .i64 z) ∧ ∀ z ∈ ns, (Lit.int .i64 z).wf = true
/-- The struct's fields are n ints, one behind the other. -/
def IntFields (P : Program) (t : TypeId) (n : Nat) : Prop := ∃ fs : Array Field, P.underlying t = some (.struct fs) ∧ P.cellsOf t = n ∧ fs.size = n ∧ ∀ (i : Nat) (f : Field), fs[i]? = some f → f.offset = i ∧ P.cellsOf f.type = 1 ∧ P.underlying f.type = some (.int .i64)
theorem zs_of {n : Nat} (hl : cs.length = n) (h : ∀ i, i < n → ∃ z, cs[i]? = some (.int .i64 z) ∧ (Lit.int .i64 z).wf = true) : ∃ ns : List Int, ns.length = n ∧ Zs cs ns := by
  refine ⟨cs.map zOf, by rw [List.length_map, hl], ?_, ?_⟩
  · apply List.ext_getElem?
    intro i
    rcases Nat.lt_or_ge i n with hi | hi
    · obtain ⟨z, e, _⟩ := h i hi
      rw [List.getElem?_map, List.getElem?_map, e]; rfl
    · rw [List.getElem?_eq_none (by omega), List.getElem?_eq_none (by simp; omega)]
  · intro z hz
    obtain ⟨v, hv, rfl⟩ := List.mem_map.mp hz
    obtain ⟨i, hi, e⟩ := List.mem_iff_getElem.mp hv
    obtain ⟨z, e2, hw⟩ := h i (by omega)
    rw [List.getElem?_eq_getElem hi] at e2
    have : v = .int .i64 z := by rw [← e]; exact Option.some.inj e2
    rw [this]; exact hw
theorem trod_ints {n : Nat} (hf : IntFields P t n) (h : DataW.trod enc P w base spare held fuel t cs = some x) : ∃ ns : List Int, ns.length = n ∧ Zs cs ns := by
  obtain ⟨fs, ht, hc, hs, hfs⟩ := hf
  obtain ⟨xs, m, _, _, hl, hxs, hx⟩ := DataW.trod_struct ht h
  refine zs_of (by rw [hl, hc]) fun i hi => ?_
  have hfi : fs[i]? = some fs[i] := by rw [Array.getElem?_eq_getElem]
  obtain ⟨ho, h1, hu⟩ := hfs i _ hfi
  have hxi := hx i _ hfi
  have hsome : xs[i]? = some (xs[i]'(by omega)) := List.getElem?_eq_getElem _
  rw [hsome, ho, h1] at hxi
  obtain ⟨z, e, _, hw⟩ := DataW.trod_int hu hxi
  refine ⟨z, ?_, hw⟩
  have := congrArg (fun (l : List Value) => l[0]?) e
  simpa [List.getElem?_take, List.getElem?_drop] using this
end

/-- Whatever is read of that type is n ints, one behind the other (structs within structs too). -/
def IntAll (P : Program) (t : TypeId) (n : Nat) : Prop := P.cellsOf t = n ∧ ∀ (H : Type) (enc : TypeId × Value → H) (w : World) (base : Nat) (spare : Nat → Bool) (held : Bool) (fuel : Nat) (cs : List Value) (x : DataW H × List MemPlace), DataW.trod enc P w base spare held fuel t cs = some x → ∃ ns : List Int, ns.length = n ∧ Zs cs ns
theorem IntFields.all {P : Program} {t : TypeId} {n : Nat} (hf : IntFields P t n) : IntAll P t n :=
  ⟨by obtain ⟨_, _, h1, _⟩ := hf; exact h1, fun _ _ _ _ _ _ _ _ _ h => trod_ints hf h⟩
theorem IntAll.int {P : Program} {t : TypeId} (hu : P.underlying t = some (.int .i64)) (hc : P.cellsOf t = 1) : IntAll P t 1 :=
  ⟨hc, fun H enc w base spare held fuel cs x h => by
    obtain ⟨z, e, _, hw⟩ := DataW.trod_int hu h
    refine ⟨[z], rfl, e, fun y hy => ?_⟩
    rw [List.mem_singleton.mp hy]; exact hw⟩
theorem IntAll.nest {P : Program} {t : TypeId} {n : Nat} {fs : Array Field} (ht : P.underlying t = some (.struct fs)) (hc : P.cellsOf t = n) (hf : ∀ i, i < n → ∃ (j : Nat) (f : Field) (m : Nat), fs[j]? = some f ∧ IntAll P f.type m ∧ f.offset ≤ i ∧ i < f.offset + m) : IntAll P t n :=
  ⟨hc, fun H enc w base spare held fuel cs x h => by
    obtain ⟨xs, k, _, _, hl, hxs, hx⟩ := DataW.trod_struct ht h
    refine zs_of (by rw [hl, hc]) fun i hi => ?_
    obtain ⟨j, f, m, hfj, ⟨hm, hA⟩, h1, h2⟩ := hf i hi
    have hj : j < fs.size := by
      rcases Nat.lt_or_ge j fs.size with q | q
      · exact q
      · rw [Array.getElem?_eq_none q] at hfj; cases hfj
    have hxj := hx j f hfj
    have hsome : xs[j]? = some (xs[j]'(by omega)) := List.getElem?_eq_getElem _
    rw [hsome, hm] at hxj
    obtain ⟨ns, hn, e, hw⟩ := hA _ _ _ _ _ _ _ _ _ hxj
    have hlt : i - f.offset < ns.length := by omega
    refine ⟨ns[i - f.offset], ?_, hw _ (List.getElem_mem hlt)⟩
    have e2 := congrArg (fun (l : List Value) => l[i - f.offset]?) e
    have e3 : f.offset + (i - f.offset) = i := by omega
    have e4 : i - f.offset < m := by omega
    simpa [List.getElem?_take, List.getElem?_drop, e3, e4, hlt] using e2⟩

/-- How many elements a slice's reading has. -/
def cntD {H : Type} : DataW H → Nat
  | .slice es _ => es.length
  | _ => 0
theorem len_2 {l : List Int} (h : l.length = 2) : ∃ a b, l = [a, b] := by
  match l, h with
  | [a, b], _ => exact ⟨a, b, rfl⟩
theorem len_3 {l : List Int} (h : l.length = 3) : ∃ a b c, l = [a, b, c] := by
  match l, h with
  | [a, b, c], _ => exact ⟨a, b, c, rfl⟩
theorem len_4 {l : List Int} (h : l.length = 4) : ∃ a b c d, l = [a, b, c, d] := by
  match l, h with
  | [a, b, c, d], _ => exact ⟨a, b, c, d, rfl⟩
theorem list_all {α : Type} (d : α) (Q : Nat → α → Prop) : ∀ n, (∀ i, i < n → ∃ y, Q i y) → ∃ L : List α, L.length = n ∧ ∀ i, i < n → Q i (L.getD i d)
  | 0, _ => ⟨[], rfl, fun i hi => by omega⟩
  | n + 1, h => by
    obtain ⟨L, hl, hQ⟩ := list_all d Q n fun i hi => h i (by omega)
    obtain ⟨y, hy⟩ := h n (by omega)
    refine ⟨L ++ [y], by simp [hl], fun i hi => ?_⟩
    rcases Nat.lt_or_ge i n with h1 | h1
    · have := hQ i h1
      rw [List.getD, List.getElem?_append_left (by omega)]; exact this
    · have e : i = n := by omega
      subst e
      rw [List.getD, List.getElem?_append_right (by omega), hl]
      simpa using hy
/-- A slice of structs of k ints each reads as a list of rows. -/
def IsR (k : Nat) (w : World) (v : Value) (L : List (List Int)) : Prop :=
  ∃ (a : Option Addr) (cap : Nat), v = .slice a L.length cap ∧ L.length ≤ cap ∧ cap ≤ maxLen ∧
    (∀ i, i < L.length → ∃ b off, a = some ⟨b, off, none⟩ ∧ ∀ j, j < k → w.cell? ⟨b, off + (i * k + j), none⟩ = some (.int .i64 ((L.getD i []).getD j 0))) ∧
    (∀ r ∈ L, r.length = k ∧ ∀ z ∈ r, -9223372036854775808 ≤ z ∧ z ≤ 9223372036854775807)
theorem IsR.below {k : Nat} {w w' : World} {v : Value} {L : List (List Int)} (h : IsR k w v L) (hb : Below w.heap.size w w') : IsR k w' v L := by
  obtain ⟨a, cap, rfl, h1, h2, hc, hr⟩ := h
  refine ⟨a, cap, rfl, h1, h2, fun i hi => ?_, hr⟩
  obtain ⟨b, off, rfl, hcell⟩ := hc i hi
  exact ⟨b, off, rfl, fun j hj => (hb.cell (block_lt (hcell j hj))).trans (hcell j hj)⟩
theorem IsR.nil (k : Nat) (w : World) : IsR k w (.slice none 0 0) [] :=
  ⟨none, 0, rfl, by simp, by simp [maxLen], fun i hi => by simp at hi, fun r hr => by cases hr⟩

section
variable {H : Type} {enc : TypeId × Value → H} {P : Program} {w : World} {base : Nat} {spare : Nat → Bool} {held : Bool} {t e : TypeId} {d : DataW H} {p : List MemPlace}
theorem trod_rowsA {k fuel : Nat} {cs : List Value} {x : DataW H × List MemPlace} (hk : 0 < k) (ht : P.underlying t = some (.slice e)) (hf : IntAll P e k) (h : DataW.trod enc P w base spare held fuel t cs = some x) :
    ∃ v L, cs = [v] ∧ IsR k w v L ∧ cntD x.1 = L.length := by
  have hc : P.cellsOf e = k := hf.1
  rcases DataW.trod_slice ht h with ⟨rfl, rfl⟩ | ⟨a, len, cap, elems, rest, m, _, rfl, rfl, hb, hl, hm, hlen, hel, _, _⟩
  · exact ⟨_, [], rfl, IsR.nil k w, rfl⟩
  · have hrow : ∀ i, i < len → ∃ ns : List Int, ns.length = k ∧ (∀ z ∈ ns, (Lit.int .i64 z).wf = true) ∧ ∀ j, j < k → w.cell? (a.add (i * k + j)) = some (.int .i64 (ns.getD j 0)) := by
      intro i hi
      have h1 := hel i hi
      have hsome : elems[i]? = some (elems[i]'(by omega)) := List.getElem?_eq_getElem _
      rw [hsome, hc] at h1
      obtain ⟨cs, hcs, htr⟩ := Option.bind_eq_some_iff.mp h1
      obtain ⟨ns, hn, he, hw⟩ := hf.2 _ _ _ _ _ _ _ _ _ htr
      obtain ⟨_, _, hcell⟩ := World.cells?_some hcs
      refine ⟨ns, hn, hw, fun j hj => ?_⟩
      have := hcell j (by omega)
      rw [Addr.add_add] at this
      rw [this, he, List.getElem?_map, List.getD, List.getElem?_eq_getElem (by omega)]; rfl
    obtain ⟨L, hL, hQ⟩ := list_all [] (fun i ns => ns.length = k ∧ (∀ z ∈ ns, (Lit.int .i64 z).wf = true) ∧ ∀ j, j < k → w.cell? (a.add (i * k + j)) = some (.int .i64 (ns.getD j 0))) len hrow
    refine ⟨_, L, rfl, ⟨some a, cap, by rw [hL], by omega, hm, fun i hi => ?_, fun r hr => ?_⟩, by show (elems.map _).length = _; rw [List.length_map, hlen, hL]⟩
    · obtain ⟨_, _, hcell⟩ := hQ i (by omega)
      obtain ⟨_, _, hcell0⟩ := hQ 0 (by omega)
      obtain ⟨b, off, spot⟩ := a
      have hspot : spot = none := by simpa [Addr.add] using World.cell?_spot (hcell0 0 hk)
      subst hspot
      exact ⟨b, off, rfl, fun j hj => by rw [← add_plain]; exact hcell j hj⟩
    · obtain ⟨i, hi, rfl⟩ := List.mem_iff_getElem.mp hr
      obtain ⟨h1, h2, _⟩ := hQ i (by omega)
      rw [List.getD, List.getElem?_eq_getElem hi] at h1 h2
      exact ⟨h1, fun z hz => bounds_i64 (h2 z hz)⟩
theorem trod_rows {k fuel : Nat} {cs : List Value} {x : DataW H × List MemPlace} (hk : 0 < k) (ht : P.underlying t = some (.slice e)) (hf : IntFields P e k) (h : DataW.trod enc P w base spare held fuel t cs = some x) :
    ∃ v L, cs = [v] ∧ IsR k w v L ∧ cntD x.1 = L.length := trod_rowsA hk ht hf.all h
/-- A struct of ints that came in. -/
theorem ints_of_arg {v : Value} {k : Nat} {r : Reach} {b0 : Nat} (hf : IntFields P t k) (hval : Value.okWide P w r b0 t v) (h : DataW.Trod enc P w base spare held t v d p) : ∃ ns : List Int, ns.length = k ∧ v = .agg (ns.map (fun z => Value.int .i64 z)).toArray ∧ ∀ z ∈ ns, (Lit.int .i64 z).wf = true := by
  have hf' := hf
  obtain ⟨fs, ht, _⟩ := hf
  obtain ⟨cs, rfl, _⟩ := okWide_struct ht hval
  obtain ⟨fuel, h⟩ := h
  obtain ⟨ns, hn, he, hw⟩ := trod_ints hf' h
  refine ⟨ns, hn, ?_, hw⟩
  have e : cs.toList = _ := he
  rw [← e]
/-- A slice of structs of ints that came in. -/
theorem isR_of_argA {v : Value} {k : Nat} {r : Reach} {b0 : Nat} (hk : 0 < k) (ht : P.underlying t = some (.slice e)) (hf : IntAll P e k) (hval : Value.okWide P w r b0 t v) (h : DataW.Trod enc P w base spare held t v d p) : ∃ L, IsR k w v L := by
  obtain ⟨a, len, cap, rfl⟩ := okWide_slice ht hval
  obtain ⟨fuel, h⟩ := h
  obtain ⟨v, L, e, hL, _⟩ := trod_rowsA hk ht hf h
  have e2 : [Value.slice a len cap] = [v] := e
  rw [List.cons.inj e2 |>.1]
  exact ⟨L, hL⟩
theorem isR_of_arg {v : Value} {k : Nat} {r : Reach} {b0 : Nat} (hk : 0 < k) (ht : P.underlying t = some (.slice e)) (hf : IntFields P e k) (hval : Value.okWide P w r b0 t v) (h : DataW.Trod enc P w base spare held t v d p) : ∃ L, IsR k w v L :=
  isR_of_argA hk ht hf.all hval h
end

/-- A slice of slices of structs of k ints. -/
def IsP (k : Nat) (w : World) (v : Value) (L : List (List (List Int))) : Prop :=
  ∃ (a : Option Addr) (cap : Nat), v = .slice a L.length cap ∧ L.length ≤ cap ∧ cap ≤ maxLen ∧
    ∀ i, i < L.length → ∃ b off u, a = some ⟨b, off, none⟩ ∧ w.cell? ⟨b, off + i, none⟩ = some u ∧ IsR k w u (L.getD i [])
theorem IsP.below {k : Nat} {w w' : World} {v : Value} {L : List (List (List Int))} (h : IsP k w v L) (hb : Below w.heap.size w w') : IsP k w' v L := by
  obtain ⟨a, cap, rfl, h1, h2, hc⟩ := h
  refine ⟨a, cap, rfl, h1, h2, fun i hi => ?_⟩
  obtain ⟨b, off, u, rfl, hcell, hu⟩ := hc i hi
  exact ⟨b, off, u, rfl, (hb.cell (block_lt hcell)).trans hcell, hu.below hb⟩
theorem IsP.nil (k : Nat) (w : World) : IsP k w (.slice none 0 0) [] :=
  ⟨none, 0, rfl, by simp, by simp [maxLen], fun i hi => by simp at hi⟩

/-- A reading of as many phases, each of as many rows. -/
def Dat {H : Type} (d : DataW H) (L : List (List (List Int))) : Prop :=
  (d = .nil ∧ L = []) ∨ ∃ D sp, d = .slice D sp ∧ D.length = L.length ∧ ∀ i, i < L.length → cntD (D.getD i .nil) = (L.getD i []).length
section
variable {H : Type} {enc : TypeId × Value → H} {P : Program} {w : World} {base : Nat} {spare : Nat → Bool} {held : Bool} {t q e : TypeId} {d : DataW H} {p : List MemPlace}
theorem trod_phases {k fuel : Nat} {cs : List Value} {x : DataW H × List MemPlace} (hk : 0 < k) (ht : P.underlying t = some (.slice q)) (hq1 : P.cellsOf q = 1) (hq : P.underlying q = some (.slice e)) (hf : IntFields P e k) (h : DataW.trod enc P w base spare held fuel t cs = some x) :
    ∃ v L, cs = [v] ∧ IsP k w v L ∧ Dat x.1 L := by
  rcases DataW.trod_slice ht h with ⟨rfl, rfl⟩ | ⟨a, len, cap, elems, rest, m, _, rfl, rfl, hb, hl, hm, hlen, hel, _, _⟩
  · exact ⟨_, [], rfl, IsP.nil k w, .inl ⟨rfl, rfl⟩⟩
  · have hrow : ∀ i, i < len → ∃ (L : List (List Int)), (∃ u, w.cell? (a.add i) = some u ∧ IsR k w u L) ∧ cntD ((elems.map (·.1)).getD i .nil) = L.length := by
      intro i hi
      have h1 := hel i hi
      have hsome : elems[i]? = some (elems[i]'(by omega)) := List.getElem?_eq_getElem _
      rw [hsome, hq1, Nat.mul_one] at h1
      obtain ⟨cs, hcs, htr⟩ := Option.bind_eq_some_iff.mp h1
      obtain ⟨u, L, rfl, hL, hcn⟩ := trod_rows hk hq hf htr
      obtain ⟨_, _, hcell⟩ := World.cells?_some hcs
      have := hcell 0 (by omega)
      rw [Addr.add_add, Nat.add_zero] at this
      refine ⟨L, ⟨u, this, hL⟩, ?_⟩
      rw [← hcn, List.getD, List.getElem?_map, hsome]; rfl
    obtain ⟨L, hL, hQ⟩ := list_all [] (fun i (l : List (List Int)) => (∃ u, w.cell? (a.add i) = some u ∧ IsR k w u l) ∧ cntD ((elems.map (·.1)).getD i .nil) = l.length) len hrow
    refine ⟨_, L, rfl, ⟨some a, cap, by rw [hL], by omega, hm, fun i hi => ?_⟩, .inr ⟨_, _, rfl, by rw [List.length_map, hlen, hL], fun i hi => (hQ i (by omega)).2⟩⟩
    obtain ⟨⟨u, hcell, hu⟩, _⟩ := hQ i (by omega)
    obtain ⟨⟨_, hcell0, _⟩, _⟩ := hQ 0 (by omega)
    obtain ⟨b, off, spot⟩ := a
    have hspot : spot = none := by simpa [Addr.add] using World.cell?_spot hcell0
    subst hspot
    exact ⟨b, off, u, rfl, by rw [← add_plain]; exact hcell, hu⟩
theorem isP_of_arg {v : Value} {k : Nat} {r : Reach} {b0 : Nat} (hk : 0 < k) (ht : P.underlying t = some (.slice q)) (hq1 : P.cellsOf q = 1) (hq : P.underlying q = some (.slice e)) (hf : IntFields P e k) (hval : Value.okWide P w r b0 t v) (h : DataW.Trod enc P w base spare held t v d p) : ∃ L, IsP k w v L ∧ Dat d L := by
  obtain ⟨a, len, cap, rfl⟩ := okWide_slice ht hval
  obtain ⟨fuel, h⟩ := h
  obtain ⟨v, L, e, hL, hD⟩ := trod_phases hk ht hq1 hq hf h
  have e2 : [Value.slice a len cap] = [v] := e
  rw [List.cons.inj e2 |>.1]
  exact ⟨L, hL, hD⟩
end

end Go.Proofs.YtmggccepmicjhagGreatDoor

/-! The cells of a list of tasks. -/
namespace Go.Proofs.YtmggccepmicjhagGreatDoor
open Go.RowKit
set_option maxRecDepth 100000

/-- The cells of a list of tasks. -/
def tc (T : List (List Int)) : List Value := T.flatMap fun r => r.map fun z => Value.int .i64 z
def T3 (T : List (List Int)) : Prop := ∀ r ∈ T, r.length = 3 ∧ ∀ z ∈ r, -9223372036854775808 ≤ z ∧ z ≤ 9223372036854775807
theorem T3.nil : T3 [] := fun r hr => by cases hr
theorem T3.append {A B : List (List Int)} (hA : T3 A) (hB : T3 B) : T3 (A ++ B) := fun r hr => by
  rcases List.mem_append.mp hr with h | h
  · exact hA r h
  · exact hB r h
theorem T3.one {a b c : Int} (ha : -9223372036854775808 ≤ a ∧ a ≤ 9223372036854775807) (hb : -9223372036854775808 ≤ b ∧ b ≤ 9223372036854775807) (hc : -9223372036854775808 ≤ c ∧ c ≤ 9223372036854775807) : T3 [[a, b, c]] := fun r hr => by
  simp only [List.mem_singleton] at hr
  subst hr
  refine ⟨rfl, fun z hz => ?_⟩
  simp only [List.mem_cons, List.not_mem_nil, or_false] at hz
  rcases hz with rfl | rfl | rfl
  · exact ha
  · exact hb
  · exact hc
theorem tc_append (A B : List (List Int)) : tc (A ++ B) = tc A ++ tc B := by simp [tc]
theorem tc_one (a b c : Int) : tc [[a, b, c]] = [.int .i64 a, .int .i64 b, .int .i64 c] := rfl
theorem tc_cons (r : List Int) (T : List (List Int)) : tc (r :: T) = (r.map fun z => Value.int .i64 z) ++ tc T := by simp [tc]
theorem tc_length {T : List (List Int)} (h : T3 T) : (tc T).length = T.length * 3 := by
  induction T with
  | nil => rfl
  | cons r T ih =>
    have h1 := (h r (List.mem_cons_self)).1
    rw [tc_cons, List.length_append, List.length_map, h1, ih (fun q hq => h q (List.mem_cons_of_mem _ hq)), List.length_cons]; omega
theorem tc_get {T : List (List Int)} (h : T3 T) (i j : Nat) (hi : i < T.length) (hj : j < 3) : (tc T)[i * 3 + j]? = some (.int .i64 ((T.getD i []).getD j 0)) := by
  induction T generalizing i with
  | nil => simp at hi
  | cons r T ih =>
    have h1 := (h r (List.mem_cons_self)).1
    rw [tc_cons]
    cases i with
    | zero =>
      rw [List.getElem?_append_left (by rw [List.length_map]; omega), List.getElem?_map]
      simp only [Nat.zero_mul, Nat.zero_add, List.getD_cons_zero]
      rw [List.getD, List.getElem?_eq_getElem (by omega)]; rfl
    | succ i =>
      rw [List.getElem?_append_right (by rw [List.length_map]; omega), List.length_map, h1, show (i + 1) * 3 + j - 3 = i * 3 + j by omega, ih (fun q hq => h q (List.mem_cons_of_mem _ hq)) i (by simp at hi; omega)]
      simp
theorem tc_set {A : List (List Int)} (h : T3 A) (a b c c' : Int) : (tc (A ++ [[a, b, c]])).set (A.length * 3 + 2) (.int .i64 c') = tc (A ++ [[a, b, c']]) := by
  have hl := tc_length h
  rw [tc_append, tc_append, List.set_append_right _ _ (by omega), hl, show A.length * 3 + 2 - A.length * 3 = 2 by omega]; rfl

end Go.Proofs.YtmggccepmicjhagGreatDoor
