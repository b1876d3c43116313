/-
  What came in as a slice of shares (an int and a number each) reads as a list of pairs.
-/
import Derived.Test.YtjbdpjbcibhflacOpenT
namespace Go.Proofs.Ytjbdpjbcibhflac
open Go.RowKit Go.ChangeShapes Go.WideShapes

theorem u64_nat {a : Int} (h : (Lit.int .u64 a).wf = true) : ∃ n : Nat, a = (n : Int) ∧ (n : Int) < 18446744073709551616 := by
  have b := bounds_u64 h
  exact ⟨a.toNat, by omega, by omega⟩
/-- The struct's fields are an int and a number. -/
def ShrFields (P : Program) (t : TypeId) : Prop := ∃ (fs : Array Field) (f0 f1 : Field), P.underlying t = some (.struct fs) ∧ P.cellsOf t = 2 ∧ fs.size = 2 ∧ fs[0]? = some f0 ∧ fs[1]? = some f1 ∧ f0.offset = 0 ∧ P.cellsOf f0.type = 1 ∧ P.underlying f0.type = some (.int .i64) ∧ f1.offset = 1 ∧ P.cellsOf f1.type = 1 ∧ P.underlying f1.type = some (.int .u64)
/-- A slice of shares reads as a list of pairs. -/
def IsS (w : World) (v : Value) (L : List (Int × Nat)) : Prop :=
  ∃ (a : Option Addr) (cap : Nat), v = .slice a L.length cap ∧ L.length ≤ cap ∧ cap ≤ maxLen ∧
    (∀ i, i < L.length → ∃ b off, a = some ⟨b, off, none⟩ ∧ w.cell? ⟨b, off + i * 2, none⟩ = some (.int .i64 (L.getD i (0, 0)).1) ∧ w.cell? ⟨b, off + (i * 2 + 1), none⟩ = some (.int .u64 (((L.getD i (0, 0)).2 : Nat) : Int))) ∧
    (∀ r ∈ L, (-9223372036854775808 ≤ r.1 ∧ r.1 ≤ 9223372036854775807) ∧ r.2 < 18446744073709551616)
theorem IsS.below {w w' : World} {v : Value} {L : List (Int × Nat)} (h : IsS w v L) (hb : Below w.heap.size w w') : IsS w' v L := by
  obtain ⟨a, cap, rfl, h1, h2, hc, hr⟩ := h
  refine ⟨a, cap, rfl, h1, h2, fun i hi => ?_, hr⟩
  obtain ⟨b, off, rfl, c0, c1⟩ := hc i hi
  exact ⟨b, off, rfl, (hb.cell (block_lt c0)).trans c0, (hb.cell (block_lt c1)).trans c1⟩
theorem IsS.nil (w : World) : IsS w (.slice none 0 0) [] :=
  ⟨none, 0, rfl, by simp, by simp [maxLen], fun i hi => by simp at hi, fun r hr => by cases hr⟩
section
variable {H : Type} {enc : TypeId × Value → H} {P : Program} {w : World} {base : Nat} {spare : Nat → Bool} {held : Bool} {t e : TypeId} {d : DataW H} {p : List MemPlace}
theorem trod_share {fuel : Nat} {cs : List Value} {x : DataW H × List MemPlace} (hf : ShrFields P t) (h : DataW.trod enc P w base spare held fuel t cs = some x) :
    ∃ (z : Int) (y : Nat), cs.length = 2 ∧ cs[0]? = some (.int .i64 z) ∧ cs[1]? = some (.int .u64 (y : Int)) ∧ (-9223372036854775808 ≤ z ∧ z ≤ 9223372036854775807) ∧ y < 18446744073709551616 := by
  obtain ⟨fs, f0, f1, ht, hc, hs, h0, h1, o0, c0, u0, o1, c1, u1⟩ := hf
  obtain ⟨xs, m, _, _, hl, hxs, hx⟩ := DataW.trod_struct ht h
  have hx0 := hx 0 _ h0
  have hx1 := hx 1 _ h1
  have e0 : xs[0]? = some (xs[0]'(by omega)) := List.getElem?_eq_getElem _
  have e1 : xs[1]? = some (xs[1]'(by omega)) := List.getElem?_eq_getElem _
  rw [e0, o0, c0] at hx0
  rw [e1, o1, c1] at hx1
  obtain ⟨z, ez, _, hz⟩ := DataW.trod_int u0 hx0
  obtain ⟨y, ey, _, hy⟩ := DataW.trod_int u1 hx1
  obtain ⟨y', rfl, hy'⟩ := u64_nat hy
  refine ⟨z, y', by rw [hl, hc], ?_, ?_, bounds_i64 hz, by omega⟩
  · have := congrArg (fun (l : List Value) => l[0]?) ez
    simpa [List.getElem?_take, List.getElem?_drop] using this
  · have := congrArg (fun (l : List Value) => l[0]?) ey
    simpa [List.getElem?_take, List.getElem?_drop] using this
theorem trod_shares {fuel : Nat} {cs : List Value} {x : DataW H × List MemPlace} (ht : P.underlying t = some (.slice e)) (hf : ShrFields P e) (h : DataW.trod enc P w base spare held fuel t cs = some x) :
    ∃ v L, cs = [v] ∧ IsS w v L := by
  have hc : P.cellsOf e = 2 := by obtain ⟨_, _, _, _, h, _⟩ := hf; exact h
  rcases DataW.trod_slice ht h with ⟨rfl, rfl⟩ | ⟨a, len, cap, elems, rest, m, _, rfl, rfl, hb, hl, hm, hlen, hel, _, _⟩
  · exact ⟨_, [], rfl, IsS.nil w⟩
  · have hrow : ∀ i, i < len → ∃ y : Int × Nat, w.cell? (a.add (i * 2)) = some (.int .i64 y.1) ∧ w.cell? (a.add (i * 2 + 1)) = some (.int .u64 (y.2 : Int)) ∧ (-9223372036854775808 ≤ y.1 ∧ y.1 ≤ 9223372036854775807) ∧ y.2 < 18446744073709551616 := by
      intro i hi
      have h1 := hel i hi
      have hsome : elems[i]? = some (elems[i]'(by omega)) := List.getElem?_eq_getElem _
      rw [hsome, hc] at h1
      obtain ⟨cs, hcs, htr⟩ := Option.bind_eq_some_iff.mp h1
      obtain ⟨z, y, hl2, ez, ey, hz, hy⟩ := trod_share hf htr
      obtain ⟨_, _, hcell⟩ := World.cells?_some hcs
      have q0 := hcell 0 (by omega)
      have q1 := hcell 1 (by omega)
      rw [Addr.add_add, Nat.add_zero, ez] at q0
      rw [Addr.add_add, ey] at q1
      exact ⟨(z, y), q0, q1, hz, hy⟩
    obtain ⟨L, hL, hQ⟩ := list_all (0, 0) (fun i (y : Int × Nat) => w.cell? (a.add (i * 2)) = some (.int .i64 y.1) ∧ w.cell? (a.add (i * 2 + 1)) = some (.int .u64 (y.2 : Int)) ∧ (-9223372036854775808 ≤ y.1 ∧ y.1 ≤ 9223372036854775807) ∧ y.2 < 18446744073709551616) len hrow
    refine ⟨_, L, rfl, some a, cap, by rw [hL], by omega, hm, fun i hi => ?_, fun r hr => ?_⟩
    · obtain ⟨c0, c1, _, _⟩ := hQ i (by omega)
      obtain ⟨b0, _, _, _⟩ := hQ 0 (by omega)
      obtain ⟨b, off, spot⟩ := a
      have hspot : spot = none := by simpa [Addr.add] using World.cell?_spot b0
      subst hspot
      exact ⟨b, off, rfl, by rw [← add_plain]; exact c0, by rw [← add_plain]; exact c1⟩
    · obtain ⟨i, hi, rfl⟩ := List.mem_iff_getElem.mp hr
      obtain ⟨_, _, h1, h2⟩ := hQ i (by omega)
      rw [List.getD, List.getElem?_eq_getElem hi] at h1 h2
      exact ⟨h1, h2⟩
/-- A slice of shares that came in. -/
theorem isS_of_arg {v : Value} {r : Reach} {b0 : Nat} (ht : P.underlying t = some (.slice e)) (hf : ShrFields P e) (hval : Value.okWide P w r b0 t v) (h : DataW.Trod enc P w base spare held t v d p) : ∃ L, IsS w v L := by
  obtain ⟨a, len, cap, rfl⟩ := okWide_slice ht hval
  obtain ⟨fuel, h⟩ := h
  obtain ⟨v, L, e, hL⟩ := trod_shares ht hf h
  have e2 : [Value.slice a len cap] = [v] := e
  rw [List.cons.inj e2 |>.1]
  exact ⟨L, hL⟩
end

end Go.Proofs.Ytjbdpjbcibhflac
