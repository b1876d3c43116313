/-
  Texts that stood one behind the other, as one.
-/
import Derived.Test.YtckoipoejaafhabDoorProg
import Derived.Test.YtckoipoejaafhabDoorCcPAll
import Derived.Test.YtckoipoejaafhabDoorChecked
import Derived.Conc.WgGenN3
import Derived.Test.YtckoipoejaafhabDoorCcStAll
namespace Go.Proofs.YtckoipoejaafhabDoor.Cc
open Go
def wTbl : Tbl := { fs := [14, 23, 31, 32, 33, 34, 48, 54, 55, 56, 57, 58, 59, 64, 66, 67, 68, 69, 70, 71, 72, 73, 74, 75, 76, 77], gs := [0, 1], ps := fun f => match f with
  | 14 => [21, 37]
  | 23 => [2, 5, 9, 11, 16]
  | 33 => [48, 55]
  | 34 => [17, 26, 56, 59, 67, 75]
  | 48 => [6, 27, 42, 44]
  | 57 => [23, 29, 32]
  | 64 => [29, 35, 41, 51, 57, 59, 72, 78, 80]
  | 68 => [22]
  | 70 => [18, 24, 33, 41]
  | 74 => [11]
  | 75 => [11]
  | _ => [] }
theorem wFn14 : ∃ fn c, Tryd.prog.funcs[14]? = some fn ∧ fn.body = some c ∧ codeB Tryd.prog wTbl (wTbl.ps 14) c = true ∧ (fn.name == "runtime.NumGoroutine") = false ∧ ∀ r ∈ fn.results, ∃ t, r = .tmp t ∧ (wTbl.ps 14).contains t = false :=
  ⟨Tryd.f14, _, Tryd.func14, rfl, by kernel_rfl, by kernel_rfl, resB_of (by kernel_rfl)⟩
theorem wFn23 : ∃ fn c, Tryd.prog.funcs[23]? = some fn ∧ fn.body = some c ∧ codeB Tryd.prog wTbl (wTbl.ps 23) c = true ∧ (fn.name == "runtime.NumGoroutine") = false ∧ ∀ r ∈ fn.results, ∃ t, r = .tmp t ∧ (wTbl.ps 23).contains t = false :=
  ⟨Tryd.f23, _, Tryd.func23, rfl, by kernel_rfl, by kernel_rfl, resB_of (by kernel_rfl)⟩
theorem wFn31 : ∃ fn c, Tryd.prog.funcs[31]? = some fn ∧ fn.body = some c ∧ codeB Tryd.prog wTbl (wTbl.ps 31) c = true ∧ (fn.name == "runtime.NumGoroutine") = false ∧ ∀ r ∈ fn.results, ∃ t, r = .tmp t ∧ (wTbl.ps 31).contains t = false :=
  ⟨Tryd.f31, _, Tryd.func31, rfl, by kernel_rfl, by kernel_rfl, resB_of (by kernel_rfl)⟩
theorem wFn32 : ∃ fn c, Tryd.prog.funcs[32]? = some fn ∧ fn.body = some c ∧ codeB Tryd.prog wTbl (wTbl.ps 32) c = true ∧ (fn.name == "runtime.NumGoroutine") = false ∧ ∀ r ∈ fn.results, ∃ t, r = .tmp t ∧ (wTbl.ps 32).contains t = false :=
  ⟨Tryd.f32, _, Tryd.func32, rfl, by kernel_rfl, by kernel_rfl, resB_of (by kernel_rfl)⟩
theorem wFn33 : ∃ fn c, Tryd.prog.funcs[33]? = some fn ∧ fn.body = some c ∧ codeB Tryd.prog wTbl (wTbl.ps 33) c = true ∧ (fn.name == "runtime.NumGoroutine") = false ∧ ∀ r ∈ fn.results, ∃ t, r = .tmp t ∧ (wTbl.ps 33).contains t = false :=
  ⟨Tryd.f33, _, Tryd.func33, rfl, by kernel_rfl, by kernel_rfl, resB_of (by kernel_rfl)⟩
theorem wFn34 : ∃ fn c, Tryd.prog.funcs[34]? = some fn ∧ fn.body = some c ∧ codeB Tryd.prog wTbl (wTbl.ps 34) c = true ∧ (fn.name == "runtime.NumGoroutine") = false ∧ ∀ r ∈ fn.results, ∃ t, r = .tmp t ∧ (wTbl.ps 34).contains t = false :=
  ⟨Tryd.f34, _, Tryd.func34, rfl, by kernel_rfl, by kernel_rfl, resB_of (by kernel_rfl)⟩
theorem wFn48 : ∃ fn c, Tryd.prog.funcs[48]? = some fn ∧ fn.body = some c ∧ codeB Tryd.prog wTbl (wTbl.ps 48) c = true ∧ (fn.name == "runtime.NumGoroutine") = false ∧ ∀ r ∈ fn.results, ∃ t, r = .tmp t ∧ (wTbl.ps 48).contains t = false :=
  ⟨Tryd.f48, _, Tryd.func48, rfl, by kernel_rfl, by kernel_rfl, resB_of (by kernel_rfl)⟩
theorem wFn54 : ∃ fn c, Tryd.prog.funcs[54]? = some fn ∧ fn.body = some c ∧ codeB Tryd.prog wTbl (wTbl.ps 54) c = true ∧ (fn.name == "runtime.NumGoroutine") = false ∧ ∀ r ∈ fn.results, ∃ t, r = .tmp t ∧ (wTbl.ps 54).contains t = false :=
  ⟨Tryd.f54, _, Tryd.func54, rfl, by kernel_rfl, by kernel_rfl, resB_of (by kernel_rfl)⟩
theorem wFn55 : ∃ fn c, Tryd.prog.funcs[55]? = some fn ∧ fn.body = some c ∧ codeB Tryd.prog wTbl (wTbl.ps 55) c = true ∧ (fn.name == "runtime.NumGoroutine") = false ∧ ∀ r ∈ fn.results, ∃ t, r = .tmp t ∧ (wTbl.ps 55).contains t = false :=
  ⟨Tryd.f55, _, Tryd.func55, rfl, by kernel_rfl, by kernel_rfl, resB_of (by kernel_rfl)⟩
theorem wFn56 : ∃ fn c, Tryd.prog.funcs[56]? = some fn ∧ fn.body = some c ∧ codeB Tryd.prog wTbl (wTbl.ps 56) c = true ∧ (fn.name == "runtime.NumGoroutine") = false ∧ ∀ r ∈ fn.results, ∃ t, r = .tmp t ∧ (wTbl.ps 56).contains t = false :=
  ⟨Tryd.f56, _, Tryd.func56, rfl, by kernel_rfl, by kernel_rfl, resB_of (by kernel_rfl)⟩
theorem wFn57 : ∃ fn c, Tryd.prog.funcs[57]? = some fn ∧ fn.body = some c ∧ codeB Tryd.prog wTbl (wTbl.ps 57) c = true ∧ (fn.name == "runtime.NumGoroutine") = false ∧ ∀ r ∈ fn.results, ∃ t, r = .tmp t ∧ (wTbl.ps 57).contains t = false :=
  ⟨Tryd.f57, _, Tryd.func57, rfl, by kernel_rfl, by kernel_rfl, resB_of (by kernel_rfl)⟩
theorem wFn58 : ∃ fn c, Tryd.prog.funcs[58]? = some fn ∧ fn.body = some c ∧ codeB Tryd.prog wTbl (wTbl.ps 58) c = true ∧ (fn.name == "runtime.NumGoroutine") = false ∧ ∀ r ∈ fn.results, ∃ t, r = .tmp t ∧ (wTbl.ps 58).contains t = false :=
  ⟨Tryd.f58, _, Tryd.func58, rfl, by kernel_rfl, by kernel_rfl, resB_of (by kernel_rfl)⟩
theorem wFn59 : ∃ fn c, Tryd.prog.funcs[59]? = some fn ∧ fn.body = some c ∧ codeB Tryd.prog wTbl (wTbl.ps 59) c = true ∧ (fn.name == "runtime.NumGoroutine") = false ∧ ∀ r ∈ fn.results, ∃ t, r = .tmp t ∧ (wTbl.ps 59).contains t = false :=
  ⟨Tryd.f59, _, Tryd.func59, rfl, by kernel_rfl, by kernel_rfl, resB_of (by kernel_rfl)⟩
theorem wFn64 : ∃ fn c, Tryd.prog.funcs[64]? = some fn ∧ fn.body = some c ∧ codeB Tryd.prog wTbl (wTbl.ps 64) c = true ∧ (fn.name == "runtime.NumGoroutine") = false ∧ ∀ r ∈ fn.results, ∃ t, r = .tmp t ∧ (wTbl.ps 64).contains t = false :=
  ⟨Tryd.f64, _, Tryd.func64, rfl, by kernel_rfl, by kernel_rfl, resB_of (by kernel_rfl)⟩
theorem wFn66 : ∃ fn c, Tryd.prog.funcs[66]? = some fn ∧ fn.body = some c ∧ codeB Tryd.prog wTbl (wTbl.ps 66) c = true ∧ (fn.name == "runtime.NumGoroutine") = false ∧ ∀ r ∈ fn.results, ∃ t, r = .tmp t ∧ (wTbl.ps 66).contains t = false :=
  ⟨Tryd.f66, _, Tryd.func66, rfl, by kernel_rfl, by kernel_rfl, resB_of (by kernel_rfl)⟩
theorem wFn67 : ∃ fn c, Tryd.prog.funcs[67]? = some fn ∧ fn.body = some c ∧ codeB Tryd.prog wTbl (wTbl.ps 67) c = true ∧ (fn.name == "runtime.NumGoroutine") = false ∧ ∀ r ∈ fn.results, ∃ t, r = .tmp t ∧ (wTbl.ps 67).contains t = false :=
  ⟨Tryd.f67, _, Tryd.func67, rfl, by kernel_rfl, by kernel_rfl, resB_of (by kernel_rfl)⟩
theorem wFn68 : ∃ fn c, Tryd.prog.funcs[68]? = some fn ∧ fn.body = some c ∧ codeB Tryd.prog wTbl (wTbl.ps 68) c = true ∧ (fn.name == "runtime.NumGoroutine") = false ∧ ∀ r ∈ fn.results, ∃ t, r = .tmp t ∧ (wTbl.ps 68).contains t = false :=
  ⟨Tryd.f68, _, Tryd.func68, rfl, by kernel_rfl, by kernel_rfl, resB_of (by kernel_rfl)⟩
theorem wFn69 : ∃ fn c, Tryd.prog.funcs[69]? = some fn ∧ fn.body = some c ∧ codeB Tryd.prog wTbl (wTbl.ps 69) c = true ∧ (fn.name == "runtime.NumGoroutine") = false ∧ ∀ r ∈ fn.results, ∃ t, r = .tmp t ∧ (wTbl.ps 69).contains t = false :=
  ⟨Tryd.f69, _, Tryd.func69, rfl, by kernel_rfl, by kernel_rfl, resB_of (by kernel_rfl)⟩
theorem wFn70 : ∃ fn c, Tryd.prog.funcs[70]? = some fn ∧ fn.body = some c ∧ codeB Tryd.prog wTbl (wTbl.ps 70) c = true ∧ (fn.name == "runtime.NumGoroutine") = false ∧ ∀ r ∈ fn.results, ∃ t, r = .tmp t ∧ (wTbl.ps 70).contains t = false :=
  ⟨Tryd.f70, _, Tryd.func70, rfl, by kernel_rfl, by kernel_rfl, resB_of (by kernel_rfl)⟩
theorem wFn71 : ∃ fn c, Tryd.prog.funcs[71]? = some fn ∧ fn.body = some c ∧ codeB Tryd.prog wTbl (wTbl.ps 71) c = true ∧ (fn.name == "runtime.NumGoroutine") = false ∧ ∀ r ∈ fn.results, ∃ t, r = .tmp t ∧ (wTbl.ps 71).contains t = false :=
  ⟨Tryd.f71, _, Tryd.func71, rfl, by kernel_rfl, by kernel_rfl, resB_of (by kernel_rfl)⟩
theorem wFn72 : ∃ fn c, Tryd.prog.funcs[72]? = some fn ∧ fn.body = some c ∧ codeB Tryd.prog wTbl (wTbl.ps 72) c = true ∧ (fn.name == "runtime.NumGoroutine") = false ∧ ∀ r ∈ fn.results, ∃ t, r = .tmp t ∧ (wTbl.ps 72).contains t = false :=
  ⟨Tryd.f72, _, Tryd.func72, rfl, by kernel_rfl, by kernel_rfl, resB_of (by kernel_rfl)⟩
theorem wFn73 : ∃ fn c, Tryd.prog.funcs[73]? = some fn ∧ fn.body = some c ∧ codeB Tryd.prog wTbl (wTbl.ps 73) c = true ∧ (fn.name == "runtime.NumGoroutine") = false ∧ ∀ r ∈ fn.results, ∃ t, r = .tmp t ∧ (wTbl.ps 73).contains t = false :=
  ⟨Tryd.f73, _, Tryd.func73, rfl, by kernel_rfl, by kernel_rfl, resB_of (by kernel_rfl)⟩
theorem wFn74 : ∃ fn c, Tryd.prog.funcs[74]? = some fn ∧ fn.body = some c ∧ codeB Tryd.prog wTbl (wTbl.ps 74) c = true ∧ (fn.name == "runtime.NumGoroutine") = false ∧ ∀ r ∈ fn.results, ∃ t, r = .tmp t ∧ (wTbl.ps 74).contains t = false :=
  ⟨Tryd.f74, _, Tryd.func74, rfl, by kernel_rfl, by kernel_rfl, resB_of (by kernel_rfl)⟩
theorem wFn75 : ∃ fn c, Tryd.prog.funcs[75]? = some fn ∧ fn.body = some c ∧ codeB Tryd.prog wTbl (wTbl.ps 75) c = true ∧ (fn.name == "runtime.NumGoroutine") = false ∧ ∀ r ∈ fn.results, ∃ t, r = .tmp t ∧ (wTbl.ps 75).contains t = false :=
  ⟨Tryd.f75, _, Tryd.func75, rfl, by kernel_rfl, by kernel_rfl, resB_of (by kernel_rfl)⟩
theorem wFn76 : ∃ fn c, Tryd.prog.funcs[76]? = some fn ∧ fn.body = some c ∧ codeB Tryd.prog wTbl (wTbl.ps 76) c = true ∧ (fn.name == "runtime.NumGoroutine") = false ∧ ∀ r ∈ fn.results, ∃ t, r = .tmp t ∧ (wTbl.ps 76).contains t = false :=
  ⟨Tryd.f76, _, Tryd.func76, rfl, by kernel_rfl, by kernel_rfl, resB_of (by kernel_rfl)⟩
theorem wFn77 : ∃ fn c, Tryd.prog.funcs[77]? = some fn ∧ fn.body = some c ∧ codeB Tryd.prog wTbl (wTbl.ps 77) c = true ∧ (fn.name == "runtime.NumGoroutine") = false ∧ ∀ r ∈ fn.results, ∃ t, r = .tmp t ∧ (wTbl.ps 77).contains t = false :=
  ⟨Tryd.f77, _, Tryd.func77, rfl, by kernel_rfl, by kernel_rfl, resB_of (by kernel_rfl)⟩
theorem wAll : FnAll Tryd.prog wTbl := fun f hf => by
  have hm : f ∈ wTbl.fs := by simpa using hf
  simp only [wTbl, List.mem_cons, List.not_mem_nil, or_false] at hm
  rcases hm with rfl | rfl | rfl | rfl | rfl | rfl | rfl | rfl | rfl | rfl | rfl | rfl | rfl | rfl | rfl | rfl | rfl | rfl | rfl | rfl | rfl | rfl | rfl | rfl | rfl | rfl
  · exact wFn14
  · exact wFn23
  · exact wFn31
  · exact wFn32
  · exact wFn33
  · exact wFn34
  · exact wFn48
  · exact wFn54
  · exact wFn55
  · exact wFn56
  · exact wFn57
  · exact wFn58
  · exact wFn59
  · exact wFn64
  · exact wFn66
  · exact wFn67
  · exact wFn68
  · exact wFn69
  · exact wFn70
  · exact wFn71
  · exact wFn72
  · exact wFn73
  · exact wFn74
  · exact wFn75
  · exact wFn76
  · exact wFn77
end Go.Proofs.YtckoipoejaafhabDoor.Cc

namespace Go.Proofs.YtckoipoejaafhabDoor
open Go Go.RowKit
abbrev wgLink : Go.Conc.Lib.WgLink := { add := 25, done := 27, wait := 30, relMerge := 35, disable := 36, enable := 37, inBubble := 38, associate := 39, fatal := 40, uOr := 41, uAdd := 42, raceRead := 43, uLoad := 44, uStore := 45, disassociate := 46, semrelease := 47, acquire := 49, isAssociated := 50, uCas := 51, raceWrite := 52, semacquire := 53, orU64 := 60, addU64 := 61, loadU64 := 62, storeU64 := 63, casU64 := 65, tWgP := 77, tUP := 79, tAssoc := 80, tWg := 67, tAU := 64, tU64 := 35, tUint := 84, tU32 := 65, tPU32 := 85, tPAU := 102, tPU64 := 104, tNoCopy := 60, tANoCopy := 61, tAlign64 := 62 }
theorem wgLib : Go.Conc.Lib.WgLib Tryd.prog wgLink :=
  ⟨Tryd.func25, Tryd.func27, Tryd.func30, Tryd.func35, Tryd.func36, Tryd.func37, Tryd.func38, Tryd.func39, Tryd.func40, Tryd.func41, Tryd.func42, Tryd.func43, Tryd.func44, Tryd.func45, Tryd.func46, Tryd.func47, Tryd.func49, Tryd.func50, Tryd.func51, Tryd.func52, Tryd.func53, Tryd.func60, Tryd.func61, Tryd.func62, Tryd.func63, Tryd.func65, Tryd.underlying77, Tryd.runUnderlying77, Tryd.sizeOf77, Tryd.isAgg77, Tryd.zeroValue77, Tryd.underlying79, Tryd.runUnderlying79, Tryd.sizeOf79, Tryd.isAgg79, Tryd.zeroValue79, Tryd.underlying80, Tryd.runUnderlying80, Tryd.sizeOf80, Tryd.isAgg80, Tryd.zeroValue80, Tryd.underlying67, Tryd.runUnderlying67, Tryd.sizeOf67, Tryd.isAgg67, Tryd.zeroValue67, Tryd.underlying64, Tryd.runUnderlying64, Tryd.sizeOf64, Tryd.isAgg64, Tryd.zeroValue64, Tryd.underlying35, Tryd.runUnderlying35, Tryd.sizeOf35, Tryd.isAgg35, Tryd.zeroValue35, Tryd.underlying84, Tryd.runUnderlying84, Tryd.sizeOf84, Tryd.isAgg84, Tryd.zeroValue84, Tryd.underlying65, Tryd.runUnderlying65, Tryd.sizeOf65, Tryd.isAgg65, Tryd.zeroValue65, Tryd.underlying85, Tryd.runUnderlying85, Tryd.sizeOf85, Tryd.isAgg85, Tryd.zeroValue85, Tryd.underlying102, Tryd.runUnderlying102, Tryd.sizeOf102, Tryd.isAgg102, Tryd.zeroValue102, Tryd.underlying104, Tryd.runUnderlying104, Tryd.sizeOf104, Tryd.isAgg104, Tryd.zeroValue104, Tryd.underlying0, Tryd.runUnderlying0, Tryd.sizeOf0, Tryd.isAgg0, Tryd.zeroValue0, Tryd.underlying3, Tryd.runUnderlying3, Tryd.sizeOf3, Tryd.isAgg3, Tryd.zeroValue3, Tryd.underlying4, Tryd.runUnderlying4, Tryd.sizeOf4, Tryd.isAgg4, Tryd.zeroValue4, Tryd.underlying9, Tryd.runUnderlying9, Tryd.sizeOf9, Tryd.isAgg9, Tryd.zeroValue9, Tryd.underlying20, Tryd.runUnderlying20, Tryd.sizeOf20, Tryd.isAgg20, Tryd.zeroValue20, Tryd.underlying21, Tryd.runUnderlying21, Tryd.sizeOf21, Tryd.isAgg21, Tryd.zeroValue21, (by kernel_rfl), (by kernel_rfl)⟩
instance : Go.ConcR.Payload := ⟨23⟩
end Go.Proofs.YtckoipoejaafhabDoor

namespace Go.Proofs.YtckoipoejaafhabDoor.Cc
open Go Go.Conc Go.RowKit Go.Conc.Lib Go.ConcR.Gen
open Go.ConcN (WgLive)
open Go.ConcN (st_flag st_waiters)
open Go.ConcR (KK WgAt stA smA rd wr mk Payload DC0)
variable {L : WgLink}
theorem rm_rely {ty : TypeId} {Wg : Nat} {Sh Ow : Nat → Prop} {F : World → Prop} (hF2 : ∀ w w₁, Kept Sh Ow w w₁ → F w → F w₁) {w w₁ : World} (h : F w ∧ WgLive ty Wg w) (r : RM ty Wg Sh Ow w w₁) : F w₁ ∧ WgLive ty Wg w₁ := ⟨hF2 _ _ r.kept h.1, r.live h.2⟩
theorem goes_dms {P : Program} {main : Bool} {Wg : Nat} {R : World → World → Prop} {St : Goroutine → World → Prop} : ∀ {n : Nat} {g : Goroutine} {w : World}, Goes P main R DC0 St n g w → Goes P main R (DMs Wg) St n g w := by
  intro n
  induction n with
  | zero => intro g w h; exact h
  | succ n ih =>
    intro g w h
    rcases h with h | ⟨hr, h⟩
    · exact .inl h
    · refine .inr ⟨hr, fun w₁ h₁ => ?_⟩
      have := h w₁ h₁
      revert this
      cases stepG P main g w₁ <;> simp only [GStep.goes, imp_self]
      exact fun ⟨⟨d1, d2⟩, x⟩ => ⟨⟨d1, fun e he => by rw [d2] at he; simp at he⟩, ih x⟩
theorem goes_then {P : Program} {main : Bool} {R : World → World → Prop} {D : World → World → Array Event → Prop} {St St' : Goroutine → World → Prop} (rf : ∀ w, R w w) {k : Nat} (hk : ∀ g w, St g w → Goes P main R D St' k g w) : ∀ {n : Nat} {g : Goroutine} {w : World}, Goes P main R D St n g w → Goes P main R D St' (k + n) g w := by
  intro n
  induction n with
  | zero => intro g w h; exact hk g w (h w (rf w))
  | succ n ih =>
    intro g w h
    rcases h with h | ⟨hr, h⟩
    · have : ∀ j, Goes P main R D St' (k + j) g w := fun j => by
        induction j with
        | zero => exact hk g w (h w (rf w))
        | succ j ihj => exact ihj.more
      exact this (n + 1)
    · refine .inr ⟨hr, fun w₁ h₁ => ?_⟩
      have := h w₁ h₁
      revert this
      cases stepG P main g w₁ <;> simp only [GStep.goes, imp_self]
      exact fun ⟨d, x⟩ => ⟨d, ih x⟩
def AdE (P : Program) (ty : TypeId) (Wg : Nat) (Sh Ow : Nat → Prop) (Nx : Goroutine → World → Prop) (g : Goroutine) (w : World) : Prop := g.status = .running ∧ ∃ g', stepG P true g w = .go g' w #[mk .enable] ∧ ∃ m, Gm P ty Wg Sh Ow Nx m g' w
def AdA (P : Program) (ty : TypeId) (Wg : Nat) (Sh Ow : Nat → Prop) (Nx : Goroutine → World → Prop) (g : Goroutine) (w : World) : Prop := g.status = .running ∧ ∀ v : Nat, v < 2147483647 → WgAt ty Wg w (v * KK) 0 →
  ∃ g', stepG P true g w = .go g' (w.setCell (stA Wg) (.int .u64 ((v + 1) * KK))) #[rd (stA Wg), wr (stA Wg)] ∧ ∃ m, Gm P ty Wg Sh Ow (AdE P ty Wg Sh Ow Nx) m g' (w.setCell (stA Wg) (.int .u64 ((v + 1) * KK)))
def AdD (P : Program) (ty : TypeId) (Wg : Nat) (Sh Ow : Nat → Prop) (Nx : Goroutine → World → Prop) (g : Goroutine) (w : World) : Prop := g.status = .running ∧ ∃ g', stepG P true g w = .go g' w #[mk .disable] ∧ ∃ m, Gm P ty Wg Sh Ow (AdA P ty Wg Sh Ow Nx) m g' w
set_option maxRecDepth 100000 in
set_option maxHeartbeats 8000000 in
theorem add_up {P : Program} (H : WgLib P L) {Sh Ow : Nat → Prop} {F : World → Prop} (hF2 : ∀ w w₁, Kept Sh Ow w w₁ → F w → F w₁) {Wg : Nat} (hOw : ¬ Sh Wg ∧ ¬ Ow Wg) {b₀ : Frame} {a₀ : Act} {ops₀ : Array Oper} {i₀ : Nat} {rest₀ : List Nat} {k₀ : List Item} {cs : List Frame} {Nx : Goroutine → World → Prop}
    (hT : ∀ w, F w → WgLive L.tWg Wg w → Nx (G (b₀.at (a₀.put ((ops₀[i₀]?).bind (·.dst)) (.tuple #[])) (.inRegion ops₀ rest₀ :: k₀)) cs) w) (w : World) (hF : F w ∧ WgLive L.tWg Wg w) :
    Gm P L.tWg Wg Sh Ow (AdD P L.tWg Wg Sh Ow Nx) 60 (G ((base L.add).at ⟨#[.pointer (some ⟨Wg, 0, none⟩), .int .i64 1, undef, undef, undef, undef, undef, undef, undef, undef, undef, undef, undef, undef, undef, undef, undef, undef, undef, undef, undef, undef, undef, undef, undef, undef, undef, undef, undef, undef, undef, undef, undef, undef, undef, undef, undef, undef, undef, undef, undef, undef, undef, undef, undef, undef, undef, undef, undef, undef, undef, undef, undef, undef, undef, undef, undef, undef, undef, undef, undef, undef, undef, undef, undef, undef, undef, undef, undef, undef, undef, undef, undef, undef, undef, undef, undef, undef, undef, undef, undef, undef, undef, undef, undef, undef, undef, undef, undef, undef, undef, undef, undef, undef, undef, undef, undef, undef, undef, undef, undef, undef, undef, undef, undef, undef, undef, undef, undef, undef, undef, undef, undef, undef, undef, undef, undef], []⟩ [.code (body_add L)]) (b₀.at a₀ (.inRegion ops₀ (i₀ :: rest₀) :: k₀) :: cs)) w := by
  lib_facts
  refine goes_dms ?_
  simp only [body_add, addFn, Option.getD_some]
  u_c stepG_seq (rm_rely hF2) hF
  u_cond true (rm_rely hF2) hF
  u_c stepG_seq (rm_rely hF2) hF
  u_c stepG_seq (rm_rely hF2) hF
  u_reg (rm_rely hF2) hF
  u_op (rm_rely hF2) hF
  u_op (rm_rely hF2) hF
  u_c stepG_region_end (rm_rely hF2) hF
  u_cond false (rm_rely hF2) hF
  u_c stepG_skip (rm_rely hF2) hF
  u_c stepG_seq (rm_rely hF2) hF
  u_reg (rm_rely hF2) hF
  refine Goes.stop (fun w₁ h₁ => ?_)
  replace hF := rm_rely hF2 hF h₁
  clear h₁
  refine ⟨rfl, _, stepG_mark0 .disable (by simp) rfl rfl (by k_ne) rfl H.f_disable (x_disable_n L) (x_disable_b L) (x_disable_x L) (x_disable_f L), 80, ?_⟩
  walk_nrm
  refine goes_dms ?_
  u_c stepG_region_end (rm_rely hF2) hF
  u_reg (rm_rely hF2) hF
  u_defer (rm_rely hF2) hF
  u_c stepG_region_end (rm_rely hF2) hF
  u_c stepG_seq (rm_rely hF2) hF
  u_reg (rm_rely hF2) hF
  u_op (rm_rely hF2) hF
  u_c stepG_region_end (rm_rely hF2) hF
  u_c stepG_seq (rm_rely hF2) hF
  u_c stepG_seq (rm_rely hF2) hF
  u_reg (rm_rely hF2) hF
  u_bub (rm_rely hF2) hF
  u_c stepG_region_end (rm_rely hF2) hF
  u_cond false (rm_rely hF2) hF
  u_c stepG_skip (rm_rely hF2) hF
  u_c stepG_seq (rm_rely hF2) hF
  u_reg (rm_rely hF2) hF
  u_op (rm_rely hF2) hF
  u_op (rm_rely hF2) hF
  u_op (rm_rely hF2) hF
  u_op (rm_rely hF2) hF
  u_op (rm_rely hF2) hF
  u_op (rm_rely hF2) hF
  u_call H.f_uAdd (nm_uAdd L) uAddFn (rm_rely hF2) hF
  u_c stepG_seq (rm_rely hF2) hF
  u_reg (rm_rely hF2) hF
  u_op (rm_rely hF2) hF
  u_c stepG_region_end (rm_rely hF2) hF
  u_c stepG_seq (rm_rely hF2) hF
  u_reg (rm_rely hF2) hF
  u_op (rm_rely hF2) hF
  u_op (rm_rely hF2) hF
  u_op (rm_rely hF2) hF
  u_op (rm_rely hF2) hF
  refine Goes.stop (fun w₂ h₂ => ?_)
  replace hF := rm_rely hF2 hF h₂
  clear h₂
  refine ⟨rfl, fun v hv hw => ?_⟩
  have hset : ∀ x : Int, F (w₂.setCell (stA Wg) (.int .u64 x)) ∧ WgLive L.tWg Wg (w₂.setCell (stA Wg) (.int .u64 x)) := fun x => by
    have hAs := aside_setCell w₂ (stA Wg) (.int .u64 x)
    exact ⟨hF2 _ _ ⟨hAs.tape, Nat.le_of_eq hAs.size.symm, fun b hb => hAs.block b fun e => by
      have e' : b = Wg := e
      subst e'
      exact hb.elim hOw.1 hOw.2⟩ hF.1, _, _, hw.setSt x⟩
  rcases Nat.eq_zero_or_pos v with rfl | hvp
  · replace hw : WgAt L.tWg Wg w₂ 0 0 := by simpa using hw
    have z : (((0 : Nat) : Int) + 1) * KK = KK := by simp
    rw [z]
    have e0 : IntKind.u64.wrap (0 + 4294967296) = KK := by decide
    refine ⟨_, (stepG_add_atomic rfl rfl (by k_ne) rfl H.f_addU64 (x_addU64_n L) (x_addU64_b L) (x_addU64_x L) .u64 (x_addU64_f L) rfl rfl hw.cellSt (hw.thaw 0)).trans (by rw [e0]; rfl), 200 + 100, ?_⟩
    replace hF := hset KK
    clear hw hset
    simp only [KK] at hF ⊢
    walk_nrm
    refine goes_then (k := 200) (fun w => ⟨Kept.refl _ _ w, id⟩) (St := fun g w => Goes P true (RM L.tWg Wg Sh Ow) (DMs Wg) (AdE P L.tWg Wg Sh Ow Nx) 200 g w) (fun _ _ h => h) (goes_dms (n := 100) ?_)
    u_op (rm_rely hF2) hF
    u_c stepG_region_end (rm_rely hF2) hF
    u_c stepG_ret' (rm_rely hF2) hF
    u_leave1 H.f_uAdd (rm_rely hF2) hF
    u_op (rm_rely hF2) hF
    u_c stepG_region_end (rm_rely hF2) hF
    u_c stepG_seq (rm_rely hF2) hF
    u_c stepG_seq (rm_rely hF2) hF
    u_reg (rm_rely hF2) hF
    u_op (rm_rely hF2) hF
    u_op (rm_rely hF2) hF
    u_op (rm_rely hF2) hF
    u_op (rm_rely hF2) hF
    u_skip (rm_rely hF2) hF
    u_skip (rm_rely hF2) hF
    u_op (rm_rely hF2) hF
    u_c stepG_region_end (rm_rely hF2) hF
    u_cond false (rm_rely hF2) hF
    u_c stepG_skip (rm_rely hF2) hF
    u_c stepG_seq (rm_rely hF2) hF
    u_reg (rm_rely hF2) hF
    u_op (rm_rely hF2) hF
    u_op (rm_rely hF2) hF
    u_op (rm_rely hF2) hF
    u_op (rm_rely hF2) hF
    u_c stepG_region_end (rm_rely hF2) hF
    u_c stepG_seq (rm_rely hF2) hF
    u_reg (rm_rely hF2) hF
    u_op (rm_rely hF2) hF
    u_op (rm_rely hF2) hF
    u_op (rm_rely hF2) hF
    u_op (rm_rely hF2) hF
    u_c stepG_region_end (rm_rely hF2) hF
    u_c stepG_seq (rm_rely hF2) hF
    u_c stepG_seq (rm_rely hF2) hF
    u_reg (rm_rely hF2) hF
    u_op (rm_rely hF2) hF
    u_op (rm_rely hF2) hF
    u_op (rm_rely hF2) hF
    u_op (rm_rely hF2) hF
    u_op (rm_rely hF2) hF
    u_op (rm_rely hF2) hF
    u_op (rm_rely hF2) hF
    u_op (rm_rely hF2) hF
    u_op (rm_rely hF2) hF
    u_op (rm_rely hF2) hF
    u_c stepG_region_end (rm_rely hF2) hF
    u_cond true (rm_rely hF2) hF
    u_reg (rm_rely hF2) hF
    u_op (rm_rely hF2) hF
    u_op (rm_rely hF2) hF
    u_op (rm_rely hF2) hF
    u_conv H.underlying_tPU32 H.room_tU32 (Go.ConcN.Gen.WgLive.cell1 hF.2).choose_spec (rm_rely hF2) hF
    refine Goes.stop (fun w₃ h₃ => ?_)
    replace hF := rm_rely hF2 hF h₃
    clear h₃
    refine Goes.step rfl (fun w₄ h₄ => ?_)
    replace hF := rm_rely hF2 hF h₄
    clear h₄
    rw [stepG_markAt .read (by simp) rfl rfl (by k_ne) rfl H.f_raceRead (x_raceRead_n L) (x_raceRead_b L) (x_raceRead_x L) (x_raceRead_f L) (ad := ⟨Wg, 1, none⟩) (by simp [Act.eval])]
    simp only [goes_go]
    refine ⟨⟨rfl, fun e he => ?_⟩, ?_⟩
    · rw [Array.mem_singleton] at he
      subst he
      refine ⟨fun x hx => ?_, by simp, by simp, by simp⟩
      simp only [MemAct.ofEvent, MemAct.touch?, Option.some.injEq] at hx
      subst hx
      exact ⟨⟨_, rfl, rfl⟩, by simp, fun _ => rfl⟩
    walk_nrm
    refine goes_dms ?_
    u_c stepG_region_end (rm_rely hF2) hF
    u_c stepG_seq (rm_rely hF2) hF
    u_c stepG_seq (rm_rely hF2) hF
    u_reg (rm_rely hF2) hF
    u_op (rm_rely hF2) hF
    u_op (rm_rely hF2) hF
    u_c stepG_region_end (rm_rely hF2) hF
    u_cond false (rm_rely hF2) hF
    u_c stepG_skip (rm_rely hF2) hF
    u_c stepG_seq (rm_rely hF2) hF
    u_c stepG_seq (rm_rely hF2) hF
    u_reg (rm_rely hF2) hF
    u_op (rm_rely hF2) hF
    u_op (rm_rely hF2) hF
    u_op (rm_rely hF2) hF
    u_skip (rm_rely hF2) hF
    u_skip (rm_rely hF2) hF
    u_op (rm_rely hF2) hF
    u_op (rm_rely hF2) hF
    u_skip (rm_rely hF2) hF
    u_skip (rm_rely hF2) hF
    u_skip (rm_rely hF2) hF
    u_skip (rm_rely hF2) hF
    u_op (rm_rely hF2) hF
    u_c stepG_region_end (rm_rely hF2) hF
    u_cond false (rm_rely hF2) hF
    u_c stepG_skip (rm_rely hF2) hF
    u_c stepG_seq (rm_rely hF2) hF
    u_c stepG_seq (rm_rely hF2) hF
    u_reg (rm_rely hF2) hF
    u_op (rm_rely hF2) hF
    u_op (rm_rely hF2) hF
    u_op (rm_rely hF2) hF
    u_skip (rm_rely hF2) hF
    u_skip (rm_rely hF2) hF
    u_op (rm_rely hF2) hF
    u_c stepG_region_end (rm_rely hF2) hF
    u_cond true (rm_rely hF2) hF
    u_c stepG_ret' (rm_rely hF2) hF
    refine Goes.stop (fun w₅ h₅ => ?_)
    replace hF := rm_rely hF2 hF h₅
    clear h₅
    refine ⟨rfl, _, stepG_unwind_entry (v := .tuple #[]) (evs := #[mk .enable]) rfl H.f_enable (x_enable_n L) (x_enable_b L) (x_enable_x L) (x_enable_f L) (by simp [Extern.Race.none_]) (by simp [mk]) (by simp [mk]), 1, ?_⟩
    refine goes_dms ?_
    u_leave0 H.f_add (rm_rely hF2) hF
    exact fun w₁ h₁ => hT w₁ (rm_rely hF2 hF h₁).1 (rm_rely hF2 hF h₁).2
  · obtain ⟨V, hV⟩ : ∃ V : Int, V = (v : Int) + 1 := ⟨_, rfl⟩
    obtain ⟨S, hS⟩ : ∃ S : Int, S = V * KK := ⟨_, rfl⟩
    have eS : IntKind.u64.wrap ((v : Int) * KK + 4294967296) = S := by rw [IntKind.wrap_u64, hS, hV]; simp only [KK]; omega
    rw [← hV, ← hS]
    have a1 : S / 4294967296 = V := by rw [hS]; simp only [KK]; omega
    have b1 : bits .and .u64 S 2147483648 = 0 := by rw [hS, hV]; have := st_flag (v + 1) 0 (by omega) (by omega); simpa [KK] using this
    have b2 : bits .and .u64 S 2147483647 = 0 := by rw [hS, hV]; have := st_waiters (v + 1) 0 (by omega) (by omega); simpa [KK] using this
    have c1 : IntKind.i32.wrap V = V := by rw [IntKind.wrap_i32]; omega
    have hV1 : 1 < V := by omega
    have hV2 : V < 2147483648 := by omega
    have q1 : (V == 1) = false := by simp; omega
    have q2 : decide (V = 1) = false := decide_eq_false (by omega)
    have q3 : decide (V < 0) = false := decide_eq_false (by omega)
    have q4 : decide (0 < V) = true := decide_eq_true (by omega)
    have q5 : (V == 0) = false := by simp; omega
    have q6 : decide (V = 0) = false := decide_eq_false (by omega)
    refine ⟨_, (stepG_add_atomic rfl rfl (by k_ne) rfl H.f_addU64 (x_addU64_n L) (x_addU64_b L) (x_addU64_x L) .u64 (x_addU64_f L) rfl rfl hw.cellSt (hw.thaw 0)).trans (by rw [eS]; rfl), 200, ?_⟩
    replace hF := hset S
    clear hw hset hS hV eS
    walk_nrm
    refine goes_dms ?_
    u_op (rm_rely hF2) hF
    u_c stepG_region_end (rm_rely hF2) hF
    u_c stepG_ret' (rm_rely hF2) hF
    u_leave1 H.f_uAdd (rm_rely hF2) hF
    u_op (rm_rely hF2) hF
    u_c stepG_region_end (rm_rely hF2) hF
    u_c stepG_seq (rm_rely hF2) hF
    u_c stepG_seq (rm_rely hF2) hF
    u_reg (rm_rely hF2) hF
    u_op (rm_rely hF2) hF
    u_op (rm_rely hF2) hF
    u_op (rm_rely hF2) hF
    u_op (rm_rely hF2) hF
    u_skip (rm_rely hF2) hF
    u_skip (rm_rely hF2) hF
    u_op (rm_rely hF2) hF
    u_c stepG_region_end (rm_rely hF2) hF
    u_cond false (rm_rely hF2) hF
    u_c stepG_skip (rm_rely hF2) hF
    u_c stepG_seq (rm_rely hF2) hF
    u_reg (rm_rely hF2) hF
    u_op (rm_rely hF2) hF
    u_op (rm_rely hF2) hF
    u_op (rm_rely hF2) hF
    u_op (rm_rely hF2) hF
    u_c stepG_region_end (rm_rely hF2) hF
    u_c stepG_seq (rm_rely hF2) hF
    u_reg (rm_rely hF2) hF
    u_op (rm_rely hF2) hF
    u_op (rm_rely hF2) hF
    u_op (rm_rely hF2) hF
    u_op (rm_rely hF2) hF
    u_c stepG_region_end (rm_rely hF2) hF
    u_c stepG_seq (rm_rely hF2) hF
    u_c stepG_seq (rm_rely hF2) hF
    u_reg (rm_rely hF2) hF
    u_op (rm_rely hF2) hF
    u_op (rm_rely hF2) hF
    u_op (rm_rely hF2) hF
    u_op (rm_rely hF2) hF
    u_op (rm_rely hF2) hF
    u_op (rm_rely hF2) hF
    u_op (rm_rely hF2) hF
    u_op (rm_rely hF2) hF
    u_op (rm_rely hF2) hF
    u_op (rm_rely hF2) hF
    u_c stepG_region_end (rm_rely hF2) hF
    u_cond false (rm_rely hF2) hF
    u_c stepG_skip (rm_rely hF2) hF
    u_c stepG_seq (rm_rely hF2) hF
    u_c stepG_seq (rm_rely hF2) hF
    u_reg (rm_rely hF2) hF
    u_op (rm_rely hF2) hF
    u_op (rm_rely hF2) hF
    u_c stepG_region_end (rm_rely hF2) hF
    u_cond false (rm_rely hF2) hF
    u_c stepG_skip (rm_rely hF2) hF
    u_c stepG_seq (rm_rely hF2) hF
    u_c stepG_seq (rm_rely hF2) hF
    u_reg (rm_rely hF2) hF
    u_op (rm_rely hF2) hF
    u_op (rm_rely hF2) hF
    u_op (rm_rely hF2) hF
    u_skip (rm_rely hF2) hF
    u_skip (rm_rely hF2) hF
    u_op (rm_rely hF2) hF
    u_op (rm_rely hF2) hF
    u_skip (rm_rely hF2) hF
    u_skip (rm_rely hF2) hF
    u_skip (rm_rely hF2) hF
    u_skip (rm_rely hF2) hF
    u_op (rm_rely hF2) hF
    u_c stepG_region_end (rm_rely hF2) hF
    u_cond false (rm_rely hF2) hF
    u_c stepG_skip (rm_rely hF2) hF
    u_c stepG_seq (rm_rely hF2) hF
    u_c stepG_seq (rm_rely hF2) hF
    u_reg (rm_rely hF2) hF
    u_op (rm_rely hF2) hF
    u_op (rm_rely hF2) hF
    u_op (rm_rely hF2) hF
    u_skip (rm_rely hF2) hF
    u_skip (rm_rely hF2) hF
    u_op (rm_rely hF2) hF
    u_c stepG_region_end (rm_rely hF2) hF
    u_cond true (rm_rely hF2) hF
    u_c stepG_ret' (rm_rely hF2) hF
    refine Goes.stop (fun w₅ h₅ => ?_)
    replace hF := rm_rely hF2 hF h₅
    clear h₅
    refine ⟨rfl, _, stepG_unwind_entry (v := .tuple #[]) (evs := #[mk .enable]) rfl H.f_enable (x_enable_n L) (x_enable_b L) (x_enable_x L) (x_enable_f L) (by simp [Extern.Race.none_]) (by simp [mk]) (by simp [mk]), 1, ?_⟩
    refine goes_dms ?_
    u_leave0 H.f_add (rm_rely hF2) hF
    exact fun w₁ h₁ => hT w₁ (rm_rely hF2 hF h₁).1 (rm_rely hF2 hF h₁).2
end Go.Proofs.YtckoipoejaafhabDoor.Cc
