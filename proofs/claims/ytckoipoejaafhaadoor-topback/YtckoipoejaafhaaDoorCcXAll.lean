/-
 Texts that stood one behind the other,as one.
-/
import Derived.Test.YtckoipoejaafhaaDoorCcVAll
import Derived.Test.YtckoipoejaafhaaDoorProg
import Derived.Test.YtckoipoejaafhaaDoorCcPAll
import Derived.Test.YtckoipoejaafhaaDoorChecked
import Derived.Conc.WgGenN3
import Derived.Test.YtckoipoejaafhaaDoorCcStAll
namespace Go.Proofs.YtckoipoejaafhaaDoor.Cc
open Go Go.Conc
def pz : Value -> Value
 | .int k n => .int k n
 | .bool b => .bool b
 | .agg xs => .agg (xs.attach.map fun x => pz x.1)
 | _ => undef
 termination_by v => SizeOf.sizeOf v
 decreasing_by
   have := Array.sizeOf_lt_of_mem x.2
   simp only [Value.agg.sizeOf_spec]
   omega
theorem pz_int (k : IntKind) (n : Int) : pz (.int k n) = .int k n := by rw [pz]
theorem pz_bool (b : Bool) : pz (.bool b) = .bool b := by rw [pz]
def OneC (_ : Array Value) : Prop := True
theorem pz_rel (F : FuncId -> Prop) (ρ : Ren) : ∀ (m : Nat) (v : Value),SizeOf.sizeOf v <= m -> VR F ρ (pz v) v := by
 intro m
 induction m with
 | zero =>
   intro v h
   cases v <;> simp at h
 | succ m ih =>
   intro v h
   cases v with
   | int k n => rw [pz_int]; exact .int k n
   | bool b => rw [pz_bool]; exact .bool b
   | agg xs =>
     rw [pz]
     refine .agg (by simp) fun i h1 h2 => ?_
     simp only [Array.getElem_map,Array.getElem_attach]
     refine ih _ ?_
     have := Array.sizeOf_lt_of_mem (Array.getElem_mem h2)
     simp only [Value.agg.sizeOf_spec] at h
     omega
   | _ => rw [pz] <;> first | exact .poi _ rfl (fun b e => by cases e) | (intros; rename_i e; cases e)
theorem OneC.rel {cs : Array Value} (_ : OneC cs) (F : FuncId -> Prop) (ρ : Ren) : A2 (VR F ρ) (cs.map pz) cs := ⟨by simp,fun i a e => by
 rw [Array.getElem?_map] at e
 cases hc : cs[i]? with
 | none => rw [hc] at e; cases e
 | some v =>
   rw [hc] at e
   simp only [Option.map_some,Option.some.injEq] at e
   subst e
   exact ⟨v,rfl,pz_rel F ρ _ v (Nat.le_refl _)⟩⟩
def froz : Obj -> Obj
 | .cells c e _ => .cells (c.map pz) e (0,c.size)
 | o => o
def priv (S : Nat -> Bool) (w : World) : World := { w with heap := w.heap.mapIdx fun b o => if S b then froz o else .cells #[] 0 }
def idr (S : Nat -> Bool) (n : Nat) : Ren := fun b => if S b = true /\ b < n then some b else none
section
variable {S : Nat -> Bool} {w : World}
theorem priv_size (S : Nat -> Bool) (w : World) : (priv S w).heap.size = w.heap.size := by simp [priv]
theorem priv_at {b : Nat} (hb : S b = true) : (priv S w).heap[b]? = (w.heap[b]?).map froz := by
 simp only [priv,Array.getElem?_mapIdx]
 cases w.heap[b]? with
 | none => rfl
 | some o => simp [hb]
theorem priv_cell {b o : Nat} (hb : S b = true) (τ : Nat -> Question -> Nat) (d : Nat) : (tp (priv S w) τ d).cell? ⟨b,o,none⟩ = (w.cell? ⟨b,o,none⟩).map pz := by
 have e : (tp (priv S w) τ d).heap[b]? = (w.heap[b]?).map froz := priv_at hb
 simp only [World.cell?,e]
 cases w.heap[b]? with
 | none => rfl
 | some o => cases o <;> simp [froz]
theorem idr_some {n b b' : Nat} (h : idr S n b = some b') : b' = b /\ S b = true /\ b < n := by
 unfold idr at h
 split at h
 · rename_i q
   exact ⟨(Option.some.inj h).symm,q⟩
 · cases h
theorem priv_WR {F : FuncId -> Prop} (hS : ∀ b,S b = true -> b < w.heap.size -> ∃ cs e fr,w.heap[b]? = some (.cells cs e fr) /\ OneC cs) : WR F w.heap.size (idr S w.heap.size) (priv S w) w := by
 refine ⟨fun b c b' hb hc => ?_,fun b b' hb _ => ?_,fun b b' hb hge => ?_,by rw [priv_size]; exact Nat.le_refl _⟩
 · rw [<- (idr_some hb).1,<- (idr_some hc).1]
 · obtain ⟨rfl,h1,h2⟩ := idr_some hb
   obtain ⟨cs,e,fr,h3,h4⟩ := hS b' h1 h2
   exact ⟨cs.map pz,cs,e,(0,cs.size),fr,by rw [priv_at h1,h3]; rfl,h3,h4.rel _ _,fun i hi => ⟨Nat.zero_le _,by simpa using hi⟩⟩
 · have := (idr_some hb).2.2
   omega
end
def Ints (cs : Array Value) : Prop := ∀ v ∈ cs,∃ k n,v = .int k n
theorem Ints.same {F : FuncId -> Prop} {ρ : Ren} {cs cs' : Array Value} (h : Ints cs) (k : A2 (VR F ρ) cs cs') : cs' = cs := by
 apply Array.ext_getElem?
 intro i
 cases e : cs[i]? with
 | none => exact k.none e
 | some a =>
   obtain ⟨a',e',r⟩ := k.at_ i a e
   obtain ⟨kk,n,rfl⟩ := h a (Array.mem_of_getElem? e)
   cases r
   exact e'
theorem call_company {P : Program} {T : Tbl} (hF : FnAll P T) {Sh Ow : Nat -> Prop} {w : World} (S : Nat -> Bool) (base : List Frame) (main : Bool) {f : FuncId} {args : Array Value} {R : Value -> World -> Prop} (hf : T.fs.contains f = true)
   (hS : ∀ b,S b = true -> b < w.heap.size -> ∃ cs e fr,w.heap[b]? = some (.cells cs e fr) /\ OneC cs) (hSh : ∀ b,S b = true -> Sh b \/ Ow b) (hgs : ∀ g,T.gs.contains g = true -> S g = true /\ g < w.heap.size)
   (ha : A2 (VR (TF T) (idr S w.heap.size)) args args)
   (hC : ∀ τ d,Calls P f args (tp (priv S w) τ d) fun e w1 => ∃ v,e = .returned v /\ R v w1) (hR : ∀ v w1 τ d,R v (tp w1 τ d) -> R v w1) :
   Wi P main Sh (AtRet P T w.heap.size Sh (fun fr w1 => fr.fn = f /\ ∃ v,(∀ (Q : Program) (W : World) es,(results (P.funcs.getD f default) fr.tmps).runT Q W es = (.ok v W,es)) /\ R v w1) base Ow) Ow (G (Frame.enter P f args .normal) base) w := by
 have hW := priv_WR (F := TF T) (S := S) (w := w) hS
 have hst : St P T w.heap.size (idr S w.heap.size) (Frame.enter P f args .normal) [] (priv S w) (Frame.enter P f args .normal) [] w := ⟨fr2_enter hF hf ha,.inl rfl,rfl,hW,fun g hg => by
   obtain ⟨q1,q2⟩ := hgs g hg
   unfold idr
   rw [if_pos ⟨q1,q2⟩]⟩
 have ht := tree_of_calls hF hst hC hR
 exact tree_company hF base main Ow ht hst ⟨fun b b' hb _ => by
   obtain ⟨rfl,q,_⟩ := idr_some hb
   exact hSh b' q,fun b b' hb hge => by
   have := (idr_some hb).2.2
   omega⟩ fun b q => q
end Go.Proofs.YtckoipoejaafhaaDoor.Cc

namespace Go.Proofs.YtckoipoejaafhaaDoor.Cc
open Go
def wTbl : Tbl := { fs := [21,22,29,31,39,47,48,49,68,83,101,102,122,128,129,139,140,143,148,158,159,160,164,165,166,167],gs := [1,2],ps := fun f => match f with
 | 39 => [21,37]
 | 102 => [48,55]
 | 122 => [6,27,42,44]
 | 129 => [17,26,56,59,67,75]
 | 140 => [23,29,32]
 | 143 => [2,5,9,11,16]
 | 148 => [29,35,41,51,57,59,72,78,80]
 | 159 => [22]
 | 160 => [18,24,33,41]
 | 164 => [11]
 | 165 => [11]
 | _ => [] }
theorem wAll : FnAll Tryd.prog wTbl := fun f hf => by
 have hm : f ∈ wTbl.fs := by simpa using hf
 simp only [wTbl,List.mem_cons,List.not_mem_nil,or_false] at hm
 rcases hm with rfl | rfl | rfl | rfl | rfl | rfl | rfl | rfl | rfl | rfl | rfl | rfl | rfl | rfl | rfl | rfl | rfl | rfl | rfl | rfl | rfl | rfl | rfl | rfl | rfl | rfl
 · exact ⟨_,_,Tryd.func21,rfl,by kernel_rfl,by kernel_rfl,resB_of (by kernel_rfl)⟩
 · exact ⟨_,_,Tryd.func22,rfl,by kernel_rfl,by kernel_rfl,resB_of (by kernel_rfl)⟩
 · exact ⟨_,_,Tryd.func29,rfl,by kernel_rfl,by kernel_rfl,resB_of (by kernel_rfl)⟩
 · exact ⟨_,_,Tryd.func31,rfl,by kernel_rfl,by kernel_rfl,resB_of (by kernel_rfl)⟩
 · exact ⟨_,_,Tryd.func39,rfl,by kernel_rfl,by kernel_rfl,resB_of (by kernel_rfl)⟩
 · exact ⟨_,_,Tryd.func47,rfl,by kernel_rfl,by kernel_rfl,resB_of (by kernel_rfl)⟩
 · exact ⟨_,_,Tryd.func48,rfl,by kernel_rfl,by kernel_rfl,resB_of (by kernel_rfl)⟩
 · exact ⟨_,_,Tryd.func49,rfl,by kernel_rfl,by kernel_rfl,resB_of (by kernel_rfl)⟩
 · exact ⟨_,_,Tryd.func68,rfl,by kernel_rfl,by kernel_rfl,resB_of (by kernel_rfl)⟩
 · exact ⟨_,_,Tryd.func83,rfl,by kernel_rfl,by kernel_rfl,resB_of (by kernel_rfl)⟩
 · exact ⟨_,_,Tryd.func101,rfl,by kernel_rfl,by kernel_rfl,resB_of (by kernel_rfl)⟩
 · exact ⟨_,_,Tryd.func102,rfl,by kernel_rfl,by kernel_rfl,resB_of (by kernel_rfl)⟩
 · exact ⟨_,_,Tryd.func122,rfl,by kernel_rfl,by kernel_rfl,resB_of (by kernel_rfl)⟩
 · exact ⟨_,_,Tryd.func128,rfl,by kernel_rfl,by kernel_rfl,resB_of (by kernel_rfl)⟩
 · exact ⟨_,_,Tryd.func129,rfl,by kernel_rfl,by kernel_rfl,resB_of (by kernel_rfl)⟩
 · exact ⟨_,_,Tryd.func139,rfl,by kernel_rfl,by kernel_rfl,resB_of (by kernel_rfl)⟩
 · exact ⟨_,_,Tryd.func140,rfl,by kernel_rfl,by kernel_rfl,resB_of (by kernel_rfl)⟩
 · exact ⟨_,_,Tryd.func143,rfl,by kernel_rfl,by kernel_rfl,resB_of (by kernel_rfl)⟩
 · exact ⟨_,_,Tryd.func148,rfl,by kernel_rfl,by kernel_rfl,resB_of (by kernel_rfl)⟩
 · exact ⟨_,_,Tryd.func158,rfl,by kernel_rfl,by kernel_rfl,resB_of (by kernel_rfl)⟩
 · exact ⟨_,_,Tryd.func159,rfl,by kernel_rfl,by kernel_rfl,resB_of (by kernel_rfl)⟩
 · exact ⟨_,_,Tryd.func160,rfl,by kernel_rfl,by kernel_rfl,resB_of (by kernel_rfl)⟩
 · exact ⟨_,_,Tryd.func164,rfl,by kernel_rfl,by kernel_rfl,resB_of (by kernel_rfl)⟩
 · exact ⟨_,_,Tryd.func165,rfl,by kernel_rfl,by kernel_rfl,resB_of (by kernel_rfl)⟩
 · exact ⟨_,_,Tryd.func166,rfl,by kernel_rfl,by kernel_rfl,resB_of (by kernel_rfl)⟩
 · exact ⟨_,_,Tryd.func167,rfl,by kernel_rfl,by kernel_rfl,resB_of (by kernel_rfl)⟩
end Go.Proofs.YtckoipoejaafhaaDoor.Cc

namespace Go.Proofs.YtckoipoejaafhaaDoor
open Go Go.RowKit
abbrev wgLink : Go.Conc.Lib.WgLink := { add := 77,done := 79,wait := 82,relMerge := 109,disable := 110,enable := 111,inBubble := 112,associate := 113,fatal := 114,uOr := 115,uAdd := 116,raceRead := 117,uLoad := 118,uStore := 119,disassociate := 120,semrelease := 121,acquire := 123,isAssociated := 124,uCas := 125,raceWrite := 126,semacquire := 127,orU64 := 144,addU64 := 145,loadU64 := 146,storeU64 := 147,casU64 := 149,tWgP := 153,tUP := 155,tAssoc := 156,tWg := 121,tAU := 118,tU64 := 34,tUint := 88,tU32 := 119,tPU32 := 159,tPAU := 183,tPU64 := 185,tNoCopy := 114,tANoCopy := 115,tAlign64 := 116 }
theorem wgLib : Go.Conc.Lib.WgLib Tryd.prog wgLink :=
 ⟨Tryd.func77,Tryd.func79,Tryd.func82,Tryd.func109,Tryd.func110,Tryd.func111,Tryd.func112,Tryd.func113,Tryd.func114,Tryd.func115,Tryd.func116,Tryd.func117,Tryd.func118,Tryd.func119,Tryd.func120,Tryd.func121,Tryd.func123,Tryd.func124,Tryd.func125,Tryd.func126,Tryd.func127,Tryd.func144,Tryd.func145,Tryd.func146,Tryd.func147,Tryd.func149,Tryd.underlying153,Tryd.runUnderlying153,Tryd.sizeOf153,Tryd.isAgg153,Tryd.zeroValue153,Tryd.underlying155,Tryd.runUnderlying155,Tryd.sizeOf155,Tryd.isAgg155,Tryd.zeroValue155,Tryd.underlying156,Tryd.runUnderlying156,Tryd.sizeOf156,Tryd.isAgg156,Tryd.zeroValue156,Tryd.underlying121,Tryd.runUnderlying121,Tryd.sizeOf121,Tryd.isAgg121,Tryd.zeroValue121,Tryd.underlying118,Tryd.runUnderlying118,Tryd.sizeOf118,Tryd.isAgg118,Tryd.zeroValue118,Tryd.underlying34,Tryd.runUnderlying34,Tryd.sizeOf34,Tryd.isAgg34,Tryd.zeroValue34,Tryd.underlying88,Tryd.runUnderlying88,Tryd.sizeOf88,Tryd.isAgg88,Tryd.zeroValue88,Tryd.underlying119,Tryd.runUnderlying119,Tryd.sizeOf119,Tryd.isAgg119,Tryd.zeroValue119,Tryd.underlying159,Tryd.runUnderlying159,Tryd.sizeOf159,Tryd.isAgg159,Tryd.zeroValue159,Tryd.underlying183,Tryd.runUnderlying183,Tryd.sizeOf183,Tryd.isAgg183,Tryd.zeroValue183,Tryd.underlying185,Tryd.runUnderlying185,Tryd.sizeOf185,Tryd.isAgg185,Tryd.zeroValue185,Tryd.underlying0,Tryd.runUnderlying0,Tryd.sizeOf0,Tryd.isAgg0,Tryd.zeroValue0,Tryd.underlying3,Tryd.runUnderlying3,Tryd.sizeOf3,Tryd.isAgg3,Tryd.zeroValue3,Tryd.underlying4,Tryd.runUnderlying4,Tryd.sizeOf4,Tryd.isAgg4,Tryd.zeroValue4,Tryd.underlying9,Tryd.runUnderlying9,Tryd.sizeOf9,Tryd.isAgg9,Tryd.zeroValue9,Tryd.underlying20,Tryd.runUnderlying20,Tryd.sizeOf20,Tryd.isAgg20,Tryd.zeroValue20,Tryd.underlying21,Tryd.runUnderlying21,Tryd.sizeOf21,Tryd.isAgg21,Tryd.zeroValue21,(by kernel_rfl),(by kernel_rfl)⟩
instance : Go.ConcR.Payload := ⟨23⟩
end Go.Proofs.YtckoipoejaafhaaDoor

namespace Go.Proofs.YtckoipoejaafhaaDoor.Cc
open Go Go.Conc Go.RowKit Go.Conc.Lib Go.ConcR.Gen
open Go.ConcN (WgLive)
open Go.ConcN (st_flag st_waiters)
open Go.ConcR (KK WgAt stA smA rd wr mk Payload DC0)
variable {L : WgLink}
theorem rm_rely {ty : TypeId} {Wg : Nat} {Sh Ow : Nat -> Prop} {F : World -> Prop} (hF2 : ∀ w w₁,Kept Sh Ow w w₁ -> F w -> F w₁) {w w₁ : World} (h : F w /\ WgLive ty Wg w) (r : RM ty Wg Sh Ow w w₁) : F w₁ /\ WgLive ty Wg w₁ := ⟨hF2 _ _ r.kept h.1,r.live h.2⟩
theorem goes_dms {P : Program} {main : Bool} {Wg : Nat} {R : World -> World -> Prop} {St : Goroutine -> World -> Prop} : ∀ {n : Nat} {g : Goroutine} {w : World},Goes P main R DC0 St n g w -> Goes P main R (DMs Wg) St n g w := by
 intro n
 induction n with
 | zero => intro g w h; exact h
 | succ n ih =>
   intro g w h
   rcases h with h | ⟨hr,h⟩
   · exact .inl h
   · refine .inr ⟨hr,fun w₁ h₁ => ?_⟩
     have := h w₁ h₁
     revert this
     cases stepG P main g w₁ <;> simp only [GStep.goes,imp_self]
     exact fun ⟨⟨d1,d2⟩,x⟩ => ⟨⟨d1,fun e he => by rw [d2] at he; simp at he⟩,ih x⟩
theorem goes_then {P : Program} {main : Bool} {R : World -> World -> Prop} {D : World -> World -> Array Event -> Prop} {St St' : Goroutine -> World -> Prop} (rf : ∀ w,R w w) {k : Nat} (hk : ∀ g w,St g w -> Goes P main R D St' k g w) : ∀ {n : Nat} {g : Goroutine} {w : World},Goes P main R D St n g w -> Goes P main R D St' (k + n) g w := by
 intro n
 induction n with
 | zero => intro g w h; exact hk g w (h w (rf w))
 | succ n ih =>
   intro g w h
   rcases h with h | ⟨hr,h⟩
   · have : ∀ j,Goes P main R D St' (k + j) g w := fun j => by
       induction j with
       | zero => exact hk g w (h w (rf w))
       | succ j ihj => exact ihj.more
     exact this (n + 1)
   · refine .inr ⟨hr,fun w₁ h₁ => ?_⟩
     have := h w₁ h₁
     revert this
     cases stepG P main g w₁ <;> simp only [GStep.goes,imp_self]
     exact fun ⟨d,x⟩ => ⟨d,ih x⟩
def AdE (P : Program) (ty : TypeId) (Wg : Nat) (Sh Ow : Nat -> Prop) (Nx : Goroutine -> World -> Prop) (g : Goroutine) (w : World) : Prop := g.status = .running /\ ∃ g',stepG P true g w = .go g' w #[mk .enable] /\ ∃ m,Gm P ty Wg Sh Ow Nx m g' w
def AdA (P : Program) (ty : TypeId) (Wg : Nat) (Sh Ow : Nat -> Prop) (Nx : Goroutine -> World -> Prop) (g : Goroutine) (w : World) : Prop := g.status = .running /\ ∀ v : Nat,v < 2147483647 -> WgAt ty Wg w (v * KK) 0 ->
 ∃ g',stepG P true g w = .go g' (w.setCell (stA Wg) (.int .u64 ((v + 1) * KK))) #[rd (stA Wg),wr (stA Wg)] /\ ∃ m,Gm P ty Wg Sh Ow (AdE P ty Wg Sh Ow Nx) m g' (w.setCell (stA Wg) (.int .u64 ((v + 1) * KK)))
def AdD (P : Program) (ty : TypeId) (Wg : Nat) (Sh Ow : Nat -> Prop) (Nx : Goroutine -> World -> Prop) (g : Goroutine) (w : World) : Prop := g.status = .running /\ ∃ g',stepG P true g w = .go g' w #[mk .disable] /\ ∃ m,Gm P ty Wg Sh Ow (AdA P ty Wg Sh Ow Nx) m g' w
set_option maxRecDepth 100000 in
set_option maxHeartbeats 8000000 in
theorem add_up {P : Program} (H : WgLib P L) {Sh Ow : Nat -> Prop} {F : World -> Prop} (hF2 : ∀ w w₁,Kept Sh Ow w w₁ -> F w -> F w₁) {Wg : Nat} (hOw : ¬ Sh Wg /\ ¬ Ow Wg) {b₀ : Frame} {a₀ : Act} {ops₀ : Array Oper} {i₀ : Nat} {rest₀ : List Nat} {k₀ : List Item} {cs : List Frame} {Nx : Goroutine -> World -> Prop}
   (hT : ∀ w,F w -> WgLive L.tWg Wg w -> Nx (G (b₀.at (a₀.put ((ops₀[i₀]?).bind (·.dst)) (.tuple #[])) (.inRegion ops₀ rest₀ :: k₀)) cs) w) (w : World) (hF : F w /\ WgLive L.tWg Wg w) :
   Gm P L.tWg Wg Sh Ow (AdD P L.tWg Wg Sh Ow Nx) 60 (G ((base L.add).at ⟨#[.pointer (some ⟨Wg,0,none⟩),.int .i64 1,undef,undef,undef,undef,undef,undef,undef,undef,undef,undef,undef,undef,undef,undef,undef,undef,undef,undef,undef,undef,undef,undef,undef,undef,undef,undef,undef,undef,undef,undef,undef,undef,undef,undef,undef,undef,undef,undef,undef,undef,undef,undef,undef,undef,undef,undef,undef,undef,undef,undef,undef,undef,undef,undef,undef,undef,undef,undef,undef,undef,undef,undef,undef,undef,undef,undef,undef,undef,undef,undef,undef,undef,undef,undef,undef,undef,undef,undef,undef,undef,undef,undef,undef,undef,undef,undef,undef,undef,undef,undef,undef,undef,undef,undef,undef,undef,undef,undef,undef,undef,undef,undef,undef,undef,undef,undef,undef,undef,undef,undef,undef,undef,undef,undef,undef],[]⟩ [.code (body_add L)]) (b₀.at a₀ (.inRegion ops₀ (i₀ :: rest₀) :: k₀) :: cs)) w := by
 lib_facts
 refine goes_dms ?_
 simp only [body_add,addFn,Option.getD_some]
 u_c stepG_seq (rm_rely hF2) hF
 u_cond true (rm_rely hF2) hF
 u_c stepG_seq (rm_rely hF2) hF
 u_c stepG_seq (rm_rely hF2) hF
 u_reg (rm_rely hF2) hF
 u_op (rm_rely hF2) hF
 u_op (rm_rely hF2) hF
 u_c stepG_region_end (rm_rely hF2) hF
 u_cond false (rm_rely hF2) hF
 u_c stepG_skip (rm_rely hF2) hF
 u_c stepG_seq (rm_rely hF2) hF
 u_reg (rm_rely hF2) hF
 refine Goes.stop (fun w₁ h₁ => ?_)
 replace hF := rm_rely hF2 hF h₁
 clear h₁
 refine ⟨rfl,_,stepG_mark0 .disable (by simp) rfl rfl (by k_ne) rfl H.f_disable (x_disable_n L) (x_disable_b L) (x_disable_x L) (x_disable_f L),80,?_⟩
 walk_nrm
 refine goes_dms ?_
 u_c stepG_region_end (rm_rely hF2) hF
 u_reg (rm_rely hF2) hF
 u_defer (rm_rely hF2) hF
 u_c stepG_region_end (rm_rely hF2) hF
 u_c stepG_seq (rm_rely hF2) hF
 u_reg (rm_rely hF2) hF
 u_op (rm_rely hF2) hF
 u_c stepG_region_end (rm_rely hF2) hF
 u_c stepG_seq (rm_rely hF2) hF
 u_c stepG_seq (rm_rely hF2) hF
 u_reg (rm_rely hF2) hF
 u_bub (rm_rely hF2) hF
 u_c stepG_region_end (rm_rely hF2) hF
 u_cond false (rm_rely hF2) hF
 u_c stepG_skip (rm_rely hF2) hF
 u_c stepG_seq (rm_rely hF2) hF
 u_reg (rm_rely hF2) hF
 u_op (rm_rely hF2) hF
 u_op (rm_rely hF2) hF
 u_op (rm_rely hF2) hF
 u_op (rm_rely hF2) hF
 u_op (rm_rely hF2) hF
 u_op (rm_rely hF2) hF
 u_call H.f_uAdd (nm_uAdd L) uAddFn (rm_rely hF2) hF
 u_c stepG_seq (rm_rely hF2) hF
 u_reg (rm_rely hF2) hF
 u_op (rm_rely hF2) hF
 u_c stepG_region_end (rm_rely hF2) hF
 u_c stepG_seq (rm_rely hF2) hF
 u_reg (rm_rely hF2) hF
 u_op (rm_rely hF2) hF
 u_op (rm_rely hF2) hF
 u_op (rm_rely hF2) hF
 u_op (rm_rely hF2) hF
 refine Goes.stop (fun w₂ h₂ => ?_)
 replace hF := rm_rely hF2 hF h₂
 clear h₂
 refine ⟨rfl,fun v hv hw => ?_⟩
 have hset : ∀ x : Int,F (w₂.setCell (stA Wg) (.int .u64 x)) /\ WgLive L.tWg Wg (w₂.setCell (stA Wg) (.int .u64 x)) := fun x => by
   have hAs := aside_setCell w₂ (stA Wg) (.int .u64 x)
   exact ⟨hF2 _ _ ⟨hAs.tape,Nat.le_of_eq hAs.size.symm,fun b hb => hAs.block b fun e => by
     have e' : b = Wg := e
     subst e'
     exact hb.elim hOw.1 hOw.2⟩ hF.1,_,_,hw.setSt x⟩
 rcases Nat.eq_zero_or_pos v with rfl | hvp
 · replace hw : WgAt L.tWg Wg w₂ 0 0 := by simpa using hw
   have z : (((0 : Nat) : Int) + 1) * KK = KK := by simp
   rw [z]
   have e0 : IntKind.u64.wrap (0 + 4294967296) = KK := by decide
   refine ⟨_,(stepG_add_atomic rfl rfl (by k_ne) rfl H.f_addU64 (x_addU64_n L) (x_addU64_b L) (x_addU64_x L) .u64 (x_addU64_f L) rfl rfl hw.cellSt (hw.thaw 0)).trans (by rw [e0]; rfl),200 + 100,?_⟩
   replace hF := hset KK
   clear hw hset
   simp only [KK] at hF ⊢
   walk_nrm
   refine goes_then (k := 200) (fun w => ⟨Kept.refl _ _ w,id⟩) (St := fun g w => Goes P true (RM L.tWg Wg Sh Ow) (DMs Wg) (AdE P L.tWg Wg Sh Ow Nx) 200 g w) (fun _ _ h => h) (goes_dms (n := 100) ?_)
   u_op (rm_rely hF2) hF
   u_c stepG_region_end (rm_rely hF2) hF
   u_c stepG_ret' (rm_rely hF2) hF
   u_leave1 H.f_uAdd (rm_rely hF2) hF
   u_op (rm_rely hF2) hF
   u_c stepG_region_end (rm_rely hF2) hF
   u_c stepG_seq (rm_rely hF2) hF
   u_c stepG_seq (rm_rely hF2) hF
   u_reg (rm_rely hF2) hF
   u_op (rm_rely hF2) hF
   u_op (rm_rely hF2) hF
   u_op (rm_rely hF2) hF
   u_op (rm_rely hF2) hF
   u_skip (rm_rely hF2) hF
   u_skip (rm_rely hF2) hF
   u_op (rm_rely hF2) hF
   u_c stepG_region_end (rm_rely hF2) hF
   u_cond false (rm_rely hF2) hF
   u_c stepG_skip (rm_rely hF2) hF
   u_c stepG_seq (rm_rely hF2) hF
   u_reg (rm_rely hF2) hF
   u_op (rm_rely hF2) hF
   u_op (rm_rely hF2) hF
   u_op (rm_rely hF2) hF
   u_op (rm_rely hF2) hF
   u_c stepG_region_end (rm_rely hF2) hF
   u_c stepG_seq (rm_rely hF2) hF
   u_reg (rm_rely hF2) hF
   u_op (rm_rely hF2) hF
   u_op (rm_rely hF2) hF
   u_op (rm_rely hF2) hF
   u_op (rm_rely hF2) hF
   u_c stepG_region_end (rm_rely hF2) hF
   u_c stepG_seq (rm_rely hF2) hF
   u_c stepG_seq (rm_rely hF2) hF
   u_reg (rm_rely hF2) hF
   u_op (rm_rely hF2) hF
   u_op (rm_rely hF2) hF
   u_op (rm_rely hF2) hF
   u_op (rm_rely hF2) hF
   u_op (rm_rely hF2) hF
   u_op (rm_rely hF2) hF
   u_op (rm_rely hF2) hF
   u_op (rm_rely hF2) hF
   u_op (rm_rely hF2) hF
   u_op (rm_rely hF2) hF
   u_c stepG_region_end (rm_rely hF2) hF
   u_cond true (rm_rely hF2) hF
   u_reg (rm_rely hF2) hF
   u_op (rm_rely hF2) hF
   u_op (rm_rely hF2) hF
   u_op (rm_rely hF2) hF
   u_conv H.underlying_tPU32 H.room_tU32 (Go.ConcN.Gen.WgLive.cell1 hF.2).choose_spec (rm_rely hF2) hF
   refine Goes.stop (fun w₃ h₃ => ?_)
   replace hF := rm_rely hF2 hF h₃
   clear h₃
   refine Goes.step rfl (fun w₄ h₄ => ?_)
   replace hF := rm_rely hF2 hF h₄
   clear h₄
   rw [stepG_markAt .read (by simp) rfl rfl (by k_ne) rfl H.f_raceRead (x_raceRead_n L) (x_raceRead_b L) (x_raceRead_x L) (x_raceRead_f L) (ad := ⟨Wg,1,none⟩) (by simp [Act.eval])]
   simp only [goes_go]
   refine ⟨⟨rfl,fun e he => ?_⟩,?_⟩
   · rw [Array.mem_singleton] at he
     subst he
     refine ⟨fun x hx => ?_,by simp,by simp,by simp⟩
     simp only [MemAct.ofEvent,MemAct.touch?,Option.some.injEq] at hx
     subst hx
     exact ⟨⟨_,rfl,rfl⟩,by simp,fun _ => rfl⟩
   walk_nrm
   refine goes_dms ?_
   u_c stepG_region_end (rm_rely hF2) hF
   u_c stepG_seq (rm_rely hF2) hF
   u_c stepG_seq (rm_rely hF2) hF
   u_reg (rm_rely hF2) hF
   u_op (rm_rely hF2) hF
   u_op (rm_rely hF2) hF
   u_c stepG_region_end (rm_rely hF2) hF
   u_cond false (rm_rely hF2) hF
   u_c stepG_skip (rm_rely hF2) hF
   u_c stepG_seq (rm_rely hF2) hF
   u_c stepG_seq (rm_rely hF2) hF
   u_reg (rm_rely hF2) hF
   u_op (rm_rely hF2) hF
   u_op (rm_rely hF2) hF
   u_op (rm_rely hF2) hF
   u_skip (rm_rely hF2) hF
   u_skip (rm_rely hF2) hF
   u_op (rm_rely hF2) hF
   u_op (rm_rely hF2) hF
   u_skip (rm_rely hF2) hF
   u_skip (rm_rely hF2) hF
   u_skip (rm_rely hF2) hF
   u_skip (rm_rely hF2) hF
   u_op (rm_rely hF2) hF
   u_c stepG_region_end (rm_rely hF2) hF
   u_cond false (rm_rely hF2) hF
   u_c stepG_skip (rm_rely hF2) hF
   u_c stepG_seq (rm_rely hF2) hF
   u_c stepG_seq (rm_rely hF2) hF
   u_reg (rm_rely hF2) hF
   u_op (rm_rely hF2) hF
   u_op (rm_rely hF2) hF
   u_op (rm_rely hF2) hF
   u_skip (rm_rely hF2) hF
   u_skip (rm_rely hF2) hF
   u_op (rm_rely hF2) hF
   u_c stepG_region_end (rm_rely hF2) hF
   u_cond true (rm_rely hF2) hF
   u_c stepG_ret' (rm_rely hF2) hF
   refine Goes.stop (fun w₅ h₅ => ?_)
   replace hF := rm_rely hF2 hF h₅
   clear h₅
   refine ⟨rfl,_,stepG_unwind_entry (v := .tuple #[]) (evs := #[mk .enable]) rfl H.f_enable (x_enable_n L) (x_enable_b L) (x_enable_x L) (x_enable_f L) (by simp [Extern.Race.none_]) (by simp [mk]) (by simp [mk]),1,?_⟩
   refine goes_dms ?_
   u_leave0 H.f_add (rm_rely hF2) hF
   exact fun w₁ h₁ => hT w₁ (rm_rely hF2 hF h₁).1 (rm_rely hF2 hF h₁).2
 · obtain ⟨V,hV⟩ : ∃ V : Int,V = (v : Int) + 1 := ⟨_,rfl⟩
   obtain ⟨S,hS⟩ : ∃ S : Int,S = V * KK := ⟨_,rfl⟩
   have eS : IntKind.u64.wrap ((v : Int) * KK + 4294967296) = S := by rw [IntKind.wrap_u64,hS,hV]; simp only [KK]; omega
   rw [<- hV,<- hS]
   have a1 : S / 4294967296 = V := by rw [hS]; simp only [KK]; omega
   have b1 : bits .and .u64 S 2147483648 = 0 := by rw [hS,hV]; have := st_flag (v + 1) 0 (by omega) (by omega); simpa [KK] using this
   have b2 : bits .and .u64 S 2147483647 = 0 := by rw [hS,hV]; have := st_waiters (v + 1) 0 (by omega) (by omega); simpa [KK] using this
   have c1 : IntKind.i32.wrap V = V := by rw [IntKind.wrap_i32]; omega
   have hV1 : 1 < V := by omega
   have hV2 : V < 2147483648 := by omega
   have q1 : (V == 1) = false := by simp; omega
   have q2 : decide (V = 1) = false := decide_eq_false (by omega)
   have q3 : decide (V < 0) = false := decide_eq_false (by omega)
   have q4 : decide (0 < V) = true := decide_eq_true (by omega)
   have q5 : (V == 0) = false := by simp; omega
   have q6 : decide (V = 0) = false := decide_eq_false (by omega)
   refine ⟨_,(stepG_add_atomic rfl rfl (by k_ne) rfl H.f_addU64 (x_addU64_n L) (x_addU64_b L) (x_addU64_x L) .u64 (x_addU64_f L) rfl rfl hw.cellSt (hw.thaw 0)).trans (by rw [eS]; rfl),200,?_⟩
   replace hF := hset S
   clear hw hset hS hV eS
   walk_nrm
   refine goes_dms ?_
   u_op (rm_rely hF2) hF
   u_c stepG_region_end (rm_rely hF2) hF
   u_c stepG_ret' (rm_rely hF2) hF
   u_leave1 H.f_uAdd (rm_rely hF2) hF
   u_op (rm_rely hF2) hF
   u_c stepG_region_end (rm_rely hF2) hF
   u_c stepG_seq (rm_rely hF2) hF
   u_c stepG_seq (rm_rely hF2) hF
   u_reg (rm_rely hF2) hF
   u_op (rm_rely hF2) hF
   u_op (rm_rely hF2) hF
   u_op (rm_rely hF2) hF
   u_op (rm_rely hF2) hF
   u_skip (rm_rely hF2) hF
   u_skip (rm_rely hF2) hF
   u_op (rm_rely hF2) hF
   u_c stepG_region_end (rm_rely hF2) hF
   u_cond false (rm_rely hF2) hF
   u_c stepG_skip (rm_rely hF2) hF
   u_c stepG_seq (rm_rely hF2) hF
   u_reg (rm_rely hF2) hF
   u_op (rm_rely hF2) hF
   u_op (rm_rely hF2) hF
   u_op (rm_rely hF2) hF
   u_op (rm_rely hF2) hF
   u_c stepG_region_end (rm_rely hF2) hF
   u_c stepG_seq (rm_rely hF2) hF
   u_reg (rm_rely hF2) hF
   u_op (rm_rely hF2) hF
   u_op (rm_rely hF2) hF
   u_op (rm_rely hF2) hF
   u_op (rm_rely hF2) hF
   u_c stepG_region_end (rm_rely hF2) hF
   u_c stepG_seq (rm_rely hF2) hF
   u_c stepG_seq (rm_rely hF2) hF
   u_reg (rm_rely hF2) hF
   u_op (rm_rely hF2) hF
   u_op (rm_rely hF2) hF
   u_op (rm_rely hF2) hF
   u_op (rm_rely hF2) hF
   u_op (rm_rely hF2) hF
   u_op (rm_rely hF2) hF
   u_op (rm_rely hF2) hF
   u_op (rm_rely hF2) hF
   u_op (rm_rely hF2) hF
   u_op (rm_rely hF2) hF
   u_c stepG_region_end (rm_rely hF2) hF
   u_cond false (rm_rely hF2) hF
   u_c stepG_skip (rm_rely hF2) hF
   u_c stepG_seq (rm_rely hF2) hF
   u_c stepG_seq (rm_rely hF2) hF
   u_reg (rm_rely hF2) hF
   u_op (rm_rely hF2) hF
   u_op (rm_rely hF2) hF
   u_c stepG_region_end (rm_rely hF2) hF
   u_cond false (rm_rely hF2) hF
   u_c stepG_skip (rm_rely hF2) hF
   u_c stepG_seq (rm_rely hF2) hF
   u_c stepG_seq (rm_rely hF2) hF
   u_reg (rm_rely hF2) hF
   u_op (rm_rely hF2) hF
   u_op (rm_rely hF2) hF
   u_op (rm_rely hF2) hF
   u_skip (rm_rely hF2) hF
   u_skip (rm_rely hF2) hF
   u_op (rm_rely hF2) hF
   u_op (rm_rely hF2) hF
   u_skip (rm_rely hF2) hF
   u_skip (rm_rely hF2) hF
   u_skip (rm_rely hF2) hF
   u_skip (rm_rely hF2) hF
   u_op (rm_rely hF2) hF
   u_c stepG_region_end (rm_rely hF2) hF
   u_cond false (rm_rely hF2) hF
   u_c stepG_skip (rm_rely hF2) hF
   u_c stepG_seq (rm_rely hF2) hF
   u_c stepG_seq (rm_rely hF2) hF
   u_reg (rm_rely hF2) hF
   u_op (rm_rely hF2) hF
   u_op (rm_rely hF2) hF
   u_op (rm_rely hF2) hF
   u_skip (rm_rely hF2) hF
   u_skip (rm_rely hF2) hF
   u_op (rm_rely hF2) hF
   u_c stepG_region_end (rm_rely hF2) hF
   u_cond true (rm_rely hF2) hF
   u_c stepG_ret' (rm_rely hF2) hF
   refine Goes.stop (fun w₅ h₅ => ?_)
   replace hF := rm_rely hF2 hF h₅
   clear h₅
   refine ⟨rfl,_,stepG_unwind_entry (v := .tuple #[]) (evs := #[mk .enable]) rfl H.f_enable (x_enable_n L) (x_enable_b L) (x_enable_x L) (x_enable_f L) (by simp [Extern.Race.none_]) (by simp [mk]) (by simp [mk]),1,?_⟩
   refine goes_dms ?_
   u_leave0 H.f_add (rm_rely hF2) hF
   exact fun w₁ h₁ => hT w₁ (rm_rely hF2 hF h₁).1 (rm_rely hF2 hF h₁).2
end Go.Proofs.YtckoipoejaafhaaDoor.Cc
