/-
 Texts that stood one behind the other,as one.
-/
import Derived.Test.YtckoipoejaafhaaDoorCcXAll
import Derived.Test.YtckoipoejaafhaaDoorProg
import Derived.Test.YtckoipoejaafhaaDoorCdDAll
import Derived.OrdersHeld
import Derived.WalkKit
import Derived.Deep.RegionHeld
import Derived.Test.YtckoipoejaafhaaDoorRows
import Derived.WalkSpells
import Derived.WalkLawsBesides
import Derived.Conc.Holds
import Derived.Handed
import Derived.SevenTiedAt
namespace Go.Proofs.YtckoipoejaafhaaDoor.Cc
open Go Go.Conc Go.RowKit Go.Conc.Lib Go.ConcR.Gen
open Go.ConcN (WgLive)
open Go.ConcN (st_flag st_waiters)
open Go.ConcR (KK WgAt stA smA rd wr mk Payload DC0)
variable {L : WgLink}
theorem rm_rely0 {ty : TypeId} {Wg : Nat} {Sh Ow : Nat -> Prop} {w w₁ : World} (h : True /\ WgLive ty Wg w) (r : RM ty Wg Sh Ow w w₁) : True /\ WgLive ty Wg w₁ := ⟨trivial,r.live h.2⟩
def AnW (L : WgLink) (Wg : Nat) (c : Frame) (cs : List Frame) (g : Goroutine) : Prop :=
 ∃ T : Array Value,g = G ((base L.wait).at ⟨T,[]⟩ [.code (Go.ConcR.Gen.L7 L),.inLoop (Go.ConcR.Gen.L7 L),.inBlock 0]) (c :: cs) /\ T.size = 84 /\ T[0]? = some (.pointer (some ⟨Wg,0,none⟩))
def KnW (P : Program) (L : WgLink) (Wg : Nat) (gR g : Goroutine) : Prop :=
 ∃ m,∀ w,WgLive L.tWg Wg w -> Goes P true (RM L.tWg Wg (fun _ => False) (fun _ => False)) DC0 (fun g' _ => g' = gR) m g w
section
variable {b₀ : Frame} {a₀ : Act} {ops₀ : Array Oper} {i₀ : Nat} {rest₀ : List Nat} {k₀ : List Item} {cs : List Frame} {Sh Ow : Nat -> Prop} {Wg : Nat}
theorem AnW.running {c : Frame} {g : Goroutine} (h : AnW L Wg c cs g) : g.status = .running := by
 obtain ⟨T,rfl,_⟩ := h
 rfl
set_option maxRecDepth 100000 in
set_option maxHeartbeats 8000000 in
theorem wait_in {P : Program} (H : WgLib P L) (w : World) (hF : True /\ WgLive L.tWg Wg w) :
   Gm P L.tWg Wg Sh Ow (fun g w => g.status = .running /\ ∃ g',stepG P true g w = .go g' w #[mk .disable] /\ ∃ m,Gm P L.tWg Wg Sh Ow (fun g _ => AnW L Wg (b₀.at a₀ (.inRegion ops₀ (i₀ :: rest₀) :: k₀)) cs g) m g' w) 3
     (G ((base L.wait).at ⟨#[.pointer (some ⟨Wg,0,none⟩),undef,undef,undef,undef,undef,undef,undef,undef,undef,undef,undef,undef,undef,undef,undef,undef,undef,undef,undef,undef,undef,undef,undef,undef,undef,undef,undef,undef,undef,undef,undef,undef,undef,undef,undef,undef,undef,undef,undef,undef,undef,undef,undef,undef,undef,undef,undef,undef,undef,undef,undef,undef,undef,undef,undef,undef,undef,undef,undef,undef,undef,undef,undef,undef,undef,undef,undef,undef,undef,undef,undef,undef,undef,undef,undef,undef,undef,undef,undef,undef,undef,undef,undef],[]⟩ [.code (body_wait L)]) (b₀.at a₀ (.inRegion ops₀ (i₀ :: rest₀) :: k₀) :: cs)) w := by
 lib_facts
 refine goes_dms ?_
 simp only [body_wait,waitFn,Option.getD_some]
 u_c stepG_seq rm_rely0 hF
 u_cond true rm_rely0 hF
 u_reg rm_rely0 hF
 refine Goes.stop (fun w₁ h₁ => ?_)
 replace hF := rm_rely0 hF h₁
 clear h₁
 refine ⟨rfl,_,stepG_mark0 .disable (by simp) rfl rfl (by k_ne) rfl H.f_disable (x_disable_n L) (x_disable_b L) (x_disable_x L) (x_disable_f L),3,?_⟩
 walk_nrm
 refine goes_dms ?_
 u_c stepG_region_end rm_rely0 hF
 u_c stepG_block rm_rely0 hF
 u_c stepG_loop rm_rely0 hF
 exact Goes.stop (fun w₂ h₂ => ⟨_,rfl,by simp,by simp⟩)
set_option maxRecDepth 100000 in
set_option maxHeartbeats 8000000 in
theorem wait_round {P : Program} (H : WgLib P L) (g : Goroutine) (hg : AnW L Wg (b₀.at a₀ (.inRegion ops₀ (i₀ :: rest₀) :: k₀)) cs g) (w : World) (hF : True /\ WgLive L.tWg Wg w) :
   ∃ m,Gm P L.tWg Wg Sh Ow (MW1 P L.tWg Wg Sh Ow (AnW L Wg (b₀.at a₀ (.inRegion ops₀ (i₀ :: rest₀) :: k₀)) cs) (KnW P L Wg (G (b₀.at (a₀.put ((ops₀[i₀]?).bind (·.dst)) (.tuple #[])) (.inRegion ops₀ rest₀ :: k₀)) cs))) m g w := by
 lib_facts
 obtain ⟨T,rfl,hT84,t0⟩ := hg
 obtain ⟨v0,v1,v2,v3,v4,v5,v6,v7,v8,v9,v10,v11,v12,v13,v14,v15,v16,v17,v18,v19,v20,v21,v22,v23,v24,v25,v26,v27,v28,v29,v30,v31,v32,v33,v34,v35,v36,v37,v38,v39,v40,v41,v42,v43,v44,v45,v46,v47,v48,v49,v50,v51,v52,v53,v54,v55,v56,v57,v58,v59,v60,v61,v62,v63,v64,v65,v66,v67,v68,v69,v70,v71,v72,v73,v74,v75,v76,v77,v78,v79,v80,v81,v82,v83,rfl⟩ := array84 T hT84
 simp only [List.getElem?_toArray,List.getElem?_cons_zero,Option.some.injEq] at t0
 subst t0
 refine ⟨30,?_⟩
 refine goes_dms ?_
 simp only [Go.ConcR.Gen.L7,body_wait,waitFn,Option.getD_some]
 u_c stepG_block rm_rely0 hF
 u_c stepG_seq rm_rely0 hF
 u_reg rm_rely0 hF
 u_op rm_rely0 hF
 u_op rm_rely0 hF
 u_op rm_rely0 hF
 u_call H.f_uLoad (nm_uLoad L) uLoadFn rm_rely0 hF
 u_c stepG_seq rm_rely0 hF
 u_reg rm_rely0 hF
 u_op rm_rely0 hF
 u_c stepG_region_end rm_rely0 hF
 u_c stepG_seq rm_rely0 hF
 u_reg rm_rely0 hF
 u_op rm_rely0 hF
 u_op rm_rely0 hF
 u_op rm_rely0 hF
 refine Goes.stop (fun w₁ h₁ => ?_)
 replace hF := rm_rely0 hF h₁
 clear h₁
 refine ⟨rfl,fun v hv hw => ?_⟩
 rcases Nat.eq_zero_or_pos v with rfl | hvp
 · replace hw : WgAt L.tWg Wg w₁ 0 0 := by simpa using hw
   refine ⟨_,stepG_load_atomic (v := 0) rfl rfl (by k_ne) rfl H.f_loadU64 (x_loadU64_n L) (x_loadU64_b L) (x_loadU64_x L) .u64 (x_loadU64_f L) rfl hw.cellSt,fun _ => ⟨60,?_⟩,fun h => absurd rfl h⟩
   clear hw
   walk_nrm
   refine goes_dms ?_
   u_op rm_rely0 hF
   u_c stepG_region_end rm_rely0 hF
   u_c stepG_ret' rm_rely0 hF
   u_leave1 H.f_uLoad rm_rely0 hF
   u_op rm_rely0 hF
   u_c stepG_region_end rm_rely0 hF
   u_c stepG_seq rm_rely0 hF
   u_reg rm_rely0 hF
   u_op rm_rely0 hF
   u_op rm_rely0 hF
   u_op rm_rely0 hF
   u_op rm_rely0 hF
   u_c stepG_region_end rm_rely0 hF
   u_c stepG_seq rm_rely0 hF
   u_reg rm_rely0 hF
   u_op rm_rely0 hF
   u_op rm_rely0 hF
   u_op rm_rely0 hF
   u_op rm_rely0 hF
   u_c stepG_region_end rm_rely0 hF
   u_c stepG_seq rm_rely0 hF
   u_c stepG_seq rm_rely0 hF
   u_reg rm_rely0 hF
   u_op rm_rely0 hF
   u_op rm_rely0 hF
   u_c stepG_region_end rm_rely0 hF
   u_cond true rm_rely0 hF
   u_c stepG_seq rm_rely0 hF
   u_cond true rm_rely0 hF
   u_c stepG_seq rm_rely0 hF
   u_reg rm_rely0 hF
   refine Goes.stop (fun w₅ h₅ => ?_)
   replace hF := rm_rely0 hF h₅
   clear h₅
   refine ⟨rfl,_,stepG_mark0 .enable (by simp) rfl rfl (by k_ne) rfl H.f_enable (x_enable_n L) (x_enable_b L) (x_enable_x L) (x_enable_f L),12,?_⟩
   walk_nrm
   refine goes_dms ?_
   u_c stepG_region_end rm_rely0 hF
   u_reg rm_rely0 hF
   u_op rm_rely0 hF
   u_conv H.underlying_tWgP H.room_tWg (Go.ConcN.Gen.WgLive.cell0 hF.2).choose_spec rm_rely0 hF
   refine Goes.stop (fun w₆ h₆ => ?_)
   clear h₆
   refine ⟨rfl,_,stepG_markAt .acquire (by simp) rfl rfl (by k_ne) rfl H.f_acquire (x_acquire_n L) (x_acquire_b L) (x_acquire_x L) (x_acquire_f L) (by simp [Act.eval,stA]),60,fun w₇ hl₇ => ?_⟩
   replace hF : True /\ WgLive L.tWg Wg w₇ := ⟨trivial,hl₇⟩
   clear hl₇
   walk_nrm
   u_c stepG_region_end rm_rely0 hF
   u_c stepG_seq rm_rely0 hF
   u_c stepG_seq rm_rely0 hF
   u_reg rm_rely0 hF
   u_op rm_rely0 hF
   u_op rm_rely0 hF
   u_op rm_rely0 hF
   u_op rm_rely0 hF
   u_op rm_rely0 hF
   u_op rm_rely0 hF
   u_op rm_rely0 hF
   u_op rm_rely0 hF
   u_skip rm_rely0 hF
   u_skip rm_rely0 hF
   u_op rm_rely0 hF
   u_c stepG_region_end rm_rely0 hF
   u_cond false rm_rely0 hF
   u_c stepG_skip rm_rely0 hF
   u_c stepG_ret' rm_rely0 hF
   u_leave0 H.f_wait rm_rely0 hF
   exact Goes.stop (fun _ _ => rfl)
 · obtain ⟨S,hS⟩ : ∃ S : Int,(v : Int) * KK = S := ⟨_,rfl⟩
   have a1 : S / 4294967296 = (v : Int) := by rw [<- hS]; simp only [KK]; omega
   have b1 : bits .and .u64 S 2147483648 = 0 := by rw [<- hS]; have := st_flag v 0 (by omega) (by omega); simpa [KK] using this
   have b2 : bits .and .u64 S 2147483647 = 0 := by rw [<- hS]; have := st_waiters v 0 (by omega) (by omega); simpa [KK] using this
   have c1 : IntKind.i32.wrap (v : Int) = (v : Int) := by rw [IntKind.wrap_i32]; omega
   have w1 : IntKind.u64.wrap (S + 1) = S + 1 := by rw [IntKind.wrap_u64,<- hS]; simp only [KK]; omega
   have q3 : decide ((v : Int) < 0) = false := decide_eq_false (by omega)
   have q4 : decide (0 < (v : Int)) = true := decide_eq_true (by omega)
   have q5 : ((v : Int) == 0) = false := by simp; omega
   have q6 : decide ((v : Int) = 0) = false := decide_eq_false (by omega)
   rw [hS] at hw
   refine ⟨_,stepG_load_atomic (v := S) rfl rfl (by k_ne) rfl H.f_loadU64 (x_loadU64_n L) (x_loadU64_b L) (x_loadU64_x L) .u64 (x_loadU64_f L) rfl hw.cellSt,fun h0 => absurd h0 (by omega),fun _ => ⟨60,?_⟩⟩
   clear hw
   walk_nrm
   refine goes_dms ?_
   u_op rm_rely0 hF
   u_c stepG_region_end rm_rely0 hF
   u_c stepG_ret' rm_rely0 hF
   u_leave1 H.f_uLoad rm_rely0 hF
   u_op rm_rely0 hF
   u_c stepG_region_end rm_rely0 hF
   u_c stepG_seq rm_rely0 hF
   u_reg rm_rely0 hF
   u_op rm_rely0 hF
   u_op rm_rely0 hF
   u_op rm_rely0 hF
   u_op rm_rely0 hF
   u_c stepG_region_end rm_rely0 hF
   u_c stepG_seq rm_rely0 hF
   u_reg rm_rely0 hF
   u_op rm_rely0 hF
   u_op rm_rely0 hF
   u_op rm_rely0 hF
   u_op rm_rely0 hF
   u_c stepG_region_end rm_rely0 hF
   u_c stepG_seq rm_rely0 hF
   u_c stepG_seq rm_rely0 hF
   u_reg rm_rely0 hF
   u_op rm_rely0 hF
   u_op rm_rely0 hF
   u_c stepG_region_end rm_rely0 hF
   u_cond false rm_rely0 hF
   u_c stepG_skip rm_rely0 hF
   u_c stepG_seq rm_rely0 hF
   u_reg rm_rely0 hF
   u_op rm_rely0 hF
   u_op rm_rely0 hF
   u_op rm_rely0 hF
   u_op rm_rely0 hF
   u_op rm_rely0 hF
   u_op rm_rely0 hF
   u_call H.f_uCas (nm_uCas L) uCasFn rm_rely0 hF
   u_c stepG_seq rm_rely0 hF
   u_reg rm_rely0 hF
   u_op rm_rely0 hF
   u_c stepG_region_end rm_rely0 hF
   u_c stepG_seq rm_rely0 hF
   u_reg rm_rely0 hF
   u_op rm_rely0 hF
   u_op rm_rely0 hF
   u_op rm_rely0 hF
   u_op rm_rely0 hF
   u_op rm_rely0 hF
   refine Goes.stop (fun w₂ h₂ => ?_)
   replace hF := rm_rely0 hF h₂
   clear h₂
   refine ⟨rfl,fun v' hv' hw => ⟨fun e => ?_,fun e => ?_⟩⟩
   · subst e
     rw [hS] at hw ⊢
     refine ⟨_,(stepG_cas_hit (v := S) (n := S + 1) rfl rfl (by k_ne) rfl H.f_casU64 (x_casU64_n L) (x_casU64_b L) (x_casU64_x L) .u64 (x_casU64_f L) rfl rfl rfl hw.cellSt (hw.thaw 0)).trans (by rfl),200 + 100,?_⟩
     replace hF : True /\ WgLive L.tWg Wg (w₂.setCell (stA Wg) (.int .u64 (S + 1))) := ⟨trivial,_,_,hw.setSt _⟩
     clear hw
     walk_nrm
     refine goes_then (k := 200) (fun w => ⟨Kept.refl _ _ w,id⟩) (St := fun g w => Goes P true (RM L.tWg Wg Sh Ow) (DMs Wg) (MW3 P L.tWg Wg Sh Ow (KnW P L Wg (G (b₀.at (a₀.put ((ops₀[i₀]?).bind (·.dst)) (.tuple #[])) (.inRegion ops₀ rest₀ :: k₀)) cs))) 200 g w) (fun _ _ h => h) (goes_dms (n := 100) ?_)
     u_op rm_rely0 hF
     u_c stepG_region_end rm_rely0 hF
     u_c stepG_ret' rm_rely0 hF
     u_leave1 H.f_uCas rm_rely0 hF
     u_c stepG_region_end rm_rely0 hF
     u_cond true rm_rely0 hF
     u_c stepG_seq rm_rely0 hF
     u_c stepG_seq rm_rely0 hF
     u_reg rm_rely0 hF
     u_op rm_rely0 hF
     u_op rm_rely0 hF
     u_op rm_rely0 hF
     u_op rm_rely0 hF
     u_c stepG_region_end rm_rely0 hF
     u_cond true rm_rely0 hF
     u_reg rm_rely0 hF
     u_op rm_rely0 hF
     u_op rm_rely0 hF
     u_op rm_rely0 hF
     u_conv H.underlying_tPU32 H.room_tU32 (Go.ConcN.Gen.WgLive.cell1 hF.2).choose_spec rm_rely0 hF
     refine Goes.stop (fun w₃ h₃ => ?_)
     replace hF := rm_rely0 hF h₃
     clear h₃
     refine Goes.step rfl (fun w₄ h₄ => ?_)
     replace hF := rm_rely0 hF h₄
     clear h₄
     rw [stepG_markAt .write (by simp) rfl rfl (by k_ne) rfl H.f_raceWrite (x_raceWrite_n L) (x_raceWrite_b L) (x_raceWrite_x L) (x_raceWrite_f L) (ad := ⟨Wg,1,none⟩) (by simp [Act.eval])]
     simp only [goes_go]
     refine ⟨⟨rfl,fun e he => ?_⟩,?_⟩
     · rw [Array.mem_singleton] at he
       subst he
       refine ⟨fun x hx => ?_,by simp,by simp,by simp⟩
       simp only [MemAct.ofEvent,MemAct.touch?,Option.some.injEq] at hx
       subst hx
       exact ⟨⟨_,rfl,rfl⟩,by simp,fun _ => rfl⟩
     walk_nrm
     refine goes_dms ?_
     u_c stepG_region_end rm_rely0 hF
     u_c stepG_seq rm_rely0 hF
     u_reg rm_rely0 hF
     u_op rm_rely0 hF
     u_c stepG_region_end rm_rely0 hF
     u_c stepG_seq rm_rely0 hF
     u_c stepG_seq rm_rely0 hF
     u_reg rm_rely0 hF
     u_op rm_rely0 hF
     u_op rm_rely0 hF
     u_op rm_rely0 hF
     u_op rm_rely0 hF
     u_skip rm_rely0 hF
     u_op rm_rely0 hF
     u_c stepG_region_end rm_rely0 hF
     u_cond false rm_rely0 hF
     u_c stepG_skip rm_rely0 hF
     u_c stepG_seq rm_rely0 hF
     u_reg rm_rely0 hF
     u_op rm_rely0 hF
     u_op rm_rely0 hF
     u_op rm_rely0 hF
     u_op rm_rely0 hF
     refine Goes.stop (fun w₃ h₃ => ?_)
     replace hF := rm_rely0 hF h₃
     clear h₃
     refine ⟨rfl,rfl,fun ⟨st,hw⟩ => stepG_semacquire_wait rfl rfl rfl H.f_semacquire (x_semacquire_n L) (x_semacquire_b L) (x_semacquire_x L) (x_semacquire_f L) (by simp [Act.eval,smA]) hw.cellSm,fun hf => ?_⟩
     refine ⟨_,(stepG_semacquire (n := 1) rfl rfl (by k_ne) rfl H.f_semacquire (x_semacquire_n L) (x_semacquire_b L) (x_semacquire_x L) (x_semacquire_f L) (by simp [Act.eval,smA]) hf.cellSm (by k_ne) (hf.thaw 1)).trans (by rfl),60,?_⟩
     replace hF : True /\ WgLive L.tWg Wg (w₃.setCell (smA Wg) (.int .u32 0)) := ⟨trivial,_,_,hf.setSm 0⟩
     clear hf
     walk_nrm
     refine goes_dms ?_
     u_c stepG_region_end rm_rely0 hF
     u_c stepG_seq rm_rely0 hF
     u_reg rm_rely0 hF
     u_op rm_rely0 hF
     u_op rm_rely0 hF
     u_op rm_rely0 hF
     u_call H.f_uLoad (nm_uLoad L) uLoadFn rm_rely0 hF
     u_c stepG_seq rm_rely0 hF
     u_reg rm_rely0 hF
     u_op rm_rely0 hF
     u_c stepG_region_end rm_rely0 hF
     u_c stepG_seq rm_rely0 hF
     u_reg rm_rely0 hF
     u_op rm_rely0 hF
     u_op rm_rely0 hF
     u_op rm_rely0 hF
     refine Goes.stop (fun w₄ h₄ => ?_)
     replace hF := rm_rely0 hF h₄
     clear h₄
     refine ⟨rfl,fun hw => ⟨_,stepG_load_atomic (v := 0) rfl rfl (by k_ne) rfl H.f_loadU64 (x_loadU64_n L) (x_loadU64_b L) (x_loadU64_x L) .u64 (x_loadU64_f L) rfl hw.cellSt,60,?_⟩⟩
     clear hw
     walk_nrm
     refine goes_dms ?_
     u_op rm_rely0 hF
     u_c stepG_region_end rm_rely0 hF
     u_c stepG_ret' rm_rely0 hF
     u_leave1 H.f_uLoad rm_rely0 hF
     u_op rm_rely0 hF
     u_op rm_rely0 hF
     u_c stepG_region_end rm_rely0 hF
     u_c stepG_seq rm_rely0 hF
     u_cond true rm_rely0 hF
     u_c stepG_seq rm_rely0 hF
     u_reg rm_rely0 hF
     refine Goes.stop (fun w₅ h₅ => ?_)
     replace hF := rm_rely0 hF h₅
     clear h₅
     refine ⟨rfl,_,stepG_mark0 .enable (by simp) rfl rfl (by k_ne) rfl H.f_enable (x_enable_n L) (x_enable_b L) (x_enable_x L) (x_enable_f L),12,?_⟩
     walk_nrm
     refine goes_dms ?_
     u_c stepG_region_end rm_rely0 hF
     u_reg rm_rely0 hF
     u_op rm_rely0 hF
     u_conv H.underlying_tWgP H.room_tWg (Go.ConcN.Gen.WgLive.cell0 hF.2).choose_spec rm_rely0 hF
     refine Goes.stop (fun w₆ h₆ => ?_)
     clear h₆
     refine ⟨rfl,_,stepG_markAt .acquire (by simp) rfl rfl (by k_ne) rfl H.f_acquire (x_acquire_n L) (x_acquire_b L) (x_acquire_x L) (x_acquire_f L) (by simp [Act.eval,stA]),60,fun w₇ hl₇ => ?_⟩
     replace hF : True /\ WgLive L.tWg Wg w₇ := ⟨trivial,hl₇⟩
     clear hl₇
     walk_nrm
     u_c stepG_region_end rm_rely0 hF
     u_c stepG_seq rm_rely0 hF
     u_c stepG_seq rm_rely0 hF
     u_reg rm_rely0 hF
     u_op rm_rely0 hF
     u_c stepG_region_end rm_rely0 hF
     u_cond false rm_rely0 hF
     u_c stepG_skip rm_rely0 hF
     u_c stepG_ret' rm_rely0 hF
     u_leave0 H.f_wait rm_rely0 hF
     exact Goes.stop (fun _ _ => rfl)
   · refine ⟨_,stepG_cas_miss (v := (v' : Int) * KK) (old := S) (n := S + 1) rfl rfl (by k_ne) rfl H.f_casU64 (x_casU64_n L) (x_casU64_b L) (x_casU64_x L) .u64 (x_casU64_f L) rfl rfl rfl hw.cellSt (hw.thaw 0) (by rw [<- hS]; simp only [KK]; omega),20,?_⟩
     clear hw
     walk_nrm
     refine goes_dms ?_
     u_op rm_rely0 hF
     u_c stepG_region_end rm_rely0 hF
     u_c stepG_ret' rm_rely0 hF
     u_leave1 H.f_uCas rm_rely0 hF
     u_c stepG_region_end rm_rely0 hF
     u_cond false rm_rely0 hF
     u_c stepG_skip rm_rely0 hF
     u_c stepG_inBlock rm_rely0 hF
     u_c stepG_inLoop rm_rely0 hF
     exact Goes.stop (fun w₃ h₃ => ⟨_,rfl,by simp,by simp⟩)
end
end Go.Proofs.YtckoipoejaafhaaDoor.Cc

namespace Go.Proofs.YtckoipoejaafhaaDoor.Cc
open Go
def tFns : Fs := ⟨[9,11,14,16,17,18,19,20,21,22,23,28,29,30,31,32,33,34,36,38,39,40,41,42,43,44,45,46,47,48,49,50,51,52,53,61,62,63,64,65,66,67,68,69,70,71,72,76,81,83,84,85,86,87,88,89,90,91,92,93,101,102,103,108,122,128,129,130,131,132,133,134,135,139,140,143,148,150,151,152,158,159,160,164,165,166,167],[(93,9),(93,55),(148,7),(148,62)]⟩
theorem tAll : FnsAll Tryd.prog tFns := ⟨fun f hf => by
 have hm : f ∈ tFns.l := List.contains_iff_mem.1 hf
 simp only [tFns,List.mem_cons,List.not_mem_nil,or_false] at hm
 rcases hm with rfl | rfl | rfl | rfl | rfl | rfl | rfl | rfl | rfl | rfl | rfl | rfl | rfl | rfl | rfl | rfl | rfl | rfl | rfl | rfl | rfl | rfl | rfl | rfl | rfl | rfl | rfl | rfl | rfl | rfl | rfl | rfl | rfl | rfl | rfl | rfl | rfl | rfl | rfl | rfl | rfl | rfl | rfl | rfl | rfl | rfl | rfl | rfl | rfl | rfl | rfl | rfl | rfl | rfl | rfl | rfl | rfl | rfl | rfl | rfl | rfl | rfl | rfl | rfl | rfl | rfl | rfl | rfl | rfl | rfl | rfl | rfl | rfl | rfl | rfl | rfl | rfl | rfl | rfl | rfl | rfl | rfl | rfl | rfl | rfl | rfl | rfl
 · exact ⟨_,_,Tryd.func9,rfl,by kernel_rfl,by kernel_rfl⟩
 · exact ⟨_,_,Tryd.func11,rfl,by kernel_rfl,by kernel_rfl⟩
 · exact ⟨_,_,Tryd.func14,rfl,by kernel_rfl,by kernel_rfl⟩
 · exact ⟨_,_,Tryd.func16,rfl,by kernel_rfl,by kernel_rfl⟩
 · exact ⟨_,_,Tryd.func17,rfl,by kernel_rfl,by kernel_rfl⟩
 · exact ⟨_,_,Tryd.func18,rfl,by kernel_rfl,by kernel_rfl⟩
 · exact ⟨_,_,Tryd.func19,rfl,by kernel_rfl,by kernel_rfl⟩
 · exact ⟨_,_,Tryd.func20,rfl,by kernel_rfl,by kernel_rfl⟩
 · exact ⟨_,_,Tryd.func21,rfl,by kernel_rfl,by kernel_rfl⟩
 · exact ⟨_,_,Tryd.func22,rfl,by kernel_rfl,by kernel_rfl⟩
 · exact ⟨_,_,Tryd.func23,rfl,by kernel_rfl,by kernel_rfl⟩
 · exact ⟨_,_,Tryd.func28,rfl,by kernel_rfl,by kernel_rfl⟩
 · exact ⟨_,_,Tryd.func29,rfl,by kernel_rfl,by kernel_rfl⟩
 · exact ⟨_,_,Tryd.func30,rfl,by kernel_rfl,by kernel_rfl⟩
 · exact ⟨_,_,Tryd.func31,rfl,by kernel_rfl,by kernel_rfl⟩
 · exact ⟨_,_,Tryd.func32,rfl,by kernel_rfl,by kernel_rfl⟩
 · exact ⟨_,_,Tryd.func33,rfl,by kernel_rfl,by kernel_rfl⟩
 · exact ⟨_,_,Tryd.func34,rfl,by kernel_rfl,by kernel_rfl⟩
 · exact ⟨_,_,Tryd.func36,rfl,by kernel_rfl,by kernel_rfl⟩
 · exact ⟨_,_,Tryd.func38,rfl,by kernel_rfl,by kernel_rfl⟩
 · exact ⟨_,_,Tryd.func39,rfl,by kernel_rfl,by kernel_rfl⟩
 · exact ⟨_,_,Tryd.func40,rfl,by kernel_rfl,by kernel_rfl⟩
 · exact ⟨_,_,Tryd.func41,rfl,by kernel_rfl,by kernel_rfl⟩
 · exact ⟨_,_,Tryd.func42,rfl,by kernel_rfl,by kernel_rfl⟩
 · exact ⟨_,_,Tryd.func43,rfl,by kernel_rfl,by kernel_rfl⟩
 · exact ⟨_,_,Tryd.func44,rfl,by kernel_rfl,by kernel_rfl⟩
 · exact ⟨_,_,Tryd.func45,rfl,by kernel_rfl,by kernel_rfl⟩
 · exact ⟨_,_,Tryd.func46,rfl,by kernel_rfl,by kernel_rfl⟩
 · exact ⟨_,_,Tryd.func47,rfl,by kernel_rfl,by kernel_rfl⟩
 · exact ⟨_,_,Tryd.func48,rfl,by kernel_rfl,by kernel_rfl⟩
 · exact ⟨_,_,Tryd.func49,rfl,by kernel_rfl,by kernel_rfl⟩
 · exact ⟨_,_,Tryd.func50,rfl,by kernel_rfl,by kernel_rfl⟩
 · exact ⟨_,_,Tryd.func51,rfl,by kernel_rfl,by kernel_rfl⟩
 · exact ⟨_,_,Tryd.func52,rfl,by kernel_rfl,by kernel_rfl⟩
 · exact ⟨_,_,Tryd.func53,rfl,by kernel_rfl,by kernel_rfl⟩
 · exact ⟨_,_,Tryd.func61,rfl,by kernel_rfl,by kernel_rfl⟩
 · exact ⟨_,_,Tryd.func62,rfl,by kernel_rfl,by kernel_rfl⟩
 · exact ⟨_,_,Tryd.func63,rfl,by kernel_rfl,by kernel_rfl⟩
 · exact ⟨_,_,Tryd.func64,rfl,by kernel_rfl,by kernel_rfl⟩
 · exact ⟨_,_,Tryd.func65,rfl,by kernel_rfl,by kernel_rfl⟩
 · exact ⟨_,_,Tryd.func66,rfl,by kernel_rfl,by kernel_rfl⟩
 · exact ⟨_,_,Tryd.func67,rfl,by kernel_rfl,by kernel_rfl⟩
 · exact ⟨_,_,Tryd.func68,rfl,by kernel_rfl,by kernel_rfl⟩
 · exact ⟨_,_,Tryd.func69,rfl,by kernel_rfl,by kernel_rfl⟩
 · exact ⟨_,_,Tryd.func70,rfl,by kernel_rfl,by kernel_rfl⟩
 · exact ⟨_,_,Tryd.func71,rfl,by kernel_rfl,by kernel_rfl⟩
 · exact ⟨_,_,Tryd.func72,rfl,by kernel_rfl,by kernel_rfl⟩
 · exact ⟨_,_,Tryd.func76,rfl,by kernel_rfl,by kernel_rfl⟩
 · exact ⟨_,_,Tryd.func81,rfl,by kernel_rfl,by kernel_rfl⟩
 · exact ⟨_,_,Tryd.func83,rfl,by kernel_rfl,by kernel_rfl⟩
 · exact ⟨_,_,Tryd.func84,rfl,by kernel_rfl,by kernel_rfl⟩
 · exact ⟨_,_,Tryd.func85,rfl,by kernel_rfl,by kernel_rfl⟩
 · exact ⟨_,_,Tryd.func86,rfl,by kernel_rfl,by kernel_rfl⟩
 · exact ⟨_,_,Tryd.func87,rfl,by kernel_rfl,by kernel_rfl⟩
 · exact ⟨_,_,Tryd.func88,rfl,by kernel_rfl,by kernel_rfl⟩
 · exact ⟨_,_,Tryd.func89,rfl,by kernel_rfl,by kernel_rfl⟩
 · exact ⟨_,_,Tryd.func90,rfl,by kernel_rfl,by kernel_rfl⟩
 · exact ⟨_,_,Tryd.func91,rfl,by kernel_rfl,by kernel_rfl⟩
 · exact ⟨_,_,Tryd.func92,rfl,by kernel_rfl,by kernel_rfl⟩
 · exact ⟨_,_,Tryd.func93,rfl,by kernel_rfl,by kernel_rfl⟩
 · exact ⟨_,_,Tryd.func101,rfl,by kernel_rfl,by kernel_rfl⟩
 · exact ⟨_,_,Tryd.func102,rfl,by kernel_rfl,by kernel_rfl⟩
 · exact ⟨_,_,Tryd.func103,rfl,by kernel_rfl,by kernel_rfl⟩
 · exact ⟨_,_,Tryd.func108,rfl,by kernel_rfl,by kernel_rfl⟩
 · exact ⟨_,_,Tryd.func122,rfl,by kernel_rfl,by kernel_rfl⟩
 · exact ⟨_,_,Tryd.func128,rfl,by kernel_rfl,by kernel_rfl⟩
 · exact ⟨_,_,Tryd.func129,rfl,by kernel_rfl,by kernel_rfl⟩
 · exact ⟨_,_,Tryd.func130,rfl,by kernel_rfl,by kernel_rfl⟩
 · exact ⟨_,_,Tryd.func131,rfl,by kernel_rfl,by kernel_rfl⟩
 · exact ⟨_,_,Tryd.func132,rfl,by kernel_rfl,by kernel_rfl⟩
 · exact ⟨_,_,Tryd.func133,rfl,by kernel_rfl,by kernel_rfl⟩
 · exact ⟨_,_,Tryd.func134,rfl,by kernel_rfl,by kernel_rfl⟩
 · exact ⟨_,_,Tryd.func135,rfl,by kernel_rfl,by kernel_rfl⟩
 · exact ⟨_,_,Tryd.func139,rfl,by kernel_rfl,by kernel_rfl⟩
 · exact ⟨_,_,Tryd.func140,rfl,by kernel_rfl,by kernel_rfl⟩
 · exact ⟨_,_,Tryd.func143,rfl,by kernel_rfl,by kernel_rfl⟩
 · exact ⟨_,_,Tryd.func148,rfl,by kernel_rfl,by kernel_rfl⟩
 · exact ⟨_,_,Tryd.func150,rfl,by kernel_rfl,by kernel_rfl⟩
 · exact ⟨_,_,Tryd.func151,rfl,by kernel_rfl,by kernel_rfl⟩
 · exact ⟨_,_,Tryd.func152,rfl,by kernel_rfl,by kernel_rfl⟩
 · exact ⟨_,_,Tryd.func158,rfl,by kernel_rfl,by kernel_rfl⟩
 · exact ⟨_,_,Tryd.func159,rfl,by kernel_rfl,by kernel_rfl⟩
 · exact ⟨_,_,Tryd.func160,rfl,by kernel_rfl,by kernel_rfl⟩
 · exact ⟨_,_,Tryd.func164,rfl,by kernel_rfl,by kernel_rfl⟩
 · exact ⟨_,_,Tryd.func165,rfl,by kernel_rfl,by kernel_rfl⟩
 · exact ⟨_,_,Tryd.func166,rfl,by kernel_rfl,by kernel_rfl⟩
 · exact ⟨_,_,Tryd.func167,rfl,by kernel_rfl,by kernel_rfl⟩,by kernel_rfl⟩
end Go.Proofs.YtckoipoejaafhaaDoor.Cc

namespace Go.Proofs.YtckoipoejaafhaaDoor
open Go Go.RowKit
section
variable {P : Program} {ops : Array Oper} {Q : Exit -> Act -> World -> Prop} {md : Region.Mode} {S : World -> Prop} {s : Nat}
def wpAnyL (P : Program) (md : Region.Mode) (ops : Array Oper) (Q : Exit -> Act -> World -> Prop) (S : World -> Prop) (s : Nat) : Nat -> Array Bool -> Act -> World -> Prop
 | 0,listed,a,w => Region.ready md ops listed = [] /\ Q .normal a w
 | fuel + 1,listed,a,w =>
   (Region.ready md ops listed = [] -> Q .normal a w) /\
   ∀ i ∈ Region.ready md ops listed,wpOp P ops Q i (fun a' w' => (i ≠ s -> S w') /\ wpAnyL P md ops Q S s fuel (listed.setIfInBounds i true) a' w') a w
theorem wpAny_of_L : ∀ (fuel : Nat) (listed : Array Bool) (a : Act) (w : World),wpAnyL P md ops Q S s fuel listed a w -> wpAny P md ops Q fuel listed a w
 | 0,_,_,_,h => h
 | fuel + 1,_,_,_,h => ⟨h.1,fun i hi => wpOp_mono (fun a' w' h' => wpAny_of_L fuel _ a' w' h'.2) (h.2 i hi)⟩
theorem wpAnyL_first {i : Nat} {oi os : Oper} {v : Value} (hi : ops[i]? = some oi) (hos : ops[s]? = some os) (hwait : ∃ e ∈ os.after,Region.binds md e = true /\ e.on = i) (hsel : ∀ (j : Nat) (o : Oper) cs b,ops[j]? = some o -> o.op ≠ .select cs b)
   (hQ : ∀ c a w,Q (.panic c) (a.put oi.dst v) w -> Q (.panic c) a w) :
   ∀ (fuel : Nat) (listed : Array Bool) (a : Act) (w : World),
     (∀ j oj,ops[j]? = some oj -> j ≠ i -> listed.getD j true = false -> (∀ e ∈ oj.after,Region.binds md e = true -> e.on ≠ i) -> oi.apart ops oj = true) ->
     i ∈ Region.ready md ops listed -> i ≠ s -> YieldsIf P ops S oi v a -> S w ->
     wpAnyL P md ops Q S s fuel (listed.setIfInBounds i true) (a.put oi.dst v) w -> wpAnyL P md ops Q S s (fuel + 1) listed a w := by
 intro fuel
 induction fuel with
 | zero =>
   intro listed a w _ hr hne hy hS H
   refine ⟨fun h => (by rw [h] at hr; cases hr),fun j hj => ?_⟩
   by_cases hji : j = i
   · subst hji; exact hy.wpOp hi hS ⟨fun _ => hS,H⟩
   · have := ready_mono hj hji
     rw [H.1] at this
     cases this
 | succ fuel ih =>
   intro listed a w hfree hr hne hy hS H
   refine ⟨fun h => (by rw [h] at hr; cases hr),fun j hj => ?_⟩
   by_cases hji : j = i
   · subst hji; exact hy.wpOp hi hS ⟨fun _ => hS,H⟩
   · have h1 := H.2 j (ready_mono hj hji)
     obtain ⟨hjun,oj,hoj,hall⟩ := mem_ready.1 hj
     have hnot : ∀ e ∈ oj.after,Region.binds md e = true -> e.on ≠ i := fun e he hb heq => by
       have h1 := hall e he hb
       have h0 := (mem_ready.1 hr).1
       rw [heq] at h1
       rcases Nat.lt_or_ge i listed.size with h' | h'
       · simp [h'] at h0 h1; rw [h0] at h1; cases h1
       · simp [Array.getElem?_eq_none h'] at h1
     have hjs : j ≠ s := fun e => by
       subst e
       obtain ⟨e,he,hb,hon⟩ := hwait
       rw [hos] at hoj
       obtain rfl := Option.some.inj hoj
       exact hnot e he hb hon
     have h2 := wpOp_putIf hoj (hfree j oj hoj hji hjun hnot) (fun cs b => hsel i oi cs b hi) (fun cs b => hsel j oj cs b hoj) hQ hy h1
     have hfree' : ∀ k ok,ops[k]? = some ok -> k ≠ i -> (listed.setIfInBounds j true).getD k true = false ->
         (∀ e ∈ ok.after,Region.binds md e = true -> e.on ≠ i) -> oi.apart ops ok = true := fun k ok hk hki hun hno => by
       refine hfree k ok hk hki ?_ hno
       by_cases hjk : j = k
       · subst hjk; exact hjun
       · rw [Go.getD_set_ne true hjk] at hun; exact hun
     refine wpOp_mono (fun a' w' h3 => ⟨fun _ => h3.2.1 hjs,ih (listed.setIfInBounds j true) a' w' hfree' (ready_mono hr (Ne.symm hji)) hne h3.1 (h3.2.1 hjs) ?_⟩) h2
     rw [Array.setIfInBounds_comm _ _ hji]
     exact h3.2.2
theorem wpAnyL_take {i : Nat} {oi os : Oper} {v : Value} {fuel : Nat} {listed : Array Bool} {a : Act} {w : World} (hi : ops[i]? = some oi) (hos : ops[s]? = some os) (hwait : (os.after.any fun e => Region.binds md e && e.on == i) = true)
   (hs : Region.noSelect ops = true) (hf : Region.free md ops listed i = true) (hr : (Region.ready md ops listed).contains i = true) (hne : i ≠ s)
   (hQ : ∀ c a w,Q (.panic c) (a.put oi.dst v) w -> Q (.panic c) a w) (hy : YieldsIf P ops S oi v a) (hS : S w)
   (h : wpAnyL P md ops Q S s fuel (listed.setIfInBounds i true) (a.put oi.dst v) w) : wpAnyL P md ops Q S s (fuel + 1) listed a w := by
 refine wpAnyL_first hi hos ?_ (Region.noSelect_spec hs) hQ fuel listed a w (Region.free_spec hi hf) (by simpa using hr) hne hy hS h
 obtain ⟨k,hk,he⟩ := Array.any_eq_true.mp hwait
 simp only [Bool.and_eq_true,beq_iff_eq] at he
 exact ⟨_,Array.getElem_mem hk,he.1,he.2⟩
theorem tkL {i : Nat} {oi os : Oper} {v : Value} {fuel : Nat} {listed : Array Bool} {a : Act} {w : World} (hi : ops[i]? = some oi) (hos : ops[s]? = some os) (hy : YieldsIf P ops S oi v a) (hS : S w)
   (h : wpAnyL P md ops Q S s fuel (listed.setIfInBounds i true) (a.put oi.dst v) w) (hwait : (os.after.any fun e => Region.binds md e && e.on == i) = true := by kernel_rfl)
   (hs : Region.noSelect ops = true := by kernel_rfl) (hf : Region.free md ops listed i = true := by kernel_rfl) (hr : (Region.ready md ops listed).contains i = true := by kernel_rfl) (hne : i ≠ s := by decide)
   (hQ : ∀ c a w,Q (.panic c) (a.put oi.dst v) w -> Q (.panic c) a w := by exact fun _ _ _ h => h) : wpAnyL P md ops Q S s (fuel + 1) listed a w :=
 wpAnyL_take hi hos hwait hs hf hr hne hQ hy hS h
theorem wpAnyL_one {i : Nat} {o : Oper} {fuel : Nat} {listed : Array Bool} {a : Act} {w : World} (ho : ops[i]? = some o) (hr : Region.ready md ops listed = [i])
   (h : ∀ K' : Act -> World -> Prop,Hid (∀ a' w',(i ≠ s -> S w') -> wpAnyL P md ops Q S s fuel (listed.setIfInBounds i true) a' w' -> K' a' w') -> if Region.wanted o (yielded ops a.tmps) = true then Oper.wp P o a w K' Q else K' (a.put o.dst undef) w) : wpAnyL P md ops Q S s (fuel + 1) listed a w := by
 refine ⟨fun h0 => (by rw [hr] at h0; cases h0),fun j hj => ?_⟩
 rw [hr] at hj
 simp only [List.mem_singleton] at hj
 subst hj
 exact wpOp_step ho (fun K' hK => h K' (fun a' w' hS hW => hK a' w' ⟨hS,hW⟩))
theorem wpAnyL_two {i j : Nat} {o o' : Oper} {fuel : Nat} {listed : Array Bool} {a : Act} {w : World} (ho : ops[i]? = some o) (ho' : ops[j]? = some o') (hr : Region.ready md ops listed = [i,j])
   (h : ∀ K' : Act -> World -> Prop,Hid (∀ a' w',(i ≠ s -> S w') -> wpAnyL P md ops Q S s fuel (listed.setIfInBounds i true) a' w' -> K' a' w') -> if Region.wanted o (yielded ops a.tmps) = true then Oper.wp P o a w K' Q else K' (a.put o.dst undef) w)
   (h' : ∀ K' : Act -> World -> Prop,Hid (∀ a' w',(j ≠ s -> S w') -> wpAnyL P md ops Q S s fuel (listed.setIfInBounds j true) a' w' -> K' a' w') -> if Region.wanted o' (yielded ops a.tmps) = true then Oper.wp P o' a w K' Q else K' (a.put o'.dst undef) w) : wpAnyL P md ops Q S s (fuel + 1) listed a w := by
 refine ⟨fun h0 => (by rw [hr] at h0; cases h0),fun k hk => ?_⟩
 rw [hr] at hk
 simp only [List.mem_cons,List.not_mem_nil,or_false] at hk
 rcases hk with e | e
 · subst e
   exact wpOp_step ho (fun K' hK => h K' (fun a' w' hS hW => hK a' w' ⟨hS,hW⟩))
 · subst e
   exact wpOp_step ho' (fun K' hK => h' K' (fun a' w' hS hW => hK a' w' ⟨hS,hW⟩))
theorem wpAnyL_done {listed : Array Bool} {a : Act} {w : World} (hr : Region.ready md ops listed = []) (h : Q .normal a w) :
   ∀ fuel,wpAnyL P md ops Q S s fuel listed a w
 | 0 => ⟨hr,h⟩
 | _ + 1 => ⟨fun _ => h,by rw [hr]; simp⟩
theorem wp_region_L {id : Nat} {a : Act} {w : World} (hm : P.follows .mixedOrders = true)
   (h : wpAnyL P .any ops Q S s ops.size (Array.replicate ops.size false) a w.drew) : (Code.region id ops true).wp P Q a w :=
 wp_region_any hm (wpAny_of_L _ _ _ _ h)
end
end Go.Proofs.YtckoipoejaafhaaDoor

namespace Go.Proofs.YtckoipoejaafhaaDoor
open Go.RowKit
set_option maxRecDepth 100000
theorem rest_neg {k m : Int} (hm : 0 < m) (h : k.tmod m < 0) : k.tmod m + m = k % m := by
 rw [Int.tmod_eq_emod] at *
 have hb := Int.emod_nonneg k (by omega : m ≠ 0)
 split at h
 · omega
 · rw [if_neg (by assumption)]; omega
theorem rest_pos {k m : Int} (hm : 0 < m) (h : ¬ k.tmod m < 0) : k.tmod m = k % m := by
 rw [Int.tmod_eq_emod] at *
 have hb := Int.emod_lt_of_pos k hm
 split at h
 · rw [if_pos (by assumption)]; omega
 · omega
theorem ref_Rest (k m : Int) (hm : 0 < m) (hm2 : m <= 9223372036854775807) (w : World) :
   Calls Tryd.prog 18 #[.int .i64 k,.int .i64 m] w fun e w' => e = .returned (.int .i64 (k % m)) /\ w' = w := by
 have b1 := Int.emod_lt_of_pos k hm
 have b2 := Int.emod_nonneg k (by omega : m ≠ 0)
 have hne : (m == 0) = false := by simp; omega
 by_cases h : k.tmod m < 0
 · have e := rest_neg hm h
   have hd : decide (k.tmod m < 0) = true := decide_eq_true h
   rw [<- e] at b1 b2 ⊢
   clear e
   go_enter Tryd.func18,Tryd.ntmps18
   go_wp2
   go_ret
   exact ⟨rfl,rfl⟩
 · have e := rest_pos hm h
   have hd : decide (k.tmod m < 0) = false := decide_eq_false h
   rw [<- e] at b1 b2 ⊢
   clear e
   go_enter Tryd.func18,Tryd.ntmps18
   go_wp2
   go_ret
   exact ⟨rfl,rfl⟩
end Go.Proofs.YtckoipoejaafhaaDoor

namespace Go.Proofs.YtckoipoejaafhaaDoor
open Go
theorem card_goes (Lk : Looks) {p : Pinned} {s : OpenSpec} {c : OpenClaim} (kinds : List LaidKind) (tests : Bool) (har : Bool × String) (lk : Bool)
   (hc : c.holds p s) (hw : c.wfByText s = true) (htie : c.laidByTextAt Lk p kinds tests)
   (hst : c.start = .entering) (hnb : c.noBlocks = false /\ c.again = false) (hm : p.checked.prog.mainIs = some (har.1,har.2.toList)) (hn : (!har.1 && har.2.isEmpty && !lk) = false)
   (hl : ∀ f fn,p.checked.prog.funcNamed c.func = some f -> p.checked.prog.funcs[f]? = some fn -> lk = p.checked.prog.looks [] /\ ∀ (j : Nat) t,fn.params[j]? = some t -> p.checked.prog.wantsStandIn t = false)
   (hg : true = c.goesBy p.checked.prog) :
   Claim7.holds p (.plain s) { stood := { row := c,standIns := [],harness := har,looks := lk },kinds := [],alts := [],goes := true,laidByText := true,laidKinds := kinds,laidTests := tests,laidLooks := Lk } := by
 have h6 : Claim7.isSixth { stood := { row := c,standIns := [],harness := har,looks := lk },kinds := [] } = false := by simpa [Claim7.isSixth] using hn
 have h0 := Claim7.tied_new_at Lk kinds tests (Claim7.new_of_sixth hc har lk hst hnb hm h6 hl) hw
 exact ⟨h0,(fun D hD => by cases hD),htie,(fun h => by cases h),hg⟩
end Go.Proofs.YtckoipoejaafhaaDoor
