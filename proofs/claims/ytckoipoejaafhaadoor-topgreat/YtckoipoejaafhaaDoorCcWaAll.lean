/-
  Texts that stood one behind the other, as one.
-/
import Derived.Test.YtckoipoejaafhaaDoorCcStAll
import Derived.Conc.WgGenN3
namespace Go.Proofs.YtckoipoejaafhaaDoor.Cc
open Go Go.Conc Go.RowKit Go.Conc.Lib Go.ConcR.Gen
open Go.ConcN (WgLive)
open Go.ConcN (st_flag st_waiters)
open Go.ConcR (KK WgAt stA smA rd wr mk Payload DC0)
variable {L : WgLink}
theorem rm_rely {ty : TypeId} {Wg : Nat} {Sh Ow : Nat → Prop} {F : World → Prop} (hF2 : ∀ w w₁, Kept Sh Ow w w₁ → F w → F w₁) {w w₁ : World} (h : F w ∧ WgLive ty Wg w) (r : RM ty Wg Sh Ow w w₁) : F w₁ ∧ WgLive ty Wg w₁ := ⟨hF2 _ _ r.kept h.1, r.live h.2⟩
theorem goes_dms {P : Program} {main : Bool} {Wg : Nat} {R : World → World → Prop} {St : Goroutine → World → Prop} : ∀ {n : Nat} {g : Goroutine} {w : World}, Goes P main R DC0 St n g w → Goes P main R (DMs Wg) St n g w := by
  intro n
  induction n with
  | zero => intro g w h; exact h
  | succ n ih =>
    intro g w h
    rcases h with h | ⟨hr, h⟩
    · exact .inl h
    · refine .inr ⟨hr, fun w₁ h₁ => ?_⟩
      have := h w₁ h₁
      revert this
      cases stepG P main g w₁ <;> simp only [GStep.goes, imp_self]
      exact fun ⟨⟨d1, d2⟩, x⟩ => ⟨⟨d1, fun e he => by rw [d2] at he; simp at he⟩, ih x⟩
theorem goes_then {P : Program} {main : Bool} {R : World → World → Prop} {D : World → World → Array Event → Prop} {St St' : Goroutine → World → Prop} (rf : ∀ w, R w w) {k : Nat} (hk : ∀ g w, St g w → Goes P main R D St' k g w) : ∀ {n : Nat} {g : Goroutine} {w : World}, Goes P main R D St n g w → Goes P main R D St' (k + n) g w := by
  intro n
  induction n with
  | zero => intro g w h; exact hk g w (h w (rf w))
  | succ n ih =>
    intro g w h
    rcases h with h | ⟨hr, h⟩
    · have : ∀ j, Goes P main R D St' (k + j) g w := fun j => by
        induction j with
        | zero => exact hk g w (h w (rf w))
        | succ j ihj => exact ihj.more
      exact this (n + 1)
    · refine .inr ⟨hr, fun w₁ h₁ => ?_⟩
      have := h w₁ h₁
      revert this
      cases stepG P main g w₁ <;> simp only [GStep.goes, imp_self]
      exact fun ⟨d, x⟩ => ⟨d, ih x⟩
def AdE (P : Program) (ty : TypeId) (Wg : Nat) (Sh Ow : Nat → Prop) (Nx : Goroutine → World → Prop) (g : Goroutine) (w : World) : Prop := g.status = .running ∧ ∃ g', stepG P true g w = .go g' w #[mk .enable] ∧ ∃ m, Gm P ty Wg Sh Ow Nx m g' w
def AdA (P : Program) (ty : TypeId) (Wg : Nat) (Sh Ow : Nat → Prop) (Nx : Goroutine → World → Prop) (g : Goroutine) (w : World) : Prop := g.status = .running ∧ ∀ v : Nat, v < 2147483647 → WgAt ty Wg w (v * KK) 0 →
  ∃ g', stepG P true g w = .go g' (w.setCell (stA Wg) (.int .u64 ((v + 1) * KK))) #[rd (stA Wg), wr (stA Wg)] ∧ ∃ m, Gm P ty Wg Sh Ow (AdE P ty Wg Sh Ow Nx) m g' (w.setCell (stA Wg) (.int .u64 ((v + 1) * KK)))
def AdD (P : Program) (ty : TypeId) (Wg : Nat) (Sh Ow : Nat → Prop) (Nx : Goroutine → World → Prop) (g : Goroutine) (w : World) : Prop := g.status = .running ∧ ∃ g', stepG P true g w = .go g' w #[mk .disable] ∧ ∃ m, Gm P ty Wg Sh Ow (AdA P ty Wg Sh Ow Nx) m g' w
set_option maxRecDepth 100000 in
set_option maxHeartbeats 8000000 in
theorem add_up {P : Program} (H : WgLib P L) {Sh Ow : Nat → Prop} {F : World → Prop} (hF2 : ∀ w w₁, Kept Sh Ow w w₁ → F w → F w₁) {Wg : Nat} (hOw : ¬ Sh Wg ∧ ¬ Ow Wg) {b₀ : Frame} {a₀ : Act} {ops₀ : Array Oper} {i₀ : Nat} {rest₀ : List Nat} {k₀ : List Item} {cs : List Frame} {Nx : Goroutine → World → Prop}
    (hT : ∀ w, F w → WgLive L.tWg Wg w → Nx (G (b₀.at (a₀.put ((ops₀[i₀]?).bind (·.dst)) (.tuple #[])) (.inRegion ops₀ rest₀ :: k₀)) cs) w) (w : World) (hF : F w ∧ WgLive L.tWg Wg w) :
    Gm P L.tWg Wg Sh Ow (AdD P L.tWg Wg Sh Ow Nx) 60 (G ((base L.add).at ⟨#[.pointer (some ⟨Wg, 0, none⟩), .int .i64 1, undef, undef, undef, undef, undef, undef, undef, undef, undef, undef, undef, undef, undef, undef, undef, undef, undef, undef, undef, undef, undef, undef, undef, undef, undef, undef, undef, undef, undef, undef, undef, undef, undef, undef, undef, undef, undef, undef, undef, undef, undef, undef, undef, undef, undef, undef, undef, undef, undef, undef, undef, undef, undef, undef, undef, undef, undef, undef, undef, undef, undef, undef, undef, undef, undef, undef, undef, undef, undef, undef, undef, undef, undef, undef, undef, undef, undef, undef, undef, undef, undef, undef, undef, undef, undef, undef, undef, undef, undef, undef, undef, undef, undef, undef, undef, undef, undef, undef, undef, undef, undef, undef, undef, undef, undef, undef, undef, undef, undef, undef, undef, undef, undef, undef, undef], []⟩ [.code (body_add L)]) (b₀.at a₀ (.inRegion ops₀ (i₀ :: rest₀) :: k₀) :: cs)) w := by
  lib_facts
  refine goes_dms ?_
  simp only [body_add, addFn, Option.getD_some]
  u_c stepG_seq (rm_rely hF2) hF
  u_cond true (rm_rely hF2) hF
  u_c stepG_seq (rm_rely hF2) hF
  u_c stepG_seq (rm_rely hF2) hF
  u_reg (rm_rely hF2) hF
  u_op (rm_rely hF2) hF
  u_op (rm_rely hF2) hF
  u_c stepG_region_end (rm_rely hF2) hF
  u_cond false (rm_rely hF2) hF
  u_c stepG_skip (rm_rely hF2) hF
  u_c stepG_seq (rm_rely hF2) hF
  u_reg (rm_rely hF2) hF
  refine Goes.stop (fun w₁ h₁ => ?_)
  replace hF := rm_rely hF2 hF h₁
  clear h₁
  refine ⟨rfl, _, stepG_mark0 .disable (by simp) rfl rfl (by k_ne) rfl H.f_disable (x_disable_n L) (x_disable_b L) (x_disable_x L) (x_disable_f L), 80, ?_⟩
  walk_nrm
  refine goes_dms ?_
  u_c stepG_region_end (rm_rely hF2) hF
  u_reg (rm_rely hF2) hF
  u_defer (rm_rely hF2) hF
  u_c stepG_region_end (rm_rely hF2) hF
  u_c stepG_seq (rm_rely hF2) hF
  u_reg (rm_rely hF2) hF
  u_op (rm_rely hF2) hF
  u_c stepG_region_end (rm_rely hF2) hF
  u_c stepG_seq (rm_rely hF2) hF
  u_c stepG_seq (rm_rely hF2) hF
  u_reg (rm_rely hF2) hF
  u_bub (rm_rely hF2) hF
  u_c stepG_region_end (rm_rely hF2) hF
  u_cond false (rm_rely hF2) hF
  u_c stepG_skip (rm_rely hF2) hF
  u_c stepG_seq (rm_rely hF2) hF
  u_reg (rm_rely hF2) hF
  u_op (rm_rely hF2) hF
  u_op (rm_rely hF2) hF
  u_op (rm_rely hF2) hF
  u_op (rm_rely hF2) hF
  u_op (rm_rely hF2) hF
  u_op (rm_rely hF2) hF
  u_call H.f_uAdd (nm_uAdd L) uAddFn (rm_rely hF2) hF
  u_c stepG_seq (rm_rely hF2) hF
  u_reg (rm_rely hF2) hF
  u_op (rm_rely hF2) hF
  u_c stepG_region_end (rm_rely hF2) hF
  u_c stepG_seq (rm_rely hF2) hF
  u_reg (rm_rely hF2) hF
  u_op (rm_rely hF2) hF
  u_op (rm_rely hF2) hF
  u_op (rm_rely hF2) hF
  u_op (rm_rely hF2) hF
  refine Goes.stop (fun w₂ h₂ => ?_)
  replace hF := rm_rely hF2 hF h₂
  clear h₂
  refine ⟨rfl, fun v hv hw => ?_⟩
  have hset : ∀ x : Int, F (w₂.setCell (stA Wg) (.int .u64 x)) ∧ WgLive L.tWg Wg (w₂.setCell (stA Wg) (.int .u64 x)) := fun x => by
    have hAs := aside_setCell w₂ (stA Wg) (.int .u64 x)
    exact ⟨hF2 _ _ ⟨hAs.tape, Nat.le_of_eq hAs.size.symm, fun b hb => hAs.block b fun e => by
      have e' : b = Wg := e
      subst e'
      exact hb.elim hOw.1 hOw.2⟩ hF.1, _, _, hw.setSt x⟩
  rcases Nat.eq_zero_or_pos v with rfl | hvp
  · replace hw : WgAt L.tWg Wg w₂ 0 0 := by simpa using hw
    have z : (((0 : Nat) : Int) + 1) * KK = KK := by simp
    rw [z]
    have e0 : IntKind.u64.wrap (0 + 4294967296) = KK := by decide
    refine ⟨_, (stepG_add_atomic rfl rfl (by k_ne) rfl H.f_addU64 (x_addU64_n L) (x_addU64_b L) (x_addU64_x L) .u64 (x_addU64_f L) rfl rfl hw.cellSt (hw.thaw 0)).trans (by rw [e0]; rfl), 200 + 100, ?_⟩
    replace hF := hset KK
    clear hw hset
    simp only [KK] at hF ⊢
    walk_nrm
    refine goes_then (k := 200) (fun w => ⟨Kept.refl _ _ w, id⟩) (St := fun g w => Goes P true (RM L.tWg Wg Sh Ow) (DMs Wg) (AdE P L.tWg Wg Sh Ow Nx) 200 g w) (fun _ _ h => h) (goes_dms (n := 100) ?_)
    u_op (rm_rely hF2) hF
    u_c stepG_region_end (rm_rely hF2) hF
    u_c stepG_ret' (rm_rely hF2) hF
    u_leave1 H.f_uAdd (rm_rely hF2) hF
    u_op (rm_rely hF2) hF
    u_c stepG_region_end (rm_rely hF2) hF
    u_c stepG_seq (rm_rely hF2) hF
    u_c stepG_seq (rm_rely hF2) hF
    u_reg (rm_rely hF2) hF
    u_op (rm_rely hF2) hF
    u_op (rm_rely hF2) hF
    u_op (rm_rely hF2) hF
    u_op (rm_rely hF2) hF
    u_skip (rm_rely hF2) hF
    u_skip (rm_rely hF2) hF
    u_op (rm_rely hF2) hF
    u_c stepG_region_end (rm_rely hF2) hF
    u_cond false (rm_rely hF2) hF
    u_c stepG_skip (rm_rely hF2) hF
    u_c stepG_seq (rm_rely hF2) hF
    u_reg (rm_rely hF2) hF
    u_op (rm_rely hF2) hF
    u_op (rm_rely hF2) hF
    u_op (rm_rely hF2) hF
    u_op (rm_rely hF2) hF
    u_c stepG_region_end (rm_rely hF2) hF
    u_c stepG_seq (rm_rely hF2) hF
    u_reg (rm_rely hF2) hF
    u_op (rm_rely hF2) hF
    u_op (rm_rely hF2) hF
    u_op (rm_rely hF2) hF
    u_op (rm_rely hF2) hF
    u_c stepG_region_end (rm_rely hF2) hF
    u_c stepG_seq (rm_rely hF2) hF
    u_c stepG_seq (rm_rely hF2) hF
    u_reg (rm_rely hF2) hF
    u_op (rm_rely hF2) hF
    u_op (rm_rely hF2) hF
    u_op (rm_rely hF2) hF
    u_op (rm_rely hF2) hF
    u_op (rm_rely hF2) hF
    u_op (rm_rely hF2) hF
    u_op (rm_rely hF2) hF
    u_op (rm_rely hF2) hF
    u_op (rm_rely hF2) hF
    u_op (rm_rely hF2) hF
    u_c stepG_region_end (rm_rely hF2) hF
    u_cond true (rm_rely hF2) hF
    u_reg (rm_rely hF2) hF
    u_op (rm_rely hF2) hF
    u_op (rm_rely hF2) hF
    u_op (rm_rely hF2) hF
    u_conv H.underlying_tPU32 H.room_tU32 (Go.ConcN.Gen.WgLive.cell1 hF.2).choose_spec (rm_rely hF2) hF
    refine Goes.stop (fun w₃ h₃ => ?_)
    replace hF := rm_rely hF2 hF h₃
    clear h₃
    refine Goes.step rfl (fun w₄ h₄ => ?_)
    replace hF := rm_rely hF2 hF h₄
    clear h₄
    rw [stepG_markAt .read (by simp) rfl rfl (by k_ne) rfl H.f_raceRead (x_raceRead_n L) (x_raceRead_b L) (x_raceRead_x L) (x_raceRead_f L) (ad := ⟨Wg, 1, none⟩) (by simp [Act.eval])]
    simp only [goes_go]
    refine ⟨⟨rfl, fun e he => ?_⟩, ?_⟩
    · rw [Array.mem_singleton] at he
      subst he
      refine ⟨fun x hx => ?_, by simp, by simp, by simp⟩
      simp only [MemAct.ofEvent, MemAct.touch?, Option.some.injEq] at hx
      subst hx
      exact ⟨⟨_, rfl, rfl⟩, by simp, fun _ => rfl⟩
    walk_nrm
    refine goes_dms ?_
    u_c stepG_region_end (rm_rely hF2) hF
    u_c stepG_seq (rm_rely hF2) hF
    u_c stepG_seq (rm_rely hF2) hF
    u_reg (rm_rely hF2) hF
    u_op (rm_rely hF2) hF
    u_op (rm_rely hF2) hF
    u_c stepG_region_end (rm_rely hF2) hF
    u_cond false (rm_rely hF2) hF
    u_c stepG_skip (rm_rely hF2) hF
    u_c stepG_seq (rm_rely hF2) hF
    u_c stepG_seq (rm_rely hF2) hF
    u_reg (rm_rely hF2) hF
    u_op (rm_rely hF2) hF
    u_op (rm_rely hF2) hF
    u_op (rm_rely hF2) hF
    u_skip (rm_rely hF2) hF
    u_skip (rm_rely hF2) hF
    u_op (rm_rely hF2) hF
    u_op (rm_rely hF2) hF
    u_skip (rm_rely hF2) hF
    u_skip (rm_rely hF2) hF
    u_skip (rm_rely hF2) hF
    u_skip (rm_rely hF2) hF
    u_op (rm_rely hF2) hF
    u_c stepG_region_end (rm_rely hF2) hF
    u_cond false (rm_rely hF2) hF
    u_c stepG_skip (rm_rely hF2) hF
    u_c stepG_seq (rm_rely hF2) hF
    u_c stepG_seq (rm_rely hF2) hF
    u_reg (rm_rely hF2) hF
    u_op (rm_rely hF2) hF
    u_op (rm_rely hF2) hF
    u_op (rm_rely hF2) hF
    u_skip (rm_rely hF2) hF
    u_skip (rm_rely hF2) hF
    u_op (rm_rely hF2) hF
    u_c stepG_region_end (rm_rely hF2) hF
    u_cond true (rm_rely hF2) hF
    u_c stepG_ret' (rm_rely hF2) hF
    refine Goes.stop (fun w₅ h₅ => ?_)
    replace hF := rm_rely hF2 hF h₅
    clear h₅
    refine ⟨rfl, _, stepG_unwind_entry (v := .tuple #[]) (evs := #[mk .enable]) rfl H.f_enable (x_enable_n L) (x_enable_b L) (x_enable_x L) (x_enable_f L) (by simp [Extern.Race.none_]) (by simp [mk]) (by simp [mk]), 1, ?_⟩
    refine goes_dms ?_
    u_leave0 H.f_add (rm_rely hF2) hF
    exact fun w₁ h₁ => hT w₁ (rm_rely hF2 hF h₁).1 (rm_rely hF2 hF h₁).2
  · obtain ⟨V, hV⟩ : ∃ V : Int, V = (v : Int) + 1 := ⟨_, rfl⟩
    obtain ⟨S, hS⟩ : ∃ S : Int, S = V * KK := ⟨_, rfl⟩
    have eS : IntKind.u64.wrap ((v : Int) * KK + 4294967296) = S := by rw [IntKind.wrap_u64, hS, hV]; simp only [KK]; omega
    rw [← hV, ← hS]
    have a1 : S / 4294967296 = V := by rw [hS]; simp only [KK]; omega
    have b1 : bits .and .u64 S 2147483648 = 0 := by rw [hS, hV]; have := st_flag (v + 1) 0 (by omega) (by omega); simpa [KK] using this
    have b2 : bits .and .u64 S 2147483647 = 0 := by rw [hS, hV]; have := st_waiters (v + 1) 0 (by omega) (by omega); simpa [KK] using this
    have c1 : IntKind.i32.wrap V = V := by rw [IntKind.wrap_i32]; omega
    have hV1 : 1 < V := by omega
    have hV2 : V < 2147483648 := by omega
    have q1 : (V == 1) = false := by simp; omega
    have q2 : decide (V = 1) = false := decide_eq_false (by omega)
    have q3 : decide (V < 0) = false := decide_eq_false (by omega)
    have q4 : decide (0 < V) = true := decide_eq_true (by omega)
    have q5 : (V == 0) = false := by simp; omega
    have q6 : decide (V = 0) = false := decide_eq_false (by omega)
    refine ⟨_, (stepG_add_atomic rfl rfl (by k_ne) rfl H.f_addU64 (x_addU64_n L) (x_addU64_b L) (x_addU64_x L) .u64 (x_addU64_f L) rfl rfl hw.cellSt (hw.thaw 0)).trans (by rw [eS]; rfl), 200, ?_⟩
    replace hF := hset S
    clear hw hset hS hV eS
    walk_nrm
    refine goes_dms ?_
    u_op (rm_rely hF2) hF
    u_c stepG_region_end (rm_rely hF2) hF
    u_c stepG_ret' (rm_rely hF2) hF
    u_leave1 H.f_uAdd (rm_rely hF2) hF
    u_op (rm_rely hF2) hF
    u_c stepG_region_end (rm_rely hF2) hF
    u_c stepG_seq (rm_rely hF2) hF
    u_c stepG_seq (rm_rely hF2) hF
    u_reg (rm_rely hF2) hF
    u_op (rm_rely hF2) hF
    u_op (rm_rely hF2) hF
    u_op (rm_rely hF2) hF
    u_op (rm_rely hF2) hF
    u_skip (rm_rely hF2) hF
    u_skip (rm_rely hF2) hF
    u_op (rm_rely hF2) hF
    u_c stepG_region_end (rm_rely hF2) hF
    u_cond false (rm_rely hF2) hF
    u_c stepG_skip (rm_rely hF2) hF
    u_c stepG_seq (rm_rely hF2) hF
    u_reg (rm_rely hF2) hF
    u_op (rm_rely hF2) hF
    u_op (rm_rely hF2) hF
    u_op (rm_rely hF2) hF
    u_op (rm_rely hF2) hF
    u_c stepG_region_end (rm_rely hF2) hF
    u_c stepG_seq (rm_rely hF2) hF
    u_reg (rm_rely hF2) hF
    u_op (rm_rely hF2) hF
    u_op (rm_rely hF2) hF
    u_op (rm_rely hF2) hF
    u_op (rm_rely hF2) hF
    u_c stepG_region_end (rm_rely hF2) hF
    u_c stepG_seq (rm_rely hF2) hF
    u_c stepG_seq (rm_rely hF2) hF
    u_reg (rm_rely hF2) hF
    u_op (rm_rely hF2) hF
    u_op (rm_rely hF2) hF
    u_op (rm_rely hF2) hF
    u_op (rm_rely hF2) hF
    u_op (rm_rely hF2) hF
    u_op (rm_rely hF2) hF
    u_op (rm_rely hF2) hF
    u_op (rm_rely hF2) hF
    u_op (rm_rely hF2) hF
    u_op (rm_rely hF2) hF
    u_c stepG_region_end (rm_rely hF2) hF
    u_cond false (rm_rely hF2) hF
    u_c stepG_skip (rm_rely hF2) hF
    u_c stepG_seq (rm_rely hF2) hF
    u_c stepG_seq (rm_rely hF2) hF
    u_reg (rm_rely hF2) hF
    u_op (rm_rely hF2) hF
    u_op (rm_rely hF2) hF
    u_c stepG_region_end (rm_rely hF2) hF
    u_cond false (rm_rely hF2) hF
    u_c stepG_skip (rm_rely hF2) hF
    u_c stepG_seq (rm_rely hF2) hF
    u_c stepG_seq (rm_rely hF2) hF
    u_reg (rm_rely hF2) hF
    u_op (rm_rely hF2) hF
    u_op (rm_rely hF2) hF
    u_op (rm_rely hF2) hF
    u_skip (rm_rely hF2) hF
    u_skip (rm_rely hF2) hF
    u_op (rm_rely hF2) hF
    u_op (rm_rely hF2) hF
    u_skip (rm_rely hF2) hF
    u_skip (rm_rely hF2) hF
    u_skip (rm_rely hF2) hF
    u_skip (rm_rely hF2) hF
    u_op (rm_rely hF2) hF
    u_c stepG_region_end (rm_rely hF2) hF
    u_cond false (rm_rely hF2) hF
    u_c stepG_skip (rm_rely hF2) hF
    u_c stepG_seq (rm_rely hF2) hF
    u_c stepG_seq (rm_rely hF2) hF
    u_reg (rm_rely hF2) hF
    u_op (rm_rely hF2) hF
    u_op (rm_rely hF2) hF
    u_op (rm_rely hF2) hF
    u_skip (rm_rely hF2) hF
    u_skip (rm_rely hF2) hF
    u_op (rm_rely hF2) hF
    u_c stepG_region_end (rm_rely hF2) hF
    u_cond true (rm_rely hF2) hF
    u_c stepG_ret' (rm_rely hF2) hF
    refine Goes.stop (fun w₅ h₅ => ?_)
    replace hF := rm_rely hF2 hF h₅
    clear h₅
    refine ⟨rfl, _, stepG_unwind_entry (v := .tuple #[]) (evs := #[mk .enable]) rfl H.f_enable (x_enable_n L) (x_enable_b L) (x_enable_x L) (x_enable_f L) (by simp [Extern.Race.none_]) (by simp [mk]) (by simp [mk]), 1, ?_⟩
    refine goes_dms ?_
    u_leave0 H.f_add (rm_rely hF2) hF
    exact fun w₁ h₁ => hT w₁ (rm_rely hF2 hF h₁).1 (rm_rely hF2 hF h₁).2
end Go.Proofs.YtckoipoejaafhaaDoor.Cc

namespace Go.Proofs.YtckoipoejaafhaaDoor.Cc
open Go Go.Conc Go.RowKit Go.Conc.Lib Go.ConcR.Gen
open Go.ConcN (WgLive)
open Go.ConcN (st_flag st_waiters)
open Go.ConcR (KK WgAt stA smA rd wr mk Payload DC0)
variable {L : WgLink}
theorem rm_rely0 {ty : TypeId} {Wg : Nat} {Sh Ow : Nat → Prop} {w w₁ : World} (h : True ∧ WgLive ty Wg w) (r : RM ty Wg Sh Ow w w₁) : True ∧ WgLive ty Wg w₁ := ⟨trivial, r.live h.2⟩
def AnW (L : WgLink) (Wg : Nat) (c : Frame) (cs : List Frame) (g : Goroutine) : Prop :=
  ∃ T : Array Value, g = G ((base L.wait).at ⟨T, []⟩ [.code (Go.ConcR.Gen.L7 L), .inLoop (Go.ConcR.Gen.L7 L), .inBlock 0]) (c :: cs) ∧ T.size = 84 ∧ T[0]? = some (.pointer (some ⟨Wg, 0, none⟩))
def KnW (P : Program) (L : WgLink) (Wg : Nat) (gR g : Goroutine) : Prop :=
  ∃ m, ∀ w, WgLive L.tWg Wg w → Goes P true (RM L.tWg Wg (fun _ => False) (fun _ => False)) DC0 (fun g' _ => g' = gR) m g w
section
variable {b₀ : Frame} {a₀ : Act} {ops₀ : Array Oper} {i₀ : Nat} {rest₀ : List Nat} {k₀ : List Item} {cs : List Frame} {Sh Ow : Nat → Prop} {Wg : Nat}
theorem AnW.running {c : Frame} {g : Goroutine} (h : AnW L Wg c cs g) : g.status = .running := by
  obtain ⟨T, rfl, _⟩ := h
  rfl
set_option maxRecDepth 100000 in
set_option maxHeartbeats 8000000 in
theorem wait_in {P : Program} (H : WgLib P L) (w : World) (hF : True ∧ WgLive L.tWg Wg w) :
    Gm P L.tWg Wg Sh Ow (fun g w => g.status = .running ∧ ∃ g', stepG P true g w = .go g' w #[mk .disable] ∧ ∃ m, Gm P L.tWg Wg Sh Ow (fun g _ => AnW L Wg (b₀.at a₀ (.inRegion ops₀ (i₀ :: rest₀) :: k₀)) cs g) m g' w) 3
      (G ((base L.wait).at ⟨#[.pointer (some ⟨Wg, 0, none⟩), undef, undef, undef, undef, undef, undef, undef, undef, undef, undef, undef, undef, undef, undef, undef, undef, undef, undef, undef, undef, undef, undef, undef, undef, undef, undef, undef, undef, undef, undef, undef, undef, undef, undef, undef, undef, undef, undef, undef, undef, undef, undef, undef, undef, undef, undef, undef, undef, undef, undef, undef, undef, undef, undef, undef, undef, undef, undef, undef, undef, undef, undef, undef, undef, undef, undef, undef, undef, undef, undef, undef, undef, undef, undef, undef, undef, undef, undef, undef, undef, undef, undef, undef], []⟩ [.code (body_wait L)]) (b₀.at a₀ (.inRegion ops₀ (i₀ :: rest₀) :: k₀) :: cs)) w := by
  lib_facts
  refine goes_dms ?_
  simp only [body_wait, waitFn, Option.getD_some]
  u_c stepG_seq rm_rely0 hF
  u_cond true rm_rely0 hF
  u_reg rm_rely0 hF
  refine Goes.stop (fun w₁ h₁ => ?_)
  replace hF := rm_rely0 hF h₁
  clear h₁
  refine ⟨rfl, _, stepG_mark0 .disable (by simp) rfl rfl (by k_ne) rfl H.f_disable (x_disable_n L) (x_disable_b L) (x_disable_x L) (x_disable_f L), 3, ?_⟩
  walk_nrm
  refine goes_dms ?_
  u_c stepG_region_end rm_rely0 hF
  u_c stepG_block rm_rely0 hF
  u_c stepG_loop rm_rely0 hF
  exact Goes.stop (fun w₂ h₂ => ⟨_, rfl, by simp, by simp⟩)
set_option maxRecDepth 100000 in
set_option maxHeartbeats 8000000 in
theorem wait_round {P : Program} (H : WgLib P L) (g : Goroutine) (hg : AnW L Wg (b₀.at a₀ (.inRegion ops₀ (i₀ :: rest₀) :: k₀)) cs g) (w : World) (hF : True ∧ WgLive L.tWg Wg w) :
    ∃ m, Gm P L.tWg Wg Sh Ow (MW1 P L.tWg Wg Sh Ow (AnW L Wg (b₀.at a₀ (.inRegion ops₀ (i₀ :: rest₀) :: k₀)) cs) (KnW P L Wg (G (b₀.at (a₀.put ((ops₀[i₀]?).bind (·.dst)) (.tuple #[])) (.inRegion ops₀ rest₀ :: k₀)) cs))) m g w := by
  lib_facts
  obtain ⟨T, rfl, hT84, t0⟩ := hg
  obtain ⟨v0, v1, v2, v3, v4, v5, v6, v7, v8, v9, v10, v11, v12, v13, v14, v15, v16, v17, v18, v19, v20, v21, v22, v23, v24, v25, v26, v27, v28, v29, v30, v31, v32, v33, v34, v35, v36, v37, v38, v39, v40, v41, v42, v43, v44, v45, v46, v47, v48, v49, v50, v51, v52, v53, v54, v55, v56, v57, v58, v59, v60, v61, v62, v63, v64, v65, v66, v67, v68, v69, v70, v71, v72, v73, v74, v75, v76, v77, v78, v79, v80, v81, v82, v83, rfl⟩ := array84 T hT84
  simp only [List.getElem?_toArray, List.getElem?_cons_zero, Option.some.injEq] at t0
  subst t0
  refine ⟨30, ?_⟩
  refine goes_dms ?_
  simp only [Go.ConcR.Gen.L7, body_wait, waitFn, Option.getD_some]
  u_c stepG_block rm_rely0 hF
  u_c stepG_seq rm_rely0 hF
  u_reg rm_rely0 hF
  u_op rm_rely0 hF
  u_op rm_rely0 hF
  u_op rm_rely0 hF
  u_call H.f_uLoad (nm_uLoad L) uLoadFn rm_rely0 hF
  u_c stepG_seq rm_rely0 hF
  u_reg rm_rely0 hF
  u_op rm_rely0 hF
  u_c stepG_region_end rm_rely0 hF
  u_c stepG_seq rm_rely0 hF
  u_reg rm_rely0 hF
  u_op rm_rely0 hF
  u_op rm_rely0 hF
  u_op rm_rely0 hF
  refine Goes.stop (fun w₁ h₁ => ?_)
  replace hF := rm_rely0 hF h₁
  clear h₁
  refine ⟨rfl, fun v hv hw => ?_⟩
  rcases Nat.eq_zero_or_pos v with rfl | hvp
  · replace hw : WgAt L.tWg Wg w₁ 0 0 := by simpa using hw
    refine ⟨_, stepG_load_atomic (v := 0) rfl rfl (by k_ne) rfl H.f_loadU64 (x_loadU64_n L) (x_loadU64_b L) (x_loadU64_x L) .u64 (x_loadU64_f L) rfl hw.cellSt, fun _ => ⟨60, ?_⟩, fun h => absurd rfl h⟩
    clear hw
    walk_nrm
    refine goes_dms ?_
    u_op rm_rely0 hF
    u_c stepG_region_end rm_rely0 hF
    u_c stepG_ret' rm_rely0 hF
    u_leave1 H.f_uLoad rm_rely0 hF
    u_op rm_rely0 hF
    u_c stepG_region_end rm_rely0 hF
    u_c stepG_seq rm_rely0 hF
    u_reg rm_rely0 hF
    u_op rm_rely0 hF
    u_op rm_rely0 hF
    u_op rm_rely0 hF
    u_op rm_rely0 hF
    u_c stepG_region_end rm_rely0 hF
    u_c stepG_seq rm_rely0 hF
    u_reg rm_rely0 hF
    u_op rm_rely0 hF
    u_op rm_rely0 hF
    u_op rm_rely0 hF
    u_op rm_rely0 hF
    u_c stepG_region_end rm_rely0 hF
    u_c stepG_seq rm_rely0 hF
    u_c stepG_seq rm_rely0 hF
    u_reg rm_rely0 hF
    u_op rm_rely0 hF
    u_op rm_rely0 hF
    u_c stepG_region_end rm_rely0 hF
    u_cond true rm_rely0 hF
    u_c stepG_seq rm_rely0 hF
    u_cond true rm_rely0 hF
    u_c stepG_seq rm_rely0 hF
    u_reg rm_rely0 hF
    refine Goes.stop (fun w₅ h₅ => ?_)
    replace hF := rm_rely0 hF h₅
    clear h₅
    refine ⟨rfl, _, stepG_mark0 .enable (by simp) rfl rfl (by k_ne) rfl H.f_enable (x_enable_n L) (x_enable_b L) (x_enable_x L) (x_enable_f L), 12, ?_⟩
    walk_nrm
    refine goes_dms ?_
    u_c stepG_region_end rm_rely0 hF
    u_reg rm_rely0 hF
    u_op rm_rely0 hF
    u_conv H.underlying_tWgP H.room_tWg (Go.ConcN.Gen.WgLive.cell0 hF.2).choose_spec rm_rely0 hF
    refine Goes.stop (fun w₆ h₆ => ?_)
    clear h₆
    refine ⟨rfl, _, stepG_markAt .acquire (by simp) rfl rfl (by k_ne) rfl H.f_acquire (x_acquire_n L) (x_acquire_b L) (x_acquire_x L) (x_acquire_f L) (by simp [Act.eval, stA]), 60, fun w₇ hl₇ => ?_⟩
    replace hF : True ∧ WgLive L.tWg Wg w₇ := ⟨trivial, hl₇⟩
    clear hl₇
    walk_nrm
    u_c stepG_region_end rm_rely0 hF
    u_c stepG_seq rm_rely0 hF
    u_c stepG_seq rm_rely0 hF
    u_reg rm_rely0 hF
    u_op rm_rely0 hF
    u_op rm_rely0 hF
    u_op rm_rely0 hF
    u_op rm_rely0 hF
    u_op rm_rely0 hF
    u_op rm_rely0 hF
    u_op rm_rely0 hF
    u_op rm_rely0 hF
    u_skip rm_rely0 hF
    u_skip rm_rely0 hF
    u_op rm_rely0 hF
    u_c stepG_region_end rm_rely0 hF
    u_cond false rm_rely0 hF
    u_c stepG_skip rm_rely0 hF
    u_c stepG_ret' rm_rely0 hF
    u_leave0 H.f_wait rm_rely0 hF
    exact Goes.stop (fun _ _ => rfl)
  · obtain ⟨S, hS⟩ : ∃ S : Int, (v : Int) * KK = S := ⟨_, rfl⟩
    have a1 : S / 4294967296 = (v : Int) := by rw [← hS]; simp only [KK]; omega
    have b1 : bits .and .u64 S 2147483648 = 0 := by rw [← hS]; have := st_flag v 0 (by omega) (by omega); simpa [KK] using this
    have b2 : bits .and .u64 S 2147483647 = 0 := by rw [← hS]; have := st_waiters v 0 (by omega) (by omega); simpa [KK] using this
    have c1 : IntKind.i32.wrap (v : Int) = (v : Int) := by rw [IntKind.wrap_i32]; omega
    have w1 : IntKind.u64.wrap (S + 1) = S + 1 := by rw [IntKind.wrap_u64, ← hS]; simp only [KK]; omega
    have q3 : decide ((v : Int) < 0) = false := decide_eq_false (by omega)
    have q4 : decide (0 < (v : Int)) = true := decide_eq_true (by omega)
    have q5 : ((v : Int) == 0) = false := by simp; omega
    have q6 : decide ((v : Int) = 0) = false := decide_eq_false (by omega)
    rw [hS] at hw
    refine ⟨_, stepG_load_atomic (v := S) rfl rfl (by k_ne) rfl H.f_loadU64 (x_loadU64_n L) (x_loadU64_b L) (x_loadU64_x L) .u64 (x_loadU64_f L) rfl hw.cellSt, fun h0 => absurd h0 (by omega), fun _ => ⟨60, ?_⟩⟩
    clear hw
    walk_nrm
    refine goes_dms ?_
    u_op rm_rely0 hF
    u_c stepG_region_end rm_rely0 hF
    u_c stepG_ret' rm_rely0 hF
    u_leave1 H.f_uLoad rm_rely0 hF
    u_op rm_rely0 hF
    u_c stepG_region_end rm_rely0 hF
    u_c stepG_seq rm_rely0 hF
    u_reg rm_rely0 hF
    u_op rm_rely0 hF
    u_op rm_rely0 hF
    u_op rm_rely0 hF
    u_op rm_rely0 hF
    u_c stepG_region_end rm_rely0 hF
    u_c stepG_seq rm_rely0 hF
    u_reg rm_rely0 hF
    u_op rm_rely0 hF
    u_op rm_rely0 hF
    u_op rm_rely0 hF
    u_op rm_rely0 hF
    u_c stepG_region_end rm_rely0 hF
    u_c stepG_seq rm_rely0 hF
    u_c stepG_seq rm_rely0 hF
    u_reg rm_rely0 hF
    u_op rm_rely0 hF
    u_op rm_rely0 hF
    u_c stepG_region_end rm_rely0 hF
    u_cond false rm_rely0 hF
    u_c stepG_skip rm_rely0 hF
    u_c stepG_seq rm_rely0 hF
    u_reg rm_rely0 hF
    u_op rm_rely0 hF
    u_op rm_rely0 hF
    u_op rm_rely0 hF
    u_op rm_rely0 hF
    u_op rm_rely0 hF
    u_op rm_rely0 hF
    u_call H.f_uCas (nm_uCas L) uCasFn rm_rely0 hF
    u_c stepG_seq rm_rely0 hF
    u_reg rm_rely0 hF
    u_op rm_rely0 hF
    u_c stepG_region_end rm_rely0 hF
    u_c stepG_seq rm_rely0 hF
    u_reg rm_rely0 hF
    u_op rm_rely0 hF
    u_op rm_rely0 hF
    u_op rm_rely0 hF
    u_op rm_rely0 hF
    u_op rm_rely0 hF
    refine Goes.stop (fun w₂ h₂ => ?_)
    replace hF := rm_rely0 hF h₂
    clear h₂
    refine ⟨rfl, fun v' hv' hw => ⟨fun e => ?_, fun e => ?_⟩⟩
    · subst e
      rw [hS] at hw ⊢
      refine ⟨_, (stepG_cas_hit (v := S) (n := S + 1) rfl rfl (by k_ne) rfl H.f_casU64 (x_casU64_n L) (x_casU64_b L) (x_casU64_x L) .u64 (x_casU64_f L) rfl rfl rfl hw.cellSt (hw.thaw 0)).trans (by rfl), 200 + 100, ?_⟩
      replace hF : True ∧ WgLive L.tWg Wg (w₂.setCell (stA Wg) (.int .u64 (S + 1))) := ⟨trivial, _, _, hw.setSt _⟩
      clear hw
      walk_nrm
      refine goes_then (k := 200) (fun w => ⟨Kept.refl _ _ w, id⟩) (St := fun g w => Goes P true (RM L.tWg Wg Sh Ow) (DMs Wg) (MW3 P L.tWg Wg Sh Ow (KnW P L Wg (G (b₀.at (a₀.put ((ops₀[i₀]?).bind (·.dst)) (.tuple #[])) (.inRegion ops₀ rest₀ :: k₀)) cs))) 200 g w) (fun _ _ h => h) (goes_dms (n := 100) ?_)
      u_op rm_rely0 hF
      u_c stepG_region_end rm_rely0 hF
      u_c stepG_ret' rm_rely0 hF
      u_leave1 H.f_uCas rm_rely0 hF
      u_c stepG_region_end rm_rely0 hF
      u_cond true rm_rely0 hF
      u_c stepG_seq rm_rely0 hF
      u_c stepG_seq rm_rely0 hF
      u_reg rm_rely0 hF
      u_op rm_rely0 hF
      u_op rm_rely0 hF
      u_op rm_rely0 hF
      u_op rm_rely0 hF
      u_c stepG_region_end rm_rely0 hF
      u_cond true rm_rely0 hF
      u_reg rm_rely0 hF
      u_op rm_rely0 hF
      u_op rm_rely0 hF
      u_op rm_rely0 hF
      u_conv H.underlying_tPU32 H.room_tU32 (Go.ConcN.Gen.WgLive.cell1 hF.2).choose_spec rm_rely0 hF
      refine Goes.stop (fun w₃ h₃ => ?_)
      replace hF := rm_rely0 hF h₃
      clear h₃
      refine Goes.step rfl (fun w₄ h₄ => ?_)
      replace hF := rm_rely0 hF h₄
      clear h₄
      rw [stepG_markAt .write (by simp) rfl rfl (by k_ne) rfl H.f_raceWrite (x_raceWrite_n L) (x_raceWrite_b L) (x_raceWrite_x L) (x_raceWrite_f L) (ad := ⟨Wg, 1, none⟩) (by simp [Act.eval])]
      simp only [goes_go]
      refine ⟨⟨rfl, fun e he => ?_⟩, ?_⟩
      · rw [Array.mem_singleton] at he
        subst he
        refine ⟨fun x hx => ?_, by simp, by simp, by simp⟩
        simp only [MemAct.ofEvent, MemAct.touch?, Option.some.injEq] at hx
        subst hx
        exact ⟨⟨_, rfl, rfl⟩, by simp, fun _ => rfl⟩
      walk_nrm
      refine goes_dms ?_
      u_c stepG_region_end rm_rely0 hF
      u_c stepG_seq rm_rely0 hF
      u_reg rm_rely0 hF
      u_op rm_rely0 hF
      u_c stepG_region_end rm_rely0 hF
      u_c stepG_seq rm_rely0 hF
      u_c stepG_seq rm_rely0 hF
      u_reg rm_rely0 hF
      u_op rm_rely0 hF
      u_op rm_rely0 hF
      u_op rm_rely0 hF
      u_op rm_rely0 hF
      u_skip rm_rely0 hF
      u_op rm_rely0 hF
      u_c stepG_region_end rm_rely0 hF
      u_cond false rm_rely0 hF
      u_c stepG_skip rm_rely0 hF
      u_c stepG_seq rm_rely0 hF
      u_reg rm_rely0 hF
      u_op rm_rely0 hF
      u_op rm_rely0 hF
      u_op rm_rely0 hF
      u_op rm_rely0 hF
      refine Goes.stop (fun w₃ h₃ => ?_)
      replace hF := rm_rely0 hF h₃
      clear h₃
      refine ⟨rfl, rfl, fun ⟨st, hw⟩ => stepG_semacquire_wait rfl rfl rfl H.f_semacquire (x_semacquire_n L) (x_semacquire_b L) (x_semacquire_x L) (x_semacquire_f L) (by simp [Act.eval, smA]) hw.cellSm, fun hf => ?_⟩
      refine ⟨_, (stepG_semacquire (n := 1) rfl rfl (by k_ne) rfl H.f_semacquire (x_semacquire_n L) (x_semacquire_b L) (x_semacquire_x L) (x_semacquire_f L) (by simp [Act.eval, smA]) hf.cellSm (by k_ne) (hf.thaw 1)).trans (by rfl), 60, ?_⟩
      replace hF : True ∧ WgLive L.tWg Wg (w₃.setCell (smA Wg) (.int .u32 0)) := ⟨trivial, _, _, hf.setSm 0⟩
      clear hf
      walk_nrm
      refine goes_dms ?_
      u_c stepG_region_end rm_rely0 hF
      u_c stepG_seq rm_rely0 hF
      u_reg rm_rely0 hF
      u_op rm_rely0 hF
      u_op rm_rely0 hF
      u_op rm_rely0 hF
      u_call H.f_uLoad (nm_uLoad L) uLoadFn rm_rely0 hF
      u_c stepG_seq rm_rely0 hF
      u_reg rm_rely0 hF
      u_op rm_rely0 hF
      u_c stepG_region_end rm_rely0 hF
      u_c stepG_seq rm_rely0 hF
      u_reg rm_rely0 hF
      u_op rm_rely0 hF
      u_op rm_rely0 hF
      u_op rm_rely0 hF
      refine Goes.stop (fun w₄ h₄ => ?_)
      replace hF := rm_rely0 hF h₄
      clear h₄
      refine ⟨rfl, fun hw => ⟨_, stepG_load_atomic (v := 0) rfl rfl (by k_ne) rfl H.f_loadU64 (x_loadU64_n L) (x_loadU64_b L) (x_loadU64_x L) .u64 (x_loadU64_f L) rfl hw.cellSt, 60, ?_⟩⟩
      clear hw
      walk_nrm
      refine goes_dms ?_
      u_op rm_rely0 hF
      u_c stepG_region_end rm_rely0 hF
      u_c stepG_ret' rm_rely0 hF
      u_leave1 H.f_uLoad rm_rely0 hF
      u_op rm_rely0 hF
      u_op rm_rely0 hF
      u_c stepG_region_end rm_rely0 hF
      u_c stepG_seq rm_rely0 hF
      u_cond true rm_rely0 hF
      u_c stepG_seq rm_rely0 hF
      u_reg rm_rely0 hF
      refine Goes.stop (fun w₅ h₅ => ?_)
      replace hF := rm_rely0 hF h₅
      clear h₅
      refine ⟨rfl, _, stepG_mark0 .enable (by simp) rfl rfl (by k_ne) rfl H.f_enable (x_enable_n L) (x_enable_b L) (x_enable_x L) (x_enable_f L), 12, ?_⟩
      walk_nrm
      refine goes_dms ?_
      u_c stepG_region_end rm_rely0 hF
      u_reg rm_rely0 hF
      u_op rm_rely0 hF
      u_conv H.underlying_tWgP H.room_tWg (Go.ConcN.Gen.WgLive.cell0 hF.2).choose_spec rm_rely0 hF
      refine Goes.stop (fun w₆ h₆ => ?_)
      clear h₆
      refine ⟨rfl, _, stepG_markAt .acquire (by simp) rfl rfl (by k_ne) rfl H.f_acquire (x_acquire_n L) (x_acquire_b L) (x_acquire_x L) (x_acquire_f L) (by simp [Act.eval, stA]), 60, fun w₇ hl₇ => ?_⟩
      replace hF : True ∧ WgLive L.tWg Wg w₇ := ⟨trivial, hl₇⟩
      clear hl₇
      walk_nrm
      u_c stepG_region_end rm_rely0 hF
      u_c stepG_seq rm_rely0 hF
      u_c stepG_seq rm_rely0 hF
      u_reg rm_rely0 hF
      u_op rm_rely0 hF
      u_c stepG_region_end rm_rely0 hF
      u_cond false rm_rely0 hF
      u_c stepG_skip rm_rely0 hF
      u_c stepG_ret' rm_rely0 hF
      u_leave0 H.f_wait rm_rely0 hF
      exact Goes.stop (fun _ _ => rfl)
    · refine ⟨_, stepG_cas_miss (v := (v' : Int) * KK) (old := S) (n := S + 1) rfl rfl (by k_ne) rfl H.f_casU64 (x_casU64_n L) (x_casU64_b L) (x_casU64_x L) .u64 (x_casU64_f L) rfl rfl rfl hw.cellSt (hw.thaw 0) (by rw [← hS]; simp only [KK]; omega), 20, ?_⟩
      clear hw
      walk_nrm
      refine goes_dms ?_
      u_op rm_rely0 hF
      u_c stepG_region_end rm_rely0 hF
      u_c stepG_ret' rm_rely0 hF
      u_leave1 H.f_uCas rm_rely0 hF
      u_c stepG_region_end rm_rely0 hF
      u_cond false rm_rely0 hF
      u_c stepG_skip rm_rely0 hF
      u_c stepG_inBlock rm_rely0 hF
      u_c stepG_inLoop rm_rely0 hF
      exact Goes.stop (fun w₃ h₃ => ⟨_, rfl, by simp, by simp⟩)
end
end Go.Proofs.YtckoipoejaafhaaDoor.Cc
