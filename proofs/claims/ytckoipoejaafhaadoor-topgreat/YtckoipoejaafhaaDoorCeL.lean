/-
  workTogether, beside leavers: n workers, each telling the array with its tasks done.
-/
import Derived.Test.YtckoipoejaafhaaDoorCeJAll
namespace Go.Proofs.YtckoipoejaafhaaDoor.Cc
open Go Go.Conc Go.RowKit
open Go.ConcN (WgLive PayAt sumTo Has)
open Go.ConcR (Payload KK WgAt DC0 wgBlock)
theorem info_of {P : Program} {t : TypeId} {z : Value} {s b : Nat} (h : (P.info? t).map (fun i => (i.zero, i.size, i.bytes)) = some (some z, s, b)) : ∃ i, P.info? t = some i ∧ i.zero = some z ∧ i.size = s ∧ i.bytes = b := by
  cases hi : P.info? t with
  | none => rw [hi] at h; cases h
  | some i =>
    rw [hi] at h
    simp only [Option.map_some, Option.some.injEq, Prod.mk.injEq] at h
    exact ⟨i, rfl, h.1, h.2.1, h.2.2⟩
theorem info_u : ∃ i, Tryd.prog.info? 23 = some i ∧ i.zero = some (.slice none 0 0) ∧ i.size = 1 ∧ i.bytes = 24 := info_of (by kernel_rfl)
theorem info_c : ∃ i, Tryd.prog.info? 122 = some i ∧ i.zero = some (.chan none) ∧ i.size = 1 ∧ i.bytes = 8 := info_of (by kernel_rfl)
theorem made1 (z : Value) (n : Nat) : madeCells #[z] n = (List.replicate n z).toArray := by
  apply Array.ext_getElem?
  intro i
  simp only [madeCells, Array.getElem?_map, List.getElem?_toArray, List.getElem?_replicate]
  by_cases h : i < n
  · simp [h, Nat.mod_one]
  · simp [h]
theorem ev_make {P : Program} (w : World) (t e : TypeId) (i : TypeInfo) (z : Value) (ht : P.underlying t = some (.slice e)) (hi : P.info? e = some i) (hz : i.zero = some z)
    (kl kc : IntKind) (l c : Int) (h0 : 0 ≤ l) (hlc : l ≤ c) (hbytes : (i.bytes : Int) * c ≤ 281474976710656) (h63 : c ≤ 9223372036854775807) (hroom : c.toNat * i.bytes ≤ 140737488355328) :
    (Instr.makeSlice t (.int kl l) (.int kc c)).events P w #[] = #[] := by
  have wl : IntKind.i64.wrap l = l := by rw [IntKind.wrap_i64]; omega
  have wc : IntKind.i64.wrap c = c := by rw [IntKind.wrap_i64]; omega
  have n1 : ¬ c < 0 := by omega
  have n2 : ¬ (281474976710656 < (i.bytes : Int) * c) := by omega
  have n3 : ¬ l < 0 := by omega
  have n4 : ¬ c < l := by omega
  have n5 : ¬ (140737488355328 < c.toNat * i.bytes) := by omega
  by_cases hn : c.toNat * i.size = 0
  · simp [Instr.makeSlice, run_underlying ht, asInt, asIntOf, typeInfo, hi, sizeOf, wl, wc, n1, n2, n3, n4, n5, hn, newRow, askRoom, roomBytes]
  · simp [Instr.makeSlice, run_underlying ht, asInt, asIntOf, typeInfo, hi, sizeOf, zeroValue, hz, wl, wc, n1, n2, n3, n4, n5, newRow, askRoom, roomBytes]
section
variable {w : World} {ρ : Operand → Value} {x y : Operand} {d : Option Tmp} {ty : TypeId} {pos : String} {af : Array Edge} {gd : Option (Nat × Bool)} {n : Nat}
theorem mkU_run (hx : ρ x = .int .i64 (n : Int)) (hn : n ≤ 8) : (execOp ρ ⟨d, .makeSlice 74 x x, ty, pos, af, gd⟩).runT Tryd.prog w #[] = (.ok (.value (.slice (some ⟨w.heap.size, 0, none⟩) n n)) (w.alloc (.cells (List.replicate n (.slice none 0 0)).toArray 23)), #[]) := by
  obtain ⟨i, h1, h2, h3, h4⟩ := info_u
  have hr := run_make w 74 23 i (.slice none 0 0) Tryd.underlying74 h1 h2 .i64 .i64 (n : Int) (n : Int) (by omega) (by omega) (by rw [h4]; omega) (by omega)
  have he := ev_make w 74 23 i (.slice none 0 0) Tryd.underlying74 h1 h2 .i64 .i64 (n : Int) (n : Int) (by omega) (by omega) (by rw [h4]; omega) (by omega) (by rw [h4]; simp; omega)
  simp only [Int.toNat_natCast, h3, Nat.mul_one, Value.cells, made1] at hr
  apply run_ev
  · simp [execOp, hx, hr]
  · simp [execOp, hx, he]
theorem mkCh_run (hx : ρ x = .int .i64 (n : Int)) (hn : n ≤ 8) : (execOp ρ ⟨d, .makeSlice 112 x x, ty, pos, af, gd⟩).runT Tryd.prog w #[] = (.ok (.value (.slice (some ⟨w.heap.size, 0, none⟩) n n)) (w.alloc (.cells (chRow n []) 122)), #[]) := by
  obtain ⟨i, h1, h2, h3, h4⟩ := info_c
  have hr := run_make w 112 122 i (.chan none) Tryd.underlying112 h1 h2 .i64 .i64 (n : Int) (n : Int) (by omega) (by omega) (by rw [h4]; omega) (by omega)
  have he := ev_make w 112 122 i (.chan none) Tryd.underlying112 h1 h2 .i64 .i64 (n : Int) (n : Int) (by omega) (by omega) (by rw [h4]; omega) (by omega) (by rw [h4]; simp; omega)
  simp only [Int.toNat_natCast, h3, Nat.mul_one, Value.cells, made1] at hr
  have ec : (List.replicate n (Value.chan none)).toArray = chRow n [] := by simp [chRow]
  rw [ec] at hr
  apply run_ev
  · simp [execOp, hx, hr]
  · simp [execOp, hx, he]
end
theorem Blw.alloc {w w' : World} (h : Blw w w') (o : Obj) : Blw w (w'.alloc o) := ⟨h.os, h.output, by have := h.size; simp; omega, fun k hk => by rw [Below.heap_alloc w' o k (Nat.lt_of_lt_of_le hk h.size)]; exact h.block k hk⟩
theorem Blw.set {w w' : World} (h : Blw w w') {a : Addr} (ha : w.heap.size ≤ a.block) (v : Value) : Blw w (w'.setCell a v) := ⟨h.os, h.output, by have := h.size; simpa [World.setCell] using this, fun k hk => by rw [Below.heap_setCell w' a v k (by omega)]; exact h.block k hk⟩
section
variable {P : Program} {N0 : Nat} {pw : World} {Q : Goroutine → World → Prop} {fn : FuncId} {n : Nat} {ds : List Deferred} {σ : Nat → Value} {k : List Item} {cs : List Frame}
theorem leads_seq {x y : Code} (h : Leads P N0 (G (fd false fn n ds σ (.code x :: .code y :: k)) cs) pw Q) : Leads P N0 (G (fd false fn n ds σ (.code (.seq x y) :: k)) cs) pw Q := leads_ctl rfl (fun _ => sd_seq) h
theorem leads_region {id : Nat} {ops : Array Oper} (l : List Nat) (hl : List.range ops.size = l) (h : Leads P N0 (G (fd false fn n ds σ (.inRegion ops l :: k)) cs) pw Q) : Leads P N0 (G (fd false fn n ds σ (.code (.region id ops false) :: k)) cs) pw Q := by subst hl; exact leads_ctl rfl (fun _ => sd_region) h
theorem leads_regionEnd {ops : Array Oper} (h : Leads P N0 (G (fd false fn n ds σ k) cs) pw Q) : Leads P N0 (G (fd false fn n ds σ (.inRegion ops [] :: k)) cs) pw Q := leads_ctl rfl (fun _ => sd_regionEnd) h
theorem leads_retD (h : Leads P N0 (G (fdR false fn n ds σ (.code .ret :: k)) cs) pw Q) : Leads P N0 (G (fd false fn n ds σ (.code .ret :: k)) cs) pw Q := leads_ctl rfl (fun _ => sd_ret) h
theorem leads_mv {ops : Array Oper} {i : Nat} {rest : List Nat} {o : Oper} {x : Operand} (d : Option Tmp) (ho : ops[i]? = some o) (hd : o.dst = d) (hg : o.guard = none) (hop : o.op = .move x ∨ o.op = .assign x)
    (h : Leads P N0 (G (fd false fn n ds (put σ d (evT (arr n σ) x)) (.inRegion ops rest :: k)) cs) pw Q) : Leads P N0 (G (fd false fn n ds σ (.inRegion ops (i :: rest) :: k)) cs) pw Q := by
  refine leads_pure d _ ho hd hg (fun w => ?_) h
  obtain ⟨dst, op, type, pos, after, guard⟩ := o
  rcases hop with hop | hop <;> simp only at hop <;> subst hop <;> exact run_ev (by simp [execOp]) (by simp [execOp])
end
section
variable {dl : List Nat} {zs : List Int} {xs : List Nat} {x : Nat} {back : Bool} {n : Nat} {TT : List (List Int)} {bz oz cz bA oA cA bh oh ch : Nat} {c0 : Frame} {cs : List Frame} {pw : World} {N0 : Nat}
def ToldW (dl : List Nat) (xs : List Nat) (back : Bool) (n : Nat) (TT : List (List Int)) (C : Nat) (pw : World) : Prop := ∀ k, k < n → ∃ v, pw.cell? ⟨C, k, none⟩ = some v ∧ Ar (fun _ => True) (fun _ => True) (prd2 dl) pw v (wkL dl back (dealT n TT k) xs)
theorem grp_run (ρ : Operand → Value) (w : World) : (execOp ρ (rgo (sq1 wc3))[0]).runT Tryd.prog w #[] = (.ok (.value (.pointer (some ⟨w.heap.size, 0, none⟩))) (w.alloc (wgBlock wgLink.tWg 0 0)), #[]) := by
  have e2 : execOp ρ (rgo (sq1 wc3))[0] = execOp ρ ⟨none, .alloc 121, 0, "", #[], none⟩ := rfl
  rw [e2]
  apply run_ev
  · simp [execOp, go_sem, wgBlock]
  · simp [execOp, go_sem]
theorem rest_leads {bs ba bb bp Cc Wg C : Nat} {vp : Value} {σ : Nat → Value} (hS : Sg n bs ba bb bp Cc Wg vp σ) (hc : pw.cell? ⟨bp, 0, none⟩ = some (.slice (some ⟨C, 0, none⟩) n n)) :
    Leads Tryd.prog N0 (G (fd false 37 61 [] σ [.inRegion wtO [], .code (sq2 wc7)]) (c0 :: cs)) pw fun a' pw' => a' = G (c0.finish (.slice (some ⟨C, 0, none⟩) n n)) cs ∧ pw' = pw := by
  refine leads_regionEnd ?_
  refine leads_seq ?_
  refine leads_region [0, 1] rfl ?_
  refine leads_get1 (some 60) ⟨bp, 0, none⟩ (.slice (some ⟨C, 0, none⟩) n n) rfl rfl rfl hc (fun w h => run_ev (by simp [execOp, go_sem, evT_tmp, hS.s11, h]) (by simp [execOp, go_sem, evT_tmp, hS.s11, h])) ?_
  refine leads_mv (some 10) rfl rfl rfl (.inr rfl) ?_
  refine leads_regionEnd ?_
  refine leads_retD ?_
  rw [fdR_frm]
  refine leads_back Tryd.func37 (v := .slice (some ⟨C, 0, none⟩) n n) (fun w es => ?_) (leads_stop ⟨rfl, rfl⟩)
  rw [res1 (j := 10) rfl]
  show (Result.ok (evT (arr 61 _) (.tmp 10)) w, es) = _
  simp [evT_tmp, put_some]
set_option maxRecDepth 100000 in
set_option maxHeartbeats 4000000 in
theorem phase_leads {bs ba bb bp Cc C : Nat} {σ : Nat → Value} {T1 T2 T3 T4 : TypeId} (hG : Good zs dl) (hn : prd2 dl ≤ 1024) (hx : x < dl.length) (hn8 : n ≤ 8) (hn0 : ¬ n = 0) (hm : Tryd.prog.follows .mixedOrders = true) (hT : ∀ t ∈ TT, Vld (nln dl x) x t) (hTT : TT.length ≤ 64) (hTp : 0 < TT.length)
    (hz : IsZ pw (.slice (some ⟨bz, oz, none⟩) dl.length cz) zs) (hzc : ∃ o v, pw.cell? ⟨bz, o, none⟩ = some v) (hoz : One pw bz) (ha : IsU pw (.slice (some ⟨bA, oA, none⟩) (prd2 dl) cA) xs) (hac : ∃ o v, pw.cell? ⟨bA, o, none⟩ = some v) (hla : xs.length = prd2 dl) (hoa : One pw bA)
    (htab : Tab pw) (htabs : ∀ g ∈ tabsL, g < N0 ∧ One pw g) (hph : ∀ i, i < TT.length → ∀ j, j < 3 → pw.cell? ⟨bh, oh + 3 * i + j, none⟩ = some (.int .i64 ((TT.getD i []).getD j 0)))
    (fs : pw.heap[bs]? = some (.cells #[.slice (some ⟨bz, oz, none⟩) dl.length cz] T1)) (fa : pw.heap[ba]? = some (.cells #[.slice (some ⟨bA, oA, none⟩) (prd2 dl) cA] T2)) (fb : pw.heap[bb]? = some (.cells #[.bool back] T3)) (fp : pw.heap[bp]? = some (.cells #[.slice (some ⟨C, 0, none⟩) n n] T4))
    (fC : pw.heap[C]? = some (.cells (List.replicate n (.slice none 0 0)).toArray 23)) (fc : pw.heap[Cc]? = some (.cells (chRow n []) 122)) (hCC : C ≠ Cc) (hCN : N0 ≤ C ∧ N0 ≤ Cc)
    (hne : ∀ b, b = bz ∨ b = bA ∨ b = bh ∨ b = bs ∨ b = ba ∨ b = bb ∨ b = bp ∨ b ∈ tabsL → b ≠ C ∧ b ≠ Cc)
    (s2 : σ 2 = .slice (some ⟨bh, oh, none⟩) TT.length ch) (s3 : σ 3 = .int .i64 (n : Int)) (s5 : σ 5 = .pointer (some ⟨bs, 0, none⟩)) (s6 : σ 6 = .pointer (some ⟨ba, 0, none⟩)) (s9 : σ 9 = .pointer (some ⟨bb, 0, none⟩)) (s11 : σ 11 = .pointer (some ⟨bp, 0, none⟩)) (s12 : σ 12 = .slice (some ⟨Cc, 0, none⟩) n n) :
    Leads Tryd.prog N0 (G (fd false 37 61 [] σ [.inRegion (rgo (sq1 wc3)) [0], .code wc4]) (c0 :: cs)) pw fun a' pw' => a' = G (c0.finish (.slice (some ⟨C, 0, none⟩) n n)) cs ∧ (pw'.os = pw.os ∧ pw'.output = pw.output ∧ pw.heap.size ≤ pw'.heap.size) ∧ (∀ b, b < pw.heap.size → b ≠ C → b ≠ Cc → pw'.heap[b]? = pw.heap[b]?) ∧ ToldW dl xs back n TT C pw' := by
  intro m t hS
  obtain ⟨q, Su, f, gs, w, sl, τ, d, rfl, hB, hsu, hgl, hN, rfl⟩ := hS
  obtain ⟨G0, hG0, hNE, hgl⟩ := hgl
  obtain ⟨N2, f2, gs2, d2, d3, sl2, sl3, t2, r1, r2, r3⟩ := Bes.turn (a := G (fd false 37 61 [] σ [.inRegion (rgo (sq1 wc3)) [0], .code wc4]) (c0 :: cs)) _ f gs w sl t (Nat.le_refl _) rfl hB
  have hgo : stepG Tryd.prog true (G (fd false 37 61 [] σ [.inRegion (rgo (sq1 wc3)) [0], .code wc4]) (c0 :: cs)) (w.at d3) = .go (G (fd false 37 61 [] (put σ (some 13) (.pointer (some ⟨w.heap.size, 0, none⟩))) [.inRegion (rgo (sq1 wc3)) [], .code wc4]) (c0 :: cs)) ((w.at d3).alloc (wgBlock wgLink.tWg 0 0)) #[] :=
    ((sd_oper (rfl : (rgo (sq1 wc3))[0]? = some _) rfl).trans (ad_value (rfl : (rgo (sq1 wc3))[0]? = some _) (grp_run _ _))).trans (congrArg _ (seen_none _ _))
  obtain ⟨g1, g2⟩ := r2.group (sl := sl3) hgo (by simp)
  -- what is seen, in the true world
  have nS : ∀ {b o : Nat} {v : Value}, (tp (emp Su w) τ d).cell? ⟨b, o, none⟩ = some v → ¬ Su b := fun h => emp_notSu hsu h
  have lt_of : ∀ {b : Nat} {o : Obj}, (tp (emp Su w) τ d).heap[b]? = some o → b < w.heap.size := fun {b o} h => by
    have := (Array.getElem?_eq_some_iff.1 h).1
    rw [← emp_size Su w]
    exact this
  have tr : ∀ {b : Nat}, ¬ Su b → b < w.heap.size → ((w.at d3).alloc (wgBlock wgLink.tWg 0 0)).heap[b]? = (tp (emp Su w) τ d).heap[b]? := fun {b} h1 h2 => (Below.heap_alloc (w.at d3) _ b h2).trans (emp_out (w := w) h1).symm
  have ns : ¬ Su bs := nS (cell0 fs)
  have na : ¬ Su ba := nS (cell0 fa)
  have nb : ¬ Su bb := nS (cell0 fb)
  have np : ¬ Su bp := nS (cell0 fp)
  have nC : ¬ Su C := nS (o := 0) (v := .slice none 0 0) (by have hp := Nat.pos_of_ne_zero hn0; simp [World.cell?, fC, hp])
  have nc : ¬ Su Cc := nS (o := 0) (v := .chan none) (by have hp := chRow_at (n := n) (cs := []) (Nat.pos_of_ne_zero hn0); simp only [List.length_nil] at hp; simp [World.cell?, fc, hp])
  have nz : ¬ Su bz := let ⟨_, _, h⟩ := hzc; nS h
  have nA : ¬ Su bA := let ⟨_, _, h⟩ := hac; nS h
  have nh : ¬ Su bh := nS (hph 0 hTp 0 (by omega))
  have nt : ∀ g ∈ tabsL, ¬ Su g := fun g hg q => by have := hN g q; have := (htabs g hg).1; omega
  have lh : bh < w.heap.size := by
    have := cell_lt (hph 0 hTp 0 (by omega))
    rw [← emp_size Su w]
    exact this
  have lz : bz < w.heap.size := by have := hoz.lt; rw [← emp_size Su w]; exact this
  have lA : bA < w.heap.size := by have := hoa.lt; rw [← emp_size Su w]; exact this
  have ltb : ∀ g ∈ tabsL, g < w.heap.size := fun g hg => by have := (htabs g hg).2.lt; rw [← emp_size Su w]; exact this
  obtain ⟨w', hw'⟩ : ∃ w', w' = (w.at d3).alloc (wgBlock wgLink.tWg 0 0) := ⟨_, rfl⟩
  rw [← hw'] at g1 g2 tr hgo
  have hsz : w'.heap.size = w.heap.size + 1 := by rw [hw']; simp; rfl
  have hwgat : w'.heap[w.heap.size]? = some (wgBlock wgLink.tWg 0 0) := by rw [hw']; exact alloc_at (w.at d3) _
  have hlive : WgLive wgLink.tWg w.heap.size w' := ⟨0, 0, hwgat⟩
  let Sh : Nat → Prop := fun b => b < w.heap.size ∧ ¬ Su b ∧ b ≠ C ∧ b ≠ Cc
  have shI : ∀ {b : Nat}, b < w.heap.size → ¬ Su b → (b = bz ∨ b = bA ∨ b = bh ∨ b = bs ∨ b = ba ∨ b = bb ∨ b = bp ∨ b ∈ tabsL) → Sh b := fun h1 h2 h3 => ⟨h1, h2, hne _ h3⟩
  have hE : Es dl zs (.slice (some ⟨bz, oz, none⟩) dl.length cz) (.slice (some ⟨bA, oA, none⟩) (prd2 dl) cA) xs back C n bs ba bb bp TT bh oh Sh w' Sh w' := by
    refine ⟨⟨⟨bz, oz, cz, rfl, IsZ.of_block hz (tr nz lz), shI lz nz (.inl rfl), hoz.of (tr nz lz)⟩, Tab.of_blocks htab fun g hg => tr (nt g hg) (ltb g hg), fun g hg => ⟨shI (ltb g hg) (nt g hg) (by simp [hg]), (htabs g hg).2.of (tr (nt g hg) (ltb g hg))⟩⟩,
      ⟨bA, oA, cA, rfl, IsU.of_block ha (tr nA lA), hla, .inl (shI lA nA (by simp)), hoa.of (tr nA lA)⟩, ⟨shI (lt_of fs) ns (by simp), cell_same (cell0 fs) (tr ns (lt_of fs))⟩, ⟨shI (lt_of fa) na (by simp), cell_same (cell0 fa) (tr na (lt_of fa))⟩, ⟨shI (lt_of fb) nb (by simp), cell_same (cell0 fb) (tr nb (lt_of fb))⟩, ⟨shI (lt_of fp) np (by simp), cell_same (cell0 fp) (tr np (lt_of fp))⟩,
      fun _ => shI lh nh (by simp), fun i hi j hj => cell_same (hph i hi j hj) (tr nh lh), fun b hb => ⟨hb, rfl⟩⟩
  have hC : Cs w.heap.size Cc n [] Sh (fun b => b = Cc) w' := by
    refine ⟨⟨rfl, (tr nc (lt_of fc)).trans fc⟩, fun b hb => ⟨hb.2.2.2, by have := hb.1; omega⟩, ⟨fun h => by have := h.1; omega, fun h => by have := lt_of fc; omega, by omega⟩, fun b hb => by subst hb; have := lt_of fc; omega⟩
  have hCW : w.heap.size ≠ C := fun e => by have := lt_of fC; omega
  have ok := phW_ok (dl := dl) (zs := zs) (vz := .slice (some ⟨bz, oz, none⟩) dl.length cz) (va := .slice (some ⟨bA, oA, none⟩) (prd2 dl) cA) (xs := xs) (back := back) (C := C) (n := n) (Cc := Cc) (Wg := w.heap.size) (bs := bs) (ba := ba) (bb := bb) (bp := bp) (TT := TT) (bh := bh) (oh := oh) (ch := ch) (Od := Sh) (w0 := w') (cs0 := c0 :: cs) (q := q) (Su := fun b => Su b ∨ b = w.heap.size) (sw := w') (.inr rfl) (fun h => h.elim nC fun e => hCW e.symm) hn8 hn0 hTT
  have hSg : Sg n bs ba bb bp Cc w.heap.size (.slice (some ⟨bh, oh, none⟩) TT.length ch) (put σ (some 13) (.pointer (some ⟨w.heap.size, 0, none⟩))) := ⟨s2, s3, s5, s6, s9, s11, s12, rfl⟩
  have hway : Wy Tryd.prog true w.heap.size 0 (I0 wgLink.tWg w.heap.size) Sh (MSpawn Tryd.prog wgLink.tWg w.heap.size C n (gAw n bs ba bb bp Cc w.heap.size (.slice (some ⟨bh, oh, none⟩) TT.length ch) (c0 :: cs)) (fun S1 _ w1 => Es dl zs (.slice (some ⟨bz, oz, none⟩) dl.length cz) (.slice (some ⟨bA, oA, none⟩) (prd2 dl) cA) xs back C n bs ba bb bp TT bh oh Sh w' S1 w1) q 64 zTk (TlW dl xs back n TT) (left (sendL n TT)) (sendL n TT) n Sh []) (fun b => b = Cc) (G (fd false 37 61 [] (put σ (some 13) (.pointer (some ⟨w.heap.size, 0, none⟩))) [.inRegion (rgo (sq1 wc3)) [], .code wc4]) (c0 :: cs)) w' := by
    refine wy_regionEnd ?_
    refine wy_seq ?_
    refine wy_seq ?_
    refine wy_region [0, 1] rfl ?_
    refine wy_mv (some 24) rfl rfl rfl rfl ?_
    refine wy_mv (some 25) rfl rfl rfl rfl ?_
    refine wy_regionEnd ?_
    refine wy_block ?_
    refine wy_loop ?_
    refine spawn_way hG hn hx hn8 hCW hm hT (fun cs' Sh' Ow' w1 σ1 hcs hS1 hE1 hC1 hl1 => ?_) n [] Sh _ w' _ (by simp) (hSg.of rfl rfl rfl rfl rfl rfl rfl rfl) (by simp [put_some, evT_tmp, s3]) (by simp [put_some, evT_tmp, evT_const]) hE hC hlive
    refine wy_seq ?_
    refine wy_seq ?_
    refine wy_region [0, 1, 2] rfl ?_
    refine wy_mv (some 36) rfl rfl rfl rfl ?_
    refine wy_pure (some 37) (.int .i64 (TT.length : Int)) rfl rfl rfl (fun _ => run_ev (by simp [execOp, go_sem, evT_tmp, put_some, hS1.s2]) (by simp [execOp, go_sem, evT_tmp, put_some, hS1.s2])) ?_
    refine wy_mv (some 38) rfl rfl rfl rfl ?_
    refine wy_regionEnd ?_
    refine wy_block ?_
    refine wy_loop ?_
    refine send_way hn0 hm hcs (by omega) (fun Ow2 w2 σ2 hS2 hE2 hC2 hl2 => ?_) TT.length 0 Ow' w1 _ (by omega) (hS1.of rfl rfl rfl rfl rfl rfl rfl rfl) (by simp [put_some, evT_tmp, hS1.s2]) (by simp [put_some]) (by simp [put_some, evT_const]) hE1 hC1 hl1
    refine wy_seq ?_
    refine wy_seq ?_
    refine wy_region [0, 1, 2] rfl ?_
    refine wy_mv (some 51) rfl rfl rfl rfl ?_
    refine wy_pure (some 52) (.int .i64 (n : Int)) rfl rfl rfl (fun _ => run_ev (by simp [execOp, go_sem, evT_tmp, put_some, hS2.s12]) (by simp [execOp, go_sem, evT_tmp, put_some, hS2.s12])) ?_
    refine wy_mv (some 53) rfl rfl rfl rfl ?_
    refine wy_regionEnd ?_
    refine wy_block ?_
    refine wy_loop ?_
    exact close_way hn8 hcs (fun Ow3 w3 σ3 hS3 hE3 _ hl3 => wait_way Ow3 w3 σ3 hS3 hE3 hl3) n 0 Ow2 w2 _ (by omega) (hS2.of rfl rfl rfl rfl rfl rfl rfl rfl) (by simp [put_some, evT_tmp, hS2.s12]) (by simp [put_some]) (by simp [put_some, evT_const]) hE2 hC2 hl2
  obtain ⟨od, hway⟩ := hway
  have hBw : Bes Tryd.prog q (fun b => Su b ∨ b = w.heap.size) Sh (fun b => b = Cc) f2 _ _ w' t2 := ⟨g2.size, g2.a0, g2.old, g2.anc, fun b hb => ⟨by have := hb.1; omega, fun h => h.elim hb.2.1 fun e => by have := hb.1; omega⟩, fun b hb => by
    subst hb
    have := lt_of fc
    exact ⟨by omega, fun h => h.elim nc fun e => by omega⟩, g2.su⟩
  have hpay : PayAt C n w' := ⟨_, (tr nC (lt_of fC)).trans fC, by simp⟩
  obtain ⟨N, gs', w2, sl', t', T, cs', hrun, hJ⟩ := phase ok sl3 hBw hwgat hpay ⟨fun h => h.2.2.1 rfl, fun h => hCC h⟩ (fun b hb h => h.2.2.2 hb) ⟨⟨rfl, rfl⟩, fun _ _ _ => rfl⟩ hway
  obtain ⟨f3, a3, hk3, hB3⟩ := hJ.bes nob nob (fun _ h => h.elim) (fun _ h => h.elim)
  obtain ⟨σ3, hSg3, m3, hGo⟩ := hk3
  obtain ⟨N3, f4, gs4, d4, sl4, t4, k1, k2⟩ := kn_runs m3 f3 gs' a3 w2 sl' t' hB3 hJ.wg (hGo w2 hJ.wg)
  obtain ⟨w₀, hE0, hK0⟩ := hJ.snap
  have hE2 := hE0.keep fun b hb => hK0.block b (.inl hb)
  have hold : ∀ b, Sh b → w2.heap[b]? = w'.heap[b]? := fun b hb => (hE2.od b hb).2
  have hlt2 : w.heap.size < w2.heap.size := hJ.blk.sp_lt w.heap.size (.inr (.inl (.inr rfl)))
  have hso : ∀ b, Su b → w2.heap[b]? = w.heap[b]? := fun b hb => by
    have hbl := hB.su b hb
    have h1 : w2.heap[b]? = w'.heap[b]? := hJ.sus.2 b (.inl hb) (by show b ≠ w.heap.size; omega)
    rw [h1, hw']
    exact Below.heap_alloc (w.at d3) _ b hbl
  have hsu2 : SuC (fun b => Su b ∨ b = w.heap.size) w2 := by
    rintro b (hb | rfl)
    · obtain ⟨c', e, fr, h1⟩ := hsu b hb
      exact ⟨c', e, fr, (hso b hb).trans h1⟩
    · obtain ⟨st, sm, h1⟩ := hJ.wg
      exact ⟨_, _, _, h1⟩
  have hnW : ∀ {b : Nat}, b < w.heap.size → ¬ Su b → ¬ (Su b ∨ b = w.heap.size) := fun h1 h2 h => h.elim h2 fun e => by omega
  have hgl2 : Gl G0 (emp (fun b => Su b ∨ b = w.heap.size) (w2.at d4)) := fun g hg => by
    obtain ⟨c', e, fr, h1⟩ := hgl g hg
    have hgs : g < w.heap.size := by have := (Array.getElem?_eq_some_iff.1 h1).1; rw [emp_size] at this; exact this
    have hns : ¬ Su g := fun q => by have := hN g q; omega
    refine ⟨c', e, fr, ?_⟩
    rw [emp_out (hnW hgs hns)]
    have h2 := hold g ⟨hgs, hns, by omega, by omega⟩
    exact h2.trans ((tr hns hgs).trans h1)
  have hN2 : ∀ b, (Su b ∨ b = w.heap.size) → N0 ≤ b := by
    rintro b (hb | rfl)
    · exact hN b hb
    · have h1 := lt_of fC
      omega
  have hcp : (tp (emp (fun b => Su b ∨ b = w.heap.size) (w2.at d4)) τ d).cell? ⟨bp, 0, none⟩ = some (.slice (some ⟨C, 0, none⟩) n n) := (emp_cell (w := w2.at d4) (a := ⟨bp, 0, none⟩) (hnW (lt_of fp) np)).trans hE2.p.2
  obtain ⟨M, m5, t5, a5, pw5, l1, l2, l3, l4⟩ := rest_leads (N0 := N0) (c0 := c0) (cs := cs) hSg3 hcp _ _ ⟨q + n, fun b => Su b ∨ b = w.heap.size, f4, gs4, w2.at d4, sl4, τ, d, rfl, k2, hsu2, ⟨G0, hG0, hNE, hgl2⟩, hN2, rfl⟩
  refine ⟨N2 + (1 + (N + (N3 + M))), m5, t5, a5, pw5, runNT_seq r1 (runNT_seq (by rw [runNT_succ_next (r3.trans g1)]; simp [runNT]) (runNT_seq hrun (runNT_seq k1 l1))), l2, l3, ?_⟩
  subst l4
  have hsz2 : (tp (emp (fun b => Su b ∨ b = w.heap.size) (w2.at d4)) τ d).heap.size = w2.heap.size := emp_size _ _
  have hsz1 : (tp (emp Su w) τ d).heap.size = w.heap.size := emp_size _ _
  refine ⟨⟨?_, ?_, by rw [hsz1, hsz2]; omega⟩, fun b hb h1 h2 => ?_, fun k hk => ?_⟩
  · show w2.os = w.os
    rw [hJ.sus.1.1]
    show w'.os = w.os
    rw [hw']
    rfl
  · show w2.output = w.output
    rw [hJ.sus.1.2]
    show w'.output = w.output
    rw [hw']
    rfl
  · rw [hsz1] at hb
    by_cases hs : Su b
    · obtain ⟨c', e, fr, h3⟩ := hsu b hs
      exact (emp_in (w := w2.at d4) (Su := fun b => Su b ∨ b = w.heap.size) (.inl hs) ((hso b hs).trans h3)).trans (emp_in (w := w) hs h3).symm
    · exact (emp_out (w := w2.at d4) (hnW hb hs)).trans ((hold b ⟨hb, hs, h1, h2⟩).trans (tr hs hb))
  · obtain ⟨v, hv, b, o, cp, rfl, iu, hl, hso', hone⟩ := hJ.told k hk
    have hnb : ¬ (Su b ∨ b = w.heap.size) := fun h => hso'.elim (fun x => hJ.blk.sh_sp _ b x (.inr (.inl h))) fun x => hJ.blk.ow_sp _ b x (.inr (.inl h))
    have eb : (tp (emp (fun b => Su b ∨ b = w.heap.size) (w2.at d4)) τ d).heap[b]? = w2.heap[b]? := emp_out (w := w2.at d4) hnb
    exact ⟨_, (emp_cell (w := w2.at d4) (a := ⟨C, k, none⟩) (hnW (lt_of fC) nC)).trans hv, b, o, cp, rfl, IsU.of_block iu eb, hl, .inl trivial, hone.of eb⟩
set_option maxRecDepth 100000 in
set_option maxHeartbeats 4000000 in
theorem workTogether_leads (hG : Good zs dl) (hn : prd2 dl ≤ 1024) (hx : x < dl.length) (hn8 : n ≤ 8) (hn0 : ¬ n = 0) (hm : Tryd.prog.follows .mixedOrders = true) (hT : ∀ t ∈ TT, Vld (nln dl x) x t) (hTT : TT.length ≤ 64) (hTp : 0 < TT.length)
    (hz : IsZ pw (.slice (some ⟨bz, oz, none⟩) dl.length cz) zs) (hoz : One pw bz) (ha : IsU pw (.slice (some ⟨bA, oA, none⟩) (prd2 dl) cA) xs) (hla : xs.length = prd2 dl) (hoa : One pw bA) (hzc : ∃ o v, pw.cell? ⟨bz, o, none⟩ = some v) (hac : ∃ o v, pw.cell? ⟨bA, o, none⟩ = some v) (hNs : N0 ≤ pw.heap.size)
    (htab : Tab pw) (htabs : ∀ g ∈ tabsL, g < N0 ∧ One pw g) (hph : ∀ i, i < TT.length → ∀ j, j < 3 → pw.cell? ⟨bh, oh + 3 * i + j, none⟩ = some (.int .i64 ((TT.getD i []).getD j 0))) :
    Leads Tryd.prog N0 (G (Frame.enter Tryd.prog 37 #[.slice (some ⟨bz, oz, none⟩) dl.length cz, .slice (some ⟨bA, oA, none⟩) (prd2 dl) cA, .slice (some ⟨bh, oh, none⟩) TT.length ch, .int .i64 (n : Int), .bool back] .normal) (c0 :: cs)) pw
      fun a' pw' => ∃ C, a' = G (c0.finish (.slice (some ⟨C, 0, none⟩) n n)) cs ∧ Blw pw pw' ∧ pw.heap.size ≤ C ∧ ToldW dl xs back n TT C pw' := by
  rw [enter_fd #[.slice (some ⟨bz, oz, none⟩) dl.length cz, .slice (some ⟨bA, oA, none⟩) (prd2 dl) cA, .slice (some ⟨bh, oh, none⟩) TT.length ch, .int .i64 (n : Int), .bool back] Tryd.func37 rfl (show 5 ≤ 61 by omega)]
  refine leads_seq ?_
  refine leads_region [0, 1, 2, 3] rfl ?_
  refine leads_new (some 5) (fun B => .pointer (some ⟨B, 0, none⟩)) (.cells #[.slice (some ⟨bz, oz, none⟩) dl.length cz] 22) rfl rfl rfl (fun w => run_ev (by simp [execOp, go_sem, evT_tmp]) (by simp [execOp, go_sem, evT_tmp])) ?_
  have b1 := (Blw.refl pw).alloc (.cells #[.slice (some ⟨bz, oz, none⟩) dl.length cz] 22)
  have f1 := alloc_at pw (.cells #[.slice (some ⟨bz, oz, none⟩) dl.length cz] 22)
  have s1 : (pw.alloc (.cells #[.slice (some ⟨bz, oz, none⟩) dl.length cz] 22)).heap.size = pw.heap.size + 1 := by simp
  generalize pw.alloc (.cells #[.slice (some ⟨bz, oz, none⟩) dl.length cz] 22) = p1 at b1 f1 s1 ⊢
  refine leads_new (some 6) (fun B => .pointer (some ⟨B, 0, none⟩)) (.cells #[.slice (some ⟨bA, oA, none⟩) (prd2 dl) cA] 23) rfl rfl rfl (fun w => run_ev (by simp [execOp, go_sem, evT_tmp, put_some]) (by simp [execOp, go_sem, evT_tmp, put_some])) ?_
  have b2 := b1.alloc (.cells #[.slice (some ⟨bA, oA, none⟩) (prd2 dl) cA] 23)
  have f2 := alloc_at p1 (.cells #[.slice (some ⟨bA, oA, none⟩) (prd2 dl) cA] 23)
  have f21 := at_alloc (o' := .cells #[.slice (some ⟨bA, oA, none⟩) (prd2 dl) cA] 23) f1
  have s2 : (p1.alloc (.cells #[.slice (some ⟨bA, oA, none⟩) (prd2 dl) cA] 23)).heap.size = pw.heap.size + 2 := by simp [s1]
  rw [s1] at f2 ⊢
  generalize p1.alloc (.cells #[.slice (some ⟨bA, oA, none⟩) (prd2 dl) cA] 23) = p2 at b2 f2 f21 s2 ⊢
  refine leads_new (some 9) (fun B => .pointer (some ⟨B, 0, none⟩)) (.cells #[.bool back] 4) rfl rfl rfl (fun w => run_ev (by simp [execOp, go_sem, evT_tmp, put_some]) (by simp [execOp, go_sem, evT_tmp, put_some])) ?_
  have b3 := b2.alloc (.cells #[.bool back] 4)
  have f3 := alloc_at p2 (.cells #[.bool back] 4)
  have f31 := at_alloc (o' := .cells #[.bool back] 4) f21
  have f32 := at_alloc (o' := .cells #[.bool back] 4) f2
  have s3 : (p2.alloc (.cells #[.bool back] 4)).heap.size = pw.heap.size + 3 := by simp [s2]
  rw [s2] at f3 ⊢
  generalize p2.alloc (.cells #[.bool back] 4) = p3 at b3 f3 f31 f32 s3 ⊢
  clear b1 b2 f1 f2 f21 s1 s2
  refine leads_mv (some 10) rfl rfl rfl (.inr rfl) ?_
  refine leads_regionEnd ?_
  refine leads_seq ?_
  refine leads_region [0, 1, 2, 3] rfl ?_
  refine leads_mv (some 20) rfl rfl rfl (.inl rfl) ?_
  refine leads_new (some 21) (fun B => .slice (some ⟨B, 0, none⟩) n n) (.cells (List.replicate n (.slice none 0 0)).toArray 23) rfl rfl rfl (fun w => mkU_run (by simp [evT_tmp, put_some]) hn8) ?_
  have b4 := b3.alloc (.cells (List.replicate n (.slice none 0 0)).toArray 23)
  have f4 := alloc_at p3 (.cells (List.replicate n (.slice none 0 0)).toArray 23)
  have f41 := at_alloc (o' := .cells (List.replicate n (.slice none 0 0)).toArray 23) f31
  have f42 := at_alloc (o' := .cells (List.replicate n (.slice none 0 0)).toArray 23) f32
  have f43 := at_alloc (o' := .cells (List.replicate n (.slice none 0 0)).toArray 23) f3
  have s4 : (p3.alloc (.cells (List.replicate n (.slice none 0 0)).toArray 23)).heap.size = pw.heap.size + 4 := by simp [s3]
  rw [s3] at f4 ⊢
  generalize p3.alloc (.cells (List.replicate n (.slice none 0 0)).toArray 23) = p4 at b4 f4 f41 f42 f43 s4 ⊢
  clear b3 f3 f31 f32 s3
  refine leads_new (some 11) (fun B => .pointer (some ⟨B, 0, none⟩)) (.cells #[.slice none 0 0] 74) rfl rfl rfl (fun w => run_ev (by simp [execOp, go_sem]) (by simp [execOp, go_sem])) ?_
  have b5 := b4.alloc (.cells #[.slice none 0 0] 74)
  have f5 := alloc_at p4 (.cells #[.slice none 0 0] 74)
  have f51 := at_alloc (o' := .cells #[.slice none 0 0] 74) f41
  have f52 := at_alloc (o' := .cells #[.slice none 0 0] 74) f42
  have f53 := at_alloc (o' := .cells #[.slice none 0 0] 74) f43
  have f54 := at_alloc (o' := .cells #[.slice none 0 0] 74) f4
  have s5 : (p4.alloc (.cells #[.slice none 0 0] 74)).heap.size = pw.heap.size + 5 := by simp [s4]
  rw [s4] at f5 ⊢
  generalize p4.alloc (.cells #[.slice none 0 0] 74) = p5 at b5 f5 f51 f52 f53 f54 s5 ⊢
  clear b4 f4 f41 f42 f43 s4
  refine leads_set1 none ⟨pw.heap.size + 4, 0, none⟩ (.slice none 0 0) (.slice (some ⟨pw.heap.size + 3, 0, none⟩) n n) rfl rfl rfl (cell0 f5) (thaw f5) (fun w hc hz => run_ev (by simp [execOp, go_sem, evT_tmp, put_some, stored, hc, hz]) (by simp [execOp, go_sem, evT_tmp, put_some, events_store Tryd.prog w #[] ⟨pw.heap.size + 4, 0, none⟩ (.slice (some ⟨pw.heap.size + 3, 0, none⟩) n n) .plain rfl, hc, hz])) ?_
  have b6 := b5.set (a := ⟨pw.heap.size + 4, 0, none⟩) (by show pw.heap.size ≤ pw.heap.size + 4; omega) (.slice (some ⟨pw.heap.size + 3, 0, none⟩) n n)
  have f6 := at_set0 (v := .slice (some ⟨pw.heap.size + 3, 0, none⟩) n n) f5
  have f61 := at_set (a := ⟨pw.heap.size + 4, 0, none⟩) (v := .slice (some ⟨pw.heap.size + 3, 0, none⟩) n n) f51 (by show pw.heap.size ≠ pw.heap.size + 4; omega)
  have f62 := at_set (a := ⟨pw.heap.size + 4, 0, none⟩) (v := .slice (some ⟨pw.heap.size + 3, 0, none⟩) n n) f52 (by show pw.heap.size + 1 ≠ pw.heap.size + 4; omega)
  have f63 := at_set (a := ⟨pw.heap.size + 4, 0, none⟩) (v := .slice (some ⟨pw.heap.size + 3, 0, none⟩) n n) f53 (by show pw.heap.size + 2 ≠ pw.heap.size + 4; omega)
  have f64 := at_set (a := ⟨pw.heap.size + 4, 0, none⟩) (v := .slice (some ⟨pw.heap.size + 3, 0, none⟩) n n) f54 (by show pw.heap.size + 3 ≠ pw.heap.size + 4; omega)
  have s6 : (p5.setCell ⟨pw.heap.size + 4, 0, none⟩ (.slice (some ⟨pw.heap.size + 3, 0, none⟩) n n)).heap.size = pw.heap.size + 5 := by simpa [World.setCell] using s5
  generalize p5.setCell ⟨pw.heap.size + 4, 0, none⟩ (.slice (some ⟨pw.heap.size + 3, 0, none⟩) n n) = p6 at b6 f6 f61 f62 f63 f64 s6 ⊢
  clear b5 f5 f51 f52 f53 f54 s5
  refine leads_regionEnd ?_
  refine leads_seq ?_
  refine leads_region [0, 1, 2] rfl ?_
  refine leads_mv (some 22) rfl rfl rfl (.inl rfl) ?_
  refine leads_new (some 23) (fun B => .slice (some ⟨B, 0, none⟩) n n) (.cells (chRow n []) 122) rfl rfl rfl (fun w => mkCh_run (by simp [evT_tmp, put_some, put_none]) hn8) ?_
  have b7 := b6.alloc (.cells (chRow n []) 122)
  have f7 := alloc_at p6 (.cells (chRow n []) 122)
  have f71 := at_alloc (o' := .cells (chRow n []) 122) f61
  have f72 := at_alloc (o' := .cells (chRow n []) 122) f62
  have f73 := at_alloc (o' := .cells (chRow n []) 122) f63
  have f74 := at_alloc (o' := .cells (chRow n []) 122) f64
  have f75 := at_alloc (o' := .cells (chRow n []) 122) f6
  have s7 : (p6.alloc (.cells (chRow n []) 122)).heap.size = pw.heap.size + 6 := by simp [s6]
  rw [s6] at f7 ⊢
  generalize p6.alloc (.cells (chRow n []) 122) = p7 at b7 f7 f71 f72 f73 f74 f75 s7 ⊢
  clear b6 f6 f61 f62 f63 f64 s6
  refine leads_mv (some 12) rfl rfl rfl (.inr rfl) ?_
  refine leads_regionEnd ?_
  refine leads_seq ?_
  refine leads_region [0] rfl ?_
  have bl : ∀ {b : Nat}, b < pw.heap.size → p7.heap[b]? = pw.heap[b]? := fun h => b7.block _ h
  have lh : bh < pw.heap.size := cell_lt (hph 0 hTp 0 (by omega))
  have hN : N0 ≤ pw.heap.size := hNs
  refine Leads.mono (phase_leads (ch := ch) (x := x) (back := back) (bs := pw.heap.size) (ba := pw.heap.size + 1) (bb := pw.heap.size + 2) (bp := pw.heap.size + 4) (C := pw.heap.size + 3) (Cc := pw.heap.size + 5) hG hn hx hn8 hn0 hm hT hTT hTp
    (IsZ.of_block hz (bl hoz.lt)) (let ⟨o, v, h⟩ := hzc; ⟨o, v, cell_same h (bl hoz.lt)⟩) (hoz.of (bl hoz.lt)) (IsU.of_block ha (bl hoa.lt)) (let ⟨o, v, h⟩ := hac; ⟨o, v, cell_same h (bl hoa.lt)⟩) hla (hoa.of (bl hoa.lt)) (Tab.of_blocks htab fun g hg => bl (htabs g hg).2.lt) (fun g hg => ⟨(htabs g hg).1, (htabs g hg).2.of (bl (htabs g hg).2.lt)⟩) (fun i hi j hj => cell_same (hph i hi j hj) (bl lh))
    f71 f72 f73 f75 f74 f7 (by omega) (by omega) ?_ (by simp [put_some, put_none]) (by simp [put_some, put_none]) (by simp [put_some, put_none]) (by simp [put_some, put_none]) (by simp [put_some, put_none]) (by simp [put_some, put_none]) (by simp [put_some, put_none, evT_tmp])) ?_
  · have hz' := hoz.lt
    have ha' := hoa.lt
    rintro b (h | h | h | h | h | h | h | h)
    all_goals first | (have := (htabs b h).2.lt; omega) | omega
  · rintro a' p' ⟨h1, ⟨h2, h3, h4⟩, h5, h6⟩
    refine ⟨pw.heap.size + 3, h1, ⟨h2.trans b7.os, h3.trans b7.output, by omega, fun k hk => (h5 k (by omega) (by omega) (by omega)).trans (bl hk)⟩, by omega, h6⟩
end
end Go.Proofs.YtckoipoejaafhaaDoor.Cc
