/-
 Texts that stood one behind the other,as one.
-/
import Derived.Test.YtckoipoejaafhaaDoorPlanCAll
import Derived.Test.YtckoipoejaafhaaDoorCrewMAll
import Derived.BigQuiet
import Derived.Deep.RegionWith
import Derived.Deep.Cut
import Derived.Test.YtckoipoejaafhaaDoorCeL
namespace Go.Proofs.YtckoipoejaafhaaDoor.Cc
open Go.RowKit
theorem gth_dealtTo (w : World) (k W : Nat) (hk : k <= 1000000) (hW : 1 <= W) (hW8 : W <= 8) :
   Calls Tryd.prog 81 #[.int .i64 (k : Int),.int .i64 (W : Int)] w fun e w' => e = .returned (.int .i64 ((k % W : Nat) : Int)) /\ w' = w := by
 have hmod : Int.tmod (k : Int) (W : Int) = ((k % W : Nat) : Int) := by rw [Int.tmod_eq_emod_of_nonneg (by omega),Int.natCast_emod]
 have hml : k % W < W := Nat.mod_lt _ (by omega)
 have hWz : ¬ (W : Int) = 0 := by omega
 have hwr : IntKind.i64.wrap ((k % W : Nat) : Int) = ((k % W : Nat) : Int) := wraps_i64 _ (Int.natCast_nonneg _) (by omega)
 go_enter Tryd.func81,Tryd.ntmps81
 go_wp2
 go_ret
 exact ⟨rfl,rfl⟩
theorem row_u64 {w : World} {g o : Nat} {xs : List Nat} {v : Value} (h : RowU w g xs) (hc : w.cell? ⟨g,o,none⟩ = some v) : ∃ z : Int,v = .int .u64 z := by
 have h' : w.heap[g]? = some (.cells (cellsU xs).toArray 34) := h
 simp only [World.cell?,h'] at hc
 simp [cellsU] at hc
 obtain ⟨a,_,rfl⟩ := hc
 exact ⟨_,rfl⟩
set_option maxRecDepth 100000 in
set_option maxHeartbeats 8000000 in
theorem exec_gather (w : World) (v : Value) (zs : List Int) (ds : List Nat) (x n : Nat) (T : List (List Int)) (Q : Nat -> List Nat) (bh oh ch C : Nat) (h : IsZ w v zs) (hG : Good zs ds) (hn : prd2 ds <= 1024) (hx : x < ds.length) (hn1 : 1 <= n) (hn8 : n <= 8) (hTl : T.length <= 64) (hV : ∀ t ∈ T,Vld (nln ds x) x t)
   (hph : ∀ i,i < T.length -> ∀ j,j < 3 -> w.cell? ⟨bh,oh + 3 * i + j,none⟩ = some (.int .i64 ((T.getD i []).getD j 0)))
   (hC : ∀ k,k < n -> ∃ b o c,w.cell? ⟨C,k,none⟩ = some (.slice (some ⟨b,o,none⟩) (prd2 ds) c) /\ IsU w (.slice (some ⟨b,o,none⟩) (prd2 ds) c) (Q k) /\ (Q k).length = prd2 ds) :
   Calls Tryd.prog 38 #[v,.int .i64 (x : Int),.slice (some ⟨bh,oh,none⟩) T.length ch,.slice (some ⟨C,0,none⟩) n n] w fun e w' => ∃ g,e = .returned (.slice (some ⟨g,0,none⟩) (prd2 ds) (prd2 ds)) /\ w.heap.size <= g /\ RowU w' g (gat ds x (fun i => Q (i % n)) T T.length) /\ Below w.heap.size w w' := by
 have hS : Shp ds := hG.2.2.2
 have hu0 := beh_pos hS (x + 1)
 have hd0 := P2_pos (hS.at x hx)
 have hnl : nln ds x <= 1024 := by rw [<- nln_div hS x hx]; exact Nat.le_trans (Nat.div_le_self _ _) hn
 have hd9 := sz_le hS hn x hx
 have hpslt : Hid (∀ i k,i < nln ds x -> k < sz ds x -> ps (beh ds (x + 1)) (sz ds x) i k < prd2 ds) := fun i k hi hk => by
   rw [prd2_at ds x hx]; exact ps_lt hu0 hi hk
 have hsets : Hid (∀ (q old : List Nat) f i k,k < sz ds x -> (cpK ds q old x f (f + i) k).set (ps (beh ds (x + 1)) (sz ds x) (f + i) k) (q.getD (ps (beh ds (x + 1)) (sz ds x) (f + i) k) 0) = cpK ds q old x f (f + i) (k + 1)) := fun q old f i k hk => cpK_set hS q old x f (f + i) k (by omega) hk
 have hlines : Hid (∀ (q old : List Nat) f i,cpK ds q old x f (f + i) (sz ds x) = cpK ds q old x f (f + (i + 1)) 0) := fun q old f i => cpK_line hS q old x hx f (f + i)
 have hstart : Hid (∀ i f,cpK ds (Q (i % n)) (gat ds x (fun i => Q (i % n)) T i) x f (f + 0) 0 = gat ds x (fun i => Q (i % n)) T i) := fun i f => cpK_start _ (gat_length _ _ _ _ _) x f
 have hnext : Hid (∀ i (f l : Nat),i < T.length -> (T.getD i []).getD 1 0 = (f : Int) -> (T.getD i []).getD 2 0 = (l : Int) -> cpK ds (Q (i % n)) (gat ds x (fun i => Q (i % n)) T i) x f l 0 = gat ds x (fun i => Q (i % n)) T (i + 1)) := fun i f l _ h1 h2 => by
   show _ = cpK _ _ _ _ _ _ _
   rw [h1,h2]
   rfl
 have hcl : Hid (∀ q old f i k,(cpK ds q old x f i k).length = prd2 ds) := fun q old f i k => cpK_length _ _ _ _ _ _ _
 have hg0 : Hid (List.replicate (prd2 ds) 0 = gat ds x (fun i => Q (i % n)) T 0) := rfl
 have hlp : Hid (∀ i t,t < sz ds x -> (lin ds x (ps (beh ds (x + 1)) (sz ds x) i 0) (sz ds x)).getD t 0 = ps (beh ds (x + 1)) (sz ds x) i t) := fun i t ht => lin_ps ds x i t ht
 have hll : Hid (∀ i,(lin ds x (ps (beh ds (x + 1)) (sz ds x) i 0) (sz ds x)).length = sz ds x) := fun i => lin_length _ _ _ _
 have c2 : Hid (∀ W,Below w.heap.size w W -> Calls Tryd.prog 83 #[v,.int .i64 (x : Int)] W fun e w' => ∃ bl ol cl,e = .returned (.tuple #[.slice (some ⟨bl,ol,none⟩) (nln ds x) cl,.int .i64 0]) /\ nln ds x <= cl /\ (∀ i,i < nln ds x -> ∃ u,w'.cell? ⟨bl,ol + i,none⟩ = some u /\ IsI w' u (lin ds x (ps (beh ds (x + 1)) (sz ds x) i 0) (sz ds x))) /\ Below W.heap.size W w') := fun W hb => by
   have c := many_Lines_ok W v zs ds x (h.below hb) hG hn hx
   rw [lns_eq hS x hx] at c
   refine c.mono ?_
   rintro e w' ⟨u,rfl,⟨al,cpl,rfl,hcp,-,hLc⟩,hb2⟩
   have hnp : 0 < nln ds x := by
     have h1 := prd2_pos hS.pos
     rw [prd2_at ds x hx] at h1
     exact Nat.mul_pos hu0 (Nat.pos_of_ne_zero fun e => by rw [e,Nat.mul_zero] at h1; omega)
   have hLl : ((List.range (nln ds x)).map fun i => lin ds x (ps (beh ds (x + 1)) (sz ds x) i 0) (sz ds x)).length = nln ds x := by simp
   rw [hLl] at hcp hLc ⊢
   obtain ⟨bl,ol,u0,rfl,-⟩ := hLc 0 hnp
   refine ⟨bl,ol,cpl,rfl,hcp,fun i hi => ?_,hb2⟩
   obtain ⟨b9,o9,u9,e9,hc9,hI9⟩ := hLc i hi
   simp only [Option.some.injEq,Addr.mk.injEq,and_true] at e9
   obtain ⟨rfl,rfl⟩ := e9
   refine ⟨u9,hc9,?_⟩
   have e : (((List.range (nln ds x)).map fun i => lin ds x (ps (beh ds (x + 1)) (sz ds x) i 0) (sz ds x)).getD i []) = lin ds x (ps (beh ds (x + 1)) (sz ds x) i 0) (sz ds x) := by simp [List.getD,hi]
   rw [e] at hI9
   exact hI9
 have c3 := fun W k (hk : k <= 1000000) => gth_dealtTo W k n hk hn1 hn8
 have hC' : Hid (∀ k,k < n -> ∃ b o c,w.cell? ⟨C,k,none⟩ = some (.slice (some ⟨b,o,none⟩) (prd2 ds) c) /\ IsU w (.slice (some ⟨b,o,none⟩) (prd2 ds) c) (Q k) /\ (Q k).length = prd2 ds) := hC
 have hV' : Hid (∀ t ∈ T,Vld (nln ds x) x t) := hV
 have hph' : Hid (∀ i,i < T.length -> ∀ j,j < 3 -> w.cell? ⟨bh,oh + 3 * i + j,none⟩ = some (.int .i64 ((T.getD i []).getD j 0))) := hph
 obtain ⟨b0,o0,c0,hc0,-,-⟩ := hC 0 (by omega)
 obtain ⟨av,cv,rfl,-⟩ := h
 clear hG hS hx hC hV hph hu0
 generalize gat ds x (fun i => Q (i % n)) T = W at *
 generalize hde : sz ds x = d at *
 clear hde
 generalize hue : beh ds (x + 1) = u at *
 clear hue
 generalize hNe : prd2 ds = N at *
 clear hNe
 generalize hMe : nln ds x = M at *
 clear hMe
 have hn9 : N <= 1000000000 := by omega
 go_enter Tryd.func38,Tryd.ntmps38
 go_wp2_with (first
   | (at_make; refine wp_makeG rfl _ _ rfl N rfl rfl hn9 ?_; intro gr w2 hgr hrow hb; clear hn9)
   | (go_at_call 83; refine Calls.mono (c2.out _ hb) ?_; rintro e w3 ⟨bl,ol,cl,rfl,hcl9,hL,hb3⟩; clear c2))
 have hgrw : w.heap.size <= gr := Nat.le_of_eq hgr.out.symm
 have hB3 := hb.trans (hb3.mono hb.size)
 have hrow3 := (hrow.below hb3).cast hg0.out
 clear hgr hrow hb hb3 hc0
 go_loopw [32] (fun vi wr => ∃ i : Nat,i <= T.length /\ vi = .int .i64 (i : Int) /\ RowU wr gr (W i) /\ Bar gr w3 wr)
   (fun vi _ => T.length - (intOf vi).toNat)
 case atStart => exact ⟨0,Nat.zero_le _,rfl,hrow3,Bar.refl _ _⟩
 case round =>
   have hgr3 := hrow3.lt
   have hr3 : Hid (RowU w3 gr (W 0)) := hrow3
   clear hrow3
   obtain ⟨i,hi,rfl,hrow,hbar⟩ := hrel
   have hBi : Below w.heap.size w wr := hB3.trans (hbar.below hgrw hB3.size)
   by_cases hlt : i < T.length
   · have hv := hV'.out _ (getD_mem hlt)
     obtain ⟨f,hf⟩ := Int.eq_ofNat_of_zero_le hv.2.1
     obtain ⟨l,hl⟩ := Int.eq_ofNat_of_zero_le (show 0 <= (T.getD i []).getD 2 0 by have := hv.2.1; have := hv.2.2.2; omega)
     have hfl : f < l := by have := hv.2.2.2; omega
     have hlM : l <= M := by have := hv.2.2.1; omega
     have q0 := (hBi.cell (block_lt (hph'.out i hlt 0 (by decide)))).trans (hph'.out i hlt 0 (by decide))
     have q1 := (hBi.cell (block_lt (hph'.out i hlt 1 (by decide)))).trans (hph'.out i hlt 1 (by decide))
     have q2 := (hBi.cell (block_lt (hph'.out i hlt 2 (by decide)))).trans (hph'.out i hlt 2 (by decide))
     have hnx := hnext.out i f l hlt hf hl
     have hst := hstart.out i f
     rw [hv.1] at q0
     rw [hf] at q1
     rw [hl] at q2
     rw [show oh + 3 * i + 0 = oh + i * 3 by omega] at q0
     rw [show oh + 3 * i + 1 = oh + i * 3 + 1 by omega] at q1
     rw [show oh + 3 * i + 2 = oh + i * 3 + 2 by omega] at q2
     have hmod : i % n < n := Nat.mod_lt _ (by omega)
     obtain ⟨bp,op,cp,hcp,hUp,hQl⟩ := hC'.out (i % n) hmod
     have hcp1 := (hBi.cell (block_lt hcp)).trans hcp
     have hA0 : (wr.alloc (.cells #[.int .i64 (x : Int),.int .i64 (f : Int),.int .i64 (l : Int)] 71)).cell? ⟨wr.heap.size,0,none⟩ = some (.int .i64 (x : Int)) := by rw [World.cell?_alloc_at _ _ _ _ rfl]; rfl
     have hA1 : (wr.alloc (.cells #[.int .i64 (x : Int),.int .i64 (f : Int),.int .i64 (l : Int)] 71)).cell? ⟨wr.heap.size,1,none⟩ = some (.int .i64 (f : Int)) := by rw [World.cell?_alloc_at _ _ _ _ rfl]; rfl
     have hA2 : (wr.alloc (.cells #[.int .i64 (x : Int),.int .i64 (f : Int),.int .i64 (l : Int)] 71)).cell? ⟨wr.heap.size,2,none⟩ = some (.int .i64 (l : Int)) := by rw [World.cell?_alloc_at _ _ _ _ rfl]; rfl
     have hbW := below_alloc1 wr (.cells #[.int .i64 (x : Int),.int .i64 (f : Int),.int .i64 (l : Int)] 71)
     have hcp2 := (hbW.cell (block_lt hcp1)).trans hcp1
     have hi6 : i <= 1000000 := by omega
     have c3i := fun W => c3 W i hi6
     clear hv hf hl hph' hnext hstart hV' hcp c3
     generalize i % n = im at *
     go_wp2_with (go_at_call 81; refine Calls.mono (c3i _) ?_; rintro e w' ⟨rfl,hw⟩; rw [hw]; clear hw)
     obtain ⟨m,hm⟩ : ∃ m,l = f + m := ⟨l - f,by omega⟩
     have hlf : l - f = m := by omega
     rw [hlf]
     have hbar4 := hbar.andThen hbW
     have hrow4 := (hrow.below hbW).cast hst.symm
     have hB4 := hBi.trans (hbW.mono hBi.size)
     rw [hm] at hnx
     have hnx' : Hid (cpK ds (Q im) (W i) x f (f + m) 0 = W (i + 1)) := hnx
     have hm9 : m <= 1024 := by omega
     have hfM : f + m <= M := by omega
     clear hcp1 hcp2 hA0 hA1 hA2 q0 q1 q2 hbW hrow hbar hBi hst hnx c3i hlf
     generalize wr.alloc (.cells #[.int .i64 (x : Int),.int .i64 (f : Int),.int .i64 (l : Int)] 71) = w4 at *
     generalize wr.heap.size = gt at *
     go_loopw [51] (fun vj wr => ∃ j : Nat,j <= m /\ vj = .int .i64 (j : Int) /\ RowU wr gr (cpK ds (Q im) (W i) x f (f + j) 0) /\ Bar gr w4 wr)
       (fun vj _ => m - (intOf vj).toNat)
     case atStart => exact ⟨0,Nat.zero_le _,rfl,hrow4,Bar.refl _ _⟩
     case round =>
       clear hrow4
       obtain ⟨j,hj,rfl,hrow,hbj⟩ := hrel
       have hbw3 := hbar4.trans hbj
       by_cases hjm : j < m
       · obtain ⟨ul,hcl2,hI⟩ := hL (f + j) (by omega)
         have hne1 : bl ≠ gr := by
           rintro rfl
           obtain ⟨z,rfl⟩ := row_u64 hr3.out hcl2
           obtain ⟨_,_,e,_⟩ := hI
           cases e
         obtain ⟨au,cu,rfl,-,-,hcI⟩ := hI
         rw [hll.out] at hcI hcl2
         obtain ⟨gl,og,rfl,hcI0⟩ := hcI 0 hd0
         have hne2 : gl ≠ gr := by
           rintro rfl
           obtain ⟨z,e⟩ := row_u64 hr3.out hcI0
           cases e
         have hct : ∀ t,t < d -> w3.cell? ⟨gl,og + t,none⟩ = some (.int .i64 ((ps u d (f + j) t : Nat) : Int)) := fun t ht => by
           obtain ⟨g9,o9,e9,hc9⟩ := hcI t ht
           simp only [Option.some.injEq,Addr.mk.injEq,and_true] at e9
           obtain ⟨rfl,rfl⟩ := e9
           rw [hlp.out _ t ht] at hc9
           exact hc9
         have hcl3 := (World.cell?_of_block (hbw3.block bl (block_lt hcl2) hne1)).trans hcl2
         rw [show ol + (f + j) = ol + f + j by omega] at hcl3
         have hps := fun k (hk : k < d) => hpslt.out (f + j) k (by omega) hk
         have hcU : ∀ k,k < d -> w.cell? ⟨bp,op + ps u d (f + j) k,none⟩ = some (.int .u64 (((Q im).getD (ps u d (f + j) k) 0 : Nat) : Int)) := fun k hk => hUp.cell _ (by rw [hQl]; exact hps k hk)
         have hs2 : Hid (∀ k,k < d -> (cpK ds (Q im) (W i) x f (f + j) k).set (ps u d (f + j) k) ((Q im).getD (ps u d (f + j) k) 0) = cpK ds (Q im) (W i) x f (f + j) (k + 1)) := fun k hk => hsets.out _ _ _ _ _ hk
         obtain ⟨w5,hw5⟩ : ∃ w5 : World,w5 = wr := ⟨_,rfl⟩
         rw [<- hw5] at hrow hbj hbw3 hcl3 ⊢
         clear hw5 hcl2 hcI hcI0
         go_wp2
         go_loopw [57] (fun vk wr => ∃ k : Nat,k <= d /\ vk = .int .i64 (k : Int) /\ RowU wr gr (cpK ds (Q im) (W i) x f (f + j) k) /\ Bar gr w5 wr)
           (fun vk _ => d - (intOf vk).toNat)
         case atStart => exact ⟨0,Nat.zero_le _,rfl,hrow,Bar.refl _ _⟩
         case round =>
           clear hrow
           obtain ⟨k,hk,rfl,hrowk,hbk⟩ := hrel
           by_cases hkd : k < d
           · have p1 := hps k hkd
             have hb3k := hbw3.trans hbk
             have hBk : Below w.heap.size w wr := hB3.trans (hb3k.below hgrw hB3.size)
             have p2 := (World.cell?_of_block (hb3k.block gl (block_lt (hct k hkd)) hne2)).trans (hct k hkd)
             have p3 := (hBk.cell (block_lt (hcU k hkd))).trans (hcU k hkd)
             have p4 := hrowk.cell (ps u d (f + j) k) (by rw [hcl.out]; exact p1)
             have p5 := hrowk.frozen (ps u d (f + j) k)
             have p6 := hrowk.set (ps u d (f + j) k) ((Q im).getD (ps u d (f + j) k) 0)
             rw [hs2.out k hkd] at p6
             have hB2 := hbk.setCell (ps u d (f + j) k) (.int .u64 (((Q im).getD (ps u d (f + j) k) 0 : Nat) : Int))
             clear hrowk hbk hb3k hBk hct hcU hps hs2 hbw3 hbj hbar4 hB4 hUp hL hcl3
             generalize (Q im).getD (ps u d (f + j) k) 0 = z at *
             generalize (cpK ds (Q im) (W i) x f (f + j) k).getD (ps u d (f + j) k) 0 = old at *
             generalize ps u d (f + j) k = pk at *
             go_wp2
             go_roundw
             case rel => exact ⟨k + 1,by omega,by go_num,p6,hB2⟩
             case measure => simp only [intOf]; omega
           · have e : d = k := by omega
             subst e
             rw [hlines.out] at hrowk
             have hbN : Bar gr w4 wr := hbj.trans hbk
             clear hct hcU hps hs2 hbw3 hbj hbar4 hB4 hUp hL hcl3 hbk
             go_wp2
             go_roundw
             case rel => exact ⟨j + 1,by omega,by go_num,hrowk,hbN⟩
             case measure => simp only [intOf]; omega
       · have e : m = j := by omega
         subst e
         rw [hnx'.out] at hrow
         clear hbj hbar4 hB4 hUp hL
         go_wp2
         go_roundw
         case rel => exact ⟨i + 1,by omega,by go_num,hrow,hbw3⟩
         case measure => simp only [intOf]; omega
   · have e : T.length = i := by omega
     rw [<- e] at hrow ⊢
     clear hL hbar
     go_wp2
     go_ret
     exact ⟨gr,rfl,hgrw,hrow,hBi⟩
end Go.Proofs.YtckoipoejaafhaaDoor.Cc

namespace Go.Proofs.YtckoipoejaafhaaDoor.Cc
open Go Go.Conc Go.RowKit
noncomputable def tgB : Code := Tryd.f13.body.getD .skip
noncomputable def tg4 : Code := sq2 (sq2 tgB)
noncomputable def tg5 : Code := sq2 tg4
noncomputable def tgL : Code := lop (blk (sq2 (sq1 tg5)))
noncomputable def tgE : Code := sq2 tg5
section
variable {P : Program} {N0 : Nat} {pw : World} {Q : Goroutine -> World -> Prop} {fn : FuncId} {n : Nat} {ds : List Deferred} {σ : Nat -> Value} {k : List Item} {cs : List Frame}
theorem leads_block {id : Nat} {x : Code} (h : Leads P N0 (G (fd false fn n ds σ (.code x :: .inBlock id :: k)) cs) pw Q) : Leads P N0 (G (fd false fn n ds σ (.code (.block id x) :: k)) cs) pw Q := leads_ctl rfl (fun _ => sd_block) h
theorem leads_inBlock {id : Nat} (h : Leads P N0 (G (fd false fn n ds σ k) cs) pw Q) : Leads P N0 (G (fd false fn n ds σ (.inBlock id :: k)) cs) pw Q := leads_ctl rfl (fun _ => sd_inBlock) h
theorem leads_loop {x : Code} (h : Leads P N0 (G (fd false fn n ds σ (.code x :: .inLoop x :: k)) cs) pw Q) : Leads P N0 (G (fd false fn n ds σ (.code (.loop x) :: k)) cs) pw Q := leads_ctl rfl (fun _ => sd_loop) h
theorem leads_inLoop {x : Code} (h : Leads P N0 (G (fd false fn n ds σ (.code x :: .inLoop x :: k)) cs) pw Q) : Leads P N0 (G (fd false fn n ds σ (.inLoop x :: k)) cs) pw Q := leads_ctl rfl (fun _ => sd_inLoop) h
theorem leads_skip (h : Leads P N0 (G (fd false fn n ds σ k) cs) pw Q) : Leads P N0 (G (fd false fn n ds σ (.code .skip :: k)) cs) pw Q := leads_ctl rfl (fun _ => sd_skip) h
theorem leads_exit {id : Nat} {k' : List Item} (he : exitTo id k = some k') (h : Leads P N0 (G (fd false fn n ds σ k') cs) pw Q) : Leads P N0 (G (fd false fn n ds σ (.code (.exit id) :: k)) cs) pw Q := leads_ctl rfl (fun _ => sd_exit he) h
theorem leads_cond {x y : Code} {p : Operand} (t : Bool) (hp : evT (arr n σ) p = .bool t) (h : Leads P N0 (G (fd false fn n ds σ (.code (if t then x else y) :: k)) cs) pw Q) : Leads P N0 (G (fd false fn n ds σ (.code (.cond p x y) :: k)) cs) pw Q := leads_ctl rfl (fun _ => sd_cond hp) h
end
section
variable {w : World} {ρ : Operand -> Value} {x y : Operand} {d : Option Tmp} {ty : TypeId} {pos : String} {af : Array Edge} {gd : Option (Nat × Bool)}
theorem idxP_run {b o l c m : Nat} (hx : ρ x = .slice (some ⟨b,o,none⟩) l c) (hy : ρ y = .int .i64 (m : Int)) (hm : m < l) :
   (execOp ρ ⟨d,.indexAddr 24 x y,ty,pos,af,gd⟩).runT Tryd.prog w #[] = (.ok (.value (.pointer (some ⟨b,o + m,none⟩))) w,#[]) := by
 apply run_ev
 · simp [execOp,go_sem,hx,hy,hm]
 · simp [execOp,go_sem,hx,hy,hm]
end
structure Tg (vz vl : Value) (n nL : Nat) (back : Bool) (va : Value) (x : Nat) (σ : Nat -> Value) : Prop where
 s0 : σ 0 = vz
 s3 : σ 3 = .int .i64 (n : Int)
 s4 : σ 4 = .bool back
 s13 : σ 13 = va
 s26 : σ 26 = vl
 s27 : σ 27 = .int .i64 (nL : Int)
 s28 : σ 28 = .int .i64 (x : Int)
section
variable {dl : List Nat} {zs : List Int} {back : Bool} {n : Nat} {L : List (List (List Int))} {bz oz cz bP oP cP : Nat} {c0 : Frame} {cs : List Frame} {pw : World} {N0 : Nat} {fs : Fs}
structure Tm (dl : List Nat) (zs : List Int) (L : List (List (List Int))) (bz oz cz bP oP N0 : Nat) (pw : World) : Prop where
 z : IsZ pw (.slice (some ⟨bz,oz,none⟩) dl.length cz) zs
 oz : One pw bz
 zc : ∃ o v,pw.cell? ⟨bz,o,none⟩ = some v
 ns : N0 <= pw.heap.size
 tab : Tab pw
 tabs : ∀ g ∈ tabsL,g < N0 /\ One pw g
 ph : ∀ x,x < L.length -> ∃ bh oh ch,pw.cell? ⟨bP,oP + x,none⟩ = some (.slice (some ⟨bh,oh,none⟩) (L.getD x []).length ch) /\ ∀ i,i < (L.getD x []).length -> ∀ j,j < 3 -> pw.cell? ⟨bh,oh + 3 * i + j,none⟩ = some (.int .i64 (((L.getD x []).getD i []).getD j 0))
theorem Tm.blw {pw' : World} (h : Tm dl zs L bz oz cz bP oP N0 pw) (b : Blw pw pw') : Tm dl zs L bz oz cz bP oP N0 pw' :=
 ⟨IsZ.of_block h.z (b.block _ h.oz.lt),h.oz.of (b.block _ h.oz.lt),let ⟨o,v,e⟩ := h.zc; ⟨o,v,cell_same e (b.block _ h.oz.lt)⟩,Nat.le_trans h.ns b.size,Tab.of_blocks h.tab fun g hg => b.block _ (h.tabs g hg).2.lt,fun g hg => ⟨(h.tabs g hg).1,(h.tabs g hg).2.of (b.block _ (h.tabs g hg).2.lt)⟩,fun x hx => by
   obtain ⟨bh,oh,ch,h1,h2⟩ := h.ph x hx
   exact ⟨bh,oh,ch,cell_same h1 (b.block _ (cell_lt h1)),fun i hi j hj => cell_same (h2 i hi j hj) (b.block _ (cell_lt (h2 i hi j hj)))⟩⟩
set_option maxRecDepth 100000 in
set_option maxHeartbeats 4000000 in
theorem tg_round (hF : FnsAll Tryd.prog fs) (hfg : fs.contains 38 = true) (hG : Good zs dl) (hn : prd2 dl <= 1024) (hn8 : n <= 8) (hn0 : ¬ n = 0) (hm : Tryd.prog.follows .mixedOrders = true) (hFi : Go.Proofs.YtckoipoejaafhaaDoor.Fine dl L) (hLs : L.length < 1000000) (hbig : ∀ x,x < L.length -> (L.getD x []).length <= 64)
   {x : Nat} (hx : x < L.length) (hpos : 0 < (L.getD x []).length) {σ : Nat -> Value} {bA oA cA : Nat} {xs : List Nat} (hT : Tm dl zs L bz oz cz bP oP N0 pw) (ha : IsU pw (.slice (some ⟨bA,oA,none⟩) (prd2 dl) cA) xs) (hla : xs.length = prd2 dl) (hoa : One pw bA) (hac : ∃ o v,pw.cell? ⟨bA,o,none⟩ = some v)
   (hS : Tg (.slice (some ⟨bz,oz,none⟩) dl.length cz) (.slice (some ⟨bP,oP,none⟩) L.length cP) n L.length back (.slice (some ⟨bA,oA,none⟩) (prd2 dl) cA) x σ) {k : List Item} :
   Leads Tryd.prog N0 (G (fd false 13 46 [] σ (.code tgL :: .inLoop tgL :: k)) cs) pw fun a' pw' => ∃ σ' g,a' = G (fd false 13 46 [] σ' (.code tgL :: .inLoop tgL :: k)) cs /\ Blw pw pw' /\ pw.heap.size <= g /\ RowU pw' g (mk (prd2 dl) (alo dl x back (cf xs))) /\
     Tg (.slice (some ⟨bz,oz,none⟩) dl.length cz) (.slice (some ⟨bP,oP,none⟩) L.length cP) n L.length back (.slice (some ⟨g,0,none⟩) (prd2 dl) (prd2 dl)) (x + 1) σ' := by
 have hxd : x < dl.length := by rw [<- hFi.1]; exact hx
 have hR := hFi.2 x hxd
 obtain ⟨bh,oh,ch,hc,hph⟩ := hT.ph x hx
 refine leads_seq ?_
 refine leads_region [0] rfl ?_
 refine leads_pure (some 29) (.bool true) rfl rfl rfl (fun _ => lss_run (i := (x : Int)) (j := (L.length : Int)) true (by simp [evT_tmp,hS.s28]) (by simp [evT_tmp,hS.s27]) (decide_eq_true (by omega))) ?_
 refine leads_regionEnd ?_
 refine leads_seq ?_
 refine leads_cond true (by simp [evT_tmp,put_some]) ?_
 refine leads_skip ?_
 refine leads_seq ?_
 refine leads_block ?_
 refine leads_seq ?_
 refine leads_region [0,1,2,3,4] rfl ?_
 refine leads_mv (some 30) rfl rfl rfl (.inl rfl) ?_
 refine leads_pure (some 31) (.pointer (some ⟨bP,oP + x,none⟩)) rfl rfl rfl (fun _ => idxP_run (b := bP) (o := oP) (l := L.length) (c := cP) (m := x) (by simp [evT_tmp,put_some,hS.s26]) (by simp [evT_tmp,put_some,hS.s28]) hx) ?_
 refine leads_get1 (some 32) ⟨bP,oP + x,none⟩ (.slice (some ⟨bh,oh,none⟩) (L.getD x []).length ch) rfl rfl rfl hc (fun w h => run_ev (by simp [execOp,go_sem,evT_tmp,put_some,h]) (by simp [execOp,go_sem,evT_tmp,put_some,h])) ?_
 refine leads_mv (some 14) rfl rfl rfl (.inr rfl) ?_
 refine leads_mv (some 15) rfl rfl rfl (.inr rfl) ?_
 refine leads_regionEnd ?_
 refine leads_seq ?_
 refine leads_region [0,1,2,3,4,5,6] rfl ?_
 refine leads_mv (some 33) rfl rfl rfl (.inl rfl) ?_
 refine leads_mv (some 34) rfl rfl rfl (.inl rfl) ?_
 refine leads_mv (some 35) rfl rfl rfl (.inl rfl) ?_
 refine leads_mv (some 36) rfl rfl rfl (.inl rfl) ?_
 refine leads_mv (some 37) rfl rfl rfl (.inl rfl) ?_
 refine leads_enterD 37 #[.slice (some ⟨bz,oz,none⟩) dl.length cz,.slice (some ⟨bA,oA,none⟩) (prd2 dl) cA,.slice (some ⟨bh,oh,none⟩) (L.getD x []).length ch,.int .i64 (n : Int),.bool back] rfl rfl (fun w => run_ev (by simp [execOp,go_sem,evT_tmp,evT_func,put_some,hS.s0,hS.s13,hS.s3,hS.s4]) (by simp [execOp,go_sem,evT_tmp,evT_func,put_some,hS.s0,hS.s13,hS.s3,hS.s4,call_events Tryd.func37 (by kernel_rfl) rfl])) ?_
 refine Leads.then (workTogether_leads (x := x) hG hn hxd hn8 hn0 hm hR.1 (hbig x hx) hpos hT.z hT.oz ha hla hoa hT.zc hac hT.ns hT.tab hT.tabs hph) ?_
 rintro a' p1 ⟨C,rfl,hb1,hC,hW⟩
 rw [finish_arr _ _ _ _ _ _ _ _ _ _ rfl]
 refine leads_mv (some 16) rfl rfl rfl (.inr rfl) ?_
 refine leads_regionEnd ?_
 refine leads_region [0,1,2,3,4,5] rfl ?_
 refine leads_mv (some 39) rfl rfl rfl (.inl rfl) ?_
 refine leads_mv (some 40) rfl rfl rfl (.inl rfl) ?_
 refine leads_mv (some 41) rfl rfl rfl (.inl rfl) ?_
 refine leads_mv (some 42) rfl rfl rfl (.inl rfl) ?_
 refine leads_enterD 38 #[.slice (some ⟨bz,oz,none⟩) dl.length cz,.int .i64 (x : Int),.slice (some ⟨bh,oh,none⟩) (L.getD x []).length ch,.slice (some ⟨C,0,none⟩) n n] rfl rfl (fun w => run_ev (by simp [execOp,go_sem,evT_tmp,evT_func,put_some,hS.s0,hS.s28]) (by simp [execOp,go_sem,evT_tmp,evT_func,put_some,hS.s0,hS.s28,call_events Tryd.func38 (by kernel_rfl) rfl])) ?_
 have hT1 := hT.blw hb1
 have hph1 : ∀ i,i < (L.getD x []).length -> ∀ j,j < 3 -> p1.cell? ⟨bh,oh + 3 * i + j,none⟩ = some (.int .i64 (((L.getD x []).getD i []).getD j 0)) := fun i hi j hj => cell_same (hph i hi j hj) (hb1.block _ (cell_lt (hph i hi j hj)))
 have hCall : ∀ τ d,Calls Tryd.prog 38 #[.slice (some ⟨bz,oz,none⟩) dl.length cz,.int .i64 (x : Int),.slice (some ⟨bh,oh,none⟩) (L.getD x []).length ch,.slice (some ⟨C,0,none⟩) n n] (tp p1 τ d) fun e w1 => ∃ v,e = .returned v /\ ∃ g,v = .slice (some ⟨g,0,none⟩) (prd2 dl) (prd2 dl) /\ p1.heap.size <= g /\ RowU w1 g (mk (prd2 dl) (alo dl x back (cf xs))) /\ Blw p1 w1 := fun τ d => by
   refine Calls.mono (exec_gather (tp p1 τ d) _ zs dl x n (L.getD x []) (fun k => wkL dl back (dealT n (L.getD x []) k) xs) bh oh ch C (IsZ.of_block hT1.z rfl) hG hn hxd (by omega) hn8 (hbig x hx) hR.1 hph1 (fun k hk => ?_)) ?_
   · obtain ⟨v,h1,b,o,c,rfl,h2,h3,-⟩ := hW k hk
     exact ⟨b,o,c,h1,IsU.of_block h2 rfl,h3⟩
   · rintro e w1 ⟨g,rfl,hg,hr,hb⟩
     rw [gat_work hG.2.2.2 hxd hla hR] at hr
     exact ⟨_,rfl,g,rfl,hg,hr,⟨hb.os,hb.output,hb.size,hb.block⟩⟩
 refine Leads.then (leads_call hF hfg hCall (fun v w τ d τ' d' h => ?_)) ?_
 · obtain ⟨g,h1,h2,h3,h4⟩ := h
   exact ⟨g,h1,h2,h3,⟨h4.os,h4.output,h4.size,h4.block⟩⟩
 rintro a' p2 ⟨v,rfl,g,rfl,hg,hr,hb2⟩
 rw [finish_arr _ _ _ _ _ _ _ _ _ _ rfl]
 refine leads_mv (some 13) rfl rfl rfl (.inr rfl) ?_
 refine leads_regionEnd ?_
 refine leads_inBlock ?_
 refine leads_region [0,1] rfl ?_
 refine leads_pure (some 44) (.int .i64 ((x + 1 : Nat) : Int)) rfl rfl rfl (fun _ => add1_run (i := x) (by simp [evT_tmp,put_some,hS.s28]) (by simp [evT]) (by omega)) ?_
 refine leads_mv (some 28) rfl rfl rfl (.inl rfl) ?_
 refine leads_regionEnd ?_
 refine leads_inLoop ?_
 refine leads_stop ⟨_,g,rfl,hb1.trans hb2,Nat.le_trans hb1.size hg,hr,?_⟩
 exact ⟨by simp [put_some,hS.s0],by simp [put_some,hS.s3],by simp [put_some,hS.s4],by simp [put_some,evT_tmp],by simp [put_some,hS.s26],by simp [put_some,hS.s27],by simp [put_some,evT_tmp]⟩
end
end Go.Proofs.YtckoipoejaafhaaDoor.Cc
