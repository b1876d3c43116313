/-
 Texts that stood one behind the other,as one.
-/
import Derived.Test.YtckoipoejaafhaaDoorExNAll
import Derived.Test.YtckoipoejaafhaaDoorCeUAll
import Derived.Test.YtckoipoejaafhaaDoorPlanDAll
import Derived.Test.YtckoipoejaafhaaDoorCeNAll
import Derived.Test.YtckoipoejaafhaaDoorCcWtAll
import Derived.Conc.LeavingOf
namespace Go.Proofs.YtckoipoejaafhaaDoor
open Go.RowKit
set_option maxRecDepth 100000 in
set_option maxHeartbeats 16000000 in
theorem top_driven (w : World) (v u l vp : Value) (zs : List Int) (ds A : List Nat) (L : List (List (List Int))) (Wn : Nat) (back : Bool) (K : List (List Int)) (hZ : IsZ w v zs) (hU : IsU w u A) (hP : IsP 3 w l L) (hK : IsR 2 w vp K) (hTb : Tab w) (hG : Good zs ds) (hds : prd2 ds <= 64) (hstc : Stc ds L (nmL A) Wn) (hnb : ¬ BigP L L.length) (hlA : A.length = prd2 ds) (hW1 : 1 <= Wn) (hW8 : Wn <= 8) (hK9 : K.length <= 200) :
   Calls Tryd.prog 19 #[v,u,l,.int .i64 (Wn : Int),.bool back,vp] w fun e w' => ∃ g cap,e = .returned (.tuple #[.slice (some ⟨g,0,none⟩) (prd2 ds) cap,.bool true]) /\ IsU w' (.slice (some ⟨g,0,none⟩) (prd2 ds) cap) (mk (prd2 ds) (who ds back (cf A) ds.length)) /\ Below w.heap.size w w' := by
 have hS : Hid (Shp ds) := hG.2.2.2
 have hst : Hid (Stc ds L (nmL A) Wn) := hstc
 have cN := exec_New w v u l zs ds A L Wn back hZ hU hP hG (by omega) hstc.F hstc.T9 hnb hlA hW1 hW8
 have cS : Hid (∀ (W : World) (p : Value) (cc : Crw) (O : Nat -> Prop) (a b : Int),Run W p ds L (nmL A) Wn back cc O -> Below w.heap.size w W -> (∀ k,O k -> w.heap.size <= k) -> Calls Tryd.prog 42 #[p,.agg #[.int .i64 a,.int .i64 b]] W fun e w' => e = .returned (.int .i64 (pickE cc a b)) /\ ∃ O',Run w' p ds L (nmL A) Wn back (pickC ds back L cc a b) O' /\ (∀ k,O' k -> O k \/ W.heap.size <= k) /\ But O W w') := fun W p cc O a b h hb hn => run_Step w hTb hb h hn hst.out hS.out a b
 have cD : Hid (∀ (W : World) (p : Value) (cc : Crw) (O : Nat -> Prop),Run W p ds L (nmL A) Wn back cc O -> Calls Tryd.prog 44 #[p] W fun e w' => e = .returned (.bool cc.fin) /\ Below W.heap.size W w') := fun W p cc O h => run_Done h
 have cA : Hid (∀ (W : World) (p : Value) (cc : Crw) (O : Nat -> Prop),Run W p ds L (nmL A) Wn back cc O -> Calls Tryd.prog 43 #[p] W fun e w' => ∃ g cap,e = .returned (.slice (some ⟨g,0,none⟩) (prd2 ds) cap) /\ w'.ownsRow W.heap.size 34 1 (.slice (some ⟨g,0,none⟩) (prd2 ds) cap) (prd2 ds) (cellsU cc.A) /\ Below W.heap.size W w') := fun W p cc O h => run_Array h hst.out hS.out
 have hfl := flat_most _ hst.out.T9
 have hL3 : L.length <= 3 := hst.out.L9
 have hend : Hid (∀ (W : World) (p : Value) (cc : Crw) (O : Nat -> Prop),Run W p ds L (nmL A) Wn back cc O -> (rounds ds back L Wn cc 400).fin = true /\ (rounds ds back L Wn cc 400).A = mk (prd2 ds) (who ds back (cf A) ds.length)) := fun W p cc O h => by
   obtain ⟨P,dn,hI⟩ := h.inv
   have q := hI.ends hS.out hst.out.F hW1 (by rw [nmL_length]; exact hlA) hst.out.d1 400 (by omega)
   rw [cf_nmL] at q
   exact q
 have hmk : Hid (∀ x ∈ mk (prd2 ds) (who ds back (cf A) ds.length),((x : Nat) : Int) < 18446744073709551616) := Rng_of_P (mk_lt _ _)
 obtain ⟨ak,ck,rfl,-⟩ := id hK
 clear hG hlA hst hstc hnb hfl hL3 hU hP
 have hZ' := hZ
 clear hZ' hZ
 go_enter Tryd.func19,Tryd.ntmps19
 go_wp2_with (go_at_call 41; refine Calls.mono cN ?_; rintro e w5 ⟨p,O5,rfl,hR5,hO5,hb5⟩; clear cN; replace hR5 : Hid _ := hR5)
 have cS4 : Hid (∀ (W : World) (cc : Crw) (O : Nat -> Prop) (a b : Int),Run W p ds L (nmL A) Wn back cc O -> Below w.heap.size w W -> (∀ k,O k -> w.heap.size <= k) -> Calls Tryd.prog 42 #[p,.agg #[.int .i64 a,.int .i64 b]] W fun e w' => e = .returned (.int .i64 (pickE cc a b)) /\ ∃ O',Run w' p ds L (nmL A) Wn back (pickC ds back L cc a b) O' /\ (∀ k,O' k -> w.heap.size <= k) /\ Below w.heap.size w w') := fun W cc O a b h hb hn => (cS.out W p cc O a b h hb hn).mono fun e w' hh => by
   obtain ⟨rfl,O',h1,h2,h3⟩ := hh
   obtain ⟨h4,h5⟩ := but_next hb hn h2 h3
   exact ⟨rfl,O',h1,h5,h4⟩
 clear cS
 go_loopw [32] (fun vi wr => ∃ (i : Nat) (O : Nat -> Prop) (cc : Crw),i <= K.length /\ vi = .int .i64 (i : Int) /\ Hid (Run wr p ds L (nmL A) Wn back cc O) /\ (∀ k,O k -> w.heap.size <= k) /\ Below w.heap.size w wr)
   (fun vi _ => K.length - (intOf vi).toNat)
 case atStart => exact ⟨0,O5,_,Nat.zero_le _,rfl,hR5,hO5,hb5⟩
 case round =>
   clear hR5 hO5 hb5
   obtain ⟨i,Oi,cc,hi,rfl,hR,hO,hb⟩ := hrel
   by_cases hlt : i < K.length
   · obtain ⟨b,off,cap,pa,pb,e0,x0,x1⟩ := pick_cells hK hb i hlt
     simp only [Value.slice.injEq] at e0
     obtain ⟨rfl,-,rfl⟩ := e0
     have cSi := fun (o : Obj) => cS4.out (wr.alloc o) cc Oi pa pb (hR.out.below (below_alloc1 wr o)) (hb.trans ((below_alloc1 wr o).mono hb.size)) hO
     clear hR cA cD hend
     go_wp2_with (go_at_call 42; refine Calls.mono (cSi _) ?_; rintro e w6 ⟨rfl,O6,hR6,hO6,hb6⟩; clear cSi; replace hR6 : Hid _ := hR6)
     go_roundw
     case rel => exact ⟨i + 1,O6,_,by omega,by go_num,hR6,hO6,hb6⟩
     case measure => simp only [intOf]; omega
   · have hge : K.length <= i := by omega
     have hfi : Hid ((rounds ds back L Wn cc 400).fin = true /\ (rounds ds back L Wn cc 400).A = mk (prd2 ds) (who ds back (cf A) ds.length)) := hend.out wr p cc Oi hR.out
     clear hK hend
     obtain ⟨w7,hw7⟩ : ∃ w7 : World,w7 = wr := ⟨_,rfl⟩
     rw [<- hw7] at hR hb ⊢
     clear hw7
     go_wp2
     go_loopw [40] (fun vj wr => ∃ (j : Nat) (O : Nat -> Prop),j <= 400 /\ vj = .int .i64 (j : Int) /\ Hid (Run wr p ds L (nmL A) Wn back (rounds ds back L Wn cc j) O) /\ (∀ k,O k -> w.heap.size <= k) /\ Below w.heap.size w wr)
       (fun vj _ => 400 - (intOf vj).toNat)
     case atStart => exact ⟨0,Oi,Nat.zero_le _,rfl,hR,hO,hb⟩
     case round =>
       clear hR hO hb
       obtain ⟨j,Oj,hj,rfl,hRj,hOj,hbj⟩ := hrel
       by_cases hlj : j < 400
       · have hlj' : (j : Int) < 400 := by omega
         go_wp2
         go_loopw [43] (fun vk wr => ∃ (k : Nat) (O : Nat -> Prop),k <= Wn /\ vk = .int .i64 (k : Int) /\ Hid (Run wr p ds L (nmL A) Wn back (roundK ds back L Wn (rounds ds back L Wn cc j) k) O) /\ (∀ k,O k -> w.heap.size <= k) /\ Below w.heap.size w wr)
           (fun vk _ => Wn - (intOf vk).toNat)
         case atStart => exact ⟨0,Oj,Nat.zero_le _,rfl,hRj,hOj,hbj⟩
         case round =>
           clear hRj hOj hbj
           obtain ⟨k,Ok,hk,rfl,hRk,hOk,hbk⟩ := hrel
           by_cases hlk : k < Wn
           · have cSk := cS4.out wr _ Ok (k : Int) (((k + 1) % Wn : Nat) : Int) hRk.out hbk hOk
             have hnext : Hid (pickC ds back L (roundK ds back L Wn (rounds ds back L Wn cc j) k) (k : Int) (((k + 1) % Wn : Nat) : Int) = roundK ds back L Wn (rounds ds back L Wn cc j) (k + 1)) := rfl
             rw [hnext.out] at cSk
             have hmod : Int.tmod ((k : Int) + 1) (Wn : Int) = (((k + 1) % Wn : Nat) : Int) := by rw [Int.tmod_eq_emod_of_nonneg (by omega),Int.natCast_emod]; rfl
             have hml : (k + 1) % Wn < Wn := Nat.mod_lt _ (by omega)
             have hWz : ¬ (Wn : Int) = 0 := by omega
             generalize (k + 1) % Wn = km at *
             clear hRk cA cD hfi hnext
             go_wp2_with (go_at_call 42; refine Calls.mono cSk ?_; rintro e w8 ⟨rfl,O8,hR8,hO8,hb8⟩; clear cSk; replace hR8 : Hid _ := hR8)
             go_roundw
             case rel => exact ⟨k + 1,O8,by omega,by go_num,hR8,hO8,hb8⟩
             case measure => simp only [intOf]; omega
           · have he : k = Wn := by omega
             subst he
             have hRn : Hid (Run wr p ds L (nmL A) k back (rounds ds back L k cc (j + 1)) Ok) := hRk
             clear hRk hlk hk
             go_wp2
             go_roundw
             case rel => exact ⟨j + 1,Ok,by omega,by go_num,hRn,hOk,hbk⟩
             case measure => simp only [intOf]; omega
       · have he : j = 400 := by omega
         subst he
         obtain ⟨hfin,hAe⟩ := hfi.out
         have cD9 : Hid (∀ W,Below wr.heap.size wr W -> Calls Tryd.prog 44 #[p] W fun e w' => e = .returned (.bool true) /\ Below W.heap.size W w') := fun W hbW => by
           have q := cD.out W p _ Oj (hRj.out.below hbW)
           rw [hfin] at q
           exact q
         have cA9 : Calls Tryd.prog 43 #[p] wr fun e w' => ∃ g cap,e = .returned (.slice (some ⟨g,0,none⟩) (prd2 ds) cap) /\ w'.ownsRow wr.heap.size 34 1 (.slice (some ⟨g,0,none⟩) (prd2 ds) cap) (prd2 ds) (cellsU (mk (prd2 ds) (who ds back (cf A) ds.length))) /\ Below wr.heap.size wr w' := by
           have q := cA.out wr p _ Oj hRj.out
           rw [hAe] at q
           exact q
         clear hRj cA cD hfi cS4 hfin hAe hj hlj
         obtain ⟨WL,hWL⟩ : ∃ WL,Hid (WL = mk (prd2 ds) (who ds back (cf A) ds.length)) := ⟨_,rfl⟩
         rw [<- hWL.out] at cA9 hmk
         go_wp2_with (first
           | (go_at_call 43; refine Calls.mono cA9 ?_; rintro e wc ⟨gc,cpc,rfl,hown,hbc⟩; clear cA9; have hVc := IsU.of_owns hown hmk.out)
           | (go_at_call 44; refine Calls.mono (cD9.out _ hbc) ?_; rintro e wd ⟨rfl,hbd⟩; clear cD9; have hVd := hVc.below hbd; have hbd' := hbc.trans (hbd.mono hbc.size)))
         go_ret2
         exact ⟨gc,cpc,rfl,hWL.out ▸ hVd,hbj.trans (hbd'.mono hbj.size)⟩
theorem top_shaped_no (w : World) (v v' : Value) (zs : List Int) (h : IsZ w v zs) (hno : ∀ ds,Good zs ds -> 64 < prd2 ds) :
   Calls Tryd.prog 16 #[v,v'] w fun e w' => e = .returned (.tuple #[.slice none 0 0,.bool false]) /\ w' = w := by
 have c := ref_Shape w v zs h
 obtain ⟨n,er,hne,c'⟩ : ∃ (n : Nat) (er : Int),(er ≠ 0 \/ 64 < n) /\ n <= 1024 /\ Calls Tryd.prog 9 #[v] w fun e w' => e = .returned (.tuple #[.int .i64 (n : Int),.int .i64 er]) /\ w' = w := by
   by_cases hG : ∃ ds,Good zs ds
   · obtain ⟨ds,hG⟩ := hG
     rcases Nat.lt_or_ge 1024 (prd2 ds) with hn | hn
     · refine ⟨0,2,.inl (by decide),by omega,c.mono ?_⟩
       rintro e w' ⟨rfl,⟨ds',hG',hb,_⟩ | ⟨ds',hG',_,rfl⟩ | ⟨hno',_⟩⟩
       · rw [Good_one hG hG'] at hb; omega
       · exact ⟨rfl,rfl⟩
       · exact absurd hG (hno' ds)
     · refine ⟨prd2 ds,0,.inr (hno ds hG),hn,c.mono ?_⟩
       rintro e w' ⟨rfl,⟨ds',hG',_,rfl⟩ | ⟨ds',hG',hb,_⟩ | ⟨hno',_⟩⟩
       · rw [Good_one hG hG']; exact ⟨rfl,rfl⟩
       · rw [Good_one hG hG'] at hb; omega
       · exact absurd hG (hno' ds)
   · refine ⟨0,1,.inl (by decide),by omega,c.mono ?_⟩
     rintro e w' ⟨rfl,⟨ds',hG',_⟩ | ⟨ds',hG',_⟩ | ⟨_,rfl⟩⟩
     · exact absurd ⟨ds',hG'⟩ hG
     · exact absurd ⟨ds',hG'⟩ hG
     · exact ⟨rfl,rfl⟩
 obtain ⟨hn9,c'⟩ := c'
 clear c h hno
 rcases hne with he | hn
 · have hq : (er != 0) = true := by rw [bne_iff_ne]; exact he
   go_enter Tryd.func16,Tryd.ntmps16
   go_wp2_with (go_at_call 9; refine Calls.mono c' ?_; rintro e w' ⟨rfl,hw⟩; rw [hw]; clear hw)
   go_ret2
   exact ⟨rfl,rfl⟩
 · by_cases he : er = 0
   · subst he
     have hd : decide ((64 : Int) < (n : Int)) = true := decide_eq_true (by omega)
     go_enter Tryd.func16,Tryd.ntmps16
     go_wp2_with (go_at_call 9; refine Calls.mono c' ?_; rintro e w' ⟨rfl,hw⟩; rw [hw]; clear hw)
     go_ret2
     exact ⟨rfl,rfl⟩
   · have hq : (er != 0) = true := by rw [bne_iff_ne]; exact he
     go_enter Tryd.func16,Tryd.ntmps16
     go_wp2_with (go_at_call 9; refine Calls.mono c' ?_; rintro e w' ⟨rfl,hw⟩; rw [hw]; clear hw)
     go_ret2
     exact ⟨rfl,rfl⟩
set_option maxHeartbeats 1000000 in
theorem top_shaped_ok (w : World) (v v' : Value) (zs : List Int) (ds xs : List Nat) (h : IsZ w v zs) (h' : IsU w v' xs) (hG : Good zs ds) (hn : prd2 ds <= 64) :
   Calls Tryd.prog 16 #[v,v'] w fun e w' => ∃ g,e = .returned (.tuple #[.slice (some ⟨g,0,none⟩) (prd2 ds) (prd2 ds),.bool true]) /\ IsU w' (.slice (some ⟨g,0,none⟩) (prd2 ds) (prd2 ds)) (szd xs (prd2 ds)) /\ Below w.heap.size w w' := by
 have c' : Calls Tryd.prog 9 #[v] w fun e w' => e = .returned (.tuple #[.int .i64 ((prd2 ds : Nat) : Int),.int .i64 0]) /\ w' = w := by
   refine (ref_Shape w v zs h).mono ?_
   rintro e w' ⟨rfl,⟨ds',hG',_,rfl⟩ | ⟨ds',hG',hb,_⟩ | ⟨hno',_⟩⟩
   · rw [Good_one hG hG']; exact ⟨rfl,rfl⟩
   · rw [Good_one hG hG'] at hb; omega
   · exact absurd hG (hno' ds)
 clear h hG
 generalize prd2 ds = n at *
 have hn9 : n <= 1000000000 := by omega
 have hW := Below.refl w.heap.size w
 go_enter Tryd.func16,Tryd.ntmps16
 go_wp2_with (first
   | (go_at_call 9; refine Calls.mono c' ?_; rintro e w' ⟨rfl,hw⟩; rw [hw]; clear hw)
   | (at_make; refine wp_make rfl _ _ rfl n rfl rfl hn9 hW ?_; intro w1 hown hb1)
   | (refine wp_copy rfl _ _ rfl _ n _ xs rfl rfl (h'.below hb1) hown hb1 ?_; intro w2 z hown2 hb2; clear hown))
 go_ret2
 exact ⟨_,rfl,IsU.of_owns hown2 (szd_rangeN h'.range),hb2⟩
theorem plan_Make_any (w : World) (v : Value) (zs : List Int) (c : Int) (h : IsZ w v zs) (hc : -9223372036854775808 <= c /\ c <= 9223372036854775807) :
   Calls Tryd.prog 17 #[v,.int .i64 c] w fun e w' => ∃ u er,e = .returned (.tuple #[u,.int .i64 er]) /\ Below w.heap.size w w' := by
 by_cases hG : ∃ ds,Good zs ds
 · obtain ⟨ds,hG⟩ := hG
   rcases Nat.lt_or_ge 1024 (prd2 ds) with hn | hn
   · refine (plan_Make_large w v zs ds c h hG hn).mono ?_
     rintro e w' ⟨u,rfl,-,hb⟩
     exact ⟨u,_,rfl,hb⟩
   · by_cases h1 : c < 1
     · refine (plan_Make_cut w v zs ds c h hG hn h1).mono ?_
       rintro e w' ⟨u,rfl,-,hb⟩
       exact ⟨u,_,rfl,hb⟩
     · obtain ⟨m,rfl⟩ := Int.eq_ofNat_of_zero_le (show 0 <= c by omega)
       by_cases hF : Few ds m ds.length
       · refine (plan_Make_ok w v zs ds m h hG hn (by omega) (by omega) hF).mono ?_
         rintro e w' ⟨u,rfl,-,hb⟩
         exact ⟨u,_,rfl,hb⟩
       · refine (plan_Make_many w v zs ds m h hG hn (by omega) (by omega) hF).mono ?_
         rintro e w' ⟨u,rfl,-,hb⟩
         exact ⟨u,_,rfl,hb⟩
 · refine (plan_Make_bad w v zs c h fun ds q => hG ⟨ds,q⟩).mono ?_
   rintro e w' ⟨u,rfl,-,hb⟩
   exact ⟨u,_,rfl,hb⟩
theorem plan_Make_tot (w : World) (v : Value) (zs : List Int) (c : Int) (h : IsZ w v zs) (hc : -9223372036854775808 <= c /\ c <= 9223372036854775807) :
   Calls Tryd.prog 17 #[v,.int .i64 c] w fun e w' => ∃ u er,e = .returned (.tuple #[u,.int .i64 er]) /\ (er = 0 -> ∀ ds,Good zs ds -> prd2 ds <= 64 -> ∃ m : Nat,c = (m : Int) /\ 1 <= m /\ IsP 3 w' u (pls ds m ds.length)) /\ Below w.heap.size w w' := by
 by_cases hG : ∃ ds,Good zs ds /\ prd2 ds <= 64
 · obtain ⟨ds,hG,hn⟩ := hG
   by_cases h1 : c < 1
   · refine (plan_Make_cut w v zs ds c h hG (by omega) h1).mono ?_
     rintro e w' ⟨u,rfl,-,hb⟩
     exact ⟨u,_,rfl,fun q => absurd q (by decide),hb⟩
   · obtain ⟨m,rfl⟩ := Int.eq_ofNat_of_zero_le (show 0 <= c by omega)
     refine (plan_Make_ok w v zs ds m h hG (by omega) (by omega) (by omega) (few_small hG.2.2.2 hn m)).mono ?_
     rintro e w' ⟨u,rfl,hP,hb⟩
     refine ⟨u,_,rfl,fun _ ds' hG' _ => ⟨m,rfl,by omega,?_⟩,hb⟩
     rw [Good_one hG hG']
     exact hP
 · refine (plan_Make_any w v zs c h hc).mono ?_
   rintro e w' ⟨u,er,rfl,hb⟩
   exact ⟨u,er,rfl,fun _ ds' hG' hn' => absurd ⟨ds',hG',hn'⟩ hG,hb⟩
theorem top_shaped_any (w : World) (v vx : Value) (zs : List Int) (xs : List Nat) (hZ : IsZ w v zs) (hX : IsU w vx xs) :
   Calls Tryd.prog 16 #[v,vx] w fun e w' => ∃ a ok,e = .returned (.tuple #[a,.bool ok]) /\ (ok = true -> ∃ ds g,Good zs ds /\ prd2 ds <= 64 /\ a = .slice (some ⟨g,0,none⟩) (prd2 ds) (prd2 ds) /\ IsU w' a (szd xs (prd2 ds))) /\ Below w.heap.size w w' := by
 by_cases hG : ∃ ds,Good zs ds /\ prd2 ds <= 64
 · obtain ⟨ds,hG,hn⟩ := hG
   refine (top_shaped_ok w v vx zs ds xs hZ hX hG hn).mono ?_
   rintro e w' ⟨g,rfl,hU,hb⟩
   exact ⟨_,true,rfl,fun _ => ⟨ds,g,hG,hn,rfl,hU⟩,hb⟩
 · refine (top_shaped_no w v vx zs hZ fun ds h => ?_).mono ?_
   · rcases Nat.lt_or_ge 64 (prd2 ds) with h1 | h1
     · exact h1
     · exact absurd ⟨ds,h,h1⟩ hG
   · rintro e w' ⟨rfl,rfl⟩
     exact ⟨_,false,rfl,fun q => absurd q (by decide),Below.refl _ _⟩
theorem rest8 (wk : Int) : ∃ m : Nat,m < 8 /\ ∀ W,Calls Tryd.prog 18 #[.int .i64 wk,.int .i64 8] W fun e w' => e = .returned (.int .i64 (m : Int)) /\ w' = W := by
 have b1 := Int.emod_lt_of_pos wk (show (0 : Int) < 8 by omega)
 have b2 := Int.emod_nonneg wk (show (8 : Int) ≠ 0 by omega)
 obtain ⟨m,hm⟩ : ∃ m : Nat,wk % 8 = (m : Int) := ⟨(wk % 8).toNat,by omega⟩
 have cRe := ref_Rest wk 8 (by omega) (by omega)
 rw [hm] at cRe b1
 exact ⟨m,by omega,cRe⟩
end Go.Proofs.YtckoipoejaafhaaDoor

namespace Go.Proofs.YtckoipoejaafhaaDoor.Cc
open Go Go.Conc Go.RowKit
theorem leaving_of_runs {H : Type} {enc : TypeId × Value -> H} {a : Assume} {C : Checked} {os : Os} {f : FuncId} {fn : Func} {s : ChangeSpec} {conds : List PathCond} {apart fresh handsOn again : Bool} {X : World -> Array Value -> Prop}
   (hX : ∀ (w w' : World) (args : Array Value),w.heap = w'.heap -> X w args -> X w' args)
   (own : ownKnob C.prog.godebug = none) (started : os.Started) (hfn : C.prog.funcs[f]? = some fn)
   (witness : ∃ (w : World) (tape : Tape) (i : Input),w.os = os /\ (w.forCall tape i).Shaped C.prog /\ i.vars = [] /\ Input.okWide C.prog (w.forCall tape i) .any w.heap.size f i /\
     ((s.pre enc C.prog fn conds apart (w.forCall tape i).memory i.args /\ X (w.forCall tape i).memory i.args) /\ sizedMet enc C.prog fn (OpenSpec.ofChange s) apart (w.forCall tape i).memory i.args) /\ a.holds C.prog (lone (Frame.enter C.prog f i.args .normal) [] (w.forCall tape i)))
   (runs : ∀ (W : World) (base : Nat) (args : Array Value) (ds gs : List (DataW H)) (before : List MemPlace),
     (∀ (j : Nat) t v,fn.params[j]? = some t -> args[j]? = some v -> Value.okWide C.prog W .any base t v) ->
     DataW.Whole enc C.prog fn.params.toList s.vars apart W args.toList ds gs before ->
     conds.all (PathCond.test C.prog ⟨fn.params.toList,ds,s.plain.varTypes C.prog,gs⟩) = true ->
     (DataW.weightsEach C.prog (fn.params.toList ++ s.plain.varTypes C.prog) (ds ++ gs)).all (· <= reachBytes) = true -> X W args -> W.ShapedOpen C.prog ->
     (∃ M last o w' t',runNT C.prog (M + 1) (solo (G (Frame.enter C.prog f args .normal) []) W) #[] = (.ended o w',t') /\ runN C.prog M (solo (G (Frame.enter C.prog f args .normal) []) W) = .next last /\
       step C.prog last = .ended o w' /\ Conc.Good C.prog (fun v W' => v = .bool true /\ Blw W W') last o w' t') /\
     ∀ W',Below W.heap.size W W' -> s.post enc C.prog fn apart fresh handsOn again W args (.bool true) W') :
   ReturnsInLeavingWide a C os f .any (fun w args => (s.pre enc C.prog fn conds apart w args /\ X w args) /\ sizedMet enc C.prog fn (OpenSpec.ofChange s) apart w args) (s.post enc C.prog fn apart fresh handsOn again) := by
 refine returnsInLeavingWide_of_good own started witness ?_
 intro w tape i _ hsh _ hok hpre _
 obtain ⟨_,_,_,fn',hfn',_,_,_,_,hval⟩ := hok
 have e : fn' = fn := Option.some.inj (hfn'.symm.trans hfn)
 subst e
 obtain ⟨⟨⟨ds,gs,before,hw,hc⟩,hx⟩,hz⟩ := hpre
 have hw' := DataW.Whole.of_heap (w' := w.forCall tape i) (by rfl) hw
 obtain ⟨⟨M,last,o,w',t',h1,h2,h3,h4⟩,hp⟩ := runs (w.forCall tape i) w.heap.size i.args ds gs before hval hw' hc (hz.weights hw) (hX _ _ _ (by rfl) hx) hsh
 exact ⟨M,last,o,w',t',h1,h2,h3,h4.mono fun v q => by
   obtain ⟨rfl,hb⟩ := q
   have q := ChangeSpec.post_blind (hp _ hb.below)
   exact q⟩
theorem rows_all : (List.range Tryd.prog.globals.size).all (fun g => (((begin Tryd.prog (fun _ _ => 0) default).world.heap[g]?).bind Obj.row?).isSome) = true := by kernel_rfl
theorem gl_of_shaped {W : World} (h : W.ShapedOpen Tryd.prog) : Gl Tryd.prog.globals.size W := fun g hg => by
 have h1 := List.all_eq_true.1 rows_all g (List.mem_range.2 hg)
 obtain ⟨⟨zero,t⟩,h2⟩ := Option.isSome_iff_exists.1 h1
 obtain ⟨cs,h3,-⟩ := h.1 g zero t hg h2
 exact ⟨cs,t,_,h3⟩
theorem gl_le {G : Nat} {W : World} (h : Gl G W) : G <= W.heap.size := by
 cases G with
 | zero => exact Nat.zero_le _
 | succ n =>
   obtain ⟨c,e,fr,h1⟩ := h n (Nat.lt_succ_self n)
   exact (Array.getElem?_eq_some_iff.1 h1).1
theorem tabs_lt : tabsL.all (fun g => decide (g < Tryd.prog.globals.size)) = true := by kernel_rfl
theorem tbs_of {W : World} (h : W.ShapedOpen Tryd.prog) (hT : Tab W) : Tbs W.heap.size W := by
 refine ⟨hT,fun g hg => ?_,Nat.le_refl _⟩
 have h1 : g < Tryd.prog.globals.size := by simpa using List.all_eq_true.1 tabs_lt g hg
 have h2 := gl_of_shaped h
 obtain ⟨c,e,fr,h3⟩ := h2 g h1
 exact ⟨Nat.lt_of_lt_of_le h1 (gl_le h2),c,e,fr,h3,trivial⟩
theorem readies_all : Tryd.prog.funcs.all (fun f => match f.body with | none => true | some c => (readies c).all (fun g => decide (g < Tryd.prog.globals.size))) = true := by kernel_rfl
theorem no_early : NoEarly Tryd.prog Tryd.prog.globals.size := by
 refine ⟨by kernel_rfl,fun g hg => ?_⟩
 unfold Program.stepOf
 rw [Array.findIdx?_eq_none_iff]
 intro f hf
 have h1 := Array.all_eq_true_iff_forall_mem.1 readies_all f hf
 cases hb : f.body with
 | none => rfl
 | some c =>
   rw [hb] at h1
   simp only [Option.map_some,Option.any_some]
   cases hc : (readies c).contains g with
   | false => rfl
   | true =>
     exfalso
     have h2 := of_decide_eq_true (List.all_eq_true.1 h1 g (List.contains_iff_mem.1 hc))
     omega
def GoodRun (P : Program) (f : FuncId) (args : Array Value) (W : World) : Prop :=
 ∃ M last o w' t',runNT P (M + 1) (solo (G (Frame.enter P f args .normal) []) W) #[] = (.ended o w',t') /\ runN P M (solo (G (Frame.enter P f args .normal) []) W) = .next last /\ step P last = .ended o w' /\ Conc.Good P (fun v W' => v = .bool true /\ Blw W W') last o w' t'
theorem good_run {f : FuncId} {args : Array Value} {W : World} (hsh : W.ShapedOpen Tryd.prog) (h : Leads Tryd.prog W.heap.size (G (Frame.enter Tryd.prog f args .normal) []) W (EndT Tryd.prog W W.heap.size)) : GoodRun Tryd.prog f args W :=
 leads_good ⟨_,gl_le (gl_of_shaped hsh),no_early,gl_of_shaped hsh⟩ h
end Go.Proofs.YtckoipoejaafhaaDoor.Cc
