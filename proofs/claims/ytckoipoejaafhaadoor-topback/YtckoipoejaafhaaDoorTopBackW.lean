/-
 The law TopBack,beside leavers,whole.
-/
import Derived.Test.YtckoipoejaafhaaDoorCeUAll
import Derived.Test.YtckoipoejaafhaaDoorTopDrAll
import Derived.Test.YtckoipoejaafhaaDoorTopDrAll
import Derived.Test.YtckoipoejaafhaaDoorTopDrAll
namespace Go.Proofs.YtckoipoejaafhaaDoor
open Go.RowKit
set_option maxRecDepth 100000
theorem cf_mk_lt (n : Nat) (f : Nat -> F) (j : Nat) (hj : j < n) : cf (mk n f) j = f j := by rw [cf_mk,if_pos hj]
theorem cf_val (A : List Nat) (i : Nat) : (cf A i).val = fN (A.getD i 0) := (fN_val _).symm
set_option maxRecDepth 100000 in
set_option maxHeartbeats 4000000 in
theorem topBack_tail (w : World) (v vx l m : Value) (wk ot : Int) (m1 m2 k1 k2 g gd cd gc n : Nat) (ak : Option Addr) (kl ck : Nat) (A C : List Nat) (hA : IsU w (.slice (some ⟨g,0,none⟩) n n) A) (hC : IsU w (.slice (some ⟨gc,0,none⟩) n n) C) (lA : A.length = n) (lC : C.length = n) (hget : ∀ i,i < n -> C.getD i 0 = fN (A.getD i 0)) :
   (Cc.sq2 (Cc.sq2 (Cc.sq2 (Cc.sq2 (Cc.sq2 (Cc.sq2 (Cc.sq2 (Cc.sq2 (Cc.sq2 (Tryd.f5.body.getD .skip)))))))))).wp Tryd.prog (bodyPost Tryd.prog Tryd.f5 fun e w' => e = .returned (.bool true) /\ Below w.heap.size w w')
     ⟨#[v,vx,.int .i64 (m1 : Int),.int .i64 (m2 : Int),.int .i64 wk,.int .i64 ot,.slice ak kl ck,undef,undef,undef,undef,undef,undef,undef,.bool false,.slice (some ⟨g,0,none⟩) (n) (n),.bool true,l,.int .i64 0,m,.int .i64 0,.slice (some ⟨gd,0,none⟩) (n) cd,.slice (some ⟨gc,0,none⟩) (n) (n),undef,.bool true,.bool false,.tuple #[.slice (some ⟨g,0,none⟩) (n) (n),.bool true],v,vx,.tuple #[.slice (some ⟨g,0,none⟩) (n) (n),.bool true],.slice (some ⟨g,0,none⟩) (n) (n),.bool true,.tuple #[l,.int .i64 0],v,.int .i64 (m1 : Int),.tuple #[l,.int .i64 0],l,.int .i64 0,.tuple #[m,.int .i64 0],v,.int .i64 (m2 : Int),.tuple #[m,.int .i64 0],m,.int .i64 0,.bool true,.bool false,.bool false,.int .i64 0,.bool false,.bool false,.bool false,.int .i64 0,.bool false,.bool false,.bool false,.slice ak kl ck,.int .i64 (kl : Int),.bool false,.bool false,.tuple #[.slice (some ⟨gd,0,none⟩) (n) cd,.bool true],v,.slice (some ⟨g,0,none⟩) (n) (n),l,.int .i64 wk,.int .i64 (k1 : Int),.int .i64 ((k1 + 1 : Nat) : Int),.slice ak kl ck,.tuple #[.slice (some ⟨gd,0,none⟩) (n) cd,.bool true],.slice (some ⟨gd,0,none⟩) (n) cd,.bool true,.tuple #[.slice (some ⟨gc,0,none⟩) (n) (n),.int .i64 0],v,.slice (some ⟨gd,0,none⟩) (n) cd,m,.int .i64 ot,.int .i64 (k2 : Int),.int .i64 ((k2 + 1 : Nat) : Int),.tuple #[.slice (some ⟨gc,0,none⟩) (n) (n),.int .i64 0],.slice (some ⟨gc,0,none⟩) (n) (n),.int .i64 0,.bool true,.bool false,.bool false,.int .i64 0,.bool false,.bool false,undef,undef,undef,undef,undef,undef,undef,undef,undef,undef,undef,undef,undef,undef,undef,undef],[]⟩ w := by
 have lA' : Hid (A.length = n) := lA
 have lC' : Hid (C.length = n) := lC
 have hg : Hid (∀ i,i < n -> C.getD i 0 = fN (A.getD i 0)) := hget
 have rA : Hid (∀ i,((A.getD i 0 : Nat) : Int) < 18446744073709551616) := fun i => range_getD hA.range i
 have hA' : Hid (IsU w (.slice (some ⟨g,0,none⟩) n n) A) := hA
 have hC' : Hid (IsU w (.slice (some ⟨gc,0,none⟩) n n) C) := hC
 have hn9 : (n : Int) <= 9223372036854775807 := by
   obtain ⟨_,cap,e,h1,h2,-⟩ := hA
   simp only [Value.slice.injEq] at e
   unfold maxLen at h2
   omega
 clear hA hC lA lC hget
 refine Cc.rest9 (fn := Tryd.f5) rfl ?_
 go_wp2
 go_loopw [88] (fun vi wr => ∃ i : Nat,i <= n /\ vi = .int .i64 (i : Int) /\ Hid (∃ q,wr = w.drewN q)) (fun vi _ => n - (intOf vi).toNat)
 case atStart => exact ⟨0,Nat.zero_le _,rfl,⟨0,rfl⟩⟩
 case round =>
   obtain ⟨i,hi,rfl,hq⟩ := hrel
   by_cases hlt : i < n
   · have c1 : wr.cell? ⟨g,i,none⟩ = some (.int .u64 ((A.getD i 0 : Nat) : Int)) := by
       obtain ⟨q,rfl⟩ := hq.out
       have := hA'.out.cell i (by rw [lA'.out]; exact hlt)
       rw [Nat.zero_add] at this
       exact this
     have c2 : wr.cell? ⟨gc,i,none⟩ = some (.int .u64 ((fN (A.getD i 0) : Nat) : Int)) := by
       obtain ⟨q,rfl⟩ := hq.out
       have := hC'.out.cell i (by rw [lC'.out]; exact hlt)
       rw [hg.out i hlt,Nat.zero_add] at this
       exact this
     have cN := field_Norm (A.getD i 0) (rA.out i)
     have hne : (((fN (A.getD i 0) : Nat) : Int) != ((fN (A.getD i 0) : Nat) : Int)) = false := by simp
     clear hA' hC' hg rA
     generalize fN (A.getD i 0) = y at *
     generalize A.getD i 0 = a at *
     go_wp2
     go_quiet (first | (go_at_call 21; exact Calls.quiet_of_same (cN _)))
     go_wp2
     go_roundw
     case rel => exact ⟨i + 1,by omega,by go_num,by obtain ⟨q,rfl⟩ := hq.out; exact ⟨q + _,World.drewN_drewN _ _ _⟩⟩
     case measure => simp only [intOf]; omega
   · have e : n = i := by omega
     subst e
     have hge : n <= n := Nat.le_refl _
     have hWf : Below w.heap.size w wr := by
       obtain ⟨q,rfl⟩ := hq.out
       exact ⟨rfl,rfl,rfl,Nat.le_refl _,fun _ _ => rfl⟩
     clear hA' hC' hg hq
     go_wp2
     go_ret
     exact ⟨rfl,hWf⟩
end Go.Proofs.YtckoipoejaafhaaDoor
namespace Go.Proofs.YtckoipoejaafhaaDoor.Cc
open Go Go.Conc Go.RowKit
set_option maxRecDepth 100000 in
set_option maxHeartbeats 16000000 in
theorem topBack_leads {w : World} {v vx vp : Value} {zs : List Int} {xs : List Nat} {c1 c2 wk ot : Int} {K : List (List Int)} (hZ : IsZ w v zs) (hX : IsU w vx xs) (hK : IsR 2 w vp K) (hc1 : -9223372036854775808 <= c1 /\ c1 <= 9223372036854775807) (hc2 : -9223372036854775808 <= c2 /\ c2 <= 9223372036854775807) (hT : Tbs w.heap.size w) :
   Leads Tryd.prog w.heap.size (G (Frame.enter Tryd.prog 5 #[v,vx,.int .i64 c1,.int .i64 c2,.int .i64 wk,.int .i64 ot,vp] .normal) []) w (EndT Tryd.prog w w.heap.size) := by
 obtain ⟨ak,ck,rfl,-⟩ := id hK
 rw [enter_fd #[v,vx,.int .i64 c1,.int .i64 c2,.int .i64 wk,.int .i64 ot,.slice ak K.length ck] Tryd.func5 rfl (show 7 <= 102 by omega),Tryd.ntmps5]
 refine leads_seq ?_
 refine leads_region [0] rfl ?_
 refine leads_mv (some 14) rfl rfl rfl (.inr rfl) ?_
 refine leads_regionEnd ?_
 refine leads_seq ?_
 refine leads_seq ?_
 refine leads_region [0,1] rfl ?_
 refine leads_enterD 15 #[] rfl rfl (fun w => run_ev (by simp [execOp,go_sem,evT_func]) (by simp [execOp,go_sem,evT_func,call_events Tryd.func15 (by kernel_rfl) rfl])) ?_
 refine Leads.then (said_leads hT) ?_
 rintro a' p1 ⟨rfl,b1⟩
 rw [finish_arr _ _ _ _ _ _ _ _ _ _ rfl]
 refine leads_pure (some 25) (.bool false) rfl rfl rfl (fun _ => run_ev (by simp [execOp,go_sem,evT_tmp,put_some]) (by simp [execOp,go_sem,evT_tmp,put_some])) ?_
 refine leads_regionEnd ?_
 refine leads_cond false (by simp [evT_tmp,put_some]) ?_
 refine leads_skip ?_
 refine leads_seq ?_
 refine leads_region [0,1,2,3,4,5,6,7] rfl ?_
 refine leads_mv (some 27) rfl rfl rfl (.inl rfl) ?_
 refine leads_mv (some 28) rfl rfl rfl (.inl rfl) ?_
 refine leads_fn tAll (fun u W => ∃ a ok,u = .tuple #[a,.bool ok] /\ (ok = true -> ∃ ds g,Good zs ds /\ prd2 ds <= 64 /\ a = .slice (some ⟨g,0,none⟩) (prd2 ds) (prd2 ds) /\ IsU W a (szd xs (prd2 ds)))) (some 29) 16 #[v,vx] rfl rfl (wanted_0 rfl) (fun w => run_ev (by simp [execOp,go_sem,evT_tmp,evT_func,put_some]) (by simp [execOp,go_sem,evT_tmp,evT_func,put_some,call_events Tryd.func16 (by kernel_rfl) rfl])) (by kernel_rfl) (fun τ t => ?_) (fun _ _ _ _ _ _ h => h) ?_
 · exact (top_shaped_any _ _ _ zs xs (IsZ.tp (IsZ.blw hZ b1) τ t) (IsU.tp (IsU.blw hX b1) τ t)).mono fun e w1 ⟨a,ok,h1,h2,h3⟩ => ⟨_,h1,⟨a,ok,rfl,h2⟩,h3⟩
 rintro u p2 ⟨a,ok,rfl,hA⟩ b2
 refine leads_mv (some 26) rfl rfl rfl (.inl rfl) ?_
 refine leads_extr (some 30) (a) rfl rfl rfl rfl (by simp [evT_tmp,put_some]; rfl) rfl ?_
 refine leads_extr (some 31) (.bool ok) rfl rfl rfl rfl (by simp [evT_tmp,put_some]; rfl) rfl ?_
 refine leads_mv (some 15) rfl rfl rfl (.inr rfl) ?_
 refine leads_mv (some 16) rfl rfl rfl (.inr rfl) ?_
 refine leads_regionEnd ?_
 have B2 := b1.trans b2
 refine leads_seq ?_
 refine leads_region [0,1,2,3,4,5,6,7] rfl ?_
 refine leads_mv (some 33) rfl rfl rfl (.inl rfl) ?_
 refine leads_mv (some 34) rfl rfl rfl (.inl rfl) ?_
 refine leads_fn tAll (fun u W => ∃ l er,u = .tuple #[l,.int .i64 er] /\ (er = 0 -> ∀ ds,Good zs ds -> prd2 ds <= 64 -> ∃ m : Nat,c1 = (m : Int) /\ 1 <= m /\ IsP 3 W l (pls ds m ds.length))) (some 35) 17 #[v,.int .i64 c1] rfl rfl (wanted_0 rfl) (fun w => run_ev (by simp [execOp,go_sem,evT_tmp,evT_func,put_some]) (by simp [execOp,go_sem,evT_tmp,evT_func,put_some,call_events Tryd.func17 (by kernel_rfl) rfl])) (by kernel_rfl) (fun τ t => ?_) (fun _ _ _ _ _ _ h => h) ?_
 · exact (plan_Make_tot _ _ zs c1 (IsZ.tp (IsZ.blw hZ B2) τ t) hc1).mono fun e w1 ⟨l,er,h1,h2,h3⟩ => ⟨_,h1,⟨l,er,rfl,h2⟩,h3⟩
 rintro u p3 ⟨l,e1,rfl,hL⟩ b3
 refine leads_mv (some 32) rfl rfl rfl (.inl rfl) ?_
 refine leads_extr (some 36) (l) rfl rfl rfl rfl (by simp [evT_tmp,put_some]; rfl) rfl ?_
 refine leads_extr (some 37) (.int .i64 e1) rfl rfl rfl rfl (by simp [evT_tmp,put_some]; rfl) rfl ?_
 refine leads_mv (some 17) rfl rfl rfl (.inr rfl) ?_
 refine leads_mv (some 18) rfl rfl rfl (.inr rfl) ?_
 refine leads_regionEnd ?_
 have B3 := B2.trans b3
 refine leads_seq ?_
 refine leads_region [0,1,2,3,4,5,6,7] rfl ?_
 refine leads_mv (some 39) rfl rfl rfl (.inl rfl) ?_
 refine leads_mv (some 40) rfl rfl rfl (.inl rfl) ?_
 refine leads_fn tAll (fun u W => ∃ l er,u = .tuple #[l,.int .i64 er] /\ (er = 0 -> ∀ ds,Good zs ds -> prd2 ds <= 64 -> ∃ m : Nat,c2 = (m : Int) /\ 1 <= m /\ IsP 3 W l (pls ds m ds.length))) (some 41) 17 #[v,.int .i64 c2] rfl rfl (wanted_0 rfl) (fun w => run_ev (by simp [execOp,go_sem,evT_tmp,evT_func,put_some]) (by simp [execOp,go_sem,evT_tmp,evT_func,put_some,call_events Tryd.func17 (by kernel_rfl) rfl])) (by kernel_rfl) (fun τ t => ?_) (fun _ _ _ _ _ _ h => h) ?_
 · exact (plan_Make_tot _ _ zs c2 (IsZ.tp (IsZ.blw hZ B3) τ t) hc2).mono fun e w1 ⟨l,er,h1,h2,h3⟩ => ⟨_,h1,⟨l,er,rfl,h2⟩,h3⟩
 rintro u p4 ⟨m,e2,rfl,hM⟩ b4
 refine leads_mv (some 38) rfl rfl rfl (.inl rfl) ?_
 refine leads_extr (some 42) (m) rfl rfl rfl rfl (by simp [evT_tmp,put_some]; rfl) rfl ?_
 refine leads_extr (some 43) (.int .i64 e2) rfl rfl rfl rfl (by simp [evT_tmp,put_some]; rfl) rfl ?_
 refine leads_mv (some 19) rfl rfl rfl (.inr rfl) ?_
 refine leads_mv (some 20) rfl rfl rfl (.inr rfl) ?_
 refine leads_regionEnd ?_
 have B4 := B3.trans b4
 refine leads_seq ?_
 refine leads_seq ?_
 cases ok with
 | false =>
   refine leads_region [0,1,2,3,4,5,6,7,8,9,10,11,12,13,14] rfl ?_
   refine leads_mv (some 44) rfl rfl rfl (.inl rfl) ?_
   refine leads_pure (some 45) (.bool true) rfl rfl rfl (fun w => run_ev (by simp [execOp,go_sem,evT_tmp,put_some]) (by simp [execOp,go_sem,evT_tmp,put_some])) ?_
   refine leads_mv (some 46) rfl rfl rfl (.inl rfl) ?_
   refine leads_no (some 47) 2 46 false rfl rfl rfl rfl rfl (by omega) (by simp [evT_tmp,put_some]) ?_
   refine leads_no (some 48) 2 46 false rfl rfl rfl rfl rfl (by omega) (by simp [evT_tmp,put_some]) ?_
   refine leads_pure (some 49) (.bool true) rfl rfl rfl (fun w => pick_run true (by simp [evT_tmp,put_some]) (by simp [evT_const])) ?_
   refine leads_mv (some 50) rfl rfl rfl (.inl rfl) ?_
   refine leads_no (some 51) 6 50 false rfl rfl rfl rfl rfl (by omega) (by simp [evT_tmp,put_some]) ?_
   refine leads_no (some 52) 6 50 false rfl rfl rfl rfl rfl (by omega) (by simp [evT_tmp,put_some]) ?_
   refine leads_pure (some 53) (.bool true) rfl rfl rfl (fun w => pick_run true (by simp [evT_tmp,put_some]) (by simp [evT_const])) ?_
   refine leads_mv (some 54) rfl rfl rfl (.inl rfl) ?_
   refine leads_no (some 55) 10 54 false rfl rfl rfl rfl rfl (by omega) (by simp [evT_tmp,put_some]) ?_
   refine leads_no (some 56) 10 54 false rfl rfl rfl rfl rfl (by omega) (by simp [evT_tmp,put_some]) ?_
   refine leads_no (some 57) 10 54 false rfl rfl rfl rfl rfl (by omega) (by simp [evT_tmp,put_some]) ?_
   refine leads_pure (some 58) (.bool true) rfl rfl rfl (fun w => pick_run true (by simp [evT_tmp,put_some]) (by simp [evT_const])) ?_
   refine leads_regionEnd ?_
   refine leads_cond true (by simp [evT_tmp,put_some]) ?_
   refine leads_seq ?_
   refine leads_region [0] rfl ?_
   refine leads_mv (some 14) rfl rfl rfl (.inr rfl) ?_
   refine leads_regionEnd ?_
   refine leads_retD ?_
   refine leads_true Tryd.func5 (by kernel_rfl) (fun w es => ?_) B4
   rw [res1 (j := 14) rfl]
   show (Result.ok (evT (arr 102 _) (.tmp 14)) w,es) = _
   simp [evT_tmp,put_some,evT_const]
 | true =>
   by_cases he1 : e1 = 0
   case neg =>
     refine leads_region [0,1,2,3,4,5,6,7,8,9,10,11,12,13,14] rfl ?_
     refine leads_mv (some 44) rfl rfl rfl (.inl rfl) ?_
     refine leads_pure (some 45) (.bool false) rfl rfl rfl (fun w => run_ev (by simp [execOp,go_sem,evT_tmp,put_some]) (by simp [execOp,go_sem,evT_tmp,put_some])) ?_
     refine leads_mv (some 46) rfl rfl rfl (.inl rfl) ?_
     refine leads_yes (some 47) (.int .i64 e1) 2 46 false rfl rfl rfl rfl rfl (by omega) (by simp [evT_tmp,put_some]) (fun w => run_ev (by simp [execOp,evT_tmp,put_some]) (by simp [execOp])) ?_
     refine leads_yes (some 48) (.bool true) 2 46 false rfl rfl rfl rfl rfl (by omega) (by simp [evT_tmp,put_some]) (fun w => neE_run (e := e1) (f := 0) true (by simp [he1]) (by simp [evT_tmp,put_some]) (by simp [evT_const])) ?_
     refine leads_pure (some 49) (.bool true) rfl rfl rfl (fun w => pick_run false (by simp [evT_tmp,put_some]) (by simp [evT_tmp,put_some])) ?_
     refine leads_mv (some 50) rfl rfl rfl (.inl rfl) ?_
     refine leads_no (some 51) 6 50 false rfl rfl rfl rfl rfl (by omega) (by simp [evT_tmp,put_some]) ?_
     refine leads_no (some 52) 6 50 false rfl rfl rfl rfl rfl (by omega) (by simp [evT_tmp,put_some]) ?_
     refine leads_pure (some 53) (.bool true) rfl rfl rfl (fun w => pick_run true (by simp [evT_tmp,put_some]) (by simp [evT_const])) ?_
     refine leads_mv (some 54) rfl rfl rfl (.inl rfl) ?_
     refine leads_no (some 55) 10 54 false rfl rfl rfl rfl rfl (by omega) (by simp [evT_tmp,put_some]) ?_
     refine leads_no (some 56) 10 54 false rfl rfl rfl rfl rfl (by omega) (by simp [evT_tmp,put_some]) ?_
     refine leads_no (some 57) 10 54 false rfl rfl rfl rfl rfl (by omega) (by simp [evT_tmp,put_some]) ?_
     refine leads_pure (some 58) (.bool true) rfl rfl rfl (fun w => pick_run true (by simp [evT_tmp,put_some]) (by simp [evT_const])) ?_
     refine leads_regionEnd ?_
     refine leads_cond true (by simp [evT_tmp,put_some]) ?_
     refine leads_seq ?_
     refine leads_region [0] rfl ?_
     refine leads_mv (some 14) rfl rfl rfl (.inr rfl) ?_
     refine leads_regionEnd ?_
     refine leads_retD ?_
     refine leads_true Tryd.func5 (by kernel_rfl) (fun w es => ?_) B4
     rw [res1 (j := 14) rfl]
     show (Result.ok (evT (arr 102 _) (.tmp 14)) w,es) = _
     simp [evT_tmp,put_some,evT_const]
   subst he1
   by_cases he2 : e2 = 0
   case neg =>
     refine leads_region [0,1,2,3,4,5,6,7,8,9,10,11,12,13,14] rfl ?_
     refine leads_mv (some 44) rfl rfl rfl (.inl rfl) ?_
     refine leads_pure (some 45) (.bool false) rfl rfl rfl (fun w => run_ev (by simp [execOp,go_sem,evT_tmp,put_some]) (by simp [execOp,go_sem,evT_tmp,put_some])) ?_
     refine leads_mv (some 46) rfl rfl rfl (.inl rfl) ?_
     refine leads_yes (some 47) (.int .i64 0) 2 46 false rfl rfl rfl rfl rfl (by omega) (by simp [evT_tmp,put_some]) (fun w => run_ev (by simp [execOp,evT_tmp,put_some]) (by simp [execOp])) ?_
     refine leads_yes (some 48) (.bool false) 2 46 false rfl rfl rfl rfl rfl (by omega) (by simp [evT_tmp,put_some]) (fun w => neE_run (e := 0) (f := 0) false (by simp) (by simp [evT_tmp,put_some]) (by simp [evT_const])) ?_
     refine leads_pure (some 49) (.bool false) rfl rfl rfl (fun w => pick_run false (by simp [evT_tmp,put_some]) (by simp [evT_tmp,put_some])) ?_
     refine leads_mv (some 50) rfl rfl rfl (.inl rfl) ?_
     refine leads_yes (some 51) (.int .i64 e2) 6 50 false rfl rfl rfl rfl rfl (by omega) (by simp [evT_tmp,put_some]) (fun w => run_ev (by simp [execOp,evT_tmp,put_some]) (by simp [execOp])) ?_
     refine leads_yes (some 52) (.bool true) 6 50 false rfl rfl rfl rfl rfl (by omega) (by simp [evT_tmp,put_some]) (fun w => neE_run (e := e2) (f := 0) true (by simp [he2]) (by simp [evT_tmp,put_some]) (by simp [evT_const])) ?_
     refine leads_pure (some 53) (.bool true) rfl rfl rfl (fun w => pick_run false (by simp [evT_tmp,put_some]) (by simp [evT_tmp,put_some])) ?_
     refine leads_mv (some 54) rfl rfl rfl (.inl rfl) ?_
     refine leads_no (some 55) 10 54 false rfl rfl rfl rfl rfl (by omega) (by simp [evT_tmp,put_some]) ?_
     refine leads_no (some 56) 10 54 false rfl rfl rfl rfl rfl (by omega) (by simp [evT_tmp,put_some]) ?_
     refine leads_no (some 57) 10 54 false rfl rfl rfl rfl rfl (by omega) (by simp [evT_tmp,put_some]) ?_
     refine leads_pure (some 58) (.bool true) rfl rfl rfl (fun w => pick_run true (by simp [evT_tmp,put_some]) (by simp [evT_const])) ?_
     refine leads_regionEnd ?_
     refine leads_cond true (by simp [evT_tmp,put_some]) ?_
     refine leads_seq ?_
     refine leads_region [0] rfl ?_
     refine leads_mv (some 14) rfl rfl rfl (.inr rfl) ?_
     refine leads_regionEnd ?_
     refine leads_retD ?_
     refine leads_true Tryd.func5 (by kernel_rfl) (fun w es => ?_) B4
     rw [res1 (j := 14) rfl]
     show (Result.ok (evT (arr 102 _) (.tmp 14)) w,es) = _
     simp [evT_tmp,put_some,evT_const]
   subst he2
   by_cases hk9 : 200 < K.length
   case pos =>
     refine leads_region [0,1,2,3,4,5,6,7,8,9,10,11,12,13,14] rfl ?_
     refine leads_mv (some 44) rfl rfl rfl (.inl rfl) ?_
     refine leads_pure (some 45) (.bool false) rfl rfl rfl (fun w => run_ev (by simp [execOp,go_sem,evT_tmp,put_some]) (by simp [execOp,go_sem,evT_tmp,put_some])) ?_
     refine leads_mv (some 46) rfl rfl rfl (.inl rfl) ?_
     refine leads_yes (some 47) (.int .i64 0) 2 46 false rfl rfl rfl rfl rfl (by omega) (by simp [evT_tmp,put_some]) (fun w => run_ev (by simp [execOp,evT_tmp,put_some]) (by simp [execOp])) ?_
     refine leads_yes (some 48) (.bool false) 2 46 false rfl rfl rfl rfl rfl (by omega) (by simp [evT_tmp,put_some]) (fun w => neE_run (e := 0) (f := 0) false (by simp) (by simp [evT_tmp,put_some]) (by simp [evT_const])) ?_
     refine leads_pure (some 49) (.bool false) rfl rfl rfl (fun w => pick_run false (by simp [evT_tmp,put_some]) (by simp [evT_tmp,put_some])) ?_
     refine leads_mv (some 50) rfl rfl rfl (.inl rfl) ?_
     refine leads_yes (some 51) (.int .i64 0) 6 50 false rfl rfl rfl rfl rfl (by omega) (by simp [evT_tmp,put_some]) (fun w => run_ev (by simp [execOp,evT_tmp,put_some]) (by simp [execOp])) ?_
     refine leads_yes (some 52) (.bool false) 6 50 false rfl rfl rfl rfl rfl (by omega) (by simp [evT_tmp,put_some]) (fun w => neE_run (e := 0) (f := 0) false (by simp) (by simp [evT_tmp,put_some]) (by simp [evT_const])) ?_
     refine leads_pure (some 53) (.bool false) rfl rfl rfl (fun w => pick_run false (by simp [evT_tmp,put_some]) (by simp [evT_tmp,put_some])) ?_
     refine leads_mv (some 54) rfl rfl rfl (.inl rfl) ?_
     refine leads_yes (some 55) (.slice ak K.length ck) 10 54 false rfl rfl rfl rfl rfl (by omega) (by simp [evT_tmp,put_some]) (fun w => run_ev (by simp [execOp,evT_tmp,put_some]) (by simp [execOp])) ?_
     refine leads_yes (some 56) (.int .i64 (K.length : Int)) 10 54 false rfl rfl rfl rfl rfl (by omega) (by simp [evT_tmp,put_some]) (fun w => run_ev (by simp [execOp,go_sem,evT_tmp,put_some]) (by simp [execOp,go_sem,evT_tmp,put_some])) ?_
     refine leads_yes (some 57) (.bool true) 10 54 false rfl rfl rfl rfl rfl (by omega) (by simp [evT_tmp,put_some]) (fun w => gtr_run (e := (K.length : Int)) (f := 200) true (decide_eq_true (by omega)) (by simp [evT_tmp,put_some]) (by simp [evT_const])) ?_
     refine leads_pure (some 58) (.bool true) rfl rfl rfl (fun w => pick_run false (by simp [evT_tmp,put_some]) (by simp [evT_tmp,put_some])) ?_
     refine leads_regionEnd ?_
     refine leads_cond true (by simp [evT_tmp,put_some]) ?_
     refine leads_seq ?_
     refine leads_region [0] rfl ?_
     refine leads_mv (some 14) rfl rfl rfl (.inr rfl) ?_
     refine leads_regionEnd ?_
     refine leads_retD ?_
     refine leads_true Tryd.func5 (by kernel_rfl) (fun w es => ?_) B4
     rw [res1 (j := 14) rfl]
     show (Result.ok (evT (arr 102 _) (.tmp 14)) w,es) = _
     simp [evT_tmp,put_some,evT_const]
   refine leads_region [0,1,2,3,4,5,6,7,8,9,10,11,12,13,14] rfl ?_
   refine leads_mv (some 44) rfl rfl rfl (.inl rfl) ?_
   refine leads_pure (some 45) (.bool false) rfl rfl rfl (fun w => run_ev (by simp [execOp,go_sem,evT_tmp,put_some]) (by simp [execOp,go_sem,evT_tmp,put_some])) ?_
   refine leads_mv (some 46) rfl rfl rfl (.inl rfl) ?_
   refine leads_yes (some 47) (.int .i64 0) 2 46 false rfl rfl rfl rfl rfl (by omega) (by simp [evT_tmp,put_some]) (fun w => run_ev (by simp [execOp,evT_tmp,put_some]) (by simp [execOp])) ?_
   refine leads_yes (some 48) (.bool false) 2 46 false rfl rfl rfl rfl rfl (by omega) (by simp [evT_tmp,put_some]) (fun w => neE_run (e := 0) (f := 0) false (by simp) (by simp [evT_tmp,put_some]) (by simp [evT_const])) ?_
   refine leads_pure (some 49) (.bool false) rfl rfl rfl (fun w => pick_run false (by simp [evT_tmp,put_some]) (by simp [evT_tmp,put_some])) ?_
   refine leads_mv (some 50) rfl rfl rfl (.inl rfl) ?_
   refine leads_yes (some 51) (.int .i64 0) 6 50 false rfl rfl rfl rfl rfl (by omega) (by simp [evT_tmp,put_some]) (fun w => run_ev (by simp [execOp,evT_tmp,put_some]) (by simp [execOp])) ?_
   refine leads_yes (some 52) (.bool false) 6 50 false rfl rfl rfl rfl rfl (by omega) (by simp [evT_tmp,put_some]) (fun w => neE_run (e := 0) (f := 0) false (by simp) (by simp [evT_tmp,put_some]) (by simp [evT_const])) ?_
   refine leads_pure (some 53) (.bool false) rfl rfl rfl (fun w => pick_run false (by simp [evT_tmp,put_some]) (by simp [evT_tmp,put_some])) ?_
   refine leads_mv (some 54) rfl rfl rfl (.inl rfl) ?_
   refine leads_yes (some 55) (.slice ak K.length ck) 10 54 false rfl rfl rfl rfl rfl (by omega) (by simp [evT_tmp,put_some]) (fun w => run_ev (by simp [execOp,evT_tmp,put_some]) (by simp [execOp])) ?_
   refine leads_yes (some 56) (.int .i64 (K.length : Int)) 10 54 false rfl rfl rfl rfl rfl (by omega) (by simp [evT_tmp,put_some]) (fun w => run_ev (by simp [execOp,go_sem,evT_tmp,put_some]) (by simp [execOp,go_sem,evT_tmp,put_some])) ?_
   refine leads_yes (some 57) (.bool false) 10 54 false rfl rfl rfl rfl rfl (by omega) (by simp [evT_tmp,put_some]) (fun w => gtr_run (e := (K.length : Int)) (f := 200) false (decide_eq_false (by omega)) (by simp [evT_tmp,put_some]) (by simp [evT_const])) ?_
   refine leads_pure (some 58) (.bool false) rfl rfl rfl (fun w => pick_run false (by simp [evT_tmp,put_some]) (by simp [evT_tmp,put_some])) ?_
   refine leads_regionEnd ?_
   refine leads_cond false (by simp [evT_tmp,put_some]) ?_
   refine leads_skip ?_
   obtain ⟨ds,g,hG,hds,rfl,hU⟩ := hA rfl
   obtain ⟨m1,rfl,hm1,hP1⟩ := hL rfl ds hG hds
   obtain ⟨m2,rfl,hm2,hP2⟩ := hM rfl ds hG hds
   obtain ⟨k1,hk1,cR1⟩ := rest8 wk
   obtain ⟨k2,hk2,cR2⟩ := rest8 ot
   refine leads_seq ?_
   refine leads_region [0,1,2,3,4,5,6,7,8,9,10,11,12] rfl ?_
   refine leads_mv (some 60) rfl rfl rfl (.inl rfl) ?_
   refine leads_mv (some 61) rfl rfl rfl (.inl rfl) ?_
   refine leads_mv (some 62) rfl rfl rfl (.inl rfl) ?_
   refine leads_mv (some 63) rfl rfl rfl (.inl rfl) ?_
   refine leads_fn tAll (fun u _ => u = .int .i64 (k1 : Int)) (some 64) 18 #[.int .i64 wk,.int .i64 8] rfl rfl (wanted_0 rfl) (fun w => run_ev (by simp [execOp,go_sem,evT_tmp,evT_func,evT_const,put_some]) (by simp [execOp,go_sem,evT_tmp,evT_func,evT_const,put_some,call_events Tryd.func18 (by kernel_rfl) rfl])) (by kernel_rfl) (fun τ t => ?_) (fun _ _ _ _ _ _ h => h) ?_
   · exact (cR1 _).mono fun e w1 h => ⟨_,h.1,rfl,by rw [h.2]; exact Below.refl _ _⟩
   rintro u p5 rfl b5
   refine leads_pure (some 65) (.int .i64 ((k1 + 1 : Nat) : Int)) rfl rfl rfl (fun w => addk_run (k := k1) (by omega) (by simp [evT_const]) (by simp [evT_tmp,put_some])) ?_
   refine leads_mv (some 66) rfl rfl rfl (.inl rfl) ?_
   refine leads_fn tAll (fun u W => ∃ gd cd,u = .tuple #[.slice (some ⟨gd,0,none⟩) (prd2 ds) cd,.bool true] /\ IsU W (.slice (some ⟨gd,0,none⟩) (prd2 ds) cd) (mk (prd2 ds) (who ds false (cf (szd xs (prd2 ds))) ds.length))) (some 67) 19 #[v,.slice (some ⟨g,0,none⟩) (prd2 ds) (prd2 ds),l,.int .i64 ((k1 + 1 : Nat) : Int),.bool false,.slice ak K.length ck] rfl rfl (wanted_0 rfl) (fun w => run_ev (by simp [execOp,go_sem,evT_tmp,evT_func,evT_const,put_some]) (by simp [execOp,go_sem,evT_tmp,evT_func,evT_const,put_some,call_events Tryd.func19 (by kernel_rfl) rfl])) (by kernel_rfl) (fun τ t => ?_) (fun _ _ _ _ _ _ h => h) ?_
   · have B5 := B4.trans b5
     refine (top_driven _ v _ l _ zs ds (szd xs (prd2 ds)) _ (k1 + 1) false K (IsZ.tp (IsZ.blw hZ B5) τ t) (IsU.tp (IsU.blw hU ((b3.trans b4).trans b5)) τ t) (IsP.tp (IsP.blw hP1 (b4.trans b5)) τ t) (IsR.tp (IsR.blw hK B5) τ t) (hT.blw B5).tab hG hds (stc_of hG hds m1 hm1 _ (szd_length _ _) (k1 + 1) (by omega) (by omega)) (pls_notbig (few_small hG.2.2.2 hds m1)) (szd_length _ _) (by omega) (by omega) (by omega)).mono ?_
     rintro e w1 ⟨gd,cd,rfl,h1,h2⟩
     exact ⟨_,rfl,⟨gd,cd,rfl,h1⟩,h2⟩
   rintro u p6 ⟨gd,cd,rfl,hUd⟩ b6
   have B6 := (B4.trans b5).trans b6
   refine leads_mv (some 59) rfl rfl rfl (.inl rfl) ?_
   refine leads_extr (some 68) (.slice (some ⟨gd,0,none⟩) (prd2 ds) cd) rfl rfl rfl rfl (by simp [evT_tmp,put_some]; rfl) rfl ?_
   refine leads_extr (some 69) (.bool true) rfl rfl rfl rfl (by simp [evT_tmp,put_some]; rfl) rfl ?_
   refine leads_mv (some 21) rfl rfl rfl (.inr rfl) ?_
   refine leads_mv (some 16) rfl rfl rfl (.inr rfl) ?_
   refine leads_regionEnd ?_
   refine leads_seq ?_
   refine leads_region [0,1,2,3,4,5,6,7,8,9,10,11] rfl ?_
   refine leads_mv (some 71) rfl rfl rfl (.inl rfl) ?_
   refine leads_mv (some 72) rfl rfl rfl (.inl rfl) ?_
   refine leads_mv (some 73) rfl rfl rfl (.inl rfl) ?_
   refine leads_mv (some 74) rfl rfl rfl (.inl rfl) ?_
   refine leads_fn tAll (fun u _ => u = .int .i64 (k2 : Int)) (some 75) 18 #[.int .i64 ot,.int .i64 8] rfl rfl (wanted_0 rfl) (fun w => run_ev (by simp [execOp,go_sem,evT_tmp,evT_func,evT_const,put_some]) (by simp [execOp,go_sem,evT_tmp,evT_func,evT_const,put_some,call_events Tryd.func18 (by kernel_rfl) rfl])) (by kernel_rfl) (fun τ t => ?_) (fun _ _ _ _ _ _ h => h) ?_
   · exact (cR2 _).mono fun e w1 h => ⟨_,h.1,rfl,by rw [h.2]; exact Below.refl _ _⟩
   rintro u p7 rfl b7
   refine leads_pure (some 76) (.int .i64 ((k2 + 1 : Nat) : Int)) rfl rfl rfl (fun w => addk_run (k := k2) (by omega) (by simp [evT_const]) (by simp [evT_tmp,put_some])) ?_
   refine leads_enterD 13 #[v,.slice (some ⟨gd,0,none⟩) (prd2 ds) cd,m,.int .i64 ((k2 + 1 : Nat) : Int),.bool true] rfl rfl (fun w => run_ev (by simp [execOp,go_sem,evT_tmp,evT_func,evT_const,put_some]) (by simp [execOp,go_sem,evT_tmp,evT_func,evT_const,put_some,call_events Tryd.func13 (by kernel_rfl) rfl])) ?_
   have B7 := B6.trans b7
   refine Leads.then (together_right (n := k2 + 1) (back := true) tAll (by kernel_rfl) (by kernel_rfl) (IsZ.blw hZ B7) (IsU.blw hUd b7) (IsP.blw hP2 ((b5.trans b6).trans b7)) hG (by omega) (pls_fine ds m2 hm2) (pls_notbig (few_small hG.2.2.2 hds m2)) (mk_length _ _) (by omega) (by omega) (by kernel_rfl) (hT.blw B7)) ?_
   rintro a' p8 ⟨gc,rfl,b8,hUc,-,-⟩
   rw [finish_arr _ _ _ _ _ _ _ _ _ _ rfl]
   refine leads_mv (some 70) rfl rfl rfl (.inl rfl) ?_
   refine leads_extr (some 78) (.slice (some ⟨gc,0,none⟩) (prd2 ds) (prd2 ds)) rfl rfl rfl rfl (by simp [evT_tmp,put_some]; rfl) rfl ?_
   refine leads_extr (some 79) (.int .i64 0) rfl rfl rfl rfl (by simp [evT_tmp,put_some]; rfl) rfl ?_
   refine leads_mv (some 22) rfl rfl rfl (.inr rfl) ?_
   refine leads_mv (some 18) rfl rfl rfl (.inr rfl) ?_
   refine leads_regionEnd ?_
   refine leads_seq ?_
   refine leads_seq ?_
   refine leads_region [0,1,2,3,4,5] rfl ?_
   refine leads_mv (some 80) rfl rfl rfl (.inl rfl) ?_
   refine leads_pure (some 81) (.bool false) rfl rfl rfl (fun w => run_ev (by simp [execOp,go_sem,evT_tmp,put_some]) (by simp [execOp,go_sem,evT_tmp,put_some])) ?_
   refine leads_mv (some 82) rfl rfl rfl (.inl rfl) ?_
   refine leads_yes (some 83) (.int .i64 0) 2 82 false rfl rfl rfl rfl rfl (by omega) (by simp [evT_tmp,put_some]) (fun w => run_ev (by simp [execOp,evT_tmp,put_some]) (by simp [execOp])) ?_
   refine leads_yes (some 84) (.bool false) 2 82 false rfl rfl rfl rfl rfl (by omega) (by simp [evT_tmp,put_some]) (fun w => neE_run (e := 0) (f := 0) false (by simp) (by simp [evT_tmp,put_some]) (by simp [evT_const])) ?_
   refine leads_pure (some 85) (.bool false) rfl rfl rfl (fun w => pick_run false (by simp [evT_tmp,put_some]) (by simp [evT_tmp,put_some])) ?_
   refine leads_regionEnd ?_
   refine leads_cond false (by simp [evT_tmp,put_some]) ?_
   refine leads_skip ?_
   have hUa := IsU.blw hU ((((b3.trans b4).trans b5).trans b6).trans (b7.trans b8))
   refine leads_rest (j := 14) (f := Tryd.f5) tAll _ (by kernel_rfl) Tryd.func5 (by kernel_rfl) rfl (by kernel_rfl) (by kernel_rfl) (B7.trans b8) fun τ d => topBack_tail (tp p8 τ d) v vx l m wk ot m1 m2 k1 k2 g gd cd gc (prd2 ds) ak K.length ck _ _ (IsU.tp hUa τ d) (IsU.tp hUc τ d) (szd_length _ _) (mk_length _ _) fun i hi => ?_
   rw [mk_getD _ _ _ hi,who_congr hG.2.2.2 true (fun j hj => cf_mk_lt _ _ j hj) i hi]
   have hb := who_back hG.2.2.2 (by omega) false (cf (szd xs (prd2 ds))) i hi
   rw [show (!false) = true from rfl] at hb
   rw [hb]
   exact cf_val _ i
end Go.Proofs.YtckoipoejaafhaaDoor.Cc
namespace Go.Proofs.YtckoipoejaafhaaDoor
open Go Go.Conc Go.RowKit
theorem topBack_walk (w : World) (v : Value) (zs : List Int) (hZ : IsZ w v zs) (vx : Value) (xs : List Nat) (hX : IsU w vx xs) (c1 : Int) (hc1 : (Lit.int .i64 c1).wf = true) (c2 : Int) (hc2 : (Lit.int .i64 c2).wf = true) (wk : Int) (_hwk : (Lit.int .i64 wk).wf = true) (ot : Int) (_hot : (Lit.int .i64 ot).wf = true) (vp : Value) (K : List (List Int)) (hK : IsR 2 w vp K) (hsh : w.ShapedOpen Tryd.prog) (hTb : Tab w) :
   Cc.GoodRun Tryd.prog 5 #[v,vx,.int .i64 c1,.int .i64 c2,.int .i64 wk,.int .i64 ot,vp] w :=
 Cc.good_run hsh (Cc.topBack_leads hZ hX hK (bounds_i64 hc1) (bounds_i64 hc2) (Cc.tbs_of hsh hTb))
end Go.Proofs.YtckoipoejaafhaaDoor
