/-
  The law TopPlans, beside leavers, whole.
-/
import Derived.Test.YtckoipoejaafhabDoorCeTAll
import Derived.Test.YtckoipoejaafhabDoorExOAll
import Derived.Test.YtckoipoejaafhabDoorExOAll
import Derived.Test.YtckoipoejaafhabDoorExOAll
import Derived.Test.YtckoipoejaafhabDoorExOAll
import Derived.Carry
namespace Go.Proofs.YtckoipoejaafhabDoor
open Go.RowKit
set_option maxRecDepth 100000
theorem map_grown {w w' : World} {b : Nat} (h : w.grownBy w' (some b)) : ∀ k, k < w.heap.size → k ≠ b → w'.heap[k]? = w.heap[k]? := fun k hk hne => h.block k hk (fun e => hne (Option.some.inj e))
set_option maxRecDepth 100000 in
set_option maxHeartbeats 8000000 in
theorem topPlans_tail (w : World) (v vx vl : Value) (zs : List Int) (ds : List Nat) (L : List (List (List Int))) (wk : Int) (back : Bool) (g gc k1 : Nat) (x4 u13 u46 u47 u48 u49 u50 u51 : Value) (hZ : IsZ w v zs) (hP : IsP 3 w vl L) (hG : Good zs ds) (hds : prd2 ds ≤ 64) (hFi : Fine ds L) :
    (Cc.sq2 (Cc.sq2 (Cc.sq2 (Cc.sq2 (Cc.sq2 (Cc.sq2 (Cc.sq2 (Cc.sq2 (Tryd.f3.body.getD .skip))))))))).wp Tryd.prog (bodyPost Tryd.prog Tryd.f3 fun e w' => e = .returned (.bool true) ∧ Below w.heap.size w w')
      ⟨#[v, vx, vl, .int .i64 wk, .bool back, undef, undef, undef, undef, undef, .bool false, .slice (some ⟨g, 0, none⟩) (prd2 ds) (prd2 ds), .bool true, u13, .int .i64 0, .slice (some ⟨gc, 0, none⟩) (prd2 ds) (prd2 ds), .int .i64 0, undef, undef, undef, undef, undef, undef, .bool true, .bool false, .tuple #[.slice (some ⟨g, 0, none⟩) (prd2 ds) (prd2 ds), .bool true], v, vx, .tuple #[.slice (some ⟨g, 0, none⟩) (prd2 ds) (prd2 ds), .bool true], .slice (some ⟨g, 0, none⟩) (prd2 ds) (prd2 ds), .bool true, .bool true, .bool false, .bool false, v, vl, .int .i64 0, .bool false, .bool false, .tuple #[x4, .int .i64 0], v, .slice (some ⟨g, 0, none⟩) (prd2 ds) (prd2 ds), .tuple #[x4, .int .i64 0], x4, .int .i64 0, .bool back, u46, u47, u48, u49, u50, u51, .tuple #[.slice (some ⟨gc, 0, none⟩) (prd2 ds) (prd2 ds), .int .i64 0], v, .slice (some ⟨g, 0, none⟩) (prd2 ds) (prd2 ds), vl, .int .i64 wk, .int .i64 (k1 : Int), .int .i64 ((k1 + 1 : Nat) : Int), .bool back, .tuple #[.slice (some ⟨gc, 0, none⟩) (prd2 ds) (prd2 ds), .int .i64 0], .slice (some ⟨gc, 0, none⟩) (prd2 ds) (prd2 ds), .int .i64 0, .int .i64 0, .bool false, .bool false, .int .i64 0, .bool false, .bool false, .bool false, .slice (some ⟨gc, 0, none⟩) (prd2 ds) (prd2 ds), u13, .bool true, .bool false, .bool false, undef, undef, undef, undef, undef, undef, undef, undef, undef, undef, undef, undef, undef, undef, undef, undef, undef, undef, undef, undef, undef, undef, undef, undef, undef, undef, undef, undef, undef, undef, undef, undef, undef, undef, undef, undef, undef, undef, undef], []⟩ w := by
  have hS : Shp ds := hG.2.2.2
  have hlen : zs.length = ds.length := by rw [hG.2.2.1, List.length_map]
  have hL : L.length = ds.length := hFi.1
  have h3 : L.length ≤ 3 := by rw [hL, ← hlen]; exact hG.2.1
  have hzs : ∀ y, y < ds.length → zs.getD y 0 = ((sz ds y : Nat) : Int) := fun y hy => by
    rw [hG.2.2.1]
    simp [List.getD, sz, hy]
  have key : Hid (∀ y, y < L.length → ∃ n, RgtP n y (L.getD y []) ∧ n ≤ 64 ∧ 0 < sz ds y ∧ sz ds y ≤ 64 ∧ Int.tdiv ((prd2 ds : Nat) : Int) ((sz ds y : Nat) : Int) = (n : Int)) := fun y hy => by
    have hy' : y < ds.length := by omega
    have hq := nln_quo hS hy'
    have hp := prd2_pos hS.pos
    have hs0 : 0 < sz ds y := Nat.pos_of_ne_zero fun e => by rw [prd2_at ds y hy', e] at hp; simp at hp
    have hle : nln ds y ≤ prd2 ds := by rw [← hq]; exact Nat.div_le_self _ _
    have hsz : sz ds y ≤ prd2 ds := by
      have h1 := prd2_at ds y hy'
      rw [h1] at hp
      have h2 : 0 < beh ds (y + 1) := Nat.pos_of_ne_zero fun e => by rw [e] at hp; simp at hp
      have h4 : 0 < prd2 (ds.take y) := Nat.pos_of_ne_zero fun e => by rw [e] at hp; simp at hp
      rw [h1]
      calc sz ds y = 1 * sz ds y * 1 := by omega
        _ ≤ beh ds (y + 1) * sz ds y * prd2 (ds.take y) := Nat.mul_le_mul (Nat.mul_le_mul h2 (Nat.le_refl _)) h4
    refine ⟨nln ds y, hFi.2 y hy', by omega, hs0, by omega, ?_⟩
    rw [← hq, Int.tdiv_eq_ediv_of_nonneg (by omega), Int.natCast_ediv]
  obtain ⟨az, cz, rfl, -, -, hcz, -⟩ := id hZ
  obtain ⟨bz, oz, rfl, -⟩ := hcz 0 (by have := hG.1; exact this)
  have hcz' : Hid (∀ (wr : World), Below w.heap.size w wr → ∀ y, y < L.length → wr.cell? ⟨bz, oz + y, none⟩ = some (.int .i64 ((sz ds y : Nat) : Int))) := fun wr hb y hy => by
    obtain ⟨b, o, e, hc⟩ := hcz y (by omega)
    simp only [Option.some.injEq, Addr.mk.injEq, and_true] at e
    obtain ⟨rfl, rfl⟩ := e
    rw [hzs y (by omega)] at hc
    exact (hb.cell (block_lt hc)).trans hc
  obtain ⟨al, cl, rfl, -⟩ := id hP
  have hPh : Hid (∀ (wr : World), Below w.heap.size w wr → ∀ y, y < L.length → ∃ b off u nn q, al = some ⟨b, off, none⟩ ∧ u = .slice q (L.getD y []).length nn ∧ wr.cell? ⟨b, off + y, none⟩ = some u ∧ IsR 3 wr u (L.getD y [])) := fun wr hb y hy => phase_cells hP hb y hy
  have hzl : zs.length ≤ 3 := by omega
  have hzL : Hid (zs.length = L.length) := by show _ = _; omega
  clear hcz hP hZ hG hFi hS hlen hzs hL
  generalize prd2 ds = N at *
  refine Cc.tail8 (fn := Tryd.f3) rfl ?_
  go_wp2
  go_loopw [77] (fun vi wr => ∃ y : Nat, y ≤ L.length ∧ vi = .int .i64 (y : Int) ∧ Below w.heap.size w wr) (fun vi _ => L.length - (intOf vi).toNat)
  case atStart => exact ⟨0, Nat.zero_le _, rfl, Below.refl _ _⟩
  case round =>
    obtain ⟨y, hy, rfl, hb⟩ := hrel
    by_cases hlt : y < L.length
    · obtain ⟨wo, hwo⟩ : ∃ wo : World, wo = wr := ⟨_, rfl⟩
      rw [← hwo] at hb ⊢
      clear hwo
      obtain ⟨b, off, u, nn, q, rfl, rfl, hcu, hR⟩ := hPh.out wo hb y hlt
      obtain ⟨n, hRg, hn64, hs0, hs64, hquo⟩ := key.out y hlt
      have hcs := hcz'.out wo hb y hlt
      have hRg' : Hid (RgtP n y (L.getD y [])) := hRg
      have hR' : Hid (IsR 3 wo (.slice q (L.getD y []).length nn) (L.getD y [])) := hR
      have hTl : (L.getD y []).length ≤ 64 := by
        have h1 := lnT_most hRg
        rcases Nat.lt_or_ge 64 (L.getD y []).length with h2 | h2
        · exfalso
          have h4 : ∀ i, i ≤ (L.getD y []).length → i ≤ (lnT (L.getD y []) i).length := fun i => by
            induction i with
            | zero => intro _; exact Nat.zero_le _
            | succ i ih =>
              intro hi
              have h5 := ih (by omega)
              have hv := hRg.1 _ (getD_mem (show i < (L.getD y []).length by omega))
              rw [lnT, List.length_append]
              unfold rngT
              rw [List.length_map, List.length_range]
              have := hv.2.2.2
              omega
          have h5 := h4 _ (Nat.le_refl _)
          rw [lnT_all hRg] at h5
          omega
        · exact h2
      clear key hcz' hPh hRg hR
      generalize L.getD y [] = T at *
      generalize sz ds y = s at *
      obtain ⟨w1, hw1⟩ : ∃ w1 : World, w1 = wo.alloc (.map #[] 0) := ⟨_, rfl⟩
      have hM1 : Hid (MapB w1 wo.heap.size []) := by rw [hw1]; exact MapB.made wo
      have hb1 : Below wo.heap.size wo w1 := by rw [hw1]; exact below_alloc1 wo _
      obtain ⟨B, hB⟩ : ∃ B, Hid (B = wo.heap.size) := ⟨_, rfl⟩
      rw [← hB.out] at hM1
      have hcs' : Hid (wo.cell? ⟨bz, oz + y, none⟩ = some (.int .i64 ((s : Nat) : Int))) := hcs
      have hmm := @run_makeMap Tryd.prog
      go_wp2
      rw [← hw1, ← hB.out]
      clear hcs hcu hw1 hmm
      go_loopw [85] (fun vi wq => ∃ i : Nat, i ≤ T.length ∧ vi = .int .i64 (i : Int) ∧ Hid (MapB wq B (lnT T i)) ∧ Below wo.heap.size wo wq) (fun vi _ => T.length - (intOf vi).toNat)
      case atStart => exact ⟨0, Nat.zero_le _, rfl, hM1, hb1⟩
      case round =>
        clear hM1 hb1
        obtain ⟨i, hi, rfl, hM, hbq⟩ := hrel
        obtain ⟨wq, hwq⟩ : ∃ wq : World, wq = wr := ⟨_, rfl⟩
        rw [← hwq] at hM hbq ⊢
        clear hwq
        by_cases hli : i < T.length
        · obtain ⟨aT, cT, e0, -, -, hcT, -⟩ := hR'.out.below hbq
          simp only [Value.slice.injEq] at e0
          obtain ⟨rfl, -, rfl⟩ := e0
          obtain ⟨bT, oT, rfl, hce⟩ := hcT i hli
          have hv := hRg'.out.1 _ (getD_mem hli)
          obtain ⟨f, hf⟩ := Int.eq_ofNat_of_zero_le hv.2.1
          obtain ⟨l, hl⟩ := Int.eq_ofNat_of_zero_le (show 0 ≤ (T.getD i []).getD 2 0 by have := hv.2.2.2; omega)
          have hfl : f < l := by have := hv.2.2.2; omega
          have hln : l ≤ n := by have := hv.2.2.1; omega
          have c0 := hce 0 (by omega)
          have c1 := hce 1 (by omega)
          have c2 := hce 2 (by omega)
          rw [hf, ← Nat.add_assoc] at c1
          rw [hl, ← Nat.add_assoc] at c2
          rw [Nat.add_zero] at c0
          have hnew : Hid (∀ k : Nat, f ≤ k → k < l → k ∉ lnT T i) := fun k h1 h2 => lnT_new hRg'.out hli (by rw [hf]; omega) (by rw [hl]; omega)
          have hmost : Hid (∀ q : Nat, q ≤ l - f → (lnT T i).length + q ≤ n) := fun q hq => lnT_most hRg'.out i hi q hli (by rw [hf, hl]; omega)
          have hnext : Hid (lnT T i ++ (List.range (l - f)).map (fun q => f + q) = lnT T (i + 1)) := by
            show _ = _
            rw [lnT]
            unfold rngT
            rw [hf, hl, show ((l : Int) - (f : Int)).toNat = l - f by omega]
            rfl
          generalize (T.getD i []).getD 0 0 = z0 at *
          generalize lnT T i = Sx at *
          have hMlt := hM.out.lt
          clear hce hcT hv hf hl hRg' hR'
          go_wp2
          obtain ⟨wa, hwa⟩ : ∃ wa : World, wa = wq.alloc (.cells #[.int .i64 z0, .int .i64 (f : Int), .int .i64 (l : Int)] 40) := ⟨_, rfl⟩
          have hMa : Hid (MapB wa B Sx) := by rw [hwa]; exact hM.out.block ((below_alloc1 wq _).block _ hMlt)
          have hba : Below wo.heap.size wo wa := by rw [hwa]; exact hbq.trans ((below_alloc1 wq _).mono hbq.size)
          have hca : Hid (wa.cell? ⟨wq.heap.size, 2, none⟩ = some (.int .i64 (l : Int))) := by
            rw [hwa]
            show World.cell? _ _ = _
            unfold World.cell?
            rw [Cc.alloc_at]
            rfl
          obtain ⟨X, hX⟩ : ∃ X, Hid (X = wq.heap.size) := ⟨_, rfl⟩
          have hXB : X ≠ B := by rw [hX.out]; omega
          rw [← hX.out] at hca ⊢
          rw [← hwa]
          clear hwa hM hbq c0 c1 c2
          go_loopw [22] (fun vk wk => ∃ k : Nat, f ≤ k ∧ k ≤ l ∧ vk = .int .i64 (k : Int) ∧ Hid (MapB wk B (Sx ++ (List.range (k - f)).map (fun q => f + q))) ∧ Below wo.heap.size wo wk ∧ Hid (wk.cell? ⟨X, 2, none⟩ = some (.int .i64 (l : Int)))) (fun vk _ => l - (intOf vk).toNat)
          case atStart => exact ⟨f, Nat.le_refl _, by omega, rfl, by rw [Nat.sub_self]; simpa using hMa, hba, hca⟩
          case round =>
            clear hMa hba hca
            obtain ⟨k, hk1, hk2, rfl, hMk, hbk, hck⟩ := hrel
            by_cases hlk : k < l
            · have hnot : k ∉ Sx ++ (List.range (k - f)).map (fun q => f + q) := by
                rw [List.mem_append]
                rintro (h | h)
                · exact hnew.out k hk1 hlk h
                · simp only [List.mem_map, List.mem_range] at h
                  omega
              have hk6 : k ≤ 1000000 := by omega
              have hlook := hMk.out.look k hk6
              rw [decide_eq_false hnot] at hlook
              have hS6 : (Sx ++ (List.range (k - f)).map (fun q => f + q)).length ≤ 1000000 := by
                rw [List.length_append, List.length_map, List.length_range]
                have := hmost.out (k - f) (by omega)
                omega
              have hsn : Hid (Sx ++ (List.range (k - f)).map (fun q => f + q) ++ [k] = Sx ++ (List.range (k + 1 - f)).map (fun q => f + q)) := by
                show _ = _
                rw [show k + 1 - f = (k - f) + 1 by omega, List.range_succ, List.map_append, List.append_assoc]
                congr 2
                simp
                omega
              have hcl := hck.out
              have hXl := block_lt hcl
              go_wp2_with (at_mapUpdate; refine wp_putB rfl _ _ _ rfl B _ k rfl hMk.out rfl rfl hk6 hS6 hnot ?_; intro w3 hm3 hg3; rw [hsn.out] at hm3; replace hm3 : Hid _ := hm3; have hc3 : Hid (w3.cell? ⟨X, 2, none⟩ = some (.int .i64 (l : Int))) := Cc.cell_same hcl (map_grown hg3 X hXl hXB); have hb3 : Below wo.heap.size wo w3 := ⟨hg3.os.trans hbk.os, hg3.tape.trans hbk.tape, hg3.output.trans hbk.output, Nat.le_trans hbk.size hg3.size, fun j hj => (map_grown hg3 j (Nat.lt_of_lt_of_le hj hbk.size) (by have := hB.out; omega)).trans (hbk.block j hj)⟩; clear hg3 hcl)
              go_roundw
              case rel => exact ⟨k + 1, by omega, by omega, by go_num, hm3, hb3, hc3⟩
              case measure => simp only [intOf]; omega
            · have e : k = l := by omega
              subst e
              have hcl := hck.out
              have hMn : Hid (MapB wr B (lnT T (i + 1))) := by rw [← hnext.out]; exact hMk.out
              clear hMk hck hnew hmost hnext
              go_wp2
              go_roundw
              case rel => exact ⟨i + 1, by omega, by go_num, hMn, hbk⟩
              case measure => simp only [intOf]; omega
        · have e : i = T.length := by omega
          have hgi : T.length ≤ i := by omega
          have hlenm : ∀ (dn : Nat) (ty : TypeId), (Builtin.len_ #[38] ty #[.map (some B)]).run Tryd.prog (wq.drewN dn) = .ok (.int .i64 (n : Int)) (wq.drewN dn) := fun dn ty => by
            have hl := (hM.out.block (w' := wq.drewN dn) rfl).len ty
            rw [e, lnT_all hRg'.out] at hl
            exact hl
          have hc8 := (hbq.cell (block_lt hcs'.out)).trans hcs'.out
          have hsz : ¬ (s : Int) = 0 := by omega
          have hzy : y < zs.length := by rw [hzL.out]; exact hlt
          have hBq := hb.trans (hbq.mono hb.size)
          clear hM hRg' hR' hcs' e
          go_wp2
          go_quiet (fail)
          go_wp2
          go_roundw
          case rel => exact ⟨y + 1, by omega, by go_num, ⟨hBq.os, hBq.tape, hBq.output, hBq.size, hBq.block⟩⟩
          case measure => simp only [intOf]; omega
    · have hge : L.length ≤ y := by omega
      clear key hcz' hPh
      go_wp2
      go_ret
      exact ⟨rfl, hb⟩
end Go.Proofs.YtckoipoejaafhabDoor
namespace Go.Proofs.YtckoipoejaafhabDoor.Cc
open Go Go.Conc Go.RowKit
set_option maxRecDepth 100000 in
set_option maxHeartbeats 16000000 in
theorem topPlans_leads {w : World} {v vx vl : Value} {zs : List Int} {xs : List Nat} {L : List (List (List Int))} {wk : Int} {back : Bool} (hZ : IsZ w v zs) (hX : IsU w vx xs) (hP : IsP 3 w vl L) (hT : Tbs w.heap.size w) :
    Leads Tryd.prog w.heap.size (G (Frame.enter Tryd.prog 3 #[v, vx, vl, .int .i64 wk, .bool back] .normal) []) w (EndT Tryd.prog w w.heap.size) := by
  rw [enter_fd #[v, vx, vl, .int .i64 wk, .bool back] Tryd.func3 rfl (show 5 ≤ 114 by omega), Tryd.ntmps3]
  refine leads_seq ?_
  refine leads_region [0] rfl ?_
  refine leads_mv (some 10) rfl rfl rfl (.inr rfl) ?_
  refine leads_regionEnd ?_
  refine leads_seq ?_
  refine leads_seq ?_
  refine leads_region [0, 1] rfl ?_
  refine leads_enterD 4 #[] rfl rfl (fun w => run_ev (by simp [execOp, go_sem, evT_func]) (by simp [execOp, go_sem, evT_func, call_events Tryd.func4 (by kernel_rfl) rfl])) ?_
  refine Leads.then (said_leads hT) ?_
  rintro a' p1 ⟨rfl, b1⟩
  rw [finish_arr _ _ _ _ _ _ _ _ _ _ rfl]
  refine leads_pure (some 24) (.bool false) rfl rfl rfl (fun _ => run_ev (by simp [execOp, go_sem, evT_tmp, put_some]) (by simp [execOp, go_sem, evT_tmp, put_some])) ?_
  refine leads_regionEnd ?_
  refine leads_cond false (by simp [evT_tmp, put_some]) ?_
  refine leads_skip ?_
  refine leads_seq ?_
  refine leads_region [0, 1, 2, 3, 4, 5, 6, 7] rfl ?_
  refine leads_mv (some 26) rfl rfl rfl (.inl rfl) ?_
  refine leads_mv (some 27) rfl rfl rfl (.inl rfl) ?_
  refine leads_fn tAll (fun u W => ∃ a ok, u = .tuple #[a, .bool ok] ∧ (ok = true → ∃ ds g, Good zs ds ∧ prd2 ds ≤ 64 ∧ a = .slice (some ⟨g, 0, none⟩) (prd2 ds) (prd2 ds) ∧ IsU W a (szd xs (prd2 ds)))) (some 28) 5 #[v, vx] rfl rfl (wanted_0 rfl) (fun w => run_ev (by simp [execOp, go_sem, evT_tmp, evT_func, put_some]) (by simp [execOp, go_sem, evT_tmp, evT_func, put_some, call_events Tryd.func5 (by kernel_rfl) rfl])) (by kernel_rfl) (fun τ t => ?_) (fun _ _ _ _ _ _ h => h) ?_
  · exact (top_shaped_any _ _ _ zs xs (IsZ.tp (IsZ.blw hZ b1) τ t) (IsU.tp (IsU.blw hX b1) τ t)).mono fun e w1 ⟨a, ok, h1, h2, h3⟩ => ⟨_, h1, ⟨a, ok, rfl, h2⟩, h3⟩
  rintro u p2 ⟨a, ok, rfl, hA⟩ b2
  refine leads_mv (some 25) rfl rfl rfl (.inl rfl) ?_
  refine leads_extr (some 29) (a) rfl rfl rfl rfl (by simp [evT_tmp, put_some]; rfl) rfl ?_
  refine leads_extr (some 30) (.bool ok) rfl rfl rfl rfl (by simp [evT_tmp, put_some]; rfl) rfl ?_
  refine leads_mv (some 11) rfl rfl rfl (.inr rfl) ?_
  refine leads_mv (some 12) rfl rfl rfl (.inr rfl) ?_
  refine leads_regionEnd ?_
  have B2 := b1.trans b2
  refine leads_seq ?_
  refine leads_seq ?_
  cases ok with
  | false =>
    refine leads_region [0, 1, 2, 3, 4, 5, 6, 7] rfl ?_
    refine leads_mv (some 31) rfl rfl rfl (.inl rfl) ?_
    refine leads_pure (some 32) (.bool true) rfl rfl rfl (fun w => run_ev (by simp [execOp, go_sem, evT_tmp, put_some]) (by simp [execOp, go_sem, evT_tmp, put_some])) ?_
    refine leads_mv (some 33) rfl rfl rfl (.inl rfl) ?_
    refine leads_no (some 34) 2 33 false rfl rfl rfl rfl rfl (by omega) (by simp [evT_tmp, put_some]) ?_
    refine leads_no (some 35) 2 33 false rfl rfl rfl rfl rfl (by omega) (by simp [evT_tmp, put_some]) ?_
    refine leads_no (some 36) 2 33 false rfl rfl rfl rfl rfl (by omega) (by simp [evT_tmp, put_some]) ?_
    refine leads_no (some 37) 2 33 false rfl rfl rfl rfl rfl (by omega) (by simp [evT_tmp, put_some]) ?_
    refine leads_pure (some 38) (.bool true) rfl rfl rfl (fun w => pick_run true (by simp [evT_tmp, put_some]) (by simp [evT_const])) ?_
    refine leads_regionEnd ?_
    refine leads_cond true (by simp [evT_tmp, put_some]) ?_
    refine leads_seq ?_
    refine leads_region [0] rfl ?_
    refine leads_mv (some 10) rfl rfl rfl (.inr rfl) ?_
    refine leads_regionEnd ?_
    refine leads_retD ?_
    refine leads_true Tryd.func3 (by kernel_rfl) (fun w es => ?_) B2
    rw [res1 (j := 10) rfl]
    show (Result.ok (evT (arr 114 _) (.tmp 10)) w, es) = _
    simp [evT_tmp, put_some, evT_const]
  | true =>
    obtain ⟨ds, g, hG, hds, rfl, hU⟩ := hA rfl
    refine leads_region [0, 1, 2, 3, 4, 5, 6, 7] rfl ?_
    refine leads_mv (some 31) rfl rfl rfl (.inl rfl) ?_
    refine leads_pure (some 32) (.bool false) rfl rfl rfl (fun w => run_ev (by simp [execOp, go_sem, evT_tmp, put_some]) (by simp [execOp, go_sem, evT_tmp, put_some])) ?_
    refine leads_mv (some 33) rfl rfl rfl (.inl rfl) ?_
    refine leads_yes (some 34) (v) 2 33 false rfl rfl rfl rfl rfl (by omega) (by simp [evT_tmp, put_some]) (fun w => run_ev (by simp [execOp, evT_tmp, put_some]) (by simp [execOp])) ?_
    refine leads_yes (some 35) (vl) 2 33 false rfl rfl rfl rfl rfl (by omega) (by simp [evT_tmp, put_some]) (fun w => run_ev (by simp [execOp, evT_tmp, put_some]) (by simp [execOp])) ?_
    refine leads_fn tAll (fun u _ => ∃ er, u = .int .i64 er ∧ (er = 0 → Go.Proofs.YtckoipoejaafhabDoor.Fine ds L ∧ ¬ BigP L L.length)) (some 36) 6 #[v, vl] rfl rfl (wanted_b (b := false) (c := false) rfl rfl rfl (by omega) (by simp [evT_tmp, put_some])) (fun w => run_ev (by simp [execOp, go_sem, evT_tmp, evT_func, put_some]) (by simp [execOp, go_sem, evT_tmp, evT_func, put_some, call_events Tryd.func6 (by kernel_rfl) rfl])) (by kernel_rfl) (fun τ t => ?_) (fun _ _ _ _ _ _ h => h) ?_
    · refine (plan_Check_all _ _ _ zs ds L (IsZ.tp (IsZ.blw hZ B2) τ t) hG (by omega) (IsP.tp (IsP.blw hP B2) τ t)).mono ?_
      rintro e w1 ⟨⟨rfl, h⟩ | ⟨rfl, h, h'⟩ | ⟨rfl, h, h'⟩, hb⟩
      · exact ⟨_, rfl, ⟨5, rfl, fun q => absurd q (by decide)⟩, hb⟩
      · exact ⟨_, rfl, ⟨2, rfl, fun q => absurd q (by decide)⟩, hb⟩
      · exact ⟨_, rfl, ⟨0, rfl, fun _ => ⟨h, h'⟩⟩, hb⟩
    rintro u p3 ⟨er, rfl, hFi⟩ b3
    have B3 := B2.trans b3
    by_cases her : er = 0
    case neg =>
      refine leads_yes (some 37) (.bool true) 2 33 false rfl rfl rfl rfl rfl (by omega) (by simp [evT_tmp, put_some]) (fun w => neE_run (e := er) (f := 0) true (by simp [her]) (by simp [evT_tmp, put_some]) (by simp [evT_const])) ?_
      refine leads_pure (some 38) (.bool true) rfl rfl rfl (fun w => pick_run false (by simp [evT_tmp, put_some]) (by simp [evT_tmp, put_some])) ?_
      refine leads_regionEnd ?_
      refine leads_cond true (by simp [evT_tmp, put_some]) ?_
      refine leads_seq ?_
      refine leads_region [0] rfl ?_
      refine leads_mv (some 10) rfl rfl rfl (.inr rfl) ?_
      refine leads_regionEnd ?_
      refine leads_retD ?_
      refine leads_true Tryd.func3 (by kernel_rfl) (fun w es => ?_) B3
      rw [res1 (j := 10) rfl]
      show (Result.ok (evT (arr 114 _) (.tmp 10)) w, es) = _
      simp [evT_tmp, put_some, evT_const]
    subst her
    obtain ⟨hFi, hbig⟩ := hFi rfl
    refine leads_yes (some 37) (.bool false) 2 33 false rfl rfl rfl rfl rfl (by omega) (by simp [evT_tmp, put_some]) (fun w => neE_run (e := 0) (f := 0) false (by simp) (by simp [evT_tmp, put_some]) (by simp [evT_const])) ?_
    refine leads_pure (some 38) (.bool false) rfl rfl rfl (fun w => pick_run false (by simp [evT_tmp, put_some]) (by simp [evT_tmp, put_some])) ?_
    refine leads_regionEnd ?_
    refine leads_cond false (by simp [evT_tmp, put_some]) ?_
    refine leads_skip ?_
    refine leads_seq ?_
    refine leads_region [0, 1, 2, 3, 4, 5, 6, 7] rfl ?_
    refine leads_mv (some 40) rfl rfl rfl (.inl rfl) ?_
    refine leads_mv (some 41) rfl rfl rfl (.inl rfl) ?_
    refine leads_fn tAll (fun u W => ∃ x, u = .tuple #[x, .int .i64 0] ∧ IsU W x (mk (prd2 ds) (who ds false (cf (szd xs (prd2 ds))) ds.length))) (some 42) 7 #[v, .slice (some ⟨g, 0, none⟩) (prd2 ds) (prd2 ds)] rfl rfl (wanted_0 rfl) (fun w => run_ev (by simp [execOp, go_sem, evT_tmp, evT_func, put_some]) (by simp [execOp, go_sem, evT_tmp, evT_func, put_some, call_events Tryd.func7 (by kernel_rfl) rfl])) (by kernel_rfl) (fun τ t => ?_) (fun _ _ _ _ _ _ h => h) ?_
    · refine (many_Forward_ok _ _ _ zs _ ds (IsZ.tp (IsZ.blw hZ B3) τ t) (IsU.tp (IsU.blw hU b3) τ t) (hT.blw B3).tab hG (by omega) (szd_length _ _)).mono ?_
      rintro e w1 ⟨x, rfl, h1, h2⟩
      exact ⟨_, rfl, ⟨x, rfl, h1⟩, h2⟩
    rintro u p4 ⟨x4, rfl, hx4⟩ b4
    refine leads_mv (some 39) rfl rfl rfl (.inl rfl) ?_
    refine leads_extr (some 43) (x4) rfl rfl rfl rfl (by simp [evT_tmp, put_some]; rfl) rfl ?_
    refine leads_extr (some 44) (.int .i64 0) rfl rfl rfl rfl (by simp [evT_tmp, put_some]; rfl) rfl ?_
    refine leads_mv (some 13) rfl rfl rfl (.inr rfl) ?_
    refine leads_mv (some 14) rfl rfl rfl (.inr rfl) ?_
    refine leads_regionEnd ?_
    have B4 := B3.trans b4
    obtain ⟨k1, hk1, cR1⟩ := rest8 wk
    refine leads_seq ?_
    refine leads_seq ?_
    refine leads_region [0] rfl ?_
    refine leads_mv (some 45) rfl rfl rfl (.inl rfl) ?_
    refine leads_regionEnd ?_
    cases back with
    | false =>
      refine leads_cond false (by simp [evT_tmp, put_some]) ?_
      refine leads_skip ?_
      refine leads_seq ?_
      refine leads_region [0, 1, 2, 3, 4, 5, 6, 7, 8, 9, 10, 11, 12] rfl ?_
      refine leads_mv (some 53) rfl rfl rfl (.inl rfl) ?_
      refine leads_mv (some 54) rfl rfl rfl (.inl rfl) ?_
      refine leads_mv (some 55) rfl rfl rfl (.inl rfl) ?_
      refine leads_mv (some 56) rfl rfl rfl (.inl rfl) ?_
      refine leads_fn tAll (fun u _ => u = .int .i64 (k1 : Int)) (some 57) 10 #[.int .i64 wk, .int .i64 8] rfl rfl (wanted_0 rfl) (fun w => run_ev (by simp [execOp, go_sem, evT_tmp, evT_func, evT_const, put_some]) (by simp [execOp, go_sem, evT_tmp, evT_func, evT_const, put_some, call_events Tryd.func10 (by kernel_rfl) rfl])) (by kernel_rfl) (fun τ t => ?_) (fun _ _ _ _ _ _ h => h) ?_
      · exact (cR1 _).mono fun e w1 h => ⟨_, h.1, rfl, by rw [h.2]; exact Below.refl _ _⟩
      rintro u p7 rfl b7
      refine leads_pure (some 58) (.int .i64 ((k1 + 1 : Nat) : Int)) rfl rfl rfl (fun w => addk_run (k := k1) (by omega) (by simp [evT_const]) (by simp [evT_tmp, put_some])) ?_
      refine leads_mv (some 59) rfl rfl rfl (.inl rfl) ?_
      refine leads_enterD 9 #[v, .slice (some ⟨g, 0, none⟩) (prd2 ds) (prd2 ds), vl, .int .i64 ((k1 + 1 : Nat) : Int), .bool false] rfl rfl (fun w => run_ev (by simp [execOp, go_sem, evT_tmp, evT_func, put_some]) (by simp [execOp, go_sem, evT_tmp, evT_func, put_some, call_events Tryd.func9 (by kernel_rfl) rfl])) ?_
      have B7 := B4.trans b7
      refine Leads.then (together_right (n := k1 + 1) (back := false) tAll (by kernel_rfl) (by kernel_rfl) (IsZ.blw hZ B7) (IsU.blw hU ((b3.trans b4).trans b7)) (IsP.blw hP B7) hG (by omega) hFi hbig (szd_length _ _) (by omega) (by omega) (by kernel_rfl) (hT.blw B7)) ?_
      rintro a' p8 ⟨gc, rfl, b8, hUc, -, -⟩
      rw [finish_arr _ _ _ _ _ _ _ _ _ _ rfl]
      refine leads_mv (some 52) rfl rfl rfl (.inl rfl) ?_
      refine leads_extr (some 61) (.slice (some ⟨gc, 0, none⟩) (prd2 ds) (prd2 ds)) rfl rfl rfl rfl (by simp [evT_tmp, put_some]; rfl) rfl ?_
      refine leads_extr (some 62) (.int .i64 0) rfl rfl rfl rfl (by simp [evT_tmp, put_some]; rfl) rfl ?_
      refine leads_mv (some 15) rfl rfl rfl (.inr rfl) ?_
      refine leads_mv (some 16) rfl rfl rfl (.inr rfl) ?_
      refine leads_regionEnd ?_
      refine leads_seq ?_
      refine leads_seq ?_
      refine leads_region [0, 1, 2, 3, 4, 5, 6, 7, 8, 9, 10, 11] rfl ?_
      refine leads_mv (some 63) rfl rfl rfl (.inl rfl) ?_
      refine leads_pure (some 64) (.bool false) rfl rfl rfl (fun w => neE_run (e := 0) (f := 0) false (by simp) (by simp [evT_tmp, put_some]) (by simp [evT_const])) ?_
      refine leads_mv (some 65) rfl rfl rfl (.inl rfl) ?_
      refine leads_yes (some 66) (.int .i64 0) 2 65 false rfl rfl rfl rfl rfl (by omega) (by simp [evT_tmp, put_some]) (fun w => run_ev (by simp [execOp, evT_tmp, put_some]) (by simp [execOp])) ?_
      refine leads_yes (some 67) (.bool false) 2 65 false rfl rfl rfl rfl rfl (by omega) (by simp [evT_tmp, put_some]) (fun w => neE_run (e := 0) (f := 0) false (by simp) (by simp [evT_tmp, put_some]) (by simp [evT_const])) ?_
      refine leads_pure (some 68) (.bool false) rfl rfl rfl (fun w => pick_run false (by simp [evT_tmp, put_some]) (by simp [evT_tmp, put_some])) ?_
      refine leads_mv (some 69) rfl rfl rfl (.inl rfl) ?_
      refine leads_yes (some 70) (.slice (some ⟨gc, 0, none⟩) (prd2 ds) (prd2 ds)) 6 69 false rfl rfl rfl rfl rfl (by omega) (by simp [evT_tmp, put_some]) (fun w => run_ev (by simp [execOp, evT_tmp, put_some]) (by simp [execOp])) ?_
      refine leads_yes (some 71) (x4) 6 69 false rfl rfl rfl rfl rfl (by omega) (by simp [evT_tmp, put_some]) (fun w => run_ev (by simp [execOp, evT_tmp, put_some]) (by simp [execOp])) ?_
      refine leads_fn tAll (fun u _ => u = .bool true) (some 72) 11 #[.slice (some ⟨gc, 0, none⟩) (prd2 ds) (prd2 ds), x4] rfl rfl (wanted_b (b := false) (c := false) rfl rfl rfl (by omega) (by simp [evT_tmp, put_some])) (fun w => run_ev (by simp [execOp, go_sem, evT_tmp, evT_func, put_some]) (by simp [execOp, go_sem, evT_tmp, evT_func, put_some, call_events Tryd.func11 (by kernel_rfl) rfl])) (by kernel_rfl) (fun τ t => ?_) (fun _ _ _ _ _ _ h => h) ?_
      · exact (slices_Equal _ _ _ _ (IsU.tp hUc τ t) (IsU.tp (IsU.blw hx4 (b7.trans b8)) τ t)).mono fun e w1 h => ⟨_, h.1, rfl, h.2⟩
      rintro u p9 rfl b9
      refine leads_yes (some 73) (.bool false) 6 69 false rfl rfl rfl rfl rfl (by omega) (by simp [evT_tmp, put_some]) (fun w => run_ev (by simp [execOp, go_sem, evT_tmp, put_some]) (by simp [execOp, go_sem, evT_tmp, put_some])) ?_
      refine leads_pure (some 74) (.bool false) rfl rfl rfl (fun w => pick_run false (by simp [evT_tmp, put_some]) (by simp [evT_tmp, put_some])) ?_
      refine leads_regionEnd ?_
      refine leads_cond false (by simp [evT_tmp, put_some]) ?_
      refine leads_skip ?_
      have B9 := (B7.trans b8).trans b9
      exact leads_rest (j := 10) (f := Tryd.f3) tAll _ (by kernel_rfl) Tryd.func3 (by kernel_rfl) rfl (by kernel_rfl) (by kernel_rfl) B9 fun τ d => topPlans_tail (tp p9 τ d) v vx vl zs ds L wk false g gc k1 x4 (x4) (undef) (undef) (undef) (undef) (undef) (undef) (IsZ.tp (IsZ.blw hZ B9) τ d) (IsP.tp (IsP.blw hP B9) τ d) hG hds hFi
    | true =>
      refine leads_cond true (by simp [evT_tmp, put_some]) ?_
      refine leads_region [0, 1, 2, 3, 4, 5, 6, 7] rfl ?_
      refine leads_mv (some 47) rfl rfl rfl (.inl rfl) ?_
      refine leads_mv (some 48) rfl rfl rfl (.inl rfl) ?_
      refine leads_fn tAll (fun u W => ∃ x, u = .tuple #[x, .int .i64 0] ∧ IsU W x (mk (prd2 ds) (who ds true (cf (szd xs (prd2 ds))) ds.length))) (some 49) 8 #[v, .slice (some ⟨g, 0, none⟩) (prd2 ds) (prd2 ds)] rfl rfl (wanted_0 rfl) (fun w => run_ev (by simp [execOp, go_sem, evT_tmp, evT_func, put_some]) (by simp [execOp, go_sem, evT_tmp, evT_func, put_some, call_events Tryd.func8 (by kernel_rfl) rfl])) (by kernel_rfl) (fun τ t => ?_) (fun _ _ _ _ _ _ h => h) ?_
      · refine (many_Inverse_ok _ _ _ zs _ ds (IsZ.tp (IsZ.blw hZ B4) τ t) (IsU.tp (IsU.blw hU (b3.trans b4)) τ t) (hT.blw B4).tab hG (by omega) (szd_length _ _)).mono ?_
        rintro e w1 ⟨x, rfl, h1, h2⟩
        exact ⟨_, rfl, ⟨x, rfl, h1⟩, h2⟩
      rintro u p5 ⟨x5, rfl, hx5⟩ b5
      refine leads_mv (some 46) rfl rfl rfl (.inl rfl) ?_
      refine leads_extr (some 50) (x5) rfl rfl rfl rfl (by simp [evT_tmp, put_some]; rfl) rfl ?_
      refine leads_extr (some 51) (.int .i64 0) rfl rfl rfl rfl (by simp [evT_tmp, put_some]; rfl) rfl ?_
      refine leads_mv (some 13) rfl rfl rfl (.inr rfl) ?_
      refine leads_mv (some 14) rfl rfl rfl (.inr rfl) ?_
      refine leads_regionEnd ?_
      have B5 := B4.trans b5
      refine leads_seq ?_
      refine leads_region [0, 1, 2, 3, 4, 5, 6, 7, 8, 9, 10, 11, 12] rfl ?_
      refine leads_mv (some 53) rfl rfl rfl (.inl rfl) ?_
      refine leads_mv (some 54) rfl rfl rfl (.inl rfl) ?_
      refine leads_mv (some 55) rfl rfl rfl (.inl rfl) ?_
      refine leads_mv (some 56) rfl rfl rfl (.inl rfl) ?_
      refine leads_fn tAll (fun u _ => u = .int .i64 (k1 : Int)) (some 57) 10 #[.int .i64 wk, .int .i64 8] rfl rfl (wanted_0 rfl) (fun w => run_ev (by simp [execOp, go_sem, evT_tmp, evT_func, evT_const, put_some]) (by simp [execOp, go_sem, evT_tmp, evT_func, evT_const, put_some, call_events Tryd.func10 (by kernel_rfl) rfl])) (by kernel_rfl) (fun τ t => ?_) (fun _ _ _ _ _ _ h => h) ?_
      · exact (cR1 _).mono fun e w1 h => ⟨_, h.1, rfl, by rw [h.2]; exact Below.refl _ _⟩
      rintro u p7 rfl b7
      refine leads_pure (some 58) (.int .i64 ((k1 + 1 : Nat) : Int)) rfl rfl rfl (fun w => addk_run (k := k1) (by omega) (by simp [evT_const]) (by simp [evT_tmp, put_some])) ?_
      refine leads_mv (some 59) rfl rfl rfl (.inl rfl) ?_
      refine leads_enterD 9 #[v, .slice (some ⟨g, 0, none⟩) (prd2 ds) (prd2 ds), vl, .int .i64 ((k1 + 1 : Nat) : Int), .bool true] rfl rfl (fun w => run_ev (by simp [execOp, go_sem, evT_tmp, evT_func, put_some]) (by simp [execOp, go_sem, evT_tmp, evT_func, put_some, call_events Tryd.func9 (by kernel_rfl) rfl])) ?_
      have B7 := B5.trans b7
      refine Leads.then (together_right (n := k1 + 1) (back := true) tAll (by kernel_rfl) (by kernel_rfl) (IsZ.blw hZ B7) (IsU.blw hU (((b3.trans b4).trans b5).trans b7)) (IsP.blw hP B7) hG (by omega) hFi hbig (szd_length _ _) (by omega) (by omega) (by kernel_rfl) (hT.blw B7)) ?_
      rintro a' p8 ⟨gc, rfl, b8, hUc, -, -⟩
      rw [finish_arr _ _ _ _ _ _ _ _ _ _ rfl]
      refine leads_mv (some 52) rfl rfl rfl (.inl rfl) ?_
      refine leads_extr (some 61) (.slice (some ⟨gc, 0, none⟩) (prd2 ds) (prd2 ds)) rfl rfl rfl rfl (by simp [evT_tmp, put_some]; rfl) rfl ?_
      refine leads_extr (some 62) (.int .i64 0) rfl rfl rfl rfl (by simp [evT_tmp, put_some]; rfl) rfl ?_
      refine leads_mv (some 15) rfl rfl rfl (.inr rfl) ?_
      refine leads_mv (some 16) rfl rfl rfl (.inr rfl) ?_
      refine leads_regionEnd ?_
      refine leads_seq ?_
      refine leads_seq ?_
      refine leads_region [0, 1, 2, 3, 4, 5, 6, 7, 8, 9, 10, 11] rfl ?_
      refine leads_mv (some 63) rfl rfl rfl (.inl rfl) ?_
      refine leads_pure (some 64) (.bool false) rfl rfl rfl (fun w => neE_run (e := 0) (f := 0) false (by simp) (by simp [evT_tmp, put_some]) (by simp [evT_const])) ?_
      refine leads_mv (some 65) rfl rfl rfl (.inl rfl) ?_
      refine leads_yes (some 66) (.int .i64 0) 2 65 false rfl rfl rfl rfl rfl (by omega) (by simp [evT_tmp, put_some]) (fun w => run_ev (by simp [execOp, evT_tmp, put_some]) (by simp [execOp])) ?_
      refine leads_yes (some 67) (.bool false) 2 65 false rfl rfl rfl rfl rfl (by omega) (by simp [evT_tmp, put_some]) (fun w => neE_run (e := 0) (f := 0) false (by simp) (by simp [evT_tmp, put_some]) (by simp [evT_const])) ?_
      refine leads_pure (some 68) (.bool false) rfl rfl rfl (fun w => pick_run false (by simp [evT_tmp, put_some]) (by simp [evT_tmp, put_some])) ?_
      refine leads_mv (some 69) rfl rfl rfl (.inl rfl) ?_
      refine leads_yes (some 70) (.slice (some ⟨gc, 0, none⟩) (prd2 ds) (prd2 ds)) 6 69 false rfl rfl rfl rfl rfl (by omega) (by simp [evT_tmp, put_some]) (fun w => run_ev (by simp [execOp, evT_tmp, put_some]) (by simp [execOp])) ?_
      refine leads_yes (some 71) (x5) 6 69 false rfl rfl rfl rfl rfl (by omega) (by simp [evT_tmp, put_some]) (fun w => run_ev (by simp [execOp, evT_tmp, put_some]) (by simp [execOp])) ?_
      refine leads_fn tAll (fun u _ => u = .bool true) (some 72) 11 #[.slice (some ⟨gc, 0, none⟩) (prd2 ds) (prd2 ds), x5] rfl rfl (wanted_b (b := false) (c := false) rfl rfl rfl (by omega) (by simp [evT_tmp, put_some])) (fun w => run_ev (by simp [execOp, go_sem, evT_tmp, evT_func, put_some]) (by simp [execOp, go_sem, evT_tmp, evT_func, put_some, call_events Tryd.func11 (by kernel_rfl) rfl])) (by kernel_rfl) (fun τ t => ?_) (fun _ _ _ _ _ _ h => h) ?_
      · exact (slices_Equal _ _ _ _ (IsU.tp hUc τ t) (IsU.tp (IsU.blw hx5 (b7.trans b8)) τ t)).mono fun e w1 h => ⟨_, h.1, rfl, h.2⟩
      rintro u p9 rfl b9
      refine leads_yes (some 73) (.bool false) 6 69 false rfl rfl rfl rfl rfl (by omega) (by simp [evT_tmp, put_some]) (fun w => run_ev (by simp [execOp, go_sem, evT_tmp, put_some]) (by simp [execOp, go_sem, evT_tmp, put_some])) ?_
      refine leads_pure (some 74) (.bool false) rfl rfl rfl (fun w => pick_run false (by simp [evT_tmp, put_some]) (by simp [evT_tmp, put_some])) ?_
      refine leads_regionEnd ?_
      refine leads_cond false (by simp [evT_tmp, put_some]) ?_
      refine leads_skip ?_
      have B9 := (B7.trans b8).trans b9
      exact leads_rest (j := 10) (f := Tryd.f3) tAll _ (by kernel_rfl) Tryd.func3 (by kernel_rfl) rfl (by kernel_rfl) (by kernel_rfl) B9 fun τ d => topPlans_tail (tp p9 τ d) v vx vl zs ds L wk true g gc k1 x4 (x5) (.tuple #[x5, .int .i64 0]) (v) (.slice (some ⟨g, 0, none⟩) (prd2 ds) (prd2 ds)) (.tuple #[x5, .int .i64 0]) (x5) (.int .i64 0) (IsZ.tp (IsZ.blw hZ B9) τ d) (IsP.tp (IsP.blw hP B9) τ d) hG hds hFi
end Go.Proofs.YtckoipoejaafhabDoor.Cc
namespace Go.Proofs.YtckoipoejaafhabDoor
open Go Go.Conc Go.RowKit
theorem topPlans_walk (w : World) (v : Value) (zs : List Int) (hZ : IsZ w v zs) (vx : Value) (xs : List Nat) (hX : IsU w vx xs) (vl : Value) (L : List (List (List Int))) (hP : IsP 3 w vl L) (wk : Int) (_hwk : (Lit.int .i64 wk).wf = true) (back : Bool) (hsh : w.ShapedOpen Tryd.prog) (hTb : Tab w) :
    Cc.GoodRun Tryd.prog 3 #[v, vx, vl, .int .i64 wk, .bool back] w :=
  Cc.good_run hsh (Cc.topPlans_leads hZ hX hP (Cc.tbs_of hsh hTb))
end Go.Proofs.YtckoipoejaafhabDoor
