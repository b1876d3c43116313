/-
  Texts that stood one behind the other, as one.
-/
import Derived.Test.YtmggccepmicjhacGreatDoorSlTAll
import Derived.Test.YtmggccepmicjhacGreatDoorManyL
import Derived.BigQuiet
import Derived.Test.YtmggccepmicjhacGreatDoorRefPlacesAll
/-! What Plan of package goldref answers: for each axis its lines, so many a task; the errors. -/
namespace Go.Proofs.YtmggccepmicjhacGreatDoor
open Go.RowKit
set_option maxRecDepth 100000

/-- The phases of the first x axes. -/
def pls (ds : List Nat) (c x : Nat) : List (List (List Int)) := (List.range x).map fun y => chn y c (nln ds y)
theorem pls_length (ds : List Nat) (c x : Nat) : (pls ds c x).length = x := by simp [pls]
theorem pls_succ (ds : List Nat) (c x : Nat) : pls ds c (x + 1) = pls ds c x ++ [chn x c (nln ds x)] := by simp [pls, List.range_succ]

/-- None of the first x phases has more tasks than it may. -/
def Few (ds : List Nat) (c x : Nat) : Prop := ∀ y, y < x → (chn y c (nln ds y)).length ≤ 64

set_option maxHeartbeats 8000000 in
theorem ref_Plan_both (w : World) (v : Value) (zs : List Int) (ds : List Nat) (c : Nat) (h : IsZ w v zs) (hG : Good zs ds) (hn : prd2 ds ≤ 1024) (hc : 1 ≤ c) (hc9 : (c : Int) ≤ 9223372036854775807) :
    Calls Tryz.prog 73 #[v, .int .i64 (c : Int)] w fun e w' => ((∃ u, e = .returned (.tuple #[u, .int .i64 0]) ∧ IsP 3 w' u (pls ds c ds.length) ∧ Few ds c ds.length) ∨ (e = .returned (.tuple #[.slice none 0 0, .int .i64 2]) ∧ ¬ Few ds c ds.length)) ∧ Below w.heap.size w w' := by
  have hS : Shp ds := hG.2.2.2
  have h0 := h
  have cS := ref_Shape_ok w v zs ds h hG hn
  obtain ⟨a, cap, rfl, -, -, hcell, -⟩ := h
  have hlen : zs.length = ds.length := by rw [hG.2.2.1, List.length_map]
  have h3 : ds.length ≤ 3 := by rw [← hlen]; exact hG.2.1
  have hcz : Hid (∀ x, x < ds.length → ∃ b off, a = some ⟨b, off, none⟩ ∧ ∀ W, Below w.heap.size w W → W.cell? ⟨b, off + x, none⟩ = some (.int .i64 ((sz ds x : Nat) : Int))) := fun x hx => by
    obtain ⟨b, off, rfl, hc0⟩ := hcell x (by omega)
    rw [(Good_get hG x (by omega)).1] at hc0
    exact ⟨b, off, rfl, fun W hb => (hb.cell (block_lt hc0)).trans hc0⟩
  have hln : Hid (∀ x, x < ds.length → prd2 ds / sz ds x = nln ds x ∧ 0 < sz ds x ∧ nln ds x ≤ 1024 ∧ 0 < nln ds x) := fun x hx => by
    have e := nln_div hS x hx
    have hd := P2_pos (hS.at x hx)
    refine ⟨e, hd, by rw [← e]; exact Nat.le_trans (Nat.div_le_self _ _) hn, ?_⟩
    unfold nln
    exact Nat.mul_pos (beh_pos hS _) (prd2_pos fun d hd => hS.pos d (List.mem_of_mem_take hd))
  rw [hlen] at h0 cS ⊢
  obtain ⟨n, hnn⟩ : ∃ n, n = prd2 ds := ⟨_, rfl⟩
  rw [← hnn] at cS hn
  have hnn' : Hid (n = prd2 ds) := hnn
  clear hnn hG hcell hS hlen
  go_enter Tryz.func73, Tryz.ntmps73
  go_wp2_with (go_at_call 102; refine Calls.mono cS ?_; rintro e w' ⟨rfl, hw⟩; rw [hw]; clear hw)
  clear cS
  go_loopw [8, 9] (fun u vi wr => ∃ (x : Nat) (vs : List Value), x ≤ ds.length ∧ vi = .int .i64 (x : Int) ∧ wr.ownsRow w.heap.size 118 1 u x vs ∧ Hid (InnT w.heap.size wr u vs (pls ds c x)) ∧ Hid (Few ds c x) ∧ Below w.heap.size w wr)
    (fun _ vi _ => ds.length - (intOf vi).toNat)
  case atStart => exact ⟨0, [], Nat.zero_le _, rfl, World.ownsRow_nil _ _ _ _, InnT_nil _ _ _, fun y hy => by omega, Below.refl _ _⟩
  case round =>
    obtain ⟨x, vs, hx, rfl, hown, hin, hfw, hnx⟩ := hrel
    by_cases hlt : x < ds.length
    · obtain ⟨b, off, rfl, hcx⟩ := hcz.out x hlt
      have hcx1 := hcx wr hnx
      obtain ⟨e1, hd0, hl9, hl0⟩ := hln.out x hlt
      have hnx' := hnn'.out
      obtain ⟨d, hd⟩ : ∃ d, d = sz ds x := ⟨_, rfl⟩
      obtain ⟨m, hm⟩ : ∃ m, m = nln ds x := ⟨_, rfl⟩
      have hq : Int.tdiv (n : Int) (d : Int) = (m : Int) := by rw [hm, hd, hnx', ← e1]; rfl
      rw [← hd] at hcx1 hd0
      rw [← hm] at hl9 hl0
      have hd0' : ¬ (d : Int) = 0 := by omega
      have hqw : IntKind.i64.wrap (m : Int) = (m : Int) := by rw [IntKind.wrap_i64]; omega
      have hfx : Hid (chn x c m = chn x c (nln ds x)) := by show _ = _; rw [hm]
      have hpl : Hid (pls ds c (x + 1) = pls ds c x ++ [chn x c m]) := by show _ = _; rw [pls_succ, hm]
      clear hd hm e1 hnx' hcx
      go_wp2
      obtain ⟨wk, hwk⟩ : ∃ wk : World, wk = wr := ⟨_, rfl⟩
      rw [← hwk] at hown hin hnx hcx1 ⊢
      clear hwk
      clear hq hqw hd0' hcx1 hd0
      go_loopw [10, 12] (fun up vi wi => ∃ (i k : Nat), i ≤ m ∧ vi = .int .i64 (i : Int) ∧ wi.ownsRow wk.heap.size 120 3 up k (tc (chn x c i)) ∧ Hid ((i = 0 ∧ k = 0) ∨ ∃ t, k = t + 1 ∧ t * c < i ∧ i ≤ (t + 1) * c) ∧ Below wk.heap.size wk wi)
        (fun _ vi _ => m - (intOf vi).toNat)
      case atStart => exact ⟨0, 0, Nat.zero_le _, rfl, World.ownsRow_nil _ _ _ _, .inl ⟨rfl, rfl⟩, Below.refl _ _⟩
      case round =>
        obtain ⟨i, k, hi, rfl, hp, hst, hnxi⟩ := hrel
        by_cases hlt2 : i < m
        · rcases hst.out with ⟨hi0, hk0⟩ | ⟨t, hk, ht1, ht2⟩
          · subst hk0 hi0
            obtain ⟨ap, cp, rfl⟩ : ∃ ap cp, u10 = .slice ap 0 cp := by
              rcases hp.2 with ⟨rfl, _⟩ | ⟨g', c', _, rfl, _⟩
              · exact ⟨none, 0, rfl⟩
              · exact ⟨_, _, rfl⟩
            have hnew : Hid (tc (chn x c 0) ++ [.int .i64 (x : Int), .int .i64 0, .int .i64 1] = tc (chn x c 1)) := by
              show _ = _
              rw [chn_at x c 1 0 (by omega) (by omega)]
              show _ = tc [[(x : Int), ((0 * c : Nat) : Int), ((1 : Nat) : Int)]]
              rw [Nat.zero_mul]; rfl
            go_wp2
            go_quiet (fail)
            obtain ⟨w6, hw6⟩ : ∃ w6 : World, w6 = wr.drewN nq := ⟨_, rfl⟩
            rw [← hw6]
            have hb6 : Below wr.heap.size wr w6 := by rw [hw6]; exact below_drewN (Below.refl _ _) _
            have hp6 := owns_below hp hb6
            have hnx6 := hnxi.trans (hb6.mono hnxi.size)
            clear hw6 hb6 hp hnxi
            go_wp2_with (at_builtin; refine wp_appendT rfl _ _ rfl _ _ _ _ _ _ rfl hp6 rfl (by omega) hnx6 ?_; intro g7 cap7 w7 hp7 hnx7)
            rw [hnew.out] at hp7
            clear hp6 hnx6 hnew
            go_wp2
            go_roundw
            case rel => exact ⟨1, 1, by omega, by go_num, hp7, .inr ⟨0, rfl, by omega, by omega⟩, hnx7⟩
            case measure => simp only [intOf]; omega
          · subst hk
            obtain ⟨gp, cp, rfl, hgp, hgl⟩ := hp.form (by omega)
            obtain ⟨F, hF⟩ : ∃ F, F = t * c := ⟨_, rfl⟩
            have hT := chn_at x c i t ht1 ht2
            rw [← hF] at hT ht1
            have hTf : T3 (ful x c t) := ful_T3 x c t i (by omega) (by omega) (by omega)
            have hT3 : T3 (ful x c t ++ [[(x : Int), (F : Int), (i : Int)]]) := hTf.append (T3.one (by omega) (by omega) (by omega))
            have hget : (ful x c t ++ [[(x : Int), (F : Int), (i : Int)]]).getD t [] = [(x : Int), (F : Int), (i : Int)] := by
              simp [List.getD, ful_length]
            rw [hT] at hp
            have hc1 := hp.cellAt (t * 3 + 1) (by omega)
            have hc2 := hp.cellAt (t * 3 + 2) (by omega)
            rw [tc_get hT3 t 1 (by simp [ful_length]) (by decide), hget] at hc1
            rw [tc_get hT3 t 2 (by simp [ful_length]) (by decide), hget] at hc2
            replace hc1 : wr.cell? ⟨gp, t * 3 + 1, none⟩ = some (.int .i64 (F : Int)) := hc1
            replace hc2 : wr.cell? ⟨gp, t * 3 + 2, none⟩ = some (.int .i64 (i : Int)) := hc2
            have ht9 : t ≤ 1024 := by
              have : t * 1 ≤ t * c := Nat.mul_le_mul_left t hc
              omega
            by_cases hcut : i - F < c
            · have hdc : decide ((i : Int) - (F : Int) < (c : Int)) = true := decide_eq_true (by omega)
              have hchn : Hid (tc (ful x c t ++ [[(x : Int), (F : Int), (i : Int) + 1]]) = tc (chn x c (i + 1))) := by
                show _ = _
                have e : i + 1 ≤ (t + 1) * c := by rw [Nat.add_mul, Nat.one_mul, ← hF]; omega
                rw [chn_at x c (i + 1) t (by rw [← hF]; omega) e, ← hF, Int.natCast_add]; rfl
              have hnext : Hid (t * c < i + 1 ∧ i + 1 ≤ (t + 1) * c) := by
                show _ ∧ _
                rw [Nat.add_mul, Nat.one_mul, ← hF]; omega
              clear hT hst ht2 hget hF
              go_wp2
              go_quiet (fail)
              obtain ⟨w6, hw6⟩ : ∃ w6 : World, w6 = wr.drewN nq := ⟨_, rfl⟩
              rw [← hw6]
              have hb6 : Below wr.heap.size wr w6 := by rw [hw6]; exact below_drewN (Below.refl _ _) _
              have hp6 := owns_below hp hb6
              have hnx6 := hnxi.trans (hb6.mono hnxi.size)
              replace hc2 := (hb6.cell (block_lt hc2)).trans hc2
              have hfr := hp6.frozenAt (t * 3 + 2)
              have hst6 := hp6.stored (t * 3 + 2) (.int .i64 ((i : Int) + 1))
              have hset := tc_set hTf (x : Int) (F : Int) (i : Int) ((i : Int) + 1)
              rw [ful_length] at hset
              rw [hset, hchn.out] at hst6
              have hp7 := hst6.1
              have hnx7 := hnx6.grown hst6.2 hnx6.size (fun q hq => by simp at hq; omega)
              clear hw6 hb6 hp hnxi hst6 hset hp6 hnx6 hc1 hTf hT3 hchn
              go_wp2
              go_roundw
              case rel => exact ⟨i + 1, t + 1, by omega, by go_num, hp7, .inr ⟨t, rfl, hnext.out.1, hnext.out.2⟩, hnx7⟩
              case measure => simp only [intOf]; omega
            · have hdc : decide ((i : Int) - (F : Int) < (c : Int)) = false := decide_eq_false (by omega)
              have hie : i = (t + 1) * c := by rw [Nat.add_mul, Nat.one_mul, ← hF] at ht2 ⊢; omega
              have hchn : Hid (tc (ful x c t ++ [[(x : Int), (F : Int), (i : Int)]]) ++ [.int .i64 (x : Int), .int .i64 (i : Int), .int .i64 ((i : Int) + 1)] = tc (chn x c (i + 1))) := by
                show _ = _
                rw [chn_at x c (i + 1) (t + 1) (by omega) (by rw [Nat.add_mul (t + 1) 1, Nat.one_mul]; omega), ful_succ, ← hie, ← hF, Int.natCast_add, tc_append (ful x c t ++ _)]; rfl
              have hnext : Hid ((t + 1) * c < i + 1 ∧ i + 1 ≤ (t + 1 + 1) * c) := by
                show _ ∧ _
                rw [Nat.add_mul (t + 1) 1, Nat.one_mul]; omega
              clear hT hst ht2 hget hF hie
              go_wp2
              go_quiet (fail)
              obtain ⟨w6, hw6⟩ : ∃ w6 : World, w6 = wr.drewN nq := ⟨_, rfl⟩
              rw [← hw6]
              have hb6 : Below wr.heap.size wr w6 := by rw [hw6]; exact below_drewN (Below.refl _ _) _
              have hp6 := owns_below hp hb6
              have hnx6 := hnxi.trans (hb6.mono hnxi.size)
              clear hw6 hb6 hp hnxi hc1 hc2 hTf hT3
              have hk9 : t + 1 ≤ 1000000 := by omega
              go_wp2_with (at_builtin; refine wp_appendT rfl _ _ rfl _ _ _ _ _ _ rfl hp6 rfl hk9 hnx6 ?_; intro g7 cap7 w7 hp7 hnx7)
              rw [hchn.out] at hp7
              clear hp6 hnx6 hchn
              go_wp2
              go_roundw
              case rel => exact ⟨i + 1, t + 1 + 1, by omega, by go_num, hp7, .inr ⟨t + 1, rfl, hnext.out.1, hnext.out.2⟩, hnx7⟩
              case measure => simp only [intOf]; omega
        · have e : m = i := by omega
          subst e
          rcases hst.out with ⟨hi0, _⟩ | ⟨t, hk, ht1, ht2⟩
          · omega
          · subst hk
            obtain ⟨gp, cp, rfl, hgp, hgl⟩ := hp.form (by omega)
            have hT := chn_at x c m t ht1 ht2
            have hTl : (chn x c m).length = t + 1 := by rw [hT]; simp [ful_length]
            have hT3 : T3 (chn x c m) := by
              rw [hT]
              exact (ful_T3 x c t m (by omega) (by omega) (by omega)).append (T3.one (by omega) (by omega) (by omega))
            by_cases h64' : 64 < t + 1
            · have hno : ¬ Few ds c ds.length := fun hF => by
                have := hF x hlt
                rw [← hfx.out, hTl] at this
                omega
              have hend := hnx.trans (hnxi.mono hnx.size)
              have hge : m ≤ m := Nat.le_refl _
              clear hp hst hnxi hown hin hT hT3 hTl ht1 ht2 hfx hpl hfw hcz hln
              go_wp2
              go_ret2
              exact ⟨.inr ⟨rfl, hno⟩, hend⟩
            have h64 : t + 1 ≤ 64 := by omega
            have hfw2 : Hid (Few ds c (x + 1)) := fun y hy => by
              rcases Nat.lt_or_ge y x with q | q
              · exact hfw.out y q
              · have e : y = x := by omega
                rw [e, ← hfx.out, hTl]; exact h64
            have hR : IsR 3 wr (.slice (some ⟨gp, 0, none⟩) (chn x c m).length cp) (chn x c m) := by rw [hTl]; exact IsR.of_owns hp hT3
            have hown2 := owns_below hown hnxi
            have hin2 := hin.out.below hnxi
            have hne2 : u8.ownBlock ≠ some gp := fun e => by have := own_lt hown e; omega
            have hBl2 : w.heap.size ≤ gp := by have := hnx.size; omega
            have hnx2 := hnx.trans (hnxi.mono hnx.size)
            have hinN : Hid (∀ (w6 : World) (g6 c6 n6 : Nat), (∀ b, b < wr.heap.size → u8.ownBlock ≠ some b → w6.heap[b]? = wr.heap[b]?) → (u8.ownBlock = some g6 ∨ wr.heap.size < g6) → wr.heap.size ≤ w6.heap.size → InnT w.heap.size w6 (.slice (some ⟨g6, 0, none⟩) n6 c6) (vs ++ [.slice (some ⟨gp, 0, none⟩) (t + 1) cp]) (pls ds c (x + 1))) := fun w6 g6 c6 n6 q1 q2 q4 => by
              have := hin2.grow (u' := .slice (some ⟨g6, 0, none⟩) n6 c6) rfl q1 q2 q4 hR hgl hBl2 hne2
              rw [hTl] at this
              rw [hpl.out]
              exact this
            have hge : m ≤ m := Nat.le_refl _
            have hx9 : x ≤ 1000000 := by omega
            clear hp hst hnxi hown hin hin2 hR hT hT3 hTl ht1 ht2 hfx hpl hne2 hfw
            go_wp2_with (at_builtin; refine wp_appendP rfl _ _ rfl _ _ _ _ _ _ rfl hown2 rfl hx9 hnx2 ?_; intro g6 cap6 w6 hown6 hnx6 hkeep hat hlt6 hsz6)
            have hin6 : Hid (InnT w.heap.size w6 _ _ _) := hinN.out w6 g6 cap6 (x + 1) hkeep hat.out hsz6
            clear hinN hkeep hat hown2
            go_wp2
            go_roundw
            case rel => exact ⟨x + 1, _, by omega, by go_num, hown6, hin6, hfw2, hnx6⟩
            case measure => simp only [intOf]; omega
    · have e : ds.length = x := by omega
      have hge : ds.length ≤ x := by omega
      rw [← e] at hown hin hfw
      have hR := IsP_of hown hin.out
      clear hown hin e hcz hln
      go_wp2
      go_ret2
      exact ⟨.inl ⟨_, rfl, hR, hfw.out⟩, hnx⟩

theorem ref_Plan_ok (w : World) (v : Value) (zs : List Int) (ds : List Nat) (c : Nat) (h : IsZ w v zs) (hG : Good zs ds) (hn : prd2 ds ≤ 1024) (hc : 1 ≤ c) (hc9 : (c : Int) ≤ 9223372036854775807) (hF : Few ds c ds.length) :
    Calls Tryz.prog 73 #[v, .int .i64 (c : Int)] w fun e w' => ∃ u, e = .returned (.tuple #[u, .int .i64 0]) ∧ IsP 3 w' u (pls ds c ds.length) ∧ Below w.heap.size w w' := by
  refine (ref_Plan_both w v zs ds c h hG hn hc hc9).mono ?_
  rintro e w' ⟨⟨u, rfl, hP, _⟩ | ⟨_, hno⟩, hb⟩
  · exact ⟨u, rfl, hP, hb⟩
  · exact absurd hF hno
theorem ref_Plan_many (w : World) (v : Value) (zs : List Int) (ds : List Nat) (c : Nat) (h : IsZ w v zs) (hG : Good zs ds) (hn : prd2 ds ≤ 1024) (hc : 1 ≤ c) (hc9 : (c : Int) ≤ 9223372036854775807) (hF : ¬ Few ds c ds.length) :
    Calls Tryz.prog 73 #[v, .int .i64 (c : Int)] w fun e w' => ∃ u, e = .returned (.tuple #[u, .int .i64 2]) ∧ IsP 3 w' u [] ∧ Below w.heap.size w w' := by
  refine (ref_Plan_both w v zs ds c h hG hn hc hc9).mono ?_
  rintro e w' ⟨⟨u, rfl, hP, hF'⟩ | ⟨rfl, _⟩, hb⟩
  · exact absurd hF' hF
  · exact ⟨_, rfl, IsP.nil 3 _, hb⟩
theorem ref_Plan_shape (w : World) (v : Value) (zs : List Int) (c er : Int) (her : (er != 0) = true) (cS : Calls Tryz.prog 102 #[v] w fun e w' => e = .returned (.tuple #[.int .i64 0, .int .i64 er]) ∧ w' = w) (h : IsZ w v zs) :
    Calls Tryz.prog 73 #[v, .int .i64 c] w fun e w' => ∃ u, e = .returned (.tuple #[u, .int .i64 er]) ∧ IsP 3 w' u [] ∧ Below w.heap.size w w' := by
  obtain ⟨a, cap, rfl, -⟩ := h
  go_enter Tryz.func73, Tryz.ntmps73
  go_wp2_with (go_at_call 102; refine Calls.mono cS ?_; rintro e w' ⟨rfl, hw⟩; rw [hw]; clear hw)
  go_ret2
  exact ⟨_, rfl, IsP.nil 3 _, Below.refl _ _⟩
theorem ref_Plan_cut (w : World) (v : Value) (zs : List Int) (ds : List Nat) (c : Int) (h : IsZ w v zs) (hG : Good zs ds) (hn : prd2 ds ≤ 1024) (hc : c < 1) :
    Calls Tryz.prog 73 #[v, .int .i64 c] w fun e w' => ∃ u, e = .returned (.tuple #[u, .int .i64 1]) ∧ IsP 3 w' u [] ∧ Below w.heap.size w w' := by
  have cS := ref_Shape_ok w v zs ds h hG hn
  obtain ⟨a, cap, rfl, -⟩ := h
  generalize prd2 ds = n at *
  go_enter Tryz.func73, Tryz.ntmps73
  go_wp2_with (go_at_call 102; refine Calls.mono cS ?_; rintro e w' ⟨rfl, hw⟩; rw [hw]; clear hw)
  go_ret2
  exact ⟨_, rfl, IsP.nil 3 _, Below.refl _ _⟩

end Go.Proofs.YtmggccepmicjhacGreatDoor

/-! Tasks and phases that are right; lines transformed in whatever order; no program in sight. -/
namespace Go.Proofs.YtmggccepmicjhacGreatDoor

/-- A right task of an axis of n lines; how often a line is met. -/
def Vld (n x : Nat) (r : List Int) : Prop := r.getD 0 0 = (x : Int) ∧ 0 ≤ r.getD 1 0 ∧ r.getD 2 0 ≤ (n : Int) ∧ r.getD 1 0 < r.getD 2 0
def hit (r : List Int) (k : Nat) : Nat := if r.getD 1 0 ≤ (k : Int) ∧ (k : Int) < r.getD 2 0 then 1 else 0
def hits (T : List (List Int)) (k : Nat) : Nat := (T.map fun r => hit r k).sum
def RgtP (n x : Nat) (T : List (List Int)) : Prop := (∀ r ∈ T, Vld n x r) ∧ ∀ k, k < n → hits T k = 1
def Fine (ds : List Nat) (L : List (List (List Int))) : Prop := L.length = ds.length ∧ ∀ y, y < ds.length → RgtP (nln ds y) y (L.getD y [])
def BigP (L : List (List (List Int))) (x : Nat) : Prop := ∃ y, y < x ∧ 64 < (L.getD y []).length
theorem hits_succ (T : List (List Int)) (i k : Nat) (hi : i < T.length) : hits (T.take (i + 1)) k = hits (T.take i) k + hit (T.getD i []) k := by
  unfold hits
  rw [List.take_add_one, List.getElem?_eq_getElem hi, List.map_append, List.sum_append]
  simp [List.getD, List.getElem?_eq_getElem hi]
theorem hits_le (T : List (List Int)) (k : Nat) : hits T k ≤ T.length := by
  induction T with
  | nil => simp [hits]
  | cons r T ih =>
    have h1 : hit r k ≤ 1 := by unfold hit; split <;> omega
    simp only [hits, List.map_cons, List.sum_cons, List.length_cons] at ih ⊢
    omega
theorem valid_succ {n x : Nat} {T : List (List Int)} {i : Nat} (hi : i < T.length) (h : ∀ r ∈ T.take i, Vld n x r) (h1 : Vld n x (T.getD i [])) : ∀ r ∈ T.take (i + 1), Vld n x r := by
  intro r hr
  rw [List.take_add_one, List.getElem?_eq_getElem hi] at hr
  rcases List.mem_append.mp hr with h2 | h2
  · exact h r h2
  · simp only [Option.toList_some, List.mem_singleton] at h2
    rw [h2]
    simpa [List.getD, List.getElem?_eq_getElem hi] using h1
theorem getD_mem {T : List (List Int)} {i : Nat} (hi : i < T.length) : T.getD i [] ∈ T := by
  rw [List.getD, List.getElem?_eq_getElem hi]
  exact List.getElem_mem hi
/-- Those lines of axis x transformed of which D says so. -/
def trS (ds xs : List Nat) (x : Nat) (back : Bool) (D : Nat → Bool) : List Nat :=
  tb (prd2 ds) fun p => if D (lnO (beh ds (x + 1)) (sz ds x) p) = true then (alo ds x back (cf xs) p).val else xs.getD p 0
theorem trS_length (ds xs : List Nat) (x : Nat) (back : Bool) (D : Nat → Bool) : (trS ds xs x back D).length = prd2 ds := tb_length _ _
theorem trS_none {ds xs : List Nat} (hl : xs.length = prd2 ds) (x : Nat) (back : Bool) : trS ds xs x back (fun _ => false) = xs := by
  have : trS ds xs x back (fun _ => false) = tb xs.length (fun p => xs.getD p 0) := by
    unfold trS; rw [hl]
    exact tb_congr fun p _ => if_neg (by simp)
  rw [this, tb_self]
/-- A number of a line hangs on that line alone. -/
theorem alo_same {ds : List Nat} (h : Shp ds) (x : Nat) (hx : x < ds.length) (b : Bool) {f g : Nat → F} (p : Nat) (hp : p < prd2 ds)
    (hfg : ∀ q, q < prd2 ds → lnO (beh ds (x + 1)) (sz ds x) q = lnO (beh ds (x + 1)) (sz ds x) p → f q = g q) : alo ds x b f p = alo ds x b g p := by
  have hu := beh_pos h (x + 1)
  have hd := P2_pos (h.at x hx)
  have hk := dg_lt (u := beh ds (x + 1)) (p := p) hd
  unfold alo ax
  congr 1
  refine dft_congr (fun s hs => ?_) _
  have e : st (beh ds (x + 1)) (sz ds x) p s = ps (beh ds (x + 1)) (sz ds x) (lnO (beh ds (x + 1)) (sz ds x) p) s := by
    have := ps_st (i := lnO (beh ds (x + 1)) (sz ds x) p) hu hk s
    rw [ps_of hu p] at this
    exact this
  rw [e]
  refine hfg _ ?_ (ps_ln hu hs)
  have hln : lnO (beh ds (x + 1)) (sz ds x) p < beh ds (x + 1) * prd2 (ds.take x) := by
    rw [prd2_at ds x hx] at hp
    exact ln_lt hu hp
  rw [prd2_at ds x hx]
  exact ps_lt hu hln hs
theorem trS_step {ds : List Nat} (h : Shp ds) (xs : List Nat) (x : Nat) (hx : x < ds.length) (back : Bool) (D : Nat → Bool) (f l : Nat) (hD : ∀ i, f ≤ i → i < l → D i = false) :
    trn ds (trS ds xs x back D) x f l back = trS ds xs x back (fun i => D i || (decide (f ≤ i) && decide (i < l))) := by
  unfold trn trK
  conv => rhs; unfold trS
  refine tb_congr fun p hp => ?_
  by_cases hin : f ≤ lnO (beh ds (x + 1)) (sz ds x) p ∧ lnO (beh ds (x + 1)) (sz ds x) p < l
  · rw [if_pos ⟨hin.1, .inl hin.2⟩, if_pos (by simp [hin.1, hin.2])]
    congr 1
    refine alo_same h x hx back p hp fun q hq e => ?_
    unfold cf
    congr 1
    unfold trS
    rw [tb_get _ _ _ hq, e, if_neg (by rw [hD _ hin.1 hin.2]; simp)]
  · rw [if_neg (by omega)]
    have e : ((D (lnO (beh ds (x + 1)) (sz ds x) p) || (decide (f ≤ lnO (beh ds (x + 1)) (sz ds x) p) && decide (lnO (beh ds (x + 1)) (sz ds x) p < l))) = true) = (D (lnO (beh ds (x + 1)) (sz ds x) p) = true) := by
      by_cases h1 : f ≤ lnO (beh ds (x + 1)) (sz ds x) p
      · have h2 : ¬ lnO (beh ds (x + 1)) (sz ds x) p < l := fun h2 => hin ⟨h1, h2⟩
        simp [h1, h2]
      · simp [h1]
    simp only [e]
    unfold trS
    rw [tb_get _ _ _ hp]
theorem trS_all {ds : List Nat} (h : Shp ds) (xs : List Nat) (x : Nat) (hx : x < ds.length) (back : Bool) (D : Nat → Bool) (hD : ∀ i, i < nln ds x → D i = true) : trS ds xs x back D = mk (prd2 ds) (alo ds x back (cf xs)) := by
  unfold trS tb mk
  refine List.map_congr_left fun p hp => ?_
  have := List.mem_range.mp hp
  rw [prd2_at ds x hx] at this
  rw [if_pos (hD _ (ln_lt (beh_pos h (x + 1)) this))]

/-- A list, each number by P. -/
def nmL (xs : List Nat) : List Nat := xs.map fN
theorem nmL_length (xs : List Nat) : (nmL xs).length = xs.length := by simp [nmL]
theorem nmL_get (xs : List Nat) (i : Nat) : (nmL xs).getD i 0 = fN (xs.getD i 0) := by
  unfold nmL
  rw [List.getD, List.getD, List.getElem?_map]
  cases xs[i]? <;> rfl
theorem cf_nmL (xs : List Nat) : cf (nmL xs) = cf xs := funext fun i => by
  unfold cf
  rw [nmL_get, toF_fN]
theorem fN_small {a : Nat} (h : a < P) : fN a = a := by rw [fN_eq, Nat.mod_eq_of_lt h]
theorem nmL_tb (n : Nat) (g : Nat → Nat) : nmL (tb n g) = tb n (fun p => fN (g p)) := by simp [nmL, tb]
theorem nmL_trS (ds xs : List Nat) (x : Nat) (back : Bool) (D : Nat → Bool) : nmL (trS ds xs x back D) = trS ds (nmL xs) x back D := by
  unfold trS
  rw [nmL_tb, cf_nmL]
  refine tb_congr fun p _ => ?_
  split
  · exact fN_small (Fin.isLt _)
  · rw [nmL_get]
theorem trS_stepN {ds : List Nat} (h : Shp ds) (xs : List Nat) (x : Nat) (hx : x < ds.length) (back : Bool) (D : Nat → Bool) (f l : Nat) (hD : ∀ i, f ≤ i → i < l → D i = false) :
    trn ds (nmL (trS ds xs x back D)) x f l back = trS ds (nmL xs) x back (fun i => D i || (decide (f ≤ i) && decide (i < l))) := by
  rw [nmL_trS]
  exact trS_step h (nmL xs) x hx back D f l hD

end Go.Proofs.YtmggccepmicjhacGreatDoor

/-! What Phases of package goldref answers: whether phases are right: each line of each axis just once; none of too many tasks. -/
namespace Go.Proofs.YtmggccepmicjhacGreatDoor
open Go.RowKit
set_option maxRecDepth 100000

theorem row3 {w : World} {v : Value} {T : List (List Int)} (h : IsR 3 w v T) (i : Nat) (hi : i < T.length) : ∃ a b c, T.getD i [] = [a, b, c] ∧ (-9223372036854775808 ≤ a ∧ a ≤ 9223372036854775807) ∧ (-9223372036854775808 ≤ b ∧ b ≤ 9223372036854775807) ∧ (-9223372036854775808 ≤ c ∧ c ≤ 9223372036854775807) := by
  obtain ⟨_, _, _, _, _, _, hr⟩ := h
  obtain ⟨h1, h2⟩ := hr T[i] (List.getElem_mem hi)
  obtain ⟨a, b, c, e⟩ := len_3 h1
  rw [e] at h2
  exact ⟨a, b, c, by simp [List.getD, List.getElem?_eq_getElem hi, e], h2 a (by simp), h2 b (by simp), h2 c (by simp)⟩


end Go.Proofs.YtmggccepmicjhacGreatDoor
