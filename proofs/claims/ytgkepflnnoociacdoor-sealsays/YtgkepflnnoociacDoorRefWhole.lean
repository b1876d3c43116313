/-
  What Whole of package goldref answers: an array transformed along all axes.
-/
import Derived.Test.YtgkepflnnoociacDoorRefTurned
namespace Go.Proofs.YtgkepflnnoociacDoor
open Go.RowKit

set_option maxHeartbeats 2000000 in
theorem ref_Whole (w : World) (v v' : Value) (zs : List Int) (ds xs : List Nat) (back : Bool) (h : IsZ w v zs) (h' : IsU w v' xs) (hG : Good zs ds) (hn : prd2 ds ≤ 1024) (hl : xs.length = prd2 ds) :
    Calls Tryd.prog 20 #[v, v', .bool back] w fun e w' => ∃ u, e = .returned u ∧ IsU w' u (mk (prd2 ds) (who ds back (cf xs) ds.length)) ∧ Below w.heap.size w w' := by
  have hZ := h
  have hS : Shp ds := hG.2.2.2
  obtain ⟨a, cap, rfl, hcap, hmax, hc, hr⟩ := h
  clear hcap hmax hr
  have hlen : zs.length = ds.length := by rw [hG.2.2.1, List.length_map]
  have h1 : 1 ≤ ds.length := by rw [← hlen]; exact hG.1
  have h3 : ds.length ≤ 3 := by rw [← hlen]; exact hG.2.1
  have hcz : Hid (∀ W : World, Below w.heap.size w W → ∀ x, x < ds.length → ∃ b off, a = some ⟨b, off, none⟩ ∧ W.cell? ⟨b, off + x, none⟩ = some (.int .i64 ((sz ds x : Nat) : Int))) := fun W hb x hx => by
    obtain ⟨b, off, rfl, hcell⟩ := hc x (by omega)
    rw [(Good_get hG x (by omega)).1] at hcell
    exact ⟨b, off, rfl, (hb.cell (block_lt hcell)).trans hcell⟩
  have cT : Hid (∀ (W : World) (u : Value) (cur : List Nat) (x : Nat), Below w.heap.size w W → IsU W u cur → cur.length = prd2 ds → x < ds.length → Calls Tryd.prog 45 #[.slice a zs.length cap, u, .int .i64 (x : Int), .int .i64 0, .int .i64 ((nln ds x : Nat) : Int), .bool back] W fun e w' => ∃ u, e = .returned u ∧ IsU w' u (mk (prd2 ds) (alo ds x back (cf cur))) ∧ Below W.heap.size W w') := fun W u cur x hb hU hcl hx => by
    have := ref_Turned W (.slice a zs.length cap) u zs ds cur x 0 (nln ds x) back (hZ.below hb) hU hG hn hcl hx (Nat.zero_le _) (Nat.le_refl _)
    rw [trn_all hS cur x hx back] at this
    exact this
  have hnx : Hid (∀ x, x < ds.length → Int.tdiv ((prd2 ds : Nat) : Int) ((sz ds x : Nat) : Int) = ((nln ds x : Nat) : Int) ∧ nln ds x ≤ 1024 ∧ 0 < sz ds x) := fun x hx => by
    refine ⟨?_, ?_, P2_pos (hS.at x hx)⟩
    · rw [Int.tdiv_eq_ediv_of_nonneg (by omega), ← Int.natCast_ediv, nln_div hS x hx]
    · rw [← nln_div hS x hx]; exact Nat.le_trans (Nat.div_le_self _ _) hn
  have hstep : Hid (∀ (cur : List Nat) (x : Nat), x < ds.length → (∀ i, i < prd2 ds → cf cur i = who ds back (cf xs) x i) → mk (prd2 ds) (alo ds x back (cf cur)) = mk (prd2 ds) (who ds back (cf xs) (x + 1))) := fun cur x hx hcur =>
    mk_congr fun p hp => by rw [who_succ]; exact alo_congr hS x hx back hcur p hp
  have hl' : Hid (xs.length = prd2 ds) := hl
  have hn' : Hid (prd2 ds ≤ 1024) := hn
  rw [hlen] at cT ⊢
  clear hc hG hZ hS hlen hl hn
  generalize hN : prd2 ds = N at *
  clear hN
  go_enter Tryd.func20, Tryd.ntmps20
  go_wp2
  go_loopw [1, 7] (fun va vi wr => ∃ (x : Nat) (cur : List Nat), x ≤ ds.length ∧ vi = .int .i64 (x : Int) ∧ IsU wr va cur ∧ Hid (cur.length = N) ∧ Hid (∀ i, i < N → cf cur i = who ds back (cf xs) x i) ∧ Hid (0 < x → cur = mk N (who ds back (cf xs) x)) ∧ Below w.heap.size w wr)
    (fun _ vi _ => ds.length - (intOf vi).toNat)
  case atStart => exact ⟨0, xs, Nat.zero_le _, rfl, h', hl', fun i _ => rfl, fun h0 => absurd h0 (Nat.lt_irrefl 0), Below.refl _ _⟩
  case round =>
    obtain ⟨x, cur, hx, rfl, hU, hcl, hcf, hcm, hbw⟩ := hrel
    by_cases hlt : x < ds.length
    · obtain ⟨b, off, rfl, hcell⟩ := hcz.out wr hbw x hlt
      obtain ⟨e1, e2, e3⟩ := hnx.out x hlt
      obtain ⟨ac, cc, rfl, -⟩ := id hU
      have c1 := cT.out wr _ cur x hbw hU hcl.out hlt
      rw [hstep.out cur x hlt hcf.out] at c1
      have hc0 := hcl.out
      have hwq : IntKind.i64.wrap ((nln ds x : Nat) : Int) = ((nln ds x : Nat) : Int) := wraps_i64 _ (Int.natCast_nonneg _) (by omega)
      have hd0 : ¬ ((sz ds x : Nat) : Int) = 0 := by omega
      rw [hc0] at c1 hU ⊢
      have hnew : Hid (∀ i, i < N → cf (mk N (who ds back (cf xs) (x + 1))) i = who ds back (cf xs) (x + 1) i) := fun i hi => by rw [cf_mk, if_pos hi]
      have hlm : Hid ((mk N (who ds back (cf xs) (x + 1))).length = N) := mk_length _ _
      have hN9 := hn'.out
      obtain ⟨nw, hnw⟩ : ∃ nw : List Nat, nw = mk N (who ds back (cf xs) (x + 1)) := ⟨_, rfl⟩
      have hnw' : Hid (nw = mk N (who ds back (cf xs) (x + 1))) := hnw
      rw [← hnw] at c1 hnew hlm
      clear hcz hnx cT hstep hcf hcm hc0 hcl e3 hU hnw
      generalize nln ds x = M at *
      generalize sz ds x = d at *
      go_wp2_with (go_at_call 45; refine Calls.mono c1 ?_; rintro e w2 ⟨u2, rfl, hU2, hb2⟩)
      go_roundw
      case rel => exact ⟨x + 1, nw, by omega, by go_num, hU2, hlm, hnew, fun _ => hnw'.out, hbw.trans (hb2.mono hbw.size)⟩
      case measure => simp only [intOf]; omega
    · have e : ds.length = x := by omega
      subst e
      have hcur := hcm.out (by omega)
      have hU2 := hU.cast hcur
      clear hcz hnx cT hstep hcf hcm hcl hcur
      obtain ⟨ac, cc, rfl, -⟩ := id hU
      clear hU
      go_wp2
      go_ret
      exact ⟨_, rfl, hU2, hbw⟩

end Go.Proofs.YtgkepflnnoociacDoor
