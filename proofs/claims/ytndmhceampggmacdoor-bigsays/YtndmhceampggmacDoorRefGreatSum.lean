/-
  What GreatSum of package goldref answers: the sum of two great numbers.
-/
import Derived.Test.YtndmhceampggmacDoorRefGreat
import Derived.Test.YtndmhceampggmacDoorItoaC
namespace Go.Proofs.YtndmhceampggmacDoor
open Go.RowKit

theorem itoa_digit (d : Nat) (h : d ≤ 9) : Lib.itoa (d : Int) = [UInt8.ofNat (48 + d)] := by
  have : ∀ d : Fin 10, Lib.itoa ((d.val : Nat) : Int) = [UInt8.ofNat (48 + d.val)] := by decide +kernel
  exact this ⟨d, by omega⟩
set_option maxRecDepth 100000 in
set_option maxHeartbeats 4000000 in
theorem ref_GreatSum (w : World) (s t : ByteArray) (a b : List Nat) (ha : Gs s a) (hb : Gs t b) (h9 : a.length ≤ 1000000) (h9' : b.length ≤ 1000000) (hTb : Tab w) :
    Calls Tryd.prog 23 #[.string s, .string t] w fun e w' => ∃ c, e = .returned (.string (bsX (tx c))) ∧ Gt c ∧ val c = val a + val b ∧ Below w.heap.size w w' := by
  have hs1 := ha.size
  have hs2 := hb.size
  have hba : Hid (∀ i, i < a.length → ∀ hs : i < s.size, (s[i]'hs).toNat = 48 + a.getD i 0) := ha.byte
  have hbb : Hid (∀ i, i < b.length → ∀ hs : i < t.size, (t[i]'hs).toNat = 48 + b.getD i 0) := hb.byte
  have hda : Hid (∀ i, a.getD i 0 ≤ 9) := ha.dg
  have hdb : Hid (∀ i, b.getD i 0 ≤ 9) := hb.dg
  have hGa : Hid (Gt a) := ha.1
  have hGb : Hid (Gt b) := hb.1
  have c0 : Hid (∀ (W : World) (d : Nat), d ≤ 9 → Below w.heap.size w W → Calls Tryd.prog 45 #[.int .i64 (d : Int)] W fun e w' => e = .returned (.string (bsX (tx [d]))) ∧ Below W.heap.size W w') := fun W d hd hW => by
    have q := itoa_bs W (d : Int) (by omega) (by omega) (hTb.below hW)
    rw [itoa_digit d hd] at q
    exact q
  obtain ⟨la, hla⟩ : ∃ la, la = a.length := ⟨_, rfl⟩
  obtain ⟨lb, hlb⟩ : ∃ lb, lb = b.length := ⟨_, rfl⟩
  have hla' : Hid (la = a.length) := hla
  have hlb' : Hid (lb = b.length) := hlb
  rw [← hla] at hs1 h9 hba
  rw [← hlb] at hs2 h9' hbb
  clear ha hb hla hlb
  obtain ⟨mx, hmx⟩ : ∃ mx, mx = max la lb := ⟨_, rfl⟩
  have hm1 : la ≤ mx := by omega
  have hm2 : lb ≤ mx := by omega
  have hm3 : mx ≤ 1000000 := by omega
  have hm4 : mx = la ∨ mx = lb := by omega
  have hmx' : Hid (mx = max la lb) := hmx
  clear hmx
  go_enter Tryd.func23, Tryd.ntmps23
  go_wp2
  go_loopw [5, 6, 7] (fun vo vc vi wr => ∃ (i cr : Nat) (o : List Nat), i ≤ mx + 1 ∧ vi = .int .i64 (i : Int) ∧ vc = .int .i64 (cr : Int) ∧ vo = .string (bsX (tx o)) ∧ cr ≤ 1 ∧ Hid (Sm a b i cr o) ∧ (i ≤ mx ∨ (i = mx + 1 ∧ cr = 0 ∧ Hid (10 ^ (i - 1) ≤ val o))) ∧ Below w.heap.size w wr)
    (fun _ _ vi _ => mx + 2 - (intOf vi).toNat)
  case atStart => exact ⟨0, 0, [], Nat.zero_le _, rfl, rfl, rfl, by omega, Sm.start a b, .inl (Nat.zero_le _), Below.refl _ _⟩
  case round =>
    obtain ⟨i, cr, o, hi, rfl, rfl, rfl, hcr, hSm, htop, hB⟩ := hrel
    by_cases hend : la ≤ i ∧ lb ≤ i ∧ cr = 0
    · obtain ⟨e1, e2, e3⟩ := hend
      subst e3
      have hfin := hSm.out.ends hGa.out hGb.out (by rw [← hla'.out]; exact e1) (by rw [← hlb'.out]; exact e2) (by rw [← hla'.out, ← hlb'.out, ← hmx'.out]; rcases htop with q | ⟨_, _, q⟩; exact .inl q; exact .inr q.out)
      go_wp2
      go_ret
      exact ⟨o, rfl, hfin.1, hfin.2, hB⟩
    · have hnext := hSm.out.step hGa.out.1 hGb.out.1
      have holen := hSm.out.len
      have hto : i < mx ∨ (i = mx ∧ cr = 1) := by
        rcases htop with q | ⟨q, q2, _⟩
        · rcases Nat.lt_or_ge i mx with r | r
          · exact .inl r
          · right; omega
        · exfalso; apply hend; omega
      have hz : (bsX (tx o)).size ≤ 1099511627776 := by show (tx o).length ≤ _; rw [tx_length, holen]; omega
      have hcat : ∀ d, bsX (tx [d]) ++ bsX (tx o) = bsX (tx (d :: o)) := fun d => bsX_append _ _
      have hz1 : ∀ d, (bsX (tx [d])).size = 1 := fun d => rfl
      have hov : (9223372036854775807 < 1 + (bsX (tx o)).size) = False := eq_false (by omega)
      clear hSm htop
      by_cases h1 : i < la
      · by_cases h2 : i < lb
        · have hskip := hB
          have k1 : (la : Int) - 1 - (i : Int) = ((la - 1 - i : Nat) : Int) := by omega
          have hA := hba.out (la - 1 - i) (by omega)
          have hAd := hda.out (la - 1 - i)
          have eA : Hid (dgE a i = a.getD (la - 1 - i) 0) := by show _ = _; unfold dgE; rw [← hla'.out, if_pos h1]
          rw [eA.out] at hnext
          generalize a.getD (la - 1 - i) 0 = x at *
          have hkl : la - 1 - i < la := by omega
          generalize la - 1 - i = ka at *
          have k2 : (lb : Int) - 1 - (i : Int) = ((lb - 1 - i : Nat) : Int) := by omega
          have hBy := hbb.out (lb - 1 - i) (by omega)
          have hBd := hdb.out (lb - 1 - i)
          have eB : Hid (dgE b i = b.getD (lb - 1 - i) 0) := by show _ = _; unfold dgE; rw [← hlb'.out, if_pos h2]
          rw [eB.out] at hnext
          generalize b.getD (lb - 1 - i) 0 = y at *
          have hkl2 : lb - 1 - i < lb := by omega
          generalize lb - 1 - i = kb at *
          obtain ⟨z, hze⟩ : ∃ z, z = cr + x + y := ⟨_, rfl⟩
          rw [← hze] at hnext
          have hm10 : z % 10 ≤ 9 := by omega
          have hd1 : z / 10 ≤ 1 := by omega
          have cI : Hid (∀ v : Int, v = ((z % 10 : Nat) : Int) → Calls Tryd.prog 45 #[.int .i64 v] wr fun e w' => e = .returned (.string (bsX (tx [z % 10]))) ∧ Below wr.heap.size wr w') := fun v hv => by subst hv; exact c0.out wr (z % 10) hm10 hB
          have hcd := hcat (z % 10)
          have hnew : Hid (i + 1 ≤ mx ∨ (i + 1 = mx + 1 ∧ z / 10 = 0 ∧ Hid (10 ^ (i + 1 - 1) ≤ val (z % 10 :: o)))) := .inl (by omega)
          replace hnext : Hid _ := hnext
          go_wp2_with (go_at_call 45; refine Calls.mono (cI.out _ (by omega)) ?_; rintro e w2 ⟨rfl, hb2⟩; clear cI)
          go_roundw
          case rel => exact ⟨i + 1, z / 10, z % 10 :: o, by omega, by go_num, by simp only [Value.int.injEq, true_and]; omega, by first | rfl | rw [hcd] | (simp [hze]; done) | (simp [hz1']; done), hd1, hnext, hnew.out, hB.trans (hb2.mono hB.size)⟩
          case measure => simp only [intOf]; omega
        · have hskip := hB
          have k1 : (la : Int) - 1 - (i : Int) = ((la - 1 - i : Nat) : Int) := by omega
          have hA := hba.out (la - 1 - i) (by omega)
          have hAd := hda.out (la - 1 - i)
          have eA : Hid (dgE a i = a.getD (la - 1 - i) 0) := by show _ = _; unfold dgE; rw [← hla'.out, if_pos h1]
          rw [eA.out] at hnext
          generalize a.getD (la - 1 - i) 0 = x at *
          have hkl : la - 1 - i < la := by omega
          generalize la - 1 - i = ka at *
          have eB : Hid (dgE b i = 0) := by show _ = _; unfold dgE; rw [← hlb'.out, if_neg h2]
          rw [eB.out] at hnext
          obtain ⟨z, hze⟩ : ∃ z, z = cr + x + 0 := ⟨_, rfl⟩
          rw [← hze] at hnext
          have hm10 : z % 10 ≤ 9 := by omega
          have hd1 : z / 10 ≤ 1 := by omega
          have cI : Hid (∀ v : Int, v = ((z % 10 : Nat) : Int) → Calls Tryd.prog 45 #[.int .i64 v] wr fun e w' => e = .returned (.string (bsX (tx [z % 10]))) ∧ Below wr.heap.size wr w') := fun v hv => by subst hv; exact c0.out wr (z % 10) hm10 hB
          have hcd := hcat (z % 10)
          have hnew : Hid (i + 1 ≤ mx ∨ (i + 1 = mx + 1 ∧ z / 10 = 0 ∧ Hid (10 ^ (i + 1 - 1) ≤ val (z % 10 :: o)))) := .inl (by omega)
          replace hnext : Hid _ := hnext
          go_wp2_with (go_at_call 45; refine Calls.mono (cI.out _ (by omega)) ?_; rintro e w2 ⟨rfl, hb2⟩; clear cI)
          go_roundw
          case rel => exact ⟨i + 1, z / 10, z % 10 :: o, by omega, by go_num, by simp only [Value.int.injEq, true_and]; omega, by first | rfl | rw [hcd] | (simp [hze]; done) | (simp [hz1']; done), hd1, hnext, hnew.out, hB.trans (hb2.mono hB.size)⟩
          case measure => simp only [intOf]; omega
      · by_cases h2 : i < lb
        · have hskip := hB
          have eA : Hid (dgE a i = 0) := by show _ = _; unfold dgE; rw [← hla'.out, if_neg h1]
          rw [eA.out] at hnext
          have k2 : (lb : Int) - 1 - (i : Int) = ((lb - 1 - i : Nat) : Int) := by omega
          have hBy := hbb.out (lb - 1 - i) (by omega)
          have hBd := hdb.out (lb - 1 - i)
          have eB : Hid (dgE b i = b.getD (lb - 1 - i) 0) := by show _ = _; unfold dgE; rw [← hlb'.out, if_pos h2]
          rw [eB.out] at hnext
          generalize b.getD (lb - 1 - i) 0 = y at *
          have hkl2 : lb - 1 - i < lb := by omega
          generalize lb - 1 - i = kb at *
          obtain ⟨z, hze⟩ : ∃ z, z = cr + 0 + y := ⟨_, rfl⟩
          rw [← hze] at hnext
          have hm10 : z % 10 ≤ 9 := by omega
          have hd1 : z / 10 ≤ 1 := by omega
          have cI : Hid (∀ v : Int, v = ((z % 10 : Nat) : Int) → Calls Tryd.prog 45 #[.int .i64 v] wr fun e w' => e = .returned (.string (bsX (tx [z % 10]))) ∧ Below wr.heap.size wr w') := fun v hv => by subst hv; exact c0.out wr (z % 10) hm10 hB
          have hcd := hcat (z % 10)
          have hnew : Hid (i + 1 ≤ mx ∨ (i + 1 = mx + 1 ∧ z / 10 = 0 ∧ Hid (10 ^ (i + 1 - 1) ≤ val (z % 10 :: o)))) := .inl (by omega)
          replace hnext : Hid _ := hnext
          go_wp2_with (go_at_call 45; refine Calls.mono (cI.out _ (by omega)) ?_; rintro e w2 ⟨rfl, hb2⟩; clear cI)
          go_roundw
          case rel => exact ⟨i + 1, z / 10, z % 10 :: o, by omega, by go_num, by simp only [Value.int.injEq, true_and]; omega, by first | rfl | rw [hcd] | (simp [hze]; done) | (simp [hz1']; done), hd1, hnext, hnew.out, hB.trans (hb2.mono hB.size)⟩
          case measure => simp only [intOf]; omega
        · have hskip := hB
          have eA : Hid (dgE a i = 0) := by show _ = _; unfold dgE; rw [← hla'.out, if_neg h1]
          rw [eA.out] at hnext
          have eB : Hid (dgE b i = 0) := by show _ = _; unfold dgE; rw [← hlb'.out, if_neg h2]
          rw [eB.out] at hnext
          obtain ⟨z, hze⟩ : ∃ z, z = cr + 0 + 0 := ⟨_, rfl⟩
          rw [← hze] at hnext
          have hm10 : z % 10 ≤ 9 := by omega
          have hd1 : z / 10 ≤ 1 := by omega
          have hcr1 : cr = 1 := by omega
          have hz1' : z = 1 := by omega
          have cI : Hid (∀ v : Int, v = ((z % 10 : Nat) : Int) → Calls Tryd.prog 45 #[.int .i64 v] wr fun e w' => e = .returned (.string (bsX (tx [z % 10]))) ∧ Below wr.heap.size wr w') := fun v hv => by subst hv; exact c0.out wr (z % 10) hm10 hB
          have hcd := hcat (z % 10)
          have hnew : Hid (i + 1 ≤ mx ∨ (i + 1 = mx + 1 ∧ z / 10 = 0 ∧ Hid (10 ^ (i + 1 - 1) ≤ val (z % 10 :: o)))) := by
            show _ ∨ _
            right
            refine ⟨by omega, by omega, ?_⟩
            show _ ≤ _
            rw [val_cons, holen, Nat.add_sub_cancel, show z % 10 = 1 by omega]
            omega
          replace hnext : Hid _ := hnext
          go_wp2_with (go_at_call 45; refine Calls.mono (cI.out _ (by omega)) ?_; rintro e w2 ⟨rfl, hb2⟩; clear cI)
          go_roundw
          case rel => exact ⟨i + 1, z / 10, z % 10 :: o, by omega, by go_num, by simp only [Value.int.injEq, true_and]; omega, by first | rfl | rw [hcd] | (simp [hze]; done) | (simp [hz1']; done), hd1, hnext, hnew.out, hB.trans (hb2.mono hB.size)⟩
          case measure => simp only [intOf]; omega

end Go.Proofs.YtndmhceampggmacDoor
