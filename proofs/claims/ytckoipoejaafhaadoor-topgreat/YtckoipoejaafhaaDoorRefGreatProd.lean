/-
  What GreatProduct of package goldref answers: the product of two great numbers.
-/
import Derived.Test.YtckoipoejaafhaaDoorTgMAll
import Derived.Test.YtckoipoejaafhaaDoorSlAll
import Derived.Test.YtckoipoejaafhaaDoorBigC1All
namespace Go.Proofs.YtckoipoejaafhaaDoor
open Go.RowKit
set_option maxRecDepth 100000
theorem RowI.setD {w : World} {g : Nat} {xs : List Nat} (h : RowI w g xs) (i x : Nat) (u : Int) (hu : u = (x : Int)) : RowI (w.setCell ⟨g, i, none⟩ (.int .i64 u)).drew g (xs.set i x) := by subst hu; exact h.set i x
theorem RowI.setV {w : World} {g : Nat} {xs : List Nat} (h : RowI w g xs) (i x : Nat) (u : Int) (hu : u = (x : Int)) : RowI (w.setCell ⟨g, i, none⟩ (.int .i64 u)) g (xs.set i x) := by subst hu; exact h.set i x
theorem prod_wrap (x y z : Nat) (h : x * y ≤ 81) (hz : z ≤ 170000) : wrap64 ((z : Int) + wrap64 ((48 + (x : Int) - 48) * (48 + (y : Int) - 48))) = ((z + x * y : Nat) : Int) := by
  rw [show (48 : Int) + (x : Int) - 48 = (x : Int) by omega, show (48 : Int) + (y : Int) - 48 = (y : Int) by omega, show (x : Int) * (y : Int) = ((x * y : Nat) : Int) from (Int.natCast_mul x y).symm]
  generalize x * y = p at *
  unfold wrap64; omega
set_option maxRecDepth 100000 in
set_option maxHeartbeats 8000000 in
theorem ref_GreatProduct (w : World) (s t : ByteArray) (a b : List Nat) (ha : Gs s a) (hb : Gs t b) (h9 : a.length ≤ 2000) (h9' : b.length ≤ 1000000) :
    Calls Tryd.prog 27 #[.string s, .string t] w fun e w' => ∃ c, e = .returned (.string (bsX (tx c))) ∧ Gt c ∧ val c = val a * val b ∧ Below w.heap.size w w' := by
  have hs1 := ha.size
  have hs2 := hb.size
  have hba : Hid (∀ i, i < a.length → ∀ hs : i < s.size, (s[i]'hs).toNat = 48 + a.getD i 0) := ha.byte
  have hbb : Hid (∀ i, i < b.length → ∀ hs : i < t.size, (t[i]'hs).toNat = 48 + b.getD i 0) := hb.byte
  have hda : Hid (∀ i, a.getD i 0 ≤ 9) := ha.dg
  have hdb : Hid (∀ i, b.getD i 0 ≤ 9) := hb.dg
  have hGa : Hid (Gt a) := ha.1
  have hGb : Hid (Gt b) := hb.1
  have hp1 : 1 ≤ a.length := by
    rcases Nat.eq_zero_or_pos a.length with q | q
    · exact absurd (List.eq_nil_of_length_eq_zero q) ha.1.2.1
    · exact q
  have hp2 : 1 ≤ b.length := by
    rcases Nat.eq_zero_or_pos b.length with q | q
    · exact absurd (List.eq_nil_of_length_eq_zero q) hb.1.2.1
    · exact q
  have hP0 : Hid (Pd a b (List.replicate (a.length + b.length) 0) 0 0) := Pd.start a b
  have hCy : Hid (∀ l, Pd a b l a.length 0 → Cy (val a * val b) l (a.length + b.length) (a.length + b.length - 1)) := fun l h => Cy.start h h9 (by omega)
  have hlast : Hid (∀ l, Cy (val a * val b) l (a.length + b.length) 0 → Dg l) := fun l h => h.ends (by omega) (val_mul_lt ha.1.1 hb.1.1)
  have hPl : Hid (∀ l i j, Pd a b l i j → l.length = a.length + b.length) := fun l i j h => h.len
  have hPo : Hid (∀ l i, i < a.length → Pd a b l i b.length → Pd a b l (i + 1) 0) := fun l i hi h => h.outer hi
  have hPi : Hid (∀ l i j, i < a.length → j < b.length → Pd a b l i j → Pd a b (l.set (i + j + 1) (l.getD (i + j + 1) 0 + a.getD i 0 * b.getD j 0)) i (j + 1)) := fun l i j hi hj h => h.inner ha.1.1 hb.1.1 hi hj
  generalize val a * val b = V at *
  obtain ⟨la, hla⟩ : ∃ la, la = a.length := ⟨_, rfl⟩
  obtain ⟨lb, hlb⟩ : ∃ lb, lb = b.length := ⟨_, rfl⟩
  rw [← hla] at hs1 h9 hba hp1 hP0 hPl hPo hPi hCy hlast
  rw [← hlb] at hs2 h9' hbb hp2 hP0 hPl hPo hPi hCy hlast
  clear ha hb hla hlb
  obtain ⟨N, hN⟩ : ∃ N, N = la + lb := ⟨_, rfl⟩
  rw [← hN] at hP0 hCy hlast hPl
  have hNI : (la : Int) + (lb : Int) = (N : Int) := by omega
  have hN9 : N ≤ 1000000000 := by omega
  have hN2 : 2 ≤ N := by omega
  have hN' : Hid (N = la + lb) := hN
  clear hN
  go_enter Tryd.func27, Tryd.ntmps27
  go_wp2_with (at_make; refine wp_makeI rfl _ _ rfl N (by first | rfl | simp [hNI]) (by first | rfl | simp [hNI]) hN9 ?_; intro g w2 hg hrow hb2)
  have hgw : w.heap.size ≤ g := Nat.le_of_eq hg.out.symm
  clear hg
  go_loopw [6] (fun vi wr => ∃ (i : Nat) (l : List Nat), i ≤ la ∧ vi = .int .i64 (i : Int) ∧ Hid (Pd a b l i 0) ∧ RowI wr g l ∧ Below w.heap.size w wr)
    (fun vi _ => la - (intOf vi).toNat)
  case atStart => exact ⟨0, _, Nat.zero_le _, rfl, hP0, hrow, hb2⟩
  case round =>
    clear hrow hb2 hP0
    obtain ⟨i, l, hi, rfl, hPd, hrow, hB⟩ := hrel
    by_cases hlt : i < la
    · have hA := hba.out i hlt
      have hAd := hda.out i
      have hPi2 : Hid (∀ l j, j < lb → Pd a b l i j → Pd a b (l.set (i + j + 1) (l.getD (i + j + 1) 0 + a.getD i 0 * b.getD j 0)) i (j + 1)) := fun l j hj h => hPi.out l i j hlt hj h
      obtain ⟨x, hx⟩ : ∃ x, x = a.getD i 0 := ⟨_, rfl⟩
      rw [← hx] at hA hAd hPi2
      clear hx
      go_wp2
      go_loopw [7] (fun vj wr => ∃ (j : Nat) (l : List Nat), j ≤ lb ∧ vj = .int .i64 (j : Int) ∧ Hid (Pd a b l i j) ∧ RowI wr g l ∧ Below w.heap.size w wr)
        (fun vj _ => lb - (intOf vj).toNat)
      case atStart => exact ⟨0, l, Nat.zero_le _, rfl, hPd, hrow, hB⟩
      case round =>
        clear hPd hrow hB
        obtain ⟨j, l, hj, rfl, hPd, hrow, hB⟩ := hrel
        by_cases hltj : j < lb
        · have hBy := hbb.out j hltj
          have hBd := hdb.out j
          have hlen := hPl.out l i j hPd.out
          have hbd := hPd.out.bd (i + j + 1)
          rw [if_neg (Nat.lt_irrefl _)] at hbd
          have hnew : Hid _ := hPi2.out l j hltj hPd.out
          have hk : i + j + 1 < l.length := by have := hN'.out; omega
          have hcell := hrow.cell (i + j + 1) hk
          have hfr := hrow.frozen (i + j + 1)
          have hset : Hid (∀ u : Int, u = ((l.getD (i + j + 1) 0 + x * b.getD j 0 : Nat) : Int) → RowI (wr.setCell ⟨g, i + j + 1, none⟩ (.int .i64 u)).drew g (l.set (i + j + 1) (l.getD (i + j + 1) 0 + x * b.getD j 0))) := fun u => hrow.setD (i + j + 1) _ u
          have hB3 : Hid (∀ (u : Value), Below w.heap.size w (wr.setCell ⟨g, i + j + 1, none⟩ u).drew) := fun u => below_drewN (hB.setCell (p := ⟨g, i + j + 1, none⟩) hgw u) 1
          generalize b.getD j 0 = y at *
          generalize l.getD (i + j + 1) 0 = z at *
          have hxy : x * y ≤ 81 := Nat.mul_le_mul hAd hBd
          have hz9 : z ≤ 170000 := by omega
          have hkN : i + j + 1 < N := by have := hN'.out; omega
          have hkI : (i : Int) + (j : Int) + 1 = ((i + j + 1 : Nat) : Int) := by omega
          have hmI : (x : Int) * (y : Int) = ((x * y : Nat) : Int) := by rw [Int.natCast_mul]
          generalize i + j + 1 = k at *
          clear hPd hrow hB hbd hk
          go_wp2
          go_region
          all_goals
            clear hcell hfr
            go_wp2
            go_roundw
            case rel => exact ⟨j + 1, _, by omega, by go_num, hnew, hset.out _ (prod_wrap x y z hxy hz9), hB3.out _⟩
            case measure => simp only [intOf]; omega
        · have e : lb = j := by omega
          subst e
          have hnew : Hid _ := hPo.out l i hlt hPd.out
          clear hPd hA
          go_wp2
          go_roundw
          case rel => exact ⟨i + 1, l, by omega, by go_num, hnew, hrow, hB⟩
          case measure => simp only [intOf]; omega
    · have e : la = i := by omega
      subst e
      have hlen := hPl.out l _ _ hPd.out
      have hC0 : Hid _ := hCy.out l hPd.out
      have hN1 : (N : Int) - 1 = ((N - 1 : Nat) : Int) := by omega
      clear hPd hPi hPo hCy hba hbb hda hdb
      go_wp2
      go_loopw [8] (fun vk wr => ∃ (k : Nat) (l : List Nat), k ≤ N - 1 ∧ vk = .int .i64 (k : Int) ∧ Hid (Cy V l N k) ∧ RowI wr g l ∧ Below w.heap.size w wr)
        (fun vk _ => (intOf vk).toNat)
      case atStart => exact ⟨N - 1, l, Nat.le_refl _, by go_num, hC0, hrow, hB⟩
      case round =>
        clear hrow hB hC0 hlen
        obtain ⟨k, l, hk, rfl, hC, hrow, hB⟩ := hrel
        cases k with
        | zero =>
          have hlen := hC.out.len
          have hDg := hlast.out l hC.out
          have hVl := hC.out.eq
          have hlI : (l.length : Int) = (N : Int) := by omega
          clear hC hlast hNI hlI
          go_wp2_with (at_make; refine wp_makeB rfl _ _ rfl N (by rfl) (by rfl) hN9 ?_; intro go w3 hgo hrow3 hb3)
          have hrl := hrow.below hb3
          have hne : go ≠ g := by have := hrow.lt; have := hgo.out; omega
          have hgow : w.heap.size ≤ go := by have := hB.size; have := hgo.out; omega
          have hB3 := hB.trans (hb3.mono hB.size)
          clear hgo hrow hb3 hB
          go_loopw [10] (fun vk wr => ∃ (k : Nat), k ≤ N ∧ vk = .int .i64 (k : Int) ∧ RowI wr g l ∧ RowB wr go (bwk l k) ∧ Below w.heap.size w wr)
            (fun vk _ => N - (intOf vk).toNat)
          case atStart => exact ⟨0, Nat.zero_le _, rfl, hrl, hrow3.cast (by rw [bwk_zero, hlen]), hB3⟩
          case round =>
            clear hrl hrow3 hB3
            obtain ⟨k, hk, rfl, hrl, hrb, hB⟩ := hrel
            by_cases hlt : k < N
            · have hc0 := hrl.cell k (by omega)
              have hc1 := hrb.cell k (by rw [bwk_length]; omega)
              have hf1 := hrb.frozen k
              have hd9 : l.getD k 0 ≤ 9 := by rw [show l.getD k 0 = l[k] by simp [List.getD, show k < l.length by omega]]; exact hDg _ (List.getElem_mem _)
              have hset : Hid (∀ u : Int, u = ((48 + l.getD k 0 : Nat) : Int) → RowB (wr.setCell ⟨go, k, none⟩ (.int .u8 u)) go (bwk l (k + 1))) := fun u hu => by
                subst hu
                exact (hrb.set k (48 + l.getD k 0)).cast (bwk_set l k)
              have hrl2 : Hid (∀ u : Value, RowI (wr.setCell ⟨go, k, none⟩ u) g l) := fun u => hrl.bar (Ne.symm hne) ((Bar.refl go _).setCell k u)
              have hB5 : Hid (∀ (u : Value), Below w.heap.size w (wr.setCell ⟨go, k, none⟩ u)) := fun u => hB.setCell (p := ⟨go, k, none⟩) hgow u
              generalize l.getD k 0 = d at *
              generalize (bwk l k).getD k 0 = old at *
              clear hrl hrb hB
              go_wp2
              go_roundw
              case rel => exact ⟨k + 1, by omega, by go_num, hrl2.out _, hset.out _ (by omega), hB5.out _⟩
              case measure => simp only [intOf]; omega
            · have e : N = k := by omega
              subst e
              rw [show bwk l N = by' l by rw [← hlen]; exact bwk_full l] at hrb
              have hlt2 : ¬ N < N := Nat.lt_irrefl _
              clear hrl
              have hV0 : Hid (val (l.drop 0) = V) := hVl
              have hby' : Hid (∀ o, o < N → (by' l).getD o 0 = 48 + l.getD o 0) := fun o ho => by'_get l o (by omega)
              have hdr : Hid (∀ o, o < N → l.getD o 0 = 0 → val (l.drop o) = V → val (l.drop (o + 1)) = V) := fun o ho h0 hv => (val_drop (by omega) h0).trans hv
              have hGt : Hid (∀ o, o < N → (o + 1 = N ∨ l.getD o 0 ≠ 0) → Gt (l.drop o)) := fun o ho h1 => Gt.drop hDg (by omega) (by rw [hlen]; exact h1)
              have hcv : Hid (∀ o n, o + n = N → (convert 55 9 (.slice (some ⟨go, o, none⟩) n n)).run Tryd.prog wr = .ok (.string (bsX (tx (l.drop o)))) wr) := fun o n hn => hrb.text hDg o n n (by omega)
              have hce : Hid (∀ o, o < N → wr.cell? ⟨go, o, none⟩ = some (.int .u8 ((48 + l.getD o 0 : Nat) : Int))) := fun o ho => by
                have := hrb.cell o (by rw [by'_length]; omega)
                rw [by'_get l o (by omega)] at this
                exact this
              have hd9 : Hid (∀ o, l.getD o 0 ≤ 9) := fun o => by
                rcases Nat.lt_or_ge o l.length with q | q
                · rw [show l.getD o 0 = l[o] by simp [List.getD, q]]; exact hDg _ (List.getElem_mem _)
                · rw [List.getD, List.getElem?_eq_none q]; decide
              clear hrb hDg hVl
              go_wp2
              go_loopw [9] (fun vo ws => ∃ (o n : Nat), o + n = N ∧ 1 ≤ n ∧ vo = .slice (some ⟨go, o, none⟩) n n ∧ Hid (val (l.drop o) = V) ∧ ws = wr)
                (fun vo _ => match vo with | .slice _ n _ => n | _ => 0)
              case atStart => exact ⟨0, N, by omega, by omega, rfl, hV0, rfl⟩
              case round =>
                clear hV0
                obtain ⟨o, n, hon, hn1, rfl, hv, hws⟩ := hrel
                rw [hws]
                have hoN : o < N := by omega
                have hc := hce.out o hoN
                have h9 := hd9.out o
                have hk := hcv.out o n hon
                by_cases h1 : n = 1
                · subst h1
                  have hG := hGt.out o hoN (.inl (by omega))
                  have hv2 := hv.out
                  clear hce hd9 hdr hGt hv hcv
                  go_wp2
                  go_ret
                  exact ⟨_, rfl, hG, hv2, hB⟩
                · have hn2 : 1 < n := by omega
                  by_cases h0 : l.getD o 0 = 0
                  · have hv2 : Hid _ := hdr.out o hoN h0 hv.out
                    rw [h0] at hc
                    clear hce hd9 hdr hGt hv hcv h1 hk
                    go_wp2
                    go_roundw
                    case rel => exact ⟨o + 1, n - 1, by omega, by omega, rfl, hv2, by first | trivial | rfl⟩
                    case measure => simp only; omega
                  · have hG := hGt.out o hoN (.inr h0)
                    have hv2 := hv.out
                    generalize l.getD o 0 = d at *
                    clear hce hd9 hdr hGt hv hcv h1
                    go_wp2
                    go_ret
                    exact ⟨_, rfl, hG, hv2, hB⟩
        | succ m =>
          have hlen := hC.out.len
          have hm1 : m + 1 < N := by omega
          have hst : Hid _ := hC.out.step hm1
          have hv0 := hC.out.low m (by omega)
          have hv1 := hC.out.at'
          have hc0 := hrow.cell m (by omega)
          have hc1 := hrow.cell (m + 1) (by omega)
          have hf0 := hrow.frozen m
          have hset : Hid (∀ u : Int, u = ((l.getD m 0 + l.getD (m + 1) 0 / 10 : Nat) : Int) → RowI (wr.setCell ⟨g, m, none⟩ (.int .i64 u)).drew g (l.set m (l.getD m 0 + l.getD (m + 1) 0 / 10))) := fun u => hrow.setD m _ u
          have hB3 : Hid (∀ (u : Value), Below w.heap.size w (wr.setCell ⟨g, m, none⟩ u).drew) := fun u => below_drewN (hB.setCell (p := ⟨g, m, none⟩) hgw u) 1
          have hg2 : Hid ((l.set m (l.getD m 0 + l.getD (m + 1) 0 / 10)).getD (m + 1) 0 = l.getD (m + 1) 0) := by show _ = _; rw [getD_set_nat _ _ _ _ (by omega), if_neg (by omega)]
          have hl2 : Hid ((l.set m (l.getD m 0 + l.getD (m + 1) 0 / 10)).length = N) := by show _ = _; rw [List.length_set]; exact hlen
          generalize hL : l.set m (l.getD m 0 + l.getD (m + 1) 0 / 10) = L at *
          clear hL
          generalize l.getD m 0 = x at *
          generalize l.getD (m + 1) 0 = y at *
          have hmI : (m : Int) + 1 - 1 = (m : Int) := by omega
          have hmI2 : ((m + 1 : Nat) : Int) = (m : Int) + 1 := by omega
          clear hC hrow hB
          go_wp2
          go_region
          have hrow2 := hset.out ((x : Int) + (y : Int) / 10) (by omega)
          have hB4 := hB3.out (.int .i64 ((x : Int) + (y : Int) / 10))
          clear hset hB3 hc0 hc1 hf0
          generalize (wr.setCell ⟨g, m, none⟩ (.int .i64 ((x : Int) + (y : Int) / 10))).drew = w5 at *
          have hlen2 := hl2.out
          have hc1 := hrow2.cell (m + 1) (by omega)
          rw [hg2.out] at hc1
          have hf1 := hrow2.frozen (m + 1)
          have hset : Hid (∀ u : Int, u = ((y % 10 : Nat) : Int) → RowI (w5.setCell ⟨g, m + 1, none⟩ (.int .i64 u)) g (L.set (m + 1) (y % 10))) := fun u => hrow2.setV (m + 1) _ u
          have hB5 : Hid (∀ (u : Value), Below w.heap.size w (w5.setCell ⟨g, m + 1, none⟩ u)) := fun u => hB4.setCell (p := ⟨g, m + 1, none⟩) hgw u
          clear hrow2 hB4 hlen2 hg2 hl2
          go_wp2
          go_roundw
          case rel => exact ⟨m, _, by omega, by go_num, hst, hset.out _ (by omega), hB5.out _⟩
          case measure => simp only [intOf]; omega
end Go.Proofs.YtckoipoejaafhaaDoor
