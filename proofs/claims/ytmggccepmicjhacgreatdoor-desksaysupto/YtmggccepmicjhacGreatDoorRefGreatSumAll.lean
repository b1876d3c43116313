/-
  Texts that stood one behind the other, as one.
-/
import Derived.Test.YtmggccepmicjhacGreatDoorRefGreatAll
import Derived.Test.YtmggccepmicjhacGreatDoorItoaAll
import Derived.Test.YtmggccepmicjhacGreatDoorPlanVAll
import Derived.Laws.IdiomStrings
/-! What GreatSum of package goldref answers: the sum of two great numbers. -/
namespace Go.Proofs.YtmggccepmicjhacGreatDoor
open Go.RowKit
set_option maxRecDepth 100000

theorem itoa_digit (d : Nat) (h : d ≤ 9) : Lib.itoa (d : Int) = [UInt8.ofNat (48 + d)] := by
  have : ∀ d : Fin 10, Lib.itoa ((d.val : Nat) : Int) = [UInt8.ofNat (48 + d.val)] := by decide +kernel
  exact this ⟨d, by omega⟩
set_option maxRecDepth 100000 in
set_option maxHeartbeats 4000000 in
theorem ref_GreatSum (w : World) (s t : ByteArray) (a b : List Nat) (ha : Gs s a) (hb : Gs t b) (h9 : a.length ≤ 1000000) (h9' : b.length ≤ 1000000) (hTb : Tab w) :
    Calls Tryz.prog 33 #[.string s, .string t] w fun e w' => ∃ c, e = .returned (.string (bsX (tx c))) ∧ Gt c ∧ val c = val a + val b ∧ Below w.heap.size w w' := by
  have hs1 := ha.size
  have hs2 := hb.size
  have hba : Hid (∀ i, i < a.length → ∀ hs : i < s.size, (s[i]'hs).toNat = 48 + a.getD i 0) := ha.byte
  have hbb : Hid (∀ i, i < b.length → ∀ hs : i < t.size, (t[i]'hs).toNat = 48 + b.getD i 0) := hb.byte
  have hda : Hid (∀ i, a.getD i 0 ≤ 9) := ha.dg
  have hdb : Hid (∀ i, b.getD i 0 ≤ 9) := hb.dg
  have hGa : Hid (Gt a) := ha.1
  have hGb : Hid (Gt b) := hb.1
  have c0 : Hid (∀ (W : World) (d : Nat), d ≤ 9 → Below w.heap.size w W → Calls Tryz.prog 17 #[.int .i64 (d : Int)] W fun e w' => e = .returned (.string (bsX (tx [d]))) ∧ Below W.heap.size W w') := fun W d hd hW => by
    have q := itoa_bs W (d : Int) (by omega) (by omega) (hTb.below hW)
    rw [itoa_digit d hd] at q
    exact q
  obtain ⟨la, hla⟩ : ∃ la, la = a.length := ⟨_, rfl⟩
  obtain ⟨lb, hlb⟩ : ∃ lb, lb = b.length := ⟨_, rfl⟩
  have hla' : Hid (la = a.length) := hla
  have hlb' : Hid (lb = b.length) := hlb
  rw [← hla] at hs1 h9 hba
  rw [← hlb] at hs2 h9' hbb
  clear ha hb hla hlb
  obtain ⟨mx, hmx⟩ : ∃ mx, mx = max la lb := ⟨_, rfl⟩
  have hm1 : la ≤ mx := by omega
  have hm2 : lb ≤ mx := by omega
  have hm3 : mx ≤ 1000000 := by omega
  have hm4 : mx = la ∨ mx = lb := by omega
  have hmx' : Hid (mx = max la lb) := hmx
  clear hmx
  go_enter Tryz.func33, Tryz.ntmps33
  go_wp2
  go_loopw [5, 6, 7] (fun vo vc vi wr => ∃ (i cr : Nat) (o : List Nat), i ≤ mx + 1 ∧ vi = .int .i64 (i : Int) ∧ vc = .int .i64 (cr : Int) ∧ vo = .string (bsX (tx o)) ∧ cr ≤ 1 ∧ Hid (Sm a b i cr o) ∧ (i ≤ mx ∨ (i = mx + 1 ∧ cr = 0 ∧ Hid (10 ^ (i - 1) ≤ val o))) ∧ Below w.heap.size w wr)
    (fun _ _ vi _ => mx + 2 - (intOf vi).toNat)
  case atStart => exact ⟨0, 0, [], Nat.zero_le _, rfl, rfl, rfl, by omega, Sm.start a b, .inl (Nat.zero_le _), Below.refl _ _⟩
  case round =>
    obtain ⟨i, cr, o, hi, rfl, rfl, rfl, hcr, hSm, htop, hB⟩ := hrel
    by_cases hend : la ≤ i ∧ lb ≤ i ∧ cr = 0
    · obtain ⟨e1, e2, e3⟩ := hend
      subst e3
      have hfin := hSm.out.ends hGa.out hGb.out (by rw [← hla'.out]; exact e1) (by rw [← hlb'.out]; exact e2) (by rw [← hla'.out, ← hlb'.out, ← hmx'.out]; rcases htop with q | ⟨_, _, q⟩; exact .inl q; exact .inr q.out)
      go_wp2
      go_ret
      exact ⟨o, rfl, hfin.1, hfin.2, hB⟩
    · have hnext := hSm.out.step hGa.out.1 hGb.out.1
      have holen := hSm.out.len
      have hto : i < mx ∨ (i = mx ∧ cr = 1) := by
        rcases htop with q | ⟨q, q2, _⟩
        · rcases Nat.lt_or_ge i mx with r | r
          · exact .inl r
          · right; omega
        · exfalso; apply hend; omega
      have hz : (bsX (tx o)).size ≤ 1099511627776 := by show (tx o).length ≤ _; rw [tx_length, holen]; omega
      have hcat : ∀ d, bsX (tx [d]) ++ bsX (tx o) = bsX (tx (d :: o)) := fun d => bsX_append _ _
      have hz1 : ∀ d, (bsX (tx [d])).size = 1 := fun d => rfl
      have hov : (9223372036854775807 < 1 + (bsX (tx o)).size) = False := eq_false (by omega)
      clear hSm htop
      by_cases h1 : i < la
      · by_cases h2 : i < lb
        · have hskip := hB
          have k1 : (la : Int) - 1 - (i : Int) = ((la - 1 - i : Nat) : Int) := by omega
          have hA := hba.out (la - 1 - i) (by omega)
          have hAd := hda.out (la - 1 - i)
          have eA : Hid (dgE a i = a.getD (la - 1 - i) 0) := by show _ = _; unfold dgE; rw [← hla'.out, if_pos h1]
          rw [eA.out] at hnext
          generalize a.getD (la - 1 - i) 0 = x at *
          have hkl : la - 1 - i < la := by omega
          generalize la - 1 - i = ka at *
          have k2 : (lb : Int) - 1 - (i : Int) = ((lb - 1 - i : Nat) : Int) := by omega
          have hBy := hbb.out (lb - 1 - i) (by omega)
          have hBd := hdb.out (lb - 1 - i)
          have eB : Hid (dgE b i = b.getD (lb - 1 - i) 0) := by show _ = _; unfold dgE; rw [← hlb'.out, if_pos h2]
          rw [eB.out] at hnext
          generalize b.getD (lb - 1 - i) 0 = y at *
          have hkl2 : lb - 1 - i < lb := by omega
          generalize lb - 1 - i = kb at *
          obtain ⟨z, hze⟩ : ∃ z, z = cr + x + y := ⟨_, rfl⟩
          rw [← hze] at hnext
          have hm10 : z % 10 ≤ 9 := by omega
          have hd1 : z / 10 ≤ 1 := by omega
          have cI : Hid (∀ v : Int, v = ((z % 10 : Nat) : Int) → Calls Tryz.prog 17 #[.int .i64 v] wr fun e w' => e = .returned (.string (bsX (tx [z % 10]))) ∧ Below wr.heap.size wr w') := fun v hv => by subst hv; exact c0.out wr (z % 10) hm10 hB
          have hcd := hcat (z % 10)
          have hnew : Hid (i + 1 ≤ mx ∨ (i + 1 = mx + 1 ∧ z / 10 = 0 ∧ Hid (10 ^ (i + 1 - 1) ≤ val (z % 10 :: o)))) := .inl (by omega)
          replace hnext : Hid _ := hnext
          go_wp2_with (go_at_call 17; refine Calls.mono (cI.out _ (by omega)) ?_; rintro e w2 ⟨rfl, hb2⟩; clear cI)
          go_roundw
          case rel => exact ⟨i + 1, z / 10, z % 10 :: o, by omega, by go_num, by simp only [Value.int.injEq, true_and]; omega, by first | rfl | rw [hcd] | (simp [hze]; done) | (simp [hz1']; done), hd1, hnext, hnew.out, hB.trans (hb2.mono hB.size)⟩
          case measure => simp only [intOf]; omega
        · have hskip := hB
          have k1 : (la : Int) - 1 - (i : Int) = ((la - 1 - i : Nat) : Int) := by omega
          have hA := hba.out (la - 1 - i) (by omega)
          have hAd := hda.out (la - 1 - i)
          have eA : Hid (dgE a i = a.getD (la - 1 - i) 0) := by show _ = _; unfold dgE; rw [← hla'.out, if_pos h1]
          rw [eA.out] at hnext
          generalize a.getD (la - 1 - i) 0 = x at *
          have hkl : la - 1 - i < la := by omega
          generalize la - 1 - i = ka at *
          have eB : Hid (dgE b i = 0) := by show _ = _; unfold dgE; rw [← hlb'.out, if_neg h2]
          rw [eB.out] at hnext
          obtain ⟨z, hze⟩ : ∃ z, z = cr + x + 0 := ⟨_, rfl⟩
          rw [← hze] at hnext
          have hm10 : z % 10 ≤ 9 := by omega
          have hd1 : z / 10 ≤ 1 := by omega
          have cI : Hid (∀ v : Int, v = ((z % 10 : Nat) : Int) → Calls Tryz.prog 17 #[.int .i64 v] wr fun e w' => e = .returned (.string (bsX (tx [z % 10]))) ∧ Below wr.heap.size wr w') := fun v hv => by subst hv; exact c0.out wr (z % 10) hm10 hB
          have hcd := hcat (z % 10)
          have hnew : Hid (i + 1 ≤ mx ∨ (i + 1 = mx + 1 ∧ z / 10 = 0 ∧ Hid (10 ^ (i + 1 - 1) ≤ val (z % 10 :: o)))) := .inl (by omega)
          replace hnext : Hid _ := hnext
          go_wp2_with (go_at_call 17; refine Calls.mono (cI.out _ (by omega)) ?_; rintro e w2 ⟨rfl, hb2⟩; clear cI)
          go_roundw
          case rel => exact ⟨i + 1, z / 10, z % 10 :: o, by omega, by go_num, by simp only [Value.int.injEq, true_and]; omega, by first | rfl | rw [hcd] | (simp [hze]; done) | (simp [hz1']; done), hd1, hnext, hnew.out, hB.trans (hb2.mono hB.size)⟩
          case measure => simp only [intOf]; omega
      · by_cases h2 : i < lb
        · have hskip := hB
          have eA : Hid (dgE a i = 0) := by show _ = _; unfold dgE; rw [← hla'.out, if_neg h1]
          rw [eA.out] at hnext
          have k2 : (lb : Int) - 1 - (i : Int) = ((lb - 1 - i : Nat) : Int) := by omega
          have hBy := hbb.out (lb - 1 - i) (by omega)
          have hBd := hdb.out (lb - 1 - i)
          have eB : Hid (dgE b i = b.getD (lb - 1 - i) 0) := by show _ = _; unfold dgE; rw [← hlb'.out, if_pos h2]
          rw [eB.out] at hnext
          generalize b.getD (lb - 1 - i) 0 = y at *
          have hkl2 : lb - 1 - i < lb := by omega
          generalize lb - 1 - i = kb at *
          obtain ⟨z, hze⟩ : ∃ z, z = cr + 0 + y := ⟨_, rfl⟩
          rw [← hze] at hnext
          have hm10 : z % 10 ≤ 9 := by omega
          have hd1 : z / 10 ≤ 1 := by omega
          have cI : Hid (∀ v : Int, v = ((z % 10 : Nat) : Int) → Calls Tryz.prog 17 #[.int .i64 v] wr fun e w' => e = .returned (.string (bsX (tx [z % 10]))) ∧ Below wr.heap.size wr w') := fun v hv => by subst hv; exact c0.out wr (z % 10) hm10 hB
          have hcd := hcat (z % 10)
          have hnew : Hid (i + 1 ≤ mx ∨ (i + 1 = mx + 1 ∧ z / 10 = 0 ∧ Hid (10 ^ (i + 1 - 1) ≤ val (z % 10 :: o)))) := .inl (by omega)
          replace hnext : Hid _ := hnext
          go_wp2_with (go_at_call 17; refine Calls.mono (cI.out _ (by omega)) ?_; rintro e w2 ⟨rfl, hb2⟩; clear cI)
          go_roundw
          case rel => exact ⟨i + 1, z / 10, z % 10 :: o, by omega, by go_num, by simp only [Value.int.injEq, true_and]; omega, by first | rfl | rw [hcd] | (simp [hze]; done) | (simp [hz1']; done), hd1, hnext, hnew.out, hB.trans (hb2.mono hB.size)⟩
          case measure => simp only [intOf]; omega
        · have hskip := hB
          have eA : Hid (dgE a i = 0) := by show _ = _; unfold dgE; rw [← hla'.out, if_neg h1]
          rw [eA.out] at hnext
          have eB : Hid (dgE b i = 0) := by show _ = _; unfold dgE; rw [← hlb'.out, if_neg h2]
          rw [eB.out] at hnext
          obtain ⟨z, hze⟩ : ∃ z, z = cr + 0 + 0 := ⟨_, rfl⟩
          rw [← hze] at hnext
          have hm10 : z % 10 ≤ 9 := by omega
          have hd1 : z / 10 ≤ 1 := by omega
          have hcr1 : cr = 1 := by omega
          have hz1' : z = 1 := by omega
          have cI : Hid (∀ v : Int, v = ((z % 10 : Nat) : Int) → Calls Tryz.prog 17 #[.int .i64 v] wr fun e w' => e = .returned (.string (bsX (tx [z % 10]))) ∧ Below wr.heap.size wr w') := fun v hv => by subst hv; exact c0.out wr (z % 10) hm10 hB
          have hcd := hcat (z % 10)
          have hnew : Hid (i + 1 ≤ mx ∨ (i + 1 = mx + 1 ∧ z / 10 = 0 ∧ Hid (10 ^ (i + 1 - 1) ≤ val (z % 10 :: o)))) := by
            show _ ∨ _
            right
            refine ⟨by omega, by omega, ?_⟩
            show _ ≤ _
            rw [val_cons, holen, Nat.add_sub_cancel, show z % 10 = 1 by omega]
            omega
          replace hnext : Hid _ := hnext
          go_wp2_with (go_at_call 17; refine Calls.mono (cI.out _ (by omega)) ?_; rintro e w2 ⟨rfl, hb2⟩; clear cI)
          go_roundw
          case rel => exact ⟨i + 1, z / 10, z % 10 :: o, by omega, by go_num, by simp only [Value.int.injEq, true_and]; omega, by first | rfl | rw [hcd] | (simp [hze]; done) | (simp [hz1']; done), hd1, hnext, hnew.out, hB.trans (hb2.mono hB.size)⟩
          case measure => simp only [intOf]; omega

end Go.Proofs.YtmggccepmicjhacGreatDoor

/-! Blocks that hold bytes and nothing else: what a store, a make and a conversion to a text do. -/
namespace Go.Proofs.YtmggccepmicjhacGreatDoor
open Go.RowKit
set_option maxRecDepth 100000

/-- Bytes as cells. -/
def cellsB (xs : List Nat) : List Value := xs.map fun (x : Nat) => Value.int .u8 (x : Int)
theorem cellsB_length (xs : List Nat) : (cellsB xs).length = xs.length := by simp [cellsB]
theorem cellsB_set (xs : List Nat) (i x : Nat) : (cellsB xs).set i (.int .u8 (x : Int)) = cellsB (xs.set i x) := by unfold cellsB; rw [List.map_set]
/-- Block g holds these bytes. -/
def RowB (w : World) (g : Nat) (xs : List Nat) : Prop := RowV 5 w g (cellsB xs)
theorem RowB.lt {w : World} {g : Nat} {xs : List Nat} (h : RowB w g xs) : g < w.heap.size := RowV.lt h
theorem RowB.cell {w : World} {g : Nat} {xs : List Nat} (h : RowB w g xs) (i : Nat) (hi : i < xs.length) : w.cell? ⟨g, i, none⟩ = some (.int .u8 ((xs.getD i 0 : Nat) : Int)) := by
  rw [RowV.cell h i]
  simp [cellsB, List.getD, hi]
theorem RowB.frozen {w : World} {g : Nat} {xs : List Nat} (h : RowB w g xs) (i : Nat) : w.frozen? ⟨g, i, none⟩ = false := RowV.frozen h i
theorem RowB.set {w : World} {g : Nat} {xs : List Nat} (h : RowB w g xs) (i x : Nat) : RowB (w.setCell ⟨g, i, none⟩ (.int .u8 (x : Int))) g (xs.set i x) := (RowV.set h i _).cast (cellsB_set _ _ _)
theorem RowB.below {w w' : World} {g : Nat} {xs : List Nat} (h : RowB w g xs) (hb : Below w.heap.size w w') : RowB w' g xs := RowV.below h hb
theorem RowB.cast {w : World} {g : Nat} {xs ys : List Nat} (h : RowB w g xs) (e : xs = ys) : RowB w g ys := e ▸ h
theorem info_byteB : (Tryz.prog.info? 5).map (fun i => (i.zero, i.size, i.bytes)) = some (some (.int .u8 0), 1, 1) := by kernel_rfl
theorem made_byte (n : Nat) : (madeCells (Value.int .u8 0).cells (n * 1)).toList = cellsB (List.replicate n 0) := by
  rw [show (Value.int .u8 0).cells = #[Value.int .u8 0] from rfl, Nat.mul_one, toList_madeCells_one]
  unfold cellsB
  rw [List.map_replicate]; rfl
theorem wp_makeB {ops : Array Oper} {rest : List Oper} {o : Oper} {a : Act} {Q : Exit → Act → World → Prop} {w : World} (hgd : o.guard = none) (l c : Operand) (ho : o.op = Op.makeSlice 29 l c) (n : Nat)
    (hl : a.eval l = .int .i64 (n : Int)) (hc : a.eval c = .int .i64 (n : Int)) (hn : n ≤ 1000000000)
    (h : ∀ g w', Hid (g = w.heap.size) → RowB w' g (List.replicate n 0) → Below w.heap.size w w' → wpList Tryz.prog ops Q rest (a.put o.dst (.slice (some ⟨g, 0, none⟩) n n)) w') :
    wpList Tryz.prog ops Q (o :: rest) a w := by
  obtain ⟨i0, hi, hz0, hz1, hz2⟩ := info_parts info_byteB
  refine wpList_make_full w hgd l c 29 ho w.heap.size 5 i0 (.int .u8 0) 1 Tryz.underlying29 hi hz0 hz1 .i64 .i64 n n n hl hc rfl rfl (by rw [hz2]; omega) (by unfold maxLen; omega) (Nat.le_refl _) ?_
  intro w' hown hgrow
  rw [made_byte] at hown
  refine h w.heap.size w' rfl ?_ ((Below.refl _ _).grown hgrow (Nat.le_refl _) (fun k hk => by cases hk))
  rcases hown.2 with ⟨hv, _⟩ | ⟨g', cap', cur, hv, hg, hh, h1, h2, h3, h4⟩
  · cases hv
  · simp only [Value.slice.injEq, Option.some.injEq, Addr.mk.injEq, and_true, true_and] at hv
    obtain ⟨rfl, rfl⟩ := hv
    have hcur : cur.toList = cellsB (List.replicate n 0) := by rw [← h4, Nat.mul_one, List.take_of_length_le (by simp [h3])]
    have hcur2 : cur = (cellsB (List.replicate n 0)).toArray := by rw [← hcur]
    rw [hcur2] at hh
    exact hh
/-- The bytes from o on, as a text: they are the bytes of digits. -/
theorem RowB.text {w : World} {g : Nat} {ds : List Nat} (h : RowB w g (by' ds)) (hd : Dg ds) (o n cap : Nat) (hn : n = ds.length - o) :
    (convert 29 9 (.slice (some ⟨g, o, none⟩) n cap)).run Tryz.prog w = .ok (.string (bsX (tx (ds.drop o)))) w := by
  have q := run_convert_bytes_back (P := Tryz.prog) w 29 9 5 ⟨g, o, none⟩ cap (tx (ds.drop o)) Tryz.underlying29 Tryz.underlying5 Tryz.underlying9 (fun j hj => by
    have hj' : o + j < ds.length := by rw [tx_length, List.length_drop] at hj; omega
    rw [Addr.add_lit, h.cell (o + j) (by rw [by'_length]; exact hj'), by'_get ds _ hj']
    have h9 : ds[o + j] ≤ 9 := hd _ (List.getElem_mem hj')
    have e : (tx (ds.drop o))[j].toNat = 48 + ds.getD (o + j) 0 := by
      have e1 : (tx (ds.drop o))[j]? = some (UInt8.ofNat (48 + ds[o + j])) := by simp [tx, hj']
      rw [(List.getElem?_eq_some_iff.mp e1).2, UInt8.toNat_ofNat', show ds.getD (o + j) 0 = ds[o + j] by simp [List.getD, hj']]
      omega
    rw [e])
  rw [tx_length, List.length_drop, ← hn] at q
  exact q
/-- Bytes under way: k of them are told. -/
def bwk (ds : List Nat) (k : Nat) : List Nat := (List.range ds.length).map fun j => if j < k then 48 + ds.getD j 0 else 0
theorem bwk_length (ds : List Nat) (k : Nat) : (bwk ds k).length = ds.length := by simp [bwk]
theorem bwk_zero (ds : List Nat) : bwk ds 0 = List.replicate ds.length 0 := by
  unfold bwk
  rw [show (fun j => if j < 0 then 48 + ds.getD j 0 else 0) = fun _ => 0 from funext fun j => if_neg (by omega), List.map_const', List.length_range]
theorem bwk_set (ds : List Nat) (k : Nat) : (bwk ds k).set k (48 + ds.getD k 0) = bwk ds (k + 1) := by
  apply List.ext_getElem
  · simp [bwk]
  · intro t h1 h2
    rw [List.getElem_set]
    simp only [bwk, List.getElem_map, List.getElem_range]
    by_cases e : k = t
    · subst e
      rw [if_pos rfl, if_pos (by omega)]
    · rw [if_neg e]
      by_cases e2 : t < k
      · rw [if_pos e2, if_pos (by omega)]
      · rw [if_neg e2, if_neg (by omega)]
theorem bwk_full (ds : List Nat) : bwk ds ds.length = by' ds := by
  apply List.ext_getElem
  · rw [bwk_length, by'_length]
  · intro t h1 h2
    rw [by'_length] at h2
    simp [bwk, by', List.getD, h2]

end Go.Proofs.YtmggccepmicjhacGreatDoor
