/-
  Texts that stood one behind the other, as one.
-/
import Derived.Test.YtckoipoejaafhaaDoorTgMAll
import Derived.Test.YtckoipoejaafhaaDoorTgMAll
import Derived.Test.YtckoipoejaafhaaDoorCdFtAll
import Derived.Test.YtckoipoejaafhaaDoorRefGreatProd
import Derived.Test.YtckoipoejaafhaaDoorBigFAll
import Derived.Test.YtckoipoejaafhaaDoorCeUAll
import Derived.Test.YtckoipoejaafhaaDoorBigLd
import Derived.Test.YtckoipoejaafhaaDoorRows
import Derived.WalkKit
import Derived.ProofKit
import Derived.OpenShut
import Derived.Test.YtckoipoejaafhaaDoorSlAll
import Derived.Test.YtckoipoejaafhaaDoorTie
import Derived.Test.YtckoipoejaafhaaDoorCards
import Derived.Stop.Joined
import Derived.SizedLaws
import Derived.ShutString
namespace Go.Proofs.YtckoipoejaafhaaDoor
open Go.RowKit
set_option maxRecDepth 100000
theorem Cc.rest4 {P : Program} {fn : Func} {a b c d e : Code} {Q : Exit → Act → World → Prop} {s : Act} {w : World} (hb : fn.body = some (.seq a (.seq b (.seq c (.seq d e))))) (h : e.wp P Q s w) : (Cc.sq2 (Cc.sq2 (Cc.sq2 (Cc.sq2 (fn.body.getD .skip))))).wp P Q s w := by
  rw [hb]
  exact h
theorem bytes_one (W : World) (z : Nat) (y : Int) (hy : y = ((48 + z : Nat) : Int)) (hz : z ≤ 9) : (convert 55 9 (.slice (some ⟨W.heap.size, 0, none⟩) 1 1)).run Tryd.prog (W.alloc (.cells #[.int .u8 y] 5)) = .ok (.string (bsX (tx [z]))) (W.alloc (.cells #[.int .u8 y] 5)) := by
  subst hy
  have h : RowB (W.alloc (.cells #[.int .u8 ((48 + z : Nat) : Int)] 5)) W.heap.size (by' [z]) := by
    show (W.heap.push _)[W.heap.size]? = _
    simp [cellsB, by']
  exact h.text (fun d hd => by simp at hd; omega) 0 1 1 rfl
theorem cutT (u : UInt8) (l : List UInt8) : (bsX (u :: l)).extract 1 (bsX (u :: l)).size = bsX l := by
  apply ByteArray.ext
  rw [ByteArray.data_extract]
  show (List.toArray (u :: l)).extract 1 (List.toArray (u :: l)).size = List.toArray l
  simp
theorem first_byte (x : Nat) (e : List Nat) (h : x ≤ 9) (hs : 0 < (bsX (tx (x :: e))).size) : ((bsX (tx (x :: e)))[0]'hs).toNat = 48 + x := by
  rw [ByteArray.getElem_eq_getElem_data]
  show (UInt8.ofNat (48 + x)).toNat = _
  rw [UInt8.toNat_ofNat']
  omega
def sLen : Value → Nat
  | .string q => q.size
  | _ => 0
def rvd (a : List Nat) (j : Nat) : List Nat := (a.drop j).reverse
theorem rvd_step {a : List Nat} {j : Nat} (h : j < a.length) : rvd a j = rvd a (j + 1) ++ [a.getD j 0] := by
  unfold rvd
  rw [List.drop_eq_getElem_cons h, List.reverse_cons, List.getD, List.getElem?_eq_getElem h]
  rfl
theorem rvd_end (a : List Nat) : rvd a a.length = [] := by unfold rvd; rw [List.drop_length]; rfl
theorem rvd_len (a : List Nat) (j : Nat) : (rvd a j).length ≤ a.length := by unfold rvd; rw [List.length_reverse, List.length_drop]; omega
theorem lt_newI (w : World) (z : Nat) (y : Int) (h : y = (z : Int)) : Lt (w.alloc (.cells #[.int .u64 y] 34)) w.heap.size z := by
  subst h
  exact lt_new w z
set_option maxRecDepth 100000 in
set_option maxHeartbeats 8000000 in
theorem topGreat_bad (w : World) (s t : ByteArray) (k : Int) (hk : gchk2 s t = k) (hk0 : k ≠ 0) :
    (Cc.sq2 (Cc.sq2 (Cc.sq2 (Cc.sq2 (Tryd.f7.body.getD .skip))))).wp Tryd.prog (bodyPost Tryd.prog Tryd.f7 fun e w' => e = .returned (.bool true) ∧ Below w.heap.size w w')
      ⟨#[.string s, .string t, undef, undef, .bool false, .string ⟨#[]⟩, .int .i64 k, undef, undef, undef, undef, undef, undef, undef, undef, undef, .bool true, .bool false, .string s, .int .i64 (s.size : Int), .bool false, .bool false, .string t, .int .i64 (t.size : Int), .bool false, .bool false, .tuple #[.string ⟨#[]⟩, .int .i64 k], .string s, .string t, .tuple #[.string ⟨#[]⟩, .int .i64 k], .string ⟨#[]⟩, .int .i64 k, undef, undef, undef, undef, undef, undef, undef, undef, undef, undef, undef, undef, undef, undef, undef, undef, undef, undef, undef, undef, undef, undef, undef, undef, undef, undef, undef, undef, undef, undef, undef, undef, undef, undef, undef, undef, undef, undef, undef, undef, undef, undef, undef, undef, undef, undef, undef, undef, undef, undef, undef, undef, undef, undef, undef, undef, undef, undef, undef, undef, undef, undef, undef, undef, undef, undef, undef, undef, undef, undef, undef, undef, undef, undef, undef, undef, undef, undef, undef, undef, undef, undef, undef, undef, undef, undef, undef, undef, undef, undef, undef, undef, undef, undef, undef, undef, undef, undef, undef, undef, undef, undef, undef, undef, undef, undef, undef, undef], []⟩ w := by
  have c := fun W (x : ByteArray) => ref_Great W x
  refine Cc.rest4 (fn := Tryd.f7) rfl ?_
  by_cases h1 : gchk s = 0
  · have h2 : gchk t = k := by rw [← hk]; unfold gchk2; rw [if_pos h1]
    have c1 := fun W => c W s
    have c2 := fun W => c W t
    rw [h1] at c1
    rw [h2] at c2
    clear c hk h1 h2
    go_wp2_with (first
      | (go_at_call 25; refine Calls.mono (c1 _) ?_; rintro e w' ⟨rfl, hw⟩; rw [hw]; clear hw c1)
      | (go_at_call 25; refine Calls.mono (c2 _) ?_; rintro e w' ⟨rfl, hw⟩; rw [hw]; clear hw c2))
    go_ret
    exact ⟨rfl, Below.refl _ _⟩
  · have h2 : gchk s = k := by rw [← hk]; unfold gchk2; rw [if_neg h1]
    have c1 := fun W => c W s
    rw [h2] at c1
    clear c hk h1 h2
    go_wp2_with (go_at_call 25; refine Calls.mono (c1 _) ?_; rintro e w' ⟨rfl, hw⟩; rw [hw]; clear hw c1)
    go_ret
    exact ⟨by show Ending.returned (Value.bool (k != 0)) = _; rw [show (k != 0) = true by simp [hk0]], Below.refl _ _⟩
set_option maxRecDepth 100000 in
set_option maxHeartbeats 8000000 in
theorem topGreat_good (w : World) (s t : ByteArray) (a b c : List Nat) (ha : Gs s a) (hb : Gs t b) (hs9 : s.size ≤ 300) (ht9 : t.size ≤ 300) (hc : Gt c) (hv : val c = val a * val b) (hTb : Tab w) :
    (Cc.sq2 (Cc.sq2 (Cc.sq2 (Cc.sq2 (Tryd.f7.body.getD .skip))))).wp Tryd.prog (bodyPost Tryd.prog Tryd.f7 fun e w' => e = .returned (.bool true) ∧ Below w.heap.size w w')
      ⟨#[.string s, .string t, undef, undef, .bool false, .string (bsX (tx c)), .int .i64 0, undef, undef, undef, undef, undef, undef, undef, undef, undef, .bool true, .bool false, .string s, .int .i64 (s.size : Int), .bool false, .bool false, .string t, .int .i64 (t.size : Int), .bool false, .bool false, .tuple #[.string (bsX (tx c)), .int .i64 0], .string s, .string t, .tuple #[.string (bsX (tx c)), .int .i64 0], .string (bsX (tx c)), .int .i64 0, undef, undef, undef, undef, undef, undef, undef, undef, undef, undef, undef, undef, undef, undef, undef, undef, undef, undef, undef, undef, undef, undef, undef, undef, undef, undef, undef, undef, undef, undef, undef, undef, undef, undef, undef, undef, undef, undef, undef, undef, undef, undef, undef, undef, undef, undef, undef, undef, undef, undef, undef, undef, undef, undef, undef, undef, undef, undef, undef, undef, undef, undef, undef, undef, undef, undef, undef, undef, undef, undef, undef, undef, undef, undef, undef, undef, undef, undef, undef, undef, undef, undef, undef, undef, undef, undef, undef, undef, undef, undef, undef, undef, undef, undef, undef, undef, undef, undef, undef, undef, undef, undef, undef, undef, undef, undef, undef, undef], []⟩ w := by
  have hs1 := ha.size
  have hs2 := hb.size
  have g1 : ∀ W, Calls Tryd.prog 25 #[.string s] W fun e w' => e = .returned (.int .i64 0) ∧ w' = W := fun W => by have := ref_Great W s; rw [gchk_ok ⟨ha, by omega⟩] at this; exact this
  have g2 : ∀ W, Calls Tryd.prog 25 #[.string t] W fun e w' => e = .returned (.int .i64 0) ∧ w' = W := fun W => by have := ref_Great W t; rw [gchk_ok ⟨hb, by omega⟩] at this; exact this
  have cG : Hid (∀ W, Calls Tryd.prog 27 #[.string s, .string t] W fun e w' => e = .returned (.string (bsX (tx c))) ∧ Below W.heap.size W w') := fun W => (ref_GreatProduct W s t a b ha hb (by omega) (by omega)).mono fun e w' ⟨c', h1, h2, h3, h4⟩ => by
    rw [Gt.one h2 hc (by rw [h3, hv])] at h1
    exact ⟨h1, h4⟩
  have hba : Hid (∀ i, i < a.length → ∀ hs : i < s.size, (s[i]'hs).toNat = 48 + a.getD i 0) := ha.byte
  have hbb : Hid (∀ i, i < b.length → ∀ hs : i < t.size, (t[i]'hs).toNat = 48 + b.getD i 0) := hb.byte
  have hda : Hid (∀ i, a.getD i 0 ≤ 9) := ha.dg
  have hdb : Hid (∀ i, b.getD i 0 ≤ 9) := hb.dg
  have hp1 : 1 ≤ a.length := by
    rcases Nat.eq_zero_or_pos a.length with q | q
    · exact absurd (List.eq_nil_of_length_eq_zero q) ha.1.2.1
    · exact q
  have hp2 : 1 ≤ b.length := by
    rcases Nat.eq_zero_or_pos b.length with q | q
    · exact absurd (List.eq_nil_of_length_eq_zero q) hb.1.2.1
    · exact q
  have hra : Dg (rvd a 0) := fun d hd => ha.1.1 d (by unfold rvd at hd; simpa using hd)
  have hrb : Dg (rvd b 0) := fun d hd => hb.1.1 d (by unfold rvd at hd; simpa using hd)
  have hla : (rvd a 0).length = a.length := by unfold rvd; simp
  have hlb : (rvd b 0).length = b.length := by unfold rvd; simp
  have hpM := pM_digits hra hrb (by omega) (by omega) (by omega)
  have htv : tvd (pM (rvd a 0) (rvd b 0)) = val c := by rw [hpM.2.2, hv]; unfold rvd; rw [List.drop_zero, List.drop_zero, tv_reverse, tv_reverse]
  have hT0 := Two.start w
  have cL : Hid (∀ W vx vy, Two w W vx vy (rvd a 0) (rvd b 0) → Calls Tryd.prog 26 #[vx, vy] W fun e w' => ∃ u, e = .returned (.tuple #[u, .int .i64 0]) ∧ IsU w' u (pM (rvd a 0) (rvd b 0)) ∧ Below w.heap.size w w') := fun W vx vy hT => by
    obtain ⟨i1, i2⟩ := hT.isU (fun x hx => by have := hra x hx; omega) (fun x hx => by have := hrb x hx; omega)
    refine (conv_Linear_some W vx vy _ _ i1 i2 (hTb.below hT.bl) (by omega) (by omega) (by omega)).mono ?_
    rintro e w' ⟨u, h1, h2, h3⟩
    exact ⟨u, h1, h2, hT.bl.trans (h3.mono hT.bl.size)⟩
  have hpl : Hid ((pM (rvd a 0) (rvd b 0)).length = a.length + b.length - 1) := by show _ = _; rw [hpM.1, hla, hlb]
  have hpg : Hid (∀ i, (pM (rvd a 0) (rvd b 0)).getD i 0 ≤ 24300) := hpM.2.1
  have htv' : Hid (tvd (pM (rvd a 0) (rvd b 0)) = val c) := htv
  have hra' : Hid (rvd a a.length = []) := rvd_end a
  have hrb' : Hid (rvd b b.length = []) := rvd_end b
  have hsa : Hid (∀ j, j < a.length → rvd a j = rvd a (j + 1) ++ [a.getD j 0]) := fun j hj => rvd_step hj
  have hsb : Hid (∀ j, j < b.length → rvd b j = rvd b (j + 1) ++ [b.getD j 0]) := fun j hj => rvd_step hj
  have hll : Hid (∀ j, (rvd a j).length ≤ 1000 ∧ (rvd b j).length ≤ 1000) := fun j => by have := rvd_len a j; have := rvd_len b j; omega
  have hc' : Hid (Gt c) := hc
  clear ha hb hv hTb hra hrb hla hlb hpM htv hc
  generalize hla : a.length = la at *
  generalize hlb : b.length = lb at *
  clear hla hlb
  subst hs1 hs2
  refine Cc.rest4 (fn := Tryd.f7) rfl ?_
  go_wp2_with (first
    | (go_at_call 25; refine Calls.mono (g1 _) ?_; rintro e w' ⟨rfl, hw⟩; rw [hw]; clear hw g1)
    | (go_at_call 25; refine Calls.mono (g2 _) ?_; rintro e w' ⟨rfl, hw⟩; rw [hw]; clear hw g2))
  go_loopw [7, 9] (fun vx vi wr => ∃ (j : Nat) (z : Int), j ≤ s.size ∧ z = (j : Int) - 1 ∧ vi = .int .i64 z ∧ Hid (Two w wr vx (.slice none 0 0) (rvd a j) []))
    (fun _ vi _ => (intOf vi + 1).toNat)
  case atStart => exact ⟨s.size, _, Nat.le_refl _, rfl, by go_num, by rw [hra'.out]; exact hT0⟩
  case round =>
    clear hT0
    obtain ⟨j, z, hj, hz, rfl, hT⟩ := hrel
    cases j with
    | succ i =>
      obtain rfl : z = (i : Int) := by omega
      have hB := hba.out i (by omega)
      have h9 := hda.out i
      have hl := (hll.out (i + 1)).1
      have hst := hsa.out i (by omega)
      generalize a.getD i 0 = x at *
      have hup : Hid (∀ W vx, Two w W vx (.slice none 0 0) (rvd a (i + 1) ++ [x]) [] → Two w W vx (.slice none 0 0) (rvd a i) []) := fun W vx h => by rw [hst]; exact h
      have hix : i < s.size := by omega
      clear hst hll hsa hsb hba hbb hda hdb cL cG hpl hpg htv' hz
      go_wp2_with (at_builtin; refine wp_appX rfl _ _ rfl (hT.out.below (below_alloc1 _ _)) (lt_newI _ x _ (by omega)) rfl rfl hl ?_; intro v1 w1 hT1; replace hT1 : Hid (Two w w1 _ _ _ _) := hup.out _ _ hT1; clear hT hup)
      go_roundw
      case rel => exact ⟨i, _, by omega, rfl, by go_num, hT1⟩
      case measure => simp only [intOf]; omega
    | zero =>
      have hz0 : z < 0 := by omega
      clear hz hba hda hsa
      go_wp2
      go_loopw [8, 10] (fun vy vi ws => ∃ (j : Nat) (z : Int), j ≤ t.size ∧ z = (j : Int) - 1 ∧ vi = .int .i64 z ∧ Hid (Two w ws u7 vy (rvd a 0) (rvd b j)))
        (fun _ vi _ => (intOf vi + 1).toNat)
      case atStart => exact ⟨t.size, _, Nat.le_refl _, rfl, by go_num, by rw [hrb'.out]; exact hT⟩
      case round =>
        clear hT
        obtain ⟨j, z, hj, hz, rfl, hT⟩ := hrel
        cases j with
        | succ i =>
          obtain rfl : z = (i : Int) := by omega
          have hB := hbb.out i (by omega)
          have h9 := hdb.out i
          have hl := (hll.out (i + 1)).2
          have hst := hsb.out i (by omega)
          generalize b.getD i 0 = x at *
          have hup : Hid (∀ W vx vy, Two w W vy vx (rvd b (i + 1) ++ [x]) (rvd a 0) → Two w W vx vy (rvd a 0) (rvd b i)) := fun W vx vy h => by rw [hst]; exact h.swap
          have hix : i < t.size := by omega
          clear hst hll hsb hbb hdb cL cG hpl hpg htv' hz
          go_wp2_with (at_builtin; refine wp_appX rfl _ _ rfl (hT.out.swap.below (below_alloc1 _ _)) (lt_newI _ x _ (by omega)) rfl rfl hl ?_; intro v1 w1 hT1; replace hT1 : Hid (Two w w1 _ _ _ _) := hup.out _ _ _ hT1; clear hT hup)
          go_roundw
          case rel => exact ⟨i, _, by omega, rfl, by go_num, hT1⟩
          case measure => simp only [intOf]; omega
        | zero =>
          have hz1 : z < 0 := by omega
          clear hz hbb hdb hsb hll
          have cL' := cL.out _ _ _ hT.out
          clear cL hT hra' hrb'
          generalize pM (rvd a 0) (rvd b 0) = p at *
          obtain ⟨N, hN⟩ : ∃ N, N = s.size + t.size - 1 := ⟨_, rfl⟩
          rw [← hN] at hpl
          have hN1 : 1 ≤ N ∧ N ≤ 600 := by omega
          clear hN
          go_wp2_with (go_at_call 26; refine Calls.mono cL' ?_; rintro e w2 ⟨u, rfl, hU, hb2⟩; clear cL'; obtain ⟨b2, o2, c2, rfl⟩ := hU.placeN hpl.out (by omega))
          have hU' : Hid (∀ W i, Below w2.heap.size w2 W → i < N → W.cell? ⟨b2, o2 + i, none⟩ = some (.int .u64 ((p.getD i 0 : Nat) : Int))) := fun W i hW hi => (hU.below hW).cell i (by rw [hpl.out]; exact hi)
          have hb2' : Hid (Below w.heap.size w w2) := hb2
          have hst : Hid (Td (val c) p 0 0 []) := by rw [← htv'.out]; exact Td.start p
          clear hU hb2 htv'
          go_loopw [13, 14, 15] (fun vo vc vi wr => ∃ (i cr : Nat) (d : List Nat), vo = .string (bsX (tx d)) ∧ vc = .int .u64 (cr : Int) ∧ vi = .int .i64 (i : Int) ∧ cr ≤ 2700 ∧ i ≤ N + (2700 - cr) ∧ Hid (Td (val c) p i cr d) ∧ Hid (Below w2.heap.size w2 wr))
            (fun _ vc vi _ => (N - (intOf vi).toNat) * 10000 + (intOf vc).toNat)
          case atStart => exact ⟨0, 0, [], rfl, rfl, rfl, by omega, by omega, hst, Below.refl _ _⟩
          case round =>
            clear hst
            obtain ⟨i, cr, d, rfl, rfl, rfl, hcr, hi, hTd, hB⟩ := hrel
            have hlen := hTd.out.len
            have hz : (bsX (tx d)).size = i := by show (tx d).length = _; rw [tx_length, hlen]
            have hcat : ∀ x, bsX (tx [x]) ++ bsX (tx d) = bsX (tx (x :: d)) := fun x => bsX_append _ _
            by_cases hlt : i < N
            · have hcell := hU'.out wr i hB.out hlt
              have hp9 := hpg.out i
              have hnx : Hid _ := hTd.out.step hp9
              generalize p.getD i 0 = x at *
              clear hU' hpg cG hTd
              have hk := bytes_one wr ((cr + x) % 10) (48 + ((cr : Int) + (x : Int)) % 10) (by omega) (by omega)
              have hcd := hcat ((cr + x) % 10)
              have hov : (9223372036854775807 < 1 + (bsX (tx d)).size) = False := eq_false (by omega)
              have hz1 : (bsX (tx [(cr + x) % 10])).size = 1 := rfl
              have hB3 : Hid (∀ y : Int, Below w2.heap.size w2 (wr.alloc (.cells #[.int .u8 y] 5))) := fun y => hB.out.trans ((below_alloc1 _ _).mono hB.out.size)
              clear hB hcat
              go_wp2
              go_roundw
              case rel => exact ⟨i + 1, (cr + x) / 10, (cr + x) % 10 :: d, by first | rfl | rw [hcd], by simp only [Value.int.injEq, true_and]; omega, by go_num, by omega, by omega, hnx, hB3.out _⟩
              case measure => simp only [intOf]; omega
            · by_cases h0 : cr = 0
              · subst h0
                have hne : d ≠ [] := fun q => by rw [q] at hlen; simp at hlen; omega
                have hvd : Hid (Dg d ∧ val d = val c) := ⟨hTd.out.dg, hTd.out.ends (by rw [hpl.out]; omega)⟩
                have hBB : Hid (Below w.heap.size w wr) := hb2'.out.trans (hB.out.mono hb2'.out.size)
                clear hU' hpg hTd hcat hz hlen hpl hB hb2'
                go_wp2
                go_loopw [13] (fun vo ws => ∃ e : List Nat, e ≠ [] ∧ vo = .string (bsX (tx e)) ∧ Hid (Dg e ∧ val e = val c) ∧ ws = wr)
                  (fun vo _ => sLen vo)
                case atStart => exact ⟨d, hne, rfl, hvd, rfl⟩
                case round =>
                  clear hne hvd
                  obtain ⟨e, he, rfl, hE, hws⟩ := hrel
                  rw [hws]
                  cases e with
                  | nil => exact absurd rfl he
                  | cons x e =>
                    have hx9 : x ≤ 9 := hE.out.1 x (by simp)
                    have hfb := first_byte x e hx9
                    have hsz : (bsX (tx (x :: e))).size = e.length + 1 := by show (tx (x :: e)).length = _; rw [tx_length]; rfl
                    clear he
                    by_cases h2 : 1 ≤ e.length ∧ x = 0
                    · obtain ⟨h2, rfl⟩ := h2
                      have hcut : (bsX (tx (0 :: e))).extract 1 (e.length + 1) = bsX (tx e) := by rw [← hsz]; exact cutT _ _
                      have hE2 : Hid (Dg e ∧ val e = val c) := ⟨fun q hq => hE.out.1 q (by simp [hq]), by rw [← hE.out.2, val_cons, Nat.zero_mul, Nat.zero_add]⟩
                      have hne2 : e ≠ [] := fun q => by rw [q] at h2; simp at h2
                      have hsz2 : (bsX (tx e)).size = e.length := by show (tx e).length = _; rw [tx_length]
                      clear hE cG
                      go_wp2
                      go_roundw
                      case rel => exact ⟨_, _, _, _, _, _, _, _, _, _, _, ⟨e, hne2, rfl, hE2, trivial⟩, rfl⟩
                      case measure => show (bsX (tx e)).size < (bsX (tx (0 :: e))).size; rw [hsz, hsz2]; omega
                    · have hG : Gt (x :: e) := ⟨hE.out.1, by simp, fun q => by
                        simp only [List.length_cons] at q
                        exact fun r => h2 ⟨by omega, r⟩⟩
                      obtain rfl := Gt.one hc'.out hG hE.out.2.symm
                      clear hE hG hc'
                      by_cases h3 : 1 ≤ e.length
                      · have hx0 : x ≠ 0 := fun r => h2 ⟨h3, r⟩
                        clear h2
                        go_wp2_with (go_at_call 27; refine Calls.mono (cG.out _) ?_; rintro e w3 ⟨rfl, hb3⟩; clear cG)
                        go_ret
                        exact ⟨rfl, hBB.out.trans (hb3.mono hBB.out.size)⟩
                      · clear h2
                        go_wp2_with (go_at_call 27; refine Calls.mono (cG.out _) ?_; rintro e w3 ⟨rfl, hb3⟩; clear cG)
                        go_ret
                        exact ⟨rfl, hBB.out.trans (hb3.mono hBB.out.size)⟩
              · have hp0 : p.getD i 0 = 0 := by rw [List.getD, List.getElem?_eq_none (by rw [hpl.out]; omega)]; rfl
                have hnx := hTd.out.step (hpg.out i)
                rw [hp0, Nat.add_zero] at hnx
                replace hnx : Hid _ := hnx
                have hcp : 0 < cr := by omega
                clear hU' hpg cG hTd hp0 h0
                have hk := bytes_one wr (cr % 10) (48 + (cr : Int) % 10) (by omega) (by omega)
                have hcd := hcat (cr % 10)
                have hov : (9223372036854775807 < 1 + (bsX (tx d)).size) = False := eq_false (by omega)
                have hz1 : (bsX (tx [cr % 10])).size = 1 := rfl
                have hB3 : Hid (∀ y : Int, Below w2.heap.size w2 (wr.alloc (.cells #[.int .u8 y] 5))) := fun y => hB.out.trans ((below_alloc1 _ _).mono hB.out.size)
                clear hB hcat
                go_wp2
                go_roundw
                case rel => exact ⟨i + 1, cr / 10, cr % 10 :: d, by first | rfl | rw [hcd], by simp only [Value.int.injEq, true_and]; omega, by go_num, by omega, by omega, hnx, hB3.out _⟩
                case measure => simp only [intOf]; omega
end Go.Proofs.YtckoipoejaafhaaDoor

namespace Go.Proofs.YtckoipoejaafhaaDoor.Cc
open Go Go.Conc Go.RowKit
theorem gz {s t : ByteArray} (h : gchk2 s t = 0) : (∃ a, Gd s a) ∧ ∃ b, Gd t b := by
  unfold gchk2 at h
  split at h
  · next h1 => exact ⟨gchk_zero h1, gchk_zero h⟩
  · next h1 => exact absurd h h1
set_option maxRecDepth 100000 in
set_option maxHeartbeats 16000000 in
theorem topGreat_leads {w : World} {s t : ByteArray} (hT : Tbs w.heap.size w) :
    Leads Tryd.prog w.heap.size (G (Frame.enter Tryd.prog 7 #[.string s, .string t] .normal) []) w (EndT Tryd.prog w w.heap.size) := by
  rw [enter_fd #[.string s, .string t] Tryd.func7 rfl (show 2 ≤ 140 by omega), Tryd.ntmps7]
  refine leads_seq ?_
  refine leads_region [0] rfl ?_
  refine leads_mv (some 4) rfl rfl rfl (.inr rfl) ?_
  refine leads_regionEnd ?_
  refine leads_seq ?_
  refine leads_seq ?_
  refine leads_region [0, 1] rfl ?_
  refine leads_enterD 15 #[] rfl rfl (fun w => run_ev (by simp [execOp, go_sem, evT_func]) (by simp [execOp, go_sem, evT_func, call_events Tryd.func15 (by kernel_rfl) rfl])) ?_
  refine Leads.then (said_leads hT) ?_
  rintro a' p1 ⟨rfl, b1⟩
  rw [finish_arr _ _ _ _ _ _ _ _ _ _ rfl]
  refine leads_pure (some 17) (.bool false) rfl rfl rfl (fun _ => run_ev (by simp [execOp, go_sem, evT_tmp, put_some]) (by simp [execOp, go_sem, evT_tmp, put_some])) ?_
  refine leads_regionEnd ?_
  refine leads_cond false (by simp [evT_tmp, put_some]) ?_
  refine leads_skip ?_
  refine leads_seq ?_
  refine leads_seq ?_
  refine leads_region [0, 1, 2, 3, 4, 5, 6, 7] rfl ?_
  refine leads_mv (some 18) rfl rfl rfl (.inl rfl) ?_
  refine leads_pure (some 19) (.int .i64 (s.size : Int)) rfl rfl rfl (fun w => run_ev (by simp [execOp, go_sem, evT_tmp, put_some]) (by simp [execOp, go_sem, evT_tmp, put_some, Builtin.len_])) ?_
  by_cases hs : s.size ≤ 300
  case neg =>
    refine leads_pure (some 20) (.bool true) rfl rfl rfl (fun _ => gtr_run (e := (s.size : Int)) (f := 300) true (decide_eq_true (by omega)) (by simp [evT_tmp, put_some]) (by simp [evT_const])) ?_
    refine leads_mv (some 21) rfl rfl rfl (.inl rfl) ?_
    refine leads_no (some 22) 3 21 false rfl rfl rfl rfl rfl (by omega) (by simp [evT_tmp, put_some]) ?_
    refine leads_no (some 23) 3 21 false rfl rfl rfl rfl rfl (by omega) (by simp [evT_tmp, put_some]) ?_
    refine leads_no (some 24) 3 21 false rfl rfl rfl rfl rfl (by omega) (by simp [evT_tmp, put_some]) ?_
    refine leads_pure (some 25) (.bool true) rfl rfl rfl (fun w => pick_run true (by simp [evT_tmp, put_some]) (by simp [evT_const])) ?_
    refine leads_regionEnd ?_
    refine leads_cond true (by simp [evT_tmp, put_some]) ?_
    refine leads_seq ?_
    refine leads_region [0] rfl ?_
    refine leads_mv (some 4) rfl rfl rfl (.inr rfl) ?_
    refine leads_regionEnd ?_
    refine leads_retD ?_
    refine leads_true Tryd.func7 (by kernel_rfl) (fun w es => ?_) b1
    rw [res1 (f := Tryd.f7) (j := 4) rfl]
    rfl
  case pos =>
    refine leads_pure (some 20) (.bool false) rfl rfl rfl (fun _ => gtr_run (e := (s.size : Int)) (f := 300) false (decide_eq_false (by omega)) (by simp [evT_tmp, put_some]) (by simp [evT_const])) ?_
    refine leads_mv (some 21) rfl rfl rfl (.inl rfl) ?_
    refine leads_yes (some 22) (.string t) 3 21 false rfl rfl rfl rfl rfl (by omega) (by simp [evT_tmp, put_some]) (fun w => run_ev (by simp [execOp, evT_tmp, put_some]) (by simp [execOp])) ?_
    refine leads_yes (some 23) (.int .i64 (t.size : Int)) 3 21 false rfl rfl rfl rfl rfl (by omega) (by simp [evT_tmp, put_some]) (fun w => run_ev (by simp [execOp, go_sem, evT_tmp, put_some]) (by simp [execOp, go_sem, evT_tmp, put_some, Builtin.len_])) ?_
    by_cases ht : t.size ≤ 300
    case neg =>
      refine leads_yes (some 24) (.bool true) 3 21 false rfl rfl rfl rfl rfl (by omega) (by simp [evT_tmp, put_some]) (fun _ => gtr_run (e := (t.size : Int)) (f := 300) true (decide_eq_true (by omega)) (by simp [evT_tmp, put_some]) (by simp [evT_const])) ?_
      refine leads_pure (some 25) (.bool true) rfl rfl rfl (fun w => pick_run false (by simp [evT_tmp, put_some]) (by simp [evT_tmp, put_some])) ?_
      refine leads_regionEnd ?_
      refine leads_cond true (by simp [evT_tmp, put_some]) ?_
      refine leads_seq ?_
      refine leads_region [0] rfl ?_
      refine leads_mv (some 4) rfl rfl rfl (.inr rfl) ?_
      refine leads_regionEnd ?_
      refine leads_retD ?_
      refine leads_true Tryd.func7 (by kernel_rfl) (fun w es => ?_) b1
      rw [res1 (f := Tryd.f7) (j := 4) rfl]
      rfl
    case pos =>
      refine leads_yes (some 24) (.bool false) 3 21 false rfl rfl rfl rfl rfl (by omega) (by simp [evT_tmp, put_some]) (fun _ => gtr_run (e := (t.size : Int)) (f := 300) false (decide_eq_false (by omega)) (by simp [evT_tmp, put_some]) (by simp [evT_const])) ?_
      refine leads_pure (some 25) (.bool false) rfl rfl rfl (fun w => pick_run false (by simp [evT_tmp, put_some]) (by simp [evT_tmp, put_some])) ?_
      refine leads_regionEnd ?_
      refine leads_cond false (by simp [evT_tmp, put_some]) ?_
      refine leads_skip ?_
      refine leads_seq ?_
      refine leads_region [0, 1, 2, 3, 4, 5, 6, 7] rfl ?_
      refine leads_mv (some 27) rfl rfl rfl (.inl rfl) ?_
      refine leads_mv (some 28) rfl rfl rfl (.inl rfl) ?_
      refine leads_enterD 24 #[.string s, .string t] rfl rfl (fun w => run_ev (by simp [execOp, go_sem, evT_func, evT_tmp, put_some]) (by simp [execOp, go_sem, evT_func, evT_tmp, put_some, call_events Tryd.func24 (by kernel_rfl) rfl])) ?_
      by_cases hg : gchk2 s t = 0
      · obtain ⟨⟨a, ha⟩, b, hb⟩ := gz hg
        refine Leads.then (mul_leads ha hb (hT.blw b1)) ?_
        rintro a' p2 ⟨c, rfl, c1, c2, b2⟩
        rw [finish_arr _ _ _ _ _ _ _ _ _ _ rfl]
        refine leads_mv (some 26) rfl rfl rfl (.inl rfl) ?_
        refine leads_extr (some 30) (.string (bsX (tx c))) rfl rfl rfl rfl (by simp [evT_tmp, put_some]; rfl) rfl ?_
        refine leads_extr (some 31) (.int .i64 0) rfl rfl rfl rfl (by simp [evT_tmp, put_some]; rfl) rfl ?_
        refine leads_mv (some 5) rfl rfl rfl (.inr rfl) ?_
        refine leads_mv (some 6) rfl rfl rfl (.inr rfl) ?_
        refine leads_regionEnd ?_
        exact leads_rest (j := 4) (f := Tryd.f7) tAll _ (by kernel_rfl) Tryd.func7 (by kernel_rfl) rfl (by kernel_rfl) (by kernel_rfl) (b1.trans b2) fun τ d => topGreat_good (tp p2 τ d) s t a b c ha.1 hb.1 hs ht c1 c2 ((hT.blw b1).blw b2).tab
      · refine Leads.then (mul_bad hg) ?_
        rintro a' p2 ⟨rfl, b2⟩
        obtain ⟨k, hk⟩ : ∃ k, gchk2 s t = k := ⟨_, rfl⟩
        rw [hk] at hg ⊢
        rw [finish_arr _ _ _ _ _ _ _ _ _ _ rfl]
        refine leads_mv (some 26) rfl rfl rfl (.inl rfl) ?_
        refine leads_extr (some 30) (.string ⟨#[]⟩) rfl rfl rfl rfl (by simp [evT_tmp, put_some]; rfl) rfl ?_
        refine leads_extr (some 31) (.int .i64 k) rfl rfl rfl rfl (by simp [evT_tmp, put_some]; rfl) rfl ?_
        refine leads_mv (some 5) rfl rfl rfl (.inr rfl) ?_
        refine leads_mv (some 6) rfl rfl rfl (.inr rfl) ?_
        refine leads_regionEnd ?_
        exact leads_rest (j := 4) (f := Tryd.f7) tAll _ (by kernel_rfl) Tryd.func7 (by kernel_rfl) rfl (by kernel_rfl) (by kernel_rfl) (b1.trans b2) fun τ d => topGreat_bad (tp p2 τ d) s t k hk hg
end Go.Proofs.YtckoipoejaafhaaDoor.Cc
namespace Go.Proofs.YtckoipoejaafhaaDoor
open Go Go.Conc Go.RowKit
theorem topGreat_walk (w : World) (s t : ByteArray) (hsh : w.ShapedOpen Tryd.prog) (hTb : Tab w) :
    Cc.GoodRun Tryd.prog 7 #[.string s, .string t] w :=
  Cc.good_run hsh (Cc.topGreat_leads (Cc.tbs_of hsh hTb))
end Go.Proofs.YtckoipoejaafhaaDoor

namespace Go.Proofs.YtckoipoejaafhaaDoor.topGreat
open Go.ChangeShapes Go.WideShapes Go.ChangeAt Go.RowKit
open Go.ChangeMaps (open_string shut_string)
set_option linter.unusedVariables false      -- a walk need not use every 'w<i>' (that an integer argument fits its kind)

theorem own : ownKnob Tryd.prog.godebug = none := by kernel_rfl

/-! ### STEP 1: THE WALK: the Go text returns true. 'Grown w w'': the world has at most new blocks (Derived/RowKit3.lean). Part the cases AHEAD of 'go_enter' where a test parts the walk; take each callee by a contract of your own. -/
theorem walk (a0 : ByteArray) (a1 : ByteArray) (w0 : a0.size ≤ maxLen) (w1 : a1.size ≤ maxLen) (w : World) (hsh : w.ShapedOpen Tryd.prog) (hTb : Tab w) :
    Cc.GoodRun Tryd.prog 7 #[.string a0, .string a1] w := by
  exact topGreat_walk w a0 a1 hsh hTb

/-! ### THE ROW's STEP: WRITTEN OUT: LEAVE IT -/
set_option maxRecDepth 100000 in
theorem lifted (os : Os) (started : os.Started) (H : Type) (enc : TypeId × Value → H) :
    ReturnsInLeavingWide {} Tryd.checked os 7 .any (fun w args => (Rows.topGreatSpec.pre enc Tryd.prog Tryd.f7 [] false w args ∧ laidMetH Tryd.prog laids w) ∧ sizedMet enc Tryd.prog Tryd.f7 (OpenSpec.ofChange Rows.topGreatSpec) false w args)
      (Rows.topGreatSpec.post enc Tryd.prog Tryd.f7 false true false false) := by
  refine Cc.leaving_of_runs (C := Tryd.checked) (X := fun w _ => laidMetH Tryd.prog laids w) (fun _ _ _ hh h => h.of_heap hh) own started Tryd.func7
    (ChangeSpec.witness_shaped (enc := enc) (C := Tryd.checked) (os := os) (X := fun w _ => laidMetH Tryd.prog laids w) false (World.doorLaid Tryd.prog 400 os) #[.string ByteArray.empty, .string ByteArray.empty] 8 rfl (World.shaped_of_RefB (by kernel_rfl) (by kernel_rfl)) (by kernel_rfl) (by kernel_rfl) (by kernel_rfl) (door_met os _)) ?_
  intro W base args ds gs before hval0 hW _ _ hL hsh
  have hval : ∀ (j : Nat) t v, Tryd.f7.params[j]? = some t → args[j]? = some v → Value.okWide Tryd.prog W .any base t v := hval0
  have hW' := hW
  obtain ⟨p, q, hA0, hV, rfl, hfz, hnd⟩ := hW
  have hA : DataW.TrodAll enc Tryd.prog W 0 (fun _ => true) true Tryd.f7.params.toList args.toList ds p := hA0
  rw [Tryd.params7] at hA hval
  obtain ⟨v0, vs0, d0, ds0, p0, q0, hargs, rfl, rfl, h0, r0⟩ := trodAll_cons hA
  obtain ⟨v1, vs1, d1, ds1, p1, q1, rfl, rfl, rfl, h1, r1⟩ := trodAll_cons r0
  obtain ⟨rfl, rfl, rfl⟩ := trodAll_nil r1
  obtain rfl : args = #[v0, v1] := by cases args; simp_all
  obtain ⟨rfl, rfl⟩ := trodVars_none hV
  obtain ⟨a0, rfl, rfl, rfl, w0⟩ := open_string Tryd.underlying9 (hval 0 9 v0 rfl rfl) h0
  obtain ⟨a1, rfl, rfl, rfl, w1⟩ := open_string Tryd.underlying9 (hval 1 9 v1 rfl rfl) h1
  clear hA0 hval0
  simp only [List.append_nil] at hW'
  refine ⟨walk a0 a1 w0 w1 W hsh (tab_of_laid hL), fun W' bel => ?_⟩
  exact ⟨_, _, _, [], _, [], hW', trodAll_mk1 (shut_bool Tryd.underlying4 _), (trodAll_cons_mk (shut_string Tryd.underlying9 w0) (trodAll_cons_mk (shut_string Tryd.underlying9 w1) trodAll_mk0)), rfl, bel.frame _, fun h => by cases h⟩

theorem over : Rows.topGreatRow.holds Tryd.pinned (OpenSpec.ofChange Rows.topGreatSpec) :=
  OpenClaim.holds_of_wide_leaving 7 Tryd.f7 rfl rfl rfl rfl rfl rfl rfl ⟨rfl, rfl, rfl, rfl, rfl⟩ rfl rfl rfl rfl rfl (by kernel_rfl) Tryd.func7 (by kernel_rfl)
    (of_decide_eq_true (by kernel_rfl)) (by unfold Func.isWrapper; first | (rw [if_pos (by decide +kernel)]; kernel_rfl) | (rw [if_neg (by decide +kernel)]; exact ⟨rfl, rfl⟩))
    (fun os started H enc _ => lifted os started H enc)

end Go.Proofs.YtckoipoejaafhaaDoor.topGreat
namespace Go.Proofs.YtckoipoejaafhaaDoor
open Go
/-- The statement. -/
theorem topGreat_holds : Rows.TopGreatCardSaid :=
  card_goes .later _ _ _ _
    topGreat.over (by kernel_rfl) topGreat_row_tie rfl ⟨rfl, rfl⟩ (by kernel_rfl) rfl
    (fun f fn hf hfn => by
      obtain rfl : f = 7 := Option.some.inj ((show Tryd.prog.funcNamed "goldmill/goldtop.TopGreat" = some 7 by kernel_rfl).symm.trans hf) |>.symm
      obtain rfl : fn = Tryd.f7 := (Option.some.inj (Tryd.func7.symm.trans hfn)).symm
      exact ⟨by kernel_rfl, fun j t ht => by
        rw [Tryd.params7] at ht
        have hm : t ∈ [9, 9] := by simpa using Array.mem_of_getElem? ht
        have hall : ([9, 9].all fun u => !Tryd.prog.wantsStandIn u) = true := by kernel_rfl
        exact (show Tryd.prog.wantsStandIn t = false by simpa using List.all_eq_true.1 hall t hm)⟩)
    (by kernel_rfl)
#print axioms topGreat_holds
end Go.Proofs.YtckoipoejaafhaaDoor
