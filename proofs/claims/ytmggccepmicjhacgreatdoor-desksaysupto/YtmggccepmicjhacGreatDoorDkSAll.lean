/-
  Texts that stood one behind the other, as one.
-/
import Derived.Test.YtmggccepmicjhacGreatDoorSlAll
import Derived.Lib.Split
import Derived.Lib.FieldsP
import Derived.Lib.ParseIntB
import Derived.Lib.ParseIntBCases
import Derived.Lib.Join
import Derived.Lib.TrimUEq
import Derived.Test.YtmggccepmicjhacGreatDoorSpltAll
import Derived.Test.YtmggccepmicjhacGreatDoorItoaAll
import Derived.Test.YtmggccepmicjhacGreatDoorRefNumAll
import Derived.Test.YtmggccepmicjhacGreatDoorRefNumAll
import Derived.Test.YtmggccepmicjhacGreatDoorRefPcsAll
import Derived.Test.YtmggccepmicjhacGreatDoorRefNumAll
/-! What the library's Split, FieldsFunc, ParseUint and Join answer, in this proof's own words; no program in sight. -/
namespace Go.Proofs.YtmggccepmicjhacGreatDoor

/-! Pieces, from the left. -/
theorem pcS_hit (b : UInt8) (A : List (List UInt8)) (c : List UInt8) : pcS b (A, c) b = (A ++ [c], []) := by simp [pcS]
theorem pcS_miss {b x : UInt8} (A : List (List UInt8)) (c : List UInt8) (h : x ≠ b) : pcS b (A, c) x = (A, c ++ [x]) := by simp [pcS, h]
theorem pcF_from (b : UInt8) (s : List UInt8) : ∀ (A : List (List UInt8)) (c : List UInt8), s.foldl (pcS b) (A, c) = (A ++ (s.foldl (pcS b) ([], c)).1, (s.foldl (pcS b) ([], c)).2) := by
  induction s with
  | nil => intro A c; simp
  | cons x s ih =>
    intro A c
    simp only [List.foldl_cons]
    by_cases h : x = b
    · subst h
      rw [pcS_hit, pcS_hit, ih (A ++ [c]) [], ih ([] ++ [c]) []]
      simp
    · rw [pcS_miss _ _ h, pcS_miss _ _ h]
      exact ih A (c ++ [x])
theorem pcF_none (b : UInt8) (s : List UInt8) (h : b ∉ s) : ∀ (A : List (List UInt8)) (c : List UInt8), s.foldl (pcS b) (A, c) = (A, c ++ s) := by
  induction s with
  | nil => intro A c; simp
  | cons x s ih =>
    intro A c
    rw [List.foldl_cons, pcS_miss _ _ (fun e => h (by rw [e]; exact List.mem_cons_self)), ih (fun q => h (List.mem_cons_of_mem _ q))]
    simp
theorem pcs_none {b : UInt8} {s : List UInt8} (h : b ∉ s) : pcs b s = [s] := by
  unfold pcs pcP
  rw [pcF_none b s h]
  simp
theorem pcs_cut {b : UInt8} {x : List UInt8} (r : List UInt8) (h : b ∉ x) : pcs b (x ++ b :: r) = x :: pcs b r := by
  unfold pcs pcP
  rw [List.foldl_append, pcF_none b x h, List.foldl_cons, pcS_hit, pcF_from]
  simp
/-- Where a byte stands first. -/
theorem index_byte (b : UInt8) (s : List UInt8) : (Lib.index s [b] = -1 ∧ b ∉ s) ∨ ∃ x r, s = x ++ b :: r ∧ b ∉ x ∧ Lib.index s [b] = (x.length : Int) := by
  induction s with
  | nil => exact .inl ⟨rfl, by simp⟩
  | cons c s ih =>
    by_cases h : c = b
    · subst h
      refine .inr ⟨[], s, rfl, by simp, ?_⟩
      unfold Lib.index
      simp
    · have hp : ([b] : List UInt8).isPrefixOf (c :: s) = false := by
        simp only [List.isPrefixOf, Bool.and_true]
        exact beq_eq_false_iff_ne.2 (fun e => h e.symm)
      rcases ih with ⟨h1, h2⟩ | ⟨x, r, h1, h2, h3⟩
      · refine .inl ⟨?_, fun q => ?_⟩
        · unfold Lib.index
          rw [hp, h1]
          rfl
        · rcases List.mem_cons.mp q with e | e
          · exact h e.symm
          · exact h2 e
      · refine .inr ⟨c :: x, r, by rw [h1]; rfl, fun q => ?_, ?_⟩
        · rcases List.mem_cons.mp q with e | e
          · exact h e.symm
          · exact h2 e
        · unfold Lib.index
          rw [hp, h3]
          have h0 : ((x.length : Int) == -1) = false := by
            rw [beq_eq_false_iff_ne]
            omega
          rw [h0]
          simp
theorem splitK_pcs (b : UInt8) : ∀ (k : Nat) (s : List UInt8), Lib.count s [b] = k → Lib.splitK [b] 0 k s = pcs b s
  | 0, s, h => by
    rcases index_byte b s with ⟨_, h2⟩ | ⟨x, r, h1, h2, h3⟩
    · rw [pcs_none h2]
      rfl
    · rw [Lib.count_hit (by simp) h3] at h
      omega
  | k + 1, s, h => by
    rcases index_byte b s with ⟨h1, h2⟩ | ⟨x, r, h1, h2, h3⟩
    · rw [Lib.count_miss h1] at h
      cases h
    · have hd : s.drop (x.length + ([b] : List UInt8).length) = r := by rw [h1]; simp
      have ht : s.take (x.length + 0) = x := by rw [h1]; simp
      rw [Lib.count_hit (by simp) h3, hd] at h
      have hm : ¬ (Lib.index s [b] == -1) = true := fun e => by have := beq_iff_eq.1 e; omega
      have e : (Lib.index s [b]).toNat = x.length := by omega
      unfold Lib.splitK
      rw [if_neg hm, e, ht, hd, splitK_pcs b k r (by omega), h1, pcs_cut r h2]
theorem count_pcs (b : UInt8) (s : List UInt8) : Lib.count s [b] + 1 = (pcs b s).length := by
  suffices h : ∀ (k : Nat) (s : List UInt8), Lib.count s [b] = k → k + 1 = (pcs b s).length from h _ s rfl
  intro k
  induction k with
  | zero =>
    intro s h
    rcases index_byte b s with ⟨_, h2⟩ | ⟨x, r, h1, h2, h3⟩
    · rw [pcs_none h2]
      rfl
    · rw [Lib.count_hit (by simp) h3] at h
      omega
  | succ k ih =>
    intro s h
    rcases index_byte b s with ⟨h1, h2⟩ | ⟨x, r, h1, h2, h3⟩
    · rw [Lib.count_miss h1] at h
      cases h
    · have hd : s.drop (x.length + ([b] : List UInt8).length) = r := by rw [h1]; simp
      rw [Lib.count_hit (by simp) h3, hd] at h
      have := ih r (by omega)
      rw [h1, pcs_cut r h2, List.length_cons]
      omega
theorem bytes_ext {L : List ByteArray} {M : List (List UInt8)} (h : L.map (fun x => x.data.toList) = M) : L = M.map fun l => (⟨l.toArray⟩ : ByteArray) := by
  subst h
  rw [List.map_map]
  conv => lhs; rw [← List.map_id L]
  refine List.map_congr_left fun x _ => ?_
  obtain ⟨⟨l⟩⟩ := x
  rfl
theorem split_pcs (b : UInt8) (s : List UInt8) : Lib.splitB ⟨#[b]⟩ 0 (Lib.countB ⟨s.toArray⟩ ⟨#[b]⟩) ⟨s.toArray⟩ = (pcs b s).map fun l => (⟨l.toArray⟩ : ByteArray) := by
  refine bytes_ext ?_
  rw [Lib.splitB_data]
  exact splitK_pcs b _ s rfl

/-! Words. -/
theorem decN_blank (n b0 b1 b2 b3 : Nat) (h : (Lib.decodeN n b0 b1 b2 b3).1 = 32) : b0 = 32 ∧ (Lib.decodeN n b0 b1 b2 b3).2 = 1 := by
  unfold Lib.decodeN at h ⊢
  repeat' split at h
  all_goals (simp only at h)
  all_goals first | (exfalso; omega) | skip
  · next q => rw [if_pos q]; exact ⟨h, rfl⟩
theorem decN_other (n b0 b1 b2 b3 : Nat) (h : (Lib.decodeN n b0 b1 b2 b3).1 ≠ 32) : b0 ≠ 32 ∧ (1 < (Lib.decodeN n b0 b1 b2 b3).2 → b1 ≠ 32) ∧ (2 < (Lib.decodeN n b0 b1 b2 b3).2 → b2 ≠ 32) ∧ (3 < (Lib.decodeN n b0 b1 b2 b3).2 → b3 ≠ 32) ∧ (Lib.decodeN n b0 b1 b2 b3).2 ≤ 4 := by
  have h0 : b0 ≠ 32 := fun e => h (by unfold Lib.decodeN; rw [if_pos (by omega)]; exact e)
  refine ⟨h0, ?_⟩
  clear h
  unfold Lib.decodeN
  repeat' split
  all_goals (simp only; omega)
theorem get_at (s : List UInt8) (i : Nat) : ((⟨s.toArray⟩ : ByteArray).get! i) = s.getD i 0 := (Lib.getD_get!' ⟨s.toArray⟩ i).symm
/-- What is under way in a pass over the runes. -/
theorem pcF_more (b : UInt8) (s t : List UInt8) (h : b ∉ t) : pcP b (s ++ t) = ((pcP b s).1, (pcP b s).2 ++ t) := by
  unfold pcP
  rw [List.foldl_append]
  exact pcF_none b t h _ _
theorem take_run (s : List UInt8) (pos k : Nat) : s.take (pos + k) = s.take pos ++ (s.drop pos).take k := List.take_add
theorem wd_one {l : List UInt8} (h : l ≠ []) : List.filter wdB [l] = [l] := by
  cases l with
  | nil => exact absurd rfl h
  | cons c r => rfl
theorem spans_wds (s : List UInt8) : ∀ (f pos : Nat) (st : Option Nat) (acc : List (Nat × Nat)), s.length ≤ pos + f → pos ≤ s.length → (∀ a, st = some a → a < pos) →
    acc.map (fun p => Lib.pieceU s p.1 p.2) = (pcP 32 (s.take pos)).1.filter wdB → Lib.openPiece s st pos = (pcP 32 (s.take pos)).2 →
    (Lib.closeSpans ⟨s.toArray⟩ (Lib.spansFromP (fun r => decide (r = 32)) ⟨s.toArray⟩ f pos st acc)).map (fun p => Lib.pieceU s p.1 p.2) = wds s := by
  have hsz : (⟨s.toArray⟩ : ByteArray).size = s.length := by simp [ByteArray.size]
  have hend : ∀ (st : Option Nat) (acc : List (Nat × Nat)), (∀ a, st = some a → a < s.length) → acc.map (fun p => Lib.pieceU s p.1 p.2) = (pcP 32 s).1.filter wdB → Lib.openPiece s st s.length = (pcP 32 s).2 →
      (Lib.closeSpans ⟨s.toArray⟩ (acc, st)).map (fun p => Lib.pieceU s p.1 p.2) = wds s := by
    intro st acc hst ha ho
    unfold wds pcs
    rw [List.filter_append, ← ha, ← ho]
    cases st with
    | none => simp [Lib.closeSpans, Lib.openPiece, wdB]
    | some a =>
      have hn := Lib.pieceU_ne s a s.length (hst a rfl) (Nat.le_refl _)
      simp [Lib.closeSpans, Lib.openPiece, hsz]
      exact (wd_one hn).symm
  intro f
  induction f with
  | zero =>
    intro pos st acc h hp hst ha ho
    obtain rfl : pos = s.length := by omega
    rw [List.take_length] at ha ho
    exact hend st acc hst ha ho
  | succ f ih =>
    intro pos st acc h hp hst ha ho
    by_cases hlt : pos < s.length
    · have hw := Lib.width_pos ⟨s.toArray⟩ pos
      have hwn : pos + (Utf8.decode ⟨s.toArray⟩ pos).2 ≤ s.length := by
        have := Lib.decodeN_le_n' ((⟨s.toArray⟩ : ByteArray).size - pos) ((⟨s.toArray⟩ : ByteArray).get! pos).toNat ((⟨s.toArray⟩ : ByteArray).get! (pos + 1)).toNat ((⟨s.toArray⟩ : ByteArray).get! (pos + 2)).toNat ((⟨s.toArray⟩ : ByteArray).get! (pos + 3)).toNat (by rw [hsz]; omega)
        rw [← Lib.decode_at, hsz] at this
        omega
      have hB := Lib.decode_at ⟨s.toArray⟩ pos
      simp only [get_at] at hB
      generalize hD : Utf8.decode ⟨s.toArray⟩ pos = D at *
      unfold Lib.spansFromP
      rw [hsz, if_pos hlt, hD]
      by_cases hb : D.1 = 32
      · obtain ⟨b1, b2⟩ := decN_blank _ _ _ _ _ (by rw [← hB]; exact hb)
        rw [← hB] at b2
        have hc : s.take (pos + 1) = s.take pos ++ [32] := by
          rw [List.take_succ_eq_append_getElem hlt]
          congr 2
          rw [List.getD, List.getElem?_eq_getElem hlt] at b1
          exact UInt8.toNat_inj.mp b1
        have hP : pcP 32 (s.take (pos + 1)) = ((pcP 32 (s.take pos)).1 ++ [(pcP 32 (s.take pos)).2], []) := by
          rw [hc, pcP_snoc]
          simp [pcS]
        rw [if_pos (by simpa using hb), b2]
        cases st with
        | none =>
          refine ih (pos + 1) none acc (by omega) (by omega) (fun a h => by cases h) ?_ (by rw [hP]; rfl)
          rw [hP, List.filter_append, ← ha, ← ho]
          simp [Lib.openPiece, wdB]
        | some a =>
          have hn := Lib.pieceU_ne s a pos (hst a rfl) (by omega)
          refine ih (pos + 1) none (acc ++ [(a, pos)]) (by omega) (by omega) (fun a h => by cases h) ?_ (by rw [hP]; rfl)
          rw [hP, List.filter_append, ← ho, List.map_append, ha]
          simp [Lib.openPiece]
          exact (wd_one hn).symm
      · obtain ⟨o0, o1, o2, o3, o4⟩ := decN_other _ _ _ _ _ (by rw [← hB]; exact hb)
        rw [← hB] at o1 o2 o3 o4
        have hno : (32 : UInt8) ∉ (s.drop pos).take D.2 := by
          intro q
          obtain ⟨j, hj, hq⟩ := List.mem_iff_getElem.mp q
          rw [List.length_take, List.length_drop] at hj
          rw [List.getElem_take, List.getElem_drop] at hq
          have hk : ∀ i, i = pos + j → (s.getD i 0).toNat = 32 := fun i e => by
            subst e
            rw [List.getD, List.getElem?_eq_getElem (by omega), Option.getD_some, hq]
            rfl
          have hj4 : j < 4 := by omega
          match j, hj4 with
          | 0, _ => exact o0 (hk pos rfl)
          | 1, _ => exact o1 (by omega) (hk _ rfl)
          | 2, _ => exact o2 (by omega) (hk _ rfl)
          | 3, _ => exact o3 (by omega) (hk _ rfl)
        have hP : pcP 32 (s.take (pos + D.2)) = ((pcP 32 (s.take pos)).1, (pcP 32 (s.take pos)).2 ++ (s.drop pos).take D.2) := by
          rw [take_run, pcF_more _ _ _ hno]
        rw [if_neg (by simpa using hb)]
        cases st with
        | none =>
          refine ih (pos + D.2) (some pos) acc (by omega) hwn (fun a h => by cases h; omega) (by rw [hP]; exact ha) ?_
          rw [hP, ← ho]
          simp [Lib.openPiece, Lib.pieceU]
        | some a =>
          refine ih (pos + D.2) (some a) acc (by omega) hwn (fun b h => by cases h; have := hst a rfl; omega) (by rw [hP]; exact ha) ?_
          rw [hP, ← ho]
          exact (Lib.pieceU_grow s a pos D.2 (Nat.le_of_lt (hst a rfl))).symm
    · obtain rfl : pos = s.length := by omega
      rw [Lib.spansFromP_end _ _ _ _ _ _ (by rw [hsz]; omega)]
      rw [List.take_length] at ha ho
      exact hend st acc hst ha ho
theorem fields_wds (s : List UInt8) : Lib.goFieldsP (fun r => decide (r = 32)) ⟨s.toArray⟩ = (wds s).map fun l => (⟨l.toArray⟩ : ByteArray) := by
  refine bytes_ext ?_
  have h := spans_wds s s.length 0 none [] (by omega) (by omega) (fun a h => by cases h) (by simp [pcP]) (by simp [pcP, Lib.openPiece])
  rw [← h]
  unfold Lib.goFieldsP Lib.spansOfP
  rw [List.map_map]
  have hsz : (⟨s.toArray⟩ : ByteArray).size = s.length := by simp [ByteArray.size]
  rw [hsz]
  refine List.map_congr_left fun x _ => ?_
  simp [Lib.pieceU]

/-! Numbers that are read. -/
theorem parse_fold : ∀ (l : List UInt8) (acc u : Nat), acc < 18446744073709551616 → Lib.parseUint10 acc l = .ok u → l.foldl nvS acc = u
  | [], acc, u, _, h => by
    unfold Lib.parseUint10 at h
    cases h
    rfl
  | c :: r, acc, u, ha, h => by
    unfold Lib.parseUint10 at h
    split at h
    · next hc =>
      split at h
      · cases h
      · split at h
        · cases h
        · next h1 h2 =>
          rw [List.foldl_cons]
          have e : nvS acc c = acc * 10 + (c.toNat - 48) := by unfold nvS; omega
          rw [e]
          exact parse_fold r _ u (by omega) h
    · cases h
theorem parse_snoc (c : UInt8) : ∀ (l : List UInt8) (acc u : Nat), Lib.parseUint10 acc l = .ok u → Lib.parseUint10 acc (l ++ [c]) = Lib.parseUint10 u [c]
  | [], acc, u, h => by
    unfold Lib.parseUint10 at h
    cases h
    rfl
  | d :: r, acc, u, h => by
    unfold Lib.parseUint10 at h
    rw [List.cons_append]
    unfold Lib.parseUint10
    split at h
    · next hc =>
      split at h
      · cases h
      · next h1 =>
        split at h
        · cases h
        · next h2 =>
          rw [if_pos hc, if_neg h1, if_neg h2, parse_snoc c r _ u h]
          rfl
    · cases h
theorem dig_toNat (d : Nat) (h : d < 10) : (UInt8.ofNat (48 + d)).toNat = 48 + d := by
  rw [UInt8.toNat_ofNat']
  omega
theorem parse_dec (u : Nat) : u < 18446744073709551616 → Lib.parseUint10 0 (Lib.decDigits u) = .ok u := by
  induction u using Nat.strongRecOn with
  | _ u ih =>
    intro h
    by_cases hs : u < 10
    · rw [Lib.decDigits, dif_pos hs]
      have e := dig_toNat u hs
      unfold Lib.parseUint10
      rw [e, if_pos (by omega), if_neg (by omega), if_neg (by omega)]
      unfold Lib.parseUint10
      congr 1
      omega
    · have e := dig_toNat (u % 10) (by omega)
      rw [Lib.decDigits, dif_neg hs, parse_snoc _ _ _ _ (ih (u / 10) (by omega) (by omega))]
      unfold Lib.parseUint10
      rw [e, if_pos (by omega), if_neg (by omega), if_neg (by omega)]
      unfold Lib.parseUint10
      congr 1
      omega
theorem dec_ne (u : Nat) : Lib.decDigits u ≠ [] := by
  intro h
  have := Lib.decDigits_length u
  have := Lib.nDigits_pos u
  rw [h] at *
  simp at *
  omega
theorem nv_dec (u : Nat) (h : u < 18446744073709551616) : nv (Lib.decDigits u) = u := by
  unfold nv
  rw [List.take_of_length_le (by have := dec_le u h; omega)]
  exact parse_fold _ 0 u (by omega) (parse_dec u h)
/-- A word that is a number's text is read as that number; of another word what is read, if anything, tells another text. -/
theorem read_num {s : List UInt8} (h : numB s = true) : Lib.parseUintB 64 s = .ok (nv s) ∧ Lib.decDigits (nv s) = s := by
  have h1 : Lib.decDigits (nv s) = s := by simpa [numB] using h
  refine ⟨?_, h1⟩
  rw [Lib.parseUintB_64]
  unfold Lib.parseMag
  have h2 := parse_dec (nv s) (nv_lt s)
  rw [h1] at h2
  rw [if_neg (fun e => dec_ne (nv s) (h1.trans e)), h2]
theorem read_not {s : List UInt8} (h : numB s = false) (u : Nat) (hp : Lib.parseUintB 64 s = .ok u) : u < 18446744073709551616 ∧ Lib.decDigits u ≠ s := by
  rw [Lib.parseUintB_64] at hp
  have hu := Lib.parseMag_lt hp
  refine ⟨hu, fun e => ?_⟩
  have h1 : nv s = u := by rw [← e]; exact nv_dec u hu
  have h2 : numB s = true := by
    unfold numB
    rw [h1]
    exact decide_eq_true e
  rw [h] at h2
  cases h2

/-! Numbers that are told. -/
theorem jnK_tail (x : Nat) (r : List Nat) : ∀ k, k ≤ r.length → jnK (x :: r) (k + 1) = Lib.decDigits x ++ Lib.joinTail [32] ((r.map Lib.decDigits).take k)
  | 0, _ => by simp [jnK, Lib.joinTail]
  | k + 1, h => by
    have hk : (r.map Lib.decDigits)[k]? = some (Lib.decDigits (r.getD k 0)) := by
      rw [List.getElem?_map, List.getElem?_eq_getElem (by omega), List.getD, List.getElem?_eq_getElem (by omega)]
      rfl
    rw [Lib.joinTail_take_succ _ _ _ _ hk, jnK, if_pos (by omega), jnK_tail x r k (by omega)]
    simp
theorem join_say (l : List Nat) (h : l ≠ []) : Lib.join (l.map Lib.decDigits) [32] = sayN l := by
  cases l with
  | nil => exact absurd rfl h
  | cons x r =>
    unfold sayN
    rw [if_neg (by simp), List.map_cons, Lib.join_cons, List.length_cons, jnK_tail x r r.length (Nat.le_refl _), List.take_of_length_le (by simp)]

end Go.Proofs.YtmggccepmicjhacGreatDoor

/-! What printError, printNumber, count, wordsOf and isSilent of package desk answer. -/
namespace Go.Proofs.YtmggccepmicjhacGreatDoor
open Go.RowKit
set_option maxRecDepth 100000

theorem desk_printError (n : Int) (h0 : 0 ≤ n) (h1 : n ≤ 100) (w : World) (ht : Tab w) :
    Calls Tryz.prog 6 #[.int .i64 n] w fun e w' => e = .returned (.string (bs (wrg n))) ∧ Below w.heap.size w w' := by
  have c := itoa_bs w n (by omega) (by omega) ht
  have hl := Lib.itoa_length_le n (by omega) (by omega)
  have hs : ({ data := #[101, 114, 114, 111, 114, 32] } : ByteArray) ++ bs (Lib.itoa n) = bs (wrg n) := bs_append [101, 114, 114, 111, 114, 32] _
  have hz : (bs (Lib.itoa n)).size ≤ 1000 := by rw [bs_size]; omega
  clear hl
  generalize bs (wrg n) = R at *
  generalize bs (Lib.itoa n) = S at *
  go_enter Tryz.func6, Tryz.ntmps6
  go_wp2_with (go_at_call 17; refine Calls.mono c ?_; rintro e w1 ⟨rfl, hb⟩; clear c)
  go_ret
  exact ⟨by simp, hb⟩
theorem desk_printNumber (u : Nat) (hu : u < 18446744073709551616) (w : World) (ht : Tab w) :
    Calls Tryz.prog 82 #[.int .u64 u] w fun e w' => e = .returned (.string (bs (Lib.decDigits u))) ∧ Below w.heap.size w w' := by
  have c := fmtu_bs u hu w ht
  generalize bs (Lib.decDigits u) = R at *
  clear hu
  go_enter Tryz.func82, Tryz.ntmps82
  go_wp2_with (go_at_call 61; refine Calls.mono c ?_; rintro e w1 ⟨rfl, hb⟩; clear c)
  go_ret
  exact ⟨rfl, hb⟩
theorem desk_count (n : Nat) (hn : (n : Int) < 18446744073709551616) (w : World) :
    Calls Tryz.prog 86 #[.int .u64 (n : Int)] w fun e w' => e = .returned (.int .i64 ((smN n : Nat) : Int)) ∧ w' = w := by
  have h1 : Hid (min (n : Int) 1000000000 = ((smN n : Nat) : Int)) := by
    show _ = _
    unfold smN
    split <;> omega
  have h2 := smN_le n
  generalize smN n = m at *
  go_enter Tryz.func86, Tryz.ntmps86
  go_wp2
  go_ret
  refine ⟨?_, rfl⟩
  show Ending.returned (.int .i64 (min (n : Int) 1000000000)) = _
  rw [h1.out]
theorem desk_blank (w : World) : PredAtRunes Tryz.prog 20 #[] (fun r => decide (r = 32)) w := fun W r _ _ => by
  unfold FnGives
  have hd : decide (r = 32) = ((r : Int) == 32) := by
    by_cases h : r = 32
    · subst h; rfl
    · rw [decide_eq_false h]
      symm
      rw [beq_eq_false_iff_ne]
      omega
  show Calls Tryz.prog 20 #[.int .i32 (r : Int)] W fun e w' => e = .returned (.bool (decide (r = 32))) ∧ ∃ q, w' = W.drewN q
  rw [hd]
  go_enter Tryz.func20, Tryz.ntmps20
  go_wp2
  go_ret
  exact ⟨rfl, 0, rfl⟩
theorem desk_wordsOf (w : World) (s : List UInt8) (h9 : s.length ≤ 4294967296) :
    Calls Tryz.prog 8 #[.string (bs s)] w fun e w' => ∃ u, e = .returned u ∧ OwB w.heap.size w' u (wds s) ∧ Below w.heap.size w w' := by
  have c := Tryz.strings_FieldsFunc_runes 20 #[] (enters_of Tryz.func20 (by kernel_rfl) rfl) (fun r => decide (r = 32)) (bs s) w (by rw [bs_size]; exact h9) (desk_blank w)
  have hf : Lib.goFieldsP (fun r => decide (r = 32)) (bs s) = (wds s).map fun l => bs l := fields_wds s
  rw [hf, List.length_map, List.map_map] at c
  have c' : Calls Tryz.prog 19 #[.string (bs s), .func (.func 20) #[] #[]] w fun e w' => ∃ u, e = .returned u ∧ OwB w.heap.size w' u (wds s) ∧ Below w.heap.size w w' := by
    refine c.mono ?_
    rintro e w' ⟨A, rfl, _, h1, h2⟩
    exact ⟨_, rfl, h1, h2⟩
  clear c hf
  generalize wds s = L at *
  generalize bs s = S at *
  go_enter Tryz.func8, Tryz.ntmps8
  go_wp2_with (go_at_call 19; refine Calls.mono c' ?_; rintro e w1 ⟨u, rfl, hO, hb⟩; clear c'; obtain ⟨a, cap, e⟩ := hO.isB.len; subst e)
  go_ret
  exact ⟨_, rfl, hO, hb⟩
/-- A line of these words is not answered. -/
def silB : List (List UInt8) → Bool
  | [] => true
  | v :: _ => decide (v.headD 0 = 35)
theorem hash_in (w : World) (c : UInt8) (r : List UInt8) :
    Calls Tryz.prog 39 #[.string (bs (c :: r)), .string { data := #[35] }] w fun e w' => e = .returned (.bool (decide (c = 35))) ∧ w' = w := by
  have h1 : (bs (c :: r)).size = r.length + 1 := by rw [bs_size, List.length_cons]
  have h2 : ({ data := #[35] } : ByteArray).size = 1 := rfl
  have h3 : (bs (c :: r)).extract 0 1 = bs [c] := bs_front [c] r
  have h4 : (bs [c]).toList = [c] := by rw [ByteArray.toList_eq]; rfl
  have h5 : ({ data := #[35] } : ByteArray).toList = [35] := by rw [ByteArray.toList_eq]
  have h6 : (([c] : List UInt8) == [35]) = decide (c = 35) := by
    by_cases h : c = 35
    · subst h; rfl
    · rw [decide_eq_false h, beq_eq_false_iff_ne]
      simpa using h
  have h7 : ((bs [c]).toList == [35]) = decide (c = 35) := by rw [h4]; exact h6
  have h8 : ((1 : Nat) : Int) ≤ ((r.length + 1 : Nat) : Int) := by omega
  have h9 : 1 ≤ r.length + 1 := by omega
  generalize decide (c = 35) = B at *
  generalize r.length + 1 = n at *
  generalize bs (c :: r) = S at *
  go_enter Tryz.func39, Tryz.ntmps39
  go_wp2
  go_ret
  exact ⟨by simp, rfl⟩
theorem hash_has (w : World) (c : UInt8) (r : List UInt8) :
    Calls Tryz.prog 21 #[.string (bs (c :: r)), .string { data := #[35] }] w fun e w' => e = .returned (.bool (decide (c = 35))) ∧ w' = w := by
  have c1 := hash_in w c r
  generalize bs (c :: r) = S at *
  generalize decide (c = 35) = B at *
  go_enter Tryz.func21, Tryz.ntmps21
  go_wp2_with (go_at_call 39; refine Calls.mono c1 ?_; rintro e w' ⟨rfl, hw⟩; rw [hw]; clear hw)
  go_ret
  exact ⟨rfl, rfl⟩
set_option maxHeartbeats 1000000 in
theorem desk_isSilent (w : World) (v : Value) (L : List (List UInt8)) (h : IsB w v L) (hne : ∀ l ∈ L, l ≠ []) :
    Calls Tryz.prog 9 #[v] w fun e w' => e = .returned (.bool (silB L)) ∧ w' = w := by
  obtain ⟨a, cap, rfl, h1, h2, hc⟩ := h
  cases L with
  | nil =>
    clear hc hne h1
    show Calls Tryz.prog 9 #[.slice a 0 cap] w fun e w' => e = .returned (.bool true) ∧ w' = w
    go_enter Tryz.func9, Tryz.ntmps9
    go_wp2
    go_ret
    exact ⟨rfl, rfl⟩
  | cons l L =>
    obtain ⟨b, off, rfl, hcell⟩ := hc 0 (by simp)
    have hl := hne l List.mem_cons_self
    obtain ⟨c, r, rfl⟩ : ∃ c r, l = c :: r := by
      cases l with
      | nil => exact absurd rfl hl
      | cons c r => exact ⟨c, r, rfl⟩
    have c1 := hash_has w c r
    have hz : (((L.length + 1 : Nat) : Int) == 0) = false := by rw [beq_eq_false_iff_ne]; omega
    have hlt : 0 < L.length + 1 := by omega
    replace hcell : w.cell? ⟨b, off, none⟩ = some (.string (bs (c :: r))) := hcell
    show Calls Tryz.prog 9 #[.slice (some ⟨b, off, none⟩) (L.length + 1) cap] w fun e w' => e = .returned (.bool (decide (c = 35))) ∧ w' = w
    clear hc hne h1 hl
    generalize L.length + 1 = n at *
    generalize bs (c :: r) = S at *
    generalize decide (c = 35) = B at *
    go_enter Tryz.func9, Tryz.ntmps9
    go_wp2_with (go_at_call 21; refine Calls.mono c1 ?_; rintro e w' ⟨rfl, hw⟩; rw [hw]; clear hw)
    go_ret
    exact ⟨rfl, rfl⟩

end Go.Proofs.YtmggccepmicjhacGreatDoor
