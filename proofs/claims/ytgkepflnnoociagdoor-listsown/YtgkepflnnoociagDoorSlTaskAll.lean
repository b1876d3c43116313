/-
  Texts that stood one behind the other, as one.
-/
import Derived.Test.YtgkepflnnoociagDoorRefInAll
import Derived.Lib.SliceRun
import Derived.Test.YtgkepflnnoociagDoorRefPlanAll
import Derived.Test.YtgkepflnnoociagDoorSlZAll
import Derived.Test.YtgkepflnnoociagDoorRows
import Derived.Test.YtgkepflnnoociagDoorSlAppAll
import Derived.BigQuiet
import Derived.Deep.RegionWith
import Derived.Deep.Cut
import Derived.Deep.AppendLies
import Derived.Deep.Upon
import Derived.Deep.RegionLaw
/-! What slices.Clone answers of a slice of tasks that has some: new memory that reads the same. -/
namespace Go.Proofs.YtgkepflnnoociagDoor
open Go.RowKit

theorem tc_cells {w : World} {a : Addr} {T : List (List Int)} (hT : T3 T) (h : ∀ i, i < T.length → ∀ j, j < 3 → w.cell? (a.add (i * 3 + j)) = some (.int .i64 ((T.getD i []).getD j 0))) : ∀ j u, (tc T)[j]? = some u → w.cell? (a.add j) = some u := by
  intro j u hj
  have hlt : j < T.length * 3 := by
    rw [← tc_length hT]
    rcases Nat.lt_or_ge j (tc T).length with q | q
    · exact q
    · rw [List.getElem?_eq_none q] at hj; cases hj
  have e : j = j / 3 * 3 + j % 3 := by omega
  have h1 := tc_get hT (j / 3) (j % 3) (by omega) (by omega)
  rw [← e, hj] at h1
  rw [e, h (j / 3) (by omega) (j % 3) (by omega), ← h1]
theorem tc_one' {T : List (List Int)} : ∀ u ∈ tc T, u.oneCell' = true := by
  intro u hu
  unfold tc at hu
  obtain ⟨r, _, hr⟩ := List.mem_flatMap.mp hu
  obtain ⟨z, _, rfl⟩ := List.mem_map.mp hr
  rfl

theorem wp_cloneT {ops : Array Oper} {rest : List Oper} {o : Oper} {a : Act} {Q : Exit → Act → World → Prop} {w : World} (hgd : o.guard = none) (s x : Operand)
    (ho : o.op = .call { callee := .builtin .append, args := #[s, x], argTypes := #[62, 62] }) (ad : Addr) (c : Nat) (T : List (List Int)) (hT : T3 T)
    (hs : a.eval s = .slice (some ⟨w.heap.size, 0, none⟩) 0 0) (hx : a.eval x = .slice (some ad) T.length c) (hn : 0 < T.length) (hb : T.length ≤ 1000000)
    (hnews : ∀ j u, (tc T)[j]? = some u → (w.alloc (.cells #[] 51)).cell? (ad.add j) = some u)
    (h : ∀ g cap w', w'.ownsRow w.heap.size 51 3 (.slice (some ⟨g, 0, none⟩) T.length cap) T.length (tc T) → Below w.heap.size w w' → wpList Tryd.prog ops Q rest (a.put o.dst (.slice (some ⟨g, 0, none⟩) T.length cap)) w') :
    wpList Tryd.prog ops Q (o :: rest) a (w.alloc (.cells #[] 51)) := by
  obtain ⟨i0, hi, hz0, hz1, hz2⟩ := info_3 info_task
  have hown := World.ownsRow_lit (base := w.heap.size) (e := 51) (size := 3) w #[] 0 (Nat.le_refl _) (by simp [maxLen]) rfl
  have hbl := below_alloc1 w (.cells #[] 51)
  refine wpList_append_lies _ hgd s x 62 ho w.heap.size 51 i0 (.agg #[.int .i64 0, .int .i64 0, .int .i64 0]) 3 24 Tryd.underlying62 hi hz0 hz1 hz2 rfl (by decide) _ 0 [] hs hown ad T.length c (tc T) hx (tc_length hT) hnews tc_one' hn ?_ ?_ ?_ _ rfl ?_
  · unfold maxLen; omega
  · omega
  · exact hbl.size
  · intro g cap w' hown' hgrow _ _
    rw [Nat.zero_add, List.nil_append] at hown'
    rw [Nat.zero_add]
    exact h g cap w' hown' (hbl.grown hgrow hbl.size (fun k hk => by simp [Value.ownBlock] at hk; omega))

set_option maxHeartbeats 1000000 in
theorem slices_CloneT (w : World) (v : Value) (T : List (List Int)) (h : IsR 3 w v T) (hn : 0 < T.length) (hb : T.length ≤ 1000000) :
    Calls Tryd.prog 39 #[v] w fun e w' => ∃ g cap, e = .returned (.slice (some ⟨g, 0, none⟩) T.length cap) ∧ w'.ownsRow w.heap.size 51 3 (.slice (some ⟨g, 0, none⟩) T.length cap) T.length (tc T) ∧ Below w.heap.size w w' := by
  have hT3 : T3 T := by obtain ⟨_, _, _, _, _, _, hr⟩ := h; exact hr
  obtain ⟨a, cap, rfl, hcap, hmax, hc, -⟩ := h
  obtain ⟨b, off, rfl, -⟩ := hc 0 hn
  have hcell : ∀ i, i < T.length → ∀ j, j < 3 → w.cell? ((⟨b, off, none⟩ : Addr).add (i * 3 + j)) = some (.int .i64 ((T.getD i []).getD j 0)) := fun i hi j hj => by
    obtain ⟨b', off', e, hce⟩ := hc i hi
    simp only [Option.some.injEq, Addr.mk.injEq, and_true] at e
    obtain ⟨rfl, rfl⟩ := e
    rw [Go.WideShapes.add_plain]
    exact hce j hj
  clear hc
  have hnil := fun (W : World) => Go.Lib.run_eql_slice_nil (P := Tryd.prog) W 62 51 (some ⟨b, off, none⟩) T.length cap 0 0 Tryd.underlying62
  go_enter Tryd.func39, Tryd.ntmps39
  have hnews := tc_cells (w := w.alloc (.cells #[] 51)) (a := ⟨b, off, none⟩) hT3 (fun i hi j hj => by
    have h1 := hcell i hi j hj
    rw [Go.WideShapes.add_plain] at h1 ⊢
    exact ((below_alloc1 w (.cells #[] 51)).cell (block_lt h1)).trans h1)
  clear hcell
  go_wp2_with (first
    | simp only [hnil]
    | (at_builtin; refine wp_cloneT rfl _ _ rfl ⟨b, off, none⟩ cap T hT3 rfl rfl hn hb hnews ?_; intro g c2 w2 hown hbl))
  go_ret
  exact ⟨g, c2, rfl, hown, hbl⟩

end Go.Proofs.YtgkepflnnoociagDoor

/-! A run of workers, pick by pick: who has which tasks, what was done, what the array is; no program in sight. -/
namespace Go.Proofs.YtgkepflnnoociagDoor

/-! ### Lists of lists -/
theorem flat_at {α : Type} (H : List (List α)) (v : Nat) (hv : v < H.length) : H.flatten = (H.take v).flatten ++ (H.getD v [] ++ (H.drop (v + 1)).flatten) := by
  have e : H = H.take v ++ (H.getD v [] :: H.drop (v + 1)) := by
    conv => lhs; rw [← List.take_append_drop v H, List.drop_eq_getElem_cons hv]
    simp [List.getD, List.getElem?_eq_getElem hv]
  conv => lhs; rw [e]
  rw [List.flatten_append, List.flatten_cons]
theorem flat_set {α : Type} (H : List (List α)) (v : Nat) (hv : v < H.length) (m : List α) : (H.set v m).flatten = (H.take v).flatten ++ (m ++ (H.drop (v + 1)).flatten) := by
  rw [List.set_eq_take_append_cons_drop, if_pos hv, List.flatten_append, List.flatten_cons]
theorem getD_set_self {α : Type} (H : List (List α)) (v : Nat) (hv : v < H.length) (m : List α) : (H.set v m).getD v [] = m := by
  simp [List.getD, hv]
theorem getD_set_ne {α : Type} (H : List (List α)) (v u : Nat) (h : v ≠ u) (m : List α) : (H.set v m).getD u [] = H.getD u [] := by
  simp [List.getD, List.getElem?_set_ne h]
theorem flat_last {α : Type} (H : List (List α)) (v : Nat) (hv : v < H.length) (m : List α) (t : α) (h : H.getD v [] = m ++ [t]) : (t :: (H.set v m).flatten).Perm H.flatten := by
  rw [flat_at H v hv, flat_set H v hv, h]
  have e : (H.take v).flatten ++ (m ++ [t] ++ (H.drop (v + 1)).flatten) = ((H.take v).flatten ++ m) ++ t :: (H.drop (v + 1)).flatten := by simp
  rw [e, ← List.append_assoc]
  exact List.perm_middle.symm
theorem flat_first {α : Type} (H : List (List α)) (v : Nat) (hv : v < H.length) (m : List α) (t : α) (h : H.getD v [] = t :: m) : (t :: (H.set v m).flatten).Perm H.flatten := by
  rw [flat_at H v hv, flat_set H v hv, h]
  have e : (H.take v).flatten ++ (t :: m ++ (H.drop (v + 1)).flatten) = (H.take v).flatten ++ t :: (m ++ (H.drop (v + 1)).flatten) := by simp
  rw [e]
  exact List.perm_middle.symm
theorem flat_add {α : Type} (H : List (List α)) (v : Nat) (hv : v < H.length) (t : α) : (H.set v (H.getD v [] ++ [t])).flatten.Perm (H.flatten ++ [t]) := by
  rw [flat_at H v hv, flat_set H v hv]
  have e1 : (H.take v).flatten ++ (H.getD v [] ++ [t] ++ (H.drop (v + 1)).flatten) = ((H.take v).flatten ++ H.getD v []) ++ t :: (H.drop (v + 1)).flatten := by simp
  have e2 : (H.take v).flatten ++ (H.getD v [] ++ (H.drop (v + 1)).flatten) ++ [t] = (((H.take v).flatten ++ H.getD v []) ++ (H.drop (v + 1)).flatten) ++ [t] := by simp
  rw [e1, e2]
  exact List.perm_middle.trans (List.perm_append_comm (l₁ := [t]))
theorem flat_mem {α : Type} (H : List (List α)) (v : Nat) (t : α) (h : t ∈ H.getD v []) : t ∈ H.flatten := by
  rcases Nat.lt_or_ge v H.length with hv | hv
  · rw [flat_at H v hv]
    exact List.mem_append_right _ (List.mem_append_left _ h)
  · simp [List.getD, List.getElem?_eq_none hv] at h
theorem flat_some {α : Type} (H : List (List α)) (h : 0 < H.flatten.length) : ∃ v, v < H.length ∧ H.getD v [] ≠ [] := by
  induction H with
  | nil => simp at h
  | cons m H ih =>
    by_cases hm : m = []
    · subst hm
      simp only [List.flatten_cons, List.nil_append] at h
      obtain ⟨v, hv, hn⟩ := ih h
      exact ⟨v + 1, by simp only [List.length_cons]; omega, by simpa using hn⟩
    · exact ⟨0, by simp, by simpa using hm⟩
theorem hits_append (A B : List (List Int)) (k : Nat) : hits (A ++ B) k = hits A k + hits B k := by
  unfold hits
  rw [List.map_append, List.sum_append]
theorem hits_perm {A B : List (List Int)} (h : A.Perm B) (k : Nat) : hits A k = hits B k := by
  unfold hits
  induction h with
  | nil => rfl
  | cons x _ ih => simp only [List.map_cons, List.sum_cons, ih]
  | swap x y l => simp only [List.map_cons, List.sum_cons]; omega
  | trans _ _ h1 h2 => exact h1.trans h2
theorem hits_mem {A : List (List Int)} {t : List Int} (h : t ∈ A) (k : Nat) : hit t k ≤ hits A k := by
  induction A with
  | nil => cases h
  | cons x A ih =>
    unfold hits at ih ⊢
    rw [List.map_cons, List.sum_cons]
    rcases List.mem_cons.mp h with h | h
    · subst h; omega
    · have := ih h; omega

/-! ### A run -/
structure Crw where
  A : List Nat
  hands : List (List (List Int))
  phase : Nat
  left : Nat
  did : List (List Int)
  fin : Bool

/-- The first k tasks of a phase are dealt. -/
def dealK (H : List (List (List Int))) (T : List (List Int)) : Nat → List (List (List Int))
  | 0 => H
  | k + 1 => (dealK H T k).set (k % H.length) ((dealK H T k).getD (k % H.length) [] ++ [T.getD k []])
theorem dealK_length (H : List (List (List Int))) (T : List (List Int)) (k : Nat) : (dealK H T k).length = H.length := by
  induction k with
  | zero => rfl
  | succ k ih => rw [dealK, List.length_set, ih]
theorem dealK_perm (H : List (List (List Int))) (T : List (List Int)) (hH : 0 < H.length) (k : Nat) (hk : k ≤ T.length) : (dealK H T k).flatten.Perm (H.flatten ++ T.take k) := by
  induction k with
  | zero => simp [dealK]
  | succ k ih =>
    rw [dealK]
    refine (flat_add _ _ (by rw [dealK_length]; exact Nat.mod_lt _ hH) _).trans ?_
    rw [List.take_add_one, List.getElem?_eq_getElem hk, ← List.append_assoc]
    have e : T.getD k [] = T[k] := by simp [List.getD, List.getElem?_eq_getElem hk]
    rw [e]
    exact (ih (by omega)).append_right _
def dealt (L : List (List (List Int))) (c : Crw) : Crw :=
  if L.length ≤ c.phase then { c with fin := true } else { c with hands := dealK c.hands (L.getD c.phase []) (L.getD c.phase []).length, left := (L.getD c.phase []).length }
def crew0 (L : List (List (List Int))) (xs : List Nat) (W : Nat) : Crw := dealt L ⟨xs, List.replicate W [], 0, 0, [], false⟩
/-- The array with the lines of a task transformed. -/
def tr1 (ds : List Nat) (back : Bool) (A : List Nat) (t : List Int) : List Nat := trn ds A (t.getD 0 0).toNat (t.getD 1 0).toNat (t.getD 2 0).toNat back
/-- Task t is done, and the hands are H then. -/
def done1 (ds : List Nat) (back : Bool) (L : List (List (List Int))) (c : Crw) (H : List (List (List Int))) (t : List Int) : Crw :=
  if c.left - 1 = 0 then dealt L { c with hands := H, A := tr1 ds back c.A t, did := c.did ++ [t], left := c.left - 1, phase := c.phase + 1 }
  else { c with hands := H, A := tr1 ds back c.A t, did := c.did ++ [t], left := c.left - 1 }
def step1 (ds : List Nat) (back : Bool) (L : List (List (List Int))) (c : Crw) (v u : Nat) : Crw :=
  if c.hands.getD v [] ≠ [] then done1 ds back L c (c.hands.set v (c.hands.getD v []).dropLast) ((c.hands.getD v []).getLastD [])
  else if c.hands.getD u [] ≠ [] then done1 ds back L c (c.hands.set u (c.hands.getD u []).tail) ((c.hands.getD u []).headD [])
  else c
/-- A pick, and what is told. -/
def pickE (c : Crw) (pv pu : Int) : Int := if c.fin then 6 else if 0 ≤ pv ∧ pv < (c.hands.length : Int) ∧ 0 ≤ pu ∧ pu < (c.hands.length : Int) then 0 else 1
def pickC (ds : List Nat) (back : Bool) (L : List (List (List Int))) (c : Crw) (pv pu : Int) : Crw := if pickE c pv pu = 0 then step1 ds back L c pv.toNat pu.toNat else c

/-- The array ahead of phase x. -/
def cur (ds xs : List Nat) (back : Bool) (x : Nat) : List Nat := if x = 0 then xs else mk (prd2 ds) (who ds back (cf xs) x)
theorem cur_length {ds xs : List Nat} (hl : xs.length = prd2 ds) (back : Bool) (x : Nat) : (cur ds xs back x).length = prd2 ds := by
  unfold cur
  split
  · exact hl
  · exact mk_length _ _
theorem cur_cf {ds xs : List Nat} (back : Bool) (x i : Nat) (hi : i < prd2 ds) : cf (cur ds xs back x) i = who ds back (cf xs) x i := by
  unfold cur
  split
  · next h => rw [h, who_zero]
  · rw [cf_mk, if_pos hi]
theorem cur_succ {ds xs : List Nat} (h : Shp ds) (back : Bool) (x : Nat) (hx : x < ds.length) : mk (prd2 ds) (alo ds x back (cf (cur ds xs back x))) = cur ds xs back (x + 1) := by
  conv => rhs; unfold cur
  rw [if_neg (by omega)]
  refine mk_congr fun p hp => ?_
  rw [who_succ]
  exact alo_congr h x hx back (fun i hi => cur_cf back x i hi) p hp

/-- What holds at any time. -/
structure CInv (ds : List Nat) (L : List (List (List Int))) (xs : List Nat) (W : Nat) (back : Bool) (c : Crw) (P : List (List (List Int))) (dn : List (List Int)) : Prop where
  w : c.hands.length = W
  ph : c.phase ≤ L.length
  fin : c.fin = decide (c.phase = L.length)
  lft : c.left = c.hands.flatten.length
  pl : P.length = c.phase
  pp : ∀ i, i < c.phase → (P.getD i []).Perm (L.getD i [])
  did : c.did = P.flatten ++ dn
  prm : c.phase < L.length → (dn ++ c.hands.flatten).Perm (L.getD c.phase [])
  some : c.phase < L.length → 0 < c.left
  none : c.phase = L.length → dn = [] ∧ c.hands.flatten = []
  arr : c.phase < L.length → c.A = trS ds (cur ds xs back c.phase) c.phase back (fun i => decide (0 < hits dn i))
  arrE : c.phase = L.length → c.A = cur ds xs back c.phase

theorem rgt_some {n x : Nat} {T : List (List Int)} (h : RgtP n x T) (hn : 0 < n) : 0 < T.length := by
  have := h.2 0 hn
  have h2 := hits_le T 0
  omega
theorem nln_pos {ds : List Nat} (h : Shp ds) (x : Nat) : 0 < nln ds x := by
  unfold nln
  exact Nat.mul_pos (beh_pos h _) (prd2_pos fun d hd => h.pos d (List.mem_of_mem_take hd))

section
variable {ds : List Nat} {L : List (List (List Int))} {xs : List Nat} {W : Nat} {back : Bool}

/-- A phase is dealt to empty hands. -/
theorem CInv.deal {c : Crw} {P : List (List (List Int))} (hS : Shp ds) (hF : Fine ds L) (hW : 0 < W) (hw : c.hands.length = W) (hph : c.phase ≤ L.length) (hfin : c.fin = false) (hle : c.left = 0) (hem : c.hands.flatten = []) (hpl : P.length = c.phase)
    (hpp : ∀ i, i < c.phase → (P.getD i []).Perm (L.getD i [])) (hdid : c.did = P.flatten) (hl : xs.length = prd2 ds) (hA : c.A = cur ds xs back c.phase) : CInv ds L xs W back (dealt L c) P [] := by
  unfold dealt
  by_cases h : L.length ≤ c.phase
  · rw [if_pos h]
    have e : c.phase = L.length := by omega
    exact ⟨hw, hph, by simp [e], by rw [hle, hem]; rfl, hpl, hpp, by rw [List.append_nil]; exact hdid, fun h2 => by simp only at h2; omega, fun h2 => by simp only at h2; omega, fun _ => ⟨rfl, hem⟩, fun h2 => by simp only at h2; omega, fun _ => hA⟩
  · rw [if_neg h]
    have hx : c.phase < ds.length := by rw [← hF.1]; omega
    have hR := hF.2 c.phase hx
    have hp := dealK_perm c.hands (L.getD c.phase []) (by omega) _ (Nat.le_refl _)
    rw [List.take_length, hem, List.nil_append] at hp
    refine ⟨by simp only [dealK_length]; exact hw, hph, ?_, hp.length_eq.symm, hpl, hpp, by rw [List.append_nil]; exact hdid, fun _ => by rw [List.nil_append]; exact hp, fun _ => rgt_some hR (nln_pos hS _), fun e => by simp only at e; omega, fun _ => ?_, fun e => by simp only at e; omega⟩
    · simp only [hfin]
      rw [decide_eq_false (by omega)]
    · have e : (fun i => decide (0 < hits [] i)) = fun _ => false := by funext i; simp [hits]
      rw [e, trS_none (cur_length hl back _)]
      exact hA
theorem CInv.start (hS : Shp ds) (hF : Fine ds L) (hW : 0 < W) (hl : xs.length = prd2 ds) : CInv ds L xs W back (crew0 L xs W) [] [] :=
  CInv.deal hS hF hW (by simp) (Nat.zero_le _) rfl rfl (by simp) rfl (fun i hi => by simp at hi) rfl hl (by simp [cur])

/-- A task that is to be done is a right one. -/
theorem CInv.task {c : Crw} {P : List (List (List Int))} {dn : List (List Int)} (h : CInv ds L xs W back c P dn) (hF : Fine ds L) {t : List Int} (ht : t ∈ c.hands.flatten) : c.phase < L.length ∧ c.phase < ds.length ∧ Vld (nln ds c.phase) c.phase t := by
  have hp : c.phase < L.length := by
    rcases Nat.lt_or_ge c.phase L.length with q | q
    · exact q
    · rw [(h.none (Nat.le_antisymm h.ph q)).2] at ht; cases ht
  have hx : c.phase < ds.length := by rw [← hF.1]; exact hp
  exact ⟨hp, hx, (hF.2 _ hx).1 t ((h.prm hp).mem_iff.mp (List.mem_append_right _ ht))⟩
theorem CInv.done {c : Crw} {P : List (List (List Int))} {dn : List (List Int)} (h : CInv ds L xs W back c P dn) (hS : Shp ds) (hF : Fine ds L) (hW : 0 < W) (hl : xs.length = prd2 ds) {t : List Int} {H : List (List (List Int))} (hH : H.length = W) (hp : (t :: H.flatten).Perm c.hands.flatten) :
    ∃ P' dn', CInv ds L xs W back (done1 ds back L c H t) P' dn' ∧ (done1 ds back L c H t).did = c.did ++ [t] := by
  have ht : t ∈ c.hands.flatten := hp.mem_iff.mp (by simp)
  obtain ⟨hpl, hpx, hv⟩ := h.task hF ht
  have hR := hF.2 _ hpx
  have hlen : c.left = H.flatten.length + 1 := by rw [h.lft, ← hp.length_eq]; rfl
  have hprm : (dn ++ [t] ++ H.flatten).Perm (L.getD c.phase []) := by
    refine List.Perm.trans ?_ (h.prm hpl)
    rw [List.append_assoc]
    exact (List.Perm.refl dn).append hp
  obtain ⟨v1, v2, v3, v4⟩ := hv
  have hA : tr1 ds back c.A t = trS ds (cur ds xs back c.phase) c.phase back (fun i => decide (0 < hits (dn ++ [t]) i)) := by
    unfold tr1
    rw [h.arr hpl, v1, Int.toNat_natCast, trS_step hS _ _ hpx]
    · congr 1
      funext i
      rw [hits_append]
      have e : hits [t] i = hit t i := by simp [hits]
      rw [e]
      unfold hit
      by_cases h1 : t.getD 1 0 ≤ (i : Int) ∧ (i : Int) < t.getD 2 0
      · rw [if_pos h1, decide_eq_true (by omega : (t.getD 1 0).toNat ≤ i), decide_eq_true (by omega : i < (t.getD 2 0).toNat), decide_eq_true (by omega : 0 < hits dn i + 1)]
        simp
      · rw [if_neg h1, Nat.add_zero]
        by_cases h2 : (t.getD 1 0).toNat ≤ i
        · rw [decide_eq_false (by omega : ¬ i < (t.getD 2 0).toNat)]; simp
        · rw [decide_eq_false h2]; simp
    · intro i h1 h2
      have e1 := hR.2 i (by omega)
      rw [← hits_perm hprm i, hits_append, hits_append] at e1
      have e2 : hits [t] i = 1 := by
        simp only [hits, hit, List.map_cons, List.map_nil, List.sum_cons, List.sum_nil]
        rw [if_pos (by omega)]; rfl
      exact decide_eq_false (by omega)
  unfold done1
  by_cases h0 : c.left - 1 = 0
  · rw [if_pos h0]
    have hem : H.flatten = [] := List.eq_nil_of_length_eq_zero (by omega)
    rw [hem, List.append_nil] at hprm
    have hd : (dealt L { c with hands := H, A := tr1 ds back c.A t, did := c.did ++ [t], left := c.left - 1, phase := c.phase + 1 }).did = c.did ++ [t] := by
      unfold dealt; split <;> rfl
    refine ⟨P ++ [dn ++ [t]], [], CInv.deal hS hF hW hH (by simp only; omega) (by simp only [h.fin]; exact decide_eq_false (by omega)) h0 hem (by simp [h.pl]) (fun i hi => ?_) ?_ hl ?_, hd⟩
    · simp only at hi
      by_cases e : i < c.phase
      · have e1 : (P ++ [dn ++ [t]]).getD i [] = P.getD i [] := by simp [List.getD, List.getElem?_append_left (show i < P.length by rw [h.pl]; exact e)]
        rw [e1]; exact h.pp i e
      · have e2 : i = c.phase := by omega
        have e1 : (P ++ [dn ++ [t]]).getD i [] = dn ++ [t] := by rw [e2, ← h.pl]; simp [List.getD]
        rw [e1, e2]; exact hprm
    · simp only [h.did, List.flatten_append, List.flatten_cons, List.flatten_nil, List.append_nil, List.append_assoc]
    · simp only
      rw [hA, trS_all hS _ _ hpx back _ (fun i hi => by rw [hits_perm hprm i, hR.2 i hi]; rfl), cur_succ hS back _ hpx]
  · rw [if_neg h0]
    refine ⟨P, dn ++ [t], ⟨hH, h.ph, h.fin, by simp only; omega, h.pl, h.pp, by simp only [h.did, List.append_assoc], fun _ => hprm, fun _ => by simp only; omega, fun e => by simp only at e; omega, fun _ => hA, fun e => by simp only at e; omega⟩, rfl⟩

theorem last_of {α : Type} {m : List α} (d : α) (h : m ≠ []) : m = m.dropLast ++ [m.getLastD d] := by
  have e : m.getLastD d = m.getLast h := by
    cases m with
    | nil => exact absurd rfl h
    | cons a m => rfl
  rw [e, List.dropLast_concat_getLast]
theorem first_of {α : Type} {m : List α} (d : α) (h : m ≠ []) : m = m.headD d :: m.tail := by
  cases m with
  | nil => exact absurd rfl h
  | cons a m => rfl
/-- A worker goes on. -/
theorem CInv.step {c : Crw} {P : List (List (List Int))} {dn : List (List Int)} (h : CInv ds L xs W back c P dn) (hS : Shp ds) (hF : Fine ds L) (hW : 0 < W) (hl : xs.length = prd2 ds) {v u : Nat} (hv : v < W) (hu : u < W) :
    ∃ P' dn', CInv ds L xs W back (step1 ds back L c v u) P' dn' ∧ ((step1 ds back L c v u = c ∧ c.hands.getD v [] = []) ∨ ∃ t, (step1 ds back L c v u).did = c.did ++ [t]) := by
  unfold step1
  by_cases h1 : c.hands.getD v [] ≠ []
  · rw [if_pos h1]
    have e := last_of [] h1
    obtain ⟨P', dn', h2, h3⟩ := h.done hS hF hW hl (t := (c.hands.getD v []).getLastD []) (H := c.hands.set v (c.hands.getD v []).dropLast) (by rw [List.length_set]; exact h.w) (flat_last c.hands v (by rw [h.w]; exact hv) _ _ e)
    exact ⟨P', dn', h2, .inr ⟨_, h3⟩⟩
  · rw [if_neg h1]
    by_cases h2 : c.hands.getD u [] ≠ []
    · rw [if_pos h2]
      have e := first_of [] h2
      obtain ⟨P', dn', h3, h4⟩ := h.done hS hF hW hl (t := (c.hands.getD u []).headD []) (H := c.hands.set u (c.hands.getD u []).tail) (by rw [List.length_set]; exact h.w) (flat_first c.hands u (by rw [h.w]; exact hu) _ _ e)
      exact ⟨P', dn', h3, .inr ⟨_, h4⟩⟩
    · rw [if_neg h2]
      exact ⟨P, dn, h, .inl ⟨rfl, by simpa using h1⟩⟩
theorem CInv.pick {c : Crw} {P : List (List (List Int))} {dn : List (List Int)} (h : CInv ds L xs W back c P dn) (hS : Shp ds) (hF : Fine ds L) (hW : 0 < W) (hl : xs.length = prd2 ds) (pv pu : Int) :
    ∃ P' dn', CInv ds L xs W back (pickC ds back L c pv pu) P' dn' ∧ (pickC ds back L c pv pu = c ∨ ∃ t, (pickC ds back L c pv pu).did = c.did ++ [t]) := by
  unfold pickC
  by_cases h0 : pickE c pv pu = 0
  · rw [if_pos h0]
    have hb : 0 ≤ pv ∧ pv < (c.hands.length : Int) ∧ 0 ≤ pu ∧ pu < (c.hands.length : Int) := by
      unfold pickE at h0
      split at h0
      · cases h0
      · split at h0
        · assumption
        · cases h0
    rw [h.w] at hb
    obtain ⟨P', dn', h1, h2⟩ := h.step hS hF hW hl (v := pv.toNat) (u := pu.toNat) (by omega) (by omega)
    exact ⟨P', dn', h1, h2.imp (fun q => q.1) id⟩
  · rw [if_neg h0]
    exact ⟨P, dn, h, .inl rfl⟩

/-! ### How many are done -/
theorem CInv.count {c : Crw} {P : List (List (List Int))} {dn : List (List Int)} (h : CInv ds L xs W back c P dn) : c.did.length = (L.take c.phase).flatten.length + dn.length := by
  have e : P.map List.length = (L.take c.phase).map List.length := by
    apply List.ext_getElem
    · simp only [List.length_map, h.pl, List.length_take]
      have := h.ph
      omega
    · intro i h1 h2
      simp only [List.length_map] at h1 h2
      have hi : i < c.phase := by rw [← h.pl]; exact h1
      have hL : i < L.length := by have := h.ph; omega
      have := (h.pp i hi).length_eq
      simp only [List.getD, List.getElem?_eq_getElem h1, List.getElem?_eq_getElem hL, Option.getD_some] at this
      simp only [List.getElem_map, List.getElem_take]
      exact this
  rw [h.did, List.length_append, List.length_flatten, e, ← List.length_flatten]
theorem CInv.room {c : Crw} {P : List (List (List Int))} {dn : List (List Int)} (h : CInv ds L xs W back c P dn) : (c.phase < L.length → c.did.length < L.flatten.length ∧ dn.length + c.left = (L.getD c.phase []).length) ∧ (c.phase = L.length → c.did.length = L.flatten.length) := by
  constructor
  · intro hp
    have h1 := (h.prm hp).length_eq
    rw [List.length_append, ← h.lft] at h1
    have h2 := h.some hp
    have h3 := congrArg List.length (flat_at L c.phase hp)
    simp only [List.length_append] at h3
    rw [h.count]
    exact ⟨by omega, h1⟩
  · intro hp
    rw [h.count, hp, List.take_length, (h.none hp).1]; rfl
theorem CInv.left {c : Crw} {P : List (List (List Int))} {dn : List (List Int)} (h : CInv ds L xs W back c P dn) (hp : c.phase = L.length) : c.left = 0 := by
  rw [h.lft, (h.none hp).2]; rfl
theorem CInv.ended {c : Crw} {P : List (List (List Int))} {dn : List (List Int)} (h : CInv ds L xs W back c P dn) (hc : L.flatten.length ≤ c.did.length) : c.phase = L.length ∧ c.fin = true := by
  have hp : c.phase = L.length := by
    rcases Nat.lt_or_ge c.phase L.length with q | q
    · have := (h.room.1 q).1; omega
    · exact Nat.le_antisymm h.ph q
  exact ⟨hp, by rw [h.fin]; exact decide_eq_true hp⟩
theorem CInv.whole {c : Crw} {P : List (List (List Int))} {dn : List (List Int)} (h : CInv ds L xs W back c P dn) (hF : Fine ds L) (h1 : 1 ≤ ds.length) (hp : c.phase = L.length) : c.A = Go.Proofs.YtgkepflnnoociagDoor.mk (prd2 ds) (who ds back (cf xs) ds.length) := by
  rw [h.arrE hp, hp, hF.1]
  unfold cur
  rw [if_neg (by omega)]

/-! ### Each worker in turn -/
/-- The first k workers go on, each of which may steal from the next one. -/
def roundK (ds : List Nat) (back : Bool) (L : List (List (List Int))) (W : Nat) (c : Crw) : Nat → Crw
  | 0 => c
  | k + 1 => pickC ds back L (roundK ds back L W c k) (k : Int) (((k + 1) % W : Nat) : Int)
def rounds (ds : List Nat) (back : Bool) (L : List (List (List Int))) (W : Nat) (c : Crw) : Nat → Crw
  | 0 => c
  | n + 1 => roundK ds back L W (rounds ds back L W c n) W
theorem CInv.roundK {c : Crw} {P : List (List (List Int))} {dn : List (List Int)} (h : CInv ds L xs W back c P dn) (hS : Shp ds) (hF : Fine ds L) (hW : 0 < W) (hl : xs.length = prd2 ds) (k : Nat) :
    ∃ P' dn', CInv ds L xs W back (roundK ds back L W c k) P' dn' ∧ (Go.Proofs.YtgkepflnnoociagDoor.roundK ds back L W c k = c ∨ c.did.length < (Go.Proofs.YtgkepflnnoociagDoor.roundK ds back L W c k).did.length) := by
  induction k with
  | zero => exact ⟨P, dn, h, .inl rfl⟩
  | succ k ih =>
    obtain ⟨P1, dn1, h1, h2⟩ := ih
    obtain ⟨P2, dn2, h3, h4⟩ := h1.pick hS hF hW hl (k : Int) (((k + 1) % W : Nat) : Int)
    refine ⟨P2, dn2, h3, ?_⟩
    rw [Go.Proofs.YtgkepflnnoociagDoor.roundK]
    rcases h4 with e | ⟨t, e⟩
    · rw [e]; exact h2
    · right
      rw [e, List.length_append, List.length_singleton]
      rcases h2 with h2 | h2
      · rw [h2]; omega
      · omega
theorem CInv.round {c : Crw} {P : List (List (List Int))} {dn : List (List Int)} (h : CInv ds L xs W back c P dn) (hS : Shp ds) (hF : Fine ds L) (hW : 0 < W) (hl : xs.length = prd2 ds) :
    ∃ P' dn', CInv ds L xs W back (Go.Proofs.YtgkepflnnoociagDoor.roundK ds back L W c W) P' dn' ∧ (c.phase < L.length → c.did.length < (Go.Proofs.YtgkepflnnoociagDoor.roundK ds back L W c W).did.length) ∧ c.did.length ≤ (Go.Proofs.YtgkepflnnoociagDoor.roundK ds back L W c W).did.length := by
  obtain ⟨P', dn', h1, h2⟩ := h.roundK hS hF hW hl W
  refine ⟨P', dn', h1, fun hp => ?_, ?_⟩
  · rcases h2 with e | e
    · exfalso
      have hs := h.some hp
      rw [h.lft] at hs
      obtain ⟨j, hj, hne⟩ := flat_some c.hands hs
      rw [h.w] at hj
      have hmono : ∀ k m, k ≤ m → (Go.Proofs.YtgkepflnnoociagDoor.roundK ds back L W c k).did.length ≤ (Go.Proofs.YtgkepflnnoociagDoor.roundK ds back L W c m).did.length := by
        intro k m hkm
        induction m with
        | zero => obtain rfl : k = 0 := by omega
                  exact Nat.le_refl _
        | succ m ih =>
          rcases Nat.lt_or_ge k (m + 1) with q | q
          · obtain ⟨P1, dn1, h3, _⟩ := h.roundK hS hF hW hl m
            obtain ⟨_, _, _, h4⟩ := h3.pick hS hF hW hl (m : Int) (((m + 1) % W : Nat) : Int)
            have h5 := ih (by omega)
            rw [Go.Proofs.YtgkepflnnoociagDoor.roundK]
            rcases h4 with e4 | ⟨t, e4⟩
            · rw [e4]; exact h5
            · rw [e4, List.length_append]; omega
          · obtain rfl : k = m + 1 := by omega
            exact Nat.le_refl _
      have hall : ∀ k, k ≤ W → Go.Proofs.YtgkepflnnoociagDoor.roundK ds back L W c k = c := by
        intro k hk
        obtain ⟨_, _, _, h4⟩ := h.roundK hS hF hW hl k
        rcases h4 with e4 | e4
        · exact e4
        · have := hmono k W hk
          rw [e] at this
          omega
      have hj1 := hall (j + 1) hj
      rw [Go.Proofs.YtgkepflnnoociagDoor.roundK, hall j (by omega)] at hj1
      have hf : c.fin = false := by rw [h.fin]; exact decide_eq_false (by omega)
      have hm : (j + 1) % W < W := Nat.mod_lt _ hW
      have hE : pickE c (j : Int) (((j + 1) % W : Nat) : Int) = 0 := by
        unfold pickE
        rw [hf, if_neg (by simp), h.w, if_pos (by omega)]
      unfold pickC at hj1
      rw [if_pos hE, Int.toNat_natCast, Int.toNat_natCast] at hj1
      obtain ⟨_, _, _, h6⟩ := h.step hS hF hW hl hj hm
      rcases h6 with ⟨_, h6⟩ | ⟨t, h6⟩
      · exact hne h6
      · rw [hj1] at h6
        have := congrArg List.length h6
        rw [List.length_append, List.length_singleton] at this
        omega
    · exact e
  · rcases h2 with e | e
    · rw [e]; exact Nat.le_refl _
    · omega
theorem CInv.rounds {c : Crw} {P : List (List (List Int))} {dn : List (List Int)} (h : CInv ds L xs W back c P dn) (hS : Shp ds) (hF : Fine ds L) (hW : 0 < W) (hl : xs.length = prd2 ds) (n : Nat) :
    ∃ P' dn', CInv ds L xs W back (Go.Proofs.YtgkepflnnoociagDoor.rounds ds back L W c n) P' dn' ∧ (n ≤ (Go.Proofs.YtgkepflnnoociagDoor.rounds ds back L W c n).did.length ∨ (Go.Proofs.YtgkepflnnoociagDoor.rounds ds back L W c n).phase = L.length) := by
  induction n with
  | zero => exact ⟨P, dn, h, .inl (Nat.zero_le _)⟩
  | succ n ih =>
    obtain ⟨P1, dn1, h1, h2⟩ := ih
    obtain ⟨P2, dn2, h3, h4, h5⟩ := h1.round hS hF hW hl
    refine ⟨P2, dn2, h3, ?_⟩
    rw [Go.Proofs.YtgkepflnnoociagDoor.rounds]
    rcases Nat.lt_or_ge (Go.Proofs.YtgkepflnnoociagDoor.rounds ds back L W c n).phase L.length with q | q
    · rcases h2 with h2 | h2
      · left; have := h4 q; omega
      · omega
    · right
      have e : (Go.Proofs.YtgkepflnnoociagDoor.rounds ds back L W c n).phase = L.length := Nat.le_antisymm h1.ph q
      have e2 := h1.room.2 e
      exact (h3.ended (by omega)).1
/-- Within as many turns as there are tasks all is done. -/
theorem CInv.ends {c : Crw} {P : List (List (List Int))} {dn : List (List Int)} (h : CInv ds L xs W back c P dn) (hS : Shp ds) (hF : Fine ds L) (hW : 0 < W) (hl : xs.length = prd2 ds) (h1 : 1 ≤ ds.length) (n : Nat) (hn : L.flatten.length ≤ n) :
    (Go.Proofs.YtgkepflnnoociagDoor.rounds ds back L W c n).fin = true ∧ (Go.Proofs.YtgkepflnnoociagDoor.rounds ds back L W c n).A = Go.Proofs.YtgkepflnnoociagDoor.mk (prd2 ds) (who ds back (cf xs) ds.length) := by
  obtain ⟨P', dn', h2, h3⟩ := h.rounds hS hF hW hl n
  have hp : (Go.Proofs.YtgkepflnnoociagDoor.rounds ds back L W c n).phase = L.length := by
    rcases h3 with h3 | h3
    · exact (h2.ended (by omega)).1
    · exact h3
  exact ⟨by rw [h2.fin]; exact decide_eq_true hp, h2.whole hF h1 hp⟩

/-! ### Each task once -/
theorem apart_of_hits {n x : Nat} {T : List (List Int)} (hv : ∀ r ∈ T, Vld n x r) (hh : ∀ k, k < n → hits T k ≤ 1) : T.Pairwise (fun a b => a.getD 0 0 ≤ b.getD 0 0 ∧ a ≠ b) := by
  induction T with
  | nil => exact List.Pairwise.nil
  | cons r T ih =>
    have hr := hv r (by simp)
    refine List.Pairwise.cons (fun b hb => ⟨?_, fun e => ?_⟩) (ih (fun q hq => hv q (List.mem_cons_of_mem _ hq)) fun k hk => ?_)
    · rw [hr.1, (hv b (List.mem_cons_of_mem _ hb)).1]; exact Int.le_refl _
    · subst e
      obtain ⟨v1, v2, v3, v4⟩ := hr
      have hk : (r.getD 1 0).toNat < n := by omega
      have h1 := hh _ hk
      have h2 := hits_mem hb (r.getD 1 0).toNat
      have h3 : hit r (r.getD 1 0).toNat = 1 := by unfold hit; rw [if_pos (by omega)]
      unfold hits at h1 h2
      rw [List.map_cons, List.sum_cons] at h1
      omega
    · have h1 := hh k hk
      unfold hits at h1 ⊢
      rw [List.map_cons, List.sum_cons] at h1
      omega
theorem CInv.log {c : Crw} {P : List (List (List Int))} {dn : List (List Int)} (h : CInv ds L xs W back c P dn) (hF : Fine ds L) :
    c.did.Pairwise (fun a b => a.getD 0 0 ≤ b.getD 0 0 ∧ a ≠ b) ∧ ∀ t ∈ c.did, ∃ x : Nat, x < L.length ∧ t.getD 0 0 = (x : Int) ∧ t ∈ L.getD x [] := by
  have hP : ∀ i, i < c.phase → (∀ r ∈ P.getD i [], Vld (nln ds i) i r ∧ r ∈ L.getD i []) ∧ (P.getD i []).Pairwise (fun a b => a.getD 0 0 ≤ b.getD 0 0 ∧ a ≠ b) := fun i hi => by
    have hx : i < ds.length := by rw [← hF.1]; have := h.ph; omega
    have hR := hF.2 i hx
    have hm : ∀ r ∈ P.getD i [], Vld (nln ds i) i r ∧ r ∈ L.getD i [] := fun r hr => by
      have := (h.pp i hi).mem_iff.mp hr
      exact ⟨hR.1 r this, this⟩
    exact ⟨hm, apart_of_hits (fun r hr => (hm r hr).1) fun k hk => by rw [hits_perm (h.pp i hi) k, hR.2 k hk]; exact Nat.le_refl _⟩
  have hD : (∀ r ∈ dn, c.phase < L.length ∧ Vld (nln ds c.phase) c.phase r ∧ r ∈ L.getD c.phase []) ∧ dn.Pairwise (fun a b => a.getD 0 0 ≤ b.getD 0 0 ∧ a ≠ b) := by
    rcases Nat.lt_or_ge c.phase L.length with q | q
    · have hx : c.phase < ds.length := by rw [← hF.1]; exact q
      have hR := hF.2 _ hx
      have hm : ∀ r ∈ dn, Vld (nln ds c.phase) c.phase r ∧ r ∈ L.getD c.phase [] := fun r hr => by
        have := (h.prm q).mem_iff.mp (List.mem_append_left _ hr)
        exact ⟨hR.1 r this, this⟩
      refine ⟨fun r hr => ⟨q, hm r hr⟩, apart_of_hits (fun r hr => (hm r hr).1) fun k hk => ?_⟩
      have := hR.2 k hk
      rw [← hits_perm (h.prm q) k, hits_append] at this
      omega
    · rw [(h.none (Nat.le_antisymm h.ph q)).1]
      exact ⟨fun r hr => absurd hr (by simp), List.Pairwise.nil⟩
  have hget : ∀ l ∈ P, ∃ i, i < c.phase ∧ l = P.getD i [] := fun l hl => by
    obtain ⟨i, hi, rfl⟩ := List.mem_iff_getElem.mp hl
    exact ⟨i, by rw [← h.pl]; exact hi, by simp [List.getD, hi]⟩
  constructor
  · rw [h.did, List.pairwise_append]
    refine ⟨?_, hD.2, fun a ha b hb => ?_⟩
    · rw [List.pairwise_flatten]
      refine ⟨fun l hl => ?_, ?_⟩
      · obtain ⟨i, hi, rfl⟩ := hget l hl
        exact (hP i hi).2
      · rw [List.pairwise_iff_getElem]
        intro i j hi hj hij a ha b hb
        have hj' : j < c.phase := by rw [← h.pl]; exact hj
        have e1 : P[i] = P.getD i [] := by simp [List.getD, hi]
        have e2 : P[j] = P.getD j [] := by simp [List.getD, hj]
        rw [e1] at ha
        rw [e2] at hb
        have v1 := ((hP i (by omega)).1 a ha).1.1
        have v2 := ((hP j hj').1 b hb).1.1
        exact ⟨by rw [v1, v2]; omega, fun e => by rw [e, v2] at v1; omega⟩
    · obtain ⟨l, hl, ha⟩ := List.mem_flatten.mp ha
      obtain ⟨i, hi, rfl⟩ := hget l hl
      have v1 := ((hP i hi).1 a ha).1.1
      have v2 := (hD.1 b hb).2.1.1
      exact ⟨by rw [v1, v2]; omega, fun e => by rw [e, v2] at v1; omega⟩
  · intro t ht
    rw [h.did] at ht
    rcases List.mem_append.mp ht with q | q
    · obtain ⟨l, hl, ha⟩ := List.mem_flatten.mp q
      obtain ⟨i, hi, rfl⟩ := hget l hl
      have := (hP i hi).1 t ha
      exact ⟨i, by have := h.ph; omega, this.1.1, this.2⟩
    · have := hD.1 t q
      exact ⟨c.phase, this.1, this.2.1.1, this.2.2⟩

end

end Go.Proofs.YtgkepflnnoociagDoor

/-! A call that writes into some blocks of its own and into new ones alone. -/
namespace Go.Proofs.YtgkepflnnoociagDoor
open Go.RowKit

/-- Outside the blocks O, and what is new, the world is as it was. -/
structure But (O : Nat → Prop) (w w' : World) : Prop where
  os : w'.os = w.os
  tape : w'.tape = w.tape
  output : w'.output = w.output
  size : w.heap.size ≤ w'.heap.size
  block : ∀ k, k < w.heap.size → ¬ O k → w'.heap[k]? = w.heap[k]?
theorem But.refl (O : Nat → Prop) (w : World) : But O w w := ⟨rfl, rfl, rfl, Nat.le_refl _, fun _ _ _ => rfl⟩
theorem But.trans {O O' : Nat → Prop} {a b c : World} (h : But O a b) (k : But O' b c) (hO : ∀ i, O' i → O i ∨ a.heap.size ≤ i) : But O a c :=
  ⟨k.os.trans h.os, k.tape.trans h.tape, k.output.trans h.output, Nat.le_trans h.size k.size, fun i hi hn =>
    (k.block i (Nat.lt_of_lt_of_le hi h.size) fun q => by
      rcases hO i q with q | q
      · exact hn q
      · omega).trans (h.block i hi hn)⟩
theorem But.of_below {O : Nat → Prop} {w w' : World} (h : Below w.heap.size w w') : But O w w' := ⟨h.os, h.tape, h.output, h.size, fun k hk _ => h.block k hk⟩
theorem But.below {O : Nat → Prop} {B : Nat} {w w' : World} (h : But O w w') (hB : B ≤ w.heap.size) (hO : ∀ k, O k → B ≤ k) : Below B w w' :=
  ⟨h.os, h.tape, h.output, h.size, fun k hk => h.block k (by omega) fun q => by have := hO k q; omega⟩

end Go.Proofs.YtgkepflnnoociagDoor

/-! What package deque answers: a ring of 64 places in one block; where its tasks stand; New, Push, Pop, Steal, Len. -/
namespace Go.Proofs.YtgkepflnnoociagDoor
open Go.RowKit

theorem But.of_bar {O : Nat → Prop} {g : Nat} {w w' : World} (h : Bar g w w') (hg : O g) : But O w w' :=
  ⟨h.os, h.tape, h.output, h.size, fun k hk hn => h.block k hk fun e => hn (e ▸ hg)⟩

/-- The cells of a ring: its room, where the first task stands, and its tasks. -/
structure Rg (r f : Nat) (m : List (List Int)) (cs : List Value) : Prop where
  len : cs.length = 195
  f64 : f < 64
  room : m.length ≤ r
  r1 : 1 ≤ r
  r64 : r ≤ 64
  c192 : cs[192]? = some (.int .i64 (r : Int))
  c193 : cs[193]? = some (.int .i64 (f : Int))
  c194 : cs[194]? = some (.int .i64 (m.length : Int))
  task : ∀ i, i < m.length → ∀ j, j < 3 → cs[((f + i) % 64) * 3 + j]? = some (.int .i64 ((m.getD i []).getD j 0))
/-- Three cells. -/
def set3 (cs : List Value) (k : Nat) (a b c : Int) : List Value := ((cs.set (k * 3) (.int .i64 a)).set (k * 3 + 1) (.int .i64 b)).set (k * 3 + 2) (.int .i64 c)
theorem set3_length (cs : List Value) (k : Nat) (a b c : Int) : (set3 cs k a b c).length = cs.length := by simp [set3]
theorem set3_other (cs : List Value) (k : Nat) (a b c : Int) (i : Nat) (h : i < k * 3 ∨ k * 3 + 3 ≤ i) : (set3 cs k a b c)[i]? = cs[i]? := by
  unfold set3
  rw [List.getElem?_set_ne (by omega), List.getElem?_set_ne (by omega), List.getElem?_set_ne (by omega)]
theorem set3_at (cs : List Value) (k : Nat) (a b c : Int) (j : Nat) (hj : j < 3) (h : k * 3 + 3 ≤ cs.length) : (set3 cs k a b c)[k * 3 + j]? = some (.int .i64 (([a, b, c] : List Int).getD j 0)) := by
  unfold set3
  match j, hj with
  | 0, _ => rw [List.getElem?_set_ne (by omega), List.getElem?_set_ne (by omega), Nat.add_zero, List.getElem?_set_self (by omega)]; rfl
  | 1, _ => rw [List.getElem?_set_ne (by omega), List.getElem?_set_self (by simp; omega)]; rfl
  | 2, _ => rw [List.getElem?_set_self (by simp; omega)]; rfl
theorem Rg.start (r : Nat) (h1 : 1 ≤ r) (h2 : r ≤ 64) : Rg r 0 [] ((List.replicate 195 (.int .i64 0)).set 192 (.int .i64 (r : Int))) :=
  ⟨by rw [List.length_set, List.length_replicate], by omega, Nat.zero_le _, h1, h2, by rw [List.getElem?_set_self (by rw [List.length_replicate]; omega)], by rw [List.getElem?_set_ne (by omega), List.getElem?_replicate, if_pos (by omega)]; rfl, by rw [List.getElem?_set_ne (by omega), List.getElem?_replicate, if_pos (by omega)]; rfl, fun i hi => by simp at hi⟩
theorem Rg.push {r f : Nat} {m : List (List Int)} {cs : List Value} (h : Rg r f m cs) (a b c : Int) (hl : m.length < r) :
    Rg r f (m ++ [[a, b, c]]) ((set3 cs ((f + m.length) % 64) a b c).set 194 (.int .i64 ((m.length + 1 : Nat) : Int))) := by
  have hlen := h.len
  have h64 := h.r64
  have hk : (f + m.length) % 64 < 64 := Nat.mod_lt _ (by omega)
  have hf := h.f64
  refine ⟨by rw [List.length_set, set3_length]; exact hlen, h.f64, by simp; omega, h.r1, h.r64, ?_, ?_, ?_, ?_⟩
  · rw [List.getElem?_set_ne (by omega), set3_other _ _ _ _ _ _ (by omega)]; exact h.c192
  · rw [List.getElem?_set_ne (by omega), set3_other _ _ _ _ _ _ (by omega)]; exact h.c193
  · rw [List.getElem?_set_self (by rw [set3_length]; omega)]; simp
  · intro i hi j hj
    have hki : (f + i) % 64 < 64 := Nat.mod_lt _ (by omega)
    rw [List.getElem?_set_ne (by omega)]
    simp only [List.length_append, List.length_singleton] at hi
    rcases Nat.lt_or_ge i m.length with q | q
    · rw [set3_other _ _ _ _ _ _ (by omega), h.task i q j hj]
      simp [List.getD, List.getElem?_append_left q]
    · have e : i = m.length := by omega
      subst e
      rw [set3_at _ _ _ _ _ _ hj (by omega)]
      simp [List.getD]
theorem Rg.pop {r f : Nat} {m : List (List Int)} {cs : List Value} {t : List Int} (h : Rg r f (m ++ [t]) cs) :
    Rg r f m (set3 (cs.set 194 (.int .i64 (m.length : Int))) ((f + m.length) % 64) 0 0 0) := by
  have hlen := h.len
  have h64 := h.r64
  have hk : (f + m.length) % 64 < 64 := Nat.mod_lt _ (by omega)
  have hf := h.f64
  have hr := h.room
  simp only [List.length_append, List.length_singleton] at hr
  refine ⟨by rw [set3_length, List.length_set]; exact hlen, h.f64, by omega, h.r1, h.r64, ?_, ?_, ?_, ?_⟩
  · rw [set3_other _ _ _ _ _ _ (by omega), List.getElem?_set_ne (by omega)]; exact h.c192
  · rw [set3_other _ _ _ _ _ _ (by omega), List.getElem?_set_ne (by omega)]; exact h.c193
  · rw [set3_other _ _ _ _ _ _ (by omega), List.getElem?_set_self (by omega)]
  · intro i hi j hj
    have hki : (f + i) % 64 < 64 := Nat.mod_lt _ (by omega)
    rw [set3_other _ _ _ _ _ _ (by omega), List.getElem?_set_ne (by omega), h.task i (by simp; omega) j hj]
    simp [List.getD, List.getElem?_append_left hi]
theorem Rg.steal {r f : Nat} {m : List (List Int)} {cs : List Value} {t : List Int} (h : Rg r f (t :: m) cs) :
    Rg r ((f + 1) % 64) m (((set3 cs f 0 0 0).set 193 (.int .i64 (((f + 1) % 64 : Nat) : Int))).set 194 (.int .i64 (m.length : Int))) := by
  have hlen := h.len
  have h64 := h.r64
  have hf := h.f64
  have hr := h.room
  simp only [List.length_cons] at hr
  refine ⟨by rw [List.length_set, List.length_set, set3_length]; exact hlen, Nat.mod_lt _ (by omega), by omega, h.r1, h.r64, ?_, ?_, ?_, ?_⟩
  · rw [List.getElem?_set_ne (by omega), List.getElem?_set_ne (by omega), set3_other _ _ _ _ _ _ (by omega)]; exact h.c192
  · rw [List.getElem?_set_ne (by omega), List.getElem?_set_self (by rw [set3_length]; omega)]
  · rw [List.getElem?_set_self (by rw [List.length_set, set3_length]; omega)]
  · intro i hi j hj
    have hki : ((f + 1) % 64 + i) % 64 < 64 := Nat.mod_lt _ (by omega)
    have e : ((f + 1) % 64 + i) % 64 = (f + (i + 1)) % 64 := by omega
    rw [List.getElem?_set_ne (by omega), List.getElem?_set_ne (by omega), set3_other _ _ _ _ _ _ (by omega), e, h.task (i + 1) (by simp; omega) j hj]
    simp

/-- p leads to a deque with room for r tasks that holds the tasks m (the first one is stolen first, the last one popped first), all in the blocks O. -/
def Dq (w : World) (p : Value) (r : Nat) (m : List (List Int)) (O : Nat → Prop) : Prop :=
  ∃ g f cs, p = .pointer (some ⟨g, 0, none⟩) ∧ (∀ k, O k ↔ k = g) ∧ RowV 141 w g cs ∧ Rg r f m cs
theorem Dq.kept {w w' : World} {p : Value} {r : Nat} {m : List (List Int)} {O : Nat → Prop} (h : Dq w p r m O) (hk : ∀ k, O k → w'.heap[k]? = w.heap[k]?) : Dq w' p r m O := by
  obtain ⟨g, f, cs, hp, hO, hrow, hR⟩ := h
  exact ⟨g, f, cs, hp, hO, hrow.block (hk g ((hO g).mpr rfl)), hR⟩
theorem Dq.old {w : World} {p : Value} {r : Nat} {m : List (List Int)} {O : Nat → Prop} (h : Dq w p r m O) : ∀ k, O k → k < w.heap.size := by
  obtain ⟨g, f, cs, hp, hO, hrow, hR⟩ := h
  intro k hk
  rw [(hO k).mp hk]
  exact hrow.lt
theorem Dq.ptr {w : World} {p : Value} {r : Nat} {m : List (List Int)} {O : Nat → Prop} (h : Dq w p r m O) : ∃ b off, p = .pointer (some ⟨b, off, none⟩) ∧ m.length ≤ r ∧ r ≤ 64 := by
  obtain ⟨g, f, cs, hp, hO, hrow, hR⟩ := h
  exact ⟨g, 0, hp, hR.room, hR.r64⟩
theorem deque_place (w : World) (g f i : Nat) (h : w.cell? ⟨g, 193, none⟩ = some (.int .i64 (f : Int))) (hf : f < 64) (hi : i < 65) :
    Calls Tryd.prog 117 #[.pointer (some ⟨g, 0, none⟩), .int .i64 (i : Int)] w fun e w' => e = .returned (.int .i64 (((f + i) % 64 : Nat) : Int)) ∧ w' = w := by
  have he : ((f : Int) + (i : Int)).tmod 64 = (((f + i) % 64 : Nat) : Int) := by
    rw [Int.tmod_eq_emod_of_nonneg (by omega)]; omega
  go_enter Tryd.func117, Tryd.ntmps117
  go_wp2
  go_ret
  exact ⟨rfl, rfl⟩
theorem deque_takeOut (w : World) (g k : Nat) (cs : List Value) (a b c : Int) (h : RowV 141 w g cs) (hk : k < 64)
    (h0 : cs[k * 3]? = some (.int .i64 a)) (h1 : cs[k * 3 + 1]? = some (.int .i64 b)) (h2 : cs[k * 3 + 2]? = some (.int .i64 c)) :
    Calls Tryd.prog 118 #[.pointer (some ⟨g, 0, none⟩), .int .i64 (k : Int)] w fun e w' => e = .returned (.agg #[.int .i64 a, .int .i64 b, .int .i64 c]) ∧ RowV 141 w' g (set3 cs k 0 0 0) ∧ Bar g w w' := by
  have hlt := h.lt
  have c0 : w.cell? ⟨g, k * 3, none⟩ = some (.int .i64 a) := (h.cell _).trans h0
  have c1 : w.cell? ⟨g, k * 3 + 1, none⟩ = some (.int .i64 b) := (h.cell _).trans h1
  have c2 : w.cell? ⟨g, k * 3 + 2, none⟩ = some (.int .i64 c) := (h.cell _).trans h2
  have z0 := h.frozen (k * 3)
  have z1 := h.frozen (k * 3 + 1)
  have z2 := h.frozen (k * 3 + 2)
  have hr : Hid _ := ((h.set (k * 3) (.int .i64 0)).set (k * 3 + 1) (.int .i64 0)).set (k * 3 + 2) (.int .i64 0)
  have hb : Hid _ := (((Bar.refl g w).setCell (k * 3) (.int .i64 0)).setCell (k * 3 + 1) (.int .i64 0)).setCell (k * 3 + 2) (.int .i64 0)
  clear h h0 h1 h2
  go_enter Tryd.func118, Tryd.ntmps118
  go_wp2
  refine bodyPost_ret (v := .agg #[.int .i64 a, .int .i64 b, .int .i64 c]) (by simp [results, Tryd.results118, go_sem]) rfl ?_
  exact ⟨rfl, RowV.below (RowV.below hr.out (below_alloc1 _ _)) (below_alloc1 _ _), Bar.trans hb.out ((Bar.of_below (below_alloc1 _ _)).trans (Bar.of_below (below_alloc1 _ _)))⟩
theorem deque_Len (w : World) (p : Value) (r : Nat) (m : List (List Int)) (O : Nat → Prop) (h : Dq w p r m O) :
    Calls Tryd.prog 119 #[p] w fun e w' => e = .returned (.int .i64 (m.length : Int)) ∧ ∃ O', Dq w' p r m O' ∧ (∀ k, O' k → O k ∨ w.heap.size ≤ k) ∧ But O w w' := by
  have h0 : Hid _ := h
  obtain ⟨g, f, cs, rfl, hO, hrow, hR⟩ := h
  have c4 : w.cell? ⟨g, 194, none⟩ = some (.int .i64 (m.length : Int)) := (hrow.cell _).trans hR.c194
  clear hR hO hrow
  go_enter Tryd.func119, Tryd.ntmps119
  go_wp2
  go_ret
  exact ⟨rfl, O, h0.out, fun k q => .inl q, But.refl _ _⟩
theorem deque_New_bad (w : World) (z : Int) (h : z < 1 ∨ 64 < z) (_hz : (Lit.int .i64 z).wf = true) :
    Calls Tryd.prog 105 #[.int .i64 z] w fun e w' => e = .returned (.tuple #[.pointer none, .int .i64 1]) ∧ Below w.heap.size w w' := by
  rcases h with h | h
  · go_enter Tryd.func105, Tryd.ntmps105
    go_wp2
    go_ret2
    exact ⟨rfl, Below.refl _ _⟩
  · have h1 : ¬ z < 1 := by omega
    go_enter Tryd.func105, Tryd.ntmps105
    go_wp2
    go_ret2
    exact ⟨rfl, Below.refl _ _⟩
theorem deque_Pop_none (w : World) (p : Value) (r : Nat) (O : Nat → Prop) (h : Dq w p r [] O) :
    Calls Tryd.prog 108 #[p] w fun e w' => e = .returned (.tuple #[.agg #[.int .i64 0, .int .i64 0, .int .i64 0], .bool false]) ∧ ∃ O', Dq w' p r [] O' ∧ (∀ k, O' k → O k ∨ w.heap.size ≤ k) ∧ But O w w' := by
  have h0 : Hid _ := h
  obtain ⟨g, f, cs, rfl, hO, hrow, hR⟩ := h
  have c4 : w.cell? ⟨g, 194, none⟩ = some (.int .i64 0) := (hrow.cell _).trans hR.c194
  have c5 : ∀ o, (w.alloc o).cell? ⟨g, 194, none⟩ = some (.int .i64 0) := fun o => ((below_alloc1 w o).cell (p := ⟨g, 194, none⟩) (block_lt c4)).trans c4
  clear hR hO hrow
  go_enter Tryd.func108, Tryd.ntmps108
  go_wp2
  refine bodyPost_ret (v := .tuple #[.agg #[.int .i64 0, .int .i64 0, .int .i64 0], .bool false]) (by simp [results, Tryd.results108, go_sem]) rfl ?_
  exact ⟨rfl, O, Dq.kept h0.out fun k hk => (below_alloc1 _ _).block k (Dq.old h0.out k hk), fun k q => .inl q, But.of_below (below_alloc1 _ _)⟩
theorem deque_Steal_none (w : World) (p : Value) (r : Nat) (O : Nat → Prop) (h : Dq w p r [] O) :
    Calls Tryd.prog 109 #[p] w fun e w' => e = .returned (.tuple #[.agg #[.int .i64 0, .int .i64 0, .int .i64 0], .bool false]) ∧ ∃ O', Dq w' p r [] O' ∧ (∀ k, O' k → O k ∨ w.heap.size ≤ k) ∧ But O w w' := by
  have h0 : Hid _ := h
  obtain ⟨g, f, cs, rfl, hO, hrow, hR⟩ := h
  have c4 : w.cell? ⟨g, 194, none⟩ = some (.int .i64 0) := (hrow.cell _).trans hR.c194
  have c5 : ∀ o, (w.alloc o).cell? ⟨g, 194, none⟩ = some (.int .i64 0) := fun o => ((below_alloc1 w o).cell (p := ⟨g, 194, none⟩) (block_lt c4)).trans c4
  clear hR hO hrow
  go_enter Tryd.func109, Tryd.ntmps109
  go_wp2
  refine bodyPost_ret (v := .tuple #[.agg #[.int .i64 0, .int .i64 0, .int .i64 0], .bool false]) (by simp [results, Tryd.results109, go_sem]) rfl ?_
  exact ⟨rfl, O, Dq.kept h0.out fun k hk => (below_alloc1 _ _).block k (Dq.old h0.out k hk), fun k q => .inl q, But.of_below (below_alloc1 _ _)⟩
theorem info_ring : (Tryd.prog.info? 141).map (fun i => i.zero) = some (some (.agg (Array.replicate 195 (.int .i64 0)))) := by kernel_rfl
theorem zero_ring (w : World) : (zeroValue 141).run Tryd.prog w = .ok (.agg (Array.replicate 195 (.int .i64 0))) w := by
  have h := info_ring
  cases hi : Tryd.prog.info? 141 with
  | none => rw [hi] at h; cases h
  | some i =>
    rw [hi] at h
    simp only [Option.map_some, Option.some.injEq] at h
    simp [zeroValue, typeInfo, hi, h]
set_option maxRecDepth 100000 in
theorem deque_New_ok (w : World) (r : Nat) (h1 : 1 ≤ r) (h2 : r ≤ 64) :
    Calls Tryd.prog 105 #[.int .i64 (r : Int)] w fun e w' => ∃ p O, e = .returned (.tuple #[p, .int .i64 0]) ∧ Dq w' p r [] O ∧ (∀ k, O k → w.heap.size ≤ k) ∧ Below w.heap.size w w' := by
  have q1 : ¬ (r : Int) < 1 := by omega
  have q2 : ¬ (64 : Int) < (r : Int) := by omega
  obtain ⟨zs, hz, hs, hzn, hze⟩ : ∃ zs : Array Value, (∀ w, (zeroValue 141).run Tryd.prog w = .ok (.agg zs) w) ∧ zs.size = 195 ∧ ¬ zs = #[] ∧ Hid (zs = Array.replicate 195 (.int .i64 0)) := ⟨_, zero_ring, Array.size_replicate, (fun e => by have := congrArg Array.size e; rw [Array.size_replicate] at this; cases this), rfl⟩
  go_enter Tryd.func105, Tryd.ntmps105
  go_wp2
  go_ret2
  refine ⟨_, rfl, fun k => k = w.heap.size, ⟨w.heap.size, 0, _, rfl, fun k => Iff.rfl, ?_, Rg.start r h1 h2⟩, fun k e => Nat.le_of_eq e.symm, below_alloc1 _ _⟩
  show (w.heap.push _)[w.heap.size]? = _
  rw [Array.getElem?_push_size]
  first
    | (rw [hze.out]; rfl)
    | rfl
theorem deque_Push_full (w : World) (p : Value) (r : Nat) (m : List (List Int)) (O : Nat → Prop) (a b c : Int) (h : Dq w p r m O) (hl : m.length = r) (_ha : (Lit.int .i64 a).wf = true) (_hb : (Lit.int .i64 b).wf = true) (_hc : (Lit.int .i64 c).wf = true) :
    Calls Tryd.prog 107 #[p, .agg #[.int .i64 a, .int .i64 b, .int .i64 c]] w fun e w' => e = .returned (.int .i64 2) ∧ ∃ O', Dq w' p r m O' ∧ (∀ k, O' k → O k ∨ w.heap.size ≤ k) ∧ But O w w' := by
  have h0 : Hid _ := h
  obtain ⟨g, f, cs, rfl, hO, hrow, hR⟩ := h
  have c4 : w.cell? ⟨g, 194, none⟩ = some (.int .i64 (m.length : Int)) := (hrow.cell _).trans hR.c194
  have c5 : ∀ o, (w.alloc o).cell? ⟨g, 194, none⟩ = some (.int .i64 (m.length : Int)) := fun o => ((below_alloc1 w o).cell (p := ⟨g, 194, none⟩) (block_lt c4)).trans c4
  have c6 : w.cell? ⟨g, 192, none⟩ = some (.int .i64 (r : Int)) := (hrow.cell _).trans hR.c192
  have c7 : ∀ o, (w.alloc o).cell? ⟨g, 192, none⟩ = some (.int .i64 (r : Int)) := fun o => ((below_alloc1 w o).cell (p := ⟨g, 192, none⟩) (block_lt c6)).trans c6
  clear hR hO hrow
  obtain ⟨n, hn⟩ : ∃ n, n = m.length := ⟨_, rfl⟩
  rw [← hn] at c4 c5 hl
  subst hl
  have hge : (n : Int) ≥ (n : Int) := Int.le_refl _
  clear hn
  go_enter Tryd.func107, Tryd.ntmps107
  go_wp2
  go_quiet (fail)
  go_wp2
  go_ret
  exact ⟨rfl, O, Dq.kept h0.out fun k hk => (below_alloc1 _ _).block k (Dq.old h0.out k hk), fun k q => .inl q, But.of_below (below_drewN (below_alloc1 _ _) _)⟩
/-- What a call that works on the ring knows of its own result's block. -/
theorem new_row (w : World) (t : Nat) (cs : List Value) : RowV t (w.alloc (.cells cs.toArray t)) w.heap.size cs := by
  show (w.heap.push _)[w.heap.size]? = _
  rw [Array.getElem?_push_size]
theorem RowV.alloc {t : Nat} {w : World} {g : Nat} {cs : List Value} (h : RowV t w g cs) (o : Obj) : RowV t (w.alloc o) g cs := h.below (below_alloc1 w o)
theorem Bar.alloc {g : Nat} {w w' : World} (h : Bar g w w') (o : Obj) : Bar g w (w'.alloc o) := h.trans (Bar.of_below (below_alloc1 w' o))
set_option maxHeartbeats 4000000 in
theorem deque_Pop_ok (w : World) (p : Value) (r : Nat) (m : List (List Int)) (O : Nat → Prop) (a b c : Int) (h : Dq w p r (m ++ [[a, b, c]]) O) :
    Calls Tryd.prog 108 #[p] w fun e w' => e = .returned (.tuple #[.agg #[.int .i64 a, .int .i64 b, .int .i64 c], .bool true]) ∧ ∃ O', Dq w' p r m O' ∧ (∀ k, O' k → O k ∨ w.heap.size ≤ k) ∧ But O w w' := by
  obtain ⟨g, f, cs, rfl, hO, hrow, hR⟩ := h
  have hOg : O g := (hO g).mpr rfl
  have hR2 : Hid _ := hR.pop
  have hr := hR.room
  have h64 := hR.r64
  have hlen := hR.len
  have hf := hR.f64
  have hml : (m ++ [[a, b, c]]).length = m.length + 1 := by simp
  have h4 := hR.c194
  have h3 := hR.c193
  have ht : ∀ j, j < 3 → cs[(f + m.length) % 64 * 3 + j]? = some (.int .i64 (([a, b, c] : List Int).getD j 0)) := fun j hj => by
    rw [hR.task m.length (by omega) j hj]
    simp [List.getD]
  rw [hml] at hr h4
  replace hO : Hid _ := hO
  clear hR hml
  obtain ⟨n, hn⟩ : ∃ n, n = m.length := ⟨_, rfl⟩
  rw [← hn] at hr h4 ht hR2
  have hk : (f + n) % 64 < 64 := Nat.mod_lt _ (by omega)
  have hn9 : n < 64 := by omega
  have cP : ∀ wq : World, wq.cell? ⟨g, 193, none⟩ = some (.int .i64 (f : Int)) → Calls Tryd.prog 117 #[.pointer (some ⟨g, 0, none⟩), .int .i64 (n : Int)] wq fun e w' => e = .returned (.int .i64 (((f + n) % 64 : Nat) : Int)) ∧ w' = wq := fun wq hq => deque_place wq g f n hq hf (by omega)
  clear hn hr h64
  generalize (f + n) % 64 = k at *
  have hw1 : wrap64 ((n : Int) + 1 - 1) = (n : Int) := by unfold wrap64; omega
  have c4 : ∀ o, (w.alloc o).cell? ⟨g, 194, none⟩ = some (.int .i64 ((n + 1 : Nat) : Int)) := fun o => ((hrow.alloc o).cell _).trans h4
  have z4 : ∀ o, (w.alloc o).frozen? ⟨g, 194, none⟩ = false := fun o => (hrow.alloc o).frozen _
  have hr1 : Hid (RowV 141 (w.setCell ⟨g, 194, none⟩ (.int .i64 (n : Int))) g (cs.set 194 (.int .i64 (n : Int)))) := hrow.set _ _
  have e0 : (cs.set 194 (.int .i64 (n : Int)))[k * 3]? = some (.int .i64 a) := (List.getElem?_set_ne (by omega)).trans (ht 0 (by omega))
  have e1 : (cs.set 194 (.int .i64 (n : Int)))[k * 3 + 1]? = some (.int .i64 b) := (List.getElem?_set_ne (by omega)).trans (ht 1 (by omega))
  have e2 : (cs.set 194 (.int .i64 (n : Int)))[k * 3 + 2]? = some (.int .i64 c) := (List.getElem?_set_ne (by omega)).trans (ht 2 (by omega))
  have e3 : Hid ((cs.set 194 (.int .i64 (n : Int)))[193]? = some (.int .i64 (f : Int))) := (List.getElem?_set_ne (by omega)).trans h3
  have hlt := hrow.lt
  have c5 : (w.setCell ⟨g, 194, none⟩ (.int .i64 (n : Int))).cell? ⟨g, 194, none⟩ = some (.int .i64 (n : Int)) := (RowV.cell hr1.out _).trans (List.getElem?_set_self (by omega))
  have cT : Hid (∀ o, Calls Tryd.prog 118 #[.pointer (some ⟨g, 0, none⟩), .int .i64 (k : Int)] ((w.setCell ⟨g, 194, none⟩ (.int .i64 (n : Int))).alloc o) fun e w' => e = .returned (.agg #[.int .i64 a, .int .i64 b, .int .i64 c]) ∧ RowV 141 w' g (set3 (cs.set 194 (.int .i64 (n : Int))) k 0 0 0) ∧ Bar g ((w.setCell ⟨g, 194, none⟩ (.int .i64 (n : Int))).alloc o) w') := fun o => deque_takeOut _ g k _ a b c (RowV.alloc hr1.out o) hk e0 e1 e2
  have hbox : Hid (∀ w7, Bar g ((w.setCell ⟨g, 194, none⟩ (.int .i64 (n : Int))).alloc (.cells #[.int .i64 0, .int .i64 0, .int .i64 0] 51)) w7 → RowV 51 w7 w.heap.size [.int .i64 0, .int .i64 0, .int .i64 0]) := fun w7 hb => by
    have q := new_row (w.setCell ⟨g, 194, none⟩ (.int .i64 (n : Int))) 51 [.int .i64 0, .int .i64 0, .int .i64 0]
    have e : (w.setCell ⟨g, 194, none⟩ (.int .i64 (n : Int))).heap.size = w.heap.size := by simp [World.setCell]
    rw [e] at q
    exact q.bar (by omega) hb
  have hbar : Hid (Bar g w (w.setCell ⟨g, 194, none⟩ (.int .i64 (n : Int)))) := (Bar.refl g w).setCell _ _
  clear e0 e1 e2 h3 h4 ht hrow hf hlen
  go_enter Tryd.func108, Tryd.ntmps108
  go_wp2_with (first
    | (go_at_call 117; refine Calls.mono (cP _ ((RowV.cell (RowV.alloc hr1.out _) 193).trans e3.out)) ?_; rintro e w6 ⟨rfl, hw⟩; rw [hw]; clear hw cP)
    | (go_at_call 118; refine Calls.mono (cT.out _) ?_; rintro e w7 ⟨rfl, hr7, hb7⟩; clear cT; have x7 := hbox.out w7 hb7; have x0 := x7.cell 0; have x1 := x7.cell 1; have x2 := x7.cell 2; have y0 := x7.frozen 0; have y1 := x7.frozen 1; have y2 := x7.frozen 2; replace x0 : w7.cell? ⟨w.heap.size, 0, none⟩ = some (.int .i64 0) := x0; replace x1 : w7.cell? ⟨w.heap.size, 1, none⟩ = some (.int .i64 0) := x1; replace x2 : w7.cell? ⟨w.heap.size, 2, none⟩ = some (.int .i64 0) := x2; replace hr7 : Hid _ := hr7; replace hb7 : Hid _ := hb7; replace x7 : Hid _ := x7))
  refine bodyPost_ret (v := .tuple #[.agg #[.int .i64 a, .int .i64 b, .int .i64 c], .bool true]) (by simp [results, Tryd.results108, go_sem, x0, x1, x2]) rfl ?_
  have hbw : But O w w7 := But.of_bar ((Bar.alloc hbar.out _).trans hb7.out) hOg
  have hgr : g ≠ w.heap.size := by omega
  refine ⟨rfl, O, ⟨g, f, _, rfl, hO.out, RowV.block hr7.out ?_, hR2.out⟩, fun k q => .inl q, ?_⟩
  · rw [Below.heap_setCell _ _ _ _ hgr, Below.heap_setCell _ _ _ _ hgr, Below.heap_setCell _ _ _ _ hgr]
  · exact ⟨hbw.os, hbw.tape, hbw.output, by simpa [World.setCell] using hbw.size, fun k hk hn => by
      rw [Below.heap_setCell _ _ _ _ (show k ≠ w.heap.size by omega), Below.heap_setCell _ _ _ _ (show k ≠ w.heap.size by omega), Below.heap_setCell _ _ _ _ (show k ≠ w.heap.size by omega)]
      exact hbw.block k hk hn⟩
set_option maxHeartbeats 4000000 in
theorem deque_Steal_ok (w : World) (p : Value) (r : Nat) (m : List (List Int)) (O : Nat → Prop) (a b c : Int) (h : Dq w p r ([a, b, c] :: m) O) :
    Calls Tryd.prog 109 #[p] w fun e w' => e = .returned (.tuple #[.agg #[.int .i64 a, .int .i64 b, .int .i64 c], .bool true]) ∧ ∃ O', Dq w' p r m O' ∧ (∀ k, O' k → O k ∨ w.heap.size ≤ k) ∧ But O w w' := by
  obtain ⟨g, f, cs, rfl, hO, hrow, hR⟩ := h
  have hOg : O g := (hO g).mpr rfl
  have hR2 : Hid _ := hR.steal
  have hr := hR.room
  have h64 := hR.r64
  have hlen := hR.len
  have hf := hR.f64
  have h4 := hR.c194
  have h3 := hR.c193
  have ht : ∀ j, j < 3 → cs[f * 3 + j]? = some (.int .i64 (([a, b, c] : List Int).getD j 0)) := fun j hj => by
    have q := hR.task 0 (by simp) j hj
    rw [Nat.add_zero, Nat.mod_eq_of_lt hf] at q
    rw [q]; rfl
  rw [List.length_cons] at hr h4
  replace hO : Hid _ := hO
  clear hR
  obtain ⟨n, hn⟩ : ∃ n, n = m.length := ⟨_, rfl⟩
  rw [← hn] at hr h4 hR2
  have hn9 : n < 64 := by omega
  have cP : ∀ wq : World, wq.cell? ⟨g, 193, none⟩ = some (.int .i64 (f : Int)) → Calls Tryd.prog 117 #[.pointer (some ⟨g, 0, none⟩), .int .i64 1] wq fun e w' => e = .returned (.int .i64 (((f + 1) % 64 : Nat) : Int)) ∧ w' = wq := fun wq hq => deque_place wq g f 1 hq hf (by omega)
  clear hn hr h64
  have hw1 : wrap64 ((n : Int) + 1 - 1) = (n : Int) := by unfold wrap64; omega
  have c4 : ∀ o, (w.alloc o).cell? ⟨g, 194, none⟩ = some (.int .i64 ((n + 1 : Nat) : Int)) := fun o => ((hrow.alloc o).cell _).trans h4
  have c3 : ∀ o, (w.alloc o).cell? ⟨g, 193, none⟩ = some (.int .i64 (f : Int)) := fun o => ((hrow.alloc o).cell _).trans h3
  have hlt := hrow.lt
  have cT : Hid (∀ o, Calls Tryd.prog 118 #[.pointer (some ⟨g, 0, none⟩), .int .i64 (f : Int)] (w.alloc o) fun e w' => e = .returned (.agg #[.int .i64 a, .int .i64 b, .int .i64 c]) ∧ RowV 141 w' g (set3 cs f 0 0 0) ∧ Bar g (w.alloc o) w') := fun o => deque_takeOut _ g f _ a b c (hrow.alloc o) hf (ht 0 (by omega)) (ht 1 (by omega)) (ht 2 (by omega))
  have k3 : Hid ((set3 cs f 0 0 0)[193]? = some (.int .i64 (f : Int))) := (set3_other _ _ _ _ _ _ (by omega)).trans h3
  have k4 : Hid ((set3 cs f 0 0 0)[194]? = some (.int .i64 ((n + 1 : Nat) : Int))) := (set3_other _ _ _ _ _ _ (by omega)).trans h4
  have hnew : Hid (RowV 51 (w.alloc (.cells #[.int .i64 0, .int .i64 0, .int .i64 0] 51)) w.heap.size [.int .i64 0, .int .i64 0, .int .i64 0]) := new_row w 51 [.int .i64 0, .int .i64 0, .int .i64 0]
  have hbar : Hid (Bar g w (w.alloc (.cells #[.int .i64 0, .int .i64 0, .int .i64 0] 51))) := (Bar.refl g w).alloc _
  have hgB : g ≠ w.heap.size := by omega
  clear h3 h4 ht hrow hf hlen
  obtain ⟨f1, hf1⟩ : ∃ f1, f1 = (f + 1) % 64 := ⟨_, rfl⟩
  rw [← hf1] at cP hR2
  clear hf1
  go_enter Tryd.func109, Tryd.ntmps109
  go_upto_region 4 with (go_at_call 118; refine Calls.mono (cT.out _) ?_; rintro e w7 ⟨rfl, hr7, hb7⟩; clear cT)
  have x7 := RowV.bar hnew.out (Ne.symm hgB) hb7
  have r8 := hr7.alloc (.cells #[.int .i64 a, .int .i64 b, .int .i64 c] 51)
  have x8 := x7.alloc (.cells #[.int .i64 a, .int .i64 b, .int .i64 c] 51)
  have y8 := new_row w7 51 [.int .i64 a, .int .i64 b, .int .i64 c]
  have hb8 : Hid _ := (Bar.trans hbar.out hb7).alloc (.cells #[.int .i64 a, .int .i64 b, .int .i64 c] 51)
  have hgG : g ≠ w7.heap.size := by have := hr7.lt; omega
  have hBG : w.heap.size ≠ w7.heap.size := by have := x7.lt; omega
  clear hr7 hb7 x7 hnew hbar
  change RowV 51 (w7.alloc (.cells #[.int .i64 a, .int .i64 b, .int .i64 c] 51)) w7.heap.size [.int .i64 a, .int .i64 b, .int .i64 c] at y8
  generalize w7.alloc (.cells #[.int .i64 a, .int .i64 b, .int .i64 c] 51) = w8 at *
  generalize w7.heap.size = G at *
  have s3 := (r8.cell 193).trans k3.out
  have s4 := r8.frozen 193
  have r9 := r8.set 193 (.int .i64 (f1 : Int))
  have s5 := (r9.cell 194).trans ((List.getElem?_set_ne (by omega)).trans k4.out)
  have s6 := r9.frozen 194
  have r10 : Hid _ := r9.set 194 (.int .i64 (n : Int))
  have x10 := (x8.bar (g := g) (Ne.symm hgB) ((Bar.refl g w8).setCell 193 (.int .i64 (f1 : Int)))).bar (g := g) (Ne.symm hgB) ((Bar.refl g _).setCell 194 (.int .i64 (n : Int)))
  have y10 := (y8.bar (g := g) (Ne.symm hgG) ((Bar.refl g w8).setCell 193 (.int .i64 (f1 : Int)))).bar (g := g) (Ne.symm hgG) ((Bar.refl g _).setCell 194 (.int .i64 (n : Int)))
  have hb10 : Hid _ := ((Bar.setCell hb8.out 193 (.int .i64 (f1 : Int))).setCell 194 (.int .i64 (n : Int)))
  have a0 := y10.cell 0
  have a1 := y10.cell 1
  have a2 := y10.cell 2
  have x0 := x10.cell 0
  have x1 := x10.cell 1
  have x2 := x10.cell 2
  have y0 := x10.frozen 0
  have y1 := x10.frozen 1
  have y2 := x10.frozen 2
  simp only [List.getElem?_cons_zero, List.getElem?_cons_succ] at a0 a1 a2 x0 x1 x2
  clear r8 x8 y8 r9 x10 y10 hb8 k3 k4 c4 c3 hlt
  obtain ⟨B, hB⟩ : ∃ B, B = w.heap.size := ⟨_, rfl⟩
  rw [← hB] at x0 x1 x2 y0 y1 y2 hgB hBG ⊢
  replace hB : Hid _ := hB
  go_wp2_with (go_at_call 117; refine Calls.mono (cP _ s3) ?_; rintro e w6 ⟨rfl, hw⟩; rw [hw]; clear hw cP)
  refine bodyPost_ret (v := .tuple #[.agg #[.int .i64 a, .int .i64 b, .int .i64 c], .bool true]) (by simp [results, Tryd.results109, go_sem, x0, x1, x2]) rfl ?_
  have hbw := But.of_bar hb10.out hOg
  refine ⟨rfl, O, ⟨g, f1, _, rfl, hO.out, RowV.block r10.out ?_, hR2.out⟩, fun k q => .inl q, ?_⟩
  · rw [Below.heap_setCell _ _ _ _ hgB, Below.heap_setCell _ _ _ _ hgB, Below.heap_setCell _ _ _ _ hgB]
  · exact ⟨hbw.os, hbw.tape, hbw.output, by simpa [World.setCell] using hbw.size, fun k hk hn => by
      have hkB : k ≠ B := by have := hB.out; omega
      rw [Below.heap_setCell _ _ _ _ hkB, Below.heap_setCell _ _ _ _ hkB, Below.heap_setCell _ _ _ _ hkB]
      exact hbw.block k hk hn⟩
set_option maxHeartbeats 4000000 in
theorem deque_Push_ok (w : World) (p : Value) (r : Nat) (m : List (List Int)) (O : Nat → Prop) (a b c : Int) (h : Dq w p r m O) (hl : m.length < r) (_ha : (Lit.int .i64 a).wf = true) (_hb : (Lit.int .i64 b).wf = true) (_hc : (Lit.int .i64 c).wf = true) :
    Calls Tryd.prog 107 #[p, .agg #[.int .i64 a, .int .i64 b, .int .i64 c]] w fun e w' => e = .returned (.int .i64 0) ∧ ∃ O', Dq w' p r (m ++ [[a, b, c]]) O' ∧ (∀ k, O' k → O k ∨ w.heap.size ≤ k) ∧ But O w w' := by
  obtain ⟨g, f, cs, rfl, hO, hrow, hR⟩ := h
  have h64 := hR.r64
  have hf := hR.f64
  have hOg : O g := (hO g).mpr rfl
  have hR2 : Hid _ := hR.push a b c hl
  have hlen := hR.len
  have c4 : ∀ o, (w.alloc o).cell? ⟨g, 194, none⟩ = some (.int .i64 (m.length : Int)) := fun o => ((hrow.below (below_alloc1 w o)).cell _).trans hR.c194
  have c7 : ∀ o, (w.alloc o).cell? ⟨g, 192, none⟩ = some (.int .i64 (r : Int)) := fun o => ((hrow.below (below_alloc1 w o)).cell _).trans hR.c192
  have hc3 : Hid _ := hR.c193
  have hc4 : Hid _ := hR.c194
  clear hR
  obtain ⟨n, hn⟩ : ∃ n, n = m.length := ⟨_, rfl⟩
  rw [← hn] at c4 hl hR2 hc4
  have hge : decide (r ≤ n) = false := decide_eq_false (by omega)
  have hw1 : wrap64 ((n : Int) + 1) = ((n + 1 : Nat) : Int) := by unfold wrap64; omega
  have hn9 : n < 64 := by omega
  have hne : g ≠ w.heap.size := by have := hrow.lt; omega
  clear hn hl h64
  obtain ⟨B, hB⟩ : ∃ B, B = w.heap.size := ⟨_, rfl⟩
  have hrow1 : ∀ nq, RowV 141 ((w.alloc (.cells #[.int .i64 a, .int .i64 b, .int .i64 c] 51)).drewN nq) g cs := fun nq => hrow.below (below_drewN (below_alloc1 _ _) nq)
  have hbx : ∀ nq, RowV 51 ((w.alloc (.cells #[.int .i64 a, .int .i64 b, .int .i64 c] 51)).drewN nq) B [.int .i64 a, .int .i64 b, .int .i64 c] := fun nq => by
    rw [hB]
    show (w.heap.push _)[w.heap.size]? = _
    rw [Array.getElem?_push_size]
  have hbw : ∀ nq, Below w.heap.size w ((w.alloc (.cells #[.int .i64 a, .int .i64 b, .int .i64 c] 51)).drewN nq) := fun nq => below_drewN (below_alloc1 _ _) nq
  clear hrow
  go_enter Tryd.func107, Tryd.ntmps107
  go_wp2
  go_quiet (fail)
  replace hrow1 := hrow1 nq
  replace hbx := hbx nq
  replace hbw : Hid _ := hbw nq
  have hfin : Hid (∀ w6 : World, Below B w w6 → But O w (((w6.setCell ⟨g, (f + n) % 64 * 3, none⟩ (.int .i64 a)).setCell ⟨g, (f + n) % 64 * 3 + 1, none⟩ (.int .i64 b)).setCell ⟨g, (f + n) % 64 * 3 + 2, none⟩ (.int .i64 c)).drew) := fun w6 hb => by
    rw [hB] at hb
    exact (But.of_below hb).trans (O' := O) (But.of_bar (g := g) (((((Bar.refl g w6).setCell _ _).setCell _ _).setCell _ _).drewN 1) hOg) fun k q => .inl q
  rw [← hB] at *
  generalize (w.alloc (.cells #[.int .i64 a, .int .i64 b, .int .i64 c] 51)).drewN nq = w6 at *
  clear c4 c7
  have hk : (f + n) % 64 < 64 := Nat.mod_lt _ (by omega)
  have k4 : w6.cell? ⟨g, 194, none⟩ = some (.int .i64 (n : Int)) := (hrow1.cell _).trans hc4.out
  have cP : ∀ wq : World, wq.cell? ⟨g, 193, none⟩ = some (.int .i64 (f : Int)) → Calls Tryd.prog 117 #[.pointer (some ⟨g, 0, none⟩), .int .i64 (n : Int)] wq fun e w' => e = .returned (.int .i64 (((f + n) % 64 : Nat) : Int)) ∧ w' = wq := fun wq hq => deque_place wq g f n hq hf (by omega)
  have k3 : w6.cell? ⟨g, 193, none⟩ = some (.int .i64 (f : Int)) := (hrow1.cell _).trans hc3.out
  generalize (f + n) % 64 = k at *
  obtain ⟨v0, e0⟩ : ∃ v, cs[k * 3]? = some v := ⟨_, List.getElem?_eq_getElem (by omega)⟩
  obtain ⟨v1, e1⟩ : ∃ v, cs[k * 3 + 1]? = some v := ⟨_, List.getElem?_eq_getElem (by omega)⟩
  obtain ⟨v2, e2⟩ : ∃ v, cs[k * 3 + 2]? = some v := ⟨_, List.getElem?_eq_getElem (by omega)⟩
  have y0 := (hrow1.cell _).trans e0
  have y1 := (hrow1.cell _).trans e1
  have y2 := (hrow1.cell _).trans e2
  have z0 := hrow1.frozen (k * 3)
  have z1 := hrow1.frozen (k * 3 + 1)
  have z2 := hrow1.frozen (k * 3 + 2)
  have b0 : w6.cell? ⟨B, 0, none⟩ = some (.int .i64 a) := hbx.cell 0
  have b1 : w6.cell? ⟨B, 1, none⟩ = some (.int .i64 b) := hbx.cell 1
  have b2 : w6.cell? ⟨B, 2, none⟩ = some (.int .i64 c) := hbx.cell 2
  have hrow2 : Hid (RowV 141 w6 g cs) := hrow1
  clear hrow1 hbx e0 e1 e2 hc3 hc4 hne hf hn9 hge
  go_wp2_with fail
  go_region_with (go_at_call 117; refine Calls.mono (cP _ k3) ?_; rintro e w7 ⟨rfl, rfl⟩)
  all_goals
    have hrow3 : RowV 141 (((w6.setCell ⟨g, k * 3, none⟩ (.int .i64 a)).setCell ⟨g, k * 3 + 1, none⟩ (.int .i64 b)).setCell ⟨g, k * 3 + 2, none⟩ (.int .i64 c)).drew g (set3 cs k a b c) := ((RowV.set hrow2.out _ _).set _ _).set _ _
    have hbb : Hid (But O w (((w6.setCell ⟨g, k * 3, none⟩ (.int .i64 a)).setCell ⟨g, k * 3 + 1, none⟩ (.int .i64 b)).setCell ⟨g, k * 3 + 2, none⟩ (.int .i64 c)).drew) := hfin.out _ hbw.out
    have q4 : (((w6.setCell ⟨g, k * 3, none⟩ (.int .i64 a)).setCell ⟨g, k * 3 + 1, none⟩ (.int .i64 b)).setCell ⟨g, k * 3 + 2, none⟩ (.int .i64 c)).drew.cell? ⟨g, 194, none⟩ = some (.int .i64 (n : Int)) := (hrow3.cell _).trans ((set3_other _ _ _ _ _ _ (by omega)).trans (((RowV.cell hrow2.out 194).symm).trans k4))
    have z4 := hrow3.frozen 194
    have hrow4 : Hid _ := hrow3.set 194 (.int .i64 ((n + 1 : Nat) : Int))
    clear hrow3 hrow2 hbw k4 k3 y0 y1 y2 z0 z1 z2 b0 b1 b2 cP
    generalize (((w6.setCell ⟨g, k * 3, none⟩ (.int .i64 a)).setCell ⟨g, k * 3 + 1, none⟩ (.int .i64 b)).setCell ⟨g, k * 3 + 2, none⟩ (.int .i64 c)).drew = w8 at *
    go_wp2
    go_ret
    exact ⟨rfl, O, ⟨g, f, _, rfl, hO, hrow4.out, hR2.out⟩, fun k q => .inl q, hbb.out.trans (O' := O) (But.of_bar ((Bar.refl g _).setCell _ _) hOg) fun k q => .inl q⟩

end Go.Proofs.YtgkepflnnoociagDoor

/-! A run of package exec in memory: where its parts lie, and what a store into one of them leaves. -/
namespace Go.Proofs.YtgkepflnnoociagDoor
open Go.RowKit

theorem heap_in {w : World} {g : Nat} {o : Obj} (h : w.heap[g]? = some o) : g < w.heap.size := by
  rcases Nat.lt_or_ge g w.heap.size with q | q
  · exact q
  · rw [Array.getElem?_eq_none q] at h; cases h
theorem owns_in {w : World} {B e k n b : Nat} {v : Value} {xs : List Value} (h : w.ownsRow B e k v n xs) (hb : v.ownBlock = some b) : b < w.heap.size ∧ B ≤ b := by
  rcases h.2 with ⟨hv, _⟩ | ⟨g, cap, cur, hv, hg, hc, _⟩
  · rw [hv] at hb; cases hb
  · rw [hv] at hb
    have e : g = b := Option.some.inj hb
    subst e
    exact ⟨heap_in hc, hg⟩
theorem owns_at {w w' : World} {B e k n : Nat} {v : Value} {xs : List Value} (h : w.ownsRow B e k v n xs) (hb : ∀ b, v.ownBlock = some b → w'.heap[b]? = w.heap[b]?) : w'.ownsRow B e k v n xs := by
  refine ⟨h.1, ?_⟩
  rcases h.2 with q | ⟨g, cap, cur, hv, hg, hc, rest⟩
  · exact .inl q
  · exact .inr ⟨g, cap, cur, hv, hg, by rw [hb g (by rw [hv]; rfl)]; exact hc, rest⟩

/-- What is read alone: S holds in every world that has the blocks R as w has them. -/
def Held (R : Nat → Prop) (w : World) (S : World → Prop) : Prop := ∀ w' : World, (∀ k, R k → w'.heap[k]? = w.heap[k]?) → S w'
theorem Held.now {R : Nat → Prop} {w : World} {S : World → Prop} (h : Held R w S) : S w := h w fun _ _ => rfl
theorem Held.kept {R : Nat → Prop} {w w' : World} {S : World → Prop} (h : Held R w S) (hk : ∀ k, R k → w'.heap[k]? = w.heap[k]?) : Held R w' S := fun w2 q => h w2 fun k r => (q k r).trans (hk k r)

/-- What a run reads alone: its shape, its phases, where its deques lie. -/
def pvs (pv : Nat → Value) (n : Nat) : List Value := (List.range n).map pv
theorem pvs_get (pv : Nat → Value) (n i : Nat) (h : i < n) : (pvs pv n)[i]? = some (pv i) := by simp [pvs, h]
def ptrs (q : Nat → Nat) (W : Nat) : List Value := (List.range W).map fun i => .pointer (some ⟨q i, 0, none⟩)
theorem ptrs_get (q : Nat → Nat) (W i : Nat) (h : i < W) : (ptrs q W)[i]? = some (.pointer (some ⟨q i, 0, none⟩)) := by simp [ptrs, h]
theorem ptrs_length (q : Nat → Nat) (W : Nat) : (ptrs q W).length = W := by simp [ptrs]

/-- What doesn't change as long as a run lives: where it lies, its deques, what is read alone, its shape, phases, workers, and whether it goes back. -/
structure Fx where
  g : Nat
  gd : Nat
  gl : Nat
  R : Nat → Prop
  q : Nat → Nat
  vs : Value
  pv : Nat → Value
  zs : List Int
  ds : List Nat
  L : List (List (List Int))
  W : Nat
  back : Bool
/-- The fields of a run. -/
def runF (r : Fx) (ga : Nat) (vd : Value) (ph : Nat) : List Value :=
  [r.vs, .slice (some ⟨ga, 0, none⟩) (prd2 r.ds) (prd2 r.ds), .slice (some ⟨r.gl, 0, none⟩) r.L.length r.L.length, .int .i64 (ph : Int), .slice (some ⟨r.gd, 0, none⟩) r.W r.W, vd, .bool r.back]
/-- The blocks of a run. -/
def RnO (r : Fx) (ga : Nat) (vd : Value) (k : Nat) : Prop := k = r.g ∨ k = ga ∨ r.R k ∨ vd.ownBlock = some k ∨ ∃ i, i < r.W ∧ k = r.q i
structure Rn (r : Fx) (w : World) (ga : Nat) (vd : Value) (c : Crw) : Prop where
  blk : RowV 111 w r.g (runF r ga vd c.phase)
  ro : Held r.R w (fun w => IsZ w r.vs r.zs ∧ RowV 62 w r.gl (pvs r.pv r.L.length) ∧ (∀ i, i < r.L.length → IsR 3 w (r.pv i) (r.L.getD i [])) ∧ RowV 129 w r.gd (ptrs r.q r.W))
  ron : ∀ k, r.R k → k < w.heap.size
  arr : RowU w ga c.A
  lt : ∀ x ∈ c.A, x < P
  al : c.A.length = prd2 r.ds
  hc : c.hands.length = r.W
  dq : ∀ i, i < r.W → Dq w (.pointer (some ⟨r.q i, 0, none⟩)) 64 (c.hands.getD i []) (fun k => k = r.q i)
  t3 : ∀ i, T3 (c.hands.getD i [])
  did : w.ownsRow 0 51 3 vd c.did.length (tc c.did)
  d3 : T3 c.did
  gR : ¬ r.R r.g
  gga : r.g ≠ ga
  qo : ∀ i, i < r.W → ¬ r.R (r.q i) ∧ r.q i ≠ r.g ∧ r.q i ≠ ga ∧ vd.ownBlock ≠ some (r.q i)
  qq : ∀ i j, i < r.W → j < r.W → i ≠ j → r.q i ≠ r.q j
  vdo : ∀ b, vd.ownBlock = some b → b ≠ r.g ∧ ¬ r.R b ∧ b ≠ ga

section
variable {r : Fx} {w w' : World} {ga : Nat} {vd : Value} {c : Crw}

theorem Rn.old (h : Rn r w ga vd c) (b : Nat) (hb : RnO r ga vd b) : b < w.heap.size := by
  rcases hb with rfl | rfl | hb | hb | ⟨i, hi, rfl⟩
  · exact h.blk.lt
  · exact h.arr.lt
  · exact h.ron b hb
  · exact (owns_in h.did hb).1
  · exact (h.dq i hi).old _ rfl
theorem Rn.kept (h : Rn r w ga vd c) (hk : ∀ b, RnO r ga vd b → w'.heap[b]? = w.heap[b]?) (hs : w.heap.size ≤ w'.heap.size) : Rn r w' ga vd c :=
  { h with
    blk := h.blk.block (hk _ (.inl rfl))
    ro := h.ro.kept fun k q => hk k (.inr (.inr (.inl q)))
    ron := fun k q => Nat.lt_of_lt_of_le (h.ron k q) hs
    arr := h.arr.block (hk _ (.inr (.inl rfl)))
    dq := fun i hi => (h.dq i hi).kept fun k e => hk k (.inr (.inr (.inr (.inr ⟨i, hi, e⟩))))
    did := owns_at h.did fun b hb => hk b (.inr (.inr (.inr (.inl hb)))) }
theorem Rn.below (h : Rn r w ga vd c) (hb : Below w.heap.size w w') : Rn r w' ga vd c := h.kept (fun b q => hb.block b (h.old b q)) hb.size
theorem Rn.but {O : Nat → Prop} (h : Rn r w ga vd c) (hb : But O w w') (hO : ∀ b, RnO r ga vd b → ¬ O b) : Rn r w' ga vd c := h.kept (fun b q => hb.block b (h.old b q) (hO b q)) hb.size
/-- What the fields read. -/
theorem Rn.f0 (h : Rn r w ga vd c) : w.cell? ⟨r.g, 0, none⟩ = some r.vs := h.blk.cell 0
theorem Rn.f1 (h : Rn r w ga vd c) : w.cell? ⟨r.g, 1, none⟩ = some (.slice (some ⟨ga, 0, none⟩) (prd2 r.ds) (prd2 r.ds)) := h.blk.cell 1
theorem Rn.f2 (h : Rn r w ga vd c) : w.cell? ⟨r.g, 2, none⟩ = some (.slice (some ⟨r.gl, 0, none⟩) r.L.length r.L.length) := h.blk.cell 2
theorem Rn.f3 (h : Rn r w ga vd c) : w.cell? ⟨r.g, 3, none⟩ = some (.int .i64 (c.phase : Int)) := h.blk.cell 3
theorem Rn.f4 (h : Rn r w ga vd c) : w.cell? ⟨r.g, 4, none⟩ = some (.slice (some ⟨r.gd, 0, none⟩) r.W r.W) := h.blk.cell 4
theorem Rn.f5 (h : Rn r w ga vd c) : w.cell? ⟨r.g, 5, none⟩ = some vd := h.blk.cell 5
theorem Rn.f6 (h : Rn r w ga vd c) : w.cell? ⟨r.g, 6, none⟩ = some (.bool r.back) := h.blk.cell 6
theorem Rn.qcell (h : Rn r w ga vd c) (i : Nat) (hi : i < r.W) : w.cell? ⟨r.gd, i, none⟩ = some (.pointer (some ⟨r.q i, 0, none⟩)) := (h.ro.now.2.2.2.cell i).trans (ptrs_get _ _ _ hi)
theorem Rn.pcell (h : Rn r w ga vd c) (i : Nat) (hi : i < r.L.length) : w.cell? ⟨r.gl, i, none⟩ = some (r.pv i) := (h.ro.now.2.1.cell i).trans (pvs_get _ _ _ hi)
theorem Rn.isR (h : Rn r w ga vd c) (i : Nat) (hi : i < r.L.length) : IsR 3 w (r.pv i) (r.L.getD i []) := h.ro.now.2.2.1 i hi
theorem Rn.isZ (h : Rn r w ga vd c) : IsZ w r.vs r.zs := h.ro.now.1
theorem Rn.isU (h : Rn r w ga vd c) (h9 : prd2 r.ds ≤ 1024) : IsU w (.slice (some ⟨ga, 0, none⟩) (prd2 r.ds) (prd2 r.ds)) c.A := h.arr.isUN (Rng_of_P h.lt) (by rw [h.al]; omega) h.al

theorem getD_set_eq {α : Type} (H : List (List α)) (v u : Nat) (hv : v < H.length) (m : List α) : (H.set v m).getD u [] = if u = v then m else H.getD u [] := by
  by_cases e : u = v
  · subst e; rw [if_pos rfl, getD_set_self _ _ hv]
  · rw [if_neg e, getD_set_ne _ _ _ (Ne.symm e)]
/-- Another list in one deque. -/
theorem Rn.hand (h : Rn r w ga vd c) (i : Nat) (hi : i < r.W) (m : List (List Int)) (hT : T3 m) (hD : Dq w' (.pointer (some ⟨r.q i, 0, none⟩)) 64 m (fun k => k = r.q i)) (hb : But (fun k => k = r.q i) w w') :
    Rn r w' ga vd { c with hands := c.hands.set i m } := by
  have hi2 : i < c.hands.length := by rw [h.hc]; exact hi
  have hk : ∀ b, b < w.heap.size → b ≠ r.q i → w'.heap[b]? = w.heap[b]? := fun b h1 h2 => hb.block b h1 h2
  have q := h.qo i hi
  refine { h with blk := ?_, ro := ?_, ron := ?_, arr := ?_, hc := ?_, dq := ?_, t3 := ?_, did := ?_ }
  · exact h.blk.block (hk _ h.blk.lt (Ne.symm q.2.1))
  · exact h.ro.kept fun k hR => hk k (h.ron k hR) fun e => q.1 (e ▸ hR)
  · exact fun k hR => Nat.lt_of_lt_of_le (h.ron k hR) hb.size
  · exact h.arr.block (hk _ h.arr.lt (Ne.symm q.2.2.1))
  · simp only [List.length_set]; exact h.hc
  · intro j hj
    simp only [getD_set_eq _ _ _ hi2]
    by_cases e : j = i
    · subst e; rw [if_pos rfl]; exact hD
    · rw [if_neg e]
      exact (h.dq j hj).kept fun k e2 => hk k ((h.dq j hj).old k e2) (by rw [e2]; exact h.qq j i hj hi e)
  · intro j
    simp only [getD_set_eq _ _ _ hi2]
    by_cases e : j = i
    · rw [if_pos e]; exact hT
    · rw [if_neg e]; exact h.t3 j
  · exact owns_at h.did fun b hb2 => hk b (owns_in h.did hb2).1 fun e => q.2.2.2 (e ▸ hb2)
/-- Another array. -/
theorem Rn.array (h : Rn r w ga vd c) (hb : Below w.heap.size w w') (g2 : Nat) (A : List Nat) (hg : w.heap.size ≤ g2) (hlt : ∀ x ∈ A, x < P) (hl : A.length = prd2 r.ds) (hrow : RowU w' g2 A) :
    Rn r (w'.setCell ⟨r.g, 1, none⟩ (.slice (some ⟨g2, 0, none⟩) (prd2 r.ds) (prd2 r.ds))) g2 vd { c with A := A } ∧ ∀ b, RnO r g2 vd b → RnO r ga vd b ∨ w.heap.size ≤ b := by
  have h' := h.below hb
  have hset : ∀ b, b ≠ r.g → (w'.setCell ⟨r.g, 1, none⟩ (.slice (some ⟨g2, 0, none⟩) (prd2 r.ds) (prd2 r.ds))).heap[b]? = w'.heap[b]? := fun b hb => Below.heap_setCell _ _ _ _ hb
  have l0 := h.blk.lt
  refine ⟨{ h' with blk := ?_, ro := ?_, ron := ?_, arr := ?_, lt := hlt, al := hl, dq := ?_, did := ?_, gga := ?_, qo := ?_, vdo := ?_ }, fun b q => ?_⟩
  · exact h'.blk.set 1 (.slice (some ⟨g2, 0, none⟩) (prd2 r.ds) (prd2 r.ds))
  · exact h'.ro.kept fun k hR => hset k fun e => h.gR (e ▸ hR)
  · intro k hR; simpa [World.setCell] using h'.ron k hR
  · exact hrow.block (hset g2 (by omega))
  · exact fun i hi => (h'.dq i hi).kept fun k e => hset k (by rw [e]; exact (h.qo i hi).2.1)
  · exact owns_at h'.did fun b q => hset b (h.vdo b q).1
  · omega
  · intro i hi
    have q := h.qo i hi
    have := (h.dq i hi).old _ rfl
    exact ⟨q.1, q.2.1, by omega, q.2.2.2⟩
  · intro b q
    have := (owns_in h.did q).1
    exact ⟨(h.vdo b q).1, (h.vdo b q).2.1, by omega⟩
  · rcases q with q | q | q | q | q
    · exact .inl (.inl q)
    · exact .inr (by omega)
    · exact .inl (.inr (.inr (.inl q)))
    · exact .inl (.inr (.inr (.inr (.inl q))))
    · exact .inl (.inr (.inr (.inr (.inr q))))
/-- Another log. -/
theorem Rn.log (h : Rn r w ga vd c) (v : Value) (T : List (List Int)) (hT : T3 T) (hown : w'.ownsRow 0 51 3 v T.length (tc T)) (hk : ∀ b, b < w.heap.size → vd.ownBlock ≠ some b → w'.heap[b]? = w.heap[b]?) (hs : w.heap.size ≤ w'.heap.size)
    (hat' : ∀ b, v.ownBlock = some b → vd.ownBlock = some b ∨ w.heap.size ≤ b) :
    Rn r (w'.setCell ⟨r.g, 5, none⟩ v) ga v { c with did := T } ∧ ∀ b, RnO r ga v b → RnO r ga vd b ∨ w.heap.size ≤ b := by
  have hset : ∀ b, b ≠ r.g → (w'.setCell ⟨r.g, 5, none⟩ v).heap[b]? = w'.heap[b]? := fun b hb => Below.heap_setCell _ _ _ _ hb
  have hkeep : ∀ b, b < w.heap.size → vd.ownBlock ≠ some b → b ≠ r.g → (w'.setCell ⟨r.g, 5, none⟩ v).heap[b]? = w.heap[b]? := fun b h1 h2 h3 => (hset b h3).trans (hk b h1 h2)
  have l0 := h.blk.lt
  have l1 := h.arr.lt
  have key : ∀ b, v.ownBlock = some b → b ≠ r.g ∧ ¬ r.R b ∧ b ≠ ga ∧ ∀ j, j < r.W → b ≠ r.q j := fun b hb => by
    rcases hat' b hb with q | q
    · exact ⟨(h.vdo b q).1, (h.vdo b q).2.1, (h.vdo b q).2.2, fun j hj e => (h.qo j hj).2.2.2 (e ▸ q)⟩
    · exact ⟨by omega, fun e => by have := h.ron b e; omega, by omega, fun j hj e => by have := (h.dq j hj).old _ rfl; omega⟩
  have hg' : RowV 111 w' r.g (runF r ga vd c.phase) := h.blk.block (hk _ l0 fun e => (h.vdo _ e).1 rfl)
  refine ⟨{ h with blk := ?_, ro := ?_, ron := ?_, arr := ?_, dq := ?_, did := ?_, d3 := hT, qo := ?_, vdo := ?_ }, fun b q => ?_⟩
  · exact hg'.set 5 v
  · exact h.ro.kept fun k hR => hkeep k (h.ron k hR) (fun e => (h.vdo k e).2.1 hR) fun e => h.gR (e ▸ hR)
  · intro k hR
    have := h.ron k hR
    simp [World.setCell]; omega
  · exact h.arr.block (hkeep ga l1 (fun e => (h.vdo _ e).2.2 rfl) (Ne.symm h.gga))
  · exact fun i hi => (h.dq i hi).kept fun k e => hkeep k ((h.dq i hi).old k e) (by rw [e]; exact (h.qo i hi).2.2.2) (by rw [e]; exact (h.qo i hi).2.1)
  · exact owns_at hown fun b q => hset b (key b q).1
  · exact fun i hi => ⟨(h.qo i hi).1, (h.qo i hi).2.1, (h.qo i hi).2.2.1, fun e => (key _ e).2.2.2 i hi rfl⟩
  · exact fun b q => ⟨(key b q).1, (key b q).2.1, (key b q).2.2.1⟩
  · rcases q with q | q | q | q | q
    · exact .inl (.inl q)
    · exact .inl (.inr (.inl q))
    · exact .inl (.inr (.inr (.inl q)))
    · rcases hat' b q with q | q
      · exact .inl (.inr (.inr (.inr (.inl q))))
      · exact .inr q
    · exact .inl (.inr (.inr (.inr (.inr q))))
/-- Another phase. -/
theorem Rn.phased (h : Rn r w ga vd c) (n : Nat) : Rn r (w.setCell ⟨r.g, 3, none⟩ (.int .i64 (n : Int))) ga vd { c with phase := n } := by
  have hset : ∀ b, b ≠ r.g → (w.setCell ⟨r.g, 3, none⟩ (.int .i64 (n : Int))).heap[b]? = w.heap[b]? := fun b hb => Below.heap_setCell _ _ _ _ hb
  refine { h with blk := ?_, ro := ?_, ron := ?_, arr := ?_, dq := ?_, did := ?_ }
  · exact h.blk.set 3 (.int .i64 (n : Int))
  · exact h.ro.kept fun k hR => hset k fun e => h.gR (e ▸ hR)
  · intro k hR; simpa [World.setCell] using h.ron k hR
  · exact h.arr.block (hset ga (Ne.symm h.gga))
  · exact fun i hi => (h.dq i hi).kept fun k e => hset k (by rw [e]; exact (h.qo i hi).2.1)
  · exact owns_at h.did fun b q => hset b (h.vdo b q).1
theorem Rn.frozen (h : Rn r w ga vd c) (i : Nat) : w.frozen? ⟨r.g, i, none⟩ = false := h.blk.frozen i
/-- What is told of a run beside its memory may be told otherwise. -/
theorem Rn.told (h : Rn r w ga vd c) (l : Nat) (f : Bool) : Rn r w ga vd { c with left := l, fin := f } := { h with }
theorem But.mono {O O' : Nat → Prop} {w w' : World} (h : But O w w') (hO : ∀ k, O k → O' k) : But O' w w' := ⟨h.os, h.tape, h.output, h.size, fun k hk hn => h.block k hk fun q => hn (hO k q)⟩
theorem But.set {O : Nat → Prop} {w w' : World} (h : But O w w') (b i : Nat) (u : Value) (hb : O b) : But O w (w'.setCell ⟨b, i, none⟩ u) :=
  ⟨h.os, h.tape, h.output, by simpa [World.setCell] using h.size, fun k hk hn => (Below.heap_setCell _ _ _ _ (fun e => hn (by cases e; exact hb))).trans (h.block k hk hn)⟩
theorem But.andBelow {O : Nat → Prop} {a b d : World} (h : But O a b) (k : Below b.heap.size b d) : But O a d := h.trans (O' := fun _ => False) (But.of_below k) fun _ q => absurd q id
end

end Go.Proofs.YtgkepflnnoociagDoor

/-! Slices that are appended to or cloned: tasks, numbers, ints. -/
namespace Go.Proofs.YtgkepflnnoociagDoor
open Go.RowKit

theorem step_appendQ {ops : Array Oper} {o : Oper} {a : Act} {K : Act → World → Prop} {Q : Exit → Act → World → Prop} {E : Prop} {w : World} {B : Nat} (hgd : o.guard = none) (s x : Operand)
    (ho : o.op = .call { callee := .builtin .append, args := #[s, x], argTypes := #[61, 61] }) (v : Value) (n : Nat) (xs : List Value) (p q r : Int)
    (hs : a.eval s = v) (hx : a.eval x = .slice (some ⟨w.heap.size, 0, none⟩) 1 1) (hown : w.ownsRow B 51 3 v n xs)
    (hn : n ≤ 1000000) (hB : B ≤ w.heap.size)
    (h : ∀ g cap w', w'.ownsRow B 51 3 (.slice (some ⟨g, 0, none⟩) (n + 1) cap) (n + 1) (xs ++ [.int .i64 p, .int .i64 q, .int .i64 r]) → Hid ((w.alloc (.cells #[.int .i64 p, .int .i64 q, .int .i64 r] 51)).grownBy w' v.ownBlock) → Hid (v.ownBlock = some g ∨ w.heap.size ≤ g) → K (a.put o.dst (.slice (some ⟨g, 0, none⟩) (n + 1) cap)) w') :
    if Region.wanted o (yielded ops a.tmps) = true then Oper.wp Tryd.prog o a (w.alloc (.cells #[.int .i64 p, .int .i64 q, .int .i64 r] 51)) K Q else E := by
  obtain ⟨i0, hi, hz0, hz1, hz2⟩ := info_3 info_task
  refine step_append_lies _ hgd s x 61 ho B 51 i0 (.agg #[.int .i64 0, .int .i64 0, .int .i64 0]) 3 24 Tryd.underlying61 hi hz0 hz1 hz2 rfl (by decide) v n xs hs (hown.alloc _) ⟨w.heap.size, 0, none⟩ 1 1 [.int .i64 p, .int .i64 q, .int .i64 r] hx rfl ?_ ?_ (by decide) ?_ ?_ ?_ _ rfl ?_
  · exact World.news_of_block (heap_alloc_new w _)
  · intro u hu
    simp only [List.mem_cons, List.not_mem_nil, or_false] at hu
    rcases hu with rfl | rfl | rfl <;> rfl
  · unfold maxLen; omega
  · omega
  · simp; omega
  · intro g cap w' hown' hgrow hat _
    have hal : (w.alloc (.cells #[.int .i64 p, .int .i64 q, .int .i64 r] 51)).heap.size = w.heap.size + 1 := by simp
    refine h g cap w' hown' hgrow ?_
    rcases hat with h1 | h1
    · exact .inl h1
    · exact .inr (by rw [h1, hal]; omega)

theorem But.of_grown {w w' : World} {o : Obj} {v : Value} {O : Nat → Prop} (h : (w.alloc o).grownBy w' v.ownBlock) (hO : ∀ b, v.ownBlock = some b → O b) : But O w w' :=
  ⟨h.os, h.tape, h.output, by have := h.size; simp at this; omega, fun k hk hn => (h.block k (by simp; omega) (fun e => hn (hO k e.symm))).trans (Below.heap_alloc _ _ _ hk)⟩

/-- Nothing is appended. -/
theorem wp_append0 {ops : Array Oper} {rest : List Oper} {o : Oper} {a : Act} {Q : Exit → Act → World → Prop} {w : World} (hgd : o.guard = none) (s x : Operand)
    (ho : o.op = .call { callee := .builtin .append, args := #[s, x], argTypes := #[61, 61] }) (base : Option Addr) (n m : Nat) (ad : Addr) (c : Nat)
    (hs : a.eval s = .slice base n m) (hnm : n ≤ m) (hx : a.eval x = .slice (some ad) 0 c)
    (h : wpList Tryd.prog ops Q rest (a.put o.dst (.slice base n m)) w) :
    wpList Tryd.prog ops Q (o :: rest) a w := by
  obtain ⟨i0, hi, hz0, hz1, hz2⟩ := info_3 info_task
  have hr := run_append_nothing (P := Tryd.prog) w 61 61 o.type 51 i0 Tryd.underlying61 hi base n m hnm (.slice (some ad) 0 c) (Src.ofSlice w Tryd.underlying61 ad 0 c [] (by simp) (fun j u hj => by simp at hj) (fun u hu => by cases hu))
  refine wpList_plain hgd fun _ hK => ?_
  unfold Oper.wp execOp
  simp only [ho, resolve, invoke, builtin, Sem.run_bind, Sem.run_pure, Result.andThen_ok, List.map_toArray, List.map_cons, List.map_nil, hs, hx, hr]
  exact hK _ _ h
theorem wp_cloneQ {ops : Array Oper} {rest : List Oper} {o : Oper} {a : Act} {Q : Exit → Act → World → Prop} {w : World} (hgd : o.guard = none) (s x : Operand)
    (ho : o.op = .call { callee := .builtin .append, args := #[s, x], argTypes := #[61, 61] }) (ad : Addr) (c : Nat) (T : List (List Int)) (hT : T3 T)
    (hs : a.eval s = .slice (some ⟨w.heap.size, 0, none⟩) 0 0) (hx : a.eval x = .slice (some ad) T.length c) (hb : T.length ≤ 1000000)
    (hnews : ∀ j u, (tc T)[j]? = some u → (w.alloc (.cells #[] 51)).cell? (ad.add j) = some u)
    (h : ∀ g cap w', w'.ownsRow w.heap.size 51 3 (.slice (some ⟨g, 0, none⟩) T.length cap) T.length (tc T) → Below w.heap.size w w' → wpList Tryd.prog ops Q rest (a.put o.dst (.slice (some ⟨g, 0, none⟩) T.length cap)) w') :
    wpList Tryd.prog ops Q (o :: rest) a (w.alloc (.cells #[] 51)) := by
  obtain ⟨i0, hi, hz0, hz1, hz2⟩ := info_3 info_task
  have hown := World.ownsRow_lit (base := w.heap.size) (e := 51) (size := 3) w #[] 0 (Nat.le_refl _) (by simp [maxLen]) rfl
  have hbl := below_alloc1 w (.cells #[] 51)
  by_cases hn : 0 < T.length
  · refine wpList_append_lies _ hgd s x 61 ho w.heap.size 51 i0 (.agg #[.int .i64 0, .int .i64 0, .int .i64 0]) 3 24 Tryd.underlying61 hi hz0 hz1 hz2 rfl (by decide) _ 0 [] hs hown ad T.length c (tc T) hx (tc_length hT) hnews tc_one' hn ?_ ?_ ?_ _ rfl ?_
    · unfold maxLen; omega
    · omega
    · exact hbl.size
    · intro g cap w' hown' hgrow _ _
      rw [Nat.zero_add, List.nil_append] at hown'
      rw [Nat.zero_add]
      exact h g cap w' hown' (hbl.grown hgrow hbl.size (fun k hk => by simp [Value.ownBlock] at hk; omega))
  · have e : T = [] := List.eq_nil_of_length_eq_zero (by omega)
    subst e
    exact wp_append0 hgd s x ho _ 0 0 ad c hs (Nat.le_refl _) hx (h _ 0 _ hown hbl)
set_option maxHeartbeats 1000000 in
theorem slices_CloneQ (w : World) (b off n cap : Nat) (T : List (List Int)) (hT3 : T3 T) (hn : n = T.length) (hb : T.length ≤ 1000000)
    (hcell : ∀ i, i < T.length → ∀ j, j < 3 → w.cell? ⟨b, off + (i * 3 + j), none⟩ = some (.int .i64 ((T.getD i []).getD j 0))) :
    Calls Tryd.prog 88 #[.slice (some ⟨b, off, none⟩) n cap] w fun e w' => ∃ g cap, e = .returned (.slice (some ⟨g, 0, none⟩) n cap) ∧ w'.ownsRow w.heap.size 51 3 (.slice (some ⟨g, 0, none⟩) n cap) n (tc T) ∧ Below w.heap.size w w' := by
  subst hn
  have hnil := fun (W : World) => Go.Lib.run_eql_slice_nil (P := Tryd.prog) W 61 51 (some ⟨b, off, none⟩) T.length cap 0 0 Tryd.underlying61
  go_enter Tryd.func88, Tryd.ntmps88
  have hnews := tc_cells (w := w.alloc (.cells #[] 51)) (a := ⟨b, off, none⟩) hT3 (fun i hi j hj => by
    have h1 := hcell i hi j hj
    rw [Go.WideShapes.add_plain]
    exact ((below_alloc1 w (.cells #[] 51)).cell (block_lt h1)).trans h1)
  clear hcell
  go_wp2_with (first
    | simp only [hnil]
    | (at_builtin; refine wp_cloneQ rfl _ _ rfl ⟨b, off, none⟩ cap T hT3 rfl rfl hb hnews ?_; intro g c2 w2 hown hbl))
  go_ret
  exact ⟨g, c2, rfl, hown, hbl⟩
/-- .. of none. -/
theorem slices_CloneQ0 (w : World) :
    Calls Tryd.prog 88 #[.slice none 0 0] w fun e w' => e = .returned (.slice none 0 0) ∧ w' = w := by
  have hnil := fun (W : World) => Go.Lib.run_eql_slice_nil (P := Tryd.prog) W 61 51 none 0 0 0 0 Tryd.underlying61
  go_enter Tryd.func88, Tryd.ntmps88
  go_wp2_with simp only [hnil]
  go_ret
  exact ⟨rfl, rfl⟩
/-- What slices.Clone answers of a run's log: a list of its own. -/
theorem clone_log (w : World) (v : Value) (T : List (List Int)) (B : Nat) (hT3 : T3 T) (hb : T.length ≤ 1000000) (h : w.ownsRow B 51 3 v T.length (tc T)) :
    Calls Tryd.prog 88 #[v] w fun e w' => ∃ u, e = .returned u ∧ w'.ownsRow w.heap.size 51 3 u T.length (tc T) ∧ Below w.heap.size w w' := by
  rcases h.2 with ⟨rfl, h0⟩ | ⟨g, cap, cur, rfl, hg, hcell, h1, h2, h3, h4⟩
  · refine (slices_CloneQ0 w).mono ?_
    rintro e w' ⟨rfl, rfl⟩
    exact ⟨_, rfl, ⟨h.1, .inl ⟨rfl, h0⟩⟩, Below.refl _ _⟩
  · refine (slices_CloneQ w g 0 T.length cap T hT3 rfl hb (fun i hi j hj => ?_)).mono ?_
    · have q := tc_get hT3 i j hi hj
      rw [← h4, List.getElem?_take, if_pos (by omega)] at q
      rw [Nat.zero_add]
      simp only [World.cell?, hcell]
      rw [← Array.getElem?_toList, q]; rfl
    · rintro e w' ⟨g2, c2, rfl, hown, hb2⟩
      exact ⟨_, rfl, hown, hb2⟩

theorem info_U : (Tryd.prog.info? 27).map (fun i => (i.zero, i.size, i.bytes)) = some (some (.int .u64 0), 1, 8) := by kernel_rfl
theorem info_Z : (Tryd.prog.info? 3).map (fun i => (i.zero, i.size, i.bytes)) = some (some (.int .i64 0), 1, 8) := by kernel_rfl
def cellsZ (zs : List Int) : List Value := zs.map fun z => Value.int .i64 z
theorem cellsZ_get (zs : List Int) (i : Nat) (h : i < zs.length) : (cellsZ zs)[i]? = some (.int .i64 (zs.getD i 0)) := by simp [cellsZ, List.getD, h]

theorem wp_cloneU {ops : Array Oper} {rest : List Oper} {o : Oper} {a : Act} {Q : Exit → Act → World → Prop} {w : World} (hgd : o.guard = none) (s x : Operand)
    (ho : o.op = .call { callee := .builtin .append, args := #[s, x], argTypes := #[23, 23] }) (ad : Addr) (c : Nat) (xs : List Nat)
    (hs : a.eval s = .slice (some ⟨w.heap.size, 0, none⟩) 0 0) (hx : a.eval x = .slice (some ad) xs.length c) (hn : 0 < xs.length) (hb : xs.length ≤ 1000000)
    (hnews : ∀ j u, (cellsU xs)[j]? = some u → (w.alloc (.cells #[] 27)).cell? (ad.add j) = some u)
    (h : ∀ g cap w', w'.ownsRow w.heap.size 27 1 (.slice (some ⟨g, 0, none⟩) xs.length cap) xs.length (cellsU xs) → Below w.heap.size w w' → wpList Tryd.prog ops Q rest (a.put o.dst (.slice (some ⟨g, 0, none⟩) xs.length cap)) w') :
    wpList Tryd.prog ops Q (o :: rest) a (w.alloc (.cells #[] 27)) := by
  obtain ⟨i0, hi, hz0, hz1, hz2⟩ := info_3 info_U
  have hown := World.ownsRow_lit (base := w.heap.size) (e := 27) (size := 1) w #[] 0 (Nat.le_refl _) (by simp [maxLen]) rfl
  have hbl := below_alloc1 w (.cells #[] 27)
  refine wpList_append_lies _ hgd s x 23 ho w.heap.size 27 i0 (.int .u64 0) 1 8 Tryd.underlying23 hi hz0 hz1 hz2 rfl (by decide) _ 0 [] hs hown ad xs.length c (cellsU xs) hx (by simp [cellsU]) hnews (fun u hu => by unfold cellsU at hu; obtain ⟨z, _, rfl⟩ := List.mem_map.mp hu; rfl) hn ?_ ?_ ?_ _ rfl ?_
  · unfold maxLen; omega
  · omega
  · exact hbl.size
  · intro g cap w' hown' hgrow _ _
    rw [Nat.zero_add, List.nil_append] at hown'
    rw [Nat.zero_add]
    exact h g cap w' hown' (hbl.grown hgrow hbl.size (fun k hk => by simp [Value.ownBlock] at hk; omega))
set_option maxHeartbeats 1000000 in
theorem slices_CloneU (w : World) (v : Value) (xs : List Nat) (h : IsU w v xs) (hn : 0 < xs.length) (hb : xs.length ≤ 1000000) :
    Calls Tryd.prog 18 #[v] w fun e w' => ∃ g cap, e = .returned (.slice (some ⟨g, 0, none⟩) xs.length cap) ∧ w'.ownsRow w.heap.size 27 1 (.slice (some ⟨g, 0, none⟩) xs.length cap) xs.length (cellsU xs) ∧ Below w.heap.size w w' := by
  obtain ⟨a, cap, rfl, hcap, hmax, hc, -⟩ := h
  obtain ⟨b, off, rfl, -⟩ := hc 0 hn
  have hnews : ∀ j u, (cellsU xs)[j]? = some u → (w.alloc (.cells #[] 27)).cell? ((⟨b, off, none⟩ : Addr).add j) = some u := fun j u hj => by
    rcases Nat.lt_or_ge j xs.length with q | q
    · obtain ⟨b', off', e, hce⟩ := hc j q
      simp only [Option.some.injEq, Addr.mk.injEq, and_true] at e
      obtain ⟨rfl, rfl⟩ := e
      rw [cellsU_get xs j q] at hj
      rw [Go.WideShapes.add_plain, ← hj, ← hce]
      exact (below_alloc1 w (.cells #[] 27)).cell (block_lt hce)
    · rw [List.getElem?_eq_none (by simp [cellsU]; omega)] at hj; cases hj
  clear hc
  have hnil := fun (W : World) => Go.Lib.run_eql_slice_nil (P := Tryd.prog) W 23 27 (some ⟨b, off, none⟩) xs.length cap 0 0 Tryd.underlying23
  go_enter Tryd.func18, Tryd.ntmps18
  go_wp2_with (first
    | simp only [hnil]
    | (at_builtin; refine wp_cloneU rfl _ _ rfl ⟨b, off, none⟩ cap xs rfl rfl hn hb hnews ?_; intro g c2 w2 hown hbl))
  go_ret
  exact ⟨g, c2, rfl, hown, hbl⟩

theorem wp_cloneZ {ops : Array Oper} {rest : List Oper} {o : Oper} {a : Act} {Q : Exit → Act → World → Prop} {w : World} (hgd : o.guard = none) (s x : Operand)
    (ho : o.op = .call { callee := .builtin .append, args := #[s, x], argTypes := #[22, 22] }) (ad : Addr) (c : Nat) (xs : List Int)
    (hs : a.eval s = .slice (some ⟨w.heap.size, 0, none⟩) 0 0) (hx : a.eval x = .slice (some ad) xs.length c) (hn : 0 < xs.length) (hb : xs.length ≤ 1000000)
    (hnews : ∀ j u, (cellsZ xs)[j]? = some u → (w.alloc (.cells #[] 3)).cell? (ad.add j) = some u)
    (h : ∀ g cap w', w'.ownsRow w.heap.size 3 1 (.slice (some ⟨g, 0, none⟩) xs.length cap) xs.length (cellsZ xs) → Below w.heap.size w w' → wpList Tryd.prog ops Q rest (a.put o.dst (.slice (some ⟨g, 0, none⟩) xs.length cap)) w') :
    wpList Tryd.prog ops Q (o :: rest) a (w.alloc (.cells #[] 3)) := by
  obtain ⟨i0, hi, hz0, hz1, hz2⟩ := info_3 info_Z
  have hown := World.ownsRow_lit (base := w.heap.size) (e := 3) (size := 1) w #[] 0 (Nat.le_refl _) (by simp [maxLen]) rfl
  have hbl := below_alloc1 w (.cells #[] 3)
  refine wpList_append_lies _ hgd s x 22 ho w.heap.size 3 i0 (.int .i64 0) 1 8 Tryd.underlying22 hi hz0 hz1 hz2 rfl (by decide) _ 0 [] hs hown ad xs.length c (cellsZ xs) hx (by simp [cellsZ]) hnews (fun u hu => by unfold cellsZ at hu; obtain ⟨z, _, rfl⟩ := List.mem_map.mp hu; rfl) hn ?_ ?_ ?_ _ rfl ?_
  · unfold maxLen; omega
  · omega
  · exact hbl.size
  · intro g cap w' hown' hgrow _ _
    rw [Nat.zero_add, List.nil_append] at hown'
    rw [Nat.zero_add]
    exact h g cap w' hown' (hbl.grown hgrow hbl.size (fun k hk => by simp [Value.ownBlock] at hk; omega))
set_option maxHeartbeats 1000000 in
theorem slices_CloneZ (w : World) (v : Value) (xs : List Int) (h : IsZ w v xs) (hn : 0 < xs.length) (hb : xs.length ≤ 1000000) :
    Calls Tryd.prog 38 #[v] w fun e w' => ∃ g cap, e = .returned (.slice (some ⟨g, 0, none⟩) xs.length cap) ∧ w'.ownsRow w.heap.size 3 1 (.slice (some ⟨g, 0, none⟩) xs.length cap) xs.length (cellsZ xs) ∧ Below w.heap.size w w' := by
  obtain ⟨a, cap, rfl, hcap, hmax, hc, -⟩ := h
  obtain ⟨b, off, rfl, -⟩ := hc 0 hn
  have hnews : ∀ j u, (cellsZ xs)[j]? = some u → (w.alloc (.cells #[] 3)).cell? ((⟨b, off, none⟩ : Addr).add j) = some u := fun j u hj => by
    rcases Nat.lt_or_ge j xs.length with q | q
    · obtain ⟨b', off', e, hce⟩ := hc j q
      simp only [Option.some.injEq, Addr.mk.injEq, and_true] at e
      obtain ⟨rfl, rfl⟩ := e
      rw [cellsZ_get xs j q] at hj
      rw [Go.WideShapes.add_plain, ← hj, ← hce]
      exact (below_alloc1 w (.cells #[] 3)).cell (block_lt hce)
    · rw [List.getElem?_eq_none (by simp [cellsZ]; omega)] at hj; cases hj
  clear hc
  have hnil := fun (W : World) => Go.Lib.run_eql_slice_nil (P := Tryd.prog) W 22 3 (some ⟨b, off, none⟩) xs.length cap 0 0 Tryd.underlying22
  go_enter Tryd.func38, Tryd.ntmps38
  go_wp2_with (first
    | simp only [hnil]
    | (at_builtin; refine wp_cloneZ rfl _ _ rfl ⟨b, off, none⟩ cap xs rfl rfl hn hb hnews ?_; intro g c2 w2 hown hbl))
  go_ret
  exact ⟨g, c2, rfl, hown, hbl⟩

theorem IsZ.of_owns {w : World} {base e n : Nat} {v : Value} {zs : List Int} (h : w.ownsRow base e 1 v n (cellsZ zs)) (hr : ∀ z ∈ zs, -9223372036854775808 ≤ z ∧ z ≤ 9223372036854775807) : IsZ w v zs := by
  have hlen := h.1
  rw [Nat.mul_one] at hlen
  have hl : zs.length = n := by simpa [cellsZ] using hlen
  subst hl
  rcases h.2 with ⟨rfl, hn⟩ | ⟨g, cap, cur, rfl, hg, hh, h1, h2, h3, h4⟩
  · exact ⟨none, 0, by rw [hn], by omega, by simp [maxLen], fun i hi => by omega, hr⟩
  · refine ⟨some ⟨g, 0, none⟩, cap, rfl, h1, h2, fun i hi => ⟨g, 0, rfl, ?_⟩, hr⟩
    have q := cellsZ_get zs i hi
    rw [← h4, List.getElem?_take, if_pos (by omega)] at q
    rw [Nat.zero_add]
    simp only [World.cell?, hh]
    rw [← Array.getElem?_toList, q]; rfl
theorem IsZ.at {w w' : World} {v : Value} {zs : List Int} (h : IsZ w v zs) (hk : ∀ b, v.ownBlock = some b → w'.heap[b]? = w.heap[b]?) : IsZ w' v zs := by
  obtain ⟨a, cap, rfl, h1, h2, hc, hr⟩ := h
  refine ⟨a, cap, rfl, h1, h2, fun i hi => ?_, hr⟩
  obtain ⟨b, off, rfl, hcell⟩ := hc i hi
  exact ⟨b, off, rfl, (World.cell?_of_block (w := w) (hk b rfl)).trans hcell⟩
theorem IsR.at {k : Nat} {w w' : World} {v : Value} {T : List (List Int)} (h : IsR k w v T) (hk : ∀ b, v.ownBlock = some b → w'.heap[b]? = w.heap[b]?) : IsR k w' v T := by
  obtain ⟨a, cap, rfl, h1, h2, hc, hr⟩ := h
  refine ⟨a, cap, rfl, h1, h2, fun i hi => ?_, hr⟩
  obtain ⟨b, off, rfl, hcell⟩ := hc i hi
  exact ⟨b, off, rfl, fun j hj => (World.cell?_of_block (w := w) (hk b rfl)).trans (hcell j hj)⟩

end Go.Proofs.YtgkepflnnoociagDoor
