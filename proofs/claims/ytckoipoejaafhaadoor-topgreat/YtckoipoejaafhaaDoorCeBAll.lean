/-
  Texts that stood one behind the other, as one.
-/
import Derived.Test.YtckoipoejaafhaaDoorCdKAll
import Derived.Orders
import Derived.Test.YtckoipoejaafhaaDoorRows
import Derived.WalkKit
import Derived.WalkSpells
import Derived.WalkLawsBesides
import Derived.Test.YtckoipoejaafhaaDoorCcVAll
import Derived.Test.YtckoipoejaafhaaDoorProg
import Derived.Test.YtckoipoejaafhaaDoorCcPAll
import Derived.Test.YtckoipoejaafhaaDoorChecked
import Derived.Conc.WgGenN3
namespace Go.Proofs.YtckoipoejaafhaaDoor.Cc
open Go Go.Conc
open Go.ConcR (Payload)
def ordL (ops : Array Oper) (fuel t : Nat) (listed : Array Bool) : List Nat := Region.linearise.go .any ops fuel t listed []
theorem ord_cases (ops : Array Oper) (fuel t : Nat) (listed : Array Bool) :
    (Region.ready .any ops listed = [] ∧ ordL ops (fuel + 1) t listed = []) ∨ ∃ i t', i ∈ Region.ready .any ops listed ∧ ordL ops (fuel + 1) t listed = i :: ordL ops fuel t' (listed.setIfInBounds i true) := by
  have e : ordL ops (fuel + 1) t listed = (match (Region.ready .any ops listed)[t % (Region.ready .any ops listed).length]? with
      | some i => Region.linearise.go .any ops fuel (t / (Region.ready .any ops listed).length) (listed.setIfInBounds i true) [i]
      | none => [].reverse) := rfl
  cases hi : (Region.ready .any ops listed)[t % (Region.ready .any ops listed).length]? with
  | none =>
    have hnil : Region.ready .any ops listed = [] := by
      cases hr : Region.ready .any ops listed with
      | nil => rfl
      | cons x xs =>
        rw [hr] at hi
        have hlt : t % (x :: xs).length < (x :: xs).length := Nat.mod_lt _ (by simp)
        simp at hi
        simp at hlt
        omega
    refine .inl ⟨hnil, ?_⟩
    rw [e, hi]
    rfl
  | some i =>
    refine .inr ⟨i, t / (Region.ready .any ops listed).length, List.mem_of_getElem? hi, ?_⟩
    rw [e, hi]
    simp only []
    rw [linearise_go_acc, List.reverse_singleton, List.singleton_append]
    rfl
structure Ag (ops : Array Oper) (fin σ0 : Nat → Value) (listed : Array Bool) (σ : Nat → Value) : Prop where
  don : ∀ (i : Nat) (o : Oper) (d : Nat), ops[i]? = some o → o.dst = some d → listed[i]? = some true → σ d = fin d
  non : ∀ d, (∀ (i : Nat) (o : Oper), ops[i]? = some o → o.dst = some d → listed[i]? ≠ some true) → σ d = σ0 d
theorem Ag.start (ops : Array Oper) (fin σ0 : Nat → Value) : Ag ops fin σ0 (Array.replicate ops.size false) σ0 := by
  refine ⟨fun i o d _ _ h => ?_, fun d _ => rfl⟩
  rw [Array.getElem?_replicate] at h
  split at h <;> simp at h
theorem set_true {listed : Array Bool} {i j : Nat} (h : listed[j]? = some true) : (listed.setIfInBounds i true)[j]? = some true := by
  rw [Array.getElem?_setIfInBounds]
  split
  · have := (Array.getElem?_eq_some_iff.1 h).1
    rename_i e
    rw [if_pos (by omega)]
  · exact h
theorem of_set_true {listed : Array Bool} {i j : Nat} (hne : j ≠ i) (h : (listed.setIfInBounds i true)[j]? = some true) : listed[j]? = some true := by
  rw [Array.getElem?_setIfInBounds, if_neg (by omega)] at h
  exact h
theorem Ag.put {ops : Array Oper} {fin σ0 σ : Nat → Value} {listed : Array Bool} (h : Ag ops fin σ0 listed σ) {i : Nat} {o : Oper} (ho : ops[i]? = some o) (hl : listed[i]? = some false) {v : Value} (hv : ∀ d, o.dst = some d → v = fin d) : Ag ops fin σ0 (listed.setIfInBounds i true) (put σ o.dst v) := by
  have hi : (listed.setIfInBounds i true)[i]? = some true := by
    have := (Array.getElem?_eq_some_iff.1 hl).1
    rw [Array.getElem?_setIfInBounds, if_pos rfl, if_pos this]
  refine ⟨fun j oj d hj hd hlj => ?_, fun d hd => ?_⟩
  · by_cases hji : j = i
    · subst hji
      rw [ho] at hj
      cases hj
      rw [hd]
      simp [Cc.put, ups, hv d hd]
    · have h2 := h.don j oj d hj hd (of_set_true hji hlj)
      cases hod : o.dst with
      | none => exact h2
      | some d' =>
        simp only [Cc.put, ups]
        split
        · rename_i e
          rw [hv d' hod, e]
        · exact h2
  · have h2 := h.non d fun j oj hj hdj hlj => hd j oj hj hdj (set_true hlj)
    cases hod : o.dst with
    | none => exact h2
    | some d' =>
      simp only [Cc.put, ups]
      rw [if_neg fun e => ?_]
      · exact h2
      · subst e
        exact hd i o ho hod hi
def depOk (ops : Array Oper) : Bool := ops.all fun o => o.op.operands.all fun x => match x with
  | .tmp t => (List.range ops.size).all fun j => !((ops[j]?).bind (·.dst) == some t) || o.after.any fun e => Region.binds .any e && e.on == j
  | _ => true
section
variable {ops : Array Oper} {fin σ0 σ : Nat → Value} {listed : Array Bool} {n : Nat}
theorem Ag.evs (hdep : depOk ops = true) (hfin : ∀ d, (∀ (i : Nat) (o : Oper), ops[i]? = some o → o.dst ≠ some d) → fin d = σ0 d) (h : Ag ops fin σ0 listed σ) {i : Nat} {o : Oper} (ho : ops[i]? = some o) (hr : i ∈ Region.ready .any ops listed) : ∀ x ∈ o.op.operands, evT (arr n σ) x = evT (arr n fin) x := by
  intro x hx
  cases x with
  | tmp t =>
    have key : σ t = fin t := by
      by_cases hex : ∃ (j : Nat) (oj : Oper), ops[j]? = some oj ∧ oj.dst = some t
      · obtain ⟨j, oj, hj, hd⟩ := hex
        unfold depOk at hdep
        rw [Array.all_eq_true_iff_forall_mem] at hdep
        have h1 := hdep o (Array.mem_of_getElem? ho)
        rw [Array.all_eq_true_iff_forall_mem] at h1
        have h2 := h1 _ hx
        simp only [List.all_eq_true, List.mem_range] at h2
        have h3 := h2 j (Array.getElem?_eq_some_iff.1 hj).1
        rw [hj, Option.bind_some, hd] at h3
        simp only [beq_self_eq_true, Bool.not_true, Bool.false_or] at h3
        obtain ⟨e, he, h4⟩ := Array.any_eq_true'.1 h3
        simp only [Bool.and_eq_true, beq_iff_eq] at h4
        obtain ⟨_, o2, ho2, hall⟩ := mem_ready.1 hr
        rw [ho] at ho2
        cases ho2
        have h5 := hall e he h4.1
        rw [h4.2] at h5
        refine h.don j oj t hj hd ?_
        rw [Array.getD_eq_getD_getElem?] at h5
        cases hl : listed[j]? with
        | none => rw [hl] at h5; simp at h5
        | some b => rw [hl] at h5; simp at h5; rw [h5]
      · have hno : ∀ (i : Nat) (o : Oper), ops[i]? = some o → o.dst ≠ some t := fun i o h1 h2 => hex ⟨i, o, h1, h2⟩
        rw [h.non t fun i o h1 h2 => absurd h2 (hno i o h1), hfin t hno]
    show (arr n σ).getD t undef = (arr n fin).getD t undef
    rw [Array.getD_eq_getD_getElem?, Array.getD_eq_getD_getElem?, arr_get, arr_get, key]
  | const v => rfl
  | global g => rfl
  | func f => rfl
end
def unl (listed : Array Bool) : Nat := listed.toList.count false
theorem count_set_true : ∀ (l : List Bool) (i : Nat), l[i]? = some false → (l.set i true).count false + 1 = l.count false
  | [], _, h => by simp at h
  | x :: l, 0, h => by
    simp only [List.getElem?_cons_zero, Option.some.injEq] at h
    subst h
    simp
  | x :: l, i + 1, h => by
    rw [List.getElem?_cons_succ] at h
    have := count_set_true l i h
    simp only [List.set_cons_succ, List.count_cons]
    omega
theorem unl_set {listed : Array Bool} {i : Nat} (h : listed[i]? = some false) : unl (listed.setIfInBounds i true) + 1 = unl listed := by
  unfold unl
  rw [Array.toList_setIfInBounds]
  exact count_set_true _ i (by rw [Array.getElem?_toList]; exact h)
theorem ready_false {ops : Array Oper} {listed : Array Bool} {i : Nat} (_ : listed.size = ops.size) (h : i ∈ Region.ready .any ops listed) : listed[i]? = some false := by
  obtain ⟨h1, o, h2, _⟩ := mem_ready.1 h
  have := (Array.getElem?_eq_some_iff.1 h2).1
  rw [Array.getD_eq_getD_getElem?] at h1
  cases hl : listed[i]? with
  | none => rw [hl] at h1; simp at h1
  | some b => rw [hl] at h1; simp at h1; rw [h1]
theorem unl_zero {ops : Array Oper} {listed : Array Bool} (hs : listed.size = ops.size) (h : unl listed = 0) : ∀ i, i < ops.size → listed[i]? = some true := by
  intro i hi
  unfold unl at h
  rw [List.count_eq_zero] at h
  rw [Array.getElem?_eq_getElem (by omega)]
  cases hb : listed[i] with
  | true => rfl
  | false => exact absurd (by rw [← hb]; simp) h
def depLt (ops : Array Oper) : Bool := (List.range ops.size).all fun i => ((ops[i]?).map fun o => o.after.all fun e => !Region.binds .any e || decide (e.on < i)).getD true
theorem ready_nil {ops : Array Oper} {listed : Array Bool} (hd : depLt ops = true) (hs : listed.size = ops.size) (h : Region.ready .any ops listed = []) : ∀ i, i < ops.size → listed[i]? = some true := by
  intro i
  induction i using Nat.strongRecOn with
  | _ i ih =>
    intro hi
    cases hb : listed[i]'(by omega) with
    | true => rw [Array.getElem?_eq_getElem (by omega), hb]
    | false =>
      exfalso
      have hr : i ∈ Region.ready .any ops listed := by
        rw [mem_ready]
        refine ⟨by rw [Array.getD_eq_getD_getElem?, Array.getElem?_eq_getElem (by omega), hb]; rfl, ops[i], Array.getElem?_eq_getElem hi, fun e he hbi => ?_⟩
        unfold depLt at hd
        simp only [List.all_eq_true, List.mem_range] at hd
        have h1 := hd i hi
        rw [Array.getElem?_eq_getElem hi, Option.map_some, Option.getD_some, Array.all_eq_true_iff_forall_mem] at h1
        have h2 := h1 e he
        rw [hbi] at h2
        simp only [Bool.not_true, Bool.false_or, decide_eq_true_eq] at h2
        rw [Array.getD_eq_getD_getElem?, ih e.on h2 (by omega)]
        rfl
      rw [h] at hr
      cases hr
def Clo (ops : Array Oper) (listed : Array Bool) : Prop := ∀ (i : Nat) (o : Oper), ops[i]? = some o → listed[i]? = some true → ∀ e ∈ o.after, Region.binds .any e = true → listed[e.on]? = some true
def dp (ops : Array Oper) (a b : Nat) : Bool := ((ops[a]?).map fun o => o.after.any fun e => Region.binds .any e && e.on == b).getD false
theorem dp_at {ops : Array Oper} {a b : Nat} {o : Oper} (ho : ops[a]? = some o) (h : dp ops a b = true) : ∃ e ∈ o.after, Region.binds .any e = true ∧ e.on = b := by
  unfold dp at h
  rw [ho, Option.map_some, Option.getD_some] at h
  obtain ⟨e, he, h2⟩ := Array.any_eq_true'.1 h
  simp only [Bool.and_eq_true, beq_iff_eq] at h2
  exact ⟨e, he, h2⟩
theorem Clo.at_ {ops : Array Oper} {listed : Array Bool} (h : Clo ops listed) {a b : Nat} (ha : listed[a]? = some true) (hd : dp ops a b = true) : listed[b]? = some true := by
  cases ho : ops[a]? with
  | none => unfold dp at hd; rw [ho] at hd; cases hd
  | some o =>
    obtain ⟨e, he, h1, rfl⟩ := dp_at ho hd
    exact h a o ho ha e he h1
theorem getD_true {listed : Array Bool} {i : Nat} (h : listed.getD i false = true) : listed[i]? = some true := by
  rw [Array.getD_eq_getD_getElem?] at h
  cases hl : listed[i]? with
  | none => rw [hl] at h; simp at h
  | some b => rw [hl] at h; simp at h; rw [h]
theorem ready_dp {ops : Array Oper} {listed : Array Bool} {a b : Nat} (h : a ∈ Region.ready .any ops listed) (hd : dp ops a b = true) : listed[b]? = some true := by
  obtain ⟨_, o, ho, hall⟩ := mem_ready.1 h
  obtain ⟨e, he, h1, rfl⟩ := dp_at ho hd
  exact getD_true (hall e he h1)
theorem Clo.start (ops : Array Oper) : Clo ops (Array.replicate ops.size false) := fun i o _ h => by
  rw [Array.getElem?_replicate] at h
  split at h <;> simp at h
theorem Clo.put {ops : Array Oper} {listed : Array Bool} (h : Clo ops listed) {i : Nat} (hr : i ∈ Region.ready .any ops listed) : Clo ops (listed.setIfInBounds i true) := by
  intro j o ho hl e he hb
  by_cases hji : j = i
  · subst hji
    obtain ⟨_, o2, ho2, hall⟩ := mem_ready.1 hr
    rw [ho] at ho2
    cases ho2
    exact set_true (getD_true (hall e he hb))
  · exact set_true (h j o ho (of_set_true hji hl) e he hb)
section
variable [Payload] {P : Program} {main : Bool} {Wg k : Nat} {I : World → Prop} {Sh : Nat → Prop} {Stop : Stp} {Ow : Nat → Prop} {w : World} {dk : Bool} {fn : FuncId} {n : Nat} {ds : List Deferred} {q : List Item} {cs : List Frame}
theorem wy_ord {ops : Array Oper} {fin σ0 : Nat → Value} (hdep : depOk ops = true) (hlt : depLt ops = true) (hns : Region.noSelect ops = true) (hfin : ∀ d, (∀ (i : Nat) (o : Oper), ops[i]? = some o → o.dst ≠ some d) → fin d = σ0 d) (sp : Nat → Prop) (hsp0 : ∃ s, s < ops.size ∧ sp s) (L0 : Array Bool)
    (hop : ∀ (i : Nat) (o : Oper), ops[i]? = some o → ¬ sp i → L0[i]? ≠ some true → ∃ v, (∀ d, o.dst = some d → v = fin d) ∧ ∀ σ rest, execOp (evT (arr n σ)) o = execOp (evT (arr n fin)) o → Wy P main Wg k I Sh Stop Ow (G (fd dk fn n ds (put σ o.dst v) (.inRegion ops rest :: q)) cs) w → Wy P main Wg k I Sh Stop Ow (G (fd dk fn n ds σ (.inRegion ops (i :: rest) :: q)) cs) w)
    (K : ∀ (i : Nat) (o : Oper) (fuel t : Nat) (listed : Array Bool) (σ : Nat → Value), sp i → ops[i]? = some o → i ∈ Region.ready .any ops listed → listed.size = ops.size → unl listed = fuel + 1 → (∀ j : Nat, L0[j]? = some true → listed[j]? = some true) → (∀ j, sp j → listed[j]? ≠ some true) → Clo ops listed → Ag ops fin σ0 listed σ → execOp (evT (arr n σ)) o = execOp (evT (arr n fin)) o → Wy P main Wg k I Sh Stop Ow (G (fd dk fn n ds σ (.inRegion ops (i :: ordL ops fuel t (listed.setIfInBounds i true)) :: q)) cs) w) :
    ∀ (fuel t : Nat) (listed : Array Bool) (σ : Nat → Value), listed.size = ops.size → unl listed = fuel → (∀ j : Nat, L0[j]? = some true → listed[j]? = some true) → (∀ j, sp j → listed[j]? ≠ some true) → Clo ops listed → Ag ops fin σ0 listed σ → Wy P main Wg k I Sh Stop Ow (G (fd dk fn n ds σ (.inRegion ops (ordL ops fuel t listed) :: q)) cs) w := by
  intro fuel
  induction fuel with
  | zero =>
    intro t listed σ hs hu h0 hsu hcl hA
    obtain ⟨s, s1, s2⟩ := hsp0
    exact absurd (unl_zero hs hu s s1) (hsu s s2)
  | succ fuel ih =>
    intro t listed σ hs hu h0 hsu hcl hA
    rcases ord_cases ops fuel t listed with ⟨h1, h2⟩ | ⟨i, t', h1, h2⟩
    · obtain ⟨s, s1, s2⟩ := hsp0
      exact absurd (ready_nil hlt hs h1 s s1) (hsu s s2)
    · rw [h2]
      obtain ⟨_, o, ho, _⟩ := mem_ready.1 h1
      have hl := ready_false hs h1
      have hev : execOp (evT (arr n σ)) o = execOp (evT (arr n fin)) o := execOp_congr o (fun cs b => Region.noSelect_spec hns i o cs b ho) (hA.evs hdep hfin ho h1)
      by_cases hsp : sp i
      · exact K i o fuel t' listed σ hsp ho h1 hs hu h0 hsu hcl hA hev
      · obtain ⟨v, hv, hstep⟩ := hop i o ho hsp fun e => by rw [h0 i e] at hl; cases hl
        refine hstep σ _ hev (ih t' _ _ (by simp [hs]) ?_ (fun j hj => set_true (h0 j hj)) (fun j hj e => ?_) (hcl.put h1) (hA.put ho hl hv))
        · have := unl_set hl
          omega
        · by_cases hji : j = i
          · exact hsp (hji ▸ hj)
          · exact hsu j hj (of_set_true hji e)
omit [Payload] in
theorem sched_ord (hm : P.follows .mixedOrders = true) (ops : Array Oper) (t : Nat) : Region.schedule (P.follows .mixedOrders) ops t = ordL ops ops.size t (Array.replicate ops.size false) := by
  simp only [Region.schedule, hm, Bool.true_or, if_true]
  rfl
end
theorem unl_start (n : Nat) : unl (Array.replicate n false) = n := by simp [unl]
theorem rep_not (n : Nat) (j : Nat) : (Array.replicate n false)[j]? ≠ some true := by
  rw [Array.getElem?_replicate]
  split <;> simp
end Go.Proofs.YtckoipoejaafhaaDoor.Cc

namespace Go.Proofs.YtckoipoejaafhaaDoor
open Go.RowKit
set_option maxRecDepth 100000
theorem two_pow_bound (j : Nat) (hj : j ≤ 10) : ((2 : Int) ^ j) = ((2 ^ j : Nat) : Int) ∧ 2 ^ j ≤ 1024 := by
  refine ⟨by rw [Int.natCast_pow]; rfl, ?_⟩
  exact Nat.le_trans (Nat.pow_le_pow_right (by decide) hj) (by decide)
end Go.Proofs.YtckoipoejaafhaaDoor

namespace Go.Proofs.YtckoipoejaafhaaDoor.Cc
open Go Go.Conc
def pz : Value → Value
  | .int k n => .int k n
  | .bool b => .bool b
  | .agg xs => .agg (xs.attach.map fun x => pz x.1)
  | _ => undef
  termination_by v => SizeOf.sizeOf v
  decreasing_by
    have := Array.sizeOf_lt_of_mem x.2
    simp only [Value.agg.sizeOf_spec]
    omega
theorem pz_int (k : IntKind) (n : Int) : pz (.int k n) = .int k n := by rw [pz]
theorem pz_bool (b : Bool) : pz (.bool b) = .bool b := by rw [pz]
def OneC (_ : Array Value) : Prop := True
theorem pz_rel (F : FuncId → Prop) (ρ : Ren) : ∀ (m : Nat) (v : Value), SizeOf.sizeOf v ≤ m → VR F ρ (pz v) v := by
  intro m
  induction m with
  | zero =>
    intro v h
    cases v <;> simp at h
  | succ m ih =>
    intro v h
    cases v with
    | int k n => rw [pz_int]; exact .int k n
    | bool b => rw [pz_bool]; exact .bool b
    | agg xs =>
      rw [pz]
      refine .agg (by simp) fun i h1 h2 => ?_
      simp only [Array.getElem_map, Array.getElem_attach]
      refine ih _ ?_
      have := Array.sizeOf_lt_of_mem (Array.getElem_mem h2)
      simp only [Value.agg.sizeOf_spec] at h
      omega
    | _ => rw [pz] <;> first | exact .poi _ rfl (fun b e => by cases e) | (intros; rename_i e; cases e)
theorem OneC.rel {cs : Array Value} (_ : OneC cs) (F : FuncId → Prop) (ρ : Ren) : A2 (VR F ρ) (cs.map pz) cs := ⟨by simp, fun i a e => by
  rw [Array.getElem?_map] at e
  cases hc : cs[i]? with
  | none => rw [hc] at e; cases e
  | some v =>
    rw [hc] at e
    simp only [Option.map_some, Option.some.injEq] at e
    subst e
    exact ⟨v, rfl, pz_rel F ρ _ v (Nat.le_refl _)⟩⟩
def froz : Obj → Obj
  | .cells c e _ => .cells (c.map pz) e (0, c.size)
  | o => o
def priv (S : Nat → Bool) (w : World) : World := { w with heap := w.heap.mapIdx fun b o => if S b then froz o else .cells #[] 0 }
def idr (S : Nat → Bool) (n : Nat) : Ren := fun b => if S b = true ∧ b < n then some b else none
section
variable {S : Nat → Bool} {w : World}
theorem priv_size (S : Nat → Bool) (w : World) : (priv S w).heap.size = w.heap.size := by simp [priv]
theorem priv_at {b : Nat} (hb : S b = true) : (priv S w).heap[b]? = (w.heap[b]?).map froz := by
  simp only [priv, Array.getElem?_mapIdx]
  cases w.heap[b]? with
  | none => rfl
  | some o => simp [hb]
theorem priv_cell {b o : Nat} (hb : S b = true) (τ : Nat → Question → Nat) (d : Nat) : (tp (priv S w) τ d).cell? ⟨b, o, none⟩ = (w.cell? ⟨b, o, none⟩).map pz := by
  have e : (tp (priv S w) τ d).heap[b]? = (w.heap[b]?).map froz := priv_at hb
  simp only [World.cell?, e]
  cases w.heap[b]? with
  | none => rfl
  | some o => cases o <;> simp [froz]
theorem idr_some {n b b' : Nat} (h : idr S n b = some b') : b' = b ∧ S b = true ∧ b < n := by
  unfold idr at h
  split at h
  · rename_i q
    exact ⟨(Option.some.inj h).symm, q⟩
  · cases h
theorem priv_WR {F : FuncId → Prop} (hS : ∀ b, S b = true → b < w.heap.size → ∃ cs e fr, w.heap[b]? = some (.cells cs e fr) ∧ OneC cs) : WR F w.heap.size (idr S w.heap.size) (priv S w) w := by
  refine ⟨fun b c b' hb hc => ?_, fun b b' hb _ => ?_, fun b b' hb hge => ?_, by rw [priv_size]; exact Nat.le_refl _⟩
  · rw [← (idr_some hb).1, ← (idr_some hc).1]
  · obtain ⟨rfl, h1, h2⟩ := idr_some hb
    obtain ⟨cs, e, fr, h3, h4⟩ := hS b' h1 h2
    exact ⟨cs.map pz, cs, e, (0, cs.size), fr, by rw [priv_at h1, h3]; rfl, h3, h4.rel _ _, fun i hi => ⟨Nat.zero_le _, by simpa using hi⟩⟩
  · have := (idr_some hb).2.2
    omega
end
def Ints (cs : Array Value) : Prop := ∀ v ∈ cs, ∃ k n, v = .int k n
theorem Ints.same {F : FuncId → Prop} {ρ : Ren} {cs cs' : Array Value} (h : Ints cs) (k : A2 (VR F ρ) cs cs') : cs' = cs := by
  apply Array.ext_getElem?
  intro i
  cases e : cs[i]? with
  | none => exact k.none e
  | some a =>
    obtain ⟨a', e', r⟩ := k.at_ i a e
    obtain ⟨kk, n, rfl⟩ := h a (Array.mem_of_getElem? e)
    cases r
    exact e'
theorem call_company {P : Program} {T : Tbl} (hF : FnAll P T) {Sh Ow : Nat → Prop} {w : World} (S : Nat → Bool) (base : List Frame) (main : Bool) {f : FuncId} {args : Array Value} {R : Value → World → Prop} (hf : T.fs.contains f = true)
    (hS : ∀ b, S b = true → b < w.heap.size → ∃ cs e fr, w.heap[b]? = some (.cells cs e fr) ∧ OneC cs) (hSh : ∀ b, S b = true → Sh b ∨ Ow b) (hgs : ∀ g, T.gs.contains g = true → S g = true ∧ g < w.heap.size)
    (ha : A2 (VR (TF T) (idr S w.heap.size)) args args)
    (hC : ∀ τ d, Calls P f args (tp (priv S w) τ d) fun e w1 => ∃ v, e = .returned v ∧ R v w1) (hR : ∀ v w1 τ d, R v (tp w1 τ d) → R v w1) :
    Wi P main Sh (AtRet P T w.heap.size Sh (fun fr w1 => fr.fn = f ∧ ∃ v, (∀ (Q : Program) (W : World) es, (results (P.funcs.getD f default) fr.tmps).runT Q W es = (.ok v W, es)) ∧ R v w1) base Ow) Ow (G (Frame.enter P f args .normal) base) w := by
  have hW := priv_WR (F := TF T) (S := S) (w := w) hS
  have hst : St P T w.heap.size (idr S w.heap.size) (Frame.enter P f args .normal) [] (priv S w) (Frame.enter P f args .normal) [] w := ⟨fr2_enter hF hf ha, .inl rfl, rfl, hW, fun g hg => by
    obtain ⟨q1, q2⟩ := hgs g hg
    unfold idr
    rw [if_pos ⟨q1, q2⟩]⟩
  have ht := tree_of_calls hF hst hC hR
  exact tree_company hF base main Ow ht hst ⟨fun b b' hb _ => by
    obtain ⟨rfl, q, _⟩ := idr_some hb
    exact hSh b' q, fun b b' hb hge => by
    have := (idr_some hb).2.2
    omega⟩ fun b q => q
end Go.Proofs.YtckoipoejaafhaaDoor.Cc

namespace Go.Proofs.YtckoipoejaafhaaDoor.Cc
open Go
def wTbl : Tbl := { fs := [21, 22, 29, 31, 39, 47, 48, 49, 68, 83, 101, 102, 122, 128, 129, 139, 140, 143, 148, 158, 159, 160, 164, 165, 166, 167], gs := [1, 2], ps := fun f => match f with
  | 39 => [21, 37]
  | 102 => [48, 55]
  | 122 => [6, 27, 42, 44]
  | 129 => [17, 26, 56, 59, 67, 75]
  | 140 => [23, 29, 32]
  | 143 => [2, 5, 9, 11, 16]
  | 148 => [29, 35, 41, 51, 57, 59, 72, 78, 80]
  | 159 => [22]
  | 160 => [18, 24, 33, 41]
  | 164 => [11]
  | 165 => [11]
  | _ => [] }
theorem wAll : FnAll Tryd.prog wTbl := fun f hf => by
  have hm : f ∈ wTbl.fs := by simpa using hf
  simp only [wTbl, List.mem_cons, List.not_mem_nil, or_false] at hm
  rcases hm with rfl | rfl | rfl | rfl | rfl | rfl | rfl | rfl | rfl | rfl | rfl | rfl | rfl | rfl | rfl | rfl | rfl | rfl | rfl | rfl | rfl | rfl | rfl | rfl | rfl | rfl
  · exact ⟨_, _, Tryd.func21, rfl, by kernel_rfl, by kernel_rfl, resB_of (by kernel_rfl)⟩
  · exact ⟨_, _, Tryd.func22, rfl, by kernel_rfl, by kernel_rfl, resB_of (by kernel_rfl)⟩
  · exact ⟨_, _, Tryd.func29, rfl, by kernel_rfl, by kernel_rfl, resB_of (by kernel_rfl)⟩
  · exact ⟨_, _, Tryd.func31, rfl, by kernel_rfl, by kernel_rfl, resB_of (by kernel_rfl)⟩
  · exact ⟨_, _, Tryd.func39, rfl, by kernel_rfl, by kernel_rfl, resB_of (by kernel_rfl)⟩
  · exact ⟨_, _, Tryd.func47, rfl, by kernel_rfl, by kernel_rfl, resB_of (by kernel_rfl)⟩
  · exact ⟨_, _, Tryd.func48, rfl, by kernel_rfl, by kernel_rfl, resB_of (by kernel_rfl)⟩
  · exact ⟨_, _, Tryd.func49, rfl, by kernel_rfl, by kernel_rfl, resB_of (by kernel_rfl)⟩
  · exact ⟨_, _, Tryd.func68, rfl, by kernel_rfl, by kernel_rfl, resB_of (by kernel_rfl)⟩
  · exact ⟨_, _, Tryd.func83, rfl, by kernel_rfl, by kernel_rfl, resB_of (by kernel_rfl)⟩
  · exact ⟨_, _, Tryd.func101, rfl, by kernel_rfl, by kernel_rfl, resB_of (by kernel_rfl)⟩
  · exact ⟨_, _, Tryd.func102, rfl, by kernel_rfl, by kernel_rfl, resB_of (by kernel_rfl)⟩
  · exact ⟨_, _, Tryd.func122, rfl, by kernel_rfl, by kernel_rfl, resB_of (by kernel_rfl)⟩
  · exact ⟨_, _, Tryd.func128, rfl, by kernel_rfl, by kernel_rfl, resB_of (by kernel_rfl)⟩
  · exact ⟨_, _, Tryd.func129, rfl, by kernel_rfl, by kernel_rfl, resB_of (by kernel_rfl)⟩
  · exact ⟨_, _, Tryd.func139, rfl, by kernel_rfl, by kernel_rfl, resB_of (by kernel_rfl)⟩
  · exact ⟨_, _, Tryd.func140, rfl, by kernel_rfl, by kernel_rfl, resB_of (by kernel_rfl)⟩
  · exact ⟨_, _, Tryd.func143, rfl, by kernel_rfl, by kernel_rfl, resB_of (by kernel_rfl)⟩
  · exact ⟨_, _, Tryd.func148, rfl, by kernel_rfl, by kernel_rfl, resB_of (by kernel_rfl)⟩
  · exact ⟨_, _, Tryd.func158, rfl, by kernel_rfl, by kernel_rfl, resB_of (by kernel_rfl)⟩
  · exact ⟨_, _, Tryd.func159, rfl, by kernel_rfl, by kernel_rfl, resB_of (by kernel_rfl)⟩
  · exact ⟨_, _, Tryd.func160, rfl, by kernel_rfl, by kernel_rfl, resB_of (by kernel_rfl)⟩
  · exact ⟨_, _, Tryd.func164, rfl, by kernel_rfl, by kernel_rfl, resB_of (by kernel_rfl)⟩
  · exact ⟨_, _, Tryd.func165, rfl, by kernel_rfl, by kernel_rfl, resB_of (by kernel_rfl)⟩
  · exact ⟨_, _, Tryd.func166, rfl, by kernel_rfl, by kernel_rfl, resB_of (by kernel_rfl)⟩
  · exact ⟨_, _, Tryd.func167, rfl, by kernel_rfl, by kernel_rfl, resB_of (by kernel_rfl)⟩
end Go.Proofs.YtckoipoejaafhaaDoor.Cc

namespace Go.Proofs.YtckoipoejaafhaaDoor
open Go Go.RowKit
abbrev wgLink : Go.Conc.Lib.WgLink := { add := 77, done := 79, wait := 82, relMerge := 109, disable := 110, enable := 111, inBubble := 112, associate := 113, fatal := 114, uOr := 115, uAdd := 116, raceRead := 117, uLoad := 118, uStore := 119, disassociate := 120, semrelease := 121, acquire := 123, isAssociated := 124, uCas := 125, raceWrite := 126, semacquire := 127, orU64 := 144, addU64 := 145, loadU64 := 146, storeU64 := 147, casU64 := 149, tWgP := 153, tUP := 155, tAssoc := 156, tWg := 121, tAU := 118, tU64 := 34, tUint := 88, tU32 := 119, tPU32 := 159, tPAU := 183, tPU64 := 185, tNoCopy := 114, tANoCopy := 115, tAlign64 := 116 }
theorem wgLib : Go.Conc.Lib.WgLib Tryd.prog wgLink :=
  ⟨Tryd.func77, Tryd.func79, Tryd.func82, Tryd.func109, Tryd.func110, Tryd.func111, Tryd.func112, Tryd.func113, Tryd.func114, Tryd.func115, Tryd.func116, Tryd.func117, Tryd.func118, Tryd.func119, Tryd.func120, Tryd.func121, Tryd.func123, Tryd.func124, Tryd.func125, Tryd.func126, Tryd.func127, Tryd.func144, Tryd.func145, Tryd.func146, Tryd.func147, Tryd.func149, Tryd.underlying153, Tryd.runUnderlying153, Tryd.sizeOf153, Tryd.isAgg153, Tryd.zeroValue153, Tryd.underlying155, Tryd.runUnderlying155, Tryd.sizeOf155, Tryd.isAgg155, Tryd.zeroValue155, Tryd.underlying156, Tryd.runUnderlying156, Tryd.sizeOf156, Tryd.isAgg156, Tryd.zeroValue156, Tryd.underlying121, Tryd.runUnderlying121, Tryd.sizeOf121, Tryd.isAgg121, Tryd.zeroValue121, Tryd.underlying118, Tryd.runUnderlying118, Tryd.sizeOf118, Tryd.isAgg118, Tryd.zeroValue118, Tryd.underlying34, Tryd.runUnderlying34, Tryd.sizeOf34, Tryd.isAgg34, Tryd.zeroValue34, Tryd.underlying88, Tryd.runUnderlying88, Tryd.sizeOf88, Tryd.isAgg88, Tryd.zeroValue88, Tryd.underlying119, Tryd.runUnderlying119, Tryd.sizeOf119, Tryd.isAgg119, Tryd.zeroValue119, Tryd.underlying159, Tryd.runUnderlying159, Tryd.sizeOf159, Tryd.isAgg159, Tryd.zeroValue159, Tryd.underlying183, Tryd.runUnderlying183, Tryd.sizeOf183, Tryd.isAgg183, Tryd.zeroValue183, Tryd.underlying185, Tryd.runUnderlying185, Tryd.sizeOf185, Tryd.isAgg185, Tryd.zeroValue185, Tryd.underlying0, Tryd.runUnderlying0, Tryd.sizeOf0, Tryd.isAgg0, Tryd.zeroValue0, Tryd.underlying3, Tryd.runUnderlying3, Tryd.sizeOf3, Tryd.isAgg3, Tryd.zeroValue3, Tryd.underlying4, Tryd.runUnderlying4, Tryd.sizeOf4, Tryd.isAgg4, Tryd.zeroValue4, Tryd.underlying9, Tryd.runUnderlying9, Tryd.sizeOf9, Tryd.isAgg9, Tryd.zeroValue9, Tryd.underlying20, Tryd.runUnderlying20, Tryd.sizeOf20, Tryd.isAgg20, Tryd.zeroValue20, Tryd.underlying21, Tryd.runUnderlying21, Tryd.sizeOf21, Tryd.isAgg21, Tryd.zeroValue21, (by kernel_rfl), (by kernel_rfl)⟩
instance : Go.ConcR.Payload := ⟨23⟩
end Go.Proofs.YtckoipoejaafhaaDoor
