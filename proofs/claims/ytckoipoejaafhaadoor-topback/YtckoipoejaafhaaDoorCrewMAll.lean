/-
 Texts that stood one behind the other,as one.
-/
import Derived.Test.YtckoipoejaafhaaDoorSlTcAll
import Derived.Test.YtckoipoejaafhaaDoorCeH
namespace Go.Proofs.YtckoipoejaafhaaDoor
theorem flat_at {α : Type} (H : List (List α)) (v : Nat) (hv : v < H.length) : H.flatten = (H.take v).flatten ++ (H.getD v [] ++ (H.drop (v + 1)).flatten) := by
 have e : H = H.take v ++ (H.getD v [] :: H.drop (v + 1)) := by
   conv => lhs; rw [<- List.take_append_drop v H,List.drop_eq_getElem_cons hv]
   simp [List.getD,List.getElem?_eq_getElem hv]
 conv => lhs; rw [e]
 rw [List.flatten_append,List.flatten_cons]
theorem flat_set {α : Type} (H : List (List α)) (v : Nat) (hv : v < H.length) (m : List α) : (H.set v m).flatten = (H.take v).flatten ++ (m ++ (H.drop (v + 1)).flatten) := by
 rw [List.set_eq_take_append_cons_drop,if_pos hv,List.flatten_append,List.flatten_cons]
theorem getD_set_self {α : Type} (H : List (List α)) (v : Nat) (hv : v < H.length) (m : List α) : (H.set v m).getD v [] = m := by
 simp [List.getD,hv]
theorem getD_set_ne {α : Type} (H : List (List α)) (v u : Nat) (h : v ≠ u) (m : List α) : (H.set v m).getD u [] = H.getD u [] := by
 simp [List.getD,List.getElem?_set_ne h]
theorem flat_last {α : Type} (H : List (List α)) (v : Nat) (hv : v < H.length) (m : List α) (t : α) (h : H.getD v [] = m ++ [t]) : (t :: (H.set v m).flatten).Perm H.flatten := by
 rw [flat_at H v hv,flat_set H v hv,h]
 have e : (H.take v).flatten ++ (m ++ [t] ++ (H.drop (v + 1)).flatten) = ((H.take v).flatten ++ m) ++ t :: (H.drop (v + 1)).flatten := by simp
 rw [e,<- List.append_assoc]
 exact List.perm_middle.symm
theorem flat_first {α : Type} (H : List (List α)) (v : Nat) (hv : v < H.length) (m : List α) (t : α) (h : H.getD v [] = t :: m) : (t :: (H.set v m).flatten).Perm H.flatten := by
 rw [flat_at H v hv,flat_set H v hv,h]
 have e : (H.take v).flatten ++ (t :: m ++ (H.drop (v + 1)).flatten) = (H.take v).flatten ++ t :: (m ++ (H.drop (v + 1)).flatten) := by simp
 rw [e]
 exact List.perm_middle.symm
theorem flat_add {α : Type} (H : List (List α)) (v : Nat) (hv : v < H.length) (t : α) : (H.set v (H.getD v [] ++ [t])).flatten.Perm (H.flatten ++ [t]) := by
 rw [flat_at H v hv,flat_set H v hv]
 have e1 : (H.take v).flatten ++ (H.getD v [] ++ [t] ++ (H.drop (v + 1)).flatten) = ((H.take v).flatten ++ H.getD v []) ++ t :: (H.drop (v + 1)).flatten := by simp
 have e2 : (H.take v).flatten ++ (H.getD v [] ++ (H.drop (v + 1)).flatten) ++ [t] = (((H.take v).flatten ++ H.getD v []) ++ (H.drop (v + 1)).flatten) ++ [t] := by simp
 rw [e1,e2]
 exact List.perm_middle.trans (List.perm_append_comm (l₁ := [t]))
theorem flat_mem {α : Type} (H : List (List α)) (v : Nat) (t : α) (h : t ∈ H.getD v []) : t ∈ H.flatten := by
 rcases Nat.lt_or_ge v H.length with hv | hv
 · rw [flat_at H v hv]
   exact List.mem_append_right _ (List.mem_append_left _ h)
 · simp [List.getD,List.getElem?_eq_none hv] at h
theorem flat_some {α : Type} (H : List (List α)) (h : 0 < H.flatten.length) : ∃ v,v < H.length /\ H.getD v [] ≠ [] := by
 induction H with
 | nil => simp at h
 | cons m H ih =>
   by_cases hm : m = []
   · subst hm
     simp only [List.flatten_cons,List.nil_append] at h
     obtain ⟨v,hv,hn⟩ := ih h
     exact ⟨v + 1,by simp only [List.length_cons]; omega,by simpa using hn⟩
   · exact ⟨0,by simp,by simpa using hm⟩
theorem hits_append (A B : List (List Int)) (k : Nat) : hits (A ++ B) k = hits A k + hits B k := by
 unfold hits
 rw [List.map_append,List.sum_append]
theorem hits_perm {A B : List (List Int)} (h : A.Perm B) (k : Nat) : hits A k = hits B k := by
 unfold hits
 induction h with
 | nil => rfl
 | cons x _ ih => simp only [List.map_cons,List.sum_cons,ih]
 | swap x y l => simp only [List.map_cons,List.sum_cons]; omega
 | trans _ _ h1 h2 => exact h1.trans h2
structure Crw where
 A : List Nat
 hands : List (List (List Int))
 phase : Nat
 left : Nat
 did : List (List Int)
 fin : Bool
def dealK (H : List (List (List Int))) (T : List (List Int)) : Nat -> List (List (List Int))
 | 0 => H
 | k + 1 => (dealK H T k).set (k % H.length) ((dealK H T k).getD (k % H.length) [] ++ [T.getD k []])
theorem dealK_length (H : List (List (List Int))) (T : List (List Int)) (k : Nat) : (dealK H T k).length = H.length := by
 induction k with
 | zero => rfl
 | succ k ih => rw [dealK,List.length_set,ih]
theorem dealK_perm (H : List (List (List Int))) (T : List (List Int)) (hH : 0 < H.length) (k : Nat) (hk : k <= T.length) : (dealK H T k).flatten.Perm (H.flatten ++ T.take k) := by
 induction k with
 | zero => simp [dealK]
 | succ k ih =>
   rw [dealK]
   refine (flat_add _ _ (by rw [dealK_length]; exact Nat.mod_lt _ hH) _).trans ?_
   rw [List.take_add_one,List.getElem?_eq_getElem hk,<- List.append_assoc]
   have e : T.getD k [] = T[k] := by simp [List.getD,List.getElem?_eq_getElem hk]
   rw [e]
   exact (ih (by omega)).append_right _
def dealt (L : List (List (List Int))) (c : Crw) : Crw :=
 if L.length <= c.phase then { c with fin := true } else { c with hands := dealK c.hands (L.getD c.phase []) (L.getD c.phase []).length,left := (L.getD c.phase []).length }
def crew0 (L : List (List (List Int))) (xs : List Nat) (W : Nat) : Crw := dealt L ⟨xs,List.replicate W [],0,0,[],false⟩
def tr1 (ds : List Nat) (back : Bool) (A : List Nat) (t : List Int) : List Nat := trn ds A (t.getD 0 0).toNat (t.getD 1 0).toNat (t.getD 2 0).toNat back
def done1 (ds : List Nat) (back : Bool) (L : List (List (List Int))) (c : Crw) (H : List (List (List Int))) (t : List Int) : Crw :=
 if c.left - 1 = 0 then dealt L { c with hands := H,A := tr1 ds back c.A t,did := c.did ++ [t],left := c.left - 1,phase := c.phase + 1 }
 else { c with hands := H,A := tr1 ds back c.A t,did := c.did ++ [t],left := c.left - 1 }
def step1 (ds : List Nat) (back : Bool) (L : List (List (List Int))) (c : Crw) (v u : Nat) : Crw :=
 if c.hands.getD v [] ≠ [] then done1 ds back L c (c.hands.set v (c.hands.getD v []).dropLast) ((c.hands.getD v []).getLastD [])
 else if c.hands.getD u [] ≠ [] then done1 ds back L c (c.hands.set u (c.hands.getD u []).tail) ((c.hands.getD u []).headD [])
 else c
def pickE (c : Crw) (pv pu : Int) : Int := if c.fin then 6 else if 0 <= pv /\ pv < (c.hands.length : Int) /\ 0 <= pu /\ pu < (c.hands.length : Int) then 0 else 1
def pickC (ds : List Nat) (back : Bool) (L : List (List (List Int))) (c : Crw) (pv pu : Int) : Crw := if pickE c pv pu = 0 then step1 ds back L c pv.toNat pu.toNat else c
def cur (ds xs : List Nat) (back : Bool) (x : Nat) : List Nat := if x = 0 then xs else mk (prd2 ds) (who ds back (cf xs) x)
theorem cur_length {ds xs : List Nat} (hl : xs.length = prd2 ds) (back : Bool) (x : Nat) : (cur ds xs back x).length = prd2 ds := by
 unfold cur
 split
 · exact hl
 · exact mk_length _ _
theorem cur_cf {ds xs : List Nat} (back : Bool) (x i : Nat) (hi : i < prd2 ds) : cf (cur ds xs back x) i = who ds back (cf xs) x i := by
 unfold cur
 split
 · next h => rw [h,who_zero]
 · rw [cf_mk,if_pos hi]
theorem cur_succ {ds xs : List Nat} (h : Shp ds) (back : Bool) (x : Nat) (hx : x < ds.length) : mk (prd2 ds) (alo ds x back (cf (cur ds xs back x))) = cur ds xs back (x + 1) := by
 conv => rhs; unfold cur
 rw [if_neg (by omega)]
 refine mk_congr fun p hp => ?_
 rw [who_succ]
 exact alo_congr h x hx back (fun i hi => cur_cf back x i hi) p hp
structure CInv (ds : List Nat) (L : List (List (List Int))) (xs : List Nat) (W : Nat) (back : Bool) (c : Crw) (P : List (List (List Int))) (dn : List (List Int)) : Prop where
 w : c.hands.length = W
 ph : c.phase <= L.length
 fin : c.fin = decide (c.phase = L.length)
 lft : c.left = c.hands.flatten.length
 pl : P.length = c.phase
 pp : ∀ i,i < c.phase -> (P.getD i []).Perm (L.getD i [])
 did : c.did = P.flatten ++ dn
 prm : c.phase < L.length -> (dn ++ c.hands.flatten).Perm (L.getD c.phase [])
 some : c.phase < L.length -> 0 < c.left
 none : c.phase = L.length -> dn = [] /\ c.hands.flatten = []
 arr : c.phase < L.length -> c.A = trS ds (cur ds xs back c.phase) c.phase back (fun i => decide (0 < hits dn i))
 arrE : c.phase = L.length -> c.A = cur ds xs back c.phase
theorem rgt_some {n x : Nat} {T : List (List Int)} (h : RgtP n x T) (hn : 0 < n) : 0 < T.length := by
 have := h.2 0 hn
 have h2 := hits_le T 0
 omega
theorem nln_pos {ds : List Nat} (h : Shp ds) (x : Nat) : 0 < nln ds x := by
 unfold nln
 exact Nat.mul_pos (beh_pos h _) (prd2_pos fun d hd => h.pos d (List.mem_of_mem_take hd))
section
variable {ds : List Nat} {L : List (List (List Int))} {xs : List Nat} {W : Nat} {back : Bool}
theorem CInv.deal {c : Crw} {P : List (List (List Int))} (hS : Shp ds) (hF : Fine ds L) (hW : 0 < W) (hw : c.hands.length = W) (hph : c.phase <= L.length) (hfin : c.fin = false) (hle : c.left = 0) (hem : c.hands.flatten = []) (hpl : P.length = c.phase)
   (hpp : ∀ i,i < c.phase -> (P.getD i []).Perm (L.getD i [])) (hdid : c.did = P.flatten) (hl : xs.length = prd2 ds) (hA : c.A = cur ds xs back c.phase) : CInv ds L xs W back (dealt L c) P [] := by
 unfold dealt
 by_cases h : L.length <= c.phase
 · rw [if_pos h]
   have e : c.phase = L.length := by omega
   exact ⟨hw,hph,by simp [e],by rw [hle,hem]; rfl,hpl,hpp,by rw [List.append_nil]; exact hdid,fun h2 => by simp only at h2; omega,fun h2 => by simp only at h2; omega,fun _ => ⟨rfl,hem⟩,fun h2 => by simp only at h2; omega,fun _ => hA⟩
 · rw [if_neg h]
   have hx : c.phase < ds.length := by rw [<- hF.1]; omega
   have hR := hF.2 c.phase hx
   have hp := dealK_perm c.hands (L.getD c.phase []) (by omega) _ (Nat.le_refl _)
   rw [List.take_length,hem,List.nil_append] at hp
   refine ⟨by simp only [dealK_length]; exact hw,hph,?_,hp.length_eq.symm,hpl,hpp,by rw [List.append_nil]; exact hdid,fun _ => by rw [List.nil_append]; exact hp,fun _ => rgt_some hR (nln_pos hS _),fun e => by simp only at e; omega,fun _ => ?_,fun e => by simp only at e; omega⟩
   · simp only [hfin]
     rw [decide_eq_false (by omega)]
   · have e : (fun i => decide (0 < hits [] i)) = fun _ => false := by funext i; simp [hits]
     rw [e,trS_none (cur_length hl back _)]
     exact hA
theorem CInv.start (hS : Shp ds) (hF : Fine ds L) (hW : 0 < W) (hl : xs.length = prd2 ds) : CInv ds L xs W back (crew0 L xs W) [] [] :=
 CInv.deal hS hF hW (by simp) (Nat.zero_le _) rfl rfl (by simp) rfl (fun i hi => by simp at hi) rfl hl (by simp [cur])
theorem CInv.task {c : Crw} {P : List (List (List Int))} {dn : List (List Int)} (h : CInv ds L xs W back c P dn) (hF : Fine ds L) {t : List Int} (ht : t ∈ c.hands.flatten) : c.phase < L.length /\ c.phase < ds.length /\ Vld (nln ds c.phase) c.phase t := by
 have hp : c.phase < L.length := by
   rcases Nat.lt_or_ge c.phase L.length with q | q
   · exact q
   · rw [(h.none (Nat.le_antisymm h.ph q)).2] at ht; cases ht
 have hx : c.phase < ds.length := by rw [<- hF.1]; exact hp
 exact ⟨hp,hx,(hF.2 _ hx).1 t ((h.prm hp).mem_iff.mp (List.mem_append_right _ ht))⟩
theorem CInv.done {c : Crw} {P : List (List (List Int))} {dn : List (List Int)} (h : CInv ds L xs W back c P dn) (hS : Shp ds) (hF : Fine ds L) (hW : 0 < W) (hl : xs.length = prd2 ds) {t : List Int} {H : List (List (List Int))} (hH : H.length = W) (hp : (t :: H.flatten).Perm c.hands.flatten) :
   ∃ P' dn',CInv ds L xs W back (done1 ds back L c H t) P' dn' /\ (done1 ds back L c H t).did = c.did ++ [t] := by
 have ht : t ∈ c.hands.flatten := hp.mem_iff.mp (by simp)
 obtain ⟨hpl,hpx,hv⟩ := h.task hF ht
 have hR := hF.2 _ hpx
 have hlen : c.left = H.flatten.length + 1 := by rw [h.lft,<- hp.length_eq]; rfl
 have hprm : (dn ++ [t] ++ H.flatten).Perm (L.getD c.phase []) := by
   refine List.Perm.trans ?_ (h.prm hpl)
   rw [List.append_assoc]
   exact (List.Perm.refl dn).append hp
 obtain ⟨v1,v2,v3,v4⟩ := hv
 have hA : tr1 ds back c.A t = trS ds (cur ds xs back c.phase) c.phase back (fun i => decide (0 < hits (dn ++ [t]) i)) := by
   unfold tr1
   rw [h.arr hpl,v1,Int.toNat_natCast,trS_step hS _ _ hpx]
   · congr 1
     funext i
     rw [hits_append]
     have e : hits [t] i = hit t i := by simp [hits]
     rw [e]
     unfold hit
     by_cases h1 : t.getD 1 0 <= (i : Int) /\ (i : Int) < t.getD 2 0
     · rw [if_pos h1,decide_eq_true (by omega : (t.getD 1 0).toNat <= i),decide_eq_true (by omega : i < (t.getD 2 0).toNat),decide_eq_true (by omega : 0 < hits dn i + 1)]
       simp
     · rw [if_neg h1,Nat.add_zero]
       by_cases h2 : (t.getD 1 0).toNat <= i
       · rw [decide_eq_false (by omega : ¬ i < (t.getD 2 0).toNat)]; simp
       · rw [decide_eq_false h2]; simp
   · intro i h1 h2
     have e1 := hR.2 i (by omega)
     rw [<- hits_perm hprm i,hits_append,hits_append] at e1
     have e2 : hits [t] i = 1 := by
       simp only [hits,hit,List.map_cons,List.map_nil,List.sum_cons,List.sum_nil]
       rw [if_pos (by omega)]; rfl
     exact decide_eq_false (by omega)
 unfold done1
 by_cases h0 : c.left - 1 = 0
 · rw [if_pos h0]
   have hem : H.flatten = [] := List.eq_nil_of_length_eq_zero (by omega)
   rw [hem,List.append_nil] at hprm
   have hd : (dealt L { c with hands := H,A := tr1 ds back c.A t,did := c.did ++ [t],left := c.left - 1,phase := c.phase + 1 }).did = c.did ++ [t] := by
     unfold dealt; split <;> rfl
   refine ⟨P ++ [dn ++ [t]],[],CInv.deal hS hF hW hH (by simp only; omega) (by simp only [h.fin]; exact decide_eq_false (by omega)) h0 hem (by simp [h.pl]) (fun i hi => ?_) ?_ hl ?_,hd⟩
   · simp only at hi
     by_cases e : i < c.phase
     · have e1 : (P ++ [dn ++ [t]]).getD i [] = P.getD i [] := by simp [List.getD,List.getElem?_append_left (show i < P.length by rw [h.pl]; exact e)]
       rw [e1]; exact h.pp i e
     · have e2 : i = c.phase := by omega
       have e1 : (P ++ [dn ++ [t]]).getD i [] = dn ++ [t] := by rw [e2,<- h.pl]; simp [List.getD]
       rw [e1,e2]; exact hprm
   · simp only [h.did,List.flatten_append,List.flatten_cons,List.flatten_nil,List.append_nil,List.append_assoc]
   · simp only
     rw [hA,trS_all hS _ _ hpx back _ (fun i hi => by rw [hits_perm hprm i,hR.2 i hi]; rfl),cur_succ hS back _ hpx]
 · rw [if_neg h0]
   refine ⟨P,dn ++ [t],⟨hH,h.ph,h.fin,by simp only; omega,h.pl,h.pp,by simp only [h.did,List.append_assoc],fun _ => hprm,fun _ => by simp only; omega,fun e => by simp only at e; omega,fun _ => hA,fun e => by simp only at e; omega⟩,rfl⟩
theorem last_of {α : Type} {m : List α} (d : α) (h : m ≠ []) : m = m.dropLast ++ [m.getLastD d] := by
 have e : m.getLastD d = m.getLast h := by
   cases m with
   | nil => exact absurd rfl h
   | cons a m => rfl
 rw [e,List.dropLast_concat_getLast]
theorem first_of {α : Type} {m : List α} (d : α) (h : m ≠ []) : m = m.headD d :: m.tail := by
 cases m with
 | nil => exact absurd rfl h
 | cons a m => rfl
theorem CInv.step {c : Crw} {P : List (List (List Int))} {dn : List (List Int)} (h : CInv ds L xs W back c P dn) (hS : Shp ds) (hF : Fine ds L) (hW : 0 < W) (hl : xs.length = prd2 ds) {v u : Nat} (hv : v < W) (hu : u < W) :
   ∃ P' dn',CInv ds L xs W back (step1 ds back L c v u) P' dn' /\ ((step1 ds back L c v u = c /\ c.hands.getD v [] = []) \/ ∃ t,(step1 ds back L c v u).did = c.did ++ [t]) := by
 unfold step1
 by_cases h1 : c.hands.getD v [] ≠ []
 · rw [if_pos h1]
   have e := last_of [] h1
   obtain ⟨P',dn',h2,h3⟩ := h.done hS hF hW hl (t := (c.hands.getD v []).getLastD []) (H := c.hands.set v (c.hands.getD v []).dropLast) (by rw [List.length_set]; exact h.w) (flat_last c.hands v (by rw [h.w]; exact hv) _ _ e)
   exact ⟨P',dn',h2,.inr ⟨_,h3⟩⟩
 · rw [if_neg h1]
   by_cases h2 : c.hands.getD u [] ≠ []
   · rw [if_pos h2]
     have e := first_of [] h2
     obtain ⟨P',dn',h3,h4⟩ := h.done hS hF hW hl (t := (c.hands.getD u []).headD []) (H := c.hands.set u (c.hands.getD u []).tail) (by rw [List.length_set]; exact h.w) (flat_first c.hands u (by rw [h.w]; exact hu) _ _ e)
     exact ⟨P',dn',h3,.inr ⟨_,h4⟩⟩
   · rw [if_neg h2]
     exact ⟨P,dn,h,.inl ⟨rfl,by simpa using h1⟩⟩
theorem CInv.pick {c : Crw} {P : List (List (List Int))} {dn : List (List Int)} (h : CInv ds L xs W back c P dn) (hS : Shp ds) (hF : Fine ds L) (hW : 0 < W) (hl : xs.length = prd2 ds) (pv pu : Int) :
   ∃ P' dn',CInv ds L xs W back (pickC ds back L c pv pu) P' dn' /\ (pickC ds back L c pv pu = c \/ ∃ t,(pickC ds back L c pv pu).did = c.did ++ [t]) := by
 unfold pickC
 by_cases h0 : pickE c pv pu = 0
 · rw [if_pos h0]
   have hb : 0 <= pv /\ pv < (c.hands.length : Int) /\ 0 <= pu /\ pu < (c.hands.length : Int) := by
     unfold pickE at h0
     split at h0
     · cases h0
     · split at h0
       · assumption
       · cases h0
   rw [h.w] at hb
   obtain ⟨P',dn',h1,h2⟩ := h.step hS hF hW hl (v := pv.toNat) (u := pu.toNat) (by omega) (by omega)
   exact ⟨P',dn',h1,h2.imp (fun q => q.1) id⟩
 · rw [if_neg h0]
   exact ⟨P,dn,h,.inl rfl⟩
theorem CInv.count {c : Crw} {P : List (List (List Int))} {dn : List (List Int)} (h : CInv ds L xs W back c P dn) : c.did.length = (L.take c.phase).flatten.length + dn.length := by
 have e : P.map List.length = (L.take c.phase).map List.length := by
   apply List.ext_getElem
   · simp only [List.length_map,h.pl,List.length_take]
     have := h.ph
     omega
   · intro i h1 h2
     simp only [List.length_map] at h1 h2
     have hi : i < c.phase := by rw [<- h.pl]; exact h1
     have hL : i < L.length := by have := h.ph; omega
     have := (h.pp i hi).length_eq
     simp only [List.getD,List.getElem?_eq_getElem h1,List.getElem?_eq_getElem hL,Option.getD_some] at this
     simp only [List.getElem_map,List.getElem_take]
     exact this
 rw [h.did,List.length_append,List.length_flatten,e,<- List.length_flatten]
theorem CInv.room {c : Crw} {P : List (List (List Int))} {dn : List (List Int)} (h : CInv ds L xs W back c P dn) : (c.phase < L.length -> c.did.length < L.flatten.length /\ dn.length + c.left = (L.getD c.phase []).length) /\ (c.phase = L.length -> c.did.length = L.flatten.length) := by
 constructor
 · intro hp
   have h1 := (h.prm hp).length_eq
   rw [List.length_append,<- h.lft] at h1
   have h2 := h.some hp
   have h3 := congrArg List.length (flat_at L c.phase hp)
   simp only [List.length_append] at h3
   rw [h.count]
   exact ⟨by omega,h1⟩
 · intro hp
   rw [h.count,hp,List.take_length,(h.none hp).1]; rfl
theorem CInv.ended {c : Crw} {P : List (List (List Int))} {dn : List (List Int)} (h : CInv ds L xs W back c P dn) (hc : L.flatten.length <= c.did.length) : c.phase = L.length /\ c.fin = true := by
 have hp : c.phase = L.length := by
   rcases Nat.lt_or_ge c.phase L.length with q | q
   · have := (h.room.1 q).1; omega
   · exact Nat.le_antisymm h.ph q
 exact ⟨hp,by rw [h.fin]; exact decide_eq_true hp⟩
theorem CInv.whole {c : Crw} {P : List (List (List Int))} {dn : List (List Int)} (h : CInv ds L xs W back c P dn) (hF : Fine ds L) (h1 : 1 <= ds.length) (hp : c.phase = L.length) : c.A = Go.Proofs.YtckoipoejaafhaaDoor.mk (prd2 ds) (who ds back (cf xs) ds.length) := by
 rw [h.arrE hp,hp,hF.1]
 unfold cur
 rw [if_neg (by omega)]
def roundK (ds : List Nat) (back : Bool) (L : List (List (List Int))) (W : Nat) (c : Crw) : Nat -> Crw
 | 0 => c
 | k + 1 => pickC ds back L (roundK ds back L W c k) (k : Int) (((k + 1) % W : Nat) : Int)
def rounds (ds : List Nat) (back : Bool) (L : List (List (List Int))) (W : Nat) (c : Crw) : Nat -> Crw
 | 0 => c
 | n + 1 => roundK ds back L W (rounds ds back L W c n) W
theorem CInv.roundK {c : Crw} {P : List (List (List Int))} {dn : List (List Int)} (h : CInv ds L xs W back c P dn) (hS : Shp ds) (hF : Fine ds L) (hW : 0 < W) (hl : xs.length = prd2 ds) (k : Nat) :
   ∃ P' dn',CInv ds L xs W back (roundK ds back L W c k) P' dn' /\ (Go.Proofs.YtckoipoejaafhaaDoor.roundK ds back L W c k = c \/ c.did.length < (Go.Proofs.YtckoipoejaafhaaDoor.roundK ds back L W c k).did.length) := by
 induction k with
 | zero => exact ⟨P,dn,h,.inl rfl⟩
 | succ k ih =>
   obtain ⟨P1,dn1,h1,h2⟩ := ih
   obtain ⟨P2,dn2,h3,h4⟩ := h1.pick hS hF hW hl (k : Int) (((k + 1) % W : Nat) : Int)
   refine ⟨P2,dn2,h3,?_⟩
   rw [Go.Proofs.YtckoipoejaafhaaDoor.roundK]
   rcases h4 with e | ⟨t,e⟩
   · rw [e]; exact h2
   · right
     rw [e,List.length_append,List.length_singleton]
     rcases h2 with h2 | h2
     · rw [h2]; omega
     · omega
theorem CInv.round {c : Crw} {P : List (List (List Int))} {dn : List (List Int)} (h : CInv ds L xs W back c P dn) (hS : Shp ds) (hF : Fine ds L) (hW : 0 < W) (hl : xs.length = prd2 ds) :
   ∃ P' dn',CInv ds L xs W back (Go.Proofs.YtckoipoejaafhaaDoor.roundK ds back L W c W) P' dn' /\ (c.phase < L.length -> c.did.length < (Go.Proofs.YtckoipoejaafhaaDoor.roundK ds back L W c W).did.length) /\ c.did.length <= (Go.Proofs.YtckoipoejaafhaaDoor.roundK ds back L W c W).did.length := by
 obtain ⟨P',dn',h1,h2⟩ := h.roundK hS hF hW hl W
 refine ⟨P',dn',h1,fun hp => ?_,?_⟩
 · rcases h2 with e | e
   · exfalso
     have hs := h.some hp
     rw [h.lft] at hs
     obtain ⟨j,hj,hne⟩ := flat_some c.hands hs
     rw [h.w] at hj
     have hmono : ∀ k m,k <= m -> (Go.Proofs.YtckoipoejaafhaaDoor.roundK ds back L W c k).did.length <= (Go.Proofs.YtckoipoejaafhaaDoor.roundK ds back L W c m).did.length := by
       intro k m hkm
       induction m with
       | zero => obtain rfl : k = 0 := by omega
                 exact Nat.le_refl _
       | succ m ih =>
         rcases Nat.lt_or_ge k (m + 1) with q | q
         · obtain ⟨P1,dn1,h3,_⟩ := h.roundK hS hF hW hl m
           obtain ⟨_,_,_,h4⟩ := h3.pick hS hF hW hl (m : Int) (((m + 1) % W : Nat) : Int)
           have h5 := ih (by omega)
           rw [Go.Proofs.YtckoipoejaafhaaDoor.roundK]
           rcases h4 with e4 | ⟨t,e4⟩
           · rw [e4]; exact h5
           · rw [e4,List.length_append]; omega
         · obtain rfl : k = m + 1 := by omega
           exact Nat.le_refl _
     have hall : ∀ k,k <= W -> Go.Proofs.YtckoipoejaafhaaDoor.roundK ds back L W c k = c := by
       intro k hk
       obtain ⟨_,_,_,h4⟩ := h.roundK hS hF hW hl k
       rcases h4 with e4 | e4
       · exact e4
       · have := hmono k W hk
         rw [e] at this
         omega
     have hj1 := hall (j + 1) hj
     rw [Go.Proofs.YtckoipoejaafhaaDoor.roundK,hall j (by omega)] at hj1
     have hf : c.fin = false := by rw [h.fin]; exact decide_eq_false (by omega)
     have hm : (j + 1) % W < W := Nat.mod_lt _ hW
     have hE : pickE c (j : Int) (((j + 1) % W : Nat) : Int) = 0 := by
       unfold pickE
       rw [hf,if_neg (by simp),h.w,if_pos (by omega)]
     unfold pickC at hj1
     rw [if_pos hE,Int.toNat_natCast,Int.toNat_natCast] at hj1
     obtain ⟨_,_,_,h6⟩ := h.step hS hF hW hl hj hm
     rcases h6 with ⟨_,h6⟩ | ⟨t,h6⟩
     · exact hne h6
     · rw [hj1] at h6
       have := congrArg List.length h6
       rw [List.length_append,List.length_singleton] at this
       omega
   · exact e
 · rcases h2 with e | e
   · rw [e]; exact Nat.le_refl _
   · omega
theorem CInv.rounds {c : Crw} {P : List (List (List Int))} {dn : List (List Int)} (h : CInv ds L xs W back c P dn) (hS : Shp ds) (hF : Fine ds L) (hW : 0 < W) (hl : xs.length = prd2 ds) (n : Nat) :
   ∃ P' dn',CInv ds L xs W back (Go.Proofs.YtckoipoejaafhaaDoor.rounds ds back L W c n) P' dn' /\ (n <= (Go.Proofs.YtckoipoejaafhaaDoor.rounds ds back L W c n).did.length \/ (Go.Proofs.YtckoipoejaafhaaDoor.rounds ds back L W c n).phase = L.length) := by
 induction n with
 | zero => exact ⟨P,dn,h,.inl (Nat.zero_le _)⟩
 | succ n ih =>
   obtain ⟨P1,dn1,h1,h2⟩ := ih
   obtain ⟨P2,dn2,h3,h4,h5⟩ := h1.round hS hF hW hl
   refine ⟨P2,dn2,h3,?_⟩
   rw [Go.Proofs.YtckoipoejaafhaaDoor.rounds]
   rcases Nat.lt_or_ge (Go.Proofs.YtckoipoejaafhaaDoor.rounds ds back L W c n).phase L.length with q | q
   · rcases h2 with h2 | h2
     · left; have := h4 q; omega
     · omega
   · right
     have e : (Go.Proofs.YtckoipoejaafhaaDoor.rounds ds back L W c n).phase = L.length := Nat.le_antisymm h1.ph q
     have e2 := h1.room.2 e
     exact (h3.ended (by omega)).1
theorem CInv.ends {c : Crw} {P : List (List (List Int))} {dn : List (List Int)} (h : CInv ds L xs W back c P dn) (hS : Shp ds) (hF : Fine ds L) (hW : 0 < W) (hl : xs.length = prd2 ds) (h1 : 1 <= ds.length) (n : Nat) (hn : L.flatten.length <= n) :
   (Go.Proofs.YtckoipoejaafhaaDoor.rounds ds back L W c n).fin = true /\ (Go.Proofs.YtckoipoejaafhaaDoor.rounds ds back L W c n).A = Go.Proofs.YtckoipoejaafhaaDoor.mk (prd2 ds) (who ds back (cf xs) ds.length) := by
 obtain ⟨P',dn',h2,h3⟩ := h.rounds hS hF hW hl n
 have hp : (Go.Proofs.YtckoipoejaafhaaDoor.rounds ds back L W c n).phase = L.length := by
   rcases h3 with h3 | h3
   · exact (h2.ended (by omega)).1
   · exact h3
 exact ⟨by rw [h2.fin]; exact decide_eq_true hp,h2.whole hF h1 hp⟩
end
end Go.Proofs.YtckoipoejaafhaaDoor

namespace Go.Proofs.YtckoipoejaafhaaDoor.Cc
def cpK (ds Q old : List Nat) (x f i k : Nat) : List Nat :=
 tb (prd2 ds) fun p => if f <= lnO (beh ds (x + 1)) (sz ds x) p /\ (lnO (beh ds (x + 1)) (sz ds x) p < i \/ (lnO (beh ds (x + 1)) (sz ds x) p = i /\ dg (beh ds (x + 1)) (sz ds x) p < k)) then Q.getD p 0 else old.getD p 0
theorem cpK_length (ds Q old : List Nat) (x f i k : Nat) : (cpK ds Q old x f i k).length = prd2 ds := tb_length _ _
theorem cpK_start {ds old : List Nat} (Q : List Nat) (hl : old.length = prd2 ds) (x f : Nat) : cpK ds Q old x f f 0 = old := by
 have : cpK ds Q old x f f 0 = tb old.length (fun p => old.getD p 0) := by
   unfold cpK
   rw [hl]
   exact tb_congr fun p _ => if_neg (by omega)
 rw [this,tb_self]
theorem cpK_line {ds : List Nat} (h : Shp ds) (Q old : List Nat) (x : Nat) (hx : x < ds.length) (f i : Nat) : cpK ds Q old x f i (sz ds x) = cpK ds Q old x f (i + 1) 0 := by
 unfold cpK
 refine tb_congr fun p _ => ?_
 have hd := dg_lt (u := beh ds (x + 1)) (p := p) (P2_pos (h.at x hx))
 congr 1
 simp only [eq_iff_iff]
 omega
theorem cpK_set {ds : List Nat} (h : Shp ds) (Q old : List Nat) (x f i k : Nat) (hf : f <= i) (hk : k < sz ds x) :
   (cpK ds Q old x f i k).set (ps (beh ds (x + 1)) (sz ds x) i k) (Q.getD (ps (beh ds (x + 1)) (sz ds x) i k) 0) = cpK ds Q old x f i (k + 1) := by
 have hu := beh_pos h (x + 1)
 unfold cpK
 rw [tb_set]
 refine tb_congr fun p _ => ?_
 by_cases e : p = ps (beh ds (x + 1)) (sz ds x) i k
 · rw [if_pos e,e,ps_ln hu hk,ps_dg hu hk,if_pos (by omega)]
 · rw [if_neg e]
   have hne : ¬ (lnO (beh ds (x + 1)) (sz ds x) p = i /\ dg (beh ds (x + 1)) (sz ds x) p = k) := fun ⟨h1,h2⟩ => by
     apply e
     rw [<- ps_of hu p,h1,h2]
   congr 1
   simp only [eq_iff_iff]
   omega
def gat (ds : List Nat) (x : Nat) (Q : Nat -> List Nat) (T : List (List Int)) : Nat -> List Nat
 | 0 => List.replicate (prd2 ds) 0
 | i + 1 => cpK ds (Q i) (gat ds x Q T i) x ((T.getD i []).getD 1 0).toNat ((T.getD i []).getD 2 0).toNat 0
theorem gat_length (ds : List Nat) (x : Nat) (Q : Nat -> List Nat) (T : List (List Int)) (i : Nat) : (gat ds x Q T i).length = prd2 ds := by
 cases i with
 | zero => exact List.length_replicate
 | succ i => exact cpK_length _ _ _ _ _ _ _
section
variable {ds : List Nat} {x : Nat} {Q : Nat -> List Nat} {T : List (List Int)} {A : Nat -> Nat}
theorem hit_iff {r : List Int} {n k : Nat} (h : Vld n x r) : hit r k = 1 ↔ ((r.getD 1 0).toNat <= k /\ k < (r.getD 2 0).toNat) := by
 obtain ⟨-,h1,-,h3⟩ := h
 unfold hit
 split <;> omega
theorem hit_le (r : List Int) (k : Nat) : hit r k <= 1 := by unfold hit; split <;> omega
theorem hits_cons (r : List Int) (T : List (List Int)) (k : Nat) : hits (r :: T) k = hit r k + hits T k := by simp [hits]
theorem hits_out {n : Nat} (h : ∀ r ∈ T,Vld n x r) {k : Nat} (hk : n <= k) : hits T k = 0 := by
 induction T with
 | nil => rfl
 | cons r T ih =>
   rw [hits_cons,ih fun r hr => h r (by simp [hr])]
   have := h r (by simp)
   unfold hit
   rw [if_neg (by have := this.2.2.1; omega)]
theorem hits_pos {r : List Int} {k : Nat} (h : r ∈ T) (h1 : hit r k = 1) : 0 < hits T k := by
 induction T with
 | nil => simp at h
 | cons s T ih =>
   rw [hits_cons]
   rcases List.mem_cons.mp h with rfl | h
   · omega
   · have := ih h
     omega
theorem hits_sub {D : List (List Int)} (h : D.Sublist T) (k : Nat) : hits D k <= hits T k := by
 induction h with
 | slnil => exact Nat.le_refl _
 | cons a _ ih => rw [hits_cons]; omega
 | cons_cons a _ ih => rw [hits_cons,hits_cons]; omega
theorem gat_get (hV : ∀ r ∈ T,Vld (nln ds x) x r) (hQ : ∀ i p,i < T.length -> p < prd2 ds -> hit (T.getD i []) (lnO (beh ds (x + 1)) (sz ds x) p) = 1 -> (Q i).getD p 0 = A p) :
   ∀ i,i <= T.length -> ∀ p,p < prd2 ds -> (gat ds x Q T i).getD p 0 = if 0 < hits (T.take i) (lnO (beh ds (x + 1)) (sz ds x) p) then A p else 0 := by
 intro i
 induction i with
 | zero =>
   intro _ p hp
   simp [gat,hits,List.getD,hp]
 | succ i ih =>
   intro hi p hp
   have hi' : i < T.length := by omega
   have hv := hV _ (getD_mem hi')
   rw [hits_succ T i _ hi']
   have hh := hit_iff (k := lnO (beh ds (x + 1)) (sz ds x) p) hv
   unfold gat cpK
   rw [tb_get _ _ _ hp]
   by_cases e : hit (T.getD i []) (lnO (beh ds (x + 1)) (sz ds x) p) = 1
   · have := hh.1 e
     rw [if_pos ⟨this.1,.inl this.2⟩,if_pos (by omega),hQ i p hi' hp e]
   · have h0 : hit (T.getD i []) (lnO (beh ds (x + 1)) (sz ds x) p) = 0 := by have := hit_le (T.getD i []) (lnO (beh ds (x + 1)) (sz ds x) p); omega
     have hn : ¬ (((T.getD i []).getD 1 0).toNat <= lnO (beh ds (x + 1)) (sz ds x) p /\ lnO (beh ds (x + 1)) (sz ds x) p < ((T.getD i []).getD 2 0).toNat) := fun h => e (hh.2 h)
     rw [if_neg (by omega),h0,Nat.add_zero,ih (by omega) p hp]
theorem gat_all (hS : Shp ds) (hx : x < ds.length) (hT : RgtP (nln ds x) x T) (hQ : ∀ i p,i < T.length -> p < prd2 ds -> hit (T.getD i []) (lnO (beh ds (x + 1)) (sz ds x) p) = 1 -> (Q i).getD p 0 = A p) : gat ds x Q T T.length = tb (prd2 ds) A := by
 have h := gat_get hT.1 hQ T.length (Nat.le_refl _)
 have e := tb_self (gat ds x Q T T.length)
 rw [gat_length] at e
 rw [<- e]
 refine tb_congr fun p hp => ?_
 have hl : lnO (beh ds (x + 1)) (sz ds x) p < nln ds x := by
   have := hp
   rw [prd2_at ds x hx] at this
   exact ln_lt (beh_pos hS (x + 1)) this
 rw [h p hp,List.take_length,hT.2 _ hl,if_pos (by omega)]
end
theorem nmL_nmL (xs : List Nat) : nmL (nmL xs) = nmL xs := by
 unfold nmL
 rw [List.map_map]
 refine List.map_congr_left fun a _ => ?_
 show fN (fN a) = fN a
 exact fN_small (by rw [fN_eq]; exact Nat.mod_lt _ (by decide))
section
variable {ds : List Nat} {x : Nat} {back : Bool} {xs : List Nat}
theorem wkL_trS (h : Shp ds) (hx : x < ds.length) : ∀ (D : List (List Int)) (E : Nat -> Bool),(∀ t ∈ D,Vld (nln ds x) x t) -> (∀ k,hits D k <= 1) -> (∀ k,E k = true -> hits D k = 0) ->
   wkL ds back D (trS ds (nmL xs) x back E) = trS ds (nmL xs) x back (fun k => E k || decide (0 < hits D k)) := by
 intro D
 induction D with
 | nil =>
   intro E _ _ _
   have : (fun k => E k || decide (0 < hits [] k)) = E := funext fun k => by simp [hits]
   rw [this]
   rfl
 | cons t D ih =>
   intro E hV h1 hE
   have hv := hV t (by simp)
   have e0 : (t.getD 0 0).toNat = x := by rw [hv.1]; rfl
   have hst : trn ds (nmL (trS ds (nmL xs) x back E)) x (t.getD 1 0).toNat (t.getD 2 0).toNat back = trS ds (nmL xs) x back (fun i => E i || (decide ((t.getD 1 0).toNat <= i) && decide (i < (t.getD 2 0).toNat))) := by
     rw [trS_stepN h (nmL xs) x hx back E _ _ (fun i h2 h3 => ?_),nmL_nmL]
     cases hh : E i with
     | false => rfl
     | true =>
       have := hE i hh
       rw [hits_cons,(hit_iff hv).2 ⟨h2,h3⟩] at this
       omega
   rw [wkL,e0,hst,ih _ (fun t h => hV t (by simp [h])) (fun k => by have := h1 k; rw [hits_cons] at this; omega) ?_]
   · congr 1
     funext k
     rw [hits_cons]
     have hh := hit_iff (k := k) hv
     have hl := hit_le t k
     by_cases e : hit t k = 1
     · have := hh.1 e
       rw [decide_eq_true this.1,decide_eq_true this.2,e,decide_eq_true (show 0 < 1 + hits D k by omega)]
       simp
     · have h0 : hit t k = 0 := by omega
       have hn : ¬ ((t.getD 1 0).toNat <= k /\ k < (t.getD 2 0).toNat) := fun h => e (hh.2 h)
       have : (decide ((t.getD 1 0).toNat <= k) && decide (k < (t.getD 2 0).toNat)) = false := by
         by_cases q : (t.getD 1 0).toNat <= k
         · rw [decide_eq_false (fun q2 : k < (t.getD 2 0).toNat => hn ⟨q,q2⟩),Bool.and_false]
         · rw [decide_eq_false q,Bool.false_and]
       rw [this,h0,Bool.or_false,Nat.zero_add]
   · intro k hk
     have hk1 := h1 k
     rw [hits_cons] at hk1
     simp only [Bool.or_eq_true,Bool.and_eq_true,decide_eq_true_eq] at hk
     rcases hk with hk | hk
     · have := hE k hk
       rw [hits_cons] at this
       omega
     · have := (hit_iff hv).2 hk
       omega
theorem wkL_all (h : Shp ds) (hx : x < ds.length) (hl : xs.length = prd2 ds) {D : List (List Int)} (hD : ¬ D = []) (hV : ∀ t ∈ D,Vld (nln ds x) x t) (h1 : ∀ k,hits D k <= 1) : wkL ds back D xs = trS ds (nmL xs) x back (fun k => decide (0 < hits D k)) := by
 have e : wkL ds back D xs = wkL ds back D (nmL xs) := by
   cases D with
   | nil => exact absurd rfl hD
   | cons t D => rw [wkL,wkL,nmL_nmL]
 have e2 := wkL_trS (back := back) (xs := xs) h hx D (fun _ => false) hV h1 (fun k hk => by simp at hk)
 rw [trS_none (by rw [nmL_length,hl])] at e2
 rw [e,e2]
 congr 1
end
theorem dealT_sub (n : Nat) (TT : List (List Int)) (k : Nat) : (dealT n TT k).Sublist TT := by
 have h : ((TT.zipIdx.filter fun p => p.2 % n == k).map (·.1)).Sublist (TT.zipIdx.map (·.1)) := List.filter_sublist.map _
 rw [List.zipIdx_map_fst] at h
 exact h
theorem dealT_has {n : Nat} {TT : List (List Int)} {i : Nat} (hi : i < TT.length) : TT.getD i [] ∈ dealT n TT (i % n) := by
 unfold dealT
 refine List.mem_map.mpr ⟨(TT.getD i [],i),List.mem_filter.mpr ⟨?_,by simp⟩,rfl⟩
 rw [List.mem_zipIdx_iff_getElem?]
 simp [List.getD,List.getElem?_eq_getElem hi]
theorem gat_work {ds xs : List Nat} {x n : Nat} {back : Bool} {TT : List (List Int)} (hS : Shp ds) (hx : x < ds.length) (hl : xs.length = prd2 ds) (hT : RgtP (nln ds x) x TT) :
   gat ds x (fun i => wkL ds back (dealT n TT (i % n)) xs) TT TT.length = mk (prd2 ds) (alo ds x back (cf xs)) := by
 rw [gat_all (A := fun p => (alo ds x back (cf xs) p).val) hS hx hT]
 · rfl
 · intro i p hi hp hh
   have hm := dealT_has (n := n) hi
   have hle : ∀ k,hits (dealT n TT (i % n)) k <= 1 := fun k => by
     have h1 := hits_sub (dealT_sub n TT (i % n)) k
     by_cases hk : k < nln ds x
     · rw [hT.2 k hk] at h1; exact h1
     · rw [hits_out hT.1 (by omega)] at h1; omega
   rw [wkL_all hS hx hl (List.ne_nil_of_mem hm) (fun t ht => hT.1 t (dealT_mem ht)) hle]
   unfold trS
   rw [tb_get _ _ _ hp,if_pos (decide_eq_true (hits_pos hm hh)),cf_nmL]
end Go.Proofs.YtckoipoejaafhaaDoor.Cc
