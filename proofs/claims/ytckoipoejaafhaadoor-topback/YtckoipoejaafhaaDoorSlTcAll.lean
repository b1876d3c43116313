/-
 Texts that stood one behind the other,as one.
-/
import Derived.Test.YtckoipoejaafhaaDoorManyGAll
import Derived.Test.YtckoipoejaafhaaDoorSlAll
import Derived.Test.YtckoipoejaafhaaDoorSlAll
import Derived.Test.YtckoipoejaafhaaDoorManyCAll
import Derived.BigQuiet
namespace Go.Proofs.YtckoipoejaafhaaDoor
open Go.RowKit
set_option maxRecDepth 100000
def tc (T : List (List Int)) : List Value := T.flatMap fun r => r.map fun z => Value.int .i64 z
def T3 (T : List (List Int)) : Prop := ∀ r ∈ T,r.length = 3 /\ ∀ z ∈ r,-9223372036854775808 <= z /\ z <= 9223372036854775807
theorem T3.nil : T3 [] := fun r hr => by cases hr
theorem T3.append {A B : List (List Int)} (hA : T3 A) (hB : T3 B) : T3 (A ++ B) := fun r hr => by
 rcases List.mem_append.mp hr with h | h
 · exact hA r h
 · exact hB r h
theorem T3.one {a b c : Int} (ha : -9223372036854775808 <= a /\ a <= 9223372036854775807) (hb : -9223372036854775808 <= b /\ b <= 9223372036854775807) (hc : -9223372036854775808 <= c /\ c <= 9223372036854775807) : T3 [[a,b,c]] := fun r hr => by
 simp only [List.mem_singleton] at hr
 subst hr
 refine ⟨rfl,fun z hz => ?_⟩
 simp only [List.mem_cons,List.not_mem_nil,or_false] at hz
 rcases hz with rfl | rfl | rfl
 · exact ha
 · exact hb
 · exact hc
theorem tc_append (A B : List (List Int)) : tc (A ++ B) = tc A ++ tc B := by simp [tc]
theorem tc_cons (r : List Int) (T : List (List Int)) : tc (r :: T) = (r.map fun z => Value.int .i64 z) ++ tc T := by simp [tc]
theorem tc_length {T : List (List Int)} (h : T3 T) : (tc T).length = T.length * 3 := by
 induction T with
 | nil => rfl
 | cons r T ih =>
   have h1 := (h r (List.mem_cons_self)).1
   rw [tc_cons,List.length_append,List.length_map,h1,ih (fun q hq => h q (List.mem_cons_of_mem _ hq)),List.length_cons]; omega
theorem tc_get {T : List (List Int)} (h : T3 T) (i j : Nat) (hi : i < T.length) (hj : j < 3) : (tc T)[i * 3 + j]? = some (.int .i64 ((T.getD i []).getD j 0)) := by
 induction T generalizing i with
 | nil => simp at hi
 | cons r T ih =>
   have h1 := (h r (List.mem_cons_self)).1
   rw [tc_cons]
   cases i with
   | zero =>
     rw [List.getElem?_append_left (by rw [List.length_map]; omega),List.getElem?_map]
     simp only [Nat.zero_mul,Nat.zero_add,List.getD_cons_zero]
     rw [List.getD,List.getElem?_eq_getElem (by omega)]; rfl
   | succ i =>
     rw [List.getElem?_append_right (by rw [List.length_map]; omega),List.length_map,h1,show (i + 1) * 3 + j - 3 = i * 3 + j by omega,ih (fun q hq => h q (List.mem_cons_of_mem _ hq)) i (by simp at hi; omega)]
     simp
theorem info_task : (Tryd.prog.info? 71).map (fun i => (i.zero,i.size,i.bytes)) = some (some (.agg #[.int .i64 0,.int .i64 0,.int .i64 0]),3,24) := by kernel_rfl
theorem info_phase : (Tryd.prog.info? 69).map (fun i => (i.zero,i.size,i.bytes)) = some (some (.slice none 0 0),1,24) := by kernel_rfl
theorem info_3 {t : Nat} {z : Value} {s b : Nat} (h : (Tryd.prog.info? t).map (fun i => (i.zero,i.size,i.bytes)) = some (some z,s,b)) : ∃ i,Tryd.prog.info? t = some i /\ i.zero = some z /\ i.size = s /\ i.bytes = b := by
 cases hi : Tryd.prog.info? t with
 | none => rw [hi] at h; cases h
 | some i =>
   rw [hi] at h
   simp only [Option.map_some,Option.some.injEq,Prod.mk.injEq] at h
   exact ⟨i,rfl,h.1,h.2.1,h.2.2⟩
theorem IsR.of_owns {w : World} {base e n : Nat} {v : Value} {T : List (List Int)} (h : w.ownsRow base e 3 v n (tc T)) (hT : T3 T) : IsR 3 w v T := by
 have h0 := h
 obtain ⟨hl,hv⟩ := h
 rw [tc_length hT] at hl
 have hn : T.length = n := by omega
 subst hn
 rcases hv with ⟨rfl,h2⟩ | ⟨g,cap,cur,rfl,hg,hh,hc,hm,hs,ht⟩
 · have : T = [] := List.eq_nil_of_length_eq_zero h2
   subst this
   exact IsR.nil 3 w
 · refine ⟨some ⟨g,0,none⟩,cap,rfl,hc,hm,fun i hi => ⟨g,0,rfl,fun j hj => ?_⟩,hT⟩
   rw [Nat.zero_add,h0.cellAt (i * 3 + j) (by omega),tc_get hT i j hi hj]
def ful (x c t : Nat) : List (List Int) := (List.range t).map fun (s : Nat) => [(x : Int),((s * c : Nat) : Int),(((s + 1) * c : Nat) : Int)]
def chn (x c n : Nat) : List (List Int) := if n = 0 then [] else ful x c ((n - 1) / c) ++ [[(x : Int),(((n - 1) / c * c : Nat) : Int),(n : Int)]]
theorem ful_length (x c t : Nat) : (ful x c t).length = t := by simp [ful]
theorem ful_succ (x c t : Nat) : ful x c (t + 1) = ful x c t ++ [[(x : Int),((t * c : Nat) : Int),(((t + 1) * c : Nat) : Int)]] := by simp [ful,List.range_succ]
theorem chn_at (x c n t : Nat) (h1 : t * c < n) (h2 : n <= (t + 1) * c) : chn x c n = ful x c t ++ [[(x : Int),((t * c : Nat) : Int),(n : Int)]] := by
 unfold chn
 rw [if_neg (by omega)]
 have e : (n - 1) / c = t := by
   rw [Nat.div_eq_iff (Nat.pos_of_ne_zero (fun h => by subst h; omega))]
   rw [Nat.add_mul,Nat.one_mul] at h2
   omega
 rw [e]
theorem ful_T3 (x c t n : Nat) (hx : x <= 1024) (hn : t * c <= n) (h9 : n <= 1024) : T3 (ful x c t) := by
 intro r hr
 obtain ⟨s,hs,rfl⟩ := List.mem_map.mp hr
 have hs' := List.mem_range.mp hs
 have h1 : (s + 1) * c <= t * c := Nat.mul_le_mul_right _ hs'
 have h2 : s * c <= (s + 1) * c := Nat.mul_le_mul_right _ (by omega)
 refine ⟨rfl,fun z hz => ?_⟩
 simp only [List.mem_cons,List.not_mem_nil,or_false] at hz
 rcases hz with rfl | rfl | rfl <;> omega
def pls (ds : List Nat) (c x : Nat) : List (List (List Int)) := (List.range x).map fun y => chn y c (nln ds y)
theorem pls_length (ds : List Nat) (c x : Nat) : (pls ds c x).length = x := by simp [pls]
def Few (ds : List Nat) (c x : Nat) : Prop := ∀ y,y < x -> (chn y c (nln ds y)).length <= 64
end Go.Proofs.YtckoipoejaafhaaDoor

namespace Go.Proofs.YtckoipoejaafhaaDoor
def Vld (n x : Nat) (r : List Int) : Prop := r.getD 0 0 = (x : Int) /\ 0 <= r.getD 1 0 /\ r.getD 2 0 <= (n : Int) /\ r.getD 1 0 < r.getD 2 0
def hit (r : List Int) (k : Nat) : Nat := if r.getD 1 0 <= (k : Int) /\ (k : Int) < r.getD 2 0 then 1 else 0
def hits (T : List (List Int)) (k : Nat) : Nat := (T.map fun r => hit r k).sum
def RgtP (n x : Nat) (T : List (List Int)) : Prop := (∀ r ∈ T,Vld n x r) /\ ∀ k,k < n -> hits T k = 1
def Fine (ds : List Nat) (L : List (List (List Int))) : Prop := L.length = ds.length /\ ∀ y,y < ds.length -> RgtP (nln ds y) y (L.getD y [])
def BigP (L : List (List (List Int))) (x : Nat) : Prop := ∃ y,y < x /\ 64 < (L.getD y []).length
theorem hits_succ (T : List (List Int)) (i k : Nat) (hi : i < T.length) : hits (T.take (i + 1)) k = hits (T.take i) k + hit (T.getD i []) k := by
 unfold hits
 rw [List.take_add_one,List.getElem?_eq_getElem hi,List.map_append,List.sum_append]
 simp [List.getD,List.getElem?_eq_getElem hi]
theorem hits_le (T : List (List Int)) (k : Nat) : hits T k <= T.length := by
 induction T with
 | nil => simp [hits]
 | cons r T ih =>
   have h1 : hit r k <= 1 := by unfold hit; split <;> omega
   simp only [hits,List.map_cons,List.sum_cons,List.length_cons] at ih ⊢
   omega
theorem valid_succ {n x : Nat} {T : List (List Int)} {i : Nat} (hi : i < T.length) (h : ∀ r ∈ T.take i,Vld n x r) (h1 : Vld n x (T.getD i [])) : ∀ r ∈ T.take (i + 1),Vld n x r := by
 intro r hr
 rw [List.take_add_one,List.getElem?_eq_getElem hi] at hr
 rcases List.mem_append.mp hr with h2 | h2
 · exact h r h2
 · simp only [Option.toList_some,List.mem_singleton] at h2
   rw [h2]
   simpa [List.getD,List.getElem?_eq_getElem hi] using h1
theorem getD_mem {T : List (List Int)} {i : Nat} (hi : i < T.length) : T.getD i [] ∈ T := by
 rw [List.getD,List.getElem?_eq_getElem hi]
 exact List.getElem_mem hi
def trS (ds xs : List Nat) (x : Nat) (back : Bool) (D : Nat -> Bool) : List Nat :=
 tb (prd2 ds) fun p => if D (lnO (beh ds (x + 1)) (sz ds x) p) = true then (alo ds x back (cf xs) p).val else xs.getD p 0
theorem trS_none {ds xs : List Nat} (hl : xs.length = prd2 ds) (x : Nat) (back : Bool) : trS ds xs x back (fun _ => false) = xs := by
 have : trS ds xs x back (fun _ => false) = tb xs.length (fun p => xs.getD p 0) := by
   unfold trS; rw [hl]
   exact tb_congr fun p _ => if_neg (by simp)
 rw [this,tb_self]
theorem alo_same {ds : List Nat} (h : Shp ds) (x : Nat) (hx : x < ds.length) (b : Bool) {f g : Nat -> F} (p : Nat) (hp : p < prd2 ds)
   (hfg : ∀ q,q < prd2 ds -> lnO (beh ds (x + 1)) (sz ds x) q = lnO (beh ds (x + 1)) (sz ds x) p -> f q = g q) : alo ds x b f p = alo ds x b g p := by
 have hu := beh_pos h (x + 1)
 have hd := P2_pos (h.at x hx)
 have hk := dg_lt (u := beh ds (x + 1)) (p := p) hd
 unfold alo ax
 congr 1
 refine dft_congr (fun s hs => ?_) _
 have e : st (beh ds (x + 1)) (sz ds x) p s = ps (beh ds (x + 1)) (sz ds x) (lnO (beh ds (x + 1)) (sz ds x) p) s := by
   have := ps_st (i := lnO (beh ds (x + 1)) (sz ds x) p) hu hk s
   rw [ps_of hu p] at this
   exact this
 rw [e]
 refine hfg _ ?_ (ps_ln hu hs)
 have hln : lnO (beh ds (x + 1)) (sz ds x) p < beh ds (x + 1) * prd2 (ds.take x) := by
   rw [prd2_at ds x hx] at hp
   exact ln_lt hu hp
 rw [prd2_at ds x hx]
 exact ps_lt hu hln hs
theorem trS_step {ds : List Nat} (h : Shp ds) (xs : List Nat) (x : Nat) (hx : x < ds.length) (back : Bool) (D : Nat -> Bool) (f l : Nat) (hD : ∀ i,f <= i -> i < l -> D i = false) :
   trn ds (trS ds xs x back D) x f l back = trS ds xs x back (fun i => D i || (decide (f <= i) && decide (i < l))) := by
 unfold trn trK
 conv => rhs; unfold trS
 refine tb_congr fun p hp => ?_
 by_cases hin : f <= lnO (beh ds (x + 1)) (sz ds x) p /\ lnO (beh ds (x + 1)) (sz ds x) p < l
 · rw [if_pos ⟨hin.1,.inl hin.2⟩,if_pos (by simp [hin.1,hin.2])]
   congr 1
   refine alo_same h x hx back p hp fun q hq e => ?_
   unfold cf
   congr 1
   unfold trS
   rw [tb_get _ _ _ hq,e,if_neg (by rw [hD _ hin.1 hin.2]; simp)]
 · rw [if_neg (by omega)]
   have e : ((D (lnO (beh ds (x + 1)) (sz ds x) p) || (decide (f <= lnO (beh ds (x + 1)) (sz ds x) p) && decide (lnO (beh ds (x + 1)) (sz ds x) p < l))) = true) = (D (lnO (beh ds (x + 1)) (sz ds x) p) = true) := by
     by_cases h1 : f <= lnO (beh ds (x + 1)) (sz ds x) p
     · have h2 : ¬ lnO (beh ds (x + 1)) (sz ds x) p < l := fun h2 => hin ⟨h1,h2⟩
       simp [h1,h2]
     · simp [h1]
   simp only [e]
   unfold trS
   rw [tb_get _ _ _ hp]
theorem trS_all {ds : List Nat} (h : Shp ds) (xs : List Nat) (x : Nat) (hx : x < ds.length) (back : Bool) (D : Nat -> Bool) (hD : ∀ i,i < nln ds x -> D i = true) : trS ds xs x back D = mk (prd2 ds) (alo ds x back (cf xs)) := by
 unfold trS tb mk
 refine List.map_congr_left fun p hp => ?_
 have := List.mem_range.mp hp
 rw [prd2_at ds x hx] at this
 rw [if_pos (hD _ (ln_lt (beh_pos h (x + 1)) this))]
def nmL (xs : List Nat) : List Nat := xs.map fN
theorem nmL_length (xs : List Nat) : (nmL xs).length = xs.length := by simp [nmL]
theorem nmL_get (xs : List Nat) (i : Nat) : (nmL xs).getD i 0 = fN (xs.getD i 0) := by
 unfold nmL
 rw [List.getD,List.getD,List.getElem?_map]
 cases xs[i]? <;> rfl
theorem cf_nmL (xs : List Nat) : cf (nmL xs) = cf xs := funext fun i => by
 unfold cf
 rw [nmL_get,toF_fN]
theorem fN_small {a : Nat} (h : a < P) : fN a = a := by rw [fN_eq,Nat.mod_eq_of_lt h]
theorem nmL_tb (n : Nat) (g : Nat -> Nat) : nmL (tb n g) = tb n (fun p => fN (g p)) := by simp [nmL,tb]
theorem nmL_trS (ds xs : List Nat) (x : Nat) (back : Bool) (D : Nat -> Bool) : nmL (trS ds xs x back D) = trS ds (nmL xs) x back D := by
 unfold trS
 rw [nmL_tb,cf_nmL]
 refine tb_congr fun p _ => ?_
 split
 · exact fN_small (Fin.isLt _)
 · rw [nmL_get]
theorem trS_stepN {ds : List Nat} (h : Shp ds) (xs : List Nat) (x : Nat) (hx : x < ds.length) (back : Bool) (D : Nat -> Bool) (f l : Nat) (hD : ∀ i,f <= i -> i < l -> D i = false) :
   trn ds (nmL (trS ds xs x back D)) x f l back = trS ds (nmL xs) x back (fun i => D i || (decide (f <= i) && decide (i < l))) := by
 rw [nmL_trS]
 exact trS_step h (nmL xs) x hx back D f l hD
end Go.Proofs.YtckoipoejaafhaaDoor

namespace Go.Proofs.YtckoipoejaafhaaDoor
open Go.RowKit
set_option maxRecDepth 100000
theorem row3 {w : World} {v : Value} {T : List (List Int)} (h : IsR 3 w v T) (i : Nat) (hi : i < T.length) : ∃ a b c,T.getD i [] = [a,b,c] /\ (-9223372036854775808 <= a /\ a <= 9223372036854775807) /\ (-9223372036854775808 <= b /\ b <= 9223372036854775807) /\ (-9223372036854775808 <= c /\ c <= 9223372036854775807) := by
 obtain ⟨_,_,_,_,_,_,hr⟩ := h
 obtain ⟨h1,h2⟩ := hr T[i] (List.getElem_mem hi)
 obtain ⟨a,b,c,e⟩ := len_3 h1
 rw [e] at h2
 exact ⟨a,b,c,by simp [List.getD,List.getElem?_eq_getElem hi,e],h2 a (by simp),h2 b (by simp),h2 c (by simp)⟩
end Go.Proofs.YtckoipoejaafhaaDoor

namespace Go.Proofs.YtckoipoejaafhaaDoor
theorem ful_hits (x c t k : Nat) : hits (ful x c t) k = if k < t * c then 1 else 0 := by
 induction t with
 | zero => simp [ful,hits]
 | succ t ih =>
   rw [ful_succ]
   unfold hits at ih ⊢
   rw [List.map_append,List.sum_append,ih]
   simp only [List.map_cons,List.map_nil,List.sum_cons,List.sum_nil,hit]
   show (if k < t * c then 1 else 0) + ((if ((t * c : Nat) : Int) <= (k : Int) /\ (k : Int) < (((t + 1) * c : Nat) : Int) then 1 else 0) + 0) = _
   have e : (t + 1) * c = t * c + c := by rw [Nat.add_mul,Nat.one_mul]
   rw [e]
   by_cases h1 : k < t * c
   · rw [if_pos h1,if_neg (by omega),if_pos (by omega)]; rfl
   · rw [if_neg h1]
     by_cases h2 : k < t * c + c
     · rw [if_pos (by omega),if_pos h2]; rfl
     · rw [if_neg (by omega),if_neg h2]; rfl
theorem chn_right (x c n : Nat) (hc : 1 <= c) : RgtP n x (chn x c n) := by
 rcases Nat.eq_zero_or_pos n with h0 | h0
 · subst h0
   exact ⟨fun r hr => by simp [chn] at hr,fun k hk => by omega⟩
 · obtain ⟨t,ht⟩ : ∃ t,t = (n - 1) / c := ⟨_,rfl⟩
   have h1 : t * c <= n - 1 := by rw [ht]; exact Nat.div_mul_le_self _ _
   have h2 : n - 1 < (t + 1) * c := by rw [ht,Nat.mul_comm]; exact Nat.lt_mul_div_succ _ (by omega)
   rw [chn_at x c n t (by omega) (by omega)]
   refine ⟨fun r hr => ?_,fun k hk => ?_⟩
   · rcases List.mem_append.mp hr with h | h
     · obtain ⟨s,hs,rfl⟩ := List.mem_map.mp h
       have hs' := List.mem_range.mp hs
       have h3 : (s + 1) * c <= t * c := Nat.mul_le_mul_right _ hs'
       have h4 : (s + 1) * c = s * c + c := by rw [Nat.add_mul,Nat.one_mul]
       refine ⟨rfl,?_,?_,?_⟩
       · show (0 : Int) <= ((s * c : Nat) : Int); omega
       · show (((s + 1) * c : Nat) : Int) <= (n : Int); omega
       · show ((s * c : Nat) : Int) < (((s + 1) * c : Nat) : Int); omega
     · simp only [List.mem_singleton] at h
       subst h
       refine ⟨rfl,?_,?_,?_⟩
       · show (0 : Int) <= ((t * c : Nat) : Int); omega
       · show (n : Int) <= (n : Int); omega
       · show ((t * c : Nat) : Int) < (n : Int); omega
   · have e := ful_hits x c t k
     unfold hits at e ⊢
     rw [List.map_append,List.sum_append,e]
     simp only [List.map_cons,List.map_nil,List.sum_cons,List.sum_nil,hit]
     show (if k < t * c then 1 else 0) + ((if ((t * c : Nat) : Int) <= (k : Int) /\ (k : Int) < (n : Int) then 1 else 0) + 0) = 1
     by_cases h3 : k < t * c
     · rw [if_pos h3,if_neg (by omega)]; rfl
     · rw [if_neg h3,if_pos (by omega)]; rfl
theorem chn_few (x c n : Nat) : (chn x c n).length <= n := by
 unfold chn
 split
 · simp
 · rw [List.length_append,ful_length]
   have : (n - 1) / c <= n - 1 := Nat.div_le_self _ _
   simp only [List.length_cons,List.length_nil]
   omega
theorem pls_get (ds : List Nat) (c x y : Nat) (hy : y < x) : (pls ds c x).getD y [] = chn y c (nln ds y) := by
 simp [pls,List.getD,hy]
theorem pls_fine (ds : List Nat) (c : Nat) (hc : 1 <= c) : Fine ds (pls ds c ds.length) :=
 ⟨pls_length _ _ _,fun y hy => by rw [pls_get ds c _ y hy]; exact chn_right y c _ hc⟩
theorem few_small {ds : List Nat} (h : Shp ds) (hn : prd2 ds <= 64) (c : Nat) : Few ds c ds.length := fun y hy =>
 Nat.le_trans (chn_few y c _) (by rw [<- nln_div h y hy]; exact Nat.le_trans (Nat.div_le_self _ _) hn)
theorem pls_notbig {ds : List Nat} {c : Nat} (hF : Few ds c ds.length) : ¬ BigP (pls ds c ds.length) (pls ds c ds.length).length := fun ⟨y,hy,hb⟩ => by
 rw [pls_length] at hy
 rw [pls_get ds c _ y hy] at hb
 have := hF y hy
 omega
end Go.Proofs.YtckoipoejaafhaaDoor

namespace Go.Proofs.YtckoipoejaafhaaDoor
open Go.RowKit
set_option maxRecDepth 100000
def RowV (t : Nat) (w : World) (g : Nat) (vs : List Value) : Prop := w.heap[g]? = some (.cells vs.toArray t (0,0))
section
variable {t : Nat} {w w' : World} {g g' : Nat} {xs ys : List Value}
theorem RowV.lt (h : RowV t w g xs) : g < w.heap.size := by
 obtain ⟨hlt,_⟩ := Array.getElem?_eq_some_iff.1 h
 exact hlt
theorem RowV.cell (h : RowV t w g xs) (i : Nat) : w.cell? ⟨g,i,none⟩ = xs[i]? := by
 have hh : w.heap[g]? = _ := h
 simp only [World.cell?,hh,List.getElem?_toArray]
 cases xs[i]? <;> rfl
theorem RowV.frozen (h : RowV t w g xs) (i : Nat) : w.frozen? ⟨g,i,none⟩ = false := by
 have hh : w.heap[g]? = _ := h
 simp [World.frozen?,hh]
theorem RowV.set (h : RowV t w g xs) (i : Nat) (u : Value) : RowV t (w.setCell ⟨g,i,none⟩ u) g (xs.set i u) := by
 have hh : w.heap[g]? = _ := h
 unfold RowV
 simp [World.setCell,Array.getElem?_modify,hh]
theorem RowV.block (h : RowV t w g xs) (e : w'.heap[g]? = w.heap[g]?) : RowV t w' g xs := e.trans h
theorem RowV.below (h : RowV t w g xs) (hb : Below w.heap.size w w') : RowV t w' g xs := h.block (hb.block g h.lt)
theorem RowV.bar (h : RowV t w g' xs) (hne : g' ≠ g) (hb : Bar g w w') : RowV t w' g' xs := h.block (hb.block g' h.lt hne)
theorem RowV.cast (h : RowV t w g xs) (e : xs = ys) : RowV t w g ys := e ▸ h
end
end Go.Proofs.YtckoipoejaafhaaDoor
