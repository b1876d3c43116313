/-
 What package deque answers: a ring of 64 places in one block; where its tasks stand; New,Push,Pop,Steal,Len.
-/
import Derived.Test.YtckoipoejaafhaaDoorRows
import Derived.Test.YtckoipoejaafhaaDoorCeUAll
import Derived.Test.YtckoipoejaafhaaDoorSlTcAll
import Derived.BigQuiet
import Derived.Deep.RegionWith
import Derived.Deep.Cut
namespace Go.Proofs.YtckoipoejaafhaaDoor
open Go.RowKit
set_option maxRecDepth 100000
theorem But.of_bar {O : Nat -> Prop} {g : Nat} {w w' : World} (h : Bar g w w') (hg : O g) : But O w w' :=
 ⟨h.os,h.tape,h.output,h.size,fun k hk hn => h.block k hk fun e => hn (e ▸ hg)⟩
structure Rg (r f : Nat) (m : List (List Int)) (cs : List Value) : Prop where
 len : cs.length = 195
 f64 : f < 64
 room : m.length <= r
 r1 : 1 <= r
 r64 : r <= 64
 c192 : cs[192]? = some (.int .i64 (r : Int))
 c193 : cs[193]? = some (.int .i64 (f : Int))
 c194 : cs[194]? = some (.int .i64 (m.length : Int))
 task : ∀ i,i < m.length -> ∀ j,j < 3 -> cs[((f + i) % 64) * 3 + j]? = some (.int .i64 ((m.getD i []).getD j 0))
def set3 (cs : List Value) (k : Nat) (a b c : Int) : List Value := ((cs.set (k * 3) (.int .i64 a)).set (k * 3 + 1) (.int .i64 b)).set (k * 3 + 2) (.int .i64 c)
theorem set3_length (cs : List Value) (k : Nat) (a b c : Int) : (set3 cs k a b c).length = cs.length := by simp [set3]
theorem set3_other (cs : List Value) (k : Nat) (a b c : Int) (i : Nat) (h : i < k * 3 \/ k * 3 + 3 <= i) : (set3 cs k a b c)[i]? = cs[i]? := by
 unfold set3
 rw [List.getElem?_set_ne (by omega),List.getElem?_set_ne (by omega),List.getElem?_set_ne (by omega)]
theorem set3_at (cs : List Value) (k : Nat) (a b c : Int) (j : Nat) (hj : j < 3) (h : k * 3 + 3 <= cs.length) : (set3 cs k a b c)[k * 3 + j]? = some (.int .i64 (([a,b,c] : List Int).getD j 0)) := by
 unfold set3
 match j,hj with
 | 0,_ => rw [List.getElem?_set_ne (by omega),List.getElem?_set_ne (by omega),Nat.add_zero,List.getElem?_set_self (by omega)]; rfl
 | 1,_ => rw [List.getElem?_set_ne (by omega),List.getElem?_set_self (by simp; omega)]; rfl
 | 2,_ => rw [List.getElem?_set_self (by simp; omega)]; rfl
theorem Rg.start (r : Nat) (h1 : 1 <= r) (h2 : r <= 64) : Rg r 0 [] ((List.replicate 195 (.int .i64 0)).set 192 (.int .i64 (r : Int))) :=
 ⟨by rw [List.length_set,List.length_replicate],by omega,Nat.zero_le _,h1,h2,by rw [List.getElem?_set_self (by rw [List.length_replicate]; omega)],by rw [List.getElem?_set_ne (by omega),List.getElem?_replicate,if_pos (by omega)]; rfl,by rw [List.getElem?_set_ne (by omega),List.getElem?_replicate,if_pos (by omega)]; rfl,fun i hi => by simp at hi⟩
theorem Rg.push {r f : Nat} {m : List (List Int)} {cs : List Value} (h : Rg r f m cs) (a b c : Int) (hl : m.length < r) :
   Rg r f (m ++ [[a,b,c]]) ((set3 cs ((f + m.length) % 64) a b c).set 194 (.int .i64 ((m.length + 1 : Nat) : Int))) := by
 have hlen := h.len
 have h64 := h.r64
 have hk : (f + m.length) % 64 < 64 := Nat.mod_lt _ (by omega)
 have hf := h.f64
 refine ⟨by rw [List.length_set,set3_length]; exact hlen,h.f64,by simp; omega,h.r1,h.r64,?_,?_,?_,?_⟩
 · rw [List.getElem?_set_ne (by omega),set3_other _ _ _ _ _ _ (by omega)]; exact h.c192
 · rw [List.getElem?_set_ne (by omega),set3_other _ _ _ _ _ _ (by omega)]; exact h.c193
 · rw [List.getElem?_set_self (by rw [set3_length]; omega)]; simp
 · intro i hi j hj
   have hki : (f + i) % 64 < 64 := Nat.mod_lt _ (by omega)
   rw [List.getElem?_set_ne (by omega)]
   simp only [List.length_append,List.length_singleton] at hi
   rcases Nat.lt_or_ge i m.length with q | q
   · rw [set3_other _ _ _ _ _ _ (by omega),h.task i q j hj]
     simp [List.getD,List.getElem?_append_left q]
   · have e : i = m.length := by omega
     subst e
     rw [set3_at _ _ _ _ _ _ hj (by omega)]
     simp [List.getD]
theorem Rg.pop {r f : Nat} {m : List (List Int)} {cs : List Value} {t : List Int} (h : Rg r f (m ++ [t]) cs) :
   Rg r f m (set3 (cs.set 194 (.int .i64 (m.length : Int))) ((f + m.length) % 64) 0 0 0) := by
 have hlen := h.len
 have h64 := h.r64
 have hk : (f + m.length) % 64 < 64 := Nat.mod_lt _ (by omega)
 have hf := h.f64
 have hr := h.room
 simp only [List.length_append,List.length_singleton] at hr
 refine ⟨by rw [set3_length,List.length_set]; exact hlen,h.f64,by omega,h.r1,h.r64,?_,?_,?_,?_⟩
 · rw [set3_other _ _ _ _ _ _ (by omega),List.getElem?_set_ne (by omega)]; exact h.c192
 · rw [set3_other _ _ _ _ _ _ (by omega),List.getElem?_set_ne (by omega)]; exact h.c193
 · rw [set3_other _ _ _ _ _ _ (by omega),List.getElem?_set_self (by omega)]
 · intro i hi j hj
   have hki : (f + i) % 64 < 64 := Nat.mod_lt _ (by omega)
   rw [set3_other _ _ _ _ _ _ (by omega),List.getElem?_set_ne (by omega),h.task i (by simp; omega) j hj]
   simp [List.getD,List.getElem?_append_left hi]
theorem Rg.steal {r f : Nat} {m : List (List Int)} {cs : List Value} {t : List Int} (h : Rg r f (t :: m) cs) :
   Rg r ((f + 1) % 64) m (((set3 cs f 0 0 0).set 193 (.int .i64 (((f + 1) % 64 : Nat) : Int))).set 194 (.int .i64 (m.length : Int))) := by
 have hlen := h.len
 have h64 := h.r64
 have hf := h.f64
 have hr := h.room
 simp only [List.length_cons] at hr
 refine ⟨by rw [List.length_set,List.length_set,set3_length]; exact hlen,Nat.mod_lt _ (by omega),by omega,h.r1,h.r64,?_,?_,?_,?_⟩
 · rw [List.getElem?_set_ne (by omega),List.getElem?_set_ne (by omega),set3_other _ _ _ _ _ _ (by omega)]; exact h.c192
 · rw [List.getElem?_set_ne (by omega),List.getElem?_set_self (by rw [set3_length]; omega)]
 · rw [List.getElem?_set_self (by rw [List.length_set,set3_length]; omega)]
 · intro i hi j hj
   have hki : ((f + 1) % 64 + i) % 64 < 64 := Nat.mod_lt _ (by omega)
   have e : ((f + 1) % 64 + i) % 64 = (f + (i + 1)) % 64 := by omega
   rw [List.getElem?_set_ne (by omega),List.getElem?_set_ne (by omega),set3_other _ _ _ _ _ _ (by omega),e,h.task (i + 1) (by simp; omega) j hj]
   simp
def Dq (w : World) (p : Value) (r : Nat) (m : List (List Int)) (O : Nat -> Prop) : Prop :=
 ∃ g f cs,p = .pointer (some ⟨g,0,none⟩) /\ (∀ k,O k ↔ k = g) /\ RowV 192 w g cs /\ Rg r f m cs
theorem Dq.kept {w w' : World} {p : Value} {r : Nat} {m : List (List Int)} {O : Nat -> Prop} (h : Dq w p r m O) (hk : ∀ k,O k -> w'.heap[k]? = w.heap[k]?) : Dq w' p r m O := by
 obtain ⟨g,f,cs,hp,hO,hrow,hR⟩ := h
 exact ⟨g,f,cs,hp,hO,hrow.block (hk g ((hO g).mpr rfl)),hR⟩
theorem Dq.old {w : World} {p : Value} {r : Nat} {m : List (List Int)} {O : Nat -> Prop} (h : Dq w p r m O) : ∀ k,O k -> k < w.heap.size := by
 obtain ⟨g,f,cs,hp,hO,hrow,hR⟩ := h
 intro k hk
 rw [(hO k).mp hk]
 exact hrow.lt
theorem Dq.ptr {w : World} {p : Value} {r : Nat} {m : List (List Int)} {O : Nat -> Prop} (h : Dq w p r m O) : ∃ b off,p = .pointer (some ⟨b,off,none⟩) /\ m.length <= r /\ r <= 64 := by
 obtain ⟨g,f,cs,hp,hO,hrow,hR⟩ := h
 exact ⟨g,0,hp,hR.room,hR.r64⟩
theorem deque_place (w : World) (g f i : Nat) (h : w.cell? ⟨g,193,none⟩ = some (.int .i64 (f : Int))) (hf : f < 64) (hi : i < 65) :
   Calls Tryd.prog 150 #[.pointer (some ⟨g,0,none⟩),.int .i64 (i : Int)] w fun e w' => e = .returned (.int .i64 (((f + i) % 64 : Nat) : Int)) /\ w' = w := by
 have he : ((f : Int) + (i : Int)).tmod 64 = (((f + i) % 64 : Nat) : Int) := by
   rw [Int.tmod_eq_emod_of_nonneg (by omega)]; omega
 go_enter Tryd.func150,Tryd.ntmps150
 go_wp2
 go_ret
 exact ⟨rfl,rfl⟩
theorem deque_takeOut (w : World) (g k : Nat) (cs : List Value) (a b c : Int) (h : RowV 192 w g cs) (hk : k < 64)
   (h0 : cs[k * 3]? = some (.int .i64 a)) (h1 : cs[k * 3 + 1]? = some (.int .i64 b)) (h2 : cs[k * 3 + 2]? = some (.int .i64 c)) :
   Calls Tryd.prog 151 #[.pointer (some ⟨g,0,none⟩),.int .i64 (k : Int)] w fun e w' => e = .returned (.agg #[.int .i64 a,.int .i64 b,.int .i64 c]) /\ RowV 192 w' g (set3 cs k 0 0 0) /\ Bar g w w' := by
 have hlt := h.lt
 have c0 : w.cell? ⟨g,k * 3,none⟩ = some (.int .i64 a) := (h.cell _).trans h0
 have c1 : w.cell? ⟨g,k * 3 + 1,none⟩ = some (.int .i64 b) := (h.cell _).trans h1
 have c2 : w.cell? ⟨g,k * 3 + 2,none⟩ = some (.int .i64 c) := (h.cell _).trans h2
 have z0 := h.frozen (k * 3)
 have z1 := h.frozen (k * 3 + 1)
 have z2 := h.frozen (k * 3 + 2)
 have hr : Hid _ := ((h.set (k * 3) (.int .i64 0)).set (k * 3 + 1) (.int .i64 0)).set (k * 3 + 2) (.int .i64 0)
 have hb : Hid _ := (((Bar.refl g w).setCell (k * 3) (.int .i64 0)).setCell (k * 3 + 1) (.int .i64 0)).setCell (k * 3 + 2) (.int .i64 0)
 clear h h0 h1 h2
 go_enter Tryd.func151,Tryd.ntmps151
 go_wp2
 refine bodyPost_ret (v := .agg #[.int .i64 a,.int .i64 b,.int .i64 c]) (by simp [results,Tryd.results151,go_sem]) rfl ?_
 exact ⟨rfl,RowV.below (RowV.below hr.out (below_alloc1 _ _)) (below_alloc1 _ _),Bar.trans hb.out ((Bar.of_below (below_alloc1 _ _)).trans (Bar.of_below (below_alloc1 _ _)))⟩
theorem deque_Pop_none (w : World) (p : Value) (r : Nat) (O : Nat -> Prop) (h : Dq w p r [] O) :
   Calls Tryd.prog 133 #[p] w fun e w' => e = .returned (.tuple #[.agg #[.int .i64 0,.int .i64 0,.int .i64 0],.bool false]) /\ ∃ O',Dq w' p r [] O' /\ (∀ k,O' k -> O k \/ w.heap.size <= k) /\ But O w w' := by
 have h0 : Hid _ := h
 obtain ⟨g,f,cs,rfl,hO,hrow,hR⟩ := h
 have c4 : w.cell? ⟨g,194,none⟩ = some (.int .i64 0) := (hrow.cell _).trans hR.c194
 have c5 : ∀ o,(w.alloc o).cell? ⟨g,194,none⟩ = some (.int .i64 0) := fun o => ((below_alloc1 w o).cell (p := ⟨g,194,none⟩) (block_lt c4)).trans c4
 clear hR hO hrow
 go_enter Tryd.func133,Tryd.ntmps133
 go_wp2
 refine bodyPost_ret (v := .tuple #[.agg #[.int .i64 0,.int .i64 0,.int .i64 0],.bool false]) (by simp [results,Tryd.results133,go_sem]) rfl ?_
 exact ⟨rfl,O,Dq.kept h0.out fun k hk => (below_alloc1 _ _).block k (Dq.old h0.out k hk),fun k q => .inl q,But.of_below (below_alloc1 _ _)⟩
theorem deque_Steal_none (w : World) (p : Value) (r : Nat) (O : Nat -> Prop) (h : Dq w p r [] O) :
   Calls Tryd.prog 134 #[p] w fun e w' => e = .returned (.tuple #[.agg #[.int .i64 0,.int .i64 0,.int .i64 0],.bool false]) /\ ∃ O',Dq w' p r [] O' /\ (∀ k,O' k -> O k \/ w.heap.size <= k) /\ But O w w' := by
 have h0 : Hid _ := h
 obtain ⟨g,f,cs,rfl,hO,hrow,hR⟩ := h
 have c4 : w.cell? ⟨g,194,none⟩ = some (.int .i64 0) := (hrow.cell _).trans hR.c194
 have c5 : ∀ o,(w.alloc o).cell? ⟨g,194,none⟩ = some (.int .i64 0) := fun o => ((below_alloc1 w o).cell (p := ⟨g,194,none⟩) (block_lt c4)).trans c4
 clear hR hO hrow
 go_enter Tryd.func134,Tryd.ntmps134
 go_wp2
 refine bodyPost_ret (v := .tuple #[.agg #[.int .i64 0,.int .i64 0,.int .i64 0],.bool false]) (by simp [results,Tryd.results134,go_sem]) rfl ?_
 exact ⟨rfl,O,Dq.kept h0.out fun k hk => (below_alloc1 _ _).block k (Dq.old h0.out k hk),fun k q => .inl q,But.of_below (below_alloc1 _ _)⟩
theorem info_ring : (Tryd.prog.info? 192).map (fun i => i.zero) = some (some (.agg (Array.replicate 195 (.int .i64 0)))) := by kernel_rfl
theorem zero_ring (w : World) : (zeroValue 192).run Tryd.prog w = .ok (.agg (Array.replicate 195 (.int .i64 0))) w := by
 have h := info_ring
 cases hi : Tryd.prog.info? 192 with
 | none => rw [hi] at h; cases h
 | some i =>
   rw [hi] at h
   simp only [Option.map_some,Option.some.injEq] at h
   simp [zeroValue,typeInfo,hi,h]
set_option maxRecDepth 100000 in
theorem deque_New_ok (w : World) (r : Nat) (h1 : 1 <= r) (h2 : r <= 64) :
   Calls Tryd.prog 131 #[.int .i64 (r : Int)] w fun e w' => ∃ p O,e = .returned (.tuple #[p,.int .i64 0]) /\ Dq w' p r [] O /\ (∀ k,O k -> w.heap.size <= k) /\ Below w.heap.size w w' := by
 have q1 : ¬ (r : Int) < 1 := by omega
 have q2 : ¬ (64 : Int) < (r : Int) := by omega
 obtain ⟨zs,hz,hs,hzn,hze⟩ : ∃ zs : Array Value,(∀ w,(zeroValue 192).run Tryd.prog w = .ok (.agg zs) w) /\ zs.size = 195 /\ ¬ zs = #[] /\ Hid (zs = Array.replicate 195 (.int .i64 0)) := ⟨_,zero_ring,Array.size_replicate,(fun e => by have := congrArg Array.size e; rw [Array.size_replicate] at this; cases this),rfl⟩
 go_enter Tryd.func131,Tryd.ntmps131
 go_wp2
 go_ret2
 refine ⟨_,rfl,fun k => k = w.heap.size,⟨w.heap.size,0,_,rfl,fun k => Iff.rfl,?_,Rg.start r h1 h2⟩,fun k e => Nat.le_of_eq e.symm,below_alloc1 _ _⟩
 show (w.heap.push _)[w.heap.size]? = _
 rw [Array.getElem?_push_size]
 first
   | (rw [hze.out]; rfl)
   | rfl
theorem new_row (w : World) (t : Nat) (cs : List Value) : RowV t (w.alloc (.cells cs.toArray t)) w.heap.size cs := by
 show (w.heap.push _)[w.heap.size]? = _
 rw [Array.getElem?_push_size]
theorem RowV.alloc {t : Nat} {w : World} {g : Nat} {cs : List Value} (h : RowV t w g cs) (o : Obj) : RowV t (w.alloc o) g cs := h.below (below_alloc1 w o)
theorem Bar.alloc {g : Nat} {w w' : World} (h : Bar g w w') (o : Obj) : Bar g w (w'.alloc o) := h.trans (Bar.of_below (below_alloc1 w' o))
set_option maxHeartbeats 4000000 in
theorem deque_Pop_ok (w : World) (p : Value) (r : Nat) (m : List (List Int)) (O : Nat -> Prop) (a b c : Int) (h : Dq w p r (m ++ [[a,b,c]]) O) :
   Calls Tryd.prog 133 #[p] w fun e w' => e = .returned (.tuple #[.agg #[.int .i64 a,.int .i64 b,.int .i64 c],.bool true]) /\ ∃ O',Dq w' p r m O' /\ (∀ k,O' k -> O k \/ w.heap.size <= k) /\ But O w w' := by
 obtain ⟨g,f,cs,rfl,hO,hrow,hR⟩ := h
 have hOg : O g := (hO g).mpr rfl
 have hR2 : Hid _ := hR.pop
 have hr := hR.room
 have h64 := hR.r64
 have hlen := hR.len
 have hf := hR.f64
 have hml : (m ++ [[a,b,c]]).length = m.length + 1 := by simp
 have h4 := hR.c194
 have h3 := hR.c193
 have ht : ∀ j,j < 3 -> cs[(f + m.length) % 64 * 3 + j]? = some (.int .i64 (([a,b,c] : List Int).getD j 0)) := fun j hj => by
   rw [hR.task m.length (by omega) j hj]
   simp [List.getD]
 rw [hml] at hr h4
 replace hO : Hid _ := hO
 clear hR hml
 obtain ⟨n,hn⟩ : ∃ n,n = m.length := ⟨_,rfl⟩
 rw [<- hn] at hr h4 ht hR2
 have hk : (f + n) % 64 < 64 := Nat.mod_lt _ (by omega)
 have hn9 : n < 64 := by omega
 have cP : ∀ wq : World,wq.cell? ⟨g,193,none⟩ = some (.int .i64 (f : Int)) -> Calls Tryd.prog 150 #[.pointer (some ⟨g,0,none⟩),.int .i64 (n : Int)] wq fun e w' => e = .returned (.int .i64 (((f + n) % 64 : Nat) : Int)) /\ w' = wq := fun wq hq => deque_place wq g f n hq hf (by omega)
 clear hn hr h64
 generalize (f + n) % 64 = k at *
 have hw1 : wrap64 ((n : Int) + 1 - 1) = (n : Int) := by unfold wrap64; omega
 have c4 : ∀ o,(w.alloc o).cell? ⟨g,194,none⟩ = some (.int .i64 ((n + 1 : Nat) : Int)) := fun o => ((hrow.alloc o).cell _).trans h4
 have z4 : ∀ o,(w.alloc o).frozen? ⟨g,194,none⟩ = false := fun o => (hrow.alloc o).frozen _
 have hr1 : Hid (RowV 192 (w.setCell ⟨g,194,none⟩ (.int .i64 (n : Int))) g (cs.set 194 (.int .i64 (n : Int)))) := hrow.set _ _
 have e0 : (cs.set 194 (.int .i64 (n : Int)))[k * 3]? = some (.int .i64 a) := (List.getElem?_set_ne (by omega)).trans (ht 0 (by omega))
 have e1 : (cs.set 194 (.int .i64 (n : Int)))[k * 3 + 1]? = some (.int .i64 b) := (List.getElem?_set_ne (by omega)).trans (ht 1 (by omega))
 have e2 : (cs.set 194 (.int .i64 (n : Int)))[k * 3 + 2]? = some (.int .i64 c) := (List.getElem?_set_ne (by omega)).trans (ht 2 (by omega))
 have e3 : Hid ((cs.set 194 (.int .i64 (n : Int)))[193]? = some (.int .i64 (f : Int))) := (List.getElem?_set_ne (by omega)).trans h3
 have hlt := hrow.lt
 have c5 : (w.setCell ⟨g,194,none⟩ (.int .i64 (n : Int))).cell? ⟨g,194,none⟩ = some (.int .i64 (n : Int)) := (RowV.cell hr1.out _).trans (List.getElem?_set_self (by omega))
 have cT : Hid (∀ o,Calls Tryd.prog 151 #[.pointer (some ⟨g,0,none⟩),.int .i64 (k : Int)] ((w.setCell ⟨g,194,none⟩ (.int .i64 (n : Int))).alloc o) fun e w' => e = .returned (.agg #[.int .i64 a,.int .i64 b,.int .i64 c]) /\ RowV 192 w' g (set3 (cs.set 194 (.int .i64 (n : Int))) k 0 0 0) /\ Bar g ((w.setCell ⟨g,194,none⟩ (.int .i64 (n : Int))).alloc o) w') := fun o => deque_takeOut _ g k _ a b c (RowV.alloc hr1.out o) hk e0 e1 e2
 have hbox : Hid (∀ w7,Bar g ((w.setCell ⟨g,194,none⟩ (.int .i64 (n : Int))).alloc (.cells #[.int .i64 0,.int .i64 0,.int .i64 0] 71)) w7 -> RowV 71 w7 w.heap.size [.int .i64 0,.int .i64 0,.int .i64 0]) := fun w7 hb => by
   have q := new_row (w.setCell ⟨g,194,none⟩ (.int .i64 (n : Int))) 71 [.int .i64 0,.int .i64 0,.int .i64 0]
   have e : (w.setCell ⟨g,194,none⟩ (.int .i64 (n : Int))).heap.size = w.heap.size := by simp [World.setCell]
   rw [e] at q
   exact q.bar (by omega) hb
 have hbar : Hid (Bar g w (w.setCell ⟨g,194,none⟩ (.int .i64 (n : Int)))) := (Bar.refl g w).setCell _ _
 clear e0 e1 e2 h3 h4 ht hrow hf hlen
 go_enter Tryd.func133,Tryd.ntmps133
 go_wp2_with (first
   | (go_at_call 150; refine Calls.mono (cP _ ((RowV.cell (RowV.alloc hr1.out _) 193).trans e3.out)) ?_; rintro e w6 ⟨rfl,hw⟩; rw [hw]; clear hw cP)
   | (go_at_call 151; refine Calls.mono (cT.out _) ?_; rintro e w7 ⟨rfl,hr7,hb7⟩; clear cT; have x7 := hbox.out w7 hb7; have x0 := x7.cell 0; have x1 := x7.cell 1; have x2 := x7.cell 2; have y0 := x7.frozen 0; have y1 := x7.frozen 1; have y2 := x7.frozen 2; replace x0 : w7.cell? ⟨w.heap.size,0,none⟩ = some (.int .i64 0) := x0; replace x1 : w7.cell? ⟨w.heap.size,1,none⟩ = some (.int .i64 0) := x1; replace x2 : w7.cell? ⟨w.heap.size,2,none⟩ = some (.int .i64 0) := x2; replace hr7 : Hid _ := hr7; replace hb7 : Hid _ := hb7; replace x7 : Hid _ := x7))
 refine bodyPost_ret (v := .tuple #[.agg #[.int .i64 a,.int .i64 b,.int .i64 c],.bool true]) (by simp [results,Tryd.results133,go_sem,x0,x1,x2]) rfl ?_
 have hbw : But O w w7 := But.of_bar ((Bar.alloc hbar.out _).trans hb7.out) hOg
 have hgr : g ≠ w.heap.size := by omega
 refine ⟨rfl,O,⟨g,f,_,rfl,hO.out,RowV.block hr7.out ?_,hR2.out⟩,fun k q => .inl q,?_⟩
 · rw [Below.heap_setCell _ _ _ _ hgr,Below.heap_setCell _ _ _ _ hgr,Below.heap_setCell _ _ _ _ hgr]
 · exact ⟨hbw.os,hbw.tape,hbw.output,by simpa [World.setCell] using hbw.size,fun k hk hn => by
     rw [Below.heap_setCell _ _ _ _ (show k ≠ w.heap.size by omega),Below.heap_setCell _ _ _ _ (show k ≠ w.heap.size by omega),Below.heap_setCell _ _ _ _ (show k ≠ w.heap.size by omega)]
     exact hbw.block k hk hn⟩
set_option maxHeartbeats 4000000 in
theorem deque_Steal_ok (w : World) (p : Value) (r : Nat) (m : List (List Int)) (O : Nat -> Prop) (a b c : Int) (h : Dq w p r ([a,b,c] :: m) O) :
   Calls Tryd.prog 134 #[p] w fun e w' => e = .returned (.tuple #[.agg #[.int .i64 a,.int .i64 b,.int .i64 c],.bool true]) /\ ∃ O',Dq w' p r m O' /\ (∀ k,O' k -> O k \/ w.heap.size <= k) /\ But O w w' := by
 obtain ⟨g,f,cs,rfl,hO,hrow,hR⟩ := h
 have hOg : O g := (hO g).mpr rfl
 have hR2 : Hid _ := hR.steal
 have hr := hR.room
 have h64 := hR.r64
 have hlen := hR.len
 have hf := hR.f64
 have h4 := hR.c194
 have h3 := hR.c193
 have ht : ∀ j,j < 3 -> cs[f * 3 + j]? = some (.int .i64 (([a,b,c] : List Int).getD j 0)) := fun j hj => by
   have q := hR.task 0 (by simp) j hj
   rw [Nat.add_zero,Nat.mod_eq_of_lt hf] at q
   rw [q]; rfl
 rw [List.length_cons] at hr h4
 replace hO : Hid _ := hO
 clear hR
 obtain ⟨n,hn⟩ : ∃ n,n = m.length := ⟨_,rfl⟩
 rw [<- hn] at hr h4 hR2
 have hn9 : n < 64 := by omega
 have cP : ∀ wq : World,wq.cell? ⟨g,193,none⟩ = some (.int .i64 (f : Int)) -> Calls Tryd.prog 150 #[.pointer (some ⟨g,0,none⟩),.int .i64 1] wq fun e w' => e = .returned (.int .i64 (((f + 1) % 64 : Nat) : Int)) /\ w' = wq := fun wq hq => deque_place wq g f 1 hq hf (by omega)
 clear hn hr h64
 have hw1 : wrap64 ((n : Int) + 1 - 1) = (n : Int) := by unfold wrap64; omega
 have c4 : ∀ o,(w.alloc o).cell? ⟨g,194,none⟩ = some (.int .i64 ((n + 1 : Nat) : Int)) := fun o => ((hrow.alloc o).cell _).trans h4
 have c3 : ∀ o,(w.alloc o).cell? ⟨g,193,none⟩ = some (.int .i64 (f : Int)) := fun o => ((hrow.alloc o).cell _).trans h3
 have hlt := hrow.lt
 have cT : Hid (∀ o,Calls Tryd.prog 151 #[.pointer (some ⟨g,0,none⟩),.int .i64 (f : Int)] (w.alloc o) fun e w' => e = .returned (.agg #[.int .i64 a,.int .i64 b,.int .i64 c]) /\ RowV 192 w' g (set3 cs f 0 0 0) /\ Bar g (w.alloc o) w') := fun o => deque_takeOut _ g f _ a b c (hrow.alloc o) hf (ht 0 (by omega)) (ht 1 (by omega)) (ht 2 (by omega))
 have k3 : Hid ((set3 cs f 0 0 0)[193]? = some (.int .i64 (f : Int))) := (set3_other _ _ _ _ _ _ (by omega)).trans h3
 have k4 : Hid ((set3 cs f 0 0 0)[194]? = some (.int .i64 ((n + 1 : Nat) : Int))) := (set3_other _ _ _ _ _ _ (by omega)).trans h4
 have hnew : Hid (RowV 71 (w.alloc (.cells #[.int .i64 0,.int .i64 0,.int .i64 0] 71)) w.heap.size [.int .i64 0,.int .i64 0,.int .i64 0]) := new_row w 71 [.int .i64 0,.int .i64 0,.int .i64 0]
 have hbar : Hid (Bar g w (w.alloc (.cells #[.int .i64 0,.int .i64 0,.int .i64 0] 71))) := (Bar.refl g w).alloc _
 have hgB : g ≠ w.heap.size := by omega
 clear h3 h4 ht hrow hf hlen
 obtain ⟨f1,hf1⟩ : ∃ f1,f1 = (f + 1) % 64 := ⟨_,rfl⟩
 rw [<- hf1] at cP hR2
 clear hf1
 go_enter Tryd.func134,Tryd.ntmps134
 go_upto_region 4 with (go_at_call 151; refine Calls.mono (cT.out _) ?_; rintro e w7 ⟨rfl,hr7,hb7⟩; clear cT)
 have x7 := RowV.bar hnew.out (Ne.symm hgB) hb7
 have r8 := hr7.alloc (.cells #[.int .i64 a,.int .i64 b,.int .i64 c] 71)
 have x8 := x7.alloc (.cells #[.int .i64 a,.int .i64 b,.int .i64 c] 71)
 have y8 := new_row w7 71 [.int .i64 a,.int .i64 b,.int .i64 c]
 have hb8 : Hid _ := (Bar.trans hbar.out hb7).alloc (.cells #[.int .i64 a,.int .i64 b,.int .i64 c] 71)
 have hgG : g ≠ w7.heap.size := by have := hr7.lt; omega
 have hBG : w.heap.size ≠ w7.heap.size := by have := x7.lt; omega
 clear hr7 hb7 x7 hnew hbar
 change RowV 71 (w7.alloc (.cells #[.int .i64 a,.int .i64 b,.int .i64 c] 71)) w7.heap.size [.int .i64 a,.int .i64 b,.int .i64 c] at y8
 generalize w7.alloc (.cells #[.int .i64 a,.int .i64 b,.int .i64 c] 71) = w8 at *
 generalize w7.heap.size = G at *
 have s3 := (r8.cell 193).trans k3.out
 have s4 := r8.frozen 193
 have r9 := r8.set 193 (.int .i64 (f1 : Int))
 have s5 := (r9.cell 194).trans ((List.getElem?_set_ne (by omega)).trans k4.out)
 have s6 := r9.frozen 194
 have r10 : Hid _ := r9.set 194 (.int .i64 (n : Int))
 have x10 := (x8.bar (g := g) (Ne.symm hgB) ((Bar.refl g w8).setCell 193 (.int .i64 (f1 : Int)))).bar (g := g) (Ne.symm hgB) ((Bar.refl g _).setCell 194 (.int .i64 (n : Int)))
 have y10 := (y8.bar (g := g) (Ne.symm hgG) ((Bar.refl g w8).setCell 193 (.int .i64 (f1 : Int)))).bar (g := g) (Ne.symm hgG) ((Bar.refl g _).setCell 194 (.int .i64 (n : Int)))
 have hb10 : Hid _ := ((Bar.setCell hb8.out 193 (.int .i64 (f1 : Int))).setCell 194 (.int .i64 (n : Int)))
 have a0 := y10.cell 0
 have a1 := y10.cell 1
 have a2 := y10.cell 2
 have x0 := x10.cell 0
 have x1 := x10.cell 1
 have x2 := x10.cell 2
 have y0 := x10.frozen 0
 have y1 := x10.frozen 1
 have y2 := x10.frozen 2
 simp only [List.getElem?_cons_zero,List.getElem?_cons_succ] at a0 a1 a2 x0 x1 x2
 clear r8 x8 y8 r9 x10 y10 hb8 k3 k4 c4 c3 hlt
 obtain ⟨B,hB⟩ : ∃ B,B = w.heap.size := ⟨_,rfl⟩
 rw [<- hB] at x0 x1 x2 y0 y1 y2 hgB hBG ⊢
 replace hB : Hid _ := hB
 go_wp2_with (go_at_call 150; refine Calls.mono (cP _ s3) ?_; rintro e w6 ⟨rfl,hw⟩; rw [hw]; clear hw cP)
 refine bodyPost_ret (v := .tuple #[.agg #[.int .i64 a,.int .i64 b,.int .i64 c],.bool true]) (by simp [results,Tryd.results134,go_sem,x0,x1,x2]) rfl ?_
 have hbw := But.of_bar hb10.out hOg
 refine ⟨rfl,O,⟨g,f1,_,rfl,hO.out,RowV.block r10.out ?_,hR2.out⟩,fun k q => .inl q,?_⟩
 · rw [Below.heap_setCell _ _ _ _ hgB,Below.heap_setCell _ _ _ _ hgB,Below.heap_setCell _ _ _ _ hgB]
 · exact ⟨hbw.os,hbw.tape,hbw.output,by simpa [World.setCell] using hbw.size,fun k hk hn => by
     have hkB : k ≠ B := by have := hB.out; omega
     rw [Below.heap_setCell _ _ _ _ hkB,Below.heap_setCell _ _ _ _ hkB,Below.heap_setCell _ _ _ _ hkB]
     exact hbw.block k hk hn⟩
set_option maxHeartbeats 4000000 in
theorem deque_Push_ok (w : World) (p : Value) (r : Nat) (m : List (List Int)) (O : Nat -> Prop) (a b c : Int) (h : Dq w p r m O) (hl : m.length < r) (_ha : (Lit.int .i64 a).wf = true) (_hb : (Lit.int .i64 b).wf = true) (_hc : (Lit.int .i64 c).wf = true) :
   Calls Tryd.prog 132 #[p,.agg #[.int .i64 a,.int .i64 b,.int .i64 c]] w fun e w' => e = .returned (.int .i64 0) /\ ∃ O',Dq w' p r (m ++ [[a,b,c]]) O' /\ (∀ k,O' k -> O k \/ w.heap.size <= k) /\ But O w w' := by
 obtain ⟨g,f,cs,rfl,hO,hrow,hR⟩ := h
 have h64 := hR.r64
 have hf := hR.f64
 have hOg : O g := (hO g).mpr rfl
 have hR2 : Hid _ := hR.push a b c hl
 have hlen := hR.len
 have c4 : ∀ o,(w.alloc o).cell? ⟨g,194,none⟩ = some (.int .i64 (m.length : Int)) := fun o => ((hrow.below (below_alloc1 w o)).cell _).trans hR.c194
 have c7 : ∀ o,(w.alloc o).cell? ⟨g,192,none⟩ = some (.int .i64 (r : Int)) := fun o => ((hrow.below (below_alloc1 w o)).cell _).trans hR.c192
 have hc3 : Hid _ := hR.c193
 have hc4 : Hid _ := hR.c194
 clear hR
 obtain ⟨n,hn⟩ : ∃ n,n = m.length := ⟨_,rfl⟩
 rw [<- hn] at c4 hl hR2 hc4
 have hge : decide (r <= n) = false := decide_eq_false (by omega)
 have hw1 : wrap64 ((n : Int) + 1) = ((n + 1 : Nat) : Int) := by unfold wrap64; omega
 have hn9 : n < 64 := by omega
 have hne : g ≠ w.heap.size := by have := hrow.lt; omega
 clear hn hl h64
 obtain ⟨B,hB⟩ : ∃ B,B = w.heap.size := ⟨_,rfl⟩
 have hrow1 : ∀ nq,RowV 192 ((w.alloc (.cells #[.int .i64 a,.int .i64 b,.int .i64 c] 71)).drewN nq) g cs := fun nq => hrow.below (below_drewN (below_alloc1 _ _) nq)
 have hbx : ∀ nq,RowV 71 ((w.alloc (.cells #[.int .i64 a,.int .i64 b,.int .i64 c] 71)).drewN nq) B [.int .i64 a,.int .i64 b,.int .i64 c] := fun nq => by
   rw [hB]
   show (w.heap.push _)[w.heap.size]? = _
   rw [Array.getElem?_push_size]
 have hbw : ∀ nq,Below w.heap.size w ((w.alloc (.cells #[.int .i64 a,.int .i64 b,.int .i64 c] 71)).drewN nq) := fun nq => below_drewN (below_alloc1 _ _) nq
 clear hrow
 go_enter Tryd.func132,Tryd.ntmps132
 go_wp2
 go_quiet (fail)
 replace hrow1 := hrow1 nq
 replace hbx := hbx nq
 replace hbw : Hid _ := hbw nq
 have hfin : Hid (∀ w6 : World,Below B w w6 -> But O w (((w6.setCell ⟨g,(f + n) % 64 * 3,none⟩ (.int .i64 a)).setCell ⟨g,(f + n) % 64 * 3 + 1,none⟩ (.int .i64 b)).setCell ⟨g,(f + n) % 64 * 3 + 2,none⟩ (.int .i64 c)).drew) := fun w6 hb => by
   rw [hB] at hb
   exact (But.of_below hb).trans (O' := O) (But.of_bar (g := g) (((((Bar.refl g w6).setCell _ _).setCell _ _).setCell _ _).drewN 1) hOg) fun k q => .inl q
 rw [<- hB] at *
 generalize (w.alloc (.cells #[.int .i64 a,.int .i64 b,.int .i64 c] 71)).drewN nq = w6 at *
 clear c4 c7
 have hk : (f + n) % 64 < 64 := Nat.mod_lt _ (by omega)
 have k4 : w6.cell? ⟨g,194,none⟩ = some (.int .i64 (n : Int)) := (hrow1.cell _).trans hc4.out
 have cP : ∀ wq : World,wq.cell? ⟨g,193,none⟩ = some (.int .i64 (f : Int)) -> Calls Tryd.prog 150 #[.pointer (some ⟨g,0,none⟩),.int .i64 (n : Int)] wq fun e w' => e = .returned (.int .i64 (((f + n) % 64 : Nat) : Int)) /\ w' = wq := fun wq hq => deque_place wq g f n hq hf (by omega)
 have k3 : w6.cell? ⟨g,193,none⟩ = some (.int .i64 (f : Int)) := (hrow1.cell _).trans hc3.out
 generalize (f + n) % 64 = k at *
 obtain ⟨v0,e0⟩ : ∃ v,cs[k * 3]? = some v := ⟨_,List.getElem?_eq_getElem (by omega)⟩
 obtain ⟨v1,e1⟩ : ∃ v,cs[k * 3 + 1]? = some v := ⟨_,List.getElem?_eq_getElem (by omega)⟩
 obtain ⟨v2,e2⟩ : ∃ v,cs[k * 3 + 2]? = some v := ⟨_,List.getElem?_eq_getElem (by omega)⟩
 have y0 := (hrow1.cell _).trans e0
 have y1 := (hrow1.cell _).trans e1
 have y2 := (hrow1.cell _).trans e2
 have z0 := hrow1.frozen (k * 3)
 have z1 := hrow1.frozen (k * 3 + 1)
 have z2 := hrow1.frozen (k * 3 + 2)
 have b0 : w6.cell? ⟨B,0,none⟩ = some (.int .i64 a) := hbx.cell 0
 have b1 : w6.cell? ⟨B,1,none⟩ = some (.int .i64 b) := hbx.cell 1
 have b2 : w6.cell? ⟨B,2,none⟩ = some (.int .i64 c) := hbx.cell 2
 have hrow2 : Hid (RowV 192 w6 g cs) := hrow1
 clear hrow1 hbx e0 e1 e2 hc3 hc4 hne hf hn9 hge
 go_wp2_with fail
 go_region_with (go_at_call 150; refine Calls.mono (cP _ k3) ?_; rintro e w7 ⟨rfl,rfl⟩)
 all_goals
   have hrow3 : RowV 192 (((w6.setCell ⟨g,k * 3,none⟩ (.int .i64 a)).setCell ⟨g,k * 3 + 1,none⟩ (.int .i64 b)).setCell ⟨g,k * 3 + 2,none⟩ (.int .i64 c)).drew g (set3 cs k a b c) := ((RowV.set hrow2.out _ _).set _ _).set _ _
   have hbb : Hid (But O w (((w6.setCell ⟨g,k * 3,none⟩ (.int .i64 a)).setCell ⟨g,k * 3 + 1,none⟩ (.int .i64 b)).setCell ⟨g,k * 3 + 2,none⟩ (.int .i64 c)).drew) := hfin.out _ hbw.out
   have q4 : (((w6.setCell ⟨g,k * 3,none⟩ (.int .i64 a)).setCell ⟨g,k * 3 + 1,none⟩ (.int .i64 b)).setCell ⟨g,k * 3 + 2,none⟩ (.int .i64 c)).drew.cell? ⟨g,194,none⟩ = some (.int .i64 (n : Int)) := (hrow3.cell _).trans ((set3_other _ _ _ _ _ _ (by omega)).trans (((RowV.cell hrow2.out 194).symm).trans k4))
   have z4 := hrow3.frozen 194
   have hrow4 : Hid _ := hrow3.set 194 (.int .i64 ((n + 1 : Nat) : Int))
   clear hrow3 hrow2 hbw k4 k3 y0 y1 y2 z0 z1 z2 b0 b1 b2 cP
   generalize (((w6.setCell ⟨g,k * 3,none⟩ (.int .i64 a)).setCell ⟨g,k * 3 + 1,none⟩ (.int .i64 b)).setCell ⟨g,k * 3 + 2,none⟩ (.int .i64 c)).drew = w8 at *
   go_wp2
   go_ret
   exact ⟨rfl,O,⟨g,f,_,rfl,hO,hrow4.out,hR2.out⟩,fun k q => .inl q,hbb.out.trans (O' := O) (But.of_bar ((Bar.refl g _).setCell _ _) hOg) fun k q => .inl q⟩
end Go.Proofs.YtckoipoejaafhaaDoor
