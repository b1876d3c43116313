/-
  Texts that stood one behind the other, as one.
-/
import Derived.Test.YtckoipoejaafhaaDoorCeNAll
import Derived.Test.YtckoipoejaafhaaDoorPure
import Derived.Test.YtckoipoejaafhaaDoorSlAppAll
import Derived.Test.YtckoipoejaafhaaDoorRows
import Derived.Test.YtckoipoejaafhaaDoorSlAll
import Derived.Test.YtckoipoejaafhaaDoorManyCAll
import Derived.Test.YtckoipoejaafhaaDoorManyGAll
import Derived.Test.YtckoipoejaafhaaDoorFieldBAll
import Derived.Deep.RegionWith
import Derived.BigQuiet
import Derived.Test.YtckoipoejaafhaaDoorCdFtAll
import Derived.Conc.LeavingOf
namespace Go.Proofs.YtckoipoejaafhaaDoor.Cc
open Go Go.Conc Go.RowKit
theorem arr_ts (ts : Array Value) : ts = arr ts.size fun j => ts.getD j undef := by
  apply Array.ext_getElem?
  intro j
  rw [arr_get]
  by_cases h : j < ts.size
  · simp [h]
  · simp [h]
theorem fs_no {fs : Fs} {fn : FuncId} (h : fs.sl.all (fun p => p.1 != fn) = true) (t : Nat) : fs.has fn t = false := by
  cases hh : fs.has fn t with
  | false => rfl
  | true =>
    have := List.all_eq_true.1 h (fn, t) (List.contains_iff_mem.1 hh)
    simp at this
section
variable {fs : Fs} {pw : World} {fn : FuncId} {f : Func} {n j : Nat} {σ : Nat → Value} {c : Code}
theorem piece_ret {N0 : Nat} {cs : List Frame} (hF : FnsAll Tryd.prog fs) (ts : Array Value) (he : arr n σ = ts) (hf : Tryd.prog.funcs[fn]? = some f) (hj : f.results = #[.tmp j]) (hsl : fs.sl.all (fun p => p.1 != fn) = true) (hc : codeK Tryd.prog fs fn c = true) (v : Value)
    (hC : ∀ τ d, c.wp Tryd.prog (bodyPost Tryd.prog f fun e w' => e = .returned v ∧ Below pw.heap.size (tp pw τ d) w') ⟨ts, []⟩ (tp pw τ d)) :
    Leads Tryd.prog N0 (G (fd false fn n [] σ [.code c]) cs) pw fun a' pw' => ∃ ts' td, a' = G (frm fn ts' td .returning) cs ∧ (∀ (w : World) es, (results f ts').runT Tryd.prog w es = (.ok v w, es)) ∧ Blw pw pw' := by
  subst he
  rw [fd_frm]
  refine Leads.then (leads_piece (R := fun e a w => (e = .normal ∨ e = .ret) ∧ a.tmps.getD j undef = v ∧ Blw pw w) hF ⟨f, hf⟩ (fs_no hsl) hc (fun τ d => ?_) (fun e a w h => h.1) (fun e a w τ d τ' d' h => ⟨h.1, h.2.1, ⟨h.2.2.os, h.2.2.output, h.2.2.size, h.2.2.block⟩⟩)) ?_
  · refine Code.wp_mono ?_ (hC τ d)
    intro e a w h
    have key : (∃ u, (results f a.tmps).run Tryd.prog w = .ok u w ∧ Ending.returned u = .returned v ∧ Below pw.heap.size (tp pw τ d) w) → a.tmps.getD j undef = v ∧ Blw pw w := by
      rintro ⟨u, h1, h2, h3⟩
      cases h2
      refine ⟨?_, ⟨h3.os, h3.output, h3.size, h3.block⟩⟩
      have e1 := res1 hj Tryd.prog a.tmps w #[]
      have e2 : (results f a.tmps).run Tryd.prog w = .ok (a.tmps.getD j undef) w := by rw [← Sem.runT_fst Tryd.prog _ w #[], e1]
      rw [e2] at h1
      simpa using h1
    cases e with
    | normal => exact ⟨.inl rfl, key h.2⟩
    | ret => exact ⟨.inr rfl, key h.2⟩
    | panic ch => obtain ⟨_, q, _⟩ := h; cases q
    | outgrown => obtain ⟨q, _⟩ := h; cases q
    | _ => exact h.elim
  · rintro a' p1 ⟨ts', ⟨h, rfl⟩ | ⟨h, td, rfl⟩⟩
    · refine leads_ctl rfl (fun _ => st_nil) (leads_stop ⟨ts', _, rfl, fun w es => ?_, h.2.2⟩)
      rw [res1 hj, show ts'.getD j undef = v from h.2.1]
    · refine leads_stop ⟨ts', td, rfl, fun w es => ?_, h.2.2⟩
      rw [res1 hj, show ts'.getD j undef = v from h.2.1]
theorem leads_tail {N0 : Nat} {c0 : Frame} {cs : List Frame} (hF : FnsAll Tryd.prog fs) (ts : Array Value) (he : arr n σ = ts) (hf : Tryd.prog.funcs[fn]? = some f) (hj : f.results = #[.tmp j]) (hsl : fs.sl.all (fun p => p.1 != fn) = true) (hc : codeK Tryd.prog fs fn c = true) (v : Value)
    (hC : ∀ τ d, c.wp Tryd.prog (bodyPost Tryd.prog f fun e w' => e = .returned v ∧ Below pw.heap.size (tp pw τ d) w') ⟨ts, []⟩ (tp pw τ d)) :
    Leads Tryd.prog N0 (G (fd false fn n [] σ [.code c]) (c0 :: cs)) pw fun a' pw' => a' = G (c0.finish v) cs ∧ Blw pw pw' := by
  refine Leads.then (piece_ret hF ts he hf hj hsl hc v hC) ?_
  rintro a' p1 ⟨ts', td, rfl, h1, h2⟩
  exact leads_back hf h1 (leads_stop ⟨rfl, h2⟩)
theorem leads_rest {W : World} (hF : FnsAll Tryd.prog fs) (ts : Array Value) (he : arr n σ = ts) (hf : Tryd.prog.funcs[fn]? = some f) (hi : Tryd.prog.inits.idxOf? fn = none) (hj : f.results = #[.tmp j]) (hsl : fs.sl.all (fun p => p.1 != fn) = true) (hc : codeK Tryd.prog fs fn c = true) (hb : Blw W pw)
    (hC : ∀ τ d, c.wp Tryd.prog (bodyPost Tryd.prog f fun e w' => e = .returned (.bool true) ∧ Below pw.heap.size (tp pw τ d) w') ⟨ts, []⟩ (tp pw τ d)) :
    Leads Tryd.prog W.heap.size (G (fd false fn n [] σ [.code c]) []) pw (EndT Tryd.prog W W.heap.size) := by
  refine Leads.then (piece_ret hF ts he hf hj hsl hc _ hC) ?_
  rintro a' p1 ⟨ts', td, rfl, h1, h2⟩
  rw [arr_ts ts'] at h1 ⊢
  exact leads_true hf hi h1 (hb.trans h2)
end
def midPost (R : Array Value → World → Prop) : Exit → Act → World → Prop
  | .normal, a, w => R a.tmps w
  | _, _, _ => False
theorem leads_mid {fs : Fs} {pw : World} {fn : FuncId} {f : Func} {n N0 : Nat} {σ : Nat → Value} {c : Code} {k : List Item} {cs : List Frame} {Q : Goroutine → World → Prop} (hF : FnsAll Tryd.prog fs) (R : (Nat → Value) → World → Prop) (ts : Array Value) (he : arr n σ = ts) (hf : Tryd.prog.funcs[fn]? = some f) (hsl : fs.sl.all (fun p => p.1 != fn) = true) (hc : codeK Tryd.prog fs fn c = true)
    (hC : ∀ τ d, c.wp Tryd.prog (midPost fun ts w => ts.size = n ∧ R (fun j => ts.getD j undef) w) ⟨ts, []⟩ (tp pw τ d)) (hR : ∀ s w τ d τ' d', R s (tp w τ d) → R s (tp w τ' d'))
    (h : ∀ σ' pw', R σ' pw' → Leads Tryd.prog N0 (G (fd false fn n [] σ' k) cs) pw' Q) : Leads Tryd.prog N0 (G (fd false fn n [] σ (.code c :: k)) cs) pw Q := by
  subst he
  rw [fd_frm]
  refine Leads.then (leads_piece (R := fun e a w => e = .normal ∧ a.tmps.size = n ∧ R (fun j => a.tmps.getD j undef) w) hF ⟨f, hf⟩ (fs_no hsl) hc (fun τ d => Code.wp_mono (fun e a w h => by cases e <;> first | exact ⟨rfl, h⟩ | exact h.elim) (hC τ d)) (fun e a w h => .inl h.1) (fun e a w τ d τ' d' h => ⟨h.1, h.2.1, hR _ _ _ _ _ _ h.2.2⟩)) ?_
  rintro a' p1 ⟨ts', ⟨h1, rfl⟩ | ⟨h1, -⟩⟩
  · have e := arr_ts ts'
    rw [show ts'.size = n from h1.2.1] at e
    rw [e, ← fd_frm]
    exact h _ _ h1.2.2
  · cases h1.1
theorem rest2 {P : Program} {fn : Func} {a b c : Code} {Q : Exit → Act → World → Prop} {s : Act} {w : World} (hb : fn.body = some (.seq a (.seq b c))) (h : c.wp P Q s w) : (sq2 (sq2 (fn.body.getD .skip))).wp P Q s w := by
  rw [hb]
  exact h
theorem rest3 {P : Program} {fn : Func} {a b c d : Code} {Q : Exit → Act → World → Prop} {s : Act} {w : World} (hb : fn.body = some (.seq a (.seq b (.seq c d)))) (h : d.wp P Q s w) : (sq2 (sq2 (sq2 (fn.body.getD .skip)))).wp P Q s w := by
  rw [hb]
  exact h
end Go.Proofs.YtckoipoejaafhaaDoor.Cc

namespace Go.Proofs.YtckoipoejaafhaaDoor
def pwN (r : Nat) : Nat → Nat
  | 0 => 1
  | i + 1 => fM (pwN r i) r
def wgK (xs : List Nat) (r : Nat) : Nat → List Nat
  | 0 => List.replicate xs.length 0
  | i + 1 => (wgK xs r i).set i (fM (xs.getD i 0) (pwN r i))
def wg (xs : List Nat) (r : Nat) : List Nat := wgK xs r xs.length
def muK (zs ys : List Nat) : Nat → List Nat
  | 0 => zs
  | i + 1 => (muK zs ys i).set i (fM ((muK zs ys i).getD i 0) (ys.getD i 0))
theorem muK_length (zs ys : List Nat) (i : Nat) : (muK zs ys i).length = zs.length := by
  induction i with
  | zero => rfl
  | succ i ih => rw [muK, List.length_set, ih]
theorem muK_P (zs ys : List Nat) (i : Nat) (hz : ∀ x ∈ zs, x < P) : ∀ x ∈ muK zs ys i, x < P := by
  induction i with
  | zero => exact hz
  | succ i ih =>
    intro x hx
    rw [muK] at hx
    rcases List.mem_or_eq_of_mem_set hx with h1 | h1
    · exact ih x h1
    · rw [h1]; have := fM_lt ((muK zs ys i).getD i 0) (ys.getD i 0); unfold P; omega
theorem cf_muK (zs ys : List Nat) (i : Nat) (hi : i ≤ zs.length) (j : Nat) : cf (muK zs ys i) j = if j < i then cf zs j * cf ys j else cf zs j := by
  induction i generalizing j with
  | zero => rw [if_neg (by omega)]; rfl
  | succ i ih =>
    have h1 := ih (by omega) i
    rw [if_neg (by omega)] at h1
    rw [muK, cf_setN _ _ _ _ (by rw [muK_length]; omega), toF_fM]
    show (if j = i then cf (muK zs ys i) i * cf ys i else cf (muK zs ys i) j) = _
    rw [h1]
    by_cases e : j = i
    · rw [if_pos e, if_pos (by omega), e]
    · rw [if_neg e, ih (by omega) j]
      by_cases e2 : j < i
      · rw [if_pos e2, if_pos (by omega)]
      · rw [if_neg e2, if_neg (by omega)]
theorem cyc_mu (A B : List Nat) (k : Nat) (hk : k ≤ 32) (hA : A.length = 2 ^ k) (hB : B.length = 2 ^ k) :
    mk (2 ^ k) (bw (muK (mk (2 ^ k) (fw A k)) (mk (2 ^ k) (fw B k)) (2 ^ k)) k) = mk (2 ^ k) (rnd A B false) := by
  refine cyc_way A B k hk hA hB _ fun t ht => ?_
  rw [cf_muK _ _ _ (by rw [mk_length]; exact Nat.le_refl _), if_pos ht, cf_mk, if_pos ht, cf_mk, if_pos ht]
end Go.Proofs.YtckoipoejaafhaaDoor

namespace Go.Proofs.YtckoipoejaafhaaDoor
open Go.RowKit
set_option maxRecDepth 100000
theorem cell_fresh (w : World) (cs : Array Value) (t i : Nat) (u : Value) (h : cs[i]? = some u) : (w.alloc (.cells cs t)).cell? ⟨w.heap.size, i, none⟩ = some u := by
  have e : (w.alloc (.cells cs t)).heap[w.heap.size]? = some (.cells cs t) := by
    show (w.heap.push _)[w.heap.size]? = _
    simp
  simp only [World.cell?, e]
  rw [h]; rfl
def Lists (w : World) (g n : Nat) (lens : List Nat) : Prop := ∀ i, i < n → ∃ a c, w.cell? ⟨g, i, none⟩ = some (.slice a (lens.getD i 0) c)
theorem lists1 (w : World) (t l c : Nat) (a : Option Addr) : Lists (w.alloc (.cells #[.slice a l c] t)) w.heap.size 1 [l] := fun i hi => by
  obtain rfl : i = 0 := by omega
  exact ⟨a, c, cell_fresh _ _ _ _ _ rfl⟩
set_option maxHeartbeats 1000000 in
theorem many_checkArrays_ok (w : World) (v : Value) (zs : List Int) (ds lens : List Nat) (g n : Nat) (h : IsZ w v zs) (hG : Good zs ds) (hn : prd2 ds ≤ 1024) (hL : Lists w g n lens) (hn2 : n ≤ 2) (hl : ∀ i, i < n → lens.getD i 0 = prd2 ds) :
    Calls Tryd.prog 45 #[v, .slice (some ⟨g, 0, none⟩) n n] w fun e w' => e = .returned (.int .i64 0) ∧ w' = w := by
  have c1 := many_Check_okW w v zs ds h hG hn
  clear h hG
  generalize prd2 ds = N at *
  go_enter Tryd.func45, Tryd.ntmps45
  go_wp2_with (go_at_call 39; refine Calls.mono c1 ?_; rintro e w' ⟨rfl, hw⟩; rw [hw]; clear hw)
  clear c1
  go_loop [19] (fun vi => ∃ k : Nat, k ≤ n ∧ vi = .int .i64 (k : Int)) (fun vi => n - (intOf vi).toNat)
  case atStart => exact ⟨0, Nat.zero_le _, rfl⟩
  case round =>
    obtain ⟨k, hk, rfl⟩ := hrel
    by_cases hlt : k < n
    · obtain ⟨a, c, hcell⟩ := hL k hlt
      rw [hl k hlt] at hcell
      clear hL hl
      go_wp2
      go_round
      case rel => exact ⟨k + 1, by omega, by go_num⟩
      case measure => simp only [intOf]; omega
    · have e : k = n := by omega
      subst e
      clear hL hl
      go_wp2
      go_ret
      exact ⟨rfl, rfl⟩
set_option maxHeartbeats 2000000 in
theorem many_Forward_ok (w : World) (v v' : Value) (zs : List Int) (xs : List Nat) (ds : List Nat) (h : IsZ w v zs) (h' : IsU w v' xs) (ht : Tab w) (hG : Good zs ds) (hn : prd2 ds ≤ 1024) (hl : xs.length = prd2 ds) :
    Calls Tryd.prog 20 #[v, v'] w fun e w' => ∃ u, e = .returned (.tuple #[u, .int .i64 0]) ∧ IsU w' u (mk (prd2 ds) (who ds false (cf xs) ds.length)) ∧ Below w.heap.size w w' := by
  have hZ := h
  have hA := h'
  obtain ⟨az, cz, rfl, -⟩ := h
  obtain ⟨a, cap, rfl, -⟩ := h'
  have c1 := fun (t : Nat) => many_checkArrays_ok (w.alloc (.cells #[.slice a xs.length cap] t)) _ zs ds [xs.length] w.heap.size 1 (hZ.below (below_alloc1 w _)) hG hn (lists1 w t _ _ _) (by omega) (fun i hi => match i, hi with | 0, _ => hl)
  have c3 := fun (W : World) (hb : Below w.heap.size w W) => many_alongAll W _ _ zs xs ds false (hZ.below hb) (hA.below hb) (ht.below hb) hG hn hl
  have hlR : Hid ((mk (prd2 ds) (who ds false (cf xs) ds.length)).length = prd2 ds) := mk_length _ _
  have hPR : Rng (mk (prd2 ds) (who ds false (cf xs) ds.length)) := Rng_of_P (mk_lt _ _)
  generalize mk (prd2 ds) (who ds false (cf xs) ds.length) = RL at *
  clear hG hl ht hZ hA
  generalize prd2 ds = N at *
  go_enter Tryd.func20, Tryd.ntmps20
  go_wp2_with (first
    | (go_at_call 45; refine Calls.mono (c1 _) ?_; rintro e w' ⟨rfl, hw⟩; rw [hw]; clear hw)
    | (go_at_call 46; refine Calls.mono (c3 _ (below_alloc1 _ _)) ?_; rintro e w2 ⟨g, rfl, hg, hr, hb⟩))
  go_ret2
  exact ⟨_, rfl, hr.isUN hPR (by rw [hlR.out]; omega) hlR.out, below_alloc hb⟩
set_option maxHeartbeats 1000000 in
theorem slices_Equal (w : World) (v v' : Value) (xs : List Nat) (h : IsU w v xs) (h' : IsU w v' xs) :
    Calls Tryd.prog 14 #[v, v'] w fun e w' => e = .returned (.bool true) ∧ Below w.heap.size w w' := by
  obtain ⟨a, cap, rfl, hcap, hmax, hc, hr⟩ := h
  obtain ⟨a', cap', rfl, hcap', hmax', hc', _⟩ := h'
  have hlen : (xs.length : Int) ≤ 9223372036854775807 := by unfold maxLen at hmax; omega
  clear hr hmax' hmax hcap hcap'
  generalize hn : xs.length = n at *
  clear hn
  go_enter Tryd.func14, Tryd.ntmps14
  go_wp2
  go_loopw [13] (fun vi wr => ∃ k : Nat, k ≤ n ∧ vi = .int .i64 (k : Int) ∧ Below w.heap.size w wr)
    (fun vi _ => n - (intOf vi).toNat)
  case atStart => exact ⟨0, Nat.zero_le _, rfl, Below.refl _ _⟩
  case round =>
    obtain ⟨k, hk, rfl, hnx⟩ := hrel
    by_cases hlt : k < n
    · obtain ⟨b, off, rfl, hcell0⟩ := hc k hlt
      have hcell := (hnx.cell (block_lt hcell0)).trans hcell0
      obtain ⟨b', off', rfl, hcell0'⟩ := hc' k hlt
      have hcell' := (hnx.cell (block_lt hcell0')).trans hcell0'
      clear hcell0 hcell0' hc hc'
      generalize xs.getD k 0 = x at *
      go_wp2
      go_quiet (fail)
      go_wp2
      go_roundw
      case rel => exact ⟨k + 1, by omega, by go_num, below_drewN hnx _⟩
      case measure => simp only [intOf]; omega
    · have e : k = n := by omega
      subst e
      clear hc hc'
      go_wp2
      go_ret
      exact ⟨rfl, hnx⟩
theorem IsZ.lit2 (w : World) (e : Nat) (a b : Int) (ha : -9223372036854775808 ≤ a ∧ a ≤ 9223372036854775807) (hb : -9223372036854775808 ≤ b ∧ b ≤ 9223372036854775807) : IsZ (w.alloc (.cells #[.int .i64 a, .int .i64 b] e)) (.slice (some ⟨w.heap.size, 0, none⟩) 2 2) [a, b] := by
  have h0 := World.ownsRow_lit (base := 0) (e := e) (size := 1) w #[.int .i64 a, .int .i64 b] 2 (Nat.zero_le _) (by simp [maxLen]) rfl
  refine ⟨some ⟨w.heap.size, 0, none⟩, 2, rfl, Nat.le_refl _, by simp [maxLen], fun i hi => ⟨w.heap.size, 0, rfl, ?_⟩, ?_⟩
  · have hc := h0.cellAt i (by simpa using hi)
    rw [Nat.zero_add, hc]
    match i, hi with
    | 0, _ => rfl
    | 1, _ => rfl
  · intro z hz
    simp at hz
    rcases hz with rfl | rfl
    · exact ha
    · exact hb
end Go.Proofs.YtckoipoejaafhaaDoor

namespace Go.Proofs.YtckoipoejaafhaaDoor
def CrY (ds : List Nat) (k y : Nat) : Prop := plc ds k y = 0 ∨ 2 * plc ds k y = sz ds y
instance (ds : List Nat) (k y : Nat) : Decidable (CrY ds k y) := by unfold CrY; infer_instance
def Crn (ds : List Nat) (k : Nat) : Prop := ∀ y, y < ds.length → CrY ds k y
instance (ds : List Nat) (k : Nat) : Decidable (Crn ds k) := by unfold Crn; infer_instance
theorem chi_none (w : Nat → F) (d : Nat → Nat) (x q : Nat) : chi w d x q 0 = 1 := by
  induction x generalizing q with
  | zero => rfl
  | succ x ih => rw [chi, Nat.zero_div, ih, Nat.zero_mod, Nat.mul_zero, pw_zero]; grind
theorem who_sum {ds : List Nat} (hS : Shp ds) (f : Nat → F) : who ds false f ds.length 0 = S (prd2 ds) f := by
  rw [who_chi hS false f 0 (prd2_pos hS.pos), cfs_false]
  have : S (prd2 ds) (fun q => f q * chi (fun y => axW false (sz ds y)) (sz ds) ds.length q 0) = S (prd2 ds) f := S_congr fun q _ => by rw [chi_none]; grind
  rw [this]; grind
end Go.Proofs.YtckoipoejaafhaaDoor

namespace Go.Proofs.YtckoipoejaafhaaDoor
open Go.RowKit
set_option maxRecDepth 100000
theorem good24 : Good [(2 : Int), 4] [2, 4] := ⟨by decide, by decide, rfl, fun d hd => by
  simp at hd
  rcases hd with rfl | rfl
  · exact ⟨1, rfl⟩
  · exact ⟨2, rfl⟩⟩
def L24 : List (List (List Int)) := pls [2, 4] 1 2
theorem fine24 : Fine [2, 4] L24 := pls_fine [2, 4] 1 (by decide)
theorem big24 : ¬ BigP L24 L24.length := pls_notbig (few_small good24.2.2.2 (by decide) 1)
def U8 : List Nat := [1, 2, 3, 4, 5, 6, 7, 8]
def V8 : List Nat := mk (prd2 [2, 4]) (who [2, 4] false (cf U8) [2, 4].length)
theorem v8_len : V8.length = 8 := mk_length _ _
theorem v8_first : V8.getD 0 0 = 36 := by
  unfold V8
  rw [mk_getD _ _ 0 (by decide), who_sum good24.2.2.2]
  decide +kernel
theorem lit8 (w : World) : IsU (w.alloc (.cells #[.int .u64 1, .int .u64 2, .int .u64 3, .int .u64 4, .int .u64 5, .int .u64 6, .int .u64 7, .int .u64 8] 34)) (.slice (some ⟨w.heap.size, 0, none⟩) 8 8) U8 :=
  IsU.of_owns (base := 0) (e := 34) (World.ownsRow_lit (base := 0) (e := 34) (size := 1) w #[.int .u64 1, .int .u64 2, .int .u64 3, .int .u64 4, .int .u64 5, .int .u64 6, .int .u64 7, .int .u64 8] 8 (Nat.zero_le _) (by simp [maxLen]) rfl) (by decide)
theorem lit24 (w : World) : IsZ (w.alloc (.cells #[.int .i64 2, .int .i64 4] 3)) (.slice (some ⟨w.heap.size, 0, none⟩) 2 2) [2, 4] := IsZ.lit2 w 3 2 4 (by decide) (by decide)
set_option maxRecDepth 100000 in
set_option maxHeartbeats 2000000 in
theorem said_rest (w : World) (b : Nat) (l : Value) (hx : IsU w (.slice (some ⟨b, 0, none⟩) 8 8) V8) (hTb : Tab w) (u8 u13 u14 : Value) :
    (Cc.sq2 (Cc.sq2 (Cc.sq2 (Tryd.f15.body.getD .skip)))).wp Tryd.prog (bodyPost Tryd.prog Tryd.f15 fun e w' => e = .returned (.bool true) ∧ Below w.heap.size w w')
      ⟨#[.bool false, l, .int .i64 0, .slice (some ⟨b, 0, none⟩) 8 8, .int .i64 0, undef, undef, .tuple #[l, .int .i64 0], u8, .tuple #[l, .int .i64 0], l, .int .i64 0, .tuple #[.slice (some ⟨b, 0, none⟩) 8 8, .int .i64 0], u13, u14, l, .tuple #[.slice (some ⟨b, 0, none⟩) 8 8, .int .i64 0], .slice (some ⟨b, 0, none⟩) 8 8, .int .i64 0, undef, undef, undef, undef, undef, undef, undef, undef, undef, undef, undef, undef, undef, undef, undef, undef, undef, undef, undef, undef, undef, undef, undef, undef, undef, undef, undef, undef, undef, undef, undef, undef], []⟩ w := by
  have hF := many_Forward_ok ((w.alloc (.cells #[.int .i64 2, .int .i64 4] 3)).alloc (.cells #[.int .u64 1, .int .u64 2, .int .u64 3, .int .u64 4, .int .u64 5, .int .u64 6, .int .u64 7, .int .u64 8] 34)) (.slice (some ⟨w.heap.size, 0, none⟩) 2 2) (.slice (some ⟨w.heap.size + 1, 0, none⟩) 8 8) [2, 4] U8 [2, 4] ((lit24 w).below (below_alloc1 _ _)) (by
    have := lit8 (w.alloc (.cells #[.int .i64 2, .int .i64 4] 3))
    rw [show (w.alloc (.cells #[.int .i64 2, .int .i64 4] 3)).heap.size = w.heap.size + 1 by simp] at this
    exact this) ((hTb.below (below_alloc1 _ _)).below (below_alloc1 _ _)) good24 (by decide) rfl
  have hF' : Calls Tryd.prog 20 #[.slice (some ⟨w.heap.size, 0, none⟩) 2 2, .slice (some ⟨w.heap.size + 1, 0, none⟩) 8 8] ((w.alloc (.cells #[.int .i64 2, .int .i64 4] 3)).alloc (.cells #[.int .u64 1, .int .u64 2, .int .u64 3, .int .u64 4, .int .u64 5, .int .u64 6, .int .u64 7, .int .u64 8] 34)) fun e w' => ∃ u, e = .returned (.tuple #[u, .int .i64 0]) ∧ IsU w' u V8 ∧ Below w.heap.size w w' := hF.mono fun e w' hh => by
    obtain ⟨u, rfl, h1, h2⟩ := hh
    exact ⟨u, rfl, h1, below_alloc (below_alloc h2)⟩
  have hlen := v8_len
  have hc0 := hx.cell 0 (by rw [v8_len]; decide)
  rw [v8_first, Nat.zero_add] at hc0
  have hW := Below.refl w.heap.size w
  clear hF hTb
  generalize V8 = L8 at *
  refine Cc.rest3 (fn := Tryd.f15) rfl ?_
  go_wp2_with (first
    | (go_at_call 20; refine Calls.mono hF' ?_; rintro e w1 ⟨u, rfl, hU, hb⟩; clear hF'; replace hx := hx.below hb; have hc1 := (hb.cell (Cc.cell_lt hc0)).trans hc0)
    | (go_at_call 14; refine Calls.mono (slices_Equal _ _ _ L8 hx hU) ?_; rintro e w2 ⟨rfl, hb2⟩; have hc2 := (hb2.cell (Cc.cell_lt hc1)).trans hc1; have hb3 := hb.trans (hb2.mono hb.size)))
  go_ret
  exact ⟨rfl, hb3⟩
end Go.Proofs.YtckoipoejaafhaaDoor
namespace Go.Proofs.YtckoipoejaafhaaDoor.Cc
open Go Go.Conc Go.RowKit
section
variable {N0 : Nat} {pw : World} {c0 : Frame} {cs : List Frame}
set_option maxRecDepth 100000 in
set_option maxHeartbeats 4000000 in
theorem said_leads (hT : Tbs N0 pw) : Leads Tryd.prog N0 (G (Frame.enter Tryd.prog 15 #[] .normal) (c0 :: cs)) pw fun a' pw' => a' = G (c0.finish (.bool true)) cs ∧ Blw pw pw' := by
  rw [enter_fd #[] Tryd.func15 rfl (show 0 ≤ 51 by omega)]
  refine leads_seq ?_
  refine leads_region [0] rfl ?_
  refine leads_mv (some 0) rfl rfl rfl (.inr rfl) ?_
  refine leads_regionEnd ?_
  refine leads_seq ?_
  refine leads_region [0, 1, 2, 3, 4, 5, 6] rfl ?_
  refine leads_new (some 8) (fun B => .slice (some ⟨B, 0, none⟩) 2 2) (.cells #[.int .i64 2, .int .i64 4] 3) rfl rfl rfl (fun w => run_ev (by simp [execOp, go_sem, evT_const]) (by simp [execOp, go_sem, evT_const])) ?_
  have b1 := (Blw.refl pw).alloc (.cells #[.int .i64 2, .int .i64 4] 3)
  have z1 := lit24 pw
  generalize pw.alloc (.cells #[.int .i64 2, .int .i64 4] 3) = p1 at b1 z1 ⊢
  refine leads_fn tAll (fun v w => ∃ u, v = .tuple #[u, .int .i64 0] ∧ IsP 3 w u L24) (some 9) 17 #[.slice (some ⟨pw.heap.size, 0, none⟩) 2 2, .int .i64 1] rfl rfl (wanted_0 rfl) (fun w => run_ev (by simp [execOp, go_sem, evT_tmp, evT_func, evT_const, put_some]) (by simp [execOp, go_sem, evT_tmp, evT_func, evT_const, put_some, call_events Tryd.func17 (by kernel_rfl) rfl])) (by kernel_rfl) (fun τ t => ?_) (fun _ _ _ _ _ _ h => h) ?_
  · refine (plan_Make_ok _ _ [2, 4] [2, 4] 1 (IsZ.tp z1 τ t) good24 (by decide) (by decide) (by decide) (few_small good24.2.2.2 (by decide) 1)).mono ?_
    rintro e w1 ⟨u, rfl, h1, h2⟩
    exact ⟨_, rfl, ⟨u, rfl, h1⟩, h2⟩
  rintro v2 p2 ⟨l, rfl, hL⟩ b2
  refine leads_mv (some 7) rfl rfl rfl (.inl rfl) ?_
  refine leads_extr (some 10) l rfl rfl rfl rfl (by simp [evT_tmp, put_some]; rfl) rfl ?_
  refine leads_extr (some 11) (.int .i64 0) rfl rfl rfl rfl (by simp [evT_tmp, put_some]; rfl) rfl ?_
  refine leads_mv (some 1) rfl rfl rfl (.inr rfl) ?_
  refine leads_mv (some 2) rfl rfl rfl (.inr rfl) ?_
  refine leads_regionEnd ?_
  refine leads_seq ?_
  refine leads_region [0, 1, 2, 3, 4, 5, 6, 7, 8] rfl ?_
  refine leads_new (some 13) (fun B => .slice (some ⟨B, 0, none⟩) 2 2) (.cells #[.int .i64 2, .int .i64 4] 3) rfl rfl rfl (fun w => run_ev (by simp [execOp, go_sem, evT_const]) (by simp [execOp, go_sem, evT_const])) ?_
  have b3 := (Blw.refl p2).alloc (.cells #[.int .i64 2, .int .i64 4] 3)
  have z3 := lit24 p2
  have s3 : (p2.alloc (.cells #[.int .i64 2, .int .i64 4] 3)).heap.size = p2.heap.size + 1 := by simp
  generalize p2.alloc (.cells #[.int .i64 2, .int .i64 4] 3) = p3 at b3 z3 s3 ⊢
  refine leads_new (some 14) (fun B => .slice (some ⟨B, 0, none⟩) 8 8) (.cells #[.int .u64 1, .int .u64 2, .int .u64 3, .int .u64 4, .int .u64 5, .int .u64 6, .int .u64 7, .int .u64 8] 34) rfl rfl rfl (fun w => run_ev (by simp [execOp, go_sem, evT_const]) (by simp [execOp, go_sem, evT_const])) ?_
  have b4 := (Blw.refl p3).alloc (.cells #[.int .u64 1, .int .u64 2, .int .u64 3, .int .u64 4, .int .u64 5, .int .u64 6, .int .u64 7, .int .u64 8] 34)
  have u4 := lit8 p3
  generalize p3.alloc (.cells #[.int .u64 1, .int .u64 2, .int .u64 3, .int .u64 4, .int .u64 5, .int .u64 6, .int .u64 7, .int .u64 8] 34) = p4 at b4 u4 ⊢
  refine leads_mv (some 15) rfl rfl rfl (.inl rfl) ?_
  refine leads_enterD 13 #[.slice (some ⟨p2.heap.size, 0, none⟩) 2 2, .slice (some ⟨p3.heap.size, 0, none⟩) 8 8, l, .int .i64 2, .bool false] rfl rfl (fun w => run_ev (by simp [execOp, go_sem, evT_tmp, evT_func, evT_const, put_some]) (by simp [execOp, go_sem, evT_tmp, evT_func, evT_const, put_some, call_events Tryd.func13 (by kernel_rfl) rfl])) ?_
  have B4 := (b1.trans b2).trans (b3.trans b4)
  refine Leads.then (together_right (n := 2) (back := false) tAll (by kernel_rfl) (by kernel_rfl) (IsZ.blw z3 b4) u4 (IsP.blw hL (b3.trans b4)) good24 (by decide) fine24 big24 rfl (by decide) (by decide) (by kernel_rfl) (hT.blw B4)) ?_
  rintro a' p5 ⟨b, rfl, b5, hx, -, -⟩
  rw [finish_arr _ _ _ _ _ _ _ _ _ _ rfl]
  refine leads_mv (some 12) rfl rfl rfl (.inl rfl) ?_
  refine leads_extr (some 17) (.slice (some ⟨b, 0, none⟩) 8 8) rfl rfl rfl rfl (by simp [evT_tmp, put_some]; rfl) rfl ?_
  refine leads_extr (some 18) (.int .i64 0) rfl rfl rfl rfl (by simp [evT_tmp, put_some]; rfl) rfl ?_
  refine leads_mv (some 3) rfl rfl rfl (.inr rfl) ?_
  refine leads_mv (some 4) rfl rfl rfl (.inr rfl) ?_
  refine leads_regionEnd ?_
  have hT5 := (hT.blw B4).blw b5
  refine Leads.mono (leads_tail (j := 0) (f := Tryd.f15) tAll _ (by kernel_rfl) Tryd.func15 rfl (by kernel_rfl) (by kernel_rfl) (.bool true) fun τ d => said_rest (tp p5 τ d) b l (IsU.tp hx τ d) hT5.tab (.slice (some ⟨pw.heap.size, 0, none⟩) 2 2) (.slice (some ⟨p2.heap.size, 0, none⟩) 2 2) (.slice (some ⟨p3.heap.size, 0, none⟩) 8 8)) ?_
  rintro a' p6 ⟨rfl, b6⟩
  exact ⟨rfl, (B4.trans b5).trans b6⟩
end
theorem leaving_of_runs {H : Type} {enc : TypeId × Value → H} {a : Assume} {C : Checked} {os : Os} {f : FuncId} {fn : Func} {s : ChangeSpec} {conds : List PathCond} {apart fresh handsOn again : Bool} {X : World → Array Value → Prop}
    (hX : ∀ (w w' : World) (args : Array Value), w.heap = w'.heap → X w args → X w' args)
    (own : ownKnob C.prog.godebug = none) (started : os.Started) (hfn : C.prog.funcs[f]? = some fn)
    (witness : ∃ (w : World) (tape : Tape) (i : Input), w.os = os ∧ (w.forCall tape i).Shaped C.prog ∧ i.vars = [] ∧ Input.okWide C.prog (w.forCall tape i) .any w.heap.size f i ∧
      ((s.pre enc C.prog fn conds apart (w.forCall tape i).memory i.args ∧ X (w.forCall tape i).memory i.args) ∧ sizedMet enc C.prog fn (OpenSpec.ofChange s) apart (w.forCall tape i).memory i.args) ∧ a.holds C.prog (lone (Frame.enter C.prog f i.args .normal) [] (w.forCall tape i)))
    (runs : ∀ (W : World) (base : Nat) (args : Array Value) (ds gs : List (DataW H)) (before : List MemPlace),
      (∀ (j : Nat) t v, fn.params[j]? = some t → args[j]? = some v → Value.okWide C.prog W .any base t v) →
      DataW.Whole enc C.prog fn.params.toList s.vars apart W args.toList ds gs before →
      conds.all (PathCond.test C.prog ⟨fn.params.toList, ds, s.plain.varTypes C.prog, gs⟩) = true →
      (DataW.weightsEach C.prog (fn.params.toList ++ s.plain.varTypes C.prog) (ds ++ gs)).all (· ≤ reachBytes) = true → X W args → W.ShapedOpen C.prog →
      (∃ M last o w' t', runNT C.prog (M + 1) (solo (G (Frame.enter C.prog f args .normal) []) W) #[] = (.ended o w', t') ∧ runN C.prog M (solo (G (Frame.enter C.prog f args .normal) []) W) = .next last ∧
        step C.prog last = .ended o w' ∧ Conc.Good C.prog (fun v W' => v = .bool true ∧ Blw W W') last o w' t') ∧
      ∀ W', Below W.heap.size W W' → s.post enc C.prog fn apart fresh handsOn again W args (.bool true) W') :
    ReturnsInLeavingWide a C os f .any (fun w args => (s.pre enc C.prog fn conds apart w args ∧ X w args) ∧ sizedMet enc C.prog fn (OpenSpec.ofChange s) apart w args) (s.post enc C.prog fn apart fresh handsOn again) := by
  refine returnsInLeavingWide_of_good own started witness ?_
  intro w tape i _ hsh _ hok hpre _
  obtain ⟨_, _, _, fn', hfn', _, _, _, _, hval⟩ := hok
  have e : fn' = fn := Option.some.inj (hfn'.symm.trans hfn)
  subst e
  obtain ⟨⟨⟨ds, gs, before, hw, hc⟩, hx⟩, hz⟩ := hpre
  have hw' := DataW.Whole.of_heap (w' := w.forCall tape i) (by rfl) hw
  obtain ⟨⟨M, last, o, w', t', h1, h2, h3, h4⟩, hp⟩ := runs (w.forCall tape i) w.heap.size i.args ds gs before hval hw' hc (hz.weights hw) (hX _ _ _ (by rfl) hx) hsh
  exact ⟨M, last, o, w', t', h1, h2, h3, h4.mono fun v q => by
    obtain ⟨rfl, hb⟩ := q
    have q := ChangeSpec.post_blind (hp _ hb.below)
    exact q⟩
theorem rows_all : (List.range Tryd.prog.globals.size).all (fun g => (((begin Tryd.prog (fun _ _ => 0) default).world.heap[g]?).bind Obj.row?).isSome) = true := by kernel_rfl
theorem gl_of_shaped {W : World} (h : W.ShapedOpen Tryd.prog) : Gl Tryd.prog.globals.size W := fun g hg => by
  have h1 := List.all_eq_true.1 rows_all g (List.mem_range.2 hg)
  obtain ⟨⟨zero, t⟩, h2⟩ := Option.isSome_iff_exists.1 h1
  obtain ⟨cs, h3, -⟩ := h.1 g zero t hg h2
  exact ⟨cs, t, _, h3⟩
theorem gl_le {G : Nat} {W : World} (h : Gl G W) : G ≤ W.heap.size := by
  cases G with
  | zero => exact Nat.zero_le _
  | succ n =>
    obtain ⟨c, e, fr, h1⟩ := h n (Nat.lt_succ_self n)
    exact (Array.getElem?_eq_some_iff.1 h1).1
theorem tabs_lt : tabsL.all (fun g => decide (g < Tryd.prog.globals.size)) = true := by kernel_rfl
theorem tbs_of {W : World} (h : W.ShapedOpen Tryd.prog) (hT : Tab W) : Tbs W.heap.size W := by
  refine ⟨hT, fun g hg => ?_, Nat.le_refl _⟩
  have h1 : g < Tryd.prog.globals.size := by simpa using List.all_eq_true.1 tabs_lt g hg
  have h2 := gl_of_shaped h
  obtain ⟨c, e, fr, h3⟩ := h2 g h1
  exact ⟨Nat.lt_of_lt_of_le h1 (gl_le h2), c, e, fr, h3, trivial⟩
theorem readies_all : Tryd.prog.funcs.all (fun f => match f.body with | none => true | some c => (readies c).all (fun g => decide (g < Tryd.prog.globals.size))) = true := by kernel_rfl
theorem no_early : NoEarly Tryd.prog Tryd.prog.globals.size := by
  refine ⟨by kernel_rfl, fun g hg => ?_⟩
  unfold Program.stepOf
  rw [Array.findIdx?_eq_none_iff]
  intro f hf
  have h1 := Array.all_eq_true_iff_forall_mem.1 readies_all f hf
  cases hb : f.body with
  | none => rfl
  | some c =>
    rw [hb] at h1
    simp only [Option.map_some, Option.any_some]
    cases hc : (readies c).contains g with
    | false => rfl
    | true =>
      exfalso
      have h2 := of_decide_eq_true (List.all_eq_true.1 h1 g (List.contains_iff_mem.1 hc))
      omega
theorem mixed : Tryd.prog.follows .mixedOrders = true := by kernel_rfl
def GoodRun (P : Program) (f : FuncId) (args : Array Value) (W : World) : Prop :=
  ∃ M last o w' t', runNT P (M + 1) (solo (G (Frame.enter P f args .normal) []) W) #[] = (.ended o w', t') ∧ runN P M (solo (G (Frame.enter P f args .normal) []) W) = .next last ∧ step P last = .ended o w' ∧ Conc.Good P (fun v W' => v = .bool true ∧ Blw W W') last o w' t'
theorem good_run {f : FuncId} {args : Array Value} {W : World} (hsh : W.ShapedOpen Tryd.prog) (h : Leads Tryd.prog W.heap.size (G (Frame.enter Tryd.prog f args .normal) []) W (EndT Tryd.prog W W.heap.size)) : GoodRun Tryd.prog f args W :=
  leads_good ⟨_, gl_le (gl_of_shaped hsh), no_early, gl_of_shaped hsh⟩ h
end Go.Proofs.YtckoipoejaafhaaDoor.Cc
