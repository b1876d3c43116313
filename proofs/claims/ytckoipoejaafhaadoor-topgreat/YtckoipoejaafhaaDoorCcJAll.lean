/-
  Texts that stood one behind the other, as one.
-/
import Derived.Test.YtckoipoejaafhaaDoorCcGAll
import Derived.Conc.CrowdInv
namespace Go.Proofs.YtckoipoejaafhaaDoor.Cc
open Go Go.Conc
open Go.ConcN (CT OkW Ok0 PermW Apart upd upd_same upd_ne PayAt RelBy)
open Go.ConcR (Payload stA)
def noT : Nat → Hold := fun _ => Hold.no
def noC : Nat → Addr → Prop := fun _ _ => False
theorem ownT_no {k : Nat} {l : Loc} : ¬ OwnT noT noC k l := by rintro ⟨a, _, h | h⟩ <;> exact h
theorem rdT_no {k : Nat} {l : Loc} : ¬ RdT noT k l := by rintro ⟨a, _, h⟩; exact h
structure Anc (q : Nat) (Su : Nat → Prop) (B : Nat) (t : Trace) : Prop where
  ct : CT (ShT Su) (OwnT noT noC) (RdT noT) t q
  low : Low B t
  over : t.HandedOver
  hears : Deaf t 0 = 0
  above : ∀ i, q < i → Deaf t i = 0
structure Trc (q j Wg : Nat) (Su : Nat → Prop) (T : Nat → Hold) (Cx : Nat → Addr → Prop) (B : Nat) (t : Trace) : Prop where
  ct : CT (ShT Su) (OwnT T Cx) (RdT T) t (q + j)
  low : Low B t
  norel : ∃ s0, s0 ≤ t.size ∧ (∀ (i : Nat) (op : MemOp), t[i]? = some op → i < s0 → op.g ≤ q) ∧ ∀ (i : Nat) (op : MemOp), t[i]? = some op → s0 ≤ i → op.act ≠ .mark (.release (stA Wg))
  plain : ∀ (i : Nat) (op : MemOp) (x : Touch), t[i]? = some op → q < op.g → op.act.touch? = some x → ¬ ShT Su x.loc → x.kind ≠ .atomic ∧ x.loc.isMemory = true
  known : ∀ (i : Nat) (op : MemOp) (x : Touch), t[i]? = some op → 1 ≤ op.g → op.g ≤ q → op.act.touch? = some x → ¬ ShT Su x.loc → Knows t 0 i
  over : ∀ i g, t.g? i = some g → 1 ≤ g → g ≤ q → t.counts i → ∃ p, t.g? p = some 0 ∧ HappensBefore t i p
section
variable {q j j' Wg : Nat} {Su : Nat → Prop} {T T' : Nat → Hold} {Cx : Nat → Addr → Prop} {B B' : Nat} {t u : Trace}
theorem Trc.app (h : Trc q j Wg Su T Cx B t) (hct : CT (ShT Su) (OwnT T' Cx) (RdT T') (t ++ u) (q + j')) (hlow : Low B' (t ++ u)) (hnr : ∀ op ∈ u, op.act ≠ .mark (.release (stA Wg)))
    (hpl : ∀ op ∈ u, q < op.g → ∀ x, op.act.touch? = some x → ¬ ShT Su x.loc → x.kind ≠ .atomic ∧ x.loc.isMemory = true) (hold : ∀ op ∈ u, 1 ≤ op.g → op.g ≤ q → op.act.touch? = none) : Trc q j' Wg Su T' Cx B' (t ++ u) := by
  obtain ⟨s0, n1, n2, n3⟩ := h.norel
  refine ⟨hct, hlow, ⟨s0, by simp; omega, fun i op hi hlt => ?_, fun i op hi hge => ?_⟩, fun i op x hi hg hx hs => ?_, fun i op x hi h1 h2 hx hs => ?_, fun i g hg h1 h2 hc => ?_⟩
  · rcases getElem?_append_cases hi with ⟨_, hi'⟩ | ⟨hge, _⟩
    · exact n2 i op hi' hlt
    · omega
  · rcases getElem?_append_cases hi with ⟨_, hi'⟩ | ⟨_, hiu⟩
    · exact n3 i op hi' hge
    · exact hnr op hiu
  · rcases getElem?_append_cases hi with ⟨_, hi'⟩ | ⟨_, hiu⟩
    · exact h.plain i op x hi' hg hx hs
    · exact hpl op hiu hg x hx hs
  · rcases getElem?_append_cases hi with ⟨_, hi'⟩ | ⟨_, hiu⟩
    · exact (h.known i op x hi' h1 h2 hx hs).app u
    · rw [hold op hiu h1 h2] at hx; cases hx
  · obtain ⟨x, hx, hxc⟩ := hc
    obtain ⟨op, hop, hox⟩ := touch_of hx
    rcases getElem?_append_cases hop with ⟨hi, hop'⟩ | ⟨_, hopu⟩
    · obtain ⟨p, hp, hb⟩ := h.over i g (by simpa [Trace.g?, getElem?_append_old hi] using hg) h1 h2 ((Go.Conc.counts_old hi).1 ⟨x, hx, hxc⟩)
      have hpl : p < t.size := by
        unfold Trace.g? at hp
        obtain ⟨z, hz, _⟩ := Option.map_eq_some_iff.1 hp
        exact lt_size_of_getElem? hz
      exact ⟨p, by simpa [Trace.g?, getElem?_append_old hpl] using hp, hb_app u hb⟩
    · have hgo : op.g = g := by simpa [Trace.g?, hop] using hg
      rw [hold op hopu (by omega) (by omega)] at hox; cases hox
theorem Anc.shun (h : Anc q Su B t) : Anc q (fun b => Su b ∨ b = B) (B + 1) t := by
  have hS : ∀ {l}, ¬ ShT (fun b => Su b ∨ b = B) l → ¬ ShT Su l := fun hn ⟨a, e, hs⟩ => hn ⟨a, e, .inl hs⟩
  refine ⟨⟨fun i op x hi hx hs => ?_, fun k _ _ l hl => absurd hl ownT_no, fun k _ _ l hl => absurd hl rdT_no, fun l hs hl => h.ct.free l (hS hs) hl, fun l hs hl => h.ct.mine l (hS hs) hl, h.ct.nr, h.ct.gs⟩, h.low.mono (Nat.le_succ _), h.over, h.hears, h.above⟩
  obtain ⟨a, e, hs | hs⟩ := hs
  · exact h.ct.quiet i op x hi hx ⟨a, e, hs⟩
  · have := h.low i x (by rw [touchAt_of hi]; exact hx)
    rw [e] at this
    simp only [Loc.low] at this
    omega
theorem Anc.begin (h : Anc q Su B t) (T : Nat → Hold) (hT : ∀ k, 1 ≤ k → k ≤ q → T k = Hold.no) (hCx : ∀ k a, Cx k a → q < k) : Trc q 0 Wg Su T Cx B t := by
  have hO : ∀ k, 1 ≤ k → k ≤ q → ∀ l, ¬ OwnT T Cx k l := fun k k1 kq l => by
    rintro ⟨a, _, o | o⟩
    · rw [hT k k1 kq] at o; exact o
    · have := hCx k a o; omega
  have hR : ∀ k, 1 ≤ k → k ≤ q → ∀ l, ¬ RdT T k l := fun k k1 kq l => by
    rintro ⟨a, _, o⟩
    rw [hT k k1 kq] at o; exact o
  refine ⟨⟨h.ct.quiet, fun k k1 kj l hl => absurd hl (hO k k1 kj l), fun k k1 kj l hl => absurd hl (hR k k1 kj l), fun l hs _ => h.ct.free l hs fun _ _ _ => ⟨ownT_no, rdT_no⟩, fun l hs _ => h.ct.mine l hs fun _ _ _ => ownT_no, h.ct.nr, h.ct.gs⟩,
    h.low, ⟨t.size, Nat.le_refl _, fun i op hi _ => h.ct.gs i op hi, fun i op hi hge => ?_⟩, fun i op x hi hg => ?_, fun i op x hi _ _ hx hs => ?_, fun i g hg h1 h2 hc => h.over i g hg (by omega) hc⟩
  · have := lt_size_of_getElem? hi; omega
  · have := h.ct.gs i op hi; omega
  · exact h.ct.free x.loc hs (fun _ _ _ => ⟨ownT_no, rdT_no⟩) i x (by rw [touchAt_of hi]; exact hx) rfl
theorem Trc.join (h : Trc q j Wg Su T Cx B t) {p : Nat} (hp : t.act? p = some (.mark (.acquire (stA Wg)))) (hg : t.g? p = some 0) (hh : t.heard p) (hall : ∀ k, k < j → ∃ r, RelBy (stA Wg) t (q + 1 + k) r ∧ r < p) (hears : Deaf t 0 = 0)
    (above : ∀ i, q + j < i → Deaf t i = 0) : Anc (q + j) Su B t := by
  have wk : ∀ i g, t.g? i = some g → q < g → t.counts i → HappensBefore t i p := fun i g hgi hq hc => by
    obtain ⟨op, ho, rfl⟩ := Option.map_eq_some_iff.1 hgi
    have hle := h.ct.gs i op ho
    obtain ⟨r, hr, hrp⟩ := hall (op.g - (q + 1)) (by omega)
    rw [show q + 1 + (op.g - (q + 1)) = op.g by omega] at hr
    obtain ⟨s0, n1, n2, n3⟩ := h.norel
    have hrs : s0 ≤ r := Nat.le_of_not_lt fun hlt => by
      obtain ⟨z, hz, hzg⟩ := Option.map_eq_some_iff.1 hr.g
      have := n2 r z hz hlt
      omega
    have edge : HappensBefore t r p := .single (.inr ⟨.marked hrp (.inr hr.act) hp (fun k k1 _ e => by
      obtain ⟨z, hz, hza⟩ := Option.map_eq_some_iff.1 e
      exact n3 k z hz (by omega) hza), hr.heard, hh⟩)
    have hle : i ≤ r := Nat.le_of_not_lt fun hlt => hr.after i hlt hgi hc
    rcases Nat.lt_or_ge i r with hlt | hge
    · exact .trans (.single (.inl ⟨hlt, op.g, hgi, hr.g⟩)) edge
    · obtain rfl : i = r := by omega
      exact edge
  obtain ⟨zp, hzp, hzg⟩ := Option.map_eq_some_iff.1 hg
  have kn : ∀ i a, touchAt t i = some a → ¬ ShT Su a.loc → Knows t 0 i := fun i a ha hs => by
    obtain ⟨op, ho, hx⟩ := touch_of ha
    have hgi : t.g? i = some op.g := by simp [Trace.g?, ho]
    rcases Nat.eq_zero_or_pos op.g with h0 | h1
    · have := knows_own ho; rwa [h0] at this
    rcases Nat.lt_or_ge q op.g with hlt | hge
    · have hk := h.plain i op a ho hlt hx hs
      exact ⟨p, zp, hzp, hzg, .inr (wk i op.g hgi hlt ⟨a, ha, hk.2, .inl hk.1⟩)⟩
    · exact h.known i op a ho h1 hge hx hs
  refine ⟨⟨h.ct.quiet, fun k _ _ l hl => absurd hl ownT_no, fun k _ _ l hl => absurd hl rdT_no, fun l hs _ i a ha e => kn i a ha (e ▸ hs), fun l hs _ i a ha e _ => kn i a ha (e ▸ hs), h.ct.nr, h.ct.gs⟩, h.low, fun i g hgi hne hc => ?_, hears, above⟩
  rcases Nat.lt_or_ge q g with hlt | hge
  · exact ⟨p, hg, wk i g hgi hlt hc⟩
  · exact h.over i g hgi (by omega) hge hc
end
end Go.Proofs.YtckoipoejaafhaaDoor.Cc

namespace Go.Proofs.YtckoipoejaafhaaDoor.Cc
open Go Go.Conc
open Go.ConcN (RW DWs CT upd upd_same upd_ne WgLive PayAt Has AtR0 AtK1 AtD1 AtD2 AtD3 AtD4 RelBy Mode CTag WD sumTo sumTo_upd sumTo_congr)
open Go.ConcR (DC0 Payload KK WgAt stA smA rd wr mk)
def Od.nat : Nat → Od
  | 0 => .leaf
  | n + 1 => .mk fun _ => Od.nat n
theorem Od.nat_sub (m : Nat) (w : World) : Od.Sub (Od.nat m) (Od.nat (m + 1)) := Od.Sub.mk (fun _ => Od.nat m) w
inductive WT where
  | rc (vs : List Value) | pk (vs : List Value) | st | r0 (v : Value) | k1 (v : Value) | d1 (v : Value) | d2 (v : Value) | d3 (v : Value) | d4 (v : Value) | qt (v : Value)
def WT.stage : WT → Nat
  | .rc _ | .pk _ | .st | .r0 _ => 7
  | .k1 _ => 6
  | .d1 _ => 5
  | .d2 _ => 4
  | .d3 _ => 3
  | .d4 _ => 2
  | .qt _ => 1
def WT.rest : WT → List Value
  | .rc vs | .pk vs => vs
  | _ => []
def WT.phi : WT → Nat
  | .rc vs => 3 * vs.length + 13
  | .pk vs => 3 * vs.length + 12
  | .st => 11
  | .r0 _ => 10
  | .k1 _ => 9
  | .d1 _ => 8
  | .d2 _ => 7
  | .d3 _ => 6
  | .d4 _ => 5
  | .qt _ => 4
def WT.isPk : WT → Bool
  | .pk _ => true
  | _ => false
inductive MT where
  | kdS (r : Nat) | a1 (r : Nat) | keS (r : Nat) | go (r : Nat) | sd (l : List (Nat × Value)) | cl (l : List Nat) | kd | an | w1 | w2 (vs : Nat) | w3 | bk | w4 | ke | aq
def MT.ctag : MT → CTag
  | .kdS r => .sp r 5
  | .a1 r => .sp r 4
  | .keS r => .sp r 3
  | .go r => .sp r 2
  | .sd _ | .cl _ | .kd => .kd
  | .an => .anch
  | .w1 => .w1
  | .w2 vs => .w2 vs
  | .w3 => .w3
  | .bk => .blk
  | .w4 => .w4
  | .ke => .ke
  | .aq => .acq
def MT.todo (l0 : List (Nat × Value)) : MT → List (Nat × Value)
  | .kdS _ | .a1 _ | .keS _ | .go _ => l0
  | .sd l => l
  | _ => []
def MT.shut : MT → Nat → Bool
  | .kdS _, _ | .a1 _, _ | .keS _, _ | .go _, _ | .sd _, _ => false
  | .cl l, c => !l.contains c
  | _, _ => true
def left (l : List (Nat × Value)) (k : Nat) : List Value := (l.filter fun x => x.1 == k).map (·.2)
def MT.phi (n L v : Nat) : MT → Nat
  | .kdS r => 11 * n + 20 + L + (3 * L + 20) * (r + 1) + 4
  | .a1 r => 11 * n + 20 + L + (3 * L + 20) * (r + 1) + 3
  | .keS r => 11 * n + 20 + L + (3 * L + 20) * (r + 1) + 2
  | .go r => 11 * n + 20 + L + (3 * L + 20) * (r + 1) + 1
  | .sd l => 9 * n + 15 + 2 * n + l.length
  | .cl l => 9 * n + 15 + 2 * l.length
  | .kd => 9 * n + 14
  | .an => 8 * v + 8
  | .w1 => 8 * v + 7
  | .w2 vs => 8 * vs + 6
  | .w3 | .bk => 5
  | .w4 => 4
  | .ke => 3
  | .aq => 2
def MT.tries : MT → Nat
  | .w3 => 1
  | _ => 0
section
variable [Payload] (P : Program) (ty : TypeId) (Wg C n : Nat)
section
variable (i k c : Nat) (z : Value) (H : Hold) (Tl : Value → (Nat → Prop) → (Nat → Prop) → World → Prop)
def WSit : WT → Od → Nat → Goroutine → World → Prop
  | .rc vs, o, d, g, w => d = 0 ∧ Way P false Wg i none yes H.sh (WRecv P ty Wg C n i k c z H.sh (fun v => Tl v H.sh) vs) o H.ow g w
  | .pk vs, o, d, g, w => d = 0 ∧ o = .leaf ∧ ∃ g₂, g = parked g₂ #[rcase c z] (.recv true) ∧ g₂.offers = none ∧ (∀ w', stepG P false g₂ w' = .comm g₂ #[rcase c z] true (.recv true) w' #[]) ∧ WNext P ty Wg C n i k c z H.sh (fun v => Tl v H.sh) vs g₂ H.ow g w
  | .st, o, d, g, w => d = 0 ∧ Way P false Wg i none yes H.sh (WStore P ty Wg C n k (fun v => Tl v H.sh)) o H.ow g w
  | .r0 v, o, d, g, w => d = 0 ∧ Tl v H.sh H.ow w ∧ ∃ m, o = Od.nat m ∧ Goes P false (RW ty Wg C n 0 k) (DWs Wg no2 no2 C n (k + 1)) (AtR0 P ty Wg C n 0 (k + 1) v) m g w
  | .k1 v, o, d, g, w => d = 0 ∧ Tl v H.sh H.ow w ∧ Has C k v w ∧ ∃ m, o = Od.nat m ∧ Goes P false (RW ty Wg C n 0 k) DC0 (AtK1 P ty Wg C n 0 (k + 1)) m g w
  | .d1 v, o, d, g, w => d = 1 ∧ Tl v H.sh H.ow w ∧ Has C k v w ∧ ∃ m, o = Od.nat m ∧ Goes P false (RW ty Wg C n 0 k) DC0 (AtD1 P ty Wg C n 0 (k + 1)) m g w
  | .d2 v, o, d, g, w => d = 1 ∧ Tl v H.sh H.ow w ∧ Has C k v w ∧ ∃ m, o = Od.nat m ∧ Goes P false (RW ty Wg C n 0 k) DC0 (AtD2 P ty Wg C n 0 (k + 1)) m g w
  | .d3 v, o, d, g, w => d = 1 ∧ Tl v H.sh H.ow w ∧ Has C k v w ∧ ∃ m, o = Od.nat m ∧ Goes P false (RW ty Wg C n 0 k) DC0 (AtD3 P ty Wg C n 0 (k + 1)) m g w
  | .d4 v, o, d, g, w => d = 1 ∧ Tl v H.sh H.ow w ∧ Has C k v w ∧ ∃ m, o = Od.nat m ∧ Goes P false (RW ty Wg C n 0 k) DC0 (AtD4 P ty Wg) m g w
  | .qt v, o, d, g, w => Tl v H.sh H.ow w ∧ Has C k v w ∧ ∃ m, o = Od.nat m ∧ QuitsD P m d g
end
section
variable {P ty Wg C n} {i k c : Nat} {z : Value} {H : Hold} {Tl : Value → (Nat → Prop) → (Nat → Prop) → World → Prop}
theorem WNext.suf {vs : List Value} {g₂ g g' : Goroutine} {Ow : Nat → Prop} {w w₁ : World} {Sh : Nat → Prop} {T2 : Value → (Nat → Prop) → World → Prop} (h : WNext P ty Wg C n i k c z Sh T2 vs g₂ Ow g w) (hk : Kept Sh Ow w w₁) : WNext P ty Wg C n i k c z Sh T2 vs g₂ Ow g' w₁ := by
  cases vs with
  | nil => obtain ⟨o, ho⟩ := h; exact ⟨o, ho.suf ⟨hk, trivial⟩⟩
  | cons v vs => obtain ⟨o, ho⟩ := h; exact ⟨o, ho.suf ⟨hk, trivial⟩⟩
theorem WSit.suf {tg : WT} {o : Od} {d : Nat} {g : Goroutine} {w w₁ : World} (hTl : ∀ v Sh Ow w w₁, Tl v Sh Ow w → Kept Sh Ow w w₁ → Tl v Sh Ow w₁) (h : WSit P ty Wg C n i k c z H Tl tg o d g w) (hk : Kept H.sh H.ow w w₁) (hl : WgLive ty Wg w₁) (hp : PayAt C n w₁) (hc : w₁.cell? ⟨C, k, none⟩ = w.cell? ⟨C, k, none⟩) :
    WSit P ty Wg C n i k c z H Tl tg o d g w₁ := by
  have hh : ∀ v, Has C k v w → Has C k v w₁ := fun v x => hc.trans x
  have tr : ∀ a b c, RW ty Wg C n 0 k a b → RW ty Wg C n 0 k b c → RW ty Wg C n 0 k a c := fun _ _ _ h1 h2 => h1.trans h2
  have hr : RW ty Wg C n 0 k w w₁ := ⟨fun b hb => absurd hb (Nat.not_lt_zero b), fun _ => hl, fun _ => hp, hc⟩
  cases tg with
  | rc vs => exact ⟨h.1, h.2.suf ⟨hk, trivial⟩⟩
  | pk vs =>
    obtain ⟨h1, h2, g₂, h3, h4, h5, h6⟩ := h
    exact ⟨h1, h2, g₂, h3, h4, h5, h6.suf hk⟩
  | st => exact ⟨h.1, h.2.suf ⟨hk, trivial⟩⟩
  | r0 v => exact ⟨h.1, hTl _ _ _ _ _ h.2.1 hk, let ⟨m, h1, h2⟩ := h.2.2; ⟨m, h1, h2.rely tr hr⟩⟩
  | k1 v => exact ⟨h.1, hTl _ _ _ _ _ h.2.1 hk, hh v h.2.2.1, let ⟨m, h1, h2⟩ := h.2.2.2; ⟨m, h1, h2.rely tr hr⟩⟩
  | d1 v => exact ⟨h.1, hTl _ _ _ _ _ h.2.1 hk, hh v h.2.2.1, let ⟨m, h1, h2⟩ := h.2.2.2; ⟨m, h1, h2.rely tr hr⟩⟩
  | d2 v => exact ⟨h.1, hTl _ _ _ _ _ h.2.1 hk, hh v h.2.2.1, let ⟨m, h1, h2⟩ := h.2.2.2; ⟨m, h1, h2.rely tr hr⟩⟩
  | d3 v => exact ⟨h.1, hTl _ _ _ _ _ h.2.1 hk, hh v h.2.2.1, let ⟨m, h1, h2⟩ := h.2.2.2; ⟨m, h1, h2.rely tr hr⟩⟩
  | d4 v => exact ⟨h.1, hTl _ _ _ _ _ h.2.1 hk, hh v h.2.2.1, let ⟨m, h1, h2⟩ := h.2.2.2; ⟨m, h1, h2.rely tr hr⟩⟩
  | qt v => exact ⟨hTl _ _ _ _ _ h.1 hk, hh v h.2.1, h.2.2⟩
end
theorem Way.running {P : Program} {main : Bool} {Wg k : Nat} {X : Option (Nat × Nat)} {I : World → Prop} {Sh : Nat → Prop} {Stop : Stp} {o : Od} {Ow : Nat → Prop} {g : Goroutine} {w : World} (h : Way P main Wg k X I Sh Stop o Ow g w) (hI : I w) (hs : ∀ Ow g w, Stop Ow g w → g.status = .running) : g.status = .running := by
  cases o with
  | leaf => exact hs _ _ _ (h w ⟨Kept.refl _ _ _, hI⟩)
  | mk f => exact h.1
section
variable {P ty Wg C n} {i k c : Nat} {z : Value} {H : Hold} {Tl : Value → (Nat → Prop) → (Nat → Prop) → World → Prop}
theorem WRecv.running {vs : List Value} {Ow Sh : Nat → Prop} {g : Goroutine} {w : World} {T2 : Value → (Nat → Prop) → World → Prop} (h : WRecv P ty Wg C n i k c z Sh T2 vs Ow g w) : g.status = .running := (WRecv.next P ty Wg C n i k c z Sh T2 h).1
theorem WSit.status {tg : WT} {o : Od} {d : Nat} {g : Goroutine} {w : World} (h : WSit P ty Wg C n i k c z H Tl tg o d g w) :
    (tg.isPk = false ∧ (g.status = .running ∨ (tg.stage = 1 ∧ g.status = .finished))) ∨ (∃ vs g₂, tg = .pk vs ∧ g = parked g₂ #[rcase c z] (.recv true)) := by
  cases tg with
  | rc vs => exact .inl ⟨rfl, .inl (h.2.running trivial fun _ _ _ x => WRecv.running x)⟩
  | pk vs => obtain ⟨_, _, g₂, e, _⟩ := h; exact .inr ⟨vs, g₂, rfl, e⟩
  | st => exact .inl ⟨rfl, .inl (h.2.running trivial fun _ _ _ x => x.1)⟩
  | r0 v => exact .inl ⟨rfl, .inl (let ⟨_, _, h2⟩ := h.2.2; Goes.running (fun _ _ x => x.1) w (RW.refl w) h2)⟩
  | k1 v => exact .inl ⟨rfl, .inl (let ⟨_, _, h2⟩ := h.2.2.2; Goes.running (fun _ _ x => x.1) w (RW.refl w) h2)⟩
  | d1 v => exact .inl ⟨rfl, .inl (let ⟨_, _, h2⟩ := h.2.2.2; Goes.running (fun _ _ x => x.1) w (RW.refl w) h2)⟩
  | d2 v => exact .inl ⟨rfl, .inl (let ⟨_, _, h2⟩ := h.2.2.2; Goes.running (fun _ _ x => x.1) w (RW.refl w) h2)⟩
  | d3 v => exact .inl ⟨rfl, .inl (let ⟨_, _, h2⟩ := h.2.2.2; Goes.running (fun _ _ x => x.1) w (RW.refl w) h2)⟩
  | d4 v => exact .inl ⟨rfl, .inl (let ⟨_, _, h2⟩ := h.2.2.2; Goes.running (fun _ _ x => x.1) w (RW.refl w) h2)⟩
  | qt v => obtain ⟨_, _, m, _, hq⟩ := h; exact .inl ⟨rfl, hq.status.imp id fun x => ⟨rfl, x⟩⟩
end
section
variable (gA gK : Goroutine → Prop) (Fx : (Nat → Prop) → (Nat → Prop) → World → Prop) (q cap : Nat) (z : Value) (Tl : Nat → Value → (Nat → Prop) → (Nat → Prop) → World → Prop) (l0 : List (Nat × Value)) (H : Hold) (cs : List Nat)
def Snap (w : World) : Prop := ∃ w₀, Fx H.sh H.ow w₀ ∧ Kept H.sh H.ow w₀ w
def MSit : MT → Od → Nat → Goroutine → World → Prop
  | .kdS r, o, d, g, w => d = 0 ∧ cs.length + (r + 1) = n ∧ Way P true Wg 0 none (I0 ty Wg) H.sh (MKdS P ty Wg C n q cap z Tl (left l0) (MSpawn P ty Wg C n gA Fx q cap z Tl (left l0) l0 r) H.sh cs) o H.ow g w
  | .a1 r, o, d, g, w => d = 1 ∧ cs.length + (r + 1) = n ∧ ∃ m, o = Od.nat m ∧ Gm P ty Wg H.sh H.ow (MA1 P ty Wg C n q cap z Tl (left l0) (MSpawn P ty Wg C n gA Fx q cap z Tl (left l0) l0 r) H.sh cs H.ow) m g w
  | .keS r, o, d, g, w => d = 1 ∧ cs.length + (r + 1) = n ∧ ∃ m, o = Od.nat m ∧ Gm P ty Wg H.sh H.ow (MKeS P ty Wg C n q cap z Tl (left l0) (MSpawn P ty Wg C n gA Fx q cap z Tl (left l0) l0 r) H.sh cs H.ow) m g w
  | .go r, o, d, g, w => d = 0 ∧ cs.length + (r + 1) = n ∧ Way P true Wg 0 none (I0 ty Wg) H.sh (MGo P ty Wg C n q cap z Tl (left l0) (MSpawn P ty Wg C n gA Fx q cap z Tl (left l0) l0 r) H.sh cs) o H.ow g w
  | .sd l, o, d, g, w => d = 0 ∧ cs.length = n ∧ Way P true Wg 0 none (I0 ty Wg) H.sh (MSend P ty Wg H.sh gA Fx cs l) o H.ow g w
  | .cl l, o, d, g, w => d = 0 ∧ cs.length = n ∧ (∃ l1, cs = l1 ++ l) ∧ Way P true Wg 0 none (I0 ty Wg) H.sh (MClose P ty Wg H.sh gA Fx l) o H.ow g w
  | .kd, o, d, g, w => d = 0 ∧ cs.length = n ∧ Way P true Wg 0 none (I0 ty Wg) H.sh (MKd P ty Wg H.sh gA Fx) o H.ow g w
  | .an, o, d, g, w => d = 1 ∧ cs.length = n ∧ Snap Fx H w ∧ ∃ m, o = Od.nat m ∧ Gm P ty Wg H.sh H.ow (fun g _ => gA g) m g w
  | .w1, o, d, g, w => d = 1 ∧ cs.length = n ∧ Snap Fx H w ∧ ∃ m, o = Od.nat m ∧ Gm P ty Wg H.sh H.ow (MW1 P ty Wg H.sh H.ow gA gK) m g w
  | .w2 vs, o, d, g, w => d = 1 ∧ cs.length = n ∧ Snap Fx H w ∧ ∃ m, o = Od.nat m ∧ Gm P ty Wg H.sh H.ow (MW2 P ty Wg H.sh H.ow gA gK vs) m g w
  | .w3, o, d, g, w => d = 1 ∧ cs.length = n ∧ Snap Fx H w ∧ ∃ m, o = Od.nat m ∧ Gm P ty Wg H.sh H.ow (MW3 P ty Wg H.sh H.ow gK) m g w
  | .bk, o, d, g, w => d = 1 ∧ cs.length = n ∧ Snap Fx H w ∧ ∃ g₀, g = { g₀ with status := .blocked } ∧ g₀.status = .running ∧ g₀.offers = none ∧ ∃ m, o = Od.nat m ∧ Gm P ty Wg H.sh H.ow (MW3 P ty Wg H.sh H.ow gK) m g₀ w
  | .w4, o, d, g, w => d = 1 ∧ cs.length = n ∧ Snap Fx H w ∧ ∃ m, o = Od.nat m ∧ Gm P ty Wg H.sh H.ow (MW4 P ty Wg H.sh H.ow gK) m g w
  | .ke, o, d, g, w => d = 1 ∧ cs.length = n ∧ Snap Fx H w ∧ ∃ m, o = Od.nat m ∧ Gm P ty Wg H.sh H.ow (MKe P ty Wg H.sh H.ow gK) m g w
  | .aq, o, d, g, w => d = 0 ∧ cs.length = n ∧ Snap Fx H w ∧ ∃ m, o = Od.nat m ∧ Gm P ty Wg H.sh H.ow (MAcq P Wg gK) m g w
end
section
variable {P ty Wg C n} {gA gK : Goroutine → Prop} {Fx : (Nat → Prop) → (Nat → Prop) → World → Prop} {q cap : Nat} {z : Value} {Tl : Nat → Value → (Nat → Prop) → (Nat → Prop) → World → Prop} {l0 : List (Nat × Value)} {H : Hold} {cs : List Nat}
omit [Payload] in
theorem Snap.suf {w w₁ : World} (h : Snap Fx H w) (hk : Kept H.sh H.ow w w₁) : Snap Fx H w₁ := let ⟨w₀, h1, h2⟩ := h; ⟨w₀, h1, h2.trans hk⟩
theorem MSit.suf {mt : MT} {o : Od} {d : Nat} {g : Goroutine} {w w₁ : World} (h : MSit P ty Wg C n gA gK Fx q cap z Tl l0 H cs mt o d g w) (hk : Kept H.sh H.ow w w₁) (hl : WgLive ty Wg w₁) : MSit P ty Wg C n gA gK Fx q cap z Tl l0 H cs mt o d g w₁ := by
  have hs : Suf H.sh H.ow (I0 ty Wg) w w₁ := ⟨hk, hl⟩
  have tr : ∀ a b c, RM ty Wg H.sh H.ow a b → RM ty Wg H.sh H.ow b c → RM ty Wg H.sh H.ow a c := fun _ _ _ h1 h2 => ⟨h1.kept.trans h2.kept, h2.live ∘ h1.live⟩
  have hr : RM ty Wg H.sh H.ow w w₁ := ⟨hk, fun _ => hl⟩
  cases mt with
  | kdS r => exact ⟨h.1, h.2.1, h.2.2.suf hs⟩
  | a1 r => exact ⟨h.1, h.2.1, let ⟨m, h1, h2⟩ := h.2.2; ⟨m, h1, Goes.rely tr h2 hr⟩⟩
  | keS r => exact ⟨h.1, h.2.1, let ⟨m, h1, h2⟩ := h.2.2; ⟨m, h1, Goes.rely tr h2 hr⟩⟩
  | go r => exact ⟨h.1, h.2.1, h.2.2.suf hs⟩
  | sd l => exact ⟨h.1, h.2.1, h.2.2.suf hs⟩
  | cl l => exact ⟨h.1, h.2.1, h.2.2.1, h.2.2.2.suf hs⟩
  | kd => exact ⟨h.1, h.2.1, h.2.2.suf hs⟩
  | an => exact ⟨h.1, h.2.1, h.2.2.1.suf hk, let ⟨m, h1, h2⟩ := h.2.2.2; ⟨m, h1, Goes.rely tr h2 hr⟩⟩
  | w1 => exact ⟨h.1, h.2.1, h.2.2.1.suf hk, let ⟨m, h1, h2⟩ := h.2.2.2; ⟨m, h1, Goes.rely tr h2 hr⟩⟩
  | w2 vs => exact ⟨h.1, h.2.1, h.2.2.1.suf hk, let ⟨m, h1, h2⟩ := h.2.2.2; ⟨m, h1, Goes.rely tr h2 hr⟩⟩
  | w3 => exact ⟨h.1, h.2.1, h.2.2.1.suf hk, let ⟨m, h1, h2⟩ := h.2.2.2; ⟨m, h1, Goes.rely tr h2 hr⟩⟩
  | bk =>
    obtain ⟨h1, h2, h3, g₀, h5, h6, h7, m, h4, h8⟩ := h
    exact ⟨h1, h2, h3.suf hk, g₀, h5, h6, h7, m, h4, Goes.rely tr h8 hr⟩
  | w4 => exact ⟨h.1, h.2.1, h.2.2.1.suf hk, let ⟨m, h1, h2⟩ := h.2.2.2; ⟨m, h1, Goes.rely tr h2 hr⟩⟩
  | ke => exact ⟨h.1, h.2.1, h.2.2.1.suf hk, let ⟨m, h1, h2⟩ := h.2.2.2; ⟨m, h1, Goes.rely tr h2 hr⟩⟩
  | aq => exact ⟨h.1, h.2.1, h.2.2.1.suf hk, let ⟨m, h1, h2⟩ := h.2.2.2; ⟨m, h1, Goes.rely tr h2 hr⟩⟩
end
end
end Go.Proofs.YtckoipoejaafhaaDoor.Cc
