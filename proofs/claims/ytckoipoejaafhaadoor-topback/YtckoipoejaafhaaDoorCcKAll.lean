/-
 Texts that stood one behind the other,as one.
-/
import Derived.Test.YtckoipoejaafhaaDoorCcHAll
import Derived.Conc.CrowdInv
import Derived.Conc.CrowdStepW
namespace Go.Proofs.YtckoipoejaafhaaDoor.Cc
open Go Go.Conc
open Go.ConcN (RW DWs CT upd upd_same upd_ne WgLive PayAt Has AtR0 AtK1 AtD1 AtD2 AtD3 AtD4 RelBy Mode CTag WD sumTo sumTo_upd sumTo_congr)
open Go.ConcR (DC0 Payload KK WgAt stA smA rd wr mk)
def Od.nat : Nat -> Od
 | 0 => .leaf
 | n + 1 => .mk fun _ => Od.nat n
theorem Od.nat_sub (m : Nat) (w : World) : Od.Sub (Od.nat m) (Od.nat (m + 1)) := Od.Sub.mk (fun _ => Od.nat m) w
inductive WT where
 | rc (vs : List Value) | pk (vs : List Value) | st | r0 (v : Value) | k1 (v : Value) | d1 (v : Value) | d2 (v : Value) | d3 (v : Value) | d4 (v : Value) | qt (v : Value)
def WT.stage : WT -> Nat
 | .rc _ | .pk _ | .st | .r0 _ => 7
 | .k1 _ => 6
 | .d1 _ => 5
 | .d2 _ => 4
 | .d3 _ => 3
 | .d4 _ => 2
 | .qt _ => 1
def WT.rest : WT -> List Value
 | .rc vs | .pk vs => vs
 | _ => []
def WT.phi : WT -> Nat
 | .rc vs => 3 * vs.length + 13
 | .pk vs => 3 * vs.length + 12
 | .st => 11
 | .r0 _ => 10
 | .k1 _ => 9
 | .d1 _ => 8
 | .d2 _ => 7
 | .d3 _ => 6
 | .d4 _ => 5
 | .qt _ => 4
def WT.isPk : WT -> Bool
 | .pk _ => true
 | _ => false
inductive MT where
 | kdS (r : Nat) | a1 (r : Nat) | keS (r : Nat) | go (r : Nat) | sd (l : List (Nat × Value)) | cl (l : List Nat) | kd | an | w1 | w2 (vs : Nat) | w3 | bk | w4 | ke | aq
def MT.ctag : MT -> CTag
 | .kdS r => .sp r 5
 | .a1 r => .sp r 4
 | .keS r => .sp r 3
 | .go r => .sp r 2
 | .sd _ | .cl _ | .kd => .kd
 | .an => .anch
 | .w1 => .w1
 | .w2 vs => .w2 vs
 | .w3 => .w3
 | .bk => .blk
 | .w4 => .w4
 | .ke => .ke
 | .aq => .acq
def MT.todo (l0 : List (Nat × Value)) : MT -> List (Nat × Value)
 | .kdS _ | .a1 _ | .keS _ | .go _ => l0
 | .sd l => l
 | _ => []
def MT.shut : MT -> Nat -> Bool
 | .kdS _,_ | .a1 _,_ | .keS _,_ | .go _,_ | .sd _,_ => false
 | .cl l,c => !l.contains c
 | _,_ => true
def left (l : List (Nat × Value)) (k : Nat) : List Value := (l.filter fun x => x.1 == k).map (·.2)
def MT.phi (n L v : Nat) : MT -> Nat
 | .kdS r => 11 * n + 20 + L + (3 * L + 20) * (r + 1) + 4
 | .a1 r => 11 * n + 20 + L + (3 * L + 20) * (r + 1) + 3
 | .keS r => 11 * n + 20 + L + (3 * L + 20) * (r + 1) + 2
 | .go r => 11 * n + 20 + L + (3 * L + 20) * (r + 1) + 1
 | .sd l => 9 * n + 15 + 2 * n + l.length
 | .cl l => 9 * n + 15 + 2 * l.length
 | .kd => 9 * n + 14
 | .an => 8 * v + 8
 | .w1 => 8 * v + 7
 | .w2 vs => 8 * vs + 6
 | .w3 | .bk => 5
 | .w4 => 4
 | .ke => 3
 | .aq => 2
def MT.tries : MT -> Nat
 | .w3 => 1
 | _ => 0
section
variable [Payload] (P : Program) (ty : TypeId) (Wg C n : Nat)
section
variable (i k c : Nat) (z : Value) (H : Hold) (Tl : Value -> (Nat -> Prop) -> (Nat -> Prop) -> World -> Prop)
def WSit : WT -> Od -> Nat -> Goroutine -> World -> Prop
 | .rc vs,o,d,g,w => d = 0 /\ Way P false Wg i none yes H.sh (WRecv P ty Wg C n i k c z H.sh (fun v => Tl v H.sh) vs) o H.ow g w
 | .pk vs,o,d,g,w => d = 0 /\ o = .leaf /\ ∃ g₂,g = parked g₂ #[rcase c z] (.recv true) /\ g₂.offers = none /\ (∀ w',stepG P false g₂ w' = .comm g₂ #[rcase c z] true (.recv true) w' #[]) /\ WNext P ty Wg C n i k c z H.sh (fun v => Tl v H.sh) vs g₂ H.ow g w
 | .st,o,d,g,w => d = 0 /\ Way P false Wg i none yes H.sh (WStore P ty Wg C n k (fun v => Tl v H.sh)) o H.ow g w
 | .r0 v,o,d,g,w => d = 0 /\ Tl v H.sh H.ow w /\ ∃ m,o = Od.nat m /\ Goes P false (RW ty Wg C n 0 k) (DWs Wg no2 no2 C n (k + 1)) (AtR0 P ty Wg C n 0 (k + 1) v) m g w
 | .k1 v,o,d,g,w => d = 0 /\ Tl v H.sh H.ow w /\ Has C k v w /\ ∃ m,o = Od.nat m /\ Goes P false (RW ty Wg C n 0 k) DC0 (AtK1 P ty Wg C n 0 (k + 1)) m g w
 | .d1 v,o,d,g,w => d = 1 /\ Tl v H.sh H.ow w /\ Has C k v w /\ ∃ m,o = Od.nat m /\ Goes P false (RW ty Wg C n 0 k) DC0 (AtD1 P ty Wg C n 0 (k + 1)) m g w
 | .d2 v,o,d,g,w => d = 1 /\ Tl v H.sh H.ow w /\ Has C k v w /\ ∃ m,o = Od.nat m /\ Goes P false (RW ty Wg C n 0 k) DC0 (AtD2 P ty Wg C n 0 (k + 1)) m g w
 | .d3 v,o,d,g,w => d = 1 /\ Tl v H.sh H.ow w /\ Has C k v w /\ ∃ m,o = Od.nat m /\ Goes P false (RW ty Wg C n 0 k) DC0 (AtD3 P ty Wg C n 0 (k + 1)) m g w
 | .d4 v,o,d,g,w => d = 1 /\ Tl v H.sh H.ow w /\ Has C k v w /\ ∃ m,o = Od.nat m /\ Goes P false (RW ty Wg C n 0 k) DC0 (AtD4 P ty Wg) m g w
 | .qt v,o,d,g,w => Tl v H.sh H.ow w /\ Has C k v w /\ ∃ m,o = Od.nat m /\ QuitsD P m d g
end
section
variable {P ty Wg C n} {i k c : Nat} {z : Value} {H : Hold} {Tl : Value -> (Nat -> Prop) -> (Nat -> Prop) -> World -> Prop}
theorem WNext.suf {vs : List Value} {g₂ g g' : Goroutine} {Ow : Nat -> Prop} {w w₁ : World} {Sh : Nat -> Prop} {T2 : Value -> (Nat -> Prop) -> World -> Prop} (h : WNext P ty Wg C n i k c z Sh T2 vs g₂ Ow g w) (hk : Kept Sh Ow w w₁) : WNext P ty Wg C n i k c z Sh T2 vs g₂ Ow g' w₁ := by
 cases vs with
 | nil => obtain ⟨o,ho⟩ := h; exact ⟨o,ho.suf ⟨hk,trivial⟩⟩
 | cons v vs => obtain ⟨o,ho⟩ := h; exact ⟨o,ho.suf ⟨hk,trivial⟩⟩
theorem WSit.suf {tg : WT} {o : Od} {d : Nat} {g : Goroutine} {w w₁ : World} (hTl : ∀ v Sh Ow w w₁,Tl v Sh Ow w -> Kept Sh Ow w w₁ -> Tl v Sh Ow w₁) (h : WSit P ty Wg C n i k c z H Tl tg o d g w) (hk : Kept H.sh H.ow w w₁) (hl : WgLive ty Wg w₁) (hp : PayAt C n w₁) (hc : w₁.cell? ⟨C,k,none⟩ = w.cell? ⟨C,k,none⟩) :
   WSit P ty Wg C n i k c z H Tl tg o d g w₁ := by
 have hh : ∀ v,Has C k v w -> Has C k v w₁ := fun v x => hc.trans x
 have tr : ∀ a b c,RW ty Wg C n 0 k a b -> RW ty Wg C n 0 k b c -> RW ty Wg C n 0 k a c := fun _ _ _ h1 h2 => h1.trans h2
 have hr : RW ty Wg C n 0 k w w₁ := ⟨fun b hb => absurd hb (Nat.not_lt_zero b),fun _ => hl,fun _ => hp,hc⟩
 cases tg with
 | rc vs => exact ⟨h.1,h.2.suf ⟨hk,trivial⟩⟩
 | pk vs =>
   obtain ⟨h1,h2,g₂,h3,h4,h5,h6⟩ := h
   exact ⟨h1,h2,g₂,h3,h4,h5,h6.suf hk⟩
 | st => exact ⟨h.1,h.2.suf ⟨hk,trivial⟩⟩
 | r0 v => exact ⟨h.1,hTl _ _ _ _ _ h.2.1 hk,let ⟨m,h1,h2⟩ := h.2.2; ⟨m,h1,h2.rely tr hr⟩⟩
 | k1 v => exact ⟨h.1,hTl _ _ _ _ _ h.2.1 hk,hh v h.2.2.1,let ⟨m,h1,h2⟩ := h.2.2.2; ⟨m,h1,h2.rely tr hr⟩⟩
 | d1 v => exact ⟨h.1,hTl _ _ _ _ _ h.2.1 hk,hh v h.2.2.1,let ⟨m,h1,h2⟩ := h.2.2.2; ⟨m,h1,h2.rely tr hr⟩⟩
 | d2 v => exact ⟨h.1,hTl _ _ _ _ _ h.2.1 hk,hh v h.2.2.1,let ⟨m,h1,h2⟩ := h.2.2.2; ⟨m,h1,h2.rely tr hr⟩⟩
 | d3 v => exact ⟨h.1,hTl _ _ _ _ _ h.2.1 hk,hh v h.2.2.1,let ⟨m,h1,h2⟩ := h.2.2.2; ⟨m,h1,h2.rely tr hr⟩⟩
 | d4 v => exact ⟨h.1,hTl _ _ _ _ _ h.2.1 hk,hh v h.2.2.1,let ⟨m,h1,h2⟩ := h.2.2.2; ⟨m,h1,h2.rely tr hr⟩⟩
 | qt v => exact ⟨hTl _ _ _ _ _ h.1 hk,hh v h.2.1,h.2.2⟩
end
theorem Way.running {P : Program} {main : Bool} {Wg k : Nat} {X : Option (Nat × Nat)} {I : World -> Prop} {Sh : Nat -> Prop} {Stop : Stp} {o : Od} {Ow : Nat -> Prop} {g : Goroutine} {w : World} (h : Way P main Wg k X I Sh Stop o Ow g w) (hI : I w) (hs : ∀ Ow g w,Stop Ow g w -> g.status = .running) : g.status = .running := by
 cases o with
 | leaf => exact hs _ _ _ (h w ⟨Kept.refl _ _ _,hI⟩)
 | mk f => exact h.1
section
variable {P ty Wg C n} {i k c : Nat} {z : Value} {H : Hold} {Tl : Value -> (Nat -> Prop) -> (Nat -> Prop) -> World -> Prop}
theorem WRecv.running {vs : List Value} {Ow Sh : Nat -> Prop} {g : Goroutine} {w : World} {T2 : Value -> (Nat -> Prop) -> World -> Prop} (h : WRecv P ty Wg C n i k c z Sh T2 vs Ow g w) : g.status = .running := (WRecv.next P ty Wg C n i k c z Sh T2 h).1
theorem WSit.status {tg : WT} {o : Od} {d : Nat} {g : Goroutine} {w : World} (h : WSit P ty Wg C n i k c z H Tl tg o d g w) :
   (tg.isPk = false /\ (g.status = .running \/ (tg.stage = 1 /\ g.status = .finished))) \/ (∃ vs g₂,tg = .pk vs /\ g = parked g₂ #[rcase c z] (.recv true)) := by
 cases tg with
 | rc vs => exact .inl ⟨rfl,.inl (h.2.running trivial fun _ _ _ x => WRecv.running x)⟩
 | pk vs => obtain ⟨_,_,g₂,e,_⟩ := h; exact .inr ⟨vs,g₂,rfl,e⟩
 | st => exact .inl ⟨rfl,.inl (h.2.running trivial fun _ _ _ x => x.1)⟩
 | r0 v => exact .inl ⟨rfl,.inl (let ⟨_,_,h2⟩ := h.2.2; Goes.running (fun _ _ x => x.1) w (RW.refl w) h2)⟩
 | k1 v => exact .inl ⟨rfl,.inl (let ⟨_,_,h2⟩ := h.2.2.2; Goes.running (fun _ _ x => x.1) w (RW.refl w) h2)⟩
 | d1 v => exact .inl ⟨rfl,.inl (let ⟨_,_,h2⟩ := h.2.2.2; Goes.running (fun _ _ x => x.1) w (RW.refl w) h2)⟩
 | d2 v => exact .inl ⟨rfl,.inl (let ⟨_,_,h2⟩ := h.2.2.2; Goes.running (fun _ _ x => x.1) w (RW.refl w) h2)⟩
 | d3 v => exact .inl ⟨rfl,.inl (let ⟨_,_,h2⟩ := h.2.2.2; Goes.running (fun _ _ x => x.1) w (RW.refl w) h2)⟩
 | d4 v => exact .inl ⟨rfl,.inl (let ⟨_,_,h2⟩ := h.2.2.2; Goes.running (fun _ _ x => x.1) w (RW.refl w) h2)⟩
 | qt v => obtain ⟨_,_,m,_,hq⟩ := h; exact .inl ⟨rfl,hq.status.imp id fun x => ⟨rfl,x⟩⟩
end
section
variable (gA gK : Goroutine -> Prop) (Fx : (Nat -> Prop) -> (Nat -> Prop) -> World -> Prop) (q cap : Nat) (z : Value) (Tl : Nat -> Value -> (Nat -> Prop) -> (Nat -> Prop) -> World -> Prop) (l0 : List (Nat × Value)) (H : Hold) (cs : List Nat)
def Snap (w : World) : Prop := ∃ w₀,Fx H.sh H.ow w₀ /\ Kept H.sh H.ow w₀ w
def MSit : MT -> Od -> Nat -> Goroutine -> World -> Prop
 | .kdS r,o,d,g,w => d = 0 /\ cs.length + (r + 1) = n /\ Way P true Wg 0 none (I0 ty Wg) H.sh (MKdS P ty Wg C n q cap z Tl (left l0) (MSpawn P ty Wg C n gA Fx q cap z Tl (left l0) l0 r) H.sh cs) o H.ow g w
 | .a1 r,o,d,g,w => d = 1 /\ cs.length + (r + 1) = n /\ ∃ m,o = Od.nat m /\ Gm P ty Wg H.sh H.ow (MA1 P ty Wg C n q cap z Tl (left l0) (MSpawn P ty Wg C n gA Fx q cap z Tl (left l0) l0 r) H.sh cs H.ow) m g w
 | .keS r,o,d,g,w => d = 1 /\ cs.length + (r + 1) = n /\ ∃ m,o = Od.nat m /\ Gm P ty Wg H.sh H.ow (MKeS P ty Wg C n q cap z Tl (left l0) (MSpawn P ty Wg C n gA Fx q cap z Tl (left l0) l0 r) H.sh cs H.ow) m g w
 | .go r,o,d,g,w => d = 0 /\ cs.length + (r + 1) = n /\ Way P true Wg 0 none (I0 ty Wg) H.sh (MGo P ty Wg C n q cap z Tl (left l0) (MSpawn P ty Wg C n gA Fx q cap z Tl (left l0) l0 r) H.sh cs) o H.ow g w
 | .sd l,o,d,g,w => d = 0 /\ cs.length = n /\ Way P true Wg 0 none (I0 ty Wg) H.sh (MSend P ty Wg H.sh gA Fx cs l) o H.ow g w
 | .cl l,o,d,g,w => d = 0 /\ cs.length = n /\ (∃ l1,cs = l1 ++ l) /\ Way P true Wg 0 none (I0 ty Wg) H.sh (MClose P ty Wg H.sh gA Fx l) o H.ow g w
 | .kd,o,d,g,w => d = 0 /\ cs.length = n /\ Way P true Wg 0 none (I0 ty Wg) H.sh (MKd P ty Wg H.sh gA Fx) o H.ow g w
 | .an,o,d,g,w => d = 1 /\ cs.length = n /\ Snap Fx H w /\ ∃ m,o = Od.nat m /\ Gm P ty Wg H.sh H.ow (fun g _ => gA g) m g w
 | .w1,o,d,g,w => d = 1 /\ cs.length = n /\ Snap Fx H w /\ ∃ m,o = Od.nat m /\ Gm P ty Wg H.sh H.ow (MW1 P ty Wg H.sh H.ow gA gK) m g w
 | .w2 vs,o,d,g,w => d = 1 /\ cs.length = n /\ Snap Fx H w /\ ∃ m,o = Od.nat m /\ Gm P ty Wg H.sh H.ow (MW2 P ty Wg H.sh H.ow gA gK vs) m g w
 | .w3,o,d,g,w => d = 1 /\ cs.length = n /\ Snap Fx H w /\ ∃ m,o = Od.nat m /\ Gm P ty Wg H.sh H.ow (MW3 P ty Wg H.sh H.ow gK) m g w
 | .bk,o,d,g,w => d = 1 /\ cs.length = n /\ Snap Fx H w /\ ∃ g₀,g = { g₀ with status := .blocked } /\ g₀.status = .running /\ g₀.offers = none /\ ∃ m,o = Od.nat m /\ Gm P ty Wg H.sh H.ow (MW3 P ty Wg H.sh H.ow gK) m g₀ w
 | .w4,o,d,g,w => d = 1 /\ cs.length = n /\ Snap Fx H w /\ ∃ m,o = Od.nat m /\ Gm P ty Wg H.sh H.ow (MW4 P ty Wg H.sh H.ow gK) m g w
 | .ke,o,d,g,w => d = 1 /\ cs.length = n /\ Snap Fx H w /\ ∃ m,o = Od.nat m /\ Gm P ty Wg H.sh H.ow (MKe P ty Wg H.sh H.ow gK) m g w
 | .aq,o,d,g,w => d = 0 /\ cs.length = n /\ Snap Fx H w /\ ∃ m,o = Od.nat m /\ Gm P ty Wg H.sh H.ow (MAcq P Wg gK) m g w
end
section
variable {P ty Wg C n} {gA gK : Goroutine -> Prop} {Fx : (Nat -> Prop) -> (Nat -> Prop) -> World -> Prop} {q cap : Nat} {z : Value} {Tl : Nat -> Value -> (Nat -> Prop) -> (Nat -> Prop) -> World -> Prop} {l0 : List (Nat × Value)} {H : Hold} {cs : List Nat}
omit [Payload] in
theorem Snap.suf {w w₁ : World} (h : Snap Fx H w) (hk : Kept H.sh H.ow w w₁) : Snap Fx H w₁ := let ⟨w₀,h1,h2⟩ := h; ⟨w₀,h1,h2.trans hk⟩
theorem MSit.suf {mt : MT} {o : Od} {d : Nat} {g : Goroutine} {w w₁ : World} (h : MSit P ty Wg C n gA gK Fx q cap z Tl l0 H cs mt o d g w) (hk : Kept H.sh H.ow w w₁) (hl : WgLive ty Wg w₁) : MSit P ty Wg C n gA gK Fx q cap z Tl l0 H cs mt o d g w₁ := by
 have hs : Suf H.sh H.ow (I0 ty Wg) w w₁ := ⟨hk,hl⟩
 have tr : ∀ a b c,RM ty Wg H.sh H.ow a b -> RM ty Wg H.sh H.ow b c -> RM ty Wg H.sh H.ow a c := fun _ _ _ h1 h2 => ⟨h1.kept.trans h2.kept,h2.live ∘ h1.live⟩
 have hr : RM ty Wg H.sh H.ow w w₁ := ⟨hk,fun _ => hl⟩
 cases mt with
 | kdS r => exact ⟨h.1,h.2.1,h.2.2.suf hs⟩
 | a1 r => exact ⟨h.1,h.2.1,let ⟨m,h1,h2⟩ := h.2.2; ⟨m,h1,Goes.rely tr h2 hr⟩⟩
 | keS r => exact ⟨h.1,h.2.1,let ⟨m,h1,h2⟩ := h.2.2; ⟨m,h1,Goes.rely tr h2 hr⟩⟩
 | go r => exact ⟨h.1,h.2.1,h.2.2.suf hs⟩
 | sd l => exact ⟨h.1,h.2.1,h.2.2.suf hs⟩
 | cl l => exact ⟨h.1,h.2.1,h.2.2.1,h.2.2.2.suf hs⟩
 | kd => exact ⟨h.1,h.2.1,h.2.2.suf hs⟩
 | an => exact ⟨h.1,h.2.1,h.2.2.1.suf hk,let ⟨m,h1,h2⟩ := h.2.2.2; ⟨m,h1,Goes.rely tr h2 hr⟩⟩
 | w1 => exact ⟨h.1,h.2.1,h.2.2.1.suf hk,let ⟨m,h1,h2⟩ := h.2.2.2; ⟨m,h1,Goes.rely tr h2 hr⟩⟩
 | w2 vs => exact ⟨h.1,h.2.1,h.2.2.1.suf hk,let ⟨m,h1,h2⟩ := h.2.2.2; ⟨m,h1,Goes.rely tr h2 hr⟩⟩
 | w3 => exact ⟨h.1,h.2.1,h.2.2.1.suf hk,let ⟨m,h1,h2⟩ := h.2.2.2; ⟨m,h1,Goes.rely tr h2 hr⟩⟩
 | bk =>
   obtain ⟨h1,h2,h3,g₀,h5,h6,h7,m,h4,h8⟩ := h
   exact ⟨h1,h2,h3.suf hk,g₀,h5,h6,h7,m,h4,Goes.rely tr h8 hr⟩
 | w4 => exact ⟨h.1,h.2.1,h.2.2.1.suf hk,let ⟨m,h1,h2⟩ := h.2.2.2; ⟨m,h1,Goes.rely tr h2 hr⟩⟩
 | ke => exact ⟨h.1,h.2.1,h.2.2.1.suf hk,let ⟨m,h1,h2⟩ := h.2.2.2; ⟨m,h1,Goes.rely tr h2 hr⟩⟩
 | aq => exact ⟨h.1,h.2.1,h.2.2.1.suf hk,let ⟨m,h1,h2⟩ := h.2.2.2; ⟨m,h1,Goes.rely tr h2 hr⟩⟩
end
end
end Go.Proofs.YtckoipoejaafhaaDoor.Cc

namespace Go.Proofs.YtckoipoejaafhaaDoor.Cc
open Go Go.Conc
open Go.ConcN (CT upd upd_same upd_ne WgLive PayAt Has AtR0 AtK1 AtD1 AtD2 AtD3 AtD4 RelBy CTag WD Vc cnt sumTo sumTo_upd sumTo_congr get_map_set get_map_set_same)
open Go.ConcR (Payload KK WgAt stA smA rd wr mk)
structure Ph where
 P : Program
 ty : TypeId
 Wg : Nat
 C : Nat
 n : Nat
 q : Nat
 cap : Nat
 gA : Goroutine -> Prop
 gK : Goroutine -> Prop
 Fx : (Nat -> Prop) -> (Nat -> Prop) -> World -> Prop
 z : Value
 Tl : Nat -> Value -> (Nat -> Prop) -> (Nat -> Prop) -> World -> Prop
 l0 : List (Nat × Value)
 Su : Nat -> Prop
 sw : World
def Ph.Sp (p : Ph) (cs : List Nat) (b : Nat) : Prop := b = p.C \/ p.Su b \/ b ∈ cs
def Ph.Cx (p : Ph) (i : Nat) (a : Addr) : Prop := ∃ k,k < p.n /\ i = p.q + 1 + k /\ a = ⟨p.C,k,none⟩
def Dw (wt : Nat -> WT) : Nat -> WD := fun k => ⟨(wt k).stage,0,0⟩
theorem upd_self {α : Type} (f : Nat -> α) (i : Nat) : upd f i (f i) = f := by
 funext a
 unfold upd
 split
 · rename_i h; rw [h]
 · rfl
section
variable [Payload]
def Ph.W (p : Ph) (T : Nat -> Hold) (k c : Nat) : WT -> Od -> Nat -> Goroutine -> World -> Prop := WSit p.P p.ty p.Wg p.C p.n (p.q + 1 + k) k c p.z (T (p.q + 1 + k)) (p.Tl k)
def Ph.M (p : Ph) (T : Nat -> Hold) (cs : List Nat) : MT -> Od -> Nat -> Goroutine -> World -> Prop := MSit p.P p.ty p.Wg p.C p.n p.gA p.gK p.Fx p.q p.cap p.z p.Tl p.l0 (T 0) cs
structure Ph.Ok (p : Ph) : Prop where
 su : p.Su p.Wg
 c : ¬ p.Su p.C
 n : p.n < 2147483647
 tl : ∀ k v Sh Ow w w₁,p.Tl k v Sh Ow w -> Kept Sh Ow w w₁ -> p.Tl k v Sh Ow w₁
 grow : ∀ k v Sh Ow Ow' w,p.Tl k v Sh Ow w -> (∀ b,Ow b -> Ow' b) -> p.Tl k v Sh Ow' w
 cap : p.l0.length <= p.cap
 dest : ∀ x ∈ p.l0,x.1 < p.n
 anch : ∀ g,p.gA g -> ∀ Sh Ow w,WgLive p.ty p.Wg w -> ∃ m,Gm p.P p.ty p.Wg Sh Ow (MW1 p.P p.ty p.Wg Sh Ow p.gA p.gK) m g w
 anchr : ∀ g,p.gA g -> g.status = .running
structure GI (p : Ph) (gs : Array Goroutine) (w : World) (t : Trace) (T : Nat -> Hold) (F : Nat -> Od) (wt : Nat -> WT) (mt : MT) (cs : List Nat) (st sm : Int) (a : Goroutine) : Prop where
 size : gs.size = p.q + 1 + cs.length
 len : cs.length <= p.n
 a0 : gs[0]? = some a
 main : p.M T cs mt (F 0) (Deaf t 0) a w
 old : ∀ i,1 <= i -> i <= p.q -> ∃ g m,gs[i]? = some g /\ QuitsD p.P m (Deaf t i) g /\ F i = Od.nat m
 wk : ∀ k c,cs[k]? = some c -> ∃ g,gs[p.q + 1 + k]? = some g /\ p.W T k c (wt k) (F (p.q + 1 + k)) (Deaf t (p.q + 1 + k)) g w
 tno : ∀ i,(1 <= i /\ i <= p.q) \/ p.q + cs.length < i -> T i = Hold.no
 above : ∀ i,p.q + cs.length < i -> Deaf t i = 0
 blk : Blk T (p.Sp cs) w
 trc : Trc p.q cs.length p.Wg p.Su T p.Cx w.heap.size t
 chan : ∀ k c,cs[k]? = some c -> ∃ buf s r,w.heap[c]? = some (.chan p.cap buf (mt.shut c) s r false) /\ (wt k).rest = buf.toList ++ left (mt.todo p.l0) k /\ ((wt k).isPk = true -> buf = #[] /\ mt.shut c = false)
 short : ∀ k,k < cs.length -> (wt k).rest.length <= p.cap
 nd : cs.Nodup /\ p.C ∉ cs /\ ∀ b ∈ cs,¬ p.Su b
 wg : WgAt p.ty p.Wg w st sm
 mode : Go.ConcN.Mode cs.length (Dw wt) mt.ctag st sm
 pay : PayAt p.C p.n w
 rel : ∀ k,k < cs.length -> (wt k).stage <= 6 -> ∃ r,RelBy (stA p.Wg) t (p.q + 1 + k) r
 sus : (w.os = p.sw.os /\ w.output = p.sw.output) /\ ∀ b,p.Su b -> b ≠ p.Wg -> w.heap[b]? = p.sw.heap[b]?
def meas (p : Ph) (F : Nat -> Od) (wt : Nat -> WT) (mt : MT) (cs : List Nat) : Nat × (Nat -> Od) × Nat := (mt.phi p.n p.l0.length (Vc cs.length (Dw wt)) + sumTo cs.length fun k => (wt k).phi,F,mt.tries)
def Inv (p : Ph) (μ : Nat × (Nat -> Od) × Nat) (m : Machine) (t : Trace) : Prop :=
 ∃ gs w sl T F wt mt cs st sm a,m = crowd gs w sl /\ GI p gs w t T F wt mt cs st sm a /\ μ = meas p F wt mt cs
def Goal (p : Ph) (gs : Array Goroutine) (w : World) (sl : Option (Nat × Nat)) (i : Nat) (t : Trace) (μ : Nat × (Nat -> Od) × Nat) : Prop :=
 ∃ m' ops μ',runT p.P (crowd gs w sl) i = (.next m',ops) /\ Lt3 (p.q + 1 + p.n) μ' μ /\ Inv p μ' m' (t ++ ops)
section
variable {p : Ph} {gs : Array Goroutine} {w w' : World} {t : Trace} {T T' : Nat -> Hold} {F : Nat -> Od} {wt : Nat -> WT} {mt : MT} {cs : List Nat} {st sm : Int} {a : Goroutine} {sl : Option (Nat × Nat)}
omit [Payload] in
theorem phi_mono (n L : Nat) {v v' : Nat} (h : v' <= v) (mt : MT) : mt.phi n L v' <= mt.phi n L v := by
 cases mt <;> simp only [MT.phi] <;> omega
omit [Payload] in
theorem phi_retag (n L v : Nat) {mt mt' : MT} (e : mt' = mt \/ (mt = .bk /\ mt' = .w3)) : mt'.phi n L v = mt.phi n L v := by
 rcases e with rfl | ⟨rfl,rfl⟩ <;> rfl
omit [Payload] in
theorem todo_retag (l : List (Nat × Value)) {mt mt' : MT} (e : mt' = mt \/ (mt = .bk /\ mt' = .w3)) : mt'.todo l = mt.todo l := by
 rcases e with rfl | ⟨rfl,rfl⟩ <;> rfl
omit [Payload] in
theorem shut_retag (c : Nat) {mt mt' : MT} (e : mt' = mt \/ (mt = .bk /\ mt' = .w3)) : mt'.shut c = mt.shut c := by
 rcases e with rfl | ⟨rfl,rfl⟩ <;> rfl
theorem Ph.M.running (ok : p.Ok) {o : Od} {d : Nat} (h : p.M T cs mt o d a w) (hl : WgLive p.ty p.Wg w) : a.status = .running \/ mt = .bk := by
 have rf : RM p.ty p.Wg (T 0).sh (T 0).ow w w := ⟨Kept.refl _ _ _,id⟩
 cases mt with
 | kdS r => exact .inl (h.2.2.running hl fun _ _ _ x => x.1)
 | a1 r => exact .inl (let ⟨_,_,h2⟩ := h.2.2; Goes.running (fun _ _ x => x.1) w rf h2)
 | keS r => exact .inl (let ⟨_,_,h2⟩ := h.2.2; Goes.running (fun _ _ x => x.1) w rf h2)
 | go r => exact .inl (h.2.2.running hl fun _ _ _ x => x.1)
 | sd l =>
   refine .inl (h.2.2.running hl fun _ _ _ x => ?_)
   rcases l with _ | ⟨⟨k,v⟩,l⟩
   · unfold MSend at x
     cases cs with
     | nil => exact x.1
     | cons c cs => exact x.1
   · exact x.1
 | cl l =>
   refine .inl (h.2.2.2.running hl fun _ _ _ x => ?_)
   cases l with
   | nil => exact x.1
   | cons c l => exact x.1
 | kd => exact .inl (h.2.2.running hl fun _ _ _ x => x.1)
 | an => exact .inl (let ⟨_,_,h2⟩ := h.2.2.2; Goes.running (fun g _ x => ok.anchr g x) w rf h2)
 | w1 => exact .inl (let ⟨_,_,h2⟩ := h.2.2.2; Goes.running (fun _ _ x => x.1) w rf h2)
 | w2 vs => exact .inl (let ⟨_,_,h2⟩ := h.2.2.2; Goes.running (fun _ _ x => x.1) w rf h2)
 | w3 => exact .inl (let ⟨_,_,h2⟩ := h.2.2.2; Goes.running (fun _ _ x => x.1) w rf h2)
 | bk => exact .inr rfl
 | w4 => exact .inl (let ⟨_,_,h2⟩ := h.2.2.2; Goes.running (fun _ _ x => x.1) w rf h2)
 | ke => exact .inl (let ⟨_,_,h2⟩ := h.2.2.2; Goes.running (fun _ _ x => x.1) w rf h2)
 | aq => exact .inl (let ⟨_,_,h2⟩ := h.2.2.2; Goes.running (fun _ _ x => x.1) w rf h2)
theorem Ph.M.woken (ok : p.Ok) {o : Od} {d : Nat} (h : p.M T cs mt o d a w) (hl : WgLive p.ty p.Wg w) (g g' : Goroutine) : ∃ mt',p.M T cs mt' o d (woken p.P g g' w a) w /\ (mt' = mt \/ (mt = .bk /\ mt' = .w3)) /\ (mayWake p.P g = true -> g'.status = .running -> mt' ≠ .bk) := by
 rcases h.running ok hl with hr | rfl
 · refine ⟨mt,by rw [woken_run hr]; exact h,.inl rfl,fun _ _ e => ?_⟩
   subst e
   obtain ⟨_,_,_,g₀,e,_⟩ := h
   rw [e] at hr; cases hr
 · have h' := h
   obtain ⟨h1,h2,h3,g₀,h5,h6,h7,m,h4,h8⟩ := h
   unfold Conc.woken
   split
   · refine ⟨.w3,⟨h1,h2,h3,?_⟩,.inr ⟨rfl,rfl⟩,fun _ _ e => by cases e⟩
     have e : a.again w = g₀ := by
       rw [h5]
       unfold Goroutine.again
       obtain ⟨f1,f2,f3,f4,f5⟩ := g₀
       simp only at h6 h7
       subst h6 h7
       rfl
     rw [e]
     exact ⟨m,h4,h8⟩
   · rename_i hc
     refine ⟨.bk,h',.inl rfl,fun hm hs _ => hc ?_⟩
     rw [hm,hs]
     rfl
theorem Ph.W.woken {k c : Nat} {tg : WT} {o : Od} {d : Nat} {x : Goroutine} (h : p.W T k c tg o d x w) (hc : tg.isPk = true -> ∃ cap buf s r tm,w.heap[c]? = some (.chan cap buf false s r tm)) (g g' : Goroutine) : woken p.P g g' w x = x := by
 rcases WSit.status h with ⟨_,h1 | ⟨_,h1⟩⟩ | ⟨vs,g₂,rfl,rfl⟩
 · exact woken_run h1
 · exact Go.Conc.woken_rf (.inr h1)
 · obtain ⟨cap,buf,s,r,tm,hc⟩ := hc rfl
   exact woken_recv_open g g' hc
omit [Payload] in
theorem Ph.Ok.com (ok : p.Ok) (cs : List Nat) : Com (p.Sp cs) p.Su p.Cx := by
 refine ⟨fun b hb => .inr (.inl hb),?_,?_⟩
 · rintro k a ⟨x,_,_,rfl⟩
   exact ⟨.inl rfl,ok.c⟩
 · rintro k k' a ⟨x,_,rfl,rfl⟩ ⟨x',_,rfl,e⟩
   simp only [Addr.mk.injEq,and_true,true_and] at e
   rw [e]
theorem GI.live (h : GI p gs w t T F wt mt cs st sm a) : WgLive p.ty p.Wg w := ⟨_,_,h.wg⟩
theorem GI.goW (ok : p.Ok) (h : GI p gs w t T F wt mt cs st sm a) {k c : Nat} (hk : cs[k]? = some c) {g g' : Goroutine} {es : Array Event} (hg : gs[p.q + 1 + k]? = some g) (hgo : stepG p.P false g w = .go g' w' es)
   (hT' : ∀ i,i ≠ p.q + 1 + k -> T' i = T i) (hkept : ∀ i,i ≠ p.q + 1 + k -> Kept (T i).sh (T i).ow w w') (hblk : Blk T' (p.Sp cs) w') (htrc : Trc p.q cs.length p.Wg p.Su T' p.Cx w'.heap.size (t ++ MemOp.ofEvents (p.q + 1 + k) g.frame.fn g.frame.place es))
   (hsu' : (w'.os = w.os /\ w'.output = w.output) /\ ∀ b,p.Su b -> b ≠ p.Wg -> w'.heap[b]? = w.heap[b]?) (hch : ∀ b ∈ cs,w'.heap[b]? = w.heap[b]?) (hcell : ∀ k',k' ≠ k -> w'.cell? ⟨p.C,k',none⟩ = w.cell? ⟨p.C,k',none⟩) (hpay : PayAt p.C p.n w') {st' sm' : Int} (hwg : WgAt p.ty p.Wg w' st' sm') {tg : WT} {o : Od}
   (hs : p.W T' k c tg o (Deaf (t ++ MemOp.ofEvents (p.q + 1 + k) g.frame.fn g.frame.place es) (p.q + 1 + k)) g' w') (hrest : tg.rest = (wt k).rest) (hpk : tg.isPk = false)
   (hmode : ∀ mt',(mt' = mt \/ (mt = .bk /\ mt' = .w3)) -> (mayWake p.P g = true -> g'.status = .running -> mt' ≠ .bk) -> Go.ConcN.Mode cs.length (Dw (upd wt k tg)) mt'.ctag st' sm')
   (hrel : tg.stage <= 6 -> ∃ r,RelBy (stA p.Wg) (t ++ MemOp.ofEvents (p.q + 1 + k) g.frame.fn g.frame.place es) (p.q + 1 + k) r)
   (hlt : (tg.phi < (wt k).phi /\ tg.stage <= (wt k).stage) \/ (tg = wt k /\ Od.Sub o (F (p.q + 1 + k)))) : Goal p gs w sl (p.q + 1 + k) t (meas p F wt mt cs) := by
 have hkl : k < cs.length := (List.getElem?_eq_some_iff.1 hk).1
 have hrun := runT_crowd_go (P := p.P) (sl := sl) (i := p.q + 1 + k) hg (by rw [show (p.q + 1 + k == 0) = false by simp]; exact hgo)
 have hops : ∀ op ∈ MemOp.ofEvents (p.q + 1 + k) g.frame.fn g.frame.place es,op.g = p.q + 1 + k := fun op hop => by obtain ⟨e,_,rfl⟩ := Go.Conc.mem_ofEvents hop; rfl
 have hdeaf : ∀ i,p.q + 1 + k ≠ i -> Deaf (t ++ MemOp.ofEvents (p.q + 1 + k) g.frame.fn g.frame.place es) i = Deaf t i := fun i hi => Deaf_other t hi _ hops
 have hl' : WgLive p.ty p.Wg w' := ⟨_,_,hwg⟩
 have hm0 : p.M T' cs mt (F 0) (Deaf (t ++ MemOp.ofEvents (p.q + 1 + k) g.frame.fn g.frame.place es) 0) a w' := by
   rw [hdeaf 0 (by omega)]
   unfold Ph.M
   rw [hT' 0 (by omega)]
   exact MSit.suf h.main (hkept 0 (by omega)) hl'
 obtain ⟨mt',hm1,htag,hwk⟩ := hm0.woken ok hl' g g'
 have hupd : ∀ k',k' ≠ k -> upd wt k tg k' = wt k' := fun k' e => upd_ne wt tg e
 have hF : ∀ i,i ≠ p.q + 1 + k -> upd F (p.q + 1 + k) o i = F i := fun i e => upd_ne F o e
 have hstg : ∀ k',(upd wt k tg k').stage <= (wt k').stage := fun k' => by
   by_cases e : k' = k
   · subst e; rw [upd_same]; rcases hlt with x | x
     · exact x.2
     · rw [x.1]; exact Nat.le_refl _
   · rw [hupd k' e]; exact Nat.le_refl _
 refine ⟨_,_,meas p (upd F (p.q + 1 + k) o) (upd wt k tg) mt' cs,hrun,?_,_,w',sl,T',upd F (p.q + 1 + k) o,upd wt k tg,mt',cs,st',sm',woken p.P g g' w' a,rfl,?_,rfl⟩
 · unfold meas
   rw [phi_retag _ _ _ htag]
   have e2 := sumTo_upd wt tg WT.phi hkl
   rcases hlt with ⟨h1,h2⟩ | ⟨h1,h2⟩
   · refine Prod.Lex.left _ _ ?_
     have e1 := sumTo_upd (Dw wt) (⟨tg.stage,0,0⟩ : WD) cnt hkl
     have hd : Dw (upd wt k tg) = upd (Dw wt) k ⟨tg.stage,0,0⟩ := by
       funext x
       unfold Dw
       by_cases e : x = k
       · subst e; rw [upd_same,upd_same]
       · rw [upd_ne _ _ e,upd_ne _ _ e]
     have hc : cnt (⟨tg.stage,0,0⟩ : WD) <= cnt (Dw wt k) := by
       by_cases h5 : 5 <= tg.stage <;> by_cases h6 : 5 <= (wt k).stage <;> simp only [cnt,Dw,h5,h6,if_true,if_false] <;> omega
     have hv : Vc cs.length (Dw (upd wt k tg)) <= Vc cs.length (Dw wt) := by
       rw [hd]
       simp only [Vc]
       omega
     have := phi_mono p.n p.l0.length hv mt
     omega
   · subst h1
     rw [upd_self]
     exact Prod.Lex.right _ (Prod.Lex.left _ _ ⟨p.q + 1 + k,by have := h.len; omega,by rw [upd_same]; exact h2,fun j hj => hF j hj⟩)
 · refine ⟨by simp [h.size],h.len,by rw [get_map_set _ _ _ _ (by omega),h.a0]; rfl,by rw [hF 0 (by omega)]; exact hm1,fun i h1 h2 => ?_,fun k' c' hk' => ?_,fun i hi => ?_,fun i hi => ?_,hblk,htrc,fun k' c' hk' => ?_,fun k' hk' => ?_,h.nd,hwg,hmode mt' htag hwk,hpay,fun k' hk' hs' => ?_,⟨⟨hsu'.1.1.trans h.sus.1.1,hsu'.1.2.trans h.sus.1.2⟩,fun b hb hne => (hsu'.2 b hb hne).trans (h.sus.2 b hb hne)⟩⟩
   · obtain ⟨x,m,e1,e2,e3⟩ := h.old i h1 h2
     refine ⟨x,m,?_,by rw [hdeaf i (by omega)]; exact e2,by rw [hF i (by omega)]; exact e3⟩
     rw [get_map_set _ _ _ _ (by omega),e1]
     simp [woken_quitsD e2]
   · by_cases e : k' = k
     · subst e
       obtain rfl : c' = c := by rw [hk] at hk'; exact (Option.some.inj hk').symm
       exact ⟨g',get_map_set_same _ _ _ (Array.getElem?_eq_some_iff.1 hg).1,by rw [upd_same,upd_same]; exact hs⟩
     · obtain ⟨x,e1,e2⟩ := h.wk k' c' hk'
       have hw : p.W T' k' c' (wt k') (F (p.q + 1 + k')) (Deaf t (p.q + 1 + k')) x w' := by
         unfold Ph.W
         rw [hT' _ (by omega)]
         exact WSit.suf (ok.tl k') e2 (hkept _ (by omega)) hl' hpay (hcell k' e)
       refine ⟨x,?_,by rw [hupd k' e,hF _ (by omega),hdeaf _ (by omega)]; exact hw⟩
       rw [get_map_set _ _ _ _ (by omega),e1]
       obtain ⟨buf,s,r,c1,_,c3⟩ := h.chan k' c' hk'
       simp only [Option.map_some,Option.some.injEq]
       refine hw.woken (fun hp => ?_) g g'
       obtain ⟨rfl,c4⟩ := c3 hp
       rw [c4] at c1
       exact ⟨_,_,_,_,_,(hch c' (List.mem_of_getElem? hk')).trans c1⟩
   · rw [hT' i (by omega)]; exact h.tno i hi
   · rw [hdeaf i (by omega)]; exact h.above i hi
   · obtain ⟨buf,s,r,c1,c2,c3⟩ := h.chan k' c' hk'
     refine ⟨buf,s,r,by rw [shut_retag _ htag]; exact (hch c' (List.mem_of_getElem? hk')).trans c1,?_,?_⟩
     · rw [todo_retag _ htag,<- c2]
       by_cases e : k' = k
       · subst e; rw [upd_same]; exact hrest
       · rw [hupd k' e]
     · rw [shut_retag _ htag]
       by_cases e : k' = k
       · subst e; rw [upd_same,hpk]; intro x; cases x
       · rw [hupd k' e]; exact c3
   · by_cases e : k' = k
     · subst e; rw [upd_same,hrest]; exact h.short k' hk'
     · rw [hupd k' e]; exact h.short k' hk'
   · by_cases e : k' = k
     · subst e; rw [upd_same] at hs'; exact hrel hs'
     · rw [hupd k' e] at hs'
       obtain ⟨r,hr⟩ := h.rel k' hk' hs'
       exact ⟨r,hr.appOther hops (by omega)⟩
theorem GI.goM (ok : p.Ok) (h : GI p gs w t T F wt mt cs st sm a) {g' : Goroutine} {es : Array Event} (hgo : stepG p.P true a w = .go g' w' es)
   (hT' : ∀ i,i ≠ 0 -> T' i = T i) (hkept : ∀ i,i ≠ 0 -> Kept (T i).sh (T i).ow w w') (hblk : Blk T' (p.Sp cs) w') (htrc : Trc p.q cs.length p.Wg p.Su T' p.Cx w'.heap.size (t ++ MemOp.ofEvents 0 a.frame.fn a.frame.place es))
   (hsu' : (w'.os = w.os /\ w'.output = w.output) /\ ∀ b,p.Su b -> b ≠ p.Wg -> w'.heap[b]? = w.heap[b]?) (hch : ∀ b ∈ cs,w'.heap[b]? = w.heap[b]?) (hcell : ∀ k',w'.cell? ⟨p.C,k',none⟩ = w.cell? ⟨p.C,k',none⟩) (hpay : PayAt p.C p.n w') {st' sm' : Int} (hwg : WgAt p.ty p.Wg w' st' sm') {mt' : MT} {o : Od}
   (hs : p.M T' cs mt' o (Deaf (t ++ MemOp.ofEvents 0 a.frame.fn a.frame.place es) 0) g' w') (htodo : mt'.todo p.l0 = mt.todo p.l0) (hshut : ∀ c ∈ cs,mt'.shut c = mt.shut c)
   (hmode : Go.ConcN.Mode cs.length (Dw wt) mt'.ctag st' sm')
   (hlt : mt'.phi p.n p.l0.length (Vc cs.length (Dw wt)) < mt.phi p.n p.l0.length (Vc cs.length (Dw wt)) \/ (mt' = mt /\ Od.Sub o (F 0)) \/ (mt = .w3 /\ mt' = .bk /\ o = F 0)) : Goal p gs w sl 0 t (meas p F wt mt cs) := by
 have hrun := runT_crowd_go (P := p.P) (sl := sl) (i := 0) h.a0 (show stepG p.P (0 == 0) a w = _ from hgo)
 have hops : ∀ op ∈ MemOp.ofEvents 0 a.frame.fn a.frame.place es,op.g = 0 := fun op hop => by obtain ⟨e,_,rfl⟩ := Go.Conc.mem_ofEvents hop; rfl
 have hdeaf : ∀ i,0 ≠ i -> Deaf (t ++ MemOp.ofEvents 0 a.frame.fn a.frame.place es) i = Deaf t i := fun i hi => Deaf_other t hi _ hops
 have hl' : WgLive p.ty p.Wg w' := ⟨_,_,hwg⟩
 have hF : ∀ i,i ≠ 0 -> upd F 0 o i = F i := fun i e => upd_ne F o e
 refine ⟨_,_,meas p (upd F 0 o) wt mt' cs,hrun,?_,_,w',sl,T',upd F 0 o,wt,mt',cs,st',sm',g',rfl,?_,rfl⟩
 · unfold meas
   rcases hlt with h1 | ⟨rfl,h2⟩ | ⟨rfl,rfl,rfl⟩
   · exact Prod.Lex.left _ _ (by omega)
   · exact Prod.Lex.right _ (Prod.Lex.left _ _ ⟨0,by omega,by rw [upd_same]; exact h2,fun j hj => hF j hj⟩)
   · rw [upd_self]
     exact Prod.Lex.right _ (Prod.Lex.right _ (by simp [MT.tries]))
 · refine ⟨by simp [h.size],h.len,get_map_set_same _ _ _ (Array.getElem?_eq_some_iff.1 h.a0).1,by rw [upd_same]; exact hs,fun i h1 h2 => ?_,fun k' c' hk' => ?_,fun i hi => ?_,fun i hi => ?_,hblk,htrc,fun k' c' hk' => ?_,h.short,h.nd,hwg,hmode,hpay,fun k' hk' hs' => ?_,⟨⟨hsu'.1.1.trans h.sus.1.1,hsu'.1.2.trans h.sus.1.2⟩,fun b hb hne => (hsu'.2 b hb hne).trans (h.sus.2 b hb hne)⟩⟩
   · obtain ⟨x,m,e1,e2,e3⟩ := h.old i h1 h2
     refine ⟨x,m,?_,by rw [hdeaf i (by omega)]; exact e2,by rw [hF i (by omega)]; exact e3⟩
     rw [get_map_set _ _ _ _ (by omega),e1]
     simp [woken_quitsD e2]
   · obtain ⟨x,e1,e2⟩ := h.wk k' c' hk'
     have hw : p.W T' k' c' (wt k') (F (p.q + 1 + k')) (Deaf t (p.q + 1 + k')) x w' := by
       unfold Ph.W
       rw [hT' _ (by omega)]
       exact WSit.suf (ok.tl k') e2 (hkept _ (by omega)) hl' hpay (hcell k')
     refine ⟨x,?_,by rw [hF _ (by omega),hdeaf _ (by omega)]; exact hw⟩
     rw [get_map_set _ _ _ _ (by omega),e1]
     obtain ⟨buf,s,r,c1,_,c3⟩ := h.chan k' c' hk'
     simp only [Option.map_some,Option.some.injEq]
     refine hw.woken (fun hp => ?_) a g'
     obtain ⟨rfl,c4⟩ := c3 hp
     rw [c4] at c1
     exact ⟨_,_,_,_,_,(hch c' (List.mem_of_getElem? hk')).trans c1⟩
   · rw [hT' i (by omega)]; exact h.tno i hi
   · rw [hdeaf i (by omega)]; exact h.above i hi
   · obtain ⟨buf,s,r,c1,c2,c3⟩ := h.chan k' c' hk'
     rw [htodo,hshut c' (List.mem_of_getElem? hk')]
     exact ⟨buf,s,r,(hch c' (List.mem_of_getElem? hk')).trans c1,c2,c3⟩
   · obtain ⟨r,hr⟩ := h.rel k' hk' hs'
     exact ⟨r,hr.appOther hops (by omega)⟩
end
end
end Go.Proofs.YtckoipoejaafhaaDoor.Cc
