/-
  What rest of package goldkeep answers: the rest of a great number by a small one.
-/
import Derived.Test.YtndmhceampggmafDoorRefGreat
import Derived.Test.YtndmhceampggmafDoorBigP
namespace Go.Proofs.YtndmhceampggmafDoor
open Go.RowKit

set_option maxHeartbeats 1000000 in
theorem keep_rest (w : World) (s : ByteArray) (a : List Nat) (h : Gs s a) (h9 : a.length ≤ 1000000) (m : Nat) (h1 : 1 ≤ m) (hm : m ≤ 1000003) :
    Calls Tryd.prog 25 #[.string s, .int .i64 (m : Int)] w fun e w' => e = .returned (.int .i64 ((val a % m : Nat) : Int)) ∧ w' = w := by
  have hsz := h.size
  have hby : Hid (∀ i, i < a.length → ∀ hs : i < s.size, (s[i]'hs).toNat = 48 + a.getD i 0) := h.byte
  have hdg : Hid (∀ i, a.getD i 0 ≤ 9) := h.dg
  have hstep : Hid (∀ i, i < a.length → (val (a.take i) % m * 10 + a.getD i 0) % m = val (a.take (i + 1)) % m) := fun i hi => by
    rw [val_take_succ a i hi]
    simp [Nat.add_mod, Nat.mul_mod]
  have hend : Hid (val (a.take a.length) = val a) := by show _ = _; rw [List.take_length]
  have h0 : Hid (val (a.take 0) % m = 0) := by show _ = _; rw [List.take_zero, val_nil, Nat.zero_mod]
  have hlt : Hid (∀ i, val (a.take i) % m < m) := fun i => Nat.mod_lt _ (by omega)
  clear h
  generalize hn : a.length = n at *
  clear hn
  go_enter Tryd.func25, Tryd.ntmps25
  go_wp2
  go_loopw [5, 9] (fun vn vi wr => ∃ (i : Nat), i ≤ n ∧ vi = .int .i64 (i : Int) ∧ vn = .int .i64 ((val (a.take i) % m : Nat) : Int) ∧ wr = w)
    (fun _ vi _ => n - (intOf vi).toNat)
  case atStart => exact ⟨0, Nat.zero_le _, rfl, by rw [h0.out]; rfl, rfl⟩
  case round =>
    obtain ⟨i, hi, rfl, rfl, hwr⟩ := hrel
    rw [hwr]
    by_cases hl : i < n
    · have hb := hby.out i hl
      have hd := hdg.out i
      have hs := hstep.out i hl
      have hq := hlt.out i
      generalize val (a.take i) % m = q at *
      generalize a.getD i 0 = d at *
      generalize hq2 : val (a.take (i + 1)) % m = q2 at *
      replace hq2 : Hid _ := hq2
      have hmod : ((q : Int) * 10 + (d : Int)) % (m : Int) = (q2 : Int) := by rw [← hs]; simp
      have hne : (m : Int) ≠ 0 := by omega
      clear hs
      go_wp2
      go_roundw
      case rel => exact ⟨i + 1, by omega, by go_num, by rw [hq2.out, ← hmod, show (48 : Int) + (d : Int) - 48 = (d : Int) by omega], by trivial⟩
      case measure => simp only [intOf]; omega
    · have e : n = i := by omega
      subst e
      rw [hend.out]
      have hnl : ¬ n < n := Nat.lt_irrefl _
      go_wp2
      go_ret
      exact ⟨rfl, rfl⟩

end Go.Proofs.YtndmhceampggmafDoor
