/-
  What shaped of package goldkeep answers: an array of a right shape of at most 64 numbers, the first ones those of a list, in new memory; nothing of other shapes.
-/
import Derived.Test.YtgkepflnnoociagDoorSlMake
import Derived.Test.YtgkepflnnoociagDoorRefShape
import Derived.Test.YtgkepflnnoociagDoorManyN
namespace Go.Proofs.YtgkepflnnoociagDoor
open Go.RowKit

theorem Good_one {zs : List Int} {ds ds' : List Nat} (h : Good zs ds) (h' : Good zs ds') : ds' = ds := by
  have e1 := h.2.2.1
  rw [h'.2.2.1] at e1
  have hinj : ∀ (a b : List Nat), a.map (fun (d : Nat) => (d : Int)) = b.map (fun (d : Nat) => (d : Int)) → a = b := by
    intro a
    induction a with
    | nil => intro b hb; cases b with
      | nil => rfl
      | cons _ _ => simp at hb
    | cons x a ih => intro b hb; cases b with
      | nil => simp at hb
      | cons y b =>
        simp only [List.map_cons, List.cons.injEq] at hb
        have : x = y := by omega
        rw [this, ih b hb.2]
  exact hinj _ _ e1
theorem keep_shaped_no (w : World) (v v' : Value) (zs : List Int) (h : IsZ w v zs) (hno : ∀ ds, Good zs ds → 64 < prd2 ds) :
    Calls Tryd.prog 9 #[v, v'] w fun e w' => e = .returned (.tuple #[.slice none 0 0, .bool false]) ∧ w' = w := by
  have c := ref_Shape w v zs h
  obtain ⟨n, er, hne, c'⟩ : ∃ (n : Nat) (er : Int), (er ≠ 0 ∨ 64 < n) ∧ n ≤ 1024 ∧ Calls Tryd.prog 54 #[v] w fun e w' => e = .returned (.tuple #[.int .i64 (n : Int), .int .i64 er]) ∧ w' = w := by
    by_cases hG : ∃ ds, Good zs ds
    · obtain ⟨ds, hG⟩ := hG
      rcases Nat.lt_or_ge 1024 (prd2 ds) with hn | hn
      · refine ⟨0, 2, .inl (by decide), by omega, c.mono ?_⟩
        rintro e w' ⟨rfl, ⟨ds', hG', hb, _⟩ | ⟨ds', hG', _, rfl⟩ | ⟨hno', _⟩⟩
        · rw [Good_one hG hG'] at hb; omega
        · exact ⟨rfl, rfl⟩
        · exact absurd hG (hno' ds)
      · refine ⟨prd2 ds, 0, .inr (hno ds hG), hn, c.mono ?_⟩
        rintro e w' ⟨rfl, ⟨ds', hG', _, rfl⟩ | ⟨ds', hG', hb, _⟩ | ⟨hno', _⟩⟩
        · rw [Good_one hG hG']; exact ⟨rfl, rfl⟩
        · rw [Good_one hG hG'] at hb; omega
        · exact absurd hG (hno' ds)
    · refine ⟨0, 1, .inl (by decide), by omega, c.mono ?_⟩
      rintro e w' ⟨rfl, ⟨ds', hG', _⟩ | ⟨ds', hG', _⟩ | ⟨_, rfl⟩⟩
      · exact absurd ⟨ds', hG'⟩ hG
      · exact absurd ⟨ds', hG'⟩ hG
      · exact ⟨rfl, rfl⟩
  obtain ⟨hn9, c'⟩ := c'
  clear c h hno
  rcases hne with he | hn
  · have hq : (er != 0) = true := by rw [bne_iff_ne]; exact he
    go_enter Tryd.func9, Tryd.ntmps9
    go_wp2_with (go_at_call 54; refine Calls.mono c' ?_; rintro e w' ⟨rfl, hw⟩; rw [hw]; clear hw)
    go_ret2
    exact ⟨rfl, rfl⟩
  · by_cases he : er = 0
    · subst he
      have hd : decide ((64 : Int) < (n : Int)) = true := decide_eq_true (by omega)
      go_enter Tryd.func9, Tryd.ntmps9
      go_wp2_with (go_at_call 54; refine Calls.mono c' ?_; rintro e w' ⟨rfl, hw⟩; rw [hw]; clear hw)
      go_ret2
      exact ⟨rfl, rfl⟩
    · have hq : (er != 0) = true := by rw [bne_iff_ne]; exact he
      go_enter Tryd.func9, Tryd.ntmps9
      go_wp2_with (go_at_call 54; refine Calls.mono c' ?_; rintro e w' ⟨rfl, hw⟩; rw [hw]; clear hw)
      go_ret2
      exact ⟨rfl, rfl⟩

theorem szd_rangeN {xs : List Nat} {n : Nat} (h : ∀ x ∈ xs, (x : Int) < 18446744073709551616) : ∀ x ∈ szd xs n, (x : Int) < 18446744073709551616 := by
  intro x hx
  rcases List.mem_append.mp hx with h1 | h1
  · exact h x (List.mem_of_mem_take h1)
  · have := List.eq_of_mem_replicate h1
    subst this; decide
set_option maxHeartbeats 1000000 in
theorem keep_shaped_ok (w : World) (v v' : Value) (zs : List Int) (ds xs : List Nat) (h : IsZ w v zs) (h' : IsU w v' xs) (hG : Good zs ds) (hn : prd2 ds ≤ 64) :
    Calls Tryd.prog 9 #[v, v'] w fun e w' => ∃ g, e = .returned (.tuple #[.slice (some ⟨g, 0, none⟩) (prd2 ds) (prd2 ds), .bool true]) ∧ IsU w' (.slice (some ⟨g, 0, none⟩) (prd2 ds) (prd2 ds)) (szd xs (prd2 ds)) ∧ Below w.heap.size w w' := by
  have c' : Calls Tryd.prog 54 #[v] w fun e w' => e = .returned (.tuple #[.int .i64 ((prd2 ds : Nat) : Int), .int .i64 0]) ∧ w' = w := by
    refine (ref_Shape w v zs h).mono ?_
    rintro e w' ⟨rfl, ⟨ds', hG', _, rfl⟩ | ⟨ds', hG', hb, _⟩ | ⟨hno', _⟩⟩
    · rw [Good_one hG hG']; exact ⟨rfl, rfl⟩
    · rw [Good_one hG hG'] at hb; omega
    · exact absurd hG (hno' ds)
  clear h hG
  generalize prd2 ds = n at *
  have hn9 : n ≤ 1000000000 := by omega
  have hW := Below.refl w.heap.size w
  go_enter Tryd.func9, Tryd.ntmps9
  go_wp2_with (first
    | (go_at_call 54; refine Calls.mono c' ?_; rintro e w' ⟨rfl, hw⟩; rw [hw]; clear hw)
    | (at_make; refine wp_make rfl _ _ rfl n rfl rfl hn9 hW ?_; intro w1 hown hb1)
    | (refine wp_copy rfl _ _ rfl _ n _ xs rfl rfl (h'.below hb1) hown hb1 ?_; intro w2 z hown2 hb2; clear hown))
  go_ret2
  exact ⟨_, rfl, IsU.of_owns hown2 (szd_rangeN h'.range), hb2⟩

end Go.Proofs.YtgkepflnnoociagDoor
