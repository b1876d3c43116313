/-
  What Shape of package goldref answers, case by case.
-/
import Derived.Test.YtcaepjmgnoeefabDoorRefShape
namespace Go.Proofs.YtcaepjmgnoeefabDoor
open Go.RowKit

theorem Good_same {zs : List Int} {ds ds' : List Nat} (h : Good zs ds) (h' : Good zs ds') : ds' = ds := by
  have e : ds.map (fun (d : Nat) => (d : Int)) = ds'.map (fun (d : Nat) => (d : Int)) := h.2.2.1.symm.trans h'.2.2.1
  exact (List.map_inj_right (fun a b hab => by omega)).mp e.symm
theorem shape_ok (W : World) (v : Value) (zs : List Int) (ds : List Nat) (h : IsZ W v zs) (hG : Good zs ds) (hn : prd2 ds ≤ 1024) :
    Calls Tryd.prog 14 #[v] W fun e w' => e = .returned (.tuple #[.int .i64 ((prd2 ds : Nat) : Int), .int .i64 0]) ∧ w' = W := by
  refine (ref_Shape W v zs h).mono ?_
  rintro e w' ⟨rfl, ⟨ds', hG', _, rfl⟩ | ⟨ds', hG', hb, _⟩ | ⟨hno', _⟩⟩
  · rw [Good_same hG hG']; exact ⟨rfl, rfl⟩
  · rw [Good_same hG hG'] at hb; omega
  · exact absurd hG (hno' ds)
theorem shape_large (W : World) (v : Value) (zs : List Int) (ds : List Nat) (h : IsZ W v zs) (hG : Good zs ds) (hn : 1024 < prd2 ds) :
    Calls Tryd.prog 14 #[v] W fun e w' => e = .returned (.tuple #[.int .i64 0, .int .i64 2]) ∧ w' = W := by
  refine (ref_Shape W v zs h).mono ?_
  rintro e w' ⟨rfl, ⟨ds', hG', hb, _⟩ | ⟨ds', hG', _, rfl⟩ | ⟨hno', _⟩⟩
  · rw [Good_same hG hG'] at hb; omega
  · exact ⟨rfl, rfl⟩
  · exact absurd hG (hno' ds)
theorem shape_bad (W : World) (v : Value) (zs : List Int) (h : IsZ W v zs) (hno : ∀ ds, ¬ Good zs ds) :
    Calls Tryd.prog 14 #[v] W fun e w' => e = .returned (.tuple #[.int .i64 0, .int .i64 1]) ∧ w' = W := by
  refine (ref_Shape W v zs h).mono ?_
  rintro e w' ⟨rfl, ⟨ds', hG', _, _⟩ | ⟨ds', hG', _, _⟩ | ⟨_, rfl⟩⟩
  · exact absurd hG' (hno ds')
  · exact absurd hG' (hno ds')
  · exact ⟨rfl, rfl⟩

end Go.Proofs.YtcaepjmgnoeefabDoor
