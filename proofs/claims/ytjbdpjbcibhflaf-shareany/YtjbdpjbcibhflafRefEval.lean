/-
  What Eval of package goldref answers: the value of a polynomial at a place.
-/
import Derived.Test.YtjbdpjbcibhflafRef
import Derived.Test.YtjbdpjbcibhflafSl
import Derived.Test.YtjbdpjbcibhflafPure
namespace Go.Proofs.Ytjbdpjbcibhflaf
open Go.RowKit

/-- The first k summands; the k-th power. -/
def evK (xs : List Nat) (x k : Nat) : Nat := (S k (fun i => gf (xs.map toF) i * pw (toF x) i)).val
def pwK (x k : Nat) : Nat := (pw (toF x) k).val
theorem evK_succ (xs : List Nat) (x k : Nat) : fA (evK xs x k) (fM (xs.getD k 0) (pwK x k)) = evK xs x (k + 1) := by
  unfold evK pwK
  rw [S_succ, fA_val, toF_val, toF_fM, toF_val, ← cf_gf]; rfl
theorem pwK_succ (x k : Nat) : fM (pwK x k) x = pwK x (k + 1) := by
  unfold pwK
  rw [fM_val, toF_val, pw_succ]
theorem evK_all (xs : List Nat) (x : Nat) : evK xs x xs.length = pE xs x := by
  unfold evK pE
  rw [evF_S, List.length_map]
theorem evK_lt (xs : List Nat) (x k : Nat) : (evK xs x k : Int) < 18446744069414584321 := lt_int (val_lt _)
theorem pwK_lt (x k : Nat) : (pwK x k : Int) < 18446744069414584321 := lt_int (val_lt _)
theorem pE_lt (xs : List Nat) (x : Nat) : (pE xs x : Int) < 18446744069414584321 := lt_int (val_lt _)

end Go.Proofs.Ytjbdpjbcibhflaf
