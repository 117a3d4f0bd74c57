/-
  BYTES THAT ARE ALL THE SAME.
-/
import Derived.Test.YtchbfcegonlhoaaDoorBytes
import Derived.Test.YtchbfcegonlhoaaDoorShaCells
namespace Go.Proofs.YtchbfcegonlhoaaDoor.sha
open Go.RowKit

theorem bounds_u8 {n : Int} (h : (Lit.int .u8 n).wf = true) : 0 ≤ n ∧ n ≤ 255 := by
  simp [Lit.wf, IntKind.min, IntKind.max, IntKind.signed, IntKind.bits] at h
  omega

/-- k bytes x, and noughts behind them, n in all. -/
def filledB (n k : Nat) (x : Int) : List Int := List.replicate k x ++ List.replicate (n - k) 0
theorem filledB_length {n k : Nat} (x : Int) (h : k ≤ n) : (filledB n k x).length = n := by simp [filledB]; omega
theorem filledB_set {n k : Nat} (x : Int) (h : k < n) : (filledB n k x).set k x = filledB n (k + 1) x := by
  unfold filledB
  rw [List.set_append_right _ _ (by simp), List.length_replicate, Nat.sub_self, show n - k = (n - (k + 1)) + 1 by omega, List.replicate_succ, List.set_cons_zero, List.replicate_succ', List.append_assoc]
  rfl
theorem filledB_full (n : Nat) (x : Int) : filledB n n x = List.replicate n x := by simp [filledB]
theorem Byte.many {x : Int} (h : 0 ≤ x ∧ x ≤ 255) (n : Nat) : Byte (List.replicate n x) := fun c hc => by rw [List.eq_of_mem_replicate hc]; omega
end Go.Proofs.YtchbfcegonlhoaaDoor.sha
