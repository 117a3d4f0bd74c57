/-
  CLOSED FACTS: the round numbers and the beginning are the roots of the first primes.
-/
import Derived.Test.YtchbfcegonlhoaaDoorRefRoot
import Derived.Test.YtchbfcegonlhoaaDoorRefDigMath
namespace Go.Proofs.YtchbfcegonlhoaaDoor.sha

theorem prs_len : (prs 312).length = 64 := by decide +kernel
theorem prs_small : ∀ i : Fin 64, 0 < (prs 312).getD i.val 0 ∧ (prs 312).getD i.val 0 < 65536 := by decide +kernel
theorem cubes : ∀ i : Fin 64, (rootN ((prs 312).getD i.val 0).toNat 3 : Int) % 4294967296 = roundNums.getD i.val 0 := by decide +kernel
theorem squares : ∀ i : Fin 8, (rootN ((prs 312).getD i.val 0).toNat 2 : Int) % 4294967296 = W (init.list.getD i.val 0) := by decide +kernel
theorem cubes_at (i : Nat) (h : i < 64) : (rootN ((prs 312).getD i 0).toNat 3 : Int) % 4294967296 = W (roundWords.getD i 0) := (cubes ⟨i, h⟩).trans (roundWords_at ⟨i, h⟩).symm
theorem squares_at (i : Nat) (h : i < 8) : (rootN ((prs 312).getD i 0).toNat 2 : Int) % 4294967296 = W (init.list.getD i 0) := squares ⟨i, h⟩
end Go.Proofs.YtchbfcegonlhoaaDoor.sha
