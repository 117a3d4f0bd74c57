/-
  TWO ARRAYS OF BYTES THAT ARE THE SAME ARE EQUAL.
-/
import Derived.Test.YtchbfcegonlhoaaDoorRows
import Derived.Test.YtchbfcegonlhoaaDoorShaCells
import Derived.ChangeKeysEq
import Derived.Laws.StructEq
namespace Go.Proofs.YtchbfcegonlhoaaDoor.sha
open Go.RowKit
theorem eqItems_same {P : Program} {e : TypeId} {ke : IntKind} (he : P.underlying e = some (.int ke)) (d : Nat) (xs : List Int) (w : World) :
    ∀ is : List Nat, (∀ j ∈ is, j < xs.length) → (Op.eqItems (d + 1) e 1 (u8s xs).toArray (u8s xs).toArray is).run P w = .ok true w := by
  intro is
  induction is with
  | nil => intro _; simp [Op.eqItems]
  | cons j is ih =>
    intro h
    have hj := h j List.mem_cons_self
    have hp : (part e (u8s xs).toArray (j * 1)).run P w = .ok (.int .u8 (xs.getD j 0)) w := by
      have hx : (u8s xs).toArray[j]? = some (.int .u8 (xs.getD j 0)) := by rw [List.getElem?_toArray]; exact u8s_at xs hj
      simp [part, isAgg, run_underlying he, hx, go_sem]
    simp only [Op.eqItems, Sem.run_bind, hp, Result.andThen_ok, run_equalIn_int w d e .u8 ke _ _ he]
    simpa using ih (fun k hk => h k (List.mem_cons_of_mem _ hk))
theorem bytes_same (xs : List Int) (h : xs.length = 32) (w : World) : (Op.equalIn 10000 25 (.agg (u8s xs).toArray) (.agg (u8s xs).toArray)).run Tryd.prog w = .ok true w := by
  have hi : Tryd.prog.info? 5 = some ((Tryd.prog.info? 5).getD default) := by kernel_rfl
  have hc : Tryd.prog.cellsOf 5 = 1 := by kernel_rfl
  rw [run_equalIn_array w 9999 _ _ Tryd.underlying25 hi, hc]
  exact eqItems_same Tryd.underlying5 9998 xs w _ (by intro j hj; rw [h]; simpa using hj)
theorem noGuard : Tryd.prog.eqGuardType Tryd.prog.depth 25 = false := by kernel_rfl
end Go.Proofs.YtchbfcegonlhoaaDoor.sha
