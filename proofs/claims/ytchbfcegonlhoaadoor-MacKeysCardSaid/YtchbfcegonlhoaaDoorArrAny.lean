/-
  TWO ARRAYS OF BYTES COMPARED.
-/
import Derived.Test.YtchbfcegonlhoaaDoorArrEq
namespace Go.Proofs.YtchbfcegonlhoaaDoor.sha
open Go.RowKit
theorem eqItems_any {P : Program} {e : TypeId} {ke : IntKind} (he : P.underlying e = some (.int ke)) (d : Nat) (xs ys : List Int) (w : World) :
    ∀ is : List Nat, (∀ j ∈ is, j < xs.length ∧ j < ys.length) → (Op.eqItems (d + 1) e 1 (u8s xs).toArray (u8s ys).toArray is).run P w = .ok (is.all fun j => xs.getD j 0 == ys.getD j 0) w := by
  intro is
  induction is with
  | nil => intro _; simp [Op.eqItems]
  | cons j is ih =>
    intro h
    have hj := h j List.mem_cons_self
    have hp : ∀ zs : List Int, j < zs.length → (part e (u8s zs).toArray (j * 1)).run P w = .ok (.int .u8 (zs.getD j 0)) w := by
      intro zs hz
      have hx : (u8s zs).toArray[j]? = some (.int .u8 (zs.getD j 0)) := by rw [List.getElem?_toArray]; exact u8s_at zs hz
      simp [part, isAgg, run_underlying he, hx, go_sem]
    simp only [Op.eqItems, Sem.run_bind, hp xs hj.1, hp ys hj.2, Result.andThen_ok, run_equalIn_int w d e .u8 ke _ _ he, List.all_cons]
    have ih' := ih (fun k hk => h k (List.mem_cons_of_mem _ hk))
    cases hb : (xs.getD j 0 == ys.getD j 0) with
    | false => simp
    | true => simpa using ih'
theorem range_all (xs ys : List Int) (n : Nat) (hx : xs.length = n) (hy : ys.length = n) : ((List.range n).all fun j => xs.getD j 0 == ys.getD j 0) = decide (xs = ys) := by
  by_cases h : xs = ys
  · subst h; simp
  · rw [decide_eq_false h]
    rw [← Bool.not_eq_true]
    intro ha
    apply h
    rw [List.all_eq_true] at ha
    apply List.ext_getElem (by omega)
    intro i h1 h2
    have := ha i (by rw [List.mem_range]; omega)
    rw [beq_iff_eq, List.getD_eq_getElem?_getD, List.getD_eq_getElem?_getD, List.getElem?_eq_getElem h1, List.getElem?_eq_getElem h2] at this
    simpa using this
theorem bytes_eq (xs ys : List Int) (h : xs.length = 32) (h' : ys.length = 32) (w : World) : (Op.equalIn 10000 25 (.agg (u8s xs).toArray) (.agg (u8s ys).toArray)).run Tryd.prog w = .ok (decide (xs = ys)) w := by
  have hi : Tryd.prog.info? 5 = some ((Tryd.prog.info? 5).getD default) := by kernel_rfl
  have hc : Tryd.prog.cellsOf 5 = 1 := by kernel_rfl
  rw [run_equalIn_array w 9999 _ _ Tryd.underlying25 hi, hc, ← range_all xs ys 32 h h']
  exact eqItems_any Tryd.underlying5 9998 xs ys w _ (by intro j hj; rw [h, h']; simpa using hj)
end Go.Proofs.YtchbfcegonlhoaaDoor.sha
