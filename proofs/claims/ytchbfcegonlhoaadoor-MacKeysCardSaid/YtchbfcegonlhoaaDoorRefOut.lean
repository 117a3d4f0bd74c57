/-
  A DIGEST's BYTES, four at a time; a piece of an array of 32 bytes.
-/
import Derived.Test.YtchbfcegonlhoaaDoorShaSum
namespace Go.Proofs.YtchbfcegonlhoaaDoor.sha
open Go.RowKit
theorem outAt_lay (l : List (BitVec 32)) (hl : l.length = 8) (k : Nat) (hk : k < 8) : (outAt l k).take (4 * k) ++ (four (l.getD k 0) ++ (outAt l k).drop (4 * k + 4)) = outAt l (k + 1) := by
  have hA : ((l.take k).flatMap four).length = 4 * k := by rw [flat_length, List.length_take]; omega
  have e1 : (l.take (k + 1)).flatMap four = (l.take k).flatMap four ++ four (l.getD k 0) := by
    rw [List.take_succ_eq_append_getElem (by omega), List.flatMap_append, List.getD_eq_getElem?_getD, List.getElem?_eq_getElem (by omega)]; simp
  unfold outAt
  rw [e1]
  generalize (l.take k).flatMap four = A at hA
  rw [← hA, List.take_left, List.drop_append, List.drop_eq_nil_of_le (by omega), List.nil_append, hA, show 4 * k + 4 - 4 * k = 4 by omega, List.drop_replicate, List.append_assoc]
  congr 3
theorem run_tail32 (g p : Nat) (hp : p < 32) (w : World) : (Instr.sliceAt 25 (.pointer (some ⟨g, 0, none⟩)) (some (.int .i64 (p : Int))) none none).run Tryd.prog w = .ok (.slice (some ⟨g, p, none⟩) (32 - p) (32 - p)) w := by
  have hl : Tryd.prog.arrayLen 25 = 32 := by kernel_rfl
  have he : Tryd.prog.elem 25 = 5 := by kernel_rfl
  have hs : (sizeOf 5).run Tryd.prog w = .ok 1 w := by kernel_rfl
  rw [run_sliceAt_array_l w 25 ⟨g, 0, none⟩ (by rw [hl, he]; exact Tryd.underlying25) .i64 (p : Int) (by omega) (by rw [hl]; omega), he, hs, hl]
  have h1 : ¬ (32 = p) := by omega
  simp [Result.andThen, slicedAt, h1, Addr.add_mid]
end Go.Proofs.YtchbfcegonlhoaaDoor.sha
