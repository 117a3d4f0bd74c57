/-
  LISTS OF BYTES AND OF WORDS as the cells of a block. No program stands in it.
-/
import Derived.Test.YtchbfcegonlhoaaDoorShaMath
import Derived.Test.YtchbfcegonlhoaaDoorMem
namespace Go.Proofs.YtchbfcegonlhoaaDoor.sha
open Go.RowKit
def u8s (l : List Int) : List Value := l.map (Value.int .u8)
def u32s (l : List (BitVec 32)) : List Value := l.map fun x => .int .u32 (W x)
def Byte (l : List Int) : Prop := ∀ c ∈ l, 0 ≤ c ∧ c < 256
theorem Byte.at {l : List Int} (h : Byte l) {i : Nat} (hi : i < l.length) : 0 ≤ l.getD i 0 ∧ l.getD i 0 < 256 := by
  rw [List.getD_eq_getElem?_getD, List.getElem?_eq_getElem hi]; exact h _ (List.getElem_mem hi)
theorem u8s_at (l : List Int) {i : Nat} (hi : i < l.length) : (u8s l)[i]? = some (.int .u8 (l.getD i 0)) := by
  simp [u8s, List.getD_eq_getElem?_getD, List.getElem?_eq_getElem hi]
theorem u32s_at (l : List (BitVec 32)) {i : Nat} (hi : i < l.length) : (u32s l)[i]? = some (.int .u32 (W (l.getD i 0))) := by
  simp [u32s, List.getD_eq_getElem?_getD, List.getElem?_eq_getElem hi]
theorem u32s_set (l : List (BitVec 32)) (i : Nat) (x : BitVec 32) : (u32s l).set i (.int .u32 (W x)) = u32s (l.set i x) := by simp [u32s, List.map_set]

theorem u32s_length (l : List (BitVec 32)) : (u32s l).length = l.length := by simp [u32s]
theorem u32s_size (l : List (BitVec 32)) : (u32s l).toArray.size = l.length := by simp [u32s]
theorem u32s_one (l : List (BitVec 32)) : (u32s l).toArray.all (·.oneCell') = true := all_oneCell_toArray (by intro v hv; simp [u32s] at hv; obtain ⟨x, _, rfl⟩ := hv; rfl)
theorem u8s_length (l : List Int) : (u8s l).length = l.length := by simp [u8s]
theorem u8s_size (l : List Int) : (u8s l).toArray.size = l.length := by simp [u8s]
theorem u8s_one (l : List Int) : (u8s l).toArray.all (·.oneCell') = true := all_oneCell_toArray (by intro v hv; simp [u8s] at hv; obtain ⟨x, _, rfl⟩ := hv; rfl)
theorem lay_all (l vs : List Value) (h : l.length = vs.length) : l.take 0 ++ (vs ++ l.drop (0 + vs.length)) = vs := by
  rw [Nat.zero_add, ← h]; simp

/-- The first words are there, the others are nought. -/
def filled (l : List (BitVec 32)) : List (BitVec 32) := l ++ List.replicate (64 - l.length) 0
theorem filled_length {l : List (BitVec 32)} (h : l.length ≤ 64) : (filled l).length = 64 := by simp [filled]; omega
theorem filled_set {l : List (BitVec 32)} (h : l.length < 64) (x : BitVec 32) : (filled l).set l.length x = filled (l ++ [x]) := by
  unfold filled
  rw [List.set_append_right _ _ (Nat.le_refl _), Nat.sub_self, List.length_append, show 64 - l.length = (64 - (l.length + 1)) + 1 by omega, List.replicate_succ, List.set_cons_zero]
  simp
theorem filled_full {l : List (BitVec 32)} (h : l.length = 64) : filled l = l := by simp [filled, h]
theorem filled_at {l : List (BitVec 32)} {i : Nat} (h : i < l.length) : (filled l).getD i 0 = l.getD i 0 := by
  simp [filled, List.getD_eq_getElem?_getD, List.getElem?_append_left h]

end Go.Proofs.YtchbfcegonlhoaaDoor.sha
