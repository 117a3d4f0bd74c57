/-
  PLAIN MATHEMATICS: a digest by whatever round numbers and beginning; the reference's padding byte by byte. No program.
-/
import Derived.Test.YtchbfcegonlhoaaDoorShaCells
namespace Go.Proofs.YtchbfcegonlhoaaDoor.sha
open Go.RowKit

def mixG (ks : List (BitVec 32)) (s : St) (b : List Int) : St := s.plus (rnds ks (sched b) s 64)
def stG (ks : List (BitVec 32)) (s0 : St) (t : List Int) : Nat → St
  | 0 => s0
  | q + 1 => mixG ks (stG ks s0 t q) ((t.drop (64 * q)).take 64)
theorem stG_at (t : List Int) (q : Nat) : stG roundWords init t q = stAt t q := by
  induction q with
  | zero => rfl
  | succ q ih => rw [stG, ih]; rfl
/-- What is laid behind a text ahead of its length. -/
def midPad (t : List Int) (j : Nat) : List Int := t ++ [128] ++ List.replicate j 0
theorem midPad_length (t : List Int) (j : Nat) : (midPad t j).length = t.length + 1 + j := by simp [midPad]; omega
theorem midPad_snoc (t : List Int) (j : Nat) : midPad t j ++ [0] = midPad t (j + 1) := by
  simp [midPad, List.replicate_succ', List.append_assoc]
theorem midPad_end (t : List Int) : midPad t ((119 - t.length % 64) % 64) ++ eight ((t.length : Int) * 8) = padded t := by
  simp [midPad, padded, pad, List.append_assoc]
theorem padded_length (t : List Int) : (padded t).length = t.length + 9 + (119 - t.length % 64) % 64 := by rw [padded, List.length_append, pad_length]; omega
/-- The first k words summed up. -/
def sumAt (s r : St) (k : Nat) : List (BitVec 32) := (s.plus r).list.take k ++ s.list.drop k
theorem sumAt_length (s r : St) (k : Nat) (hk : k ≤ 8) : (sumAt s r k).length = 8 := by
  have h1 : (s.plus r).list.length = 8 := rfl
  have h2 : s.list.length = 8 := rfl
  rw [sumAt, List.length_append, List.length_take, List.length_drop]; omega
theorem sumAt_zero (s r : St) : sumAt s r 0 = s.list := by simp [sumAt]
theorem sumAt_eight (s r : St) : sumAt s r 8 = (s.plus r).list := by rfl
theorem sumAt_at (s r : St) (k : Nat) (hk : k < 8) : (sumAt s r k).getD k 0 = s.list.getD k 0 := by
  rcases (show k = 0 ∨ k = 1 ∨ k = 2 ∨ k = 3 ∨ k = 4 ∨ k = 5 ∨ k = 6 ∨ k = 7 by omega) with rfl | rfl | rfl | rfl | rfl | rfl | rfl | rfl <;> rfl
theorem sumAt_set (s r : St) (k : Nat) (hk : k < 8) : (sumAt s r k).set k (s.list.getD k 0 + r.list.getD k 0) = sumAt s r (k + 1) := by
  rcases (show k = 0 ∨ k = 1 ∨ k = 2 ∨ k = 3 ∨ k = 4 ∨ k = 5 ∨ k = 6 ∨ k = 7 by omega) with rfl | rfl | rfl | rfl | rfl | rfl | rfl | rfl <;> rfl
theorem four_of (l : List Int) (i : Nat) (h : i + 4 ≤ l.length) : (l.drop i).take 4 = [l.getD i 0, l.getD (i + 1) 0, l.getD (i + 2) 0, l.getD (i + 3) 0] := by
  have e : ∀ j, i + j < l.length → l[i + j]? = some (l.getD (i + j) 0) := fun j hj => by rw [List.getD_eq_getElem?_getD, List.getElem?_eq_getElem hj]; rfl
  apply List.ext_getElem?
  intro j
  rw [List.getElem?_take]
  by_cases hj : j < 4
  · rw [if_pos hj, List.getElem?_drop, e j (by omega)]
    rcases (show j = 0 ∨ j = 1 ∨ j = 2 ∨ j = 3 by omega) with rfl | rfl | rfl | rfl <;> rfl
  · rw [if_neg hj]; symm; rw [List.getElem?_eq_none]; simp; omega
theorem block_at (l : List Int) (q j : Nat) (hj : j < 64) : ((l.drop (64 * q)).take 64).getD j 0 = l.getD (64 * q + j) 0 := by
  rw [List.getD_eq_getElem?_getD, List.getElem?_take, if_pos hj, List.getElem?_drop, ← List.getD_eq_getElem?_getD]
end Go.Proofs.YtchbfcegonlhoaaDoor.sha
