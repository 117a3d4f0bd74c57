/-
  PLAIN MATHEMATICS OF 'stillroomlaw10.ManifestMany': tenants like one another, by their numbers falling from 10, with quotas of their own.
-/
import Derived.Test.YtpgclhpobijdeaaDoorMnOpen
namespace Go.Proofs.YtpgclhpobijdeaaDoor.man
open Go.Proofs.YtpgclhpobijdeaaDoor.num
set_option linter.unusedVariables false

def quoT (id : Nat) (q : Int) : Ten := { oneT id with quota := q }
/-- The k tenants 11 - k to 10. -/
def mkL (k : Nat) (qs : Nat → Int) : List Ten := (List.range k).map fun j => quoT (11 - k + j) (qs j)
theorem mkL_length (k : Nat) (qs : Nat → Int) : (mkL k qs).length = k := by simp [mkL]
theorem mkL_at {k j : Nat} (qs : Nat → Int) (h : j < k) : (mkL k qs)[j]? = some (quoT (11 - k + j) (qs j)) := by simp [mkL, h]
theorem mkL_zero (qs : Nat → Int) : mkL 0 qs = [] := rfl
theorem mkL_may {k : Nat} (qs : Nat → Int) (hk : k ≤ 6) (hq : ∀ j, j < k → 1000 ≤ qs j ∧ qs j ≤ 65536) : mayB (mkL k qs) = true := by
  have h0 := hq 0
  have h1 := hq 1
  have h2 := hq 2
  have h3 := hq 3
  have h4 := hq 4
  have h5 := hq 5
  clear hq
  obtain rfl | rfl | rfl | rfl | rfl | rfl | rfl : k = 0 ∨ k = 1 ∨ k = 2 ∨ k = 3 ∨ k = 4 ∨ k = 5 ∨ k = 6 := by omega
  all_goals
    simp [mayB, riseB, oneB, headB, segsB, mkL, quoT, oneT, List.range_succ]
    try omega
/-- One more. -/
theorem mkL_more {k : Nat} (hk : k < 10) : putT (mkL k fun _ => 5000) (oneT (10 - k)) = mkL (k + 1) fun _ => 5000 := by
  obtain rfl | rfl | rfl | rfl | rfl | rfl | rfl | rfl | rfl | rfl : k = 0 ∨ k = 1 ∨ k = 2 ∨ k = 3 ∨ k = 4 ∨ k = 5 ∨ k = 6 ∨ k = 7 ∨ k = 8 ∨ k = 9 := by omega
  all_goals decide
theorem mkL_full {i : Nat} (h6 : 6 ≤ i) (hi : i < 10) : (putT (mkL 6 fun _ => 5000) (oneT (10 - i))).length = 7 := by
  obtain rfl | rfl | rfl | rfl : i = 6 ∨ i = 7 ∨ i = 8 ∨ i = 9 := by omega
  all_goals decide
/-- One anew: the tenant 10 - r. -/
theorem mkL_find {k r : Nat} (hk : k ≤ 6) (hr : r < k) (qs : Nat → Int) : FindAt (mkL k qs) (10 - r) (k - 1 - r) true := by
  refine ⟨by rw [mkL_length]; omega, fun j t hj ht => ?_, fun j t hj ht => ?_, fun _ => ⟨_, mkL_at qs (by omega), by show 11 - k + (k - 1 - r) = 10 - r; omega⟩, fun e => by cases e⟩
  · rw [mkL_at qs (by omega)] at ht
    injection ht with ht
    subst ht
    show 11 - k + j < 10 - r
    omega
  · have : j < k := by have := (List.getElem?_eq_some_iff.1 ht).1; rwa [mkL_length] at this
    rw [mkL_at qs this] at ht
    injection ht with ht
    subst ht
    show 10 - r ≤ 11 - k + j
    omega
theorem mkL_set {k r : Nat} (hk : k ≤ 6) (hr : r < k) (qs : Nat → Int) (q : Int) : putT (mkL k qs) (quoT (10 - r) q) = mkL k fun j => if j = k - 1 - r then q else qs j := by
  rw [← putT_true (t := quoT (10 - r) q) (mkL_find hk hr qs)]
  apply List.ext_getElem?
  intro j
  by_cases hj : j < k
  · rw [mkL_at _ hj, List.getElem?_set]
    by_cases he : k - 1 - r = j
    · rw [if_pos he, if_pos (by rw [mkL_length]; omega), if_pos he.symm, ← he, show 11 - k + (k - 1 - r) = 10 - r by omega]
    · rw [if_neg he, mkL_at _ hj, if_neg (fun e => he e.symm)]
  · rw [List.getElem?_eq_none (by rw [List.length_set, mkL_length]; omega), List.getElem?_eq_none (by rw [mkL_length]; omega)]
/-- A quota that may not be. -/
theorem mkL_bad {k r : Nat} (hk : k ≤ 6) (hr : r < k) (qs : Nat → Int) (q : Int) (hq : ¬ (1000 ≤ q ∧ q ≤ 65536)) : (putT (mkL k qs) (quoT (10 - r) q)).length = k ∧ mayB (putT (mkL k qs) (quoT (10 - r) q)) = false := by
  rw [mkL_set hk hr]
  refine ⟨mkL_length _ _, Bool.eq_false_iff.2 fun e => hq ?_⟩
  have h := mayB_one e (quoT (11 - k + (k - 1 - r)) q) (by
    have := mkL_at (k := k) (j := k - 1 - r) (fun j => if j = k - 1 - r then q else qs j) (by omega)
    rw [if_pos rfl] at this
    exact List.mem_of_getElem? this)
  have := oneB_head h
  exact ⟨this.2.2.2.2.1, this.2.2.2.2.2.1⟩
/-- The tenant of that number. -/
theorem mkL_get {k r : Nat} (hk : k ≤ 6) (hr : r < k) (qs : Nat → Int) {t : Ten} (ht : t ∈ mkL k qs) (hid : t.id = 10 - r) : t = quoT (10 - r) (qs (k - 1 - r)) := by
  obtain ⟨j, hj, rfl⟩ := List.mem_map.1 ht
  have hj := List.mem_range.1 hj
  have e : 11 - k + j = 10 - r := hid
  rw [show j = k - 1 - r by omega, show 11 - k + (k - 1 - r) = 10 - r by omega]
theorem mkL_has {k r : Nat} (hk : k ≤ 6) (hr : r < k) (qs : Nat → Int) : ∃ t ∈ mkL k qs, t.id = 10 - r :=
  ⟨_, List.mem_of_getElem? (mkL_at qs (show k - 1 - r < k by omega)), by show 11 - k + (k - 1 - r) = 10 - r; omega⟩
end Go.Proofs.YtpgclhpobijdeaaDoor.man
