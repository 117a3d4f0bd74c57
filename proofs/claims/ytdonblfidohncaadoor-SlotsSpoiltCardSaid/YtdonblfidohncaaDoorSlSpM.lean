/-
  PLAIN MATHEMATICS: a slot of which one byte was changed, but of its length, is none (P9.1).
-/
import Derived.Test.YtdonblfidohncaaDoorSlLone
namespace Go.Proofs.YtdonblfidohncaaDoor.slots
open Go.RowKit Go.Proofs.YtdonblfidohncaaDoor.disk Go.Proofs.YtdonblfidohncaaDoor.recd Go.Proofs.YtdonblfidohncaaDoor.num
set_option linter.unusedVariables false

theorem slotD_spoilt {l : List Int} (hb : Byte l) (hl : 4096 ≤ l.length) {t : Nat} {x : List Int} (h : slotD l = some (t, x)) (k : Nat) (hk : k < 16 + x.length) (hno : ¬ (8 ≤ k ∧ k < 12)) (y : Int) (hy : 0 ≤ y ∧ y < 256) (hne : y ≠ l.getD k 0) : slotD (l.set k y) = none := by
  unfold slotD at h
  split at h
  · cases h
  · rename_i h1
    split at h
    · cases h
    · rename_i h2
      injection h with h
      injection h with h3 h4
      obtain ⟨n, hn⟩ : ∃ n, val (recd.sub l 8 12) = n := ⟨_, rfl⟩
      rw [hn] at h1 h2 h4
      have h2 := Decidable.not_not.1 h2
      rw [h4] at h2
      have hx : x.length = n := by rw [← h4, sub_length _ _ _ (by omega)]; omega
      have bx : Byte x := by rw [← h4]; exact sub_byte hb _ _
      have l12 : (l.take 12).length = 12 := by rw [List.length_take]; omega
      have bt : Byte (l.take 12 ++ x) := (hb.take 12).append bx
      unfold slotD
      rw [sub_set_out l k y 8 12 (by omega), hn, if_neg h1, if_pos]
      intro hs
      rcases Nat.lt_or_ge k 12 with hk1 | hk1
      · have e1 : (l.set k y).take 12 = (l.take 12).set k y := by rw [List.take_set]
        rw [sub_set_out l k y 12 16 (by omega), sub_set_out l k y 16 (16 + n) (by omega), h4, e1, ← List.set_append_left k y (by omega), h2] at hs
        refine sum_set (l.take 12 ++ x) k (by rw [List.length_append]; omega) y bt hy ?_ hs.symm
        rw [List.getD_eq_getElem?_getD, List.getElem?_append_left (by omega), List.getElem?_take_of_lt hk1, ← List.getD_eq_getElem?_getD]
        exact hne
      · have e1 : (l.set k y).take 12 = l.take 12 := List.take_set_of_le hk1
        rcases Nat.lt_or_ge k 16 with hk2 | hk2
        · rw [sub_set_in l k y 12 16 hk1 hk2, sub_set_out l k y 16 (16 + n) (by omega), h4, e1, ← h2] at hs
          have l4 : (recd.sub l 12 16).length = 4 := by rw [sub_length _ _ _ (by omega)]
          have l4' : ((recd.sub l 12 16).set (k - 12) y).length = 4 := by rw [List.length_set, l4]
          have b4 : Byte (recd.sub l 12 16) := sub_byte hb 12 16
          have b4' : Byte ((recd.sub l 12 16).set (k - 12) y) := fun c hc => by
            rcases List.mem_or_eq_of_mem_set hc with hc | rfl
            · exact b4 c hc
            · exact hy
          have e2 : (recd.sub l 12 16).set (k - 12) y = recd.sub l 12 16 := by
            rw [← be_val 4 _ l4' b4', hs, be_val 4 _ l4 b4]
          have e3 := congrArg (fun z => z.getD (k - 12) 0) e2
          rw [sub_getD l 12 16 k hk1 hk2, List.getD_eq_getElem?_getD, List.getElem?_set_self (by omega)] at e3
          exact hne e3
        · have e4 : recd.sub (l.set k y) 16 (16 + n) = x.set (k - 16) y := by rw [sub_set_in l k y 16 (16 + n) hk2 (by omega), h4]
          rw [sub_set_out l k y 12 16 (by omega), e1, e4] at hs
          have e5 : l.take 12 ++ x.set (k - 16) y = (l.take 12 ++ x).set (12 + (k - 16)) y := by
            rw [List.set_append_right _ _ (by omega), l12, show 12 + (k - 16) - 12 = k - 16 by omega]
          rw [e5, h2] at hs
          refine sum_set (l.take 12 ++ x) (12 + (k - 16)) (by rw [List.length_append]; omega) y bt hy ?_ hs.symm
          rw [List.getD_eq_getElem?_getD, List.getElem?_append_right (by omega), l12, show 12 + (k - 16) - 12 = k - 16 by omega, ← h4]
          have := sub_getD l 16 (16 + n) k hk2 (by omega)
          rw [List.getD_eq_getElem?_getD] at this
          rw [this]
          exact hne
/-- A byte of a file that is written over. -/
theorem splice_one {L : List Int} {p : Nat} (hp : p < L.length) (y : Int) : splice L p [y] = L.set p y := by
  unfold splice
  refine List.ext_getElem ?_ fun i h1 h2 => ?_
  · rw [List.length_append, List.length_append, List.length_take, List.length_drop, List.length_set, List.length_singleton]; omega
  · rw [List.getElem_set]
    split
    · rename_i h; subst h
      rw [List.getElem_append_right (by rw [List.length_take]; omega)]
      simp [List.length_take, Nat.min_eq_left (Nat.le_of_lt hp)]
    · rename_i h
      rcases Nat.lt_or_ge i p with h3 | h3
      · rw [List.getElem_append_left (by rw [List.length_take]; omega), List.getElem_take]
      · rw [List.getElem_append_right (by rw [List.length_take]; omega), List.getElem_append_right (by rw [List.length_take, List.length_singleton]; omega), List.getElem_drop]
        congr 1
        rw [List.length_take, List.length_singleton]
        omega
theorem slotAt_set {L : List Int} (hl : L.length = 8192) {k : Nat} (hk : k ≤ 1) {i : Nat} (hi : i < 4096) (y : Int) : slotAt (L.set (k * 4096 + i) y) k = (slotAt L k).set i y ∧ slotAt (L.set (k * 4096 + i) y) (1 - k) = slotAt L (1 - k) ∧ (slotAt L k).getD i 0 = L.getD (k * 4096 + i) 0 := by
  rcases Nat.lt_or_ge 0 k with h | h
  · obtain rfl : k = 1 := by omega
    unfold slotAt
    simp only [if_neg (show ¬ (1 : Nat) = 0 by omega)]
    refine ⟨?_, List.take_set_of_le (by omega), ?_⟩
    · rw [List.drop_set, if_neg (by omega), show 1 * 4096 + i - 4096 = i by omega]
    · rw [List.getD_eq_getElem?_getD, List.getElem?_drop, ← List.getD_eq_getElem?_getD, Nat.one_mul]
  · obtain rfl : k = 0 := by omega
    unfold slotAt
    simp only [if_neg (show ¬ (1 - 0 : Nat) = 0 by omega), Nat.zero_mul, Nat.zero_add, if_true]
    refine ⟨List.take_set, List.drop_set_of_lt (by omega), ?_⟩
    rw [List.getD_eq_getElem?_getD, List.getElem?_take_of_lt hi, ← List.getD_eq_getElem?_getD]
end Go.Proofs.YtdonblfidohncaaDoor.slots
