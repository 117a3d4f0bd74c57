/-
  PLAIN MATHEMATICS OF SLOTS (P9.1): a slot's bytes, and what they hold.
-/
import Derived.Test.YtpgclhpobijdeaaDoorMRec


import Derived.Test.YtpgclhpobijdeaaDoorMDkA
namespace Go.Proofs.YtpgclhpobijdeaaDoor.slots
open Go.RowKit Go.Proofs.YtpgclhpobijdeaaDoor.disk Go.Proofs.YtpgclhpobijdeaaDoor.recd Go.Proofs.YtpgclhpobijdeaaDoor.num
set_option linter.unusedVariables false

/-- A slot's head and text. -/
def slotE (t : Nat) (x : List Int) : List Int := be t 8 ++ (be x.length 4 ++ (be (sumOf ((be t 8 ++ be x.length 4) ++ x)) 4 ++ x))
/-- What a slot holds. -/
def slotD (l : List Int) : Option (Nat × List Int) :=
  if 4080 < val (sub l 8 12) then none
  else if val (sub l 12 16) ≠ sumOf (l.take 12 ++ sub l 16 (16 + val (sub l 8 12))) then none
  else some (val (l.take 8), sub l 16 (16 + val (sub l 8 12)))

theorem slotE_length (t : Nat) (x : List Int) : (slotE t x).length = 16 + x.length := by
  unfold slotE
  simp only [List.length_append, be_length]
  omega
theorem slotE_byte (t : Nat) {x : List Int} (hx : Byte x) : Byte (slotE t x) := by
  unfold slotE
  exact (show Byte (be t 8) from be_byte 8 t).append ((show Byte (be x.length 4) from be_byte 4 _).append ((show Byte (be _ 4) from be_byte 4 _).append hx))
theorem slotD_enc {t : Nat} {x : List Int} (ht : t < 18446744073709551616) (hl : x.length ≤ 4080) (j : List Int) : slotD (slotE t x ++ j) = some (t, x) := by
  obtain ⟨s, hs⟩ : ∃ s, sumOf ((be t 8 ++ be x.length 4) ++ x) = s := ⟨_, rfl⟩
  have hs2 : s < 4294967296 := by rw [← hs]; exact sumOf_lt _
  have e : slotE t x ++ j = be t 8 ++ (be x.length 4 ++ (be s 4 ++ (x ++ j))) := by
    unfold slotE
    rw [hs]
    simp only [List.append_assoc]
  have l8 : (be t 8).length = 8 := be_length 8 t
  have l4 : (be x.length 4).length = 4 := be_length 4 _
  have l4' : (be s 4).length = 4 := be_length 4 _
  have h1 : sub (slotE t x ++ j) 8 12 = be x.length 4 := by rw [e]; exact sub_mid _ _ _ 8 12 l8 (by rw [l8, l4])
  have h2 : sub (slotE t x ++ j) 12 16 = be s 4 := by
    rw [e, ← List.append_assoc]
    exact sub_mid _ _ _ 12 16 (by rw [List.length_append, l8, l4]) (by rw [List.length_append, l8, l4, l4'])
  have h3 : sub (slotE t x ++ j) 16 (16 + x.length) = x := by
    rw [e, ← List.append_assoc, ← List.append_assoc]
    exact sub_mid _ _ _ 16 (16 + x.length) (by rw [List.length_append, List.length_append, l8, l4, l4']) (by rw [List.length_append, List.length_append, l8, l4, l4'])
  have h4 : (slotE t x ++ j).take 12 = be t 8 ++ be x.length 4 := by
    rw [e, ← List.append_assoc]
    exact List.take_left' (by rw [List.length_append, l8, l4])
  have h5 : (slotE t x ++ j).take 8 = be t 8 := by rw [e]; exact List.take_left' l8
  unfold slotD
  rw [h1, val_be 4 _ (by omega), h2, val_be 4 _ (by omega), h3, h4, h5, val_be 8 _ (by omega), hs, if_neg (by omega), if_neg (by simp)]
theorem slotD_take (l : List Int) (m : Nat) (hm : 4096 ≤ m) : slotD (l.take m) = slotD l := by
  unfold slotD
  rw [sub_take _ _ _ _ (by omega)]
  split
  · rfl
  · rename_i h
    rw [sub_take _ _ _ _ (by omega), sub_take _ _ _ _ (by omega), List.take_take, List.take_take, Nat.min_eq_left (by omega), Nat.min_eq_left (by omega)]
theorem slotD_some {l : List Int} (hb : Byte l) (hl : 4096 ≤ l.length) {t : Nat} {x : List Int} (h : slotD l = some (t, x)) : l.take (16 + x.length) = slotE t x ∧ x.length ≤ 4080 ∧ t < 18446744073709551616 ∧ Byte x := by
  unfold slotD at h
  split at h
  · cases h
  · rename_i h1
    split at h
    · cases h
    · rename_i h2
      injection h with h
      injection h with h3 h4
      have l4 : (sub l 8 12).length = 4 := by rw [sub_length _ _ _ (by omega)]
      have l4' : (sub l 12 16).length = 4 := by rw [sub_length _ _ _ (by omega)]
      have l8 : (l.take 8).length = 8 := by rw [List.length_take]; omega
      have hx : x.length = val (sub l 8 12) := by rw [← h4, sub_length _ _ _ (by omega)]; omega
      have e8 : be t 8 = l.take 8 := by rw [← h3]; exact be_val 8 _ l8 (hb.take 8)
      have e4 : be x.length 4 = sub l 8 12 := by rw [hx]; exact be_val 4 _ l4 (sub_byte hb 8 12)
      have e12 : be t 8 ++ be x.length 4 = l.take 12 := by rw [e8, e4, ← sub_zero, ← sub_zero, sub_join _ _ _ _ (by omega) (by omega)]
      have es : be (sumOf ((be t 8 ++ be x.length 4) ++ x)) 4 = sub l 12 16 := by
        rw [e12, ← h4, ← Decidable.not_not.1 h2]
        exact be_val 4 _ l4' (sub_byte hb 12 16)
      refine ⟨?_, by omega, ?_, ?_⟩
      · unfold slotE
        rw [es, ← List.append_assoc, e12, hx, ← h4]
        rw [sub_join _ _ _ _ (by omega) (by omega), ← sub_zero l 12, sub_join _ _ _ _ (by omega) (by omega), sub_zero]
      · rw [← h3]
        exact val_lt 8 _ l8 (hb.take 8)
      · rw [← h4]
        exact sub_byte hb _ _
/-- A slot that begins as another that is whole does holds the same. -/
theorem slotD_begins {m : List Int} {t : Nat} {x : List Int} (ht : t < 18446744073709551616) (hl : x.length ≤ 4080) (h : m.take (16 + x.length) = slotE t x) : slotD m = some (t, x) := by
  have := slotD_enc ht hl (m.drop (16 + x.length))
  rw [← h, List.take_append_drop] at this
  exact this
theorem zero_slot (n : Nat) (hn : 4096 ≤ n) : slotD (List.replicate n 0) = none := by
  have h0 : ∀ p q, q ≤ n → p ≤ q → sub (List.replicate n (0 : Int)) p q = List.replicate (q - p) 0 := by
    intro p q hq hp
    unfold sub
    rw [List.drop_replicate, List.take_replicate, Nat.min_eq_left (by omega)]
  unfold slotD
  rw [h0 8 12 (by omega) (by omega), show val (List.replicate (12 - 8) 0) = 0 by decide, h0 12 16 (by omega) (by omega), h0 16 (16 + 0) (by omega) (by omega), List.take_replicate, Nat.min_eq_left (by omega)]
  rw [if_neg (by omega), if_pos]
  decide +kernel

/-! the file: two slots -/
/-- What Open tells: the turn, the text, the slot. -/
def openD (L : List Int) : Option (Nat × List Int × Nat) :=
  match slotD (L.take 4096), slotD (L.drop 4096) with
  | some a, some b => if a.1 < b.1 then some (b.1, b.2, 1) else some (a.1, a.2, 0)
  | some a, none => some (a.1, a.2, 0)
  | none, some b => some (b.1, b.2, 1)
  | none, none => none
/-- A slot of a file. -/
def slotAt (L : List Int) (k : Nat) : List Int := if k = 0 then L.take 4096 else L.drop 4096
/-- What Save's writing makes of a file. -/
theorem splice_slot {L : List Int} (hl : L.length = 8192) {k : Nat} (hk : k ≤ 1) {e : List Int} (he : e.length ≤ 4096) :
    (splice L (k * 4096) e).length = 8192 ∧ slotAt (splice L (k * 4096) e) k = e ++ (slotAt L k).drop e.length ∧ slotAt (splice L (k * 4096) e) (1 - k) = slotAt L (1 - k) := by
  have hsp : splice L (k * 4096) e = L.take (k * 4096) ++ (e ++ L.drop (k * 4096 + e.length)) := by unfold splice; rfl
  have ht : (L.take (k * 4096)).length = k * 4096 := by rw [List.length_take]; omega
  have hlen : (splice L (k * 4096) e).length = 8192 := by
    rw [hsp, List.length_append, List.length_append, ht, List.length_drop]
    omega
  refine ⟨hlen, ?_, ?_⟩
  · rcases Nat.lt_or_ge 0 k with h | h
    · obtain rfl : k = 1 := by omega
      unfold slotAt
      rw [if_neg (by omega), if_neg (by omega), hsp, List.drop_left' (by omega), List.drop_drop, Nat.one_mul]
    · obtain rfl : k = 0 := by omega
      unfold slotAt
      rw [if_pos rfl, if_pos rfl, hsp, Nat.zero_mul, List.take_zero, List.nil_append, Nat.zero_add, List.take_append, List.take_of_length_le he, List.drop_take]
  · rcases Nat.lt_or_ge 0 k with h | h
    · obtain rfl : k = 1 := by omega
      unfold slotAt
      rw [if_pos (by omega), if_pos (by omega), hsp, List.take_left' (by omega), Nat.one_mul]
    · obtain rfl : k = 0 := by omega
      unfold slotAt
      rw [if_neg (by omega), if_neg (by omega), hsp, Nat.zero_mul, List.take_zero, List.nil_append, Nat.zero_add, List.drop_append, List.drop_drop, List.drop_of_length_le he, List.nil_append, show e.length + (4096 - e.length) = 4096 by omega]
end Go.Proofs.YtpgclhpobijdeaaDoor.slots
