/-
  PLAIN MATHEMATICS OF THE REFERENCE's Decode (P6.1): a record written again is what was read just if its sum is right. No program stands in it.
-/
import Derived.Test.YtodajceiadbpeaaDoorRcSpMath
namespace Go.Proofs.YtodajceiadbpeaaDoor.recd
open Go.RowKit Go.Proofs.YtodajceiadbpeaaDoor.num Go.Proofs.YtodajceiadbpeaaDoor.disk
set_option linter.unusedVariables false

theorem sub_join (l : List Int) (p q r : Nat) (h1 : p ≤ q) (h2 : q ≤ r) : sub l p q ++ sub l q r = sub l p r := by
  unfold sub
  have e : l.drop q = (l.drop p).drop (q - p) := by rw [List.drop_drop, show p + (q - p) = q by omega]
  rw [e, show r - p = (q - p) + (r - q) by omega, List.take_add]
theorem sub_zero (l : List Int) (q : Nat) : sub l 0 q = l.take q := by unfold sub; rw [List.drop_zero, Nat.sub_zero]
/-- The record that bytes tell of, whole. -/
def full (l : List Int) : Rec := { headOf l with body := str (sub l 39 (39 + lenOf l)) }
section
variable {l : List Int}
theorem be_sub (hb : Byte l) (p q : Nat) (h : p ≤ q) (hq : q ≤ l.length) : be (val (sub l p q)) (q - p) = sub l p q := be_val (q - p) _ (sub_length l p q hq) (sub_byte hb p q)
theorem full_size (hn : 39 + lenOf l ≤ l.length) : (full l).body.size = lenOf l := by
  show (str (sub l 39 (39 + lenOf l))).size = lenOf l
  rw [str_size, sub_length l 39 (39 + lenOf l) hn]; omega
theorem full_may (h3 : numB (headOf l) = true) (h4 : lenOf l ≤ 1000) (hn : 39 + lenOf l ≤ l.length) : mayB (full l) = true := by
  unfold mayB
  rw [show numB (full l) = true from h3, full_size hn]
  simpa using h4
theorem full_nums (hb : Byte l) (h1 : begB l = true) (hn : 39 + lenOf l ≤ l.length) : numL (full l) = sub l 0 35 := by
  unfold numL
  rw [full_size hn]
  have e0 : ([83, 82] : List Int) = sub l 0 2 := by
    unfold begB at h1
    simp only [Bool.and_eq_true, decide_eq_true_eq] at h1
    have h := h1.1
    rw [Nat.min_eq_right (by omega)] at h
    rw [sub_zero, h]; rfl
  have e1 : be (full l).kind.toNat 1 = sub l 2 3 := by
    have := be_sub hb 2 3 (by omega) (by omega)
    show be ((val (sub l 2 3) : Nat) : Int).toNat 1 = _
    rw [Int.toNat_natCast]; exact this
  have e2 : be (full l).tenant 4 = sub l 3 7 := be_sub hb 3 7 (by omega) (by omega)
  have e3 : be (full l).epoch 8 = sub l 7 15 := be_sub hb 7 15 (by omega) (by omega)
  have e4 : be (full l).object 8 = sub l 15 23 := be_sub hb 15 23 (by omega) (by omega)
  have e5 : be (full l).seq 8 = sub l 23 31 := be_sub hb 23 31 (by omega) (by omega)
  have e6 : be (lenOf l) 4 = sub l 31 35 := be_sub hb 31 35 (by omega) (by omega)
  rw [e0, e1, e2, e3, e4, e5, e6, sub_join l 0 2 3 (by omega) (by omega), sub_join l 0 3 7 (by omega) (by omega), sub_join l 0 7 15 (by omega) (by omega), sub_join l 0 15 23 (by omega) (by omega), sub_join l 0 23 31 (by omega) (by omega), sub_join l 0 31 35 (by omega) (by omega)]
theorem full_enc (hb : Byte l) (h1 : begB l = true) (hn : 39 + lenOf l ≤ l.length) : encL (full l) = l.take (39 + lenOf l) ↔ sumOf (sub l 0 35 ++ sub l 39 (39 + lenOf l)) = val (sub l 35 39) := by
  have e : encL (full l) = sub l 0 35 ++ be (sumOf (sub l 0 35 ++ sub l 39 (39 + lenOf l))) 4 ++ sub l 39 (39 + lenOf l) := by
    unfold encL
    rw [full_nums hb h1 hn, show bs (full l).body = sub l 39 (39 + lenOf l) from bs_str (sub_byte hb _ _)]
  have e2 : l.take (39 + lenOf l) = sub l 0 35 ++ sub l 35 39 ++ sub l 39 (39 + lenOf l) := by
    rw [sub_join l 0 35 39 (by omega) (by omega), sub_join l 0 39 _ (by omega) (by omega), sub_zero]
  rw [e, e2]
  constructor
  · intro h
    have h := List.append_cancel_right h
    have h := List.append_cancel_left h
    rw [← h, val_be 4 _ (by rw [show (256 : Nat) ^ 4 = 4294967296 by decide]; exact (crc.sum _).isLt)]
  · intro h
    have h5 : be (val (sub l 35 39)) 4 = sub l 35 39 := be_sub hb 35 39 (by omega) (by omega)
    rw [h, h5]
end
end Go.Proofs.YtodajceiadbpeaaDoor.recd
