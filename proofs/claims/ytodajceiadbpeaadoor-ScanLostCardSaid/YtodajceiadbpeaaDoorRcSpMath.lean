/-
  PLAIN MATHEMATICS OF A SPOILT RECORD (P6.1): a record of which one byte was changed, but for its length, is none. No program stands in it.
-/
import Derived.Test.YtodajceiadbpeaaDoorRcDecMath
namespace Go.Proofs.YtodajceiadbpeaaDoor.recd
open Go.RowKit Go.Proofs.YtodajceiadbpeaaDoor.num Go.Proofs.YtodajceiadbpeaaDoor.disk
set_option linter.unusedVariables false

theorem step_inj {s t : BitVec 32} {c : Int} (h : crc.step s c = crc.step t c) : s = t := by
  unfold crc.step at h
  have h := crc.bits8_inj h
  have h2 := congrArg (· ^^^ BitVec.ofInt 32 c) h
  rwa [BitVec.xor_assoc, BitVec.xor_self, BitVec.xor_zero, BitVec.xor_assoc, BitVec.xor_self, BitVec.xor_zero] at h2
theorem run_inj : ∀ (b : List Int) {s t : BitVec 32}, crc.run s b = crc.run t b → s = t
  | [], _, _, h => h
  | _ :: b, _, _, h => step_inj (run_inj b h)
theorem step_byte {s : BitVec 32} {c d : Int} (hc : 0 ≤ c ∧ c < 256) (hd : 0 ≤ d ∧ d < 256) (h : crc.step s c = crc.step s d) : c = d := by
  unfold crc.step at h
  have h := crc.bits8_inj h
  have h2 := congrArg (s ^^^ ·) h
  rw [← BitVec.xor_assoc, ← BitVec.xor_assoc, BitVec.xor_self, BitVec.zero_xor, BitVec.zero_xor] at h2
  rw [← crc.toNat_byte hc, ← crc.toNat_byte hd, h2]
/-- A byte that is changed changes the sum. -/
theorem sum_set (l : List Int) (j : Nat) (hj : j < l.length) (y : Int) (hl : Byte l) (hy : 0 ≤ y ∧ y < 256) (hne : y ≠ l.getD j 0) : sumOf (l.set j y) ≠ sumOf l := by
  intro h
  unfold sumOf at h
  have h := BitVec.eq_of_toNat_eq h
  have e1 : l = l.take j ++ l.getD j 0 :: l.drop (j + 1) := by
    rw [List.getD_eq_getElem?_getD, List.getElem?_eq_getElem hj, Option.getD_some, ← List.drop_eq_getElem_cons hj, List.take_append_drop]
  have e2 : l.set j y = l.take j ++ y :: l.drop (j + 1) := by
    rw [List.set_eq_take_append_cons_drop, if_pos hj]
  have hb := hl.at hj
  rw [e2] at h
  conv at h => rhs; rw [e1]
  unfold crc.sum crc.more at h
  have h : crc.run (~~~ 0#32) (l.take j ++ y :: l.drop (j + 1)) = crc.run (~~~ 0#32) (l.take j ++ l.getD j 0 :: l.drop (j + 1)) := by
    have := congrArg (~~~ ·) h
    simpa using this
  unfold crc.run at h
  rw [List.foldl_append, List.foldl_append, List.foldl_cons, List.foldl_cons] at h
  exact hne (step_byte hy hb (run_inj _ h))
theorem val_inj {a b : List Int} (hl : a.length = b.length) (ha : Byte a) (hb : Byte b) (h : val a = val b) : a = b := by
  rw [← be_val a.length a rfl ha, h, hl, be_val b.length b rfl hb]
theorem sub_set_out (l : List Int) (k : Nat) (y : Int) (p q : Nat) (h : k < p ∨ q ≤ k) : sub (l.set k y) p q = sub l p q := by
  unfold sub
  rcases h with h | h
  · rw [List.drop_set, if_pos h]
  · by_cases hp : k < p
    · rw [List.drop_set, if_pos hp]
    · rw [List.drop_set, if_neg hp, List.take_set_of_le (by omega)]
theorem sub_set_in (l : List Int) (k : Nat) (y : Int) (p q : Nat) (h1 : p ≤ k) (h2 : k < q) : sub (l.set k y) p q = (sub l p q).set (k - p) y := by
  unfold sub
  rw [List.drop_set, if_neg (by omega), List.take_set]
theorem sub_getD (l : List Int) (p q k : Nat) (h1 : p ≤ k) (h2 : k < q) : (sub l p q).getD (k - p) 0 = l.getD k 0 := by
  unfold sub
  rw [List.getD_eq_getElem?_getD, List.getElem?_take_of_lt (by omega), List.getElem?_drop, show p + (k - p) = k by omega, ← List.getD_eq_getElem?_getD]
theorem set_ne {l : List Int} {j : Nat} {y : Int} (hj : j < l.length) (hne : y ≠ l.getD j 0) : l.set j y ≠ l := by
  intro e
  have := congrArg (fun l => List.getD l j 0) e
  simp only [List.getD_eq_getElem?_getD, List.getElem?_set_self hj, Option.getD_some] at this
  rw [← List.getD_eq_getElem?_getD] at this
  exact hne this
/-- SPOILT: it is none. -/
theorem dec_spoilt (r : Rec) (h : mayB r = true) (ht : r.tenant < 4294967296) (k : Nat) (hk : k < (encL r).length) (hno : ¬ (31 ≤ k ∧ k < 35)) (y : Int) (hy : 0 ≤ y ∧ y < 256) (hne : y ≠ (encL r).getD k 0) : dec ((encL r).set k y) = (zeroRec, 0, 4) := by
  have hl := encL_length r
  have hB := encL_byte r
  have hlen : ((encL r).set k y).length = 39 + r.body.size := by rw [List.length_set, hl]
  obtain ⟨_, _, _, _, h4⟩ := May.of h
  have hs : sumOf (numL r ++ bs r.body) < 256 ^ 4 := by rw [show (256 : Nat) ^ 4 = 4294967296 by decide]; exact (crc.sum _).isLt
  cases hbeg : begB ((encL r).set k y)
  · unfold dec; rw [if_pos hbeg]
  · -- the two letters are whole
    have hk2 : 2 ≤ k := by
      refine Nat.le_of_not_lt fun hlt => ?_
      obtain ⟨c, rest, e, _⟩ := enc_front r h
      unfold begB at hbeg
      rw [hlen, show min (39 + r.body.size) 2 = 2 by omega] at hbeg
      simp only [Bool.and_eq_true, decide_eq_true_eq] at hbeg
      have h1 := hbeg.1
      rw [e] at h1 hne
      match k, hlt with
      | 0, _ => simp at h1 hne; exact hne h1
      | 1, _ => simp at h1 hne; exact hne h1
    have hlo : lenOf ((encL r).set k y) = r.body.size := by
      unfold lenOf
      rw [sub_set_out _ _ _ _ _ (by omega)]
      exact len_enc r h
    unfold dec
    rw [if_neg (by rw [hbeg]; simp), if_neg (by omega), hlo]
    cases hnum : numB (headOf ((encL r).set k y))
    · rw [if_pos (.inl rfl)]
    · rw [if_neg (by simp; omega), if_neg (by omega), if_pos]
      by_cases h35 : 35 ≤ k ∧ k < 39
      · rw [sub_set_out _ _ _ 0 35 (by omega), sub_set_out _ _ _ 39 _ (by omega), enc_nums, enc_body, sub_set_in _ _ _ 35 39 h35.1 h35.2]
        intro e
        have hv : val (sub (encL r) 35 39) = sumOf (numL r ++ bs r.body) := by rw [enc_sum, val_be 4 _ hs]
        rw [← hv] at e
        have hlx : (sub (encL r) 35 39).length = 4 := sub_length _ 35 39 (by omega)
        have := val_inj (by rw [List.length_set]) (sub_byte hB 35 39) (fun c hc => by
          rcases List.mem_or_eq_of_mem_set hc with hc | rfl
          · exact sub_byte hB 35 39 c hc
          · exact hy) e
        exact set_ne (by rw [hlx]; omega) (by rw [sub_getD _ 35 39 k h35.1 h35.2]; exact hne) this.symm
      · rw [sub_set_out _ _ _ 35 39 (by omega), enc_sum, val_be 4 _ hs]
        by_cases hlow : k < 35
        · rw [sub_set_out _ _ _ 39 _ (by omega), enc_body, sub_set_in _ _ _ 0 35 (by omega) hlow, enc_nums, Nat.sub_zero]
          have e : (numL r).set k y ++ bs r.body = (numL r ++ bs r.body).set k y := by rw [List.set_append_left _ _ (by rw [numL_length]; exact hlow)]
          rw [e]
          refine sum_set _ _ (by rw [List.length_append, numL_length]; omega) _ ((numL_byte r).append (bs_byte _)) hy ?_
          have hg := sub_getD (encL r) 0 35 k (by omega) hlow
          rw [enc_nums, Nat.sub_zero] at hg
          rw [List.getD_eq_getElem?_getD, List.getElem?_append_left (by rw [numL_length]; exact hlow), ← List.getD_eq_getElem?_getD, hg]
          exact hne
        · rw [sub_set_out _ _ _ 0 35 (by omega), enc_nums, sub_set_in _ _ _ 39 _ (by omega) (by omega), enc_body]
          have e : numL r ++ (bs r.body).set (k - 39) y = (numL r ++ bs r.body).set (k - 4) y := by
            rw [List.set_append_right _ _ (by rw [numL_length]; omega), numL_length, show k - 4 - 35 = k - 39 by omega]
          rw [e]
          refine sum_set _ _ (by rw [List.length_append, numL_length, bs_length]; omega) _ ((numL_byte r).append (bs_byte _)) hy ?_
          have hg := sub_getD (encL r) 39 (39 + r.body.size) k (by omega) (by omega)
          rw [enc_body] at hg
          rw [List.getD_eq_getElem?_getD, List.getElem?_append_right (by rw [numL_length]; omega), numL_length, show k - 4 - 35 = k - 39 by omega, ← List.getD_eq_getElem?_getD, hg]
          exact hne
end Go.Proofs.YtodajceiadbpeaaDoor.recd
