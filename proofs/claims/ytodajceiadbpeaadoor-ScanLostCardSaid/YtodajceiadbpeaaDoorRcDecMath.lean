/-
  PLAIN MATHEMATICS OF RECORDS READ BACK (P6.1): what the bytes of a record tell; a record that is cut. No program stands in it.
-/
import Derived.Test.YtodajceiadbpeaaDoorRcMath
namespace Go.Proofs.YtodajceiadbpeaaDoor.recd
open Go.RowKit Go.Proofs.YtodajceiadbpeaaDoor.num Go.Proofs.YtodajceiadbpeaaDoor.disk

theorem sub_mid (a m c : List Int) (p q : Nat) (hp : a.length = p) (hq : a.length + m.length = q) : sub (a ++ (m ++ c)) p q = m := by
  subst hp hq
  unfold sub
  rw [List.drop_left, show a.length + m.length - a.length = m.length by omega, List.take_left]
section
variable (r : Rec)
theorem enc_kind : sub (encL r) 2 3 = be r.kind.toNat 1 := by
  have e : encL r = [83, 82] ++ (be r.kind.toNat 1 ++ (be r.tenant 4 ++ be r.epoch 8 ++ be r.object 8 ++ be r.seq 8 ++ be r.body.size 4 ++ be (sumOf (numL r ++ bs r.body)) 4 ++ bs r.body)) := by simp only [encL, numL, List.append_assoc]
  rw [e]; exact sub_mid _ _ _ _ _ rfl (by simp [be_length])
theorem enc_tenant : sub (encL r) 3 7 = be r.tenant 4 := by
  have e : encL r = ([83, 82] ++ be r.kind.toNat 1) ++ (be r.tenant 4 ++ (be r.epoch 8 ++ be r.object 8 ++ be r.seq 8 ++ be r.body.size 4 ++ be (sumOf (numL r ++ bs r.body)) 4 ++ bs r.body)) := by simp only [encL, numL, List.append_assoc]
  rw [e]; exact sub_mid _ _ _ _ _ (by simp [be_length]) (by simp [be_length])
theorem enc_epoch : sub (encL r) 7 15 = be r.epoch 8 := by
  have e : encL r = ([83, 82] ++ be r.kind.toNat 1 ++ be r.tenant 4) ++ (be r.epoch 8 ++ (be r.object 8 ++ be r.seq 8 ++ be r.body.size 4 ++ be (sumOf (numL r ++ bs r.body)) 4 ++ bs r.body)) := by simp only [encL, numL, List.append_assoc]
  rw [e]; exact sub_mid _ _ _ _ _ (by simp [be_length]) (by simp [be_length])
theorem enc_object : sub (encL r) 15 23 = be r.object 8 := by
  have e : encL r = ([83, 82] ++ be r.kind.toNat 1 ++ be r.tenant 4 ++ be r.epoch 8) ++ (be r.object 8 ++ (be r.seq 8 ++ be r.body.size 4 ++ be (sumOf (numL r ++ bs r.body)) 4 ++ bs r.body)) := by simp only [encL, numL, List.append_assoc]
  rw [e]; exact sub_mid _ _ _ _ _ (by simp [be_length]) (by simp [be_length])
theorem enc_seq : sub (encL r) 23 31 = be r.seq 8 := by
  have e : encL r = ([83, 82] ++ be r.kind.toNat 1 ++ be r.tenant 4 ++ be r.epoch 8 ++ be r.object 8) ++ (be r.seq 8 ++ (be r.body.size 4 ++ be (sumOf (numL r ++ bs r.body)) 4 ++ bs r.body)) := by simp only [encL, numL, List.append_assoc]
  rw [e]; exact sub_mid _ _ _ _ _ (by simp [be_length]) (by simp [be_length])
theorem enc_size : sub (encL r) 31 35 = be r.body.size 4 := by
  have e : encL r = ([83, 82] ++ be r.kind.toNat 1 ++ be r.tenant 4 ++ be r.epoch 8 ++ be r.object 8 ++ be r.seq 8) ++ (be r.body.size 4 ++ (be (sumOf (numL r ++ bs r.body)) 4 ++ bs r.body)) := by simp only [encL, numL, List.append_assoc]
  rw [e]; exact sub_mid _ _ _ _ _ (by simp [be_length]) (by simp [be_length])
theorem enc_nums : sub (encL r) 0 35 = numL r := by
  have e : encL r = [] ++ (numL r ++ (be (sumOf (numL r ++ bs r.body)) 4 ++ bs r.body)) := by simp only [encL, List.nil_append, List.append_assoc]
  rw [e]; exact sub_mid _ _ _ _ _ rfl (by simp [numL_length])
theorem enc_sum : sub (encL r) 35 39 = be (sumOf (numL r ++ bs r.body)) 4 := by
  have e : encL r = numL r ++ (be (sumOf (numL r ++ bs r.body)) 4 ++ bs r.body) := by simp only [encL, List.append_assoc]
  rw [e]; exact sub_mid _ _ _ _ _ (numL_length r) (by simp [numL_length, be_length])
theorem enc_body : sub (encL r) 39 (39 + r.body.size) = bs r.body := by
  have e : encL r = (numL r ++ be (sumOf (numL r ++ bs r.body)) 4) ++ (bs r.body ++ []) := by simp only [encL, List.append_nil]
  rw [e]; exact sub_mid _ _ _ _ _ (by simp [numL_length, be_length]) (by simp only [List.length_append, numL_length, be_length, bs_length])
end
/-- The numbers are those of one that may be. -/
theorem May.of {r : Rec} (h : mayB r = true) : (1 ≤ r.kind ∧ r.kind ≤ 4) ∧ r.epoch ≤ 1099511627776 ∧ r.object ≤ 1099511627776 ∧ r.seq ≤ 1099511627776 ∧ r.body.size ≤ 1000 := by
  unfold mayB numB isKindB at h
  simp only [Bool.and_eq_true, decide_eq_true_eq] at h
  exact ⟨h.1.1, h.1.2.1, h.1.2.2.1, h.1.2.2.2, h.2⟩
theorem head_enc (r : Rec) (h : mayB r = true) (ht : r.tenant < 4294967296) : headOf (encL r) = { r with body := ByteArray.empty } := by
  obtain ⟨⟨k1, k2⟩, h1, h2, h3, _⟩ := May.of h
  unfold headOf
  rw [enc_kind, enc_tenant, enc_epoch, enc_object, enc_seq, val_be 1 _ (by omega), val_be 4 _ (by rw [show (256 : Nat) ^ 4 = 4294967296 by decide]; exact ht), val_be 8 _ (by rw [show (256 : Nat) ^ 8 = 18446744073709551616 by decide]; omega),
    val_be 8 _ (by rw [show (256 : Nat) ^ 8 = 18446744073709551616 by decide]; omega), val_be 8 _ (by rw [show (256 : Nat) ^ 8 = 18446744073709551616 by decide]; omega), show ((r.kind.toNat : Nat) : Int) = r.kind by omega]
theorem len_enc (r : Rec) (h : mayB r = true) : lenOf (encL r) = r.body.size := by
  obtain ⟨_, _, _, _, h4⟩ := May.of h
  unfold lenOf
  rw [enc_size, val_be 4 _ (by rw [show (256 : Nat) ^ 4 = 4294967296 by decide]; omega)]
theorem num_head {r : Rec} (h : mayB r = true) : numB { r with body := ByteArray.empty } = true := by
  have : numB { r with body := ByteArray.empty } = numB r := rfl
  rw [this]
  unfold mayB at h
  simp only [Bool.and_eq_true] at h
  exact h.1
theorem enc_front (r : Rec) (h : mayB r = true) : ∃ c rest, encL r = 83 :: 82 :: c :: rest ∧ isKindB c = true := by
  obtain ⟨⟨k1, k2⟩, _⟩ := May.of h
  refine ⟨((r.kind.toNat % 256 : Nat) : Int), be r.tenant 4 ++ be r.epoch 8 ++ be r.object 8 ++ be r.seq 8 ++ be r.body.size 4 ++ be (sumOf (numL r ++ bs r.body)) 4 ++ bs r.body, ?_, ?_⟩
  · simp [encL, numL, be]
  · unfold isKindB; rw [decide_eq_true_eq]; omega
theorem beg_take (r : Rec) (h : mayB r = true) (k : Nat) : begB ((encL r).take k) = true := by
  obtain ⟨c, rest, e, hc⟩ := enc_front r h
  rw [e]
  match k with
  | 0 => rfl
  | 1 => rfl
  | 2 => rfl
  | k + 3 =>
    simp only [List.take_succ_cons]
    unfold begB
    rw [show min (83 :: 82 :: c :: List.take k rest).length 2 = 2 by simp only [List.length_cons]; omega]
    have e1 : decide (List.take 2 (83 :: 82 :: c :: List.take k rest) = List.take 2 ([83, 82] : List Int)) = true := decide_eq_true rfl
    have e2 : isKindB ((83 :: 82 :: c :: List.take k rest).getD 2 0) = true := hc
    rw [e1, e2]
    simp
/-- A record's bytes are read back, whatever stands behind them. -/
theorem sub_front (a c : List Int) (p q : Nat) (h : q ≤ a.length) : sub (a ++ c) p q = sub a p q := by
  unfold sub
  by_cases hp : p ≤ a.length
  · rw [List.drop_append_of_le_length hp, List.take_append_of_le_length (by rw [List.length_drop]; omega)]
  · rw [show q - p = 0 by omega, List.take_zero, List.take_zero]
theorem dec_enc (r : Rec) (h : mayB r = true) (ht : r.tenant < 4294967296) : dec (encL r) = (r, 39 + r.body.size, 0) := by
  have hb := beg_take r h (encL r).length
  rw [List.take_length] at hb
  have hl := encL_length r
  obtain ⟨_, _, _, _, h4⟩ := May.of h
  have hs : sumOf (numL r ++ bs r.body) < 256 ^ 4 := by rw [show (256 : Nat) ^ 4 = 4294967296 by decide]; exact (crc.sum _).isLt
  unfold dec
  rw [if_neg (by rw [hb]; simp), if_neg (by omega), head_enc r h ht, len_enc r h, if_neg (by rw [num_head h]; simp; omega), if_neg (by omega), enc_nums, enc_body, enc_sum, val_be 4 _ hs, if_neg (by simp), str_bs]
theorem dec_cut (r : Rec) (h : mayB r = true) (ht : r.tenant < 4294967296) (k : Nat) (hk : k < (encL r).length) : dec ((encL r).take k) = (zeroRec, 0, 11) := by
  have hb := beg_take r h k
  have hl := encL_length r
  have hlen : ((encL r).take k).length = k := by rw [List.length_take]; omega
  obtain ⟨_, _, _, _, h4⟩ := May.of h
  unfold dec
  rw [if_neg (by rw [hb]; simp)]
  by_cases h1 : k < 39
  · rw [if_pos (by omega)]
  · have hsub : ∀ p q, q ≤ 39 → sub ((encL r).take k) p q = sub (encL r) p q := fun p q hq => by
      conv => rhs; rw [← List.take_append_drop k (encL r)]
      rw [sub_front _ _ _ _ (by omega)]
    have hh : headOf ((encL r).take k) = headOf (encL r) := by
      unfold headOf
      rw [hsub 2 3 (by omega), hsub 3 7 (by omega), hsub 7 15 (by omega), hsub 15 23 (by omega), hsub 23 31 (by omega)]
    have hn : lenOf ((encL r).take k) = lenOf (encL r) := by unfold lenOf; rw [hsub 31 35 (by omega)]
    rw [if_neg (by omega), hh, hn, head_enc r h ht, len_enc r h, if_neg (by rw [num_head h]; simp; omega), if_pos (by omega)]
end Go.Proofs.YtodajceiadbpeaaDoor.recd
