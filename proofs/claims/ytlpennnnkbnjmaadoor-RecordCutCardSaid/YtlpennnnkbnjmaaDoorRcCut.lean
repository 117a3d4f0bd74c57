/-
  THE WALK OF "RecordCut".
-/
import Derived.Test.YtlpennnnkbnjmaaDoorRcLawB
namespace Go.Proofs.YtlpennnnkbnjmaaDoor.recd
open Go.RowKit Go.Proofs.YtlpennnnkbnjmaaDoor.num Go.Proofs.YtlpennnnkbnjmaaDoor.disk
set_option linter.unusedVariables false

set_option maxRecDepth 100000 in
set_option maxHeartbeats 2000000 in
theorem cut_no (w : World) (hT : crc.Tab w) (r : Rec) (hf : r.Fit) (q : Int) (hm : mayB (cutR r 200) = false) : Calls Tryd.prog 5 #[r.val, .int .i64 q] w fun e w' => e = .returned (.bool true) ∧ Below w.heap.size w w' := by
  have CB := fun W hW => begun_any W hW
  have CC := fun W => cutRec_any r 200 (by decide) hf W
  have hcf : (cutR r 200).Fit := ⟨hf.kind, hf.tenant, by have := cutS_size r.body 200; have h2 := hf.body; show (cutS r.body 200).size ≤ maxLen; omega⟩
  have CM := fun W => rMay_any (cutR r 200) W hcf
  have CE := fun W hW => Encode_any (cutR r 200) W hW hcf
  have hcs : (cutR r 200).body.size ≤ 200 := by have := cutS_size r.body 200; show (cutS r.body 200).size ≤ 200; omega
  rw [hm] at CM
  obtain ⟨k, t, e, o, s, b⟩ := r
  unfold cutR Rec.val at *
  simp only at CB CC CM CE ⊢
  obtain ⟨c, hc⟩ : ∃ c, cutS b 200 = c := ⟨_, rfl⟩
  rw [hc] at CC CM CE
  have HCB := Lib.hid CB
  have HCC := Lib.hid CC
  have HCM := Lib.hid CM
  have HCE := Lib.hid CE
  have HT := Lib.hid hT
  have HF := Lib.hid hf
  clear CB CC CM CE hT hf hm hc hcf hcs
  go_enter Tryd.func5, Tryd.ntmps5
  go_wp2_with fail
  obtain ⟨p, hp⟩ : ∃ p, w.heap.size = p := ⟨_, rfl⟩
  have b0 : Below w.heap.size w (w.alloc (.cells #[.int .i64 k, .int .u32 (t : Int), .int .u64 (e : Int), .int .u64 (o : Int), .int .u64 (s : Int), .string b] 25)) := (Below.refl _ _).alloc (Nat.le_refl _) _
  have wh0 : Whole (w.alloc (.cells #[.int .i64 k, .int .u32 (t : Int), .int .u64 (e : Int), .int .u64 (o : Int), .int .u64 (s : Int), .string b] 25)) p 25 [.int .i64 k, .int .u32 (t : Int), .int .u64 (e : Int), .int .u64 (o : Int), .int .u64 (s : Int), .string b] := Whole.new_ hp.symm rfl
  have T0 := HT.out.later b0
  refine (HCB.out _ T0).mono ?_
  rintro en w1 ⟨rfl, b1⟩
  have W1 := Lib.hid (wh0.kept b1)
  have B1 := Lib.hid (b0.trans (b1.mono b0.size))
  have T1 := Lib.hid (T0.later b1)
  rw [hp]
  have HP := Lib.hid hp
  clear b0 wh0 T0 b1 hp HCB
  go_wp2_with ((with_reducible show wpList _ _ _ (⟨some 13, _, _, _, _, _⟩ :: _) _ _); refine wpList_load_mid rfl 25 (.tmp 2) rfl p 0 rfl [.int .i64 k, .int .u32 (t : Int), .int .u64 (e : Int), .int .u64 (o : Int), .int .u64 (s : Int), .string b] _ (W1.out.range 0 6) Tryd.underlying25 rfl recInfo ?_)
  refine (HCC.out w1).mono ?_
  rintro en w2 ⟨rfl, b2⟩
  have W2 := Lib.hid (W1.out.kept b2)
  have B2 := Lib.hid (B1.out.trans (b2.mono B1.out.size))
  have T2 := Lib.hid (T1.out.later b2)
  clear b2 W1 B1 T1
  go_wp2_with (first | ((with_reducible show wpList _ _ _ (⟨none, _, _, _, _, _⟩ :: _) _ _); refine wpList_store_as rfl 25 (.tmp 2) (.tmp 14) rfl p 0 #[.int .i64 k, .int .u32 (t : Int), .int .u64 (e : Int), .int .u64 (o : Int), .int .u64 (s : Int), .string c] rfl rfl (Whole.there W2.out 0 6 (Nat.le_refl 6)) recInfo (by simp [Value.oneCell']) ?_; intro w3 hw3; have HW3 := Lib.hid hw3; clear hw3) | ((with_reducible show wpList _ _ _ (⟨some 15, _, _, _, _, _⟩ :: _) _ _); refine wpList_load_mid rfl 25 (.tmp 2) rfl p 0 rfl [.int .i64 k, .int .u32 (t : Int), .int .u64 (e : Int), .int .u64 (o : Int), .int .u64 (s : Int), .string c] _ (by rw [← HW3.out]; exact Whole.range (Whole.lay [.int .i64 k, .int .u32 (t : Int), .int .u64 (e : Int), .int .u64 (o : Int), .int .u64 (s : Int), .string c] 0 W2.out (Nat.le_refl 6)) 0 6) Tryd.underlying25 rfl recInfo ?_))
  have wh3 : Whole w3 p 25 [.int .i64 k, .int .u32 (t : Int), .int .u64 (e : Int), .int .u64 (o : Int), .int .u64 (s : Int), .string c] := by rw [← HW3.out]; exact Whole.lay [.int .i64 k, .int .u32 (t : Int), .int .u64 (e : Int), .int .u64 (o : Int), .int .u64 (s : Int), .string c] 0 W2.out (Nat.le_refl 6)
  have b3 : Below w.heap.size w w3 := by rw [← HW3.out]; exact below_lay _ _ _ B2.out (by rw [HP.out]; exact Nat.le_refl _)
  have t3 : crc.Tab w3 := HT.out.later b3
  have W3 := Lib.hid wh3
  have B3 := Lib.hid b3
  have T3 := Lib.hid t3
  clear wh3 b3 t3 HW3 W2 B2 T2
  refine (HCM.out w3).mono ?_
  rintro en w4 ⟨rfl, b4⟩
  have W4 := Lib.hid (W3.out.kept b4)
  have B4 := Lib.hid (B3.out.trans (b4.mono B3.out.size))
  have T4 := Lib.hid (T3.out.later b4)
  clear b4 W3 B3 T3
  go_wp2_with fail
  go_ret
  exact ⟨rfl, B4.out⟩
set_option maxRecDepth 100000 in
set_option maxHeartbeats 2000000 in
theorem cut_few (w : World) (hT : crc.Tab w) (r : Rec) (hf : r.Fit) (q : Int) (hm : mayB (cutR r 200) = true) (h1 : q < 1) : Calls Tryd.prog 5 #[r.val, .int .i64 q] w fun e w' => e = .returned (.bool true) ∧ Below w.heap.size w w' := by
  have CB := fun W hW => begun_any W hW
  have CC := fun W => cutRec_any r 200 (by decide) hf W
  have hcf : (cutR r 200).Fit := ⟨hf.kind, hf.tenant, by have := cutS_size r.body 200; have h2 := hf.body; show (cutS r.body 200).size ≤ maxLen; omega⟩
  have CM := fun W => rMay_any (cutR r 200) W hcf
  have CE := fun W hW => Encode_any (cutR r 200) W hW hcf
  have hcs : (cutR r 200).body.size ≤ 200 := by have := cutS_size r.body 200; show (cutS r.body 200).size ≤ 200; omega
  rw [hm] at CM
  have hel : (enc (cutR r 200)).length = 39 + (cutR r 200).body.size := by rw [enc, hm, if_pos rfl, encL_length]
  have hee : enc (cutR r 200) = encL (cutR r 200) := by rw [enc, hm, if_pos rfl]
  have hby := encL_byte (cutR r 200)
  rw [← hee] at hby
  obtain ⟨el, hell⟩ : ∃ el, enc (cutR r 200) = el := ⟨_, rfl⟩
  rw [hell] at CE hel hby hee
  obtain ⟨sz, hsz⟩ : ∃ sz, (cutR r 200).body.size = sz := ⟨_, rfl⟩
  rw [hsz] at hel hcs
  
  have HEE := Lib.hid hee
  have HBY := Lib.hid hby
  have HEL := Lib.hid hel
  have HSZ := Lib.hid hsz
  clear hell hee hby hel hsz
  obtain ⟨k, t, e, o, s, b⟩ := r
  unfold cutR Rec.val at *
  simp only at CB CC CM CE ⊢
  obtain ⟨c, hc⟩ : ∃ c, cutS b 200 = c := ⟨_, rfl⟩
  rw [hc] at CC CM CE
  have HCB := Lib.hid CB
  have HCC := Lib.hid CC
  have HCM := Lib.hid CM
  have HCE := Lib.hid CE
  have HT := Lib.hid hT
  have HF := Lib.hid hf
  clear CB CC CM CE hT hf hm hc hcf
  go_enter Tryd.func5, Tryd.ntmps5
  go_wp2_with fail
  obtain ⟨p, hp⟩ : ∃ p, w.heap.size = p := ⟨_, rfl⟩
  have b0 : Below w.heap.size w (w.alloc (.cells #[.int .i64 k, .int .u32 (t : Int), .int .u64 (e : Int), .int .u64 (o : Int), .int .u64 (s : Int), .string b] 25)) := (Below.refl _ _).alloc (Nat.le_refl _) _
  have wh0 : Whole (w.alloc (.cells #[.int .i64 k, .int .u32 (t : Int), .int .u64 (e : Int), .int .u64 (o : Int), .int .u64 (s : Int), .string b] 25)) p 25 [.int .i64 k, .int .u32 (t : Int), .int .u64 (e : Int), .int .u64 (o : Int), .int .u64 (s : Int), .string b] := Whole.new_ hp.symm rfl
  have T0 := HT.out.later b0
  refine (HCB.out _ T0).mono ?_
  rintro en w1 ⟨rfl, b1⟩
  have W1 := Lib.hid (wh0.kept b1)
  have B1 := Lib.hid (b0.trans (b1.mono b0.size))
  have T1 := Lib.hid (T0.later b1)
  rw [hp]
  have HP := Lib.hid hp
  clear b0 wh0 T0 b1 hp HCB
  go_wp2_with ((with_reducible show wpList _ _ _ (⟨some 13, _, _, _, _, _⟩ :: _) _ _); refine wpList_load_mid rfl 25 (.tmp 2) rfl p 0 rfl [.int .i64 k, .int .u32 (t : Int), .int .u64 (e : Int), .int .u64 (o : Int), .int .u64 (s : Int), .string b] _ (W1.out.range 0 6) Tryd.underlying25 rfl recInfo ?_)
  refine (HCC.out w1).mono ?_
  rintro en w2 ⟨rfl, b2⟩
  have W2 := Lib.hid (W1.out.kept b2)
  have B2 := Lib.hid (B1.out.trans (b2.mono B1.out.size))
  have T2 := Lib.hid (T1.out.later b2)
  clear b2 W1 B1 T1
  go_wp2_with (first | ((with_reducible show wpList _ _ _ (⟨none, _, _, _, _, _⟩ :: _) _ _); refine wpList_store_as rfl 25 (.tmp 2) (.tmp 14) rfl p 0 #[.int .i64 k, .int .u32 (t : Int), .int .u64 (e : Int), .int .u64 (o : Int), .int .u64 (s : Int), .string c] rfl rfl (Whole.there W2.out 0 6 (Nat.le_refl 6)) recInfo (by simp [Value.oneCell']) ?_; intro w3 hw3; have HW3 := Lib.hid hw3; clear hw3) | ((with_reducible show wpList _ _ _ (⟨some 15, _, _, _, _, _⟩ :: _) _ _); refine wpList_load_mid rfl 25 (.tmp 2) rfl p 0 rfl [.int .i64 k, .int .u32 (t : Int), .int .u64 (e : Int), .int .u64 (o : Int), .int .u64 (s : Int), .string c] _ (by rw [← HW3.out]; exact Whole.range (Whole.lay [.int .i64 k, .int .u32 (t : Int), .int .u64 (e : Int), .int .u64 (o : Int), .int .u64 (s : Int), .string c] 0 W2.out (Nat.le_refl 6)) 0 6) Tryd.underlying25 rfl recInfo ?_))
  have wh3 : Whole w3 p 25 [.int .i64 k, .int .u32 (t : Int), .int .u64 (e : Int), .int .u64 (o : Int), .int .u64 (s : Int), .string c] := by rw [← HW3.out]; exact Whole.lay [.int .i64 k, .int .u32 (t : Int), .int .u64 (e : Int), .int .u64 (o : Int), .int .u64 (s : Int), .string c] 0 W2.out (Nat.le_refl 6)
  have b3 : Below w.heap.size w w3 := by rw [← HW3.out]; exact below_lay _ _ _ B2.out (by rw [HP.out]; exact Nat.le_refl _)
  have t3 : crc.Tab w3 := HT.out.later b3
  have W3 := Lib.hid wh3
  have B3 := Lib.hid b3
  have T3 := Lib.hid t3
  clear wh3 b3 t3 HW3 W2 B2 T2
  refine (HCM.out w3).mono ?_
  rintro en w4 ⟨rfl, b4⟩
  have W4 := Lib.hid (W3.out.kept b4)
  have B4 := Lib.hid (B3.out.trans (b4.mono B3.out.size))
  have T4 := Lib.hid (T3.out.later b4)
  clear b4 W3 B3 T3
  go_wp2_with ((with_reducible show wpList _ _ _ (⟨some 18, _, _, _, _, _⟩ :: _) _ _); refine wpList_load_mid rfl 25 (.tmp 2) rfl p 0 rfl [.int .i64 k, .int .u32 (t : Int), .int .u64 (e : Int), .int .u64 (o : Int), .int .u64 (s : Int), .string c] _ (W4.out.range 0 6) Tryd.underlying25 rfl recInfo ?_)
  refine (HCE.out w4 T4.out).mono ?_
  rintro en w5 hmade
  obtain ⟨v, rfl, o5, n5, b5⟩ := hmade
  have B5 := Lib.hid (B4.out.trans (b5.mono B4.out.size))
  have T5 := Lib.hid (T4.out.later b5)
  obtain ⟨a, cap, ev, hcap, _, _, l5, _⟩ := o5.form
  rw [HEL.out] at ev hcap
  subst ev
  have L5 := Lib.hid l5
  clear o5 n5 b5 l5
  go_wp2_with fail
  go_ret
  exact ⟨rfl, B5.out⟩
set_option maxRecDepth 100000 in
set_option maxHeartbeats 2000000 in
theorem cut_many (w : World) (hT : crc.Tab w) (r : Rec) (hf : r.Fit) (q : Int) (hm : mayB (cutR r 200) = true) (h1 : ¬ q < 1) (h2 : 39 + ((cutR r 200).body.size : Int) < q) : Calls Tryd.prog 5 #[r.val, .int .i64 q] w fun e w' => e = .returned (.bool true) ∧ Below w.heap.size w w' := by
  have CB := fun W hW => begun_any W hW
  have CC := fun W => cutRec_any r 200 (by decide) hf W
  have hcf : (cutR r 200).Fit := ⟨hf.kind, hf.tenant, by have := cutS_size r.body 200; have h2 := hf.body; show (cutS r.body 200).size ≤ maxLen; omega⟩
  have CM := fun W => rMay_any (cutR r 200) W hcf
  have CE := fun W hW => Encode_any (cutR r 200) W hW hcf
  have hcs : (cutR r 200).body.size ≤ 200 := by have := cutS_size r.body 200; show (cutS r.body 200).size ≤ 200; omega
  rw [hm] at CM
  have hel : (enc (cutR r 200)).length = 39 + (cutR r 200).body.size := by rw [enc, hm, if_pos rfl, encL_length]
  have hee : enc (cutR r 200) = encL (cutR r 200) := by rw [enc, hm, if_pos rfl]
  have hby := encL_byte (cutR r 200)
  rw [← hee] at hby
  obtain ⟨el, hell⟩ : ∃ el, enc (cutR r 200) = el := ⟨_, rfl⟩
  rw [hell] at CE hel hby hee
  obtain ⟨sz, hsz⟩ : ∃ sz, (cutR r 200).body.size = sz := ⟨_, rfl⟩
  rw [hsz] at hel hcs
  rw [hsz] at h2
  have HEE := Lib.hid hee
  have HBY := Lib.hid hby
  have HEL := Lib.hid hel
  have HSZ := Lib.hid hsz
  clear hell hee hby hel hsz
  obtain ⟨k, t, e, o, s, b⟩ := r
  unfold cutR Rec.val at *
  simp only at CB CC CM CE ⊢
  obtain ⟨c, hc⟩ : ∃ c, cutS b 200 = c := ⟨_, rfl⟩
  rw [hc] at CC CM CE
  have HCB := Lib.hid CB
  have HCC := Lib.hid CC
  have HCM := Lib.hid CM
  have HCE := Lib.hid CE
  have HT := Lib.hid hT
  have HF := Lib.hid hf
  clear CB CC CM CE hT hf hm hc hcf
  go_enter Tryd.func5, Tryd.ntmps5
  go_wp2_with fail
  obtain ⟨p, hp⟩ : ∃ p, w.heap.size = p := ⟨_, rfl⟩
  have b0 : Below w.heap.size w (w.alloc (.cells #[.int .i64 k, .int .u32 (t : Int), .int .u64 (e : Int), .int .u64 (o : Int), .int .u64 (s : Int), .string b] 25)) := (Below.refl _ _).alloc (Nat.le_refl _) _
  have wh0 : Whole (w.alloc (.cells #[.int .i64 k, .int .u32 (t : Int), .int .u64 (e : Int), .int .u64 (o : Int), .int .u64 (s : Int), .string b] 25)) p 25 [.int .i64 k, .int .u32 (t : Int), .int .u64 (e : Int), .int .u64 (o : Int), .int .u64 (s : Int), .string b] := Whole.new_ hp.symm rfl
  have T0 := HT.out.later b0
  refine (HCB.out _ T0).mono ?_
  rintro en w1 ⟨rfl, b1⟩
  have W1 := Lib.hid (wh0.kept b1)
  have B1 := Lib.hid (b0.trans (b1.mono b0.size))
  have T1 := Lib.hid (T0.later b1)
  rw [hp]
  have HP := Lib.hid hp
  clear b0 wh0 T0 b1 hp HCB
  go_wp2_with ((with_reducible show wpList _ _ _ (⟨some 13, _, _, _, _, _⟩ :: _) _ _); refine wpList_load_mid rfl 25 (.tmp 2) rfl p 0 rfl [.int .i64 k, .int .u32 (t : Int), .int .u64 (e : Int), .int .u64 (o : Int), .int .u64 (s : Int), .string b] _ (W1.out.range 0 6) Tryd.underlying25 rfl recInfo ?_)
  refine (HCC.out w1).mono ?_
  rintro en w2 ⟨rfl, b2⟩
  have W2 := Lib.hid (W1.out.kept b2)
  have B2 := Lib.hid (B1.out.trans (b2.mono B1.out.size))
  have T2 := Lib.hid (T1.out.later b2)
  clear b2 W1 B1 T1
  go_wp2_with (first | ((with_reducible show wpList _ _ _ (⟨none, _, _, _, _, _⟩ :: _) _ _); refine wpList_store_as rfl 25 (.tmp 2) (.tmp 14) rfl p 0 #[.int .i64 k, .int .u32 (t : Int), .int .u64 (e : Int), .int .u64 (o : Int), .int .u64 (s : Int), .string c] rfl rfl (Whole.there W2.out 0 6 (Nat.le_refl 6)) recInfo (by simp [Value.oneCell']) ?_; intro w3 hw3; have HW3 := Lib.hid hw3; clear hw3) | ((with_reducible show wpList _ _ _ (⟨some 15, _, _, _, _, _⟩ :: _) _ _); refine wpList_load_mid rfl 25 (.tmp 2) rfl p 0 rfl [.int .i64 k, .int .u32 (t : Int), .int .u64 (e : Int), .int .u64 (o : Int), .int .u64 (s : Int), .string c] _ (by rw [← HW3.out]; exact Whole.range (Whole.lay [.int .i64 k, .int .u32 (t : Int), .int .u64 (e : Int), .int .u64 (o : Int), .int .u64 (s : Int), .string c] 0 W2.out (Nat.le_refl 6)) 0 6) Tryd.underlying25 rfl recInfo ?_))
  have wh3 : Whole w3 p 25 [.int .i64 k, .int .u32 (t : Int), .int .u64 (e : Int), .int .u64 (o : Int), .int .u64 (s : Int), .string c] := by rw [← HW3.out]; exact Whole.lay [.int .i64 k, .int .u32 (t : Int), .int .u64 (e : Int), .int .u64 (o : Int), .int .u64 (s : Int), .string c] 0 W2.out (Nat.le_refl 6)
  have b3 : Below w.heap.size w w3 := by rw [← HW3.out]; exact below_lay _ _ _ B2.out (by rw [HP.out]; exact Nat.le_refl _)
  have t3 : crc.Tab w3 := HT.out.later b3
  have W3 := Lib.hid wh3
  have B3 := Lib.hid b3
  have T3 := Lib.hid t3
  clear wh3 b3 t3 HW3 W2 B2 T2
  refine (HCM.out w3).mono ?_
  rintro en w4 ⟨rfl, b4⟩
  have W4 := Lib.hid (W3.out.kept b4)
  have B4 := Lib.hid (B3.out.trans (b4.mono B3.out.size))
  have T4 := Lib.hid (T3.out.later b4)
  clear b4 W3 B3 T3
  go_wp2_with ((with_reducible show wpList _ _ _ (⟨some 18, _, _, _, _, _⟩ :: _) _ _); refine wpList_load_mid rfl 25 (.tmp 2) rfl p 0 rfl [.int .i64 k, .int .u32 (t : Int), .int .u64 (e : Int), .int .u64 (o : Int), .int .u64 (s : Int), .string c] _ (W4.out.range 0 6) Tryd.underlying25 rfl recInfo ?_)
  refine (HCE.out w4 T4.out).mono ?_
  rintro en w5 hmade
  obtain ⟨v, rfl, o5, n5, b5⟩ := hmade
  have B5 := Lib.hid (B4.out.trans (b5.mono B4.out.size))
  have T5 := Lib.hid (T4.out.later b5)
  obtain ⟨a, cap, ev, hcap, _, _, l5, _⟩ := o5.form
  rw [HEL.out] at ev hcap
  subst ev
  have L5 := Lib.hid l5
  clear o5 n5 b5 l5
  go_wp2_with fail
  go_ret
  exact ⟨rfl, B5.out⟩
set_option maxRecDepth 100000 in
set_option maxHeartbeats 2000000 in
theorem cut_some (w : World) (hT : crc.Tab w) (r : Rec) (hf : r.Fit) (q : Nat) (hm : mayB (cutR r 200) = true) (h1 : ¬ (q : Int) < 1) (h2 : ¬ 39 + ((cutR r 200).body.size : Int) < (q : Int)) : Calls Tryd.prog 5 #[r.val, .int .i64 (q : Int)] w fun e w' => e = .returned (.bool true) ∧ Below w.heap.size w w' := by
  have CB := fun W hW => begun_any W hW
  have CC := fun W => cutRec_any r 200 (by decide) hf W
  have hcf : (cutR r 200).Fit := ⟨hf.kind, hf.tenant, by have := cutS_size r.body 200; have h2 := hf.body; show (cutS r.body 200).size ≤ maxLen; omega⟩
  have CM := fun W => rMay_any (cutR r 200) W hcf
  have CE := fun W hW => Encode_any (cutR r 200) W hW hcf
  have hcs : (cutR r 200).body.size ≤ 200 := by have := cutS_size r.body 200; show (cutS r.body 200).size ≤ 200; omega
  rw [hm] at CM
  have hel : (enc (cutR r 200)).length = 39 + (cutR r 200).body.size := by rw [enc, hm, if_pos rfl, encL_length]
  have hee : enc (cutR r 200) = encL (cutR r 200) := by rw [enc, hm, if_pos rfl]
  have hby := encL_byte (cutR r 200)
  rw [← hee] at hby
  obtain ⟨el, hell⟩ : ∃ el, enc (cutR r 200) = el := ⟨_, rfl⟩
  rw [hell] at CE hel hby hee
  obtain ⟨sz, hsz⟩ : ∃ sz, (cutR r 200).body.size = sz := ⟨_, rfl⟩
  rw [hsz] at hel hcs
  have hdec : dec (el.take (39 + sz - q)) = (zeroRec, 0, 11) := by rw [hee]; exact dec_cut _ hm hf.tenant _ (by rw [encL_length, hsz]; omega)
  rw [hsz] at h2
  have HDEC := Lib.hid hdec
  clear hdec
  have HEE := Lib.hid hee
  have HBY := Lib.hid hby
  have HEL := Lib.hid hel
  have HSZ := Lib.hid hsz
  clear hell hee hby hel hsz
  obtain ⟨k, t, e, o, s, b⟩ := r
  unfold cutR Rec.val at *
  simp only at CB CC CM CE ⊢
  obtain ⟨c, hc⟩ : ∃ c, cutS b 200 = c := ⟨_, rfl⟩
  rw [hc] at CC CM CE
  have HCB := Lib.hid CB
  have HCC := Lib.hid CC
  have HCM := Lib.hid CM
  have HCE := Lib.hid CE
  have HT := Lib.hid hT
  have HF := Lib.hid hf
  clear CB CC CM CE hT hf hm hc hcf
  go_enter Tryd.func5, Tryd.ntmps5
  go_wp2_with fail
  obtain ⟨p, hp⟩ : ∃ p, w.heap.size = p := ⟨_, rfl⟩
  have b0 : Below w.heap.size w (w.alloc (.cells #[.int .i64 k, .int .u32 (t : Int), .int .u64 (e : Int), .int .u64 (o : Int), .int .u64 (s : Int), .string b] 25)) := (Below.refl _ _).alloc (Nat.le_refl _) _
  have wh0 : Whole (w.alloc (.cells #[.int .i64 k, .int .u32 (t : Int), .int .u64 (e : Int), .int .u64 (o : Int), .int .u64 (s : Int), .string b] 25)) p 25 [.int .i64 k, .int .u32 (t : Int), .int .u64 (e : Int), .int .u64 (o : Int), .int .u64 (s : Int), .string b] := Whole.new_ hp.symm rfl
  have T0 := HT.out.later b0
  refine (HCB.out _ T0).mono ?_
  rintro en w1 ⟨rfl, b1⟩
  have W1 := Lib.hid (wh0.kept b1)
  have B1 := Lib.hid (b0.trans (b1.mono b0.size))
  have T1 := Lib.hid (T0.later b1)
  rw [hp]
  have HP := Lib.hid hp
  clear b0 wh0 T0 b1 hp HCB
  go_wp2_with ((with_reducible show wpList _ _ _ (⟨some 13, _, _, _, _, _⟩ :: _) _ _); refine wpList_load_mid rfl 25 (.tmp 2) rfl p 0 rfl [.int .i64 k, .int .u32 (t : Int), .int .u64 (e : Int), .int .u64 (o : Int), .int .u64 (s : Int), .string b] _ (W1.out.range 0 6) Tryd.underlying25 rfl recInfo ?_)
  refine (HCC.out w1).mono ?_
  rintro en w2 ⟨rfl, b2⟩
  have W2 := Lib.hid (W1.out.kept b2)
  have B2 := Lib.hid (B1.out.trans (b2.mono B1.out.size))
  have T2 := Lib.hid (T1.out.later b2)
  clear b2 W1 B1 T1
  go_wp2_with (first | ((with_reducible show wpList _ _ _ (⟨none, _, _, _, _, _⟩ :: _) _ _); refine wpList_store_as rfl 25 (.tmp 2) (.tmp 14) rfl p 0 #[.int .i64 k, .int .u32 (t : Int), .int .u64 (e : Int), .int .u64 (o : Int), .int .u64 (s : Int), .string c] rfl rfl (Whole.there W2.out 0 6 (Nat.le_refl 6)) recInfo (by simp [Value.oneCell']) ?_; intro w3 hw3; have HW3 := Lib.hid hw3; clear hw3) | ((with_reducible show wpList _ _ _ (⟨some 15, _, _, _, _, _⟩ :: _) _ _); refine wpList_load_mid rfl 25 (.tmp 2) rfl p 0 rfl [.int .i64 k, .int .u32 (t : Int), .int .u64 (e : Int), .int .u64 (o : Int), .int .u64 (s : Int), .string c] _ (by rw [← HW3.out]; exact Whole.range (Whole.lay [.int .i64 k, .int .u32 (t : Int), .int .u64 (e : Int), .int .u64 (o : Int), .int .u64 (s : Int), .string c] 0 W2.out (Nat.le_refl 6)) 0 6) Tryd.underlying25 rfl recInfo ?_))
  have wh3 : Whole w3 p 25 [.int .i64 k, .int .u32 (t : Int), .int .u64 (e : Int), .int .u64 (o : Int), .int .u64 (s : Int), .string c] := by rw [← HW3.out]; exact Whole.lay [.int .i64 k, .int .u32 (t : Int), .int .u64 (e : Int), .int .u64 (o : Int), .int .u64 (s : Int), .string c] 0 W2.out (Nat.le_refl 6)
  have b3 : Below w.heap.size w w3 := by rw [← HW3.out]; exact below_lay _ _ _ B2.out (by rw [HP.out]; exact Nat.le_refl _)
  have t3 : crc.Tab w3 := HT.out.later b3
  have W3 := Lib.hid wh3
  have B3 := Lib.hid b3
  have T3 := Lib.hid t3
  clear wh3 b3 t3 HW3 W2 B2 T2
  refine (HCM.out w3).mono ?_
  rintro en w4 ⟨rfl, b4⟩
  have W4 := Lib.hid (W3.out.kept b4)
  have B4 := Lib.hid (B3.out.trans (b4.mono B3.out.size))
  have T4 := Lib.hid (T3.out.later b4)
  clear b4 W3 B3 T3
  go_wp2_with ((with_reducible show wpList _ _ _ (⟨some 18, _, _, _, _, _⟩ :: _) _ _); refine wpList_load_mid rfl 25 (.tmp 2) rfl p 0 rfl [.int .i64 k, .int .u32 (t : Int), .int .u64 (e : Int), .int .u64 (o : Int), .int .u64 (s : Int), .string c] _ (W4.out.range 0 6) Tryd.underlying25 rfl recInfo ?_)
  refine (HCE.out w4 T4.out).mono ?_
  rintro en w5 hmade
  obtain ⟨v, rfl, o5, n5, b5⟩ := hmade
  have B5 := Lib.hid (B4.out.trans (b5.mono B4.out.size))
  have T5 := Lib.hid (T4.out.later b5)
  obtain ⟨a, cap, ev, hcap, _, _, l5, _⟩ := o5.form
  rw [HEL.out] at ev hcap
  subst ev
  have L5 := Lib.hid l5
  clear o5 n5 b5 l5
  have hsl : ∀ W, (Instr.slice 28 (.slice a (39 + sz) cap) none (some (.int .i64 (39 + (sz : Int) - (q : Int)))) none).run Tryd.prog W = .ok (.slice a (39 + sz - q) cap) W := fun W => by
    have h := run_slice_h W 28 a (39 + sz) cap (by rw [byte_elem]; exact Tryd.underlying28) .i64 (39 + (sz : Int) - (q : Int)) (by omega) (by omega)
    rw [h, byte_elem, byte_sizeOf]
    have e : (39 + (sz : Int) - (q : Int)).toNat = 39 + sz - q := by omega
    cases a <;> simp [Result.andThen, sliced, Addr.add_zero', e]
  go_wp2_with fail
  refine (Decode_any a (39 + sz - q) cap (el.take (39 + sz - q)) w5 T5.out (L5.out.take _) (HBY.out.take _) (by rw [List.length_take, HEL.out]; omega) (by omega) (by omega)).mono ?_
  rintro en w6 ⟨rfl, b6⟩
  have hv : decV (dec (el.take (39 + sz - q))) = .tuple #[.agg #[.int .i64 0, .int .u32 0, .int .u64 0, .int .u64 0, .int .u64 0, .string ⟨#[]⟩], .int .i64 0, .int .i64 11] := by rw [HDEC.out]; rfl
  rw [hv]
  have B6 := Lib.hid (B5.out.trans (b6.mono B5.out.size))
  clear b6 hv hsl
  go_wp2_with fail
  go_ret
  exact ⟨rfl, B6.out.alloc B6.out.size _⟩
theorem cuts_any (w : World) (hT : crc.Tab w) (r : Rec) (hf : r.Fit) (q : Int) : Calls Tryd.prog 5 #[r.val, .int .i64 q] w fun e w' => e = .returned (.bool true) ∧ Below w.heap.size w w' := by
  cases hm : mayB (cutR r 200)
  · exact cut_no w hT r hf q hm
  · by_cases h1 : q < 1
    · exact cut_few w hT r hf q hm h1
    · by_cases h2 : 39 + ((cutR r 200).body.size : Int) < q
      · exact cut_many w hT r hf q hm h1 h2
      · obtain ⟨m, rfl⟩ : ∃ m : Nat, q = m := ⟨q.toNat, by omega⟩
        exact cut_some w hT r hf m hm h1 h2
end Go.Proofs.YtlpennnnkbnjmaaDoor.recd
