/-
  THE WALK OF "RecordSpoilt".
-/
import Derived.Test.YtlpennnnkbnjmaaDoorRcLawB
import Derived.Test.YtlpennnnkbnjmaaDoorRcSpMath
import Derived.Test.YtlpennnnkbnjmaaDoorDkCells
namespace Go.Proofs.YtlpennnnkbnjmaaDoor.recd
open Go.RowKit Go.Proofs.YtlpennnnkbnjmaaDoor.num Go.Proofs.YtlpennnnkbnjmaaDoor.disk
set_option linter.unusedVariables false

set_option maxRecDepth 100000 in
set_option maxHeartbeats 2000000 in
theorem sp_no (w : World) (hT : crc.Tab w) (r : Rec) (hf : r.Fit) (q x : Int) (hm : mayB (cutR r 200) = false) : Calls Tryd.prog 6 #[r.val, .int .i64 q, .int .u8 x] w fun e w' => e = .returned (.bool true) ∧ Below w.heap.size w w' := by
  have CB := fun W hW => begun_any W hW
  have CC := fun W => cutRec_any r 200 (by decide) hf W
  have hcf : (cutR r 200).Fit := ⟨hf.kind, hf.tenant, by have := cutS_size r.body 200; have h2 := hf.body; show (cutS r.body 200).size ≤ maxLen; omega⟩
  have CM := fun W => rMay_any (cutR r 200) W hcf
  have CE := fun W hW => Encode_any (cutR r 200) W hW hcf
  have hcs : (cutR r 200).body.size ≤ 200 := by have := cutS_size r.body 200; show (cutS r.body 200).size ≤ 200; omega
  rw [hm] at CM
  obtain ⟨k, t, e, o, s, b⟩ := r
  unfold cutR Rec.val at *
  simp only at CB CC CM CE ⊢
  obtain ⟨c, hc⟩ : ∃ c, cutS b 200 = c := ⟨_, rfl⟩
  rw [hc] at CC CM CE
  have HCB := Lib.hid CB
  have HCC := Lib.hid CC
  have HCM := Lib.hid CM
  have HCE := Lib.hid CE
  have HT := Lib.hid hT
  have HF := Lib.hid hf
  clear CB CC CM CE hT hf hm hc hcf hcs
  go_enter Tryd.func6, Tryd.ntmps6
  go_wp2_with fail
  obtain ⟨p, hp⟩ : ∃ p, w.heap.size = p := ⟨_, rfl⟩
  have b0 : Below w.heap.size w (w.alloc (.cells #[.int .i64 k, .int .u32 (t : Int), .int .u64 (e : Int), .int .u64 (o : Int), .int .u64 (s : Int), .string b] 25)) := (Below.refl _ _).alloc (Nat.le_refl _) _
  have wh0 : Whole (w.alloc (.cells #[.int .i64 k, .int .u32 (t : Int), .int .u64 (e : Int), .int .u64 (o : Int), .int .u64 (s : Int), .string b] 25)) p 25 [.int .i64 k, .int .u32 (t : Int), .int .u64 (e : Int), .int .u64 (o : Int), .int .u64 (s : Int), .string b] := Whole.new_ hp.symm rfl
  have T0 := HT.out.later b0
  refine (HCB.out _ T0).mono ?_
  rintro en w1 ⟨rfl, b1⟩
  have W1 := Lib.hid (wh0.kept b1)
  have B1 := Lib.hid (b0.trans (b1.mono b0.size))
  have T1 := Lib.hid (T0.later b1)
  rw [hp]
  have HP := Lib.hid hp
  clear b0 wh0 T0 b1 hp HCB
  go_wp2_with ((with_reducible show wpList _ _ _ (⟨some 16, _, _, _, _, _⟩ :: _) _ _); refine wpList_load_mid rfl 25 (.tmp 3) rfl p 0 rfl [.int .i64 k, .int .u32 (t : Int), .int .u64 (e : Int), .int .u64 (o : Int), .int .u64 (s : Int), .string b] _ (W1.out.range 0 6) Tryd.underlying25 rfl recInfo ?_)
  refine (HCC.out w1).mono ?_
  rintro en w2 ⟨rfl, b2⟩
  have W2 := Lib.hid (W1.out.kept b2)
  have B2 := Lib.hid (B1.out.trans (b2.mono B1.out.size))
  have T2 := Lib.hid (T1.out.later b2)
  clear b2 W1 B1 T1
  go_wp2_with (first | ((with_reducible show wpList _ _ _ (⟨none, _, _, _, _, _⟩ :: _) _ _); refine wpList_store_as rfl 25 (.tmp 3) (.tmp 17) rfl p 0 #[.int .i64 k, .int .u32 (t : Int), .int .u64 (e : Int), .int .u64 (o : Int), .int .u64 (s : Int), .string c] rfl rfl (Whole.there W2.out 0 6 (Nat.le_refl 6)) recInfo (by simp [Value.oneCell']) ?_; intro w3 hw3; have HW3 := Lib.hid hw3; clear hw3) | ((with_reducible show wpList _ _ _ (⟨some 18, _, _, _, _, _⟩ :: _) _ _); refine wpList_load_mid rfl 25 (.tmp 3) rfl p 0 rfl [.int .i64 k, .int .u32 (t : Int), .int .u64 (e : Int), .int .u64 (o : Int), .int .u64 (s : Int), .string c] _ (by rw [← HW3.out]; exact Whole.range (Whole.lay [.int .i64 k, .int .u32 (t : Int), .int .u64 (e : Int), .int .u64 (o : Int), .int .u64 (s : Int), .string c] 0 W2.out (Nat.le_refl 6)) 0 6) Tryd.underlying25 rfl recInfo ?_))
  have wh3 : Whole w3 p 25 [.int .i64 k, .int .u32 (t : Int), .int .u64 (e : Int), .int .u64 (o : Int), .int .u64 (s : Int), .string c] := by rw [← HW3.out]; exact Whole.lay [.int .i64 k, .int .u32 (t : Int), .int .u64 (e : Int), .int .u64 (o : Int), .int .u64 (s : Int), .string c] 0 W2.out (Nat.le_refl 6)
  have b3 : Below w.heap.size w w3 := by rw [← HW3.out]; exact below_lay _ _ _ B2.out (by rw [HP.out]; exact Nat.le_refl _)
  have t3 : crc.Tab w3 := HT.out.later b3
  have W3 := Lib.hid wh3
  have B3 := Lib.hid b3
  have T3 := Lib.hid t3
  clear wh3 b3 t3 HW3 W2 B2 T2
  refine (HCM.out w3).mono ?_
  rintro en w4 ⟨rfl, b4⟩
  have W4 := Lib.hid (W3.out.kept b4)
  have B4 := Lib.hid (B3.out.trans (b4.mono B3.out.size))
  have T4 := Lib.hid (T3.out.later b4)
  clear b4 W3 B3 T3
  go_wp2_with fail
  go_ret
  exact ⟨rfl, B4.out⟩
set_option maxRecDepth 100000 in
set_option maxHeartbeats 2000000 in
theorem sp_neg (w : World) (hT : crc.Tab w) (r : Rec) (hf : r.Fit) (q x : Int) (hm : mayB (cutR r 200) = true) (h1 : q < 0) : Calls Tryd.prog 6 #[r.val, .int .i64 q, .int .u8 x] w fun e w' => e = .returned (.bool true) ∧ Below w.heap.size w w' := by
  have CB := fun W hW => begun_any W hW
  have CC := fun W => cutRec_any r 200 (by decide) hf W
  have hcf : (cutR r 200).Fit := ⟨hf.kind, hf.tenant, by have := cutS_size r.body 200; have h2 := hf.body; show (cutS r.body 200).size ≤ maxLen; omega⟩
  have CM := fun W => rMay_any (cutR r 200) W hcf
  have CE := fun W hW => Encode_any (cutR r 200) W hW hcf
  have hcs : (cutR r 200).body.size ≤ 200 := by have := cutS_size r.body 200; show (cutS r.body 200).size ≤ 200; omega
  rw [hm] at CM
  have hel : (enc (cutR r 200)).length = 39 + (cutR r 200).body.size := by rw [enc, hm, if_pos rfl, encL_length]
  have hee : enc (cutR r 200) = encL (cutR r 200) := by rw [enc, hm, if_pos rfl]
  have hby := encL_byte (cutR r 200)
  rw [← hee] at hby
  obtain ⟨el, hell⟩ : ∃ el, enc (cutR r 200) = el := ⟨_, rfl⟩
  rw [hell] at CE hel hby hee
  obtain ⟨sz, hsz⟩ : ∃ sz, (cutR r 200).body.size = sz := ⟨_, rfl⟩
  rw [hsz] at hel hcs
  
  have HEE := Lib.hid hee
  have HBY := Lib.hid hby
  have HEL := Lib.hid hel
  have HSZ := Lib.hid hsz
  clear hell hee hby hel hsz
  obtain ⟨k, t, e, o, s, b⟩ := r
  unfold cutR Rec.val at *
  simp only at CB CC CM CE ⊢
  obtain ⟨c, hc⟩ : ∃ c, cutS b 200 = c := ⟨_, rfl⟩
  rw [hc] at CC CM CE
  have HCB := Lib.hid CB
  have HCC := Lib.hid CC
  have HCM := Lib.hid CM
  have HCE := Lib.hid CE
  have HT := Lib.hid hT
  have HF := Lib.hid hf
  clear CB CC CM CE hT hf hm hc hcf
  go_enter Tryd.func6, Tryd.ntmps6
  go_wp2_with fail
  obtain ⟨p, hp⟩ : ∃ p, w.heap.size = p := ⟨_, rfl⟩
  have b0 : Below w.heap.size w (w.alloc (.cells #[.int .i64 k, .int .u32 (t : Int), .int .u64 (e : Int), .int .u64 (o : Int), .int .u64 (s : Int), .string b] 25)) := (Below.refl _ _).alloc (Nat.le_refl _) _
  have wh0 : Whole (w.alloc (.cells #[.int .i64 k, .int .u32 (t : Int), .int .u64 (e : Int), .int .u64 (o : Int), .int .u64 (s : Int), .string b] 25)) p 25 [.int .i64 k, .int .u32 (t : Int), .int .u64 (e : Int), .int .u64 (o : Int), .int .u64 (s : Int), .string b] := Whole.new_ hp.symm rfl
  have T0 := HT.out.later b0
  refine (HCB.out _ T0).mono ?_
  rintro en w1 ⟨rfl, b1⟩
  have W1 := Lib.hid (wh0.kept b1)
  have B1 := Lib.hid (b0.trans (b1.mono b0.size))
  have T1 := Lib.hid (T0.later b1)
  rw [hp]
  have HP := Lib.hid hp
  clear b0 wh0 T0 b1 hp HCB
  go_wp2_with ((with_reducible show wpList _ _ _ (⟨some 16, _, _, _, _, _⟩ :: _) _ _); refine wpList_load_mid rfl 25 (.tmp 3) rfl p 0 rfl [.int .i64 k, .int .u32 (t : Int), .int .u64 (e : Int), .int .u64 (o : Int), .int .u64 (s : Int), .string b] _ (W1.out.range 0 6) Tryd.underlying25 rfl recInfo ?_)
  refine (HCC.out w1).mono ?_
  rintro en w2 ⟨rfl, b2⟩
  have W2 := Lib.hid (W1.out.kept b2)
  have B2 := Lib.hid (B1.out.trans (b2.mono B1.out.size))
  have T2 := Lib.hid (T1.out.later b2)
  clear b2 W1 B1 T1
  go_wp2_with (first | ((with_reducible show wpList _ _ _ (⟨none, _, _, _, _, _⟩ :: _) _ _); refine wpList_store_as rfl 25 (.tmp 3) (.tmp 17) rfl p 0 #[.int .i64 k, .int .u32 (t : Int), .int .u64 (e : Int), .int .u64 (o : Int), .int .u64 (s : Int), .string c] rfl rfl (Whole.there W2.out 0 6 (Nat.le_refl 6)) recInfo (by simp [Value.oneCell']) ?_; intro w3 hw3; have HW3 := Lib.hid hw3; clear hw3) | ((with_reducible show wpList _ _ _ (⟨some 18, _, _, _, _, _⟩ :: _) _ _); refine wpList_load_mid rfl 25 (.tmp 3) rfl p 0 rfl [.int .i64 k, .int .u32 (t : Int), .int .u64 (e : Int), .int .u64 (o : Int), .int .u64 (s : Int), .string c] _ (by rw [← HW3.out]; exact Whole.range (Whole.lay [.int .i64 k, .int .u32 (t : Int), .int .u64 (e : Int), .int .u64 (o : Int), .int .u64 (s : Int), .string c] 0 W2.out (Nat.le_refl 6)) 0 6) Tryd.underlying25 rfl recInfo ?_))
  have wh3 : Whole w3 p 25 [.int .i64 k, .int .u32 (t : Int), .int .u64 (e : Int), .int .u64 (o : Int), .int .u64 (s : Int), .string c] := by rw [← HW3.out]; exact Whole.lay [.int .i64 k, .int .u32 (t : Int), .int .u64 (e : Int), .int .u64 (o : Int), .int .u64 (s : Int), .string c] 0 W2.out (Nat.le_refl 6)
  have b3 : Below w.heap.size w w3 := by rw [← HW3.out]; exact below_lay _ _ _ B2.out (by rw [HP.out]; exact Nat.le_refl _)
  have t3 : crc.Tab w3 := HT.out.later b3
  have W3 := Lib.hid wh3
  have B3 := Lib.hid b3
  have T3 := Lib.hid t3
  clear wh3 b3 t3 HW3 W2 B2 T2
  refine (HCM.out w3).mono ?_
  rintro en w4 ⟨rfl, b4⟩
  have W4 := Lib.hid (W3.out.kept b4)
  have B4 := Lib.hid (B3.out.trans (b4.mono B3.out.size))
  have T4 := Lib.hid (T3.out.later b4)
  clear b4 W3 B3 T3
  go_wp2_with fail
  go_ret
  exact ⟨rfl, B4.out⟩
set_option maxRecDepth 100000 in
set_option maxHeartbeats 2000000 in
theorem sp_zero (w : World) (hT : crc.Tab w) (r : Rec) (hf : r.Fit) (q x : Int) (hm : mayB (cutR r 200) = true) (h1 : ¬ q < 0) (h2 : x = 0) : Calls Tryd.prog 6 #[r.val, .int .i64 q, .int .u8 x] w fun e w' => e = .returned (.bool true) ∧ Below w.heap.size w w' := by
  subst h2
  have CB := fun W hW => begun_any W hW
  have CC := fun W => cutRec_any r 200 (by decide) hf W
  have hcf : (cutR r 200).Fit := ⟨hf.kind, hf.tenant, by have := cutS_size r.body 200; have h2 := hf.body; show (cutS r.body 200).size ≤ maxLen; omega⟩
  have CM := fun W => rMay_any (cutR r 200) W hcf
  have CE := fun W hW => Encode_any (cutR r 200) W hW hcf
  have hcs : (cutR r 200).body.size ≤ 200 := by have := cutS_size r.body 200; show (cutS r.body 200).size ≤ 200; omega
  rw [hm] at CM
  have hel : (enc (cutR r 200)).length = 39 + (cutR r 200).body.size := by rw [enc, hm, if_pos rfl, encL_length]
  have hee : enc (cutR r 200) = encL (cutR r 200) := by rw [enc, hm, if_pos rfl]
  have hby := encL_byte (cutR r 200)
  rw [← hee] at hby
  obtain ⟨el, hell⟩ : ∃ el, enc (cutR r 200) = el := ⟨_, rfl⟩
  rw [hell] at CE hel hby hee
  obtain ⟨sz, hsz⟩ : ∃ sz, (cutR r 200).body.size = sz := ⟨_, rfl⟩
  rw [hsz] at hel hcs
  
  have HEE := Lib.hid hee
  have HBY := Lib.hid hby
  have HEL := Lib.hid hel
  have HSZ := Lib.hid hsz
  clear hell hee hby hel hsz
  obtain ⟨k, t, e, o, s, b⟩ := r
  unfold cutR Rec.val at *
  simp only at CB CC CM CE ⊢
  obtain ⟨c, hc⟩ : ∃ c, cutS b 200 = c := ⟨_, rfl⟩
  rw [hc] at CC CM CE
  have HCB := Lib.hid CB
  have HCC := Lib.hid CC
  have HCM := Lib.hid CM
  have HCE := Lib.hid CE
  have HT := Lib.hid hT
  have HF := Lib.hid hf
  clear CB CC CM CE hT hf hm hc hcf
  go_enter Tryd.func6, Tryd.ntmps6
  go_wp2_with fail
  obtain ⟨p, hp⟩ : ∃ p, w.heap.size = p := ⟨_, rfl⟩
  have b0 : Below w.heap.size w (w.alloc (.cells #[.int .i64 k, .int .u32 (t : Int), .int .u64 (e : Int), .int .u64 (o : Int), .int .u64 (s : Int), .string b] 25)) := (Below.refl _ _).alloc (Nat.le_refl _) _
  have wh0 : Whole (w.alloc (.cells #[.int .i64 k, .int .u32 (t : Int), .int .u64 (e : Int), .int .u64 (o : Int), .int .u64 (s : Int), .string b] 25)) p 25 [.int .i64 k, .int .u32 (t : Int), .int .u64 (e : Int), .int .u64 (o : Int), .int .u64 (s : Int), .string b] := Whole.new_ hp.symm rfl
  have T0 := HT.out.later b0
  refine (HCB.out _ T0).mono ?_
  rintro en w1 ⟨rfl, b1⟩
  have W1 := Lib.hid (wh0.kept b1)
  have B1 := Lib.hid (b0.trans (b1.mono b0.size))
  have T1 := Lib.hid (T0.later b1)
  rw [hp]
  have HP := Lib.hid hp
  clear b0 wh0 T0 b1 hp HCB
  go_wp2_with ((with_reducible show wpList _ _ _ (⟨some 16, _, _, _, _, _⟩ :: _) _ _); refine wpList_load_mid rfl 25 (.tmp 3) rfl p 0 rfl [.int .i64 k, .int .u32 (t : Int), .int .u64 (e : Int), .int .u64 (o : Int), .int .u64 (s : Int), .string b] _ (W1.out.range 0 6) Tryd.underlying25 rfl recInfo ?_)
  refine (HCC.out w1).mono ?_
  rintro en w2 ⟨rfl, b2⟩
  have W2 := Lib.hid (W1.out.kept b2)
  have B2 := Lib.hid (B1.out.trans (b2.mono B1.out.size))
  have T2 := Lib.hid (T1.out.later b2)
  clear b2 W1 B1 T1
  go_wp2_with (first | ((with_reducible show wpList _ _ _ (⟨none, _, _, _, _, _⟩ :: _) _ _); refine wpList_store_as rfl 25 (.tmp 3) (.tmp 17) rfl p 0 #[.int .i64 k, .int .u32 (t : Int), .int .u64 (e : Int), .int .u64 (o : Int), .int .u64 (s : Int), .string c] rfl rfl (Whole.there W2.out 0 6 (Nat.le_refl 6)) recInfo (by simp [Value.oneCell']) ?_; intro w3 hw3; have HW3 := Lib.hid hw3; clear hw3) | ((with_reducible show wpList _ _ _ (⟨some 18, _, _, _, _, _⟩ :: _) _ _); refine wpList_load_mid rfl 25 (.tmp 3) rfl p 0 rfl [.int .i64 k, .int .u32 (t : Int), .int .u64 (e : Int), .int .u64 (o : Int), .int .u64 (s : Int), .string c] _ (by rw [← HW3.out]; exact Whole.range (Whole.lay [.int .i64 k, .int .u32 (t : Int), .int .u64 (e : Int), .int .u64 (o : Int), .int .u64 (s : Int), .string c] 0 W2.out (Nat.le_refl 6)) 0 6) Tryd.underlying25 rfl recInfo ?_))
  have wh3 : Whole w3 p 25 [.int .i64 k, .int .u32 (t : Int), .int .u64 (e : Int), .int .u64 (o : Int), .int .u64 (s : Int), .string c] := by rw [← HW3.out]; exact Whole.lay [.int .i64 k, .int .u32 (t : Int), .int .u64 (e : Int), .int .u64 (o : Int), .int .u64 (s : Int), .string c] 0 W2.out (Nat.le_refl 6)
  have b3 : Below w.heap.size w w3 := by rw [← HW3.out]; exact below_lay _ _ _ B2.out (by rw [HP.out]; exact Nat.le_refl _)
  have t3 : crc.Tab w3 := HT.out.later b3
  have W3 := Lib.hid wh3
  have B3 := Lib.hid b3
  have T3 := Lib.hid t3
  clear wh3 b3 t3 HW3 W2 B2 T2
  refine (HCM.out w3).mono ?_
  rintro en w4 ⟨rfl, b4⟩
  have W4 := Lib.hid (W3.out.kept b4)
  have B4 := Lib.hid (B3.out.trans (b4.mono B3.out.size))
  have T4 := Lib.hid (T3.out.later b4)
  clear b4 W3 B3 T3
  go_wp2_with fail
  go_ret
  exact ⟨rfl, B4.out⟩
set_option maxRecDepth 100000 in
set_option maxHeartbeats 2000000 in
theorem sp_len (w : World) (hT : crc.Tab w) (r : Rec) (hf : r.Fit) (q : Nat) (x : Int) (hm : mayB (cutR r 200) = true) (h2 : (x == 0) = false) (k0 : Nat) (hk0 : q % (39 + (cutR r 200).body.size) = k0) (h3 : 31 ≤ k0) (h4 : k0 < 35) : Calls Tryd.prog 6 #[r.val, .int .i64 (q : Int), .int .u8 x] w fun e w' => e = .returned (.bool true) ∧ Below w.heap.size w w' := by
  have CB := fun W hW => begun_any W hW
  have CC := fun W => cutRec_any r 200 (by decide) hf W
  have hcf : (cutR r 200).Fit := ⟨hf.kind, hf.tenant, by have := cutS_size r.body 200; have h2 := hf.body; show (cutS r.body 200).size ≤ maxLen; omega⟩
  have CM := fun W => rMay_any (cutR r 200) W hcf
  have CE := fun W hW => Encode_any (cutR r 200) W hW hcf
  have hcs : (cutR r 200).body.size ≤ 200 := by have := cutS_size r.body 200; show (cutS r.body 200).size ≤ 200; omega
  rw [hm] at CM
  have hel : (enc (cutR r 200)).length = 39 + (cutR r 200).body.size := by rw [enc, hm, if_pos rfl, encL_length]
  have hee : enc (cutR r 200) = encL (cutR r 200) := by rw [enc, hm, if_pos rfl]
  have hby := encL_byte (cutR r 200)
  rw [← hee] at hby
  obtain ⟨el, hell⟩ : ∃ el, enc (cutR r 200) = el := ⟨_, rfl⟩
  rw [hell] at CE hel hby hee
  obtain ⟨sz, hsz⟩ : ∃ sz, (cutR r 200).body.size = sz := ⟨_, rfl⟩
  rw [hsz] at hel hcs
  rw [hsz] at hk0
  have hkI : (q : Int) % (39 + (sz : Int)) = (k0 : Int) := by rw [← hk0, Int.natCast_emod, show ((39 + sz : Nat) : Int) = 39 + (sz : Int) by omega]
  clear hk0
  have HEE := Lib.hid hee
  have HBY := Lib.hid hby
  have HEL := Lib.hid hel
  have HSZ := Lib.hid hsz
  clear hell hee hby hel hsz
  obtain ⟨k, t, e, o, s, b⟩ := r
  unfold cutR Rec.val at *
  simp only at CB CC CM CE ⊢
  obtain ⟨c, hc⟩ : ∃ c, cutS b 200 = c := ⟨_, rfl⟩
  rw [hc] at CC CM CE
  have HCB := Lib.hid CB
  have HCC := Lib.hid CC
  have HCM := Lib.hid CM
  have HCE := Lib.hid CE
  have HT := Lib.hid hT
  have HF := Lib.hid hf
  clear CB CC CM CE hT hf hm hc hcf
  go_enter Tryd.func6, Tryd.ntmps6
  go_wp2_with fail
  obtain ⟨p, hp⟩ : ∃ p, w.heap.size = p := ⟨_, rfl⟩
  have b0 : Below w.heap.size w (w.alloc (.cells #[.int .i64 k, .int .u32 (t : Int), .int .u64 (e : Int), .int .u64 (o : Int), .int .u64 (s : Int), .string b] 25)) := (Below.refl _ _).alloc (Nat.le_refl _) _
  have wh0 : Whole (w.alloc (.cells #[.int .i64 k, .int .u32 (t : Int), .int .u64 (e : Int), .int .u64 (o : Int), .int .u64 (s : Int), .string b] 25)) p 25 [.int .i64 k, .int .u32 (t : Int), .int .u64 (e : Int), .int .u64 (o : Int), .int .u64 (s : Int), .string b] := Whole.new_ hp.symm rfl
  have T0 := HT.out.later b0
  refine (HCB.out _ T0).mono ?_
  rintro en w1 ⟨rfl, b1⟩
  have W1 := Lib.hid (wh0.kept b1)
  have B1 := Lib.hid (b0.trans (b1.mono b0.size))
  have T1 := Lib.hid (T0.later b1)
  rw [hp]
  have HP := Lib.hid hp
  clear b0 wh0 T0 b1 hp HCB
  go_wp2_with ((with_reducible show wpList _ _ _ (⟨some 16, _, _, _, _, _⟩ :: _) _ _); refine wpList_load_mid rfl 25 (.tmp 3) rfl p 0 rfl [.int .i64 k, .int .u32 (t : Int), .int .u64 (e : Int), .int .u64 (o : Int), .int .u64 (s : Int), .string b] _ (W1.out.range 0 6) Tryd.underlying25 rfl recInfo ?_)
  refine (HCC.out w1).mono ?_
  rintro en w2 ⟨rfl, b2⟩
  have W2 := Lib.hid (W1.out.kept b2)
  have B2 := Lib.hid (B1.out.trans (b2.mono B1.out.size))
  have T2 := Lib.hid (T1.out.later b2)
  clear b2 W1 B1 T1
  go_wp2_with (first | ((with_reducible show wpList _ _ _ (⟨none, _, _, _, _, _⟩ :: _) _ _); refine wpList_store_as rfl 25 (.tmp 3) (.tmp 17) rfl p 0 #[.int .i64 k, .int .u32 (t : Int), .int .u64 (e : Int), .int .u64 (o : Int), .int .u64 (s : Int), .string c] rfl rfl (Whole.there W2.out 0 6 (Nat.le_refl 6)) recInfo (by simp [Value.oneCell']) ?_; intro w3 hw3; have HW3 := Lib.hid hw3; clear hw3) | ((with_reducible show wpList _ _ _ (⟨some 18, _, _, _, _, _⟩ :: _) _ _); refine wpList_load_mid rfl 25 (.tmp 3) rfl p 0 rfl [.int .i64 k, .int .u32 (t : Int), .int .u64 (e : Int), .int .u64 (o : Int), .int .u64 (s : Int), .string c] _ (by rw [← HW3.out]; exact Whole.range (Whole.lay [.int .i64 k, .int .u32 (t : Int), .int .u64 (e : Int), .int .u64 (o : Int), .int .u64 (s : Int), .string c] 0 W2.out (Nat.le_refl 6)) 0 6) Tryd.underlying25 rfl recInfo ?_))
  have wh3 : Whole w3 p 25 [.int .i64 k, .int .u32 (t : Int), .int .u64 (e : Int), .int .u64 (o : Int), .int .u64 (s : Int), .string c] := by rw [← HW3.out]; exact Whole.lay [.int .i64 k, .int .u32 (t : Int), .int .u64 (e : Int), .int .u64 (o : Int), .int .u64 (s : Int), .string c] 0 W2.out (Nat.le_refl 6)
  have b3 : Below w.heap.size w w3 := by rw [← HW3.out]; exact below_lay _ _ _ B2.out (by rw [HP.out]; exact Nat.le_refl _)
  have t3 : crc.Tab w3 := HT.out.later b3
  have W3 := Lib.hid wh3
  have B3 := Lib.hid b3
  have T3 := Lib.hid t3
  clear wh3 b3 t3 HW3 W2 B2 T2
  refine (HCM.out w3).mono ?_
  rintro en w4 ⟨rfl, b4⟩
  have W4 := Lib.hid (W3.out.kept b4)
  have B4 := Lib.hid (B3.out.trans (b4.mono B3.out.size))
  have T4 := Lib.hid (T3.out.later b4)
  clear b4 W3 B3 T3
  go_wp2_with ((with_reducible show wpList _ _ _ (⟨some 29, _, _, _, _, _⟩ :: _) _ _); refine wpList_load_mid rfl 25 (.tmp 3) rfl p 0 rfl [.int .i64 k, .int .u32 (t : Int), .int .u64 (e : Int), .int .u64 (o : Int), .int .u64 (s : Int), .string c] _ (W4.out.range 0 6) Tryd.underlying25 rfl recInfo ?_)
  refine (HCE.out w4 T4.out).mono ?_
  rintro en w5 hmade
  obtain ⟨v, rfl, o5, n5, b5⟩ := hmade
  have B5 := Lib.hid (B4.out.trans (b5.mono B4.out.size))
  have T5 := Lib.hid (T4.out.later b5)
  obtain ⟨a, cap, ev, hcap, _, _, l5, _⟩ := o5.form
  rw [HEL.out] at ev hcap
  subst ev
  have L5 := Lib.hid l5
  clear o5 n5 b5 l5
  go_wp2_with fail
  go_ret
  exact ⟨rfl, B5.out⟩
set_option maxRecDepth 100000 in
set_option maxHeartbeats 2000000 in
theorem sp_lo (w : World) (hT : crc.Tab w) (r : Rec) (hf : r.Fit) (q : Nat) (x : Int) (hm : mayB (cutR r 200) = true) (hx : 0 ≤ x ∧ x < 256) (h2 : (x == 0) = false) (k0 : Nat) (hk0 : q % (39 + (cutR r 200).body.size) = k0) (h3 : k0 < 31) : Calls Tryd.prog 6 #[r.val, .int .i64 (q : Int), .int .u8 x] w fun e w' => e = .returned (.bool true) ∧ Below w.heap.size w w' := by
  have CB := fun W hW => begun_any W hW
  have CC := fun W => cutRec_any r 200 (by decide) hf W
  have hcf : (cutR r 200).Fit := ⟨hf.kind, hf.tenant, by have := cutS_size r.body 200; have h2 := hf.body; show (cutS r.body 200).size ≤ maxLen; omega⟩
  have CM := fun W => rMay_any (cutR r 200) W hcf
  have CE := fun W hW => Encode_any (cutR r 200) W hW hcf
  have hcs : (cutR r 200).body.size ≤ 200 := by have := cutS_size r.body 200; show (cutS r.body 200).size ≤ 200; omega
  rw [hm] at CM
  have hel : (enc (cutR r 200)).length = 39 + (cutR r 200).body.size := by rw [enc, hm, if_pos rfl, encL_length]
  have hee : enc (cutR r 200) = encL (cutR r 200) := by rw [enc, hm, if_pos rfl]
  have hby := encL_byte (cutR r 200)
  rw [← hee] at hby
  obtain ⟨el, hell⟩ : ∃ el, enc (cutR r 200) = el := ⟨_, rfl⟩
  rw [hell] at CE hel hby hee
  obtain ⟨sz, hsz⟩ : ∃ sz, (cutR r 200).body.size = sz := ⟨_, rfl⟩
  rw [hsz] at hel hcs
  have hk1 : k0 < 39 + (cutR r 200).body.size := by rw [← hk0]; exact Nat.mod_lt _ (by omega)
  have hb0 : 0 ≤ el.getD k0 0 ∧ el.getD k0 0 < 256 := by rw [hee]; exact (encL_byte _).at (by rw [encL_length]; exact hk1)
  have hx0 : x ≠ 0 := by simpa using h2
  have hy := crc.bx_byte hb0 hx
  have hyn : crc.bx (el.getD k0 0) x ≠ el.getD k0 0 := fun e => by
    have h := crc.bx_bv hb0 hx
    rw [e] at h
    have h2 := congrArg (BitVec.ofInt 32 (el.getD k0 0) ^^^ ·) h
    simp only [← BitVec.xor_assoc, BitVec.xor_self, BitVec.zero_xor] at h2
    have h3 := crc.toNat_byte hx
    rw [← h2] at h3
    exact hx0 (by rw [← h3]; rfl)
  have hdec : dec (el.set k0 (crc.bx (el.getD k0 0) x)) = (zeroRec, 0, 4) := by
    rw [hee] at hy hyn ⊢
    exact dec_spoilt _ hm hf.tenant k0 (by rw [encL_length]; exact hk1) (by omega) _ hy hyn
  have hbx : bits .xor .u8 (el.getD k0 0) x = crc.bx (el.getD k0 0) x := rfl
  obtain ⟨c0, hc0⟩ : ∃ c0, el.getD k0 0 = c0 := ⟨_, rfl⟩
  rw [hc0] at hbx hdec hy hb0
  obtain ⟨y, hyy⟩ : ∃ y, crc.bx c0 x = y := ⟨_, rfl⟩
  rw [hyy] at hbx hdec hy
  have HC0 := Lib.hid hc0
  have HDEC := Lib.hid hdec
  have HYB := Lib.hid hy
  rw [hsz] at hk0 hk1
  have hkI : (q : Int) % (39 + (sz : Int)) = (k0 : Int) := by rw [← hk0, Int.natCast_emod, show ((39 + sz : Nat) : Int) = 39 + (sz : Int) by omega]
  clear hk0 hc0 hyy hyn hdec hy hx0
  have HEE := Lib.hid hee
  have HBY := Lib.hid hby
  have HEL := Lib.hid hel
  have HSZ := Lib.hid hsz
  clear hell hee hby hel hsz
  obtain ⟨k, t, e, o, s, b⟩ := r
  unfold cutR Rec.val at *
  simp only at CB CC CM CE ⊢
  obtain ⟨c, hc⟩ : ∃ c, cutS b 200 = c := ⟨_, rfl⟩
  rw [hc] at CC CM CE
  have HCB := Lib.hid CB
  have HCC := Lib.hid CC
  have HCM := Lib.hid CM
  have HCE := Lib.hid CE
  have HT := Lib.hid hT
  have HF := Lib.hid hf
  clear CB CC CM CE hT hf hm hc hcf
  go_enter Tryd.func6, Tryd.ntmps6
  go_wp2_with fail
  obtain ⟨p, hp⟩ : ∃ p, w.heap.size = p := ⟨_, rfl⟩
  have b0 : Below w.heap.size w (w.alloc (.cells #[.int .i64 k, .int .u32 (t : Int), .int .u64 (e : Int), .int .u64 (o : Int), .int .u64 (s : Int), .string b] 25)) := (Below.refl _ _).alloc (Nat.le_refl _) _
  have wh0 : Whole (w.alloc (.cells #[.int .i64 k, .int .u32 (t : Int), .int .u64 (e : Int), .int .u64 (o : Int), .int .u64 (s : Int), .string b] 25)) p 25 [.int .i64 k, .int .u32 (t : Int), .int .u64 (e : Int), .int .u64 (o : Int), .int .u64 (s : Int), .string b] := Whole.new_ hp.symm rfl
  have T0 := HT.out.later b0
  refine (HCB.out _ T0).mono ?_
  rintro en w1 ⟨rfl, b1⟩
  have W1 := Lib.hid (wh0.kept b1)
  have B1 := Lib.hid (b0.trans (b1.mono b0.size))
  have T1 := Lib.hid (T0.later b1)
  rw [hp]
  have HP := Lib.hid hp
  clear b0 wh0 T0 b1 hp HCB
  go_wp2_with ((with_reducible show wpList _ _ _ (⟨some 16, _, _, _, _, _⟩ :: _) _ _); refine wpList_load_mid rfl 25 (.tmp 3) rfl p 0 rfl [.int .i64 k, .int .u32 (t : Int), .int .u64 (e : Int), .int .u64 (o : Int), .int .u64 (s : Int), .string b] _ (W1.out.range 0 6) Tryd.underlying25 rfl recInfo ?_)
  refine (HCC.out w1).mono ?_
  rintro en w2 ⟨rfl, b2⟩
  have W2 := Lib.hid (W1.out.kept b2)
  have B2 := Lib.hid (B1.out.trans (b2.mono B1.out.size))
  have T2 := Lib.hid (T1.out.later b2)
  clear b2 W1 B1 T1
  go_wp2_with (first | ((with_reducible show wpList _ _ _ (⟨none, _, _, _, _, _⟩ :: _) _ _); refine wpList_store_as rfl 25 (.tmp 3) (.tmp 17) rfl p 0 #[.int .i64 k, .int .u32 (t : Int), .int .u64 (e : Int), .int .u64 (o : Int), .int .u64 (s : Int), .string c] rfl rfl (Whole.there W2.out 0 6 (Nat.le_refl 6)) recInfo (by simp [Value.oneCell']) ?_; intro w3 hw3; have HW3 := Lib.hid hw3; clear hw3) | ((with_reducible show wpList _ _ _ (⟨some 18, _, _, _, _, _⟩ :: _) _ _); refine wpList_load_mid rfl 25 (.tmp 3) rfl p 0 rfl [.int .i64 k, .int .u32 (t : Int), .int .u64 (e : Int), .int .u64 (o : Int), .int .u64 (s : Int), .string c] _ (by rw [← HW3.out]; exact Whole.range (Whole.lay [.int .i64 k, .int .u32 (t : Int), .int .u64 (e : Int), .int .u64 (o : Int), .int .u64 (s : Int), .string c] 0 W2.out (Nat.le_refl 6)) 0 6) Tryd.underlying25 rfl recInfo ?_))
  have wh3 : Whole w3 p 25 [.int .i64 k, .int .u32 (t : Int), .int .u64 (e : Int), .int .u64 (o : Int), .int .u64 (s : Int), .string c] := by rw [← HW3.out]; exact Whole.lay [.int .i64 k, .int .u32 (t : Int), .int .u64 (e : Int), .int .u64 (o : Int), .int .u64 (s : Int), .string c] 0 W2.out (Nat.le_refl 6)
  have b3 : Below w.heap.size w w3 := by rw [← HW3.out]; exact below_lay _ _ _ B2.out (by rw [HP.out]; exact Nat.le_refl _)
  have t3 : crc.Tab w3 := HT.out.later b3
  have W3 := Lib.hid wh3
  have B3 := Lib.hid b3
  have T3 := Lib.hid t3
  clear wh3 b3 t3 HW3 W2 B2 T2
  refine (HCM.out w3).mono ?_
  rintro en w4 ⟨rfl, b4⟩
  have W4 := Lib.hid (W3.out.kept b4)
  have B4 := Lib.hid (B3.out.trans (b4.mono B3.out.size))
  have T4 := Lib.hid (T3.out.later b4)
  clear b4 W3 B3 T3
  go_wp2_with ((with_reducible show wpList _ _ _ (⟨some 29, _, _, _, _, _⟩ :: _) _ _); refine wpList_load_mid rfl 25 (.tmp 3) rfl p 0 rfl [.int .i64 k, .int .u32 (t : Int), .int .u64 (e : Int), .int .u64 (o : Int), .int .u64 (s : Int), .string c] _ (W4.out.range 0 6) Tryd.underlying25 rfl recInfo ?_)
  refine (HCE.out w4 T4.out).mono ?_
  rintro en w5 hmade
  obtain ⟨v, rfl, o5, n5, b5⟩ := hmade
  have B5 := Lib.hid (B4.out.trans (b5.mono B4.out.size))
  have T5 := Lib.hid (T4.out.later b5)
  obtain ⟨a, cap, ev, hcap, _, _, l5, _⟩ := o5.form
  rw [HEL.out] at ev hcap
  subst ev
  have L5 := Lib.hid l5
  have O5 := Lib.hid o5
  obtain ⟨g, hg, ck⟩ := own_at o5 k0 (by rw [HEL.out]; exact hk1)
  subst hg
  rw [HC0.out] at ck
  have fk := o5.free HEL.out k0
  have N5 := Lib.hid (n5 g rfl)
  clear o5 n5 b5 l5
  go_wp2_with fail
  have o6 := O5.out.set HEL.out k0 y
  have b6 : Below w.heap.size w (w5.setCell ⟨g, k0, none⟩ (.int .u8 y)) := B5.out.setCell (Nat.le_trans B4.out.size N5.out) _
  obtain ⟨w6, hw6⟩ : ∃ w6, w5.setCell ⟨g, k0, none⟩ (.int .u8 y) = w6 := ⟨_, rfl⟩
  rw [hw6] at o6 b6 ⊢
  obtain ⟨_, _, e6, hcap, _, _, l6, _⟩ := o6.form
  rw [List.length_set, HEL.out] at hcap
  injection e6 with e61 e62 e63
  subst e63
  refine (Decode_any _ (39 + sz) cap (el.set k0 y) w6 (HT.out.later b6) (by rw [e61]; exact l6) (fun c hc => by
    rcases List.mem_or_eq_of_mem_set hc with hc | rfl
    · exact HBY.out c hc
    · exact HYB.out) (by rw [List.length_set, HEL.out]) (by omega) (by omega)).mono ?_
  rintro en w7 ⟨rfl, b7⟩
  have hv : decV (dec (el.set k0 y)) = .tuple #[.agg #[.int .i64 0, .int .u32 0, .int .u64 0, .int .u64 0, .int .u64 0, .string ⟨#[]⟩], .int .i64 0, .int .i64 4] := by rw [HDEC.out]; rfl
  rw [hv]
  have B7 := Lib.hid (b6.trans (b7.mono b6.size))
  clear b6 b7 hv o6 l6 hw6 e61
  go_wp2_with fail
  go_ret
  exact ⟨rfl, B7.out.alloc B7.out.size _⟩
set_option maxRecDepth 100000 in
set_option maxHeartbeats 2000000 in
theorem sp_hi (w : World) (hT : crc.Tab w) (r : Rec) (hf : r.Fit) (q : Nat) (x : Int) (hm : mayB (cutR r 200) = true) (hx : 0 ≤ x ∧ x < 256) (h2 : (x == 0) = false) (k0 : Nat) (hk0 : q % (39 + (cutR r 200).body.size) = k0) (h3 : 35 ≤ k0) : Calls Tryd.prog 6 #[r.val, .int .i64 (q : Int), .int .u8 x] w fun e w' => e = .returned (.bool true) ∧ Below w.heap.size w w' := by
  have CB := fun W hW => begun_any W hW
  have CC := fun W => cutRec_any r 200 (by decide) hf W
  have hcf : (cutR r 200).Fit := ⟨hf.kind, hf.tenant, by have := cutS_size r.body 200; have h2 := hf.body; show (cutS r.body 200).size ≤ maxLen; omega⟩
  have CM := fun W => rMay_any (cutR r 200) W hcf
  have CE := fun W hW => Encode_any (cutR r 200) W hW hcf
  have hcs : (cutR r 200).body.size ≤ 200 := by have := cutS_size r.body 200; show (cutS r.body 200).size ≤ 200; omega
  rw [hm] at CM
  have hel : (enc (cutR r 200)).length = 39 + (cutR r 200).body.size := by rw [enc, hm, if_pos rfl, encL_length]
  have hee : enc (cutR r 200) = encL (cutR r 200) := by rw [enc, hm, if_pos rfl]
  have hby := encL_byte (cutR r 200)
  rw [← hee] at hby
  obtain ⟨el, hell⟩ : ∃ el, enc (cutR r 200) = el := ⟨_, rfl⟩
  rw [hell] at CE hel hby hee
  obtain ⟨sz, hsz⟩ : ∃ sz, (cutR r 200).body.size = sz := ⟨_, rfl⟩
  rw [hsz] at hel hcs
  have hk1 : k0 < 39 + (cutR r 200).body.size := by rw [← hk0]; exact Nat.mod_lt _ (by omega)
  have hb0 : 0 ≤ el.getD k0 0 ∧ el.getD k0 0 < 256 := by rw [hee]; exact (encL_byte _).at (by rw [encL_length]; exact hk1)
  have hx0 : x ≠ 0 := by simpa using h2
  have hy := crc.bx_byte hb0 hx
  have hyn : crc.bx (el.getD k0 0) x ≠ el.getD k0 0 := fun e => by
    have h := crc.bx_bv hb0 hx
    rw [e] at h
    have h2 := congrArg (BitVec.ofInt 32 (el.getD k0 0) ^^^ ·) h
    simp only [← BitVec.xor_assoc, BitVec.xor_self, BitVec.zero_xor] at h2
    have h3 := crc.toNat_byte hx
    rw [← h2] at h3
    exact hx0 (by rw [← h3]; rfl)
  have hdec : dec (el.set k0 (crc.bx (el.getD k0 0) x)) = (zeroRec, 0, 4) := by
    rw [hee] at hy hyn ⊢
    exact dec_spoilt _ hm hf.tenant k0 (by rw [encL_length]; exact hk1) (by omega) _ hy hyn
  have hbx : bits .xor .u8 (el.getD k0 0) x = crc.bx (el.getD k0 0) x := rfl
  obtain ⟨c0, hc0⟩ : ∃ c0, el.getD k0 0 = c0 := ⟨_, rfl⟩
  rw [hc0] at hbx hdec hy hb0
  obtain ⟨y, hyy⟩ : ∃ y, crc.bx c0 x = y := ⟨_, rfl⟩
  rw [hyy] at hbx hdec hy
  have HC0 := Lib.hid hc0
  have HDEC := Lib.hid hdec
  have HYB := Lib.hid hy
  rw [hsz] at hk0 hk1
  have hkI : (q : Int) % (39 + (sz : Int)) = (k0 : Int) := by rw [← hk0, Int.natCast_emod, show ((39 + sz : Nat) : Int) = 39 + (sz : Int) by omega]
  clear hk0 hc0 hyy hyn hdec hy hx0
  have HEE := Lib.hid hee
  have HBY := Lib.hid hby
  have HEL := Lib.hid hel
  have HSZ := Lib.hid hsz
  clear hell hee hby hel hsz
  obtain ⟨k, t, e, o, s, b⟩ := r
  unfold cutR Rec.val at *
  simp only at CB CC CM CE ⊢
  obtain ⟨c, hc⟩ : ∃ c, cutS b 200 = c := ⟨_, rfl⟩
  rw [hc] at CC CM CE
  have HCB := Lib.hid CB
  have HCC := Lib.hid CC
  have HCM := Lib.hid CM
  have HCE := Lib.hid CE
  have HT := Lib.hid hT
  have HF := Lib.hid hf
  clear CB CC CM CE hT hf hm hc hcf
  go_enter Tryd.func6, Tryd.ntmps6
  go_wp2_with fail
  obtain ⟨p, hp⟩ : ∃ p, w.heap.size = p := ⟨_, rfl⟩
  have b0 : Below w.heap.size w (w.alloc (.cells #[.int .i64 k, .int .u32 (t : Int), .int .u64 (e : Int), .int .u64 (o : Int), .int .u64 (s : Int), .string b] 25)) := (Below.refl _ _).alloc (Nat.le_refl _) _
  have wh0 : Whole (w.alloc (.cells #[.int .i64 k, .int .u32 (t : Int), .int .u64 (e : Int), .int .u64 (o : Int), .int .u64 (s : Int), .string b] 25)) p 25 [.int .i64 k, .int .u32 (t : Int), .int .u64 (e : Int), .int .u64 (o : Int), .int .u64 (s : Int), .string b] := Whole.new_ hp.symm rfl
  have T0 := HT.out.later b0
  refine (HCB.out _ T0).mono ?_
  rintro en w1 ⟨rfl, b1⟩
  have W1 := Lib.hid (wh0.kept b1)
  have B1 := Lib.hid (b0.trans (b1.mono b0.size))
  have T1 := Lib.hid (T0.later b1)
  rw [hp]
  have HP := Lib.hid hp
  clear b0 wh0 T0 b1 hp HCB
  go_wp2_with ((with_reducible show wpList _ _ _ (⟨some 16, _, _, _, _, _⟩ :: _) _ _); refine wpList_load_mid rfl 25 (.tmp 3) rfl p 0 rfl [.int .i64 k, .int .u32 (t : Int), .int .u64 (e : Int), .int .u64 (o : Int), .int .u64 (s : Int), .string b] _ (W1.out.range 0 6) Tryd.underlying25 rfl recInfo ?_)
  refine (HCC.out w1).mono ?_
  rintro en w2 ⟨rfl, b2⟩
  have W2 := Lib.hid (W1.out.kept b2)
  have B2 := Lib.hid (B1.out.trans (b2.mono B1.out.size))
  have T2 := Lib.hid (T1.out.later b2)
  clear b2 W1 B1 T1
  go_wp2_with (first | ((with_reducible show wpList _ _ _ (⟨none, _, _, _, _, _⟩ :: _) _ _); refine wpList_store_as rfl 25 (.tmp 3) (.tmp 17) rfl p 0 #[.int .i64 k, .int .u32 (t : Int), .int .u64 (e : Int), .int .u64 (o : Int), .int .u64 (s : Int), .string c] rfl rfl (Whole.there W2.out 0 6 (Nat.le_refl 6)) recInfo (by simp [Value.oneCell']) ?_; intro w3 hw3; have HW3 := Lib.hid hw3; clear hw3) | ((with_reducible show wpList _ _ _ (⟨some 18, _, _, _, _, _⟩ :: _) _ _); refine wpList_load_mid rfl 25 (.tmp 3) rfl p 0 rfl [.int .i64 k, .int .u32 (t : Int), .int .u64 (e : Int), .int .u64 (o : Int), .int .u64 (s : Int), .string c] _ (by rw [← HW3.out]; exact Whole.range (Whole.lay [.int .i64 k, .int .u32 (t : Int), .int .u64 (e : Int), .int .u64 (o : Int), .int .u64 (s : Int), .string c] 0 W2.out (Nat.le_refl 6)) 0 6) Tryd.underlying25 rfl recInfo ?_))
  have wh3 : Whole w3 p 25 [.int .i64 k, .int .u32 (t : Int), .int .u64 (e : Int), .int .u64 (o : Int), .int .u64 (s : Int), .string c] := by rw [← HW3.out]; exact Whole.lay [.int .i64 k, .int .u32 (t : Int), .int .u64 (e : Int), .int .u64 (o : Int), .int .u64 (s : Int), .string c] 0 W2.out (Nat.le_refl 6)
  have b3 : Below w.heap.size w w3 := by rw [← HW3.out]; exact below_lay _ _ _ B2.out (by rw [HP.out]; exact Nat.le_refl _)
  have t3 : crc.Tab w3 := HT.out.later b3
  have W3 := Lib.hid wh3
  have B3 := Lib.hid b3
  have T3 := Lib.hid t3
  clear wh3 b3 t3 HW3 W2 B2 T2
  refine (HCM.out w3).mono ?_
  rintro en w4 ⟨rfl, b4⟩
  have W4 := Lib.hid (W3.out.kept b4)
  have B4 := Lib.hid (B3.out.trans (b4.mono B3.out.size))
  have T4 := Lib.hid (T3.out.later b4)
  clear b4 W3 B3 T3
  go_wp2_with ((with_reducible show wpList _ _ _ (⟨some 29, _, _, _, _, _⟩ :: _) _ _); refine wpList_load_mid rfl 25 (.tmp 3) rfl p 0 rfl [.int .i64 k, .int .u32 (t : Int), .int .u64 (e : Int), .int .u64 (o : Int), .int .u64 (s : Int), .string c] _ (W4.out.range 0 6) Tryd.underlying25 rfl recInfo ?_)
  refine (HCE.out w4 T4.out).mono ?_
  rintro en w5 hmade
  obtain ⟨v, rfl, o5, n5, b5⟩ := hmade
  have B5 := Lib.hid (B4.out.trans (b5.mono B4.out.size))
  have T5 := Lib.hid (T4.out.later b5)
  obtain ⟨a, cap, ev, hcap, _, _, l5, _⟩ := o5.form
  rw [HEL.out] at ev hcap
  subst ev
  have L5 := Lib.hid l5
  have O5 := Lib.hid o5
  obtain ⟨g, hg, ck⟩ := own_at o5 k0 (by rw [HEL.out]; exact hk1)
  subst hg
  rw [HC0.out] at ck
  have fk := o5.free HEL.out k0
  have N5 := Lib.hid (n5 g rfl)
  clear o5 n5 b5 l5
  go_wp2_with fail
  have o6 := O5.out.set HEL.out k0 y
  have b6 : Below w.heap.size w (w5.setCell ⟨g, k0, none⟩ (.int .u8 y)) := B5.out.setCell (Nat.le_trans B4.out.size N5.out) _
  obtain ⟨w6, hw6⟩ : ∃ w6, w5.setCell ⟨g, k0, none⟩ (.int .u8 y) = w6 := ⟨_, rfl⟩
  rw [hw6] at o6 b6 ⊢
  obtain ⟨_, _, e6, hcap, _, _, l6, _⟩ := o6.form
  rw [List.length_set, HEL.out] at hcap
  injection e6 with e61 e62 e63
  subst e63
  refine (Decode_any _ (39 + sz) cap (el.set k0 y) w6 (HT.out.later b6) (by rw [e61]; exact l6) (fun c hc => by
    rcases List.mem_or_eq_of_mem_set hc with hc | rfl
    · exact HBY.out c hc
    · exact HYB.out) (by rw [List.length_set, HEL.out]) (by omega) (by omega)).mono ?_
  rintro en w7 ⟨rfl, b7⟩
  have hv : decV (dec (el.set k0 y)) = .tuple #[.agg #[.int .i64 0, .int .u32 0, .int .u64 0, .int .u64 0, .int .u64 0, .string ⟨#[]⟩], .int .i64 0, .int .i64 4] := by rw [HDEC.out]; rfl
  rw [hv]
  have B7 := Lib.hid (b6.trans (b7.mono b6.size))
  clear b6 b7 hv o6 l6 hw6 e61
  go_wp2_with fail
  go_ret
  exact ⟨rfl, B7.out.alloc B7.out.size _⟩
theorem spoilt_any (w : World) (hT : crc.Tab w) (r : Rec) (hf : r.Fit) (q x : Int) (hx : 0 ≤ x ∧ x ≤ 255) : Calls Tryd.prog 6 #[r.val, .int .i64 q, .int .u8 x] w fun e w' => e = .returned (.bool true) ∧ Below w.heap.size w w' := by
  cases hm : mayB (cutR r 200)
  · exact sp_no w hT r hf q x hm
  · by_cases h1 : q < 0
    · exact sp_neg w hT r hf q x hm h1
    · by_cases h2 : x = 0
      · exact sp_zero w hT r hf q x hm h1 h2
      · obtain ⟨m, rfl⟩ : ∃ m : Nat, q = m := ⟨q.toNat, by omega⟩
        have h2b : (x == 0) = false := by simpa using h2
        by_cases h3 : 31 ≤ m % (39 + (cutR r 200).body.size) ∧ m % (39 + (cutR r 200).body.size) < 35
        · exact sp_len w hT r hf m x hm h2b _ rfl h3.1 h3.2
        · by_cases h4 : m % (39 + (cutR r 200).body.size) < 31
          · exact sp_lo w hT r hf m x hm ⟨hx.1, by omega⟩ h2b _ rfl h4
          · exact sp_hi w hT r hf m x hm ⟨hx.1, by omega⟩ h2b _ rfl (by omega)
end Go.Proofs.YtlpennnnkbnjmaaDoor.recd
