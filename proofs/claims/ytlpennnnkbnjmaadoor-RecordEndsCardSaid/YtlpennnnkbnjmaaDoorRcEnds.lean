/-
  THE WALK OF "RecordEnds".
-/
import Derived.Test.YtlpennnnkbnjmaaDoorRcLawB
namespace Go.Proofs.YtlpennnnkbnjmaaDoor.recd
open Go.RowKit Go.Proofs.YtlpennnnkbnjmaaDoor.num Go.Proofs.YtlpennnnkbnjmaaDoor.disk
set_option linter.unusedVariables false

set_option maxRecDepth 100000 in
theorem ends_early (w : World) (hT : crc.Tab w) (n : Int) (a b c : Nat) (h : n < 0 ∨ 1100 < n) : Calls Tryd.prog 7 #[.int .i64 n, .int .u64 (a : Int), .int .u64 (b : Int), .int .u64 (c : Int)] w fun e w' => e = .returned (.bool true) ∧ Below w.heap.size w w' := by
  have C := Lib.hid (begun_any w hT)
  clear hT
  rcases h with h | h
  · go_enter Tryd.func7, Tryd.ntmps7
    go_wp2_with fail
    refine C.out.mono ?_
    rintro en w1 ⟨rfl, b1⟩
    have B1 := Lib.hid b1
    clear b1
    go_wp2_with fail
    go_ret
    exact ⟨rfl, B1.out⟩
  · go_enter Tryd.func7, Tryd.ntmps7
    go_wp2_with fail
    refine C.out.mono ?_
    rintro en w1 ⟨rfl, b1⟩
    have B1 := Lib.hid b1
    clear b1
    go_wp2_with fail
    go_ret
    exact ⟨rfl, B1.out⟩

set_option maxRecDepth 100000 in
set_option maxHeartbeats 2000000 in
theorem ends_ok (w : World) (hT : crc.Tab w) (n a b c : Nat) (hn : n ≤ 1100) (h0 : (n : Int) ≤ 1000) (h1 : (a : Int) ≤ 1099511627776) (h2 : (b : Int) ≤ 1099511627776) (h3 : (c : Int) ≤ 1099511627776) : Calls Tryd.prog 7 #[.int .i64 (n : Int), .int .u64 (a : Int), .int .u64 (b : Int), .int .u64 (c : Int)] w fun e w' => e = .returned (.bool true) ∧ Below w.heap.size w w' := by
  have C := Lib.hid (begun_any w hT)
  have HT := Lib.hid hT
  have hnI0 : ¬ (n : Int) < 0 := by omega
  have hnI : (n : Int) ≤ 1100 := by omega
  have hz : (str (List.replicate n 0)).size = n := by rw [str_size, List.length_replicate]
  have hm : mayB ⟨2, 0, a, b, c, str (List.replicate n 0)⟩ = true := by
    rw [mayB_eq, hz]
    exact decide_eq_true (by omega)
  have hf : Rec.Fit ⟨2, 0, a, b, c, str (List.replicate n 0)⟩ := ⟨by show (-9223372036854775808 : Int) ≤ 2 ∧ (2 : Int) ≤ 9223372036854775807; decide, by show 0 < 4294967296; decide, by show (str (List.replicate n 0)).size ≤ maxLen; rw [hz]; unfold maxLen; omega⟩
  have CM := fun W => May_any ⟨2, 0, a, b, c, str (List.replicate n 0)⟩ W hf
  have CE := fun W hW => Encode_any ⟨2, 0, a, b, c, str (List.replicate n 0)⟩ W hW hf
  rw [hm] at CM
  unfold Rec.val at CM CE
  simp only at CM CE
  have hel : (enc ⟨2, 0, a, b, c, str (List.replicate n 0)⟩).length = 39 + n := by rw [enc, hm]; rw [if_pos rfl, encL_length, hz]
  obtain ⟨el, hell⟩ : ∃ el, enc ⟨2, 0, a, b, c, str (List.replicate n 0)⟩ = el := ⟨_, rfl⟩
  rw [hell] at CE hel
  obtain ⟨z, hzz⟩ : ∃ z, str (List.replicate n 0) = z := ⟨_, rfl⟩
  rw [hzz] at CM CE hz
  have HCM := Lib.hid CM
  have HCE := Lib.hid CE
  have HEL := Lib.hid hel
  have HZ := Lib.hid hzz
  have HZS := Lib.hid hz
  
  clear CM CE hel hell hzz hz hf hm hT
  go_enter Tryd.func7, Tryd.ntmps7
  go_wp2_with fail
  refine C.out.mono ?_
  rintro en w1 ⟨rfl, b1⟩
  obtain ⟨w2, r2, o2, b2⟩ := run_make_bytes w1 n (by omega)
  have l2 := run_str (w := w2) (a := some ⟨w1.heap.size, 0, none⟩) (l := List.replicate n 0) (by
    obtain ⟨_, _, e, _, _, _, hl, _⟩ := o2.form
    injection e with e1 e2 e3
    rw [e1]; exact hl) (Byte.zeros n) n
  rw [List.length_replicate, HZ.out] at l2
  have B2 := Lib.hid (b1.trans (b2.mono b1.size))
  have T2 := Lib.hid ((HT.out.later b1).later b2)
  clear b1 b2 o2 C
  go_wp2_with fail
  clear r2 l2
  obtain ⟨p, hp⟩ : ∃ p, w2.heap.size = p := ⟨_, rfl⟩
  have b3 : Below w2.heap.size w2 (w2.alloc (.cells #[.int .i64 2, .int .u32 0, .int .u64 (a : Int), .int .u64 (b : Int), .int .u64 (c : Int), .string z] 25)) := (Below.refl _ _).alloc (Nat.le_refl _) _
  have W3 : Whole (w2.alloc (.cells #[.int .i64 2, .int .u32 0, .int .u64 (a : Int), .int .u64 (b : Int), .int .u64 (c : Int), .string z] 25)) p 25 [.int .i64 2, .int .u32 0, .int .u64 (a : Int), .int .u64 (b : Int), .int .u64 (c : Int), .string z] := Whole.new_ hp.symm rfl
  refine (HCM.out _).mono ?_
  rintro en w4 ⟨rfl, b4⟩
  have W4 := W3.kept b4
  have c0 := W4.at_ 0
  have c1 := W4.at_ 1
  have c2 := W4.at_ 2
  have c3 := W4.at_ 3
  have c4 := W4.at_ 4
  have c5 := W4.at_ 5
  have T4 := Lib.hid ((T2.out.later b3).later b4)
  have B4 := Lib.hid ((B2.out.trans (b3.mono B2.out.size)).trans (b4.mono (B2.out.trans (b3.mono B2.out.size)).size))
  rw [hp]
  clear b3 b4 W3 W4 hp B2 T2
  go_wp2_with fail
  refine (HCE.out w4 T4.out).mono ?_
  rintro en w5 hmade
  obtain ⟨v, rfl, o5, _, b5⟩ := hmade
  obtain ⟨va, vc, ev, _⟩ := o5.form
  rw [HEL.out] at ev
  subst ev
  have B5 := Lib.hid (B4.out.trans (b5.mono B4.out.size))
  clear o5 b5 c0 c1 c2 c3 c4 c5
  go_wp2_with fail
  go_ret
  exact ⟨rfl, B5.out⟩
set_option maxRecDepth 100000 in
set_option maxHeartbeats 2000000 in
theorem ends_n (w : World) (hT : crc.Tab w) (n a b c : Nat) (hn : n ≤ 1100) (h0 : ¬ (n : Int) ≤ 1000) : Calls Tryd.prog 7 #[.int .i64 (n : Int), .int .u64 (a : Int), .int .u64 (b : Int), .int .u64 (c : Int)] w fun e w' => e = .returned (.bool true) ∧ Below w.heap.size w w' := by
  have C := Lib.hid (begun_any w hT)
  have HT := Lib.hid hT
  have hnI0 : ¬ (n : Int) < 0 := by omega
  have hnI : (n : Int) ≤ 1100 := by omega
  have hz : (str (List.replicate n 0)).size = n := by rw [str_size, List.length_replicate]
  have hm : mayB ⟨2, 0, a, b, c, str (List.replicate n 0)⟩ = false := by
    rw [mayB_eq, hz]
    exact decide_eq_false (by omega)
  have hf : Rec.Fit ⟨2, 0, a, b, c, str (List.replicate n 0)⟩ := ⟨by show (-9223372036854775808 : Int) ≤ 2 ∧ (2 : Int) ≤ 9223372036854775807; decide, by show 0 < 4294967296; decide, by show (str (List.replicate n 0)).size ≤ maxLen; rw [hz]; unfold maxLen; omega⟩
  have CM := fun W => May_any ⟨2, 0, a, b, c, str (List.replicate n 0)⟩ W hf
  have CE := fun W hW => Encode_any ⟨2, 0, a, b, c, str (List.replicate n 0)⟩ W hW hf
  rw [hm] at CM
  unfold Rec.val at CM CE
  simp only at CM CE
  have hel : (enc ⟨2, 0, a, b, c, str (List.replicate n 0)⟩).length = 0 := by rw [enc, hm]; rfl
  obtain ⟨el, hell⟩ : ∃ el, enc ⟨2, 0, a, b, c, str (List.replicate n 0)⟩ = el := ⟨_, rfl⟩
  rw [hell] at CE hel
  obtain ⟨z, hzz⟩ : ∃ z, str (List.replicate n 0) = z := ⟨_, rfl⟩
  rw [hzz] at CM CE hz
  have HCM := Lib.hid CM
  have HCE := Lib.hid CE
  have HEL := Lib.hid hel
  have HZ := Lib.hid hzz
  have HZS := Lib.hid hz
  
  clear CM CE hel hell hzz hz hf hm hT
  go_enter Tryd.func7, Tryd.ntmps7
  go_wp2_with fail
  refine C.out.mono ?_
  rintro en w1 ⟨rfl, b1⟩
  obtain ⟨w2, r2, o2, b2⟩ := run_make_bytes w1 n (by omega)
  have l2 := run_str (w := w2) (a := some ⟨w1.heap.size, 0, none⟩) (l := List.replicate n 0) (by
    obtain ⟨_, _, e, _, _, _, hl, _⟩ := o2.form
    injection e with e1 e2 e3
    rw [e1]; exact hl) (Byte.zeros n) n
  rw [List.length_replicate, HZ.out] at l2
  have B2 := Lib.hid (b1.trans (b2.mono b1.size))
  have T2 := Lib.hid ((HT.out.later b1).later b2)
  clear b1 b2 o2 C
  go_wp2_with fail
  clear r2 l2
  obtain ⟨p, hp⟩ : ∃ p, w2.heap.size = p := ⟨_, rfl⟩
  have b3 : Below w2.heap.size w2 (w2.alloc (.cells #[.int .i64 2, .int .u32 0, .int .u64 (a : Int), .int .u64 (b : Int), .int .u64 (c : Int), .string z] 25)) := (Below.refl _ _).alloc (Nat.le_refl _) _
  have W3 : Whole (w2.alloc (.cells #[.int .i64 2, .int .u32 0, .int .u64 (a : Int), .int .u64 (b : Int), .int .u64 (c : Int), .string z] 25)) p 25 [.int .i64 2, .int .u32 0, .int .u64 (a : Int), .int .u64 (b : Int), .int .u64 (c : Int), .string z] := Whole.new_ hp.symm rfl
  refine (HCM.out _).mono ?_
  rintro en w4 ⟨rfl, b4⟩
  have W4 := W3.kept b4
  have c0 := W4.at_ 0
  have c1 := W4.at_ 1
  have c2 := W4.at_ 2
  have c3 := W4.at_ 3
  have c4 := W4.at_ 4
  have c5 := W4.at_ 5
  have T4 := Lib.hid ((T2.out.later b3).later b4)
  have B4 := Lib.hid ((B2.out.trans (b3.mono B2.out.size)).trans (b4.mono (B2.out.trans (b3.mono B2.out.size)).size))
  rw [hp]
  clear b3 b4 W3 W4 hp B2 T2
  go_wp2_with fail
  refine (HCE.out w4 T4.out).mono ?_
  rintro en w5 hmade
  obtain ⟨v, rfl, o5, _, b5⟩ := hmade
  obtain ⟨va, vc, ev, _⟩ := o5.form
  rw [HEL.out] at ev
  subst ev
  have B5 := Lib.hid (B4.out.trans (b5.mono B4.out.size))
  clear o5 b5 c0 c1 c2 c3 c4 c5
  go_wp2_with fail
  go_ret
  exact ⟨ret_bool (by simp; first | omega | (intros; omega) | (refine ⟨by omega, ?_⟩; rw [show decide ((c : Int) ≤ 1099511627776) = false from decide_eq_false (by omega)]; exact beq_eq_false_iff_ne.2 (by omega))), B5.out⟩
set_option maxRecDepth 100000 in
set_option maxHeartbeats 2000000 in
theorem ends_a (w : World) (hT : crc.Tab w) (n a b c : Nat) (hn : n ≤ 1100) (h0 : (n : Int) ≤ 1000) (h1 : ¬ (a : Int) ≤ 1099511627776) : Calls Tryd.prog 7 #[.int .i64 (n : Int), .int .u64 (a : Int), .int .u64 (b : Int), .int .u64 (c : Int)] w fun e w' => e = .returned (.bool true) ∧ Below w.heap.size w w' := by
  have C := Lib.hid (begun_any w hT)
  have HT := Lib.hid hT
  have hnI0 : ¬ (n : Int) < 0 := by omega
  have hnI : (n : Int) ≤ 1100 := by omega
  have hz : (str (List.replicate n 0)).size = n := by rw [str_size, List.length_replicate]
  have hm : mayB ⟨2, 0, a, b, c, str (List.replicate n 0)⟩ = false := by
    rw [mayB_eq, hz]
    exact decide_eq_false (by omega)
  have hf : Rec.Fit ⟨2, 0, a, b, c, str (List.replicate n 0)⟩ := ⟨by show (-9223372036854775808 : Int) ≤ 2 ∧ (2 : Int) ≤ 9223372036854775807; decide, by show 0 < 4294967296; decide, by show (str (List.replicate n 0)).size ≤ maxLen; rw [hz]; unfold maxLen; omega⟩
  have CM := fun W => May_any ⟨2, 0, a, b, c, str (List.replicate n 0)⟩ W hf
  have CE := fun W hW => Encode_any ⟨2, 0, a, b, c, str (List.replicate n 0)⟩ W hW hf
  rw [hm] at CM
  unfold Rec.val at CM CE
  simp only at CM CE
  have hel : (enc ⟨2, 0, a, b, c, str (List.replicate n 0)⟩).length = 0 := by rw [enc, hm]; rfl
  obtain ⟨el, hell⟩ : ∃ el, enc ⟨2, 0, a, b, c, str (List.replicate n 0)⟩ = el := ⟨_, rfl⟩
  rw [hell] at CE hel
  obtain ⟨z, hzz⟩ : ∃ z, str (List.replicate n 0) = z := ⟨_, rfl⟩
  rw [hzz] at CM CE hz
  have HCM := Lib.hid CM
  have HCE := Lib.hid CE
  have HEL := Lib.hid hel
  have HZ := Lib.hid hzz
  have HZS := Lib.hid hz
  
  clear CM CE hel hell hzz hz hf hm hT
  go_enter Tryd.func7, Tryd.ntmps7
  go_wp2_with fail
  refine C.out.mono ?_
  rintro en w1 ⟨rfl, b1⟩
  obtain ⟨w2, r2, o2, b2⟩ := run_make_bytes w1 n (by omega)
  have l2 := run_str (w := w2) (a := some ⟨w1.heap.size, 0, none⟩) (l := List.replicate n 0) (by
    obtain ⟨_, _, e, _, _, _, hl, _⟩ := o2.form
    injection e with e1 e2 e3
    rw [e1]; exact hl) (Byte.zeros n) n
  rw [List.length_replicate, HZ.out] at l2
  have B2 := Lib.hid (b1.trans (b2.mono b1.size))
  have T2 := Lib.hid ((HT.out.later b1).later b2)
  clear b1 b2 o2 C
  go_wp2_with fail
  clear r2 l2
  obtain ⟨p, hp⟩ : ∃ p, w2.heap.size = p := ⟨_, rfl⟩
  have b3 : Below w2.heap.size w2 (w2.alloc (.cells #[.int .i64 2, .int .u32 0, .int .u64 (a : Int), .int .u64 (b : Int), .int .u64 (c : Int), .string z] 25)) := (Below.refl _ _).alloc (Nat.le_refl _) _
  have W3 : Whole (w2.alloc (.cells #[.int .i64 2, .int .u32 0, .int .u64 (a : Int), .int .u64 (b : Int), .int .u64 (c : Int), .string z] 25)) p 25 [.int .i64 2, .int .u32 0, .int .u64 (a : Int), .int .u64 (b : Int), .int .u64 (c : Int), .string z] := Whole.new_ hp.symm rfl
  refine (HCM.out _).mono ?_
  rintro en w4 ⟨rfl, b4⟩
  have W4 := W3.kept b4
  have c0 := W4.at_ 0
  have c1 := W4.at_ 1
  have c2 := W4.at_ 2
  have c3 := W4.at_ 3
  have c4 := W4.at_ 4
  have c5 := W4.at_ 5
  have T4 := Lib.hid ((T2.out.later b3).later b4)
  have B4 := Lib.hid ((B2.out.trans (b3.mono B2.out.size)).trans (b4.mono (B2.out.trans (b3.mono B2.out.size)).size))
  rw [hp]
  clear b3 b4 W3 W4 hp B2 T2
  go_wp2_with fail
  refine (HCE.out w4 T4.out).mono ?_
  rintro en w5 hmade
  obtain ⟨v, rfl, o5, _, b5⟩ := hmade
  obtain ⟨va, vc, ev, _⟩ := o5.form
  rw [HEL.out] at ev
  subst ev
  have B5 := Lib.hid (B4.out.trans (b5.mono B4.out.size))
  clear o5 b5 c0 c1 c2 c3 c4 c5
  go_wp2_with fail
  go_ret
  exact ⟨ret_bool (by simp; first | omega | (intros; omega) | (refine ⟨by omega, ?_⟩; rw [show decide ((c : Int) ≤ 1099511627776) = false from decide_eq_false (by omega)]; exact beq_eq_false_iff_ne.2 (by omega))), B5.out⟩
set_option maxRecDepth 100000 in
set_option maxHeartbeats 2000000 in
theorem ends_b (w : World) (hT : crc.Tab w) (n a b c : Nat) (hn : n ≤ 1100) (h0 : (n : Int) ≤ 1000) (h1 : (a : Int) ≤ 1099511627776) (h2 : ¬ (b : Int) ≤ 1099511627776) : Calls Tryd.prog 7 #[.int .i64 (n : Int), .int .u64 (a : Int), .int .u64 (b : Int), .int .u64 (c : Int)] w fun e w' => e = .returned (.bool true) ∧ Below w.heap.size w w' := by
  have C := Lib.hid (begun_any w hT)
  have HT := Lib.hid hT
  have hnI0 : ¬ (n : Int) < 0 := by omega
  have hnI : (n : Int) ≤ 1100 := by omega
  have hz : (str (List.replicate n 0)).size = n := by rw [str_size, List.length_replicate]
  have hm : mayB ⟨2, 0, a, b, c, str (List.replicate n 0)⟩ = false := by
    rw [mayB_eq, hz]
    exact decide_eq_false (by omega)
  have hf : Rec.Fit ⟨2, 0, a, b, c, str (List.replicate n 0)⟩ := ⟨by show (-9223372036854775808 : Int) ≤ 2 ∧ (2 : Int) ≤ 9223372036854775807; decide, by show 0 < 4294967296; decide, by show (str (List.replicate n 0)).size ≤ maxLen; rw [hz]; unfold maxLen; omega⟩
  have CM := fun W => May_any ⟨2, 0, a, b, c, str (List.replicate n 0)⟩ W hf
  have CE := fun W hW => Encode_any ⟨2, 0, a, b, c, str (List.replicate n 0)⟩ W hW hf
  rw [hm] at CM
  unfold Rec.val at CM CE
  simp only at CM CE
  have hel : (enc ⟨2, 0, a, b, c, str (List.replicate n 0)⟩).length = 0 := by rw [enc, hm]; rfl
  obtain ⟨el, hell⟩ : ∃ el, enc ⟨2, 0, a, b, c, str (List.replicate n 0)⟩ = el := ⟨_, rfl⟩
  rw [hell] at CE hel
  obtain ⟨z, hzz⟩ : ∃ z, str (List.replicate n 0) = z := ⟨_, rfl⟩
  rw [hzz] at CM CE hz
  have HCM := Lib.hid CM
  have HCE := Lib.hid CE
  have HEL := Lib.hid hel
  have HZ := Lib.hid hzz
  have HZS := Lib.hid hz
  
  clear CM CE hel hell hzz hz hf hm hT
  go_enter Tryd.func7, Tryd.ntmps7
  go_wp2_with fail
  refine C.out.mono ?_
  rintro en w1 ⟨rfl, b1⟩
  obtain ⟨w2, r2, o2, b2⟩ := run_make_bytes w1 n (by omega)
  have l2 := run_str (w := w2) (a := some ⟨w1.heap.size, 0, none⟩) (l := List.replicate n 0) (by
    obtain ⟨_, _, e, _, _, _, hl, _⟩ := o2.form
    injection e with e1 e2 e3
    rw [e1]; exact hl) (Byte.zeros n) n
  rw [List.length_replicate, HZ.out] at l2
  have B2 := Lib.hid (b1.trans (b2.mono b1.size))
  have T2 := Lib.hid ((HT.out.later b1).later b2)
  clear b1 b2 o2 C
  go_wp2_with fail
  clear r2 l2
  obtain ⟨p, hp⟩ : ∃ p, w2.heap.size = p := ⟨_, rfl⟩
  have b3 : Below w2.heap.size w2 (w2.alloc (.cells #[.int .i64 2, .int .u32 0, .int .u64 (a : Int), .int .u64 (b : Int), .int .u64 (c : Int), .string z] 25)) := (Below.refl _ _).alloc (Nat.le_refl _) _
  have W3 : Whole (w2.alloc (.cells #[.int .i64 2, .int .u32 0, .int .u64 (a : Int), .int .u64 (b : Int), .int .u64 (c : Int), .string z] 25)) p 25 [.int .i64 2, .int .u32 0, .int .u64 (a : Int), .int .u64 (b : Int), .int .u64 (c : Int), .string z] := Whole.new_ hp.symm rfl
  refine (HCM.out _).mono ?_
  rintro en w4 ⟨rfl, b4⟩
  have W4 := W3.kept b4
  have c0 := W4.at_ 0
  have c1 := W4.at_ 1
  have c2 := W4.at_ 2
  have c3 := W4.at_ 3
  have c4 := W4.at_ 4
  have c5 := W4.at_ 5
  have T4 := Lib.hid ((T2.out.later b3).later b4)
  have B4 := Lib.hid ((B2.out.trans (b3.mono B2.out.size)).trans (b4.mono (B2.out.trans (b3.mono B2.out.size)).size))
  rw [hp]
  clear b3 b4 W3 W4 hp B2 T2
  go_wp2_with fail
  refine (HCE.out w4 T4.out).mono ?_
  rintro en w5 hmade
  obtain ⟨v, rfl, o5, _, b5⟩ := hmade
  obtain ⟨va, vc, ev, _⟩ := o5.form
  rw [HEL.out] at ev
  subst ev
  have B5 := Lib.hid (B4.out.trans (b5.mono B4.out.size))
  clear o5 b5 c0 c1 c2 c3 c4 c5
  go_wp2_with fail
  go_ret
  exact ⟨ret_bool (by simp; first | omega | (intros; omega) | (refine ⟨by omega, ?_⟩; rw [show decide ((c : Int) ≤ 1099511627776) = false from decide_eq_false (by omega)]; exact beq_eq_false_iff_ne.2 (by omega))), B5.out⟩
set_option maxRecDepth 100000 in
set_option maxHeartbeats 2000000 in
theorem ends_c (w : World) (hT : crc.Tab w) (n a b c : Nat) (hn : n ≤ 1100) (h0 : (n : Int) ≤ 1000) (h1 : (a : Int) ≤ 1099511627776) (h2 : (b : Int) ≤ 1099511627776) (h3 : ¬ (c : Int) ≤ 1099511627776) : Calls Tryd.prog 7 #[.int .i64 (n : Int), .int .u64 (a : Int), .int .u64 (b : Int), .int .u64 (c : Int)] w fun e w' => e = .returned (.bool true) ∧ Below w.heap.size w w' := by
  have C := Lib.hid (begun_any w hT)
  have HT := Lib.hid hT
  have hnI0 : ¬ (n : Int) < 0 := by omega
  have hnI : (n : Int) ≤ 1100 := by omega
  have hz : (str (List.replicate n 0)).size = n := by rw [str_size, List.length_replicate]
  have hm : mayB ⟨2, 0, a, b, c, str (List.replicate n 0)⟩ = false := by
    rw [mayB_eq, hz]
    exact decide_eq_false (by omega)
  have hf : Rec.Fit ⟨2, 0, a, b, c, str (List.replicate n 0)⟩ := ⟨by show (-9223372036854775808 : Int) ≤ 2 ∧ (2 : Int) ≤ 9223372036854775807; decide, by show 0 < 4294967296; decide, by show (str (List.replicate n 0)).size ≤ maxLen; rw [hz]; unfold maxLen; omega⟩
  have CM := fun W => May_any ⟨2, 0, a, b, c, str (List.replicate n 0)⟩ W hf
  have CE := fun W hW => Encode_any ⟨2, 0, a, b, c, str (List.replicate n 0)⟩ W hW hf
  rw [hm] at CM
  unfold Rec.val at CM CE
  simp only at CM CE
  have hel : (enc ⟨2, 0, a, b, c, str (List.replicate n 0)⟩).length = 0 := by rw [enc, hm]; rfl
  obtain ⟨el, hell⟩ : ∃ el, enc ⟨2, 0, a, b, c, str (List.replicate n 0)⟩ = el := ⟨_, rfl⟩
  rw [hell] at CE hel
  obtain ⟨z, hzz⟩ : ∃ z, str (List.replicate n 0) = z := ⟨_, rfl⟩
  rw [hzz] at CM CE hz
  have HCM := Lib.hid CM
  have HCE := Lib.hid CE
  have HEL := Lib.hid hel
  have HZ := Lib.hid hzz
  have HZS := Lib.hid hz
  
  clear CM CE hel hell hzz hz hf hm hT
  go_enter Tryd.func7, Tryd.ntmps7
  go_wp2_with fail
  refine C.out.mono ?_
  rintro en w1 ⟨rfl, b1⟩
  obtain ⟨w2, r2, o2, b2⟩ := run_make_bytes w1 n (by omega)
  have l2 := run_str (w := w2) (a := some ⟨w1.heap.size, 0, none⟩) (l := List.replicate n 0) (by
    obtain ⟨_, _, e, _, _, _, hl, _⟩ := o2.form
    injection e with e1 e2 e3
    rw [e1]; exact hl) (Byte.zeros n) n
  rw [List.length_replicate, HZ.out] at l2
  have B2 := Lib.hid (b1.trans (b2.mono b1.size))
  have T2 := Lib.hid ((HT.out.later b1).later b2)
  clear b1 b2 o2 C
  go_wp2_with fail
  clear r2 l2
  obtain ⟨p, hp⟩ : ∃ p, w2.heap.size = p := ⟨_, rfl⟩
  have b3 : Below w2.heap.size w2 (w2.alloc (.cells #[.int .i64 2, .int .u32 0, .int .u64 (a : Int), .int .u64 (b : Int), .int .u64 (c : Int), .string z] 25)) := (Below.refl _ _).alloc (Nat.le_refl _) _
  have W3 : Whole (w2.alloc (.cells #[.int .i64 2, .int .u32 0, .int .u64 (a : Int), .int .u64 (b : Int), .int .u64 (c : Int), .string z] 25)) p 25 [.int .i64 2, .int .u32 0, .int .u64 (a : Int), .int .u64 (b : Int), .int .u64 (c : Int), .string z] := Whole.new_ hp.symm rfl
  refine (HCM.out _).mono ?_
  rintro en w4 ⟨rfl, b4⟩
  have W4 := W3.kept b4
  have c0 := W4.at_ 0
  have c1 := W4.at_ 1
  have c2 := W4.at_ 2
  have c3 := W4.at_ 3
  have c4 := W4.at_ 4
  have c5 := W4.at_ 5
  have T4 := Lib.hid ((T2.out.later b3).later b4)
  have B4 := Lib.hid ((B2.out.trans (b3.mono B2.out.size)).trans (b4.mono (B2.out.trans (b3.mono B2.out.size)).size))
  rw [hp]
  clear b3 b4 W3 W4 hp B2 T2
  go_wp2_with fail
  refine (HCE.out w4 T4.out).mono ?_
  rintro en w5 hmade
  obtain ⟨v, rfl, o5, _, b5⟩ := hmade
  obtain ⟨va, vc, ev, _⟩ := o5.form
  rw [HEL.out] at ev
  subst ev
  have B5 := Lib.hid (B4.out.trans (b5.mono B4.out.size))
  clear o5 b5 c0 c1 c2 c3 c4 c5
  go_wp2_with fail
  go_ret
  exact ⟨ret_bool (by simp; first | omega | (intros; omega) | (refine ⟨by omega, ?_⟩; rw [show decide ((c : Int) ≤ 1099511627776) = false from decide_eq_false (by omega)]; exact beq_eq_false_iff_ne.2 (by omega))), B5.out⟩
theorem ends_any (w : World) (hT : crc.Tab w) (n : Int) (a b c : Nat) : Calls Tryd.prog 7 #[.int .i64 n, .int .u64 (a : Int), .int .u64 (b : Int), .int .u64 (c : Int)] w fun e w' => e = .returned (.bool true) ∧ Below w.heap.size w w' := by
  by_cases he : n < 0 ∨ 1100 < n
  · exact ends_early w hT n a b c he
  · obtain ⟨m, rfl⟩ : ∃ m : Nat, n = m := ⟨n.toNat, by omega⟩
    by_cases h0 : (m : Int) ≤ 1000
    · by_cases h1 : (a : Int) ≤ 1099511627776
      · by_cases h2 : (b : Int) ≤ 1099511627776
        · by_cases h3 : (c : Int) ≤ 1099511627776
          · exact ends_ok w hT m a b c (by omega) h0 h1 h2 h3
          · exact ends_c w hT m a b c (by omega) h0 h1 h2 h3
        · exact ends_b w hT m a b c (by omega) h0 h1 h2
      · exact ends_a w hT m a b c (by omega) h0 h1
    · exact ends_n w hT m a b c (by omega) h0
end Go.Proofs.YtlpennnnkbnjmaaDoor.recd
