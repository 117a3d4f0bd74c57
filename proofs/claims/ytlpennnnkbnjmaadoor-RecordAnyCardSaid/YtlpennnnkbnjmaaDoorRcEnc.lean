/-
  CONTRACT of record.Encode (P6.1).
-/
import Derived.Test.YtlpennnnkbnjmaaDoorRcGrow
namespace Go.Proofs.YtlpennnnkbnjmaaDoor.recd
open Go.RowKit Go.Proofs.YtlpennnnkbnjmaaDoor.num Go.Proofs.YtlpennnnkbnjmaaDoor.disk

theorem Below.whole_at {W w : World} {g : Nat} {t : TypeId} {l : List Value} (h : Whole W g t l) (hb : Below W.heap.size W w) (i : Nat) : w.cell? ⟨g, i, none⟩ = l[i]? := (h.kept hb).at_ i

theorem enc_no (r : Rec) (w : World) (hf : r.Fit) (hm : mayB r = false) : Calls Tryd.prog 10 #[r.val] w (Made w []) := by
  have C := Lib.hid (fun W => May_any r W hf)
  obtain ⟨k, t, e, o, s, b⟩ := r
  unfold Rec.val at C ⊢
  simp only at C ⊢
  have HM := Lib.hid hm
  clear hm hf
  go_enter Tryd.func10, Tryd.ntmps10
  go_wp2_with fail
  refine (C.out _).mono ?_
  rintro en w' ⟨rfl, bw⟩
  rw [HM.out]
  have fin : Made w [] (.returned (.slice none 0 0)) w' := ⟨_, rfl, Own.none_ _, (fun g hg => by cases hg), ((Below.refl _ _).alloc (Nat.le_refl _) _).trans (bw.mono (by simp))⟩
  have F := Lib.hid fin
  clear bw fin
  go_wp2
  go_ret
  exact F.out

set_option maxRecDepth 100000 in
set_option maxHeartbeats 4000000 in
theorem enc_yes (r : Rec) (w : World) (hT : crc.Tab w) (hf : r.Fit) (hm : mayB r = true) : Calls Tryd.prog 10 #[r.val] w (Made w (encL r)) := by
  have hmb := hm
  unfold mayB numB isKindB at hmb
  simp only [Bool.and_eq_true, decide_eq_true_eq] at hmb
  obtain ⟨⟨⟨hk1, hk2⟩, -⟩, hbs⟩ := hmb
  have C := Lib.hid (fun W => May_any r W hf)
  obtain ⟨k, t, e, o, s, b⟩ := r
  simp only at hk1 hk2 hbs
  obtain ⟨kn, rfl⟩ := Int.eq_ofNat_of_zero_le (show 0 ≤ k by omega)
  have htn : (t : Int) < 4294967296 := by have := hf.tenant; simp only at this; omega
  unfold Rec.val at C ⊢
  simp only at C ⊢
  have hm' : mayB ⟨(kn : Int), t, e, o, s, b⟩ = true := hm
  have HM := Lib.hid hm'
  have hb1 : (b.size : Int) ≤ 1000 := by omega
  have hb0 : b.size ≤ 1000 := hbs
  clear hm hm' hf hbs
  go_enter Tryd.func10, Tryd.ntmps10
  go_wp2_with fail
  have wb : Whole (w.alloc (.cells #[.int .i64 (kn : Int), .int .u32 (t : Int), .int .u64 (e : Int), .int .u64 (o : Int), .int .u64 (s : Int), .string b] 25)) w.heap.size 25 [.int .i64 (kn : Int), .int .u32 (t : Int), .int .u64 (e : Int), .int .u64 (o : Int), .int .u64 (s : Int), .string b] := Whole.new_ rfl rfl
  have bb : Below w.heap.size w (w.alloc (.cells #[.int .i64 (kn : Int), .int .u32 (t : Int), .int .u64 (e : Int), .int .u64 (o : Int), .int .u64 (s : Int), .string b] 25)) := (Below.refl _ _).alloc (Nat.le_refl _) _
  refine (C.out _).mono ?_
  rintro en w1 ⟨rfl, bw⟩
  rw [HM.out]
  have W1 := Lib.hid (wb.kept bw)
  have B1 := Lib.hid (bb.trans (bw.mono bb.size))
  have T1 := Lib.hid ((hT.later bb).later bw)
  clear bw wb bb C hT
  obtain ⟨g, hg⟩ : ∃ g, w.heap.size = g := ⟨_, rfl⟩
  rw [hg] at W1 ⊢
  have HG := Lib.hid hg
  clear hg
  have ck : w1.cell? ⟨g, 5, none⟩ = some (.string b) := W1.out.at_ 5
  obtain ⟨w2, r2, g2⟩ := run_make_room w1 (39 + b.size) (by omega)
  rw [show ((39 + b.size : Nat) : Int) = 39 + (b.size : Int) by omega] at r2
  have G2 := Lib.hid g2
  clear g2
  obtain ⟨v3, w3, r3, g3⟩ := G2.out.text ⟨#[83, 82]⟩ (by show 0 + 2 ≤ _; omega)
  have R3 := Lib.hid r3
  have G3 := Lib.hid g3
  clear r3 g3
  obtain ⟨v2, hv2⟩ : ∃ v2, Value.slice (some ⟨w1.heap.size, 0, none⟩) 0 (39 + b.size) = v2 := ⟨_, rfl⟩
  rw [hv2] at r2 R3
  clear hv2
  obtain ⟨l3, e3⟩ : ∃ l, ([] ++ bs ⟨#[83, 82]⟩ : List Int) = l := ⟨_, rfl⟩
  have hl3 : l3.length = 2 := by rw [← e3]; rfl
  rw [e3] at G3
  have E3 := Lib.hid e3
  have HL3 := Lib.hid hl3
  have by3 : Byte l3 := by rw [← e3]; exact bs_byte _
  have BY3 := Lib.hid by3
  clear e3 hl3 by3
  go_wp2_with ((with_reducible show wpList _ _ _ _ _ _); refine wpList_append_run 9 (.tmp 12) (.const (.string ⟨#[83, 82]⟩)) _ _ rfl rfl rfl rfl rfl R3.out ?_; clear r2 ck; have ck : w3.cell? ⟨g, 0, none⟩ = some (.int .i64 (kn : Int)) := (W1.out.kept G3.out.below).at_ 0)
  clear ck
  refine (put_any kn 1 (by decide) w3).mono ?_
  rintro en wm hm
  obtain ⟨a4, c4, v4, w4, rfl, r4, g4⟩ := G3.out.put 1 (be_length _ _) hm (by rw [HL3.out]; decide)
  obtain ⟨l4, e4⟩ : ∃ l, l3 ++ be kn 1 = l := ⟨_, rfl⟩
  have hl4 : l4.length = 3 := by rw [← e4, List.length_append, HL3.out, be_length]
  rw [e4] at g4
  have R4 := Lib.hid r4
  have G4 := Lib.hid g4
  have E4 := Lib.hid e4
  have HL4 := Lib.hid hl4
  have by4 : Byte l4 := by rw [← e4]; exact BY3.out.append (be_Byte _ _)
  have BY4 := Lib.hid by4
  clear by4 hm r4 g4 e4 hl4
  go_wp2_with ((with_reducible show wpList _ _ _ _ _ _); refine wpList_append_run 28 (.tmp 14) (.tmp 18) _ _ rfl rfl rfl rfl rfl R4.out ?_; have ck : w4.cell? ⟨g, 1, none⟩ = some (.int .u32 (t : Int)) := (W1.out.kept G4.out.below).at_ 1)
  clear ck htn
  refine (put_any t 4 (by decide) w4).mono ?_
  rintro en wm hm
  obtain ⟨a5, c5, v5, w5, rfl, r5, g5⟩ := G4.out.put 4 (be_length _ _) hm (by rw [HL4.out]; decide)
  obtain ⟨l5, e5⟩ : ∃ l, l4 ++ be t 4 = l := ⟨_, rfl⟩
  have hl5 : l5.length = 7 := by rw [← e5, List.length_append, HL4.out, be_length]
  rw [e5] at g5
  have R5 := Lib.hid r5
  have G5 := Lib.hid g5
  have E5 := Lib.hid e5
  have HL5 := Lib.hid hl5
  have by5 : Byte l5 := by rw [← e5]; exact BY4.out.append (be_Byte _ _)
  have BY5 := Lib.hid by5
  clear by5 hm r5 g5 e5 hl5
  go_wp2_with ((with_reducible show wpList _ _ _ _ _ _); refine wpList_append_run 28 (.tmp 20) (.tmp 24) _ _ rfl rfl rfl rfl rfl R5.out ?_; have ck : w5.cell? ⟨g, 2, none⟩ = some (.int .u64 (e : Int)) := (W1.out.kept G5.out.below).at_ 2)
  clear ck
  refine (put_any e 8 (by decide) w5).mono ?_
  rintro en wm hm
  obtain ⟨a6, c6, v6, w6, rfl, r6, g6⟩ := G5.out.put 8 (be_length _ _) hm (by rw [HL5.out]; decide)
  obtain ⟨l6, e6⟩ : ∃ l, l5 ++ be e 8 = l := ⟨_, rfl⟩
  have hl6 : l6.length = 15 := by rw [← e6, List.length_append, HL5.out, be_length]
  rw [e6] at g6
  have R6 := Lib.hid r6
  have G6 := Lib.hid g6
  have E6 := Lib.hid e6
  have HL6 := Lib.hid hl6
  have by6 : Byte l6 := by rw [← e6]; exact BY5.out.append (be_Byte _ _)
  have BY6 := Lib.hid by6
  clear by6 hm r6 g6 e6 hl6
  go_wp2_with ((with_reducible show wpList _ _ _ _ _ _); refine wpList_append_run 28 (.tmp 26) (.tmp 29) _ _ rfl rfl rfl rfl rfl R6.out ?_; have ck : w6.cell? ⟨g, 3, none⟩ = some (.int .u64 (o : Int)) := (W1.out.kept G6.out.below).at_ 3)
  clear ck
  refine (put_any o 8 (by decide) w6).mono ?_
  rintro en wm hm
  obtain ⟨a7, c7, v7, w7, rfl, r7, g7⟩ := G6.out.put 8 (be_length _ _) hm (by rw [HL6.out]; decide)
  obtain ⟨l7, e7⟩ : ∃ l, l6 ++ be o 8 = l := ⟨_, rfl⟩
  have hl7 : l7.length = 23 := by rw [← e7, List.length_append, HL6.out, be_length]
  rw [e7] at g7
  have R7 := Lib.hid r7
  have G7 := Lib.hid g7
  have E7 := Lib.hid e7
  have HL7 := Lib.hid hl7
  have by7 : Byte l7 := by rw [← e7]; exact BY6.out.append (be_Byte _ _)
  have BY7 := Lib.hid by7
  clear by7 hm r7 g7 e7 hl7
  go_wp2_with ((with_reducible show wpList _ _ _ _ _ _); refine wpList_append_run 28 (.tmp 31) (.tmp 34) _ _ rfl rfl rfl rfl rfl R7.out ?_; have ck : w7.cell? ⟨g, 4, none⟩ = some (.int .u64 (s : Int)) := (W1.out.kept G7.out.below).at_ 4)
  clear ck
  refine (put_any s 8 (by decide) w7).mono ?_
  rintro en wm hm
  obtain ⟨a8, c8, v8, w8, rfl, r8, g8⟩ := G7.out.put 8 (be_length _ _) hm (by rw [HL7.out]; decide)
  obtain ⟨l8, e8⟩ : ∃ l, l7 ++ be s 8 = l := ⟨_, rfl⟩
  have hl8 : l8.length = 31 := by rw [← e8, List.length_append, HL7.out, be_length]
  rw [e8] at g8
  have R8 := Lib.hid r8
  have G8 := Lib.hid g8
  have E8 := Lib.hid e8
  have HL8 := Lib.hid hl8
  have by8 : Byte l8 := by rw [← e8]; exact BY7.out.append (be_Byte _ _)
  have BY8 := Lib.hid by8
  clear by8 hm r8 g8 e8 hl8
  go_wp2_with ((with_reducible show wpList _ _ _ _ _ _); refine wpList_append_run 28 (.tmp 36) (.tmp 39) _ _ rfl rfl rfl rfl rfl R8.out ?_; have ck : w8.cell? ⟨g, 5, none⟩ = some (.string b) := (W1.out.kept G8.out.below).at_ 5)
  clear ck
  refine (put_any b.size 4 (by decide) w8).mono ?_
  rintro en wm hm
  obtain ⟨a9, c9, v9, w9, rfl, r9, g9⟩ := G8.out.put 4 (be_length _ _) hm (by rw [HL8.out]; decide)
  obtain ⟨l9, e9⟩ : ∃ l, l8 ++ be b.size 4 = l := ⟨_, rfl⟩
  have hl9 : l9.length = 35 := by rw [← e9, List.length_append, HL8.out, be_length]
  rw [e9] at g9
  have R9 := Lib.hid r9
  have G9 := Lib.hid g9
  have E9 := Lib.hid e9
  have HL9 := Lib.hid hl9
  have by9 : Byte l9 := by rw [← e9]; exact BY8.out.append (be_Byte _ _)
  have BY9 := Lib.hid by9
  clear by9 hm r9 g9 e9 hl9
  obtain ⟨av, cv, ev, _, _, hn9, lv9, _⟩ := G9.out.own.form
  rw [HL9.out] at ev hn9
  subst ev
  obtain ⟨cb, w10, rb, lb, bb, hcb⟩ := run_bytes w9 b
  have LV := Lib.hid (lv9.later bb)
  have LB := Lib.hid lb
  have G10 := Lib.hid (G9.out.later bb)
  have T10 := Lib.hid ((T1.out.later G9.out.below).later bb)
  clear lv9 lb bb hn9
  go_wp2_with ((with_reducible show wpList _ _ _ _ _ _); refine wpList_append_run 28 (.tmp 41) (.tmp 46) _ _ rfl rfl rfl rfl rfl R9.out ?_; have ck : w9.cell? ⟨g, 5, none⟩ = some (.string b) := (W1.out.kept G9.out.below).at_ 5)
  refine (sum_any w10 T10.out av _ 35 b.size cv cb l9 (bs b) LV.out LB.out BY9.out (bs_byte b) HL9.out (bs_length b) (by decide) (by omega)).mono ?_
  rintro en w' ⟨rfl, rfl⟩
  clear rb
  obtain ⟨sm, hsm⟩ : ∃ sm, sumOf (l9 ++ bs b) = sm := ⟨_, rfl⟩
  have hsm1 : (sm : Int) < 4294967296 := by rw [← hsm]; unfold sumOf; have := (crc.sum (l9 ++ bs b)).isLt; omega
  rw [hsm]
  have HSM := Lib.hid hsm
  clear hsm
  go_wp2_with fail
  clear hsm1
  refine (put_any sm 4 (by decide) w10).mono ?_
  rintro en wm hm
  obtain ⟨a11, c11, v11, w11, rfl, r11, g11⟩ := G10.out.put 4 (be_length _ _) hm (by rw [HL9.out]; decide)
  have hl11 : (l9 ++ be sm 4).length = 39 := by rw [List.length_append, HL9.out, be_length]
  obtain ⟨v12, w12, r12, g12⟩ := g11.text b (by rw [hl11]; omega)
  have R11 := Lib.hid r11
  have R12 := Lib.hid r12
  have ck : w11.cell? ⟨g, 5, none⟩ = some (.string b) := (W1.out.kept g11.below).at_ 5
  have hB : Below w.heap.size w w12 := B1.out.trans (g12.below.mono (by have := B1.out.size; omega))
  have fin : Made w (encL ⟨(kn : Int), t, e, o, s, b⟩) (.returned v12) w12 := by
    refine ⟨_, rfl, ?_, fun g hg => Nat.le_trans B1.out.size (g12.new_ g hg), hB⟩
    have := g12.own
    rw [← HSM.out, ← E9.out, ← E8.out, ← E7.out, ← E6.out, ← E5.out, ← E4.out, ← E3.out] at this
    exact this
  have F := Lib.hid fin
  clear hm r11 g11 r12 g12 hB fin hl11
  go_wp2_with (first
    | ((with_reducible show wpList _ _ _ (⟨some 56, _, _, _, _, _⟩ :: _) _ _); refine wpList_append_run 28 (.tmp 48) (.tmp 55) _ _ rfl rfl rfl rfl rfl R11.out ?_)
    | ((with_reducible show wpList _ _ _ (⟨some 60, _, _, _, _, _⟩ :: _) _ _); refine wpList_append_run 9 (.tmp 57) (.tmp 59) _ _ rfl rfl rfl rfl rfl R12.out ?_))
  go_ret
  exact F.out

theorem Encode_any (r : Rec) (w : World) (hT : crc.Tab w) (hf : r.Fit) : Calls Tryd.prog 10 #[r.val] w (Made w (enc r)) := by
  unfold enc
  cases hm : mayB r
  · exact enc_no r w hf hm
  · exact enc_yes r w hT hf hm
end Go.Proofs.YtlpennnnkbnjmaaDoor.recd
