/-
  CONTRACT of the reference's Encode (stillroomref6).
-/
import Derived.Test.YtodajceiadbpeaaDoorRcLawB
import Derived.Deep.RegionLaw
namespace Go.Proofs.YtodajceiadbpeaaDoor.recd
open Go.RowKit Go.Proofs.YtodajceiadbpeaaDoor.num Go.Proofs.YtodajceiadbpeaaDoor.disk
set_option linter.unusedVariables false

theorem renc_no (r : Rec) (w : World) (hf : r.Fit) (hm : mayB r = false) : Calls Tryd.prog 10 #[r.val] w (Made w []) := by
  have C := Lib.hid (fun W => rMay_any r W hf)
  obtain ⟨k, t, e, o, s, b⟩ := r
  unfold Rec.val at C ⊢
  simp only at C ⊢
  have HM := Lib.hid hm
  clear hm hf
  go_enter Tryd.func10, Tryd.ntmps10
  go_wp2_with fail
  refine (C.out _).mono ?_
  rintro en w' ⟨rfl, bw⟩
  rw [HM.out]
  have fin : Made w [] (.returned (.slice none 0 0)) w' := ⟨_, rfl, Own.none_ _, (fun g hg => by cases hg), ((Below.refl _ _).alloc (Nat.le_refl _) _).trans (bw.mono (by simp))⟩
  have F := Lib.hid fin
  clear bw fin
  go_wp2
  go_ret
  exact F.out

theorem step_append_run {w w' : World} {v' : Value} {ops : Array Oper} {o : Oper} {a : Act} {K : Act → World → Prop} {Q : Exit → Act → World → Prop} {E : Prop} (T : TypeId) (s x : Operand) (v u : Value) (hw : Region.wanted o (yielded ops a.tmps) = true)
    (ho : o.op = .call { callee := .builtin .append, args := #[s, x], argTypes := #[26, T] }) (hty : o.type = 26) (hs : a.eval s = v) (hx : a.eval x = u)
    (hrun : (Builtin.append_ #[26, T] 26 #[v, u]).run Tryd.prog w = .ok v' w')
    (h : K (a.put o.dst v') w') : if Region.wanted o (yielded ops a.tmps) = true then Oper.wp Tryd.prog o a w K Q else E := by
  rw [if_pos hw]
  unfold Oper.wp execOp
  simp only [ho, hty, resolve, invoke, builtin, Sem.run_bind, Sem.run_pure, Result.andThen_ok, List.map_toArray, List.map_cons, List.map_nil, hs, hx, hrun]
  exact h
theorem grow_three (w0 w : World) (c : Int) (hb : Below w0.heap.size w0 w) : Grow w0 [83, 82, c] (.slice (some ⟨w.heap.size, 0, none⟩) 3 3) (w.alloc (.cells #[.int .u8 83, .int .u8 82, .int .u8 c] 5)) :=
  ⟨⟨rfl, .inr ⟨w.heap.size, 3, _, rfl, Nat.zero_le _, heap_alloc_new w _, Nat.le_refl _, by show 3 ≤ maxLen; unfold maxLen; omega, rfl, rfl⟩⟩, fun g hg => by
    simp [Value.ownBlock] at hg; have := hb.size; omega, hb.alloc hb.size _⟩

set_option maxRecDepth 100000 in
set_option maxHeartbeats 4000000 in
theorem renc_yes (r : Rec) (w : World) (hf : r.Fit) (hm : mayB r = true) : Calls Tryd.prog 10 #[r.val] w (Made w (encL r)) := by
  have hmb := hm
  unfold mayB numB isKindB at hmb
  simp only [Bool.and_eq_true, decide_eq_true_eq] at hmb
  obtain ⟨⟨⟨hk1, hk2⟩, -⟩, hbs⟩ := hmb
  have C := Lib.hid (fun W => rMay_any r W hf)
  obtain ⟨k, t, e, o, s, b⟩ := r
  simp only at hk1 hk2 hbs
  obtain ⟨kn, rfl⟩ := Int.eq_ofNat_of_zero_le (show 0 ≤ k by omega)
  have htn : (t : Int) < 4294967296 := by have := hf.tenant; simp only at this; omega
  unfold Rec.val at C ⊢
  simp only at C ⊢
  have hm' : mayB ⟨(kn : Int), t, e, o, s, b⟩ = true := hm
  have HM := Lib.hid hm'
  have hb1 : (b.size : Int) ≤ 1000 := by omega
  have hb0 : b.size ≤ 1000 := hbs
  clear hm hm' hf hbs
  go_enter Tryd.func10, Tryd.ntmps10
  go_wp2_with fail
  have wb : Whole (w.alloc (.cells #[.int .i64 (kn : Int), .int .u32 (t : Int), .int .u64 (e : Int), .int .u64 (o : Int), .int .u64 (s : Int), .string b] 32)) w.heap.size 32 [.int .i64 (kn : Int), .int .u32 (t : Int), .int .u64 (e : Int), .int .u64 (o : Int), .int .u64 (s : Int), .string b] := Whole.new_ rfl rfl
  have bb : Below w.heap.size w (w.alloc (.cells #[.int .i64 (kn : Int), .int .u32 (t : Int), .int .u64 (e : Int), .int .u64 (o : Int), .int .u64 (s : Int), .string b] 32)) := (Below.refl _ _).alloc (Nat.le_refl _) _
  refine (C.out _).mono ?_
  rintro en w1 ⟨rfl, bw⟩
  rw [HM.out]
  have W1 := Lib.hid (wb.kept bw)
  have B1 := Lib.hid (bb.trans (bw.mono bb.size))
  clear bw wb bb C
  obtain ⟨g, hg⟩ : ∃ g, w.heap.size = g := ⟨_, rfl⟩
  rw [hg] at W1 ⊢
  have HG := Lib.hid hg
  clear hg
  have ck : w1.cell? ⟨g, 0, none⟩ = some (.int .i64 (kn : Int)) := W1.out.at_ 0
  have ck1 : (w1.alloc (.cells #[.int .u8 83, .int .u8 82, .int .u8 (kn : Int)] 5)).cell? ⟨g, 1, none⟩ = some (.int .u32 (t : Int)) := (W1.out.more _).at_ 1
  have g3 := grow_three w1 w1 (kn : Int) (Below.refl _ _)
  have G3 := Lib.hid g3
  clear g3
  go_wp2_with fail
  obtain ⟨w3, hw3⟩ : ∃ w3, w1.alloc (.cells #[.int .u8 83, .int .u8 82, .int .u8 (kn : Int)] 5) = w3 := ⟨_, rfl⟩
  obtain ⟨v3, hv3⟩ : ∃ v3, Value.slice (some ⟨w1.heap.size, 0, none⟩) 3 3 = v3 := ⟨_, rfl⟩
  obtain ⟨l3, e3⟩ : ∃ l, ([83, 82, (kn : Int)] : List Int) = l := ⟨_, rfl⟩
  have hl3 : l3.length = 3 := by rw [← e3]; rfl
  have by3 : Byte l3 := by
    rw [← e3]
    intro c hc
    simp at hc
    omega
  rw [hw3, hv3, e3] at G3
  rw [hw3, hv3]
  have E3 := Lib.hid e3
  have HL3 := Lib.hid hl3
  have BY3 := Lib.hid by3
  clear e3 hl3 by3 ck ck1 hw3 hv3
  
  refine (rput_any t 4 (by decide) w3).mono ?_
  rintro en wm hm
  obtain ⟨a4, c4, v4, w4, rfl, r4, g4⟩ := G3.out.put 4 (be_length _ _) hm (by rw [HL3.out]; decide)
  obtain ⟨l4, e4⟩ : ∃ l, l3 ++ be t 4 = l := ⟨_, rfl⟩
  have hl4 : l4.length = 7 := by rw [← e4, List.length_append, HL3.out, be_length]
  rw [e4] at g4
  have R4 := Lib.hid r4
  have G4 := Lib.hid g4
  have E4 := Lib.hid e4
  have HL4 := Lib.hid hl4
  have by4 : Byte l4 := by rw [← e4]; exact BY3.out.append (be_Byte _ _)
  have BY4 := Lib.hid by4
  clear by4 hm r4 g4 e4 hl4
  go_wp2_with ((with_reducible show wpList _ _ _ _ _ _); refine wpList_append_run 26 (.tmp 12) (.tmp 16) _ _ rfl rfl rfl rfl rfl R4.out ?_; have ck : w4.cell? ⟨g, 2, none⟩ = some (.int .u64 (e : Int)) := (W1.out.kept G4.out.below).at_ 2)
  clear ck htn
  refine (rput_any e 8 (by decide) w4).mono ?_
  rintro en wm hm
  obtain ⟨a5, c5, v5, w5, rfl, r5, g5⟩ := G4.out.put 8 (be_length _ _) hm (by rw [HL4.out]; decide)
  obtain ⟨l5, e5⟩ : ∃ l, l4 ++ be e 8 = l := ⟨_, rfl⟩
  have hl5 : l5.length = 15 := by rw [← e5, List.length_append, HL4.out, be_length]
  rw [e5] at g5
  have R5 := Lib.hid r5
  have G5 := Lib.hid g5
  have E5 := Lib.hid e5
  have HL5 := Lib.hid hl5
  have by5 : Byte l5 := by rw [← e5]; exact BY4.out.append (be_Byte _ _)
  have BY5 := Lib.hid by5
  clear by5 hm r5 g5 e5 hl5
  go_wp2_with ((with_reducible show wpList _ _ _ _ _ _); refine wpList_append_run 26 (.tmp 18) (.tmp 21) _ _ rfl rfl rfl rfl rfl R5.out ?_; have ck : w5.cell? ⟨g, 3, none⟩ = some (.int .u64 (o : Int)) := (W1.out.kept G5.out.below).at_ 3)
  clear ck
  refine (rput_any o 8 (by decide) w5).mono ?_
  rintro en wm hm
  obtain ⟨a6, c6, v6, w6, rfl, r6, g6⟩ := G5.out.put 8 (be_length _ _) hm (by rw [HL5.out]; decide)
  obtain ⟨l6, e6⟩ : ∃ l, l5 ++ be o 8 = l := ⟨_, rfl⟩
  have hl6 : l6.length = 23 := by rw [← e6, List.length_append, HL5.out, be_length]
  rw [e6] at g6
  have R6 := Lib.hid r6
  have G6 := Lib.hid g6
  have E6 := Lib.hid e6
  have HL6 := Lib.hid hl6
  have by6 : Byte l6 := by rw [← e6]; exact BY5.out.append (be_Byte _ _)
  have BY6 := Lib.hid by6
  clear by6 hm r6 g6 e6 hl6
  go_wp2_with ((with_reducible show wpList _ _ _ _ _ _); refine wpList_append_run 26 (.tmp 23) (.tmp 26) _ _ rfl rfl rfl rfl rfl R6.out ?_; have ck : w6.cell? ⟨g, 4, none⟩ = some (.int .u64 (s : Int)) := (W1.out.kept G6.out.below).at_ 4)
  clear ck
  refine (rput_any s 8 (by decide) w6).mono ?_
  rintro en wm hm
  obtain ⟨a7, c7, v7, w7, rfl, r7, g7⟩ := G6.out.put 8 (be_length _ _) hm (by rw [HL6.out]; decide)
  obtain ⟨l7, e7⟩ : ∃ l, l6 ++ be s 8 = l := ⟨_, rfl⟩
  have hl7 : l7.length = 31 := by rw [← e7, List.length_append, HL6.out, be_length]
  rw [e7] at g7
  have R7 := Lib.hid r7
  have G7 := Lib.hid g7
  have E7 := Lib.hid e7
  have HL7 := Lib.hid hl7
  have by7 : Byte l7 := by rw [← e7]; exact BY6.out.append (be_Byte _ _)
  have BY7 := Lib.hid by7
  clear by7 hm r7 g7 e7 hl7
  go_wp2_with ((with_reducible show wpList _ _ _ _ _ _); refine wpList_append_run 26 (.tmp 28) (.tmp 31) _ _ rfl rfl rfl rfl rfl R7.out ?_; have ck : w7.cell? ⟨g, 5, none⟩ = some (.string b) := (W1.out.kept G7.out.below).at_ 5)
  clear ck
  refine (rput_any b.size 4 (by decide) w7).mono ?_
  rintro en wm hm
  obtain ⟨a8, c8, v8, w8, rfl, r8, g8⟩ := G7.out.put 4 (be_length _ _) hm (by rw [HL7.out]; decide)
  obtain ⟨l8, e8⟩ : ∃ l, l7 ++ be b.size 4 = l := ⟨_, rfl⟩
  have hl8 : l8.length = 35 := by rw [← e8, List.length_append, HL7.out, be_length]
  rw [e8] at g8
  have R8 := Lib.hid r8
  have G8 := Lib.hid g8
  have E8 := Lib.hid e8
  have HL8 := Lib.hid hl8
  have by8 : Byte l8 := by rw [← e8]; exact BY7.out.append (be_Byte _ _)
  have BY8 := Lib.hid by8
  clear by8 hm r8 g8 e8 hl8
  obtain ⟨av, cv, ev, -, -, hn9, lv9, -⟩ := G8.out.own.form
  rw [HL8.out] at ev hn9
  subst ev
  go_wp2_with ((with_reducible show wpList _ _ _ _ _ _); refine wpList_append_run 26 (.tmp 33) (.tmp 38) _ _ rfl rfl rfl rfl rfl R8.out ?_)
  -- the text of the sum: two appends in a region that draws
  have W8 := W1.out.kept G8.out.below
  have hd8 : Below w8.heap.size w8 w8.drew := below_draws (Below.refl _ _) 1
  have gn : Grow w8.drew [] (.slice none 0 0) w8.drew := ⟨Own.none_ _, (fun g hg => by cases hg), Below.refl _ _⟩
  obtain ⟨v20, w20, r20, g20⟩ := gn.row av 35 cv (lv9.later hd8) HL8.out (fun e => (hn9 e).2) (by decide)
  have b20 : Below w8.heap.size w8 w20 := hd8.trans (g20.below.mono hd8.size)
  obtain ⟨v21, w21, r21, g21⟩ := g20.text b (by rw [List.nil_append, HL8.out]; omega)
  have b21 : Below w8.heap.size w8 w21 := hd8.trans (g21.below.mono hd8.size)
  have hlen21 : ([] ++ l8 ++ bs b).length = 35 + b.size := by rw [List.nil_append, List.length_append, HL8.out, bs_length]
  obtain ⟨a21, c21, e21, -, -, -, l21, -⟩ := g21.own.form
  rw [hlen21] at e21
  subst e21
  have q0 : w8.drew.cell? ⟨g, 5, none⟩ = some (.string b) := (W8.kept hd8).at_ 5
  have q1 : w20.cell? ⟨g, 5, none⟩ = some (.string b) := (W8.kept b20).at_ 5
  have q2 : w21.cell? ⟨g, 5, none⟩ = some (.string b) := (W8.kept b21).at_ 5
  have G21 := Lib.hid (G8.out.later b21)
  have cs := crc.ref_at a21 ([] ++ l8 ++ bs b) (35 + b.size) c21 w21 hlen21 (by omega) l21 ((Byte.nil.append BY8.out).append (bs_byte b))
  rw [List.nil_append] at cs
  obtain ⟨sm, hsm⟩ : ∃ sm, sumOf (l8 ++ bs b) = sm := ⟨_, rfl⟩
  have hsm1 : (sm : Int) < 4294967296 := by rw [← hsm]; have := sumOf_lt (l8 ++ bs b); omega
  have cs' : Calls Tryd.prog 22 #[.slice a21 (35 + b.size) c21] w21 fun e w' => e = .returned (.int .u32 (sm : Int)) ∧ w21 = w' := by rw [← hsm]; exact cs
  have CS := Lib.hid cs'
  have HSM := Lib.hid hsm
  have HSM1 := Lib.hid hsm1
  clear hsm1 cs cs' hsm W8 hd8 gn g20 b20 g21 b21 hlen21 l21 lv9 hn9
  clear hb1 hk1 hk2
  have R20 := Lib.hid r20
  have R21 := Lib.hid r21
  clear r20 r21
  go_region_law (first
    | (refine step_append_run 26 (.const (.slice none 0 0)) (.tmp 40) _ _ rfl rfl rfl rfl rfl (by exact R20.out) ?_)
    | (refine step_append_run 9 (.tmp 41) (.tmp 43) _ _ rfl rfl rfl rfl rfl (by exact R21.out) ?_)
    | (rw [if_pos (by rfl)]; go_simp; refine CS.out.mono ?_; rintro en w' ⟨rfl, rfl⟩))
  all_goals
    have hsm1 := HSM1.out
    go_wp2_with fail
    clear hsm1
    refine (rput_any sm 4 (by decide) w21).mono ?_
    rintro en wm hm
    obtain ⟨a11, c11, v11, w11, rfl, r11, g11⟩ := G21.out.put 4 (be_length _ _) hm (by rw [HL8.out]; decide)
    have hl11 : (l8 ++ be sm 4).length = 39 := by rw [List.length_append, HL8.out, be_length]
    obtain ⟨v12, w12, r12, g12⟩ := g11.text b (by rw [hl11]; omega)
    have R11 := Lib.hid r11
    have R12 := Lib.hid r12
    have ck : w11.cell? ⟨g, 5, none⟩ = some (.string b) := (W1.out.kept g11.below).at_ 5
    have hB : Below w.heap.size w w12 := B1.out.trans (g12.below.mono (by have := B1.out.size; omega))
    have e35 : l8 = numL ⟨(kn : Int), t, e, o, s, b⟩ := by
      have hkn : kn % 256 = kn := by
        have h := HM.out
        unfold mayB numB isKindB at h
        simp only [Bool.and_eq_true, decide_eq_true_eq] at h
        omega
      rw [← E8.out, ← E7.out, ← E6.out, ← E5.out, ← E4.out, ← E3.out]
      simp only [numL, be, Int.toNat_natCast, List.nil_append, List.cons_append, hkn]
    have fin : Made w (encL ⟨(kn : Int), t, e, o, s, b⟩) (.returned v12) w12 := by
      refine ⟨_, rfl, ?_, fun g hg => Nat.le_trans B1.out.size (g12.new_ g hg), hB⟩
      have := g12.own
      rw [← HSM.out, e35] at this
      exact this
    have F := Lib.hid fin
    clear hm r11 g11 r12 g12 hB fin hl11 e35
    go_wp2_with (first
      | ((with_reducible show wpList _ _ _ (⟨some 50, _, _, _, _, _⟩ :: _) _ _); refine wpList_append_run 26 (.tmp 46) (.tmp 49) _ _ rfl rfl rfl rfl rfl R11.out ?_)
      | ((with_reducible show wpList _ _ _ (⟨some 54, _, _, _, _, _⟩ :: _) _ _); refine wpList_append_run 9 (.tmp 51) (.tmp 53) _ _ rfl rfl rfl rfl rfl R12.out ?_))
    go_ret
    exact F.out

theorem REncode_any (r : Rec) (w : World) (hf : r.Fit) : Calls Tryd.prog 10 #[r.val] w (Made w (enc r)) := by
  unfold enc
  cases hm : mayB r
  · exact renc_no r w hf hm
  · exact renc_yes r w hf hm
end Go.Proofs.YtodajceiadbpeaaDoor.recd
