/-
  CONTRACTS of stillroomref6.May, stillroomlaw6.begun.
-/
import Derived.Test.YtlpennnnkbnjmaaDoorRcLaw
namespace Go.Proofs.YtlpennnnkbnjmaaDoor.recd
open Go.RowKit Go.Proofs.YtlpennnnkbnjmaaDoor.num Go.Proofs.YtlpennnnkbnjmaaDoor.disk
set_option linter.unusedVariables false

theorem mayB_eq (k : Int) (t e o s : Nat) (b : ByteArray) : mayB ⟨k, t, e, o, s, b⟩ = decide ((1 ≤ k ∧ k ≤ 4) ∧ (e : Int) ≤ 1099511627776 ∧ (o : Int) ≤ 1099511627776 ∧ (s : Int) ≤ 1099511627776 ∧ (b.size : Int) ≤ 1000) := by
  unfold mayB numB isKindB
  rw [Bool.eq_iff_iff]
  simp only [Bool.and_eq_true, decide_eq_true_eq]
  omega
set_option maxHeartbeats 1000000 in
theorem rMay_any (r : Rec) (w : World) (hf : r.Fit) : Calls Tryd.prog 13 #[r.val] w fun e w' => e = .returned (.bool (mayB r)) ∧ Below w.heap.size w w' := by
  have hb := hf.body
  unfold maxLen at hb
  clear hf
  obtain ⟨k, t, e, o, s, b⟩ := r
  unfold Rec.val
  simp only at hb ⊢
  rw [mayB_eq]
  have B : Hid (Below w.heap.size w (w.alloc (.cells #[.int .i64 k, .int .u32 (t : Int), .int .u64 (e : Int), .int .u64 (o : Int), .int .u64 (s : Int), .string b] 25))) := (Below.refl _ _).alloc (Nat.le_refl _) _
  by_cases k1 : 1 ≤ k
  · by_cases k2 : k ≤ 4
    · by_cases c1 : (e : Int) ≤ 1099511627776
      · by_cases c2 : (o : Int) ≤ 1099511627776
        · by_cases c3 : (s : Int) ≤ 1099511627776
          · by_cases c4 : (b.size : Int) ≤ 1000
            · obtain ⟨v, hv⟩ : ∃ v, decide ((1 ≤ k ∧ k ≤ 4) ∧ (e : Int) ≤ 1099511627776 ∧ (o : Int) ≤ 1099511627776 ∧ (s : Int) ≤ 1099511627776 ∧ (b.size : Int) ≤ 1000) = v := ⟨_, rfl⟩
              rw [hv]
              have hv2 : v = true := by rw [← hv]; exact decide_eq_true (by omega)
              have HV := Lib.hid hv2
              clear hv hv2
              go_enter Tryd.func13, Tryd.ntmps13
              go_wp2
              go_ret
              exact ⟨ret_bool (by first | exact HV.out.symm | (rw [HV.out]; simpa using ‹_›)), B.out⟩
            · obtain ⟨v, hv⟩ : ∃ v, decide ((1 ≤ k ∧ k ≤ 4) ∧ (e : Int) ≤ 1099511627776 ∧ (o : Int) ≤ 1099511627776 ∧ (s : Int) ≤ 1099511627776 ∧ (b.size : Int) ≤ 1000) = v := ⟨_, rfl⟩
              rw [hv]
              have hv2 : v = false := by rw [← hv]; exact decide_eq_false (by omega)
              have HV := Lib.hid hv2
              clear hv hv2
              go_enter Tryd.func13, Tryd.ntmps13
              go_wp2
              go_ret
              exact ⟨ret_bool (by first | exact HV.out.symm | (rw [HV.out]; simpa using ‹_›)), B.out⟩
          · obtain ⟨v, hv⟩ : ∃ v, decide ((1 ≤ k ∧ k ≤ 4) ∧ (e : Int) ≤ 1099511627776 ∧ (o : Int) ≤ 1099511627776 ∧ (s : Int) ≤ 1099511627776 ∧ (b.size : Int) ≤ 1000) = v := ⟨_, rfl⟩
            rw [hv]
            have hv2 : v = false := by rw [← hv]; exact decide_eq_false (by omega)
            have HV := Lib.hid hv2
            clear hv hv2
            go_enter Tryd.func13, Tryd.ntmps13
            go_wp2
            go_ret
            exact ⟨ret_bool (by first | exact HV.out.symm | (rw [HV.out]; simpa using ‹_›)), B.out⟩
        · obtain ⟨v, hv⟩ : ∃ v, decide ((1 ≤ k ∧ k ≤ 4) ∧ (e : Int) ≤ 1099511627776 ∧ (o : Int) ≤ 1099511627776 ∧ (s : Int) ≤ 1099511627776 ∧ (b.size : Int) ≤ 1000) = v := ⟨_, rfl⟩
          rw [hv]
          have hv2 : v = false := by rw [← hv]; exact decide_eq_false (by omega)
          have HV := Lib.hid hv2
          clear hv hv2
          go_enter Tryd.func13, Tryd.ntmps13
          go_wp2
          go_ret
          exact ⟨ret_bool (by first | exact HV.out.symm | (rw [HV.out]; simpa using ‹_›)), B.out⟩
      · obtain ⟨v, hv⟩ : ∃ v, decide ((1 ≤ k ∧ k ≤ 4) ∧ (e : Int) ≤ 1099511627776 ∧ (o : Int) ≤ 1099511627776 ∧ (s : Int) ≤ 1099511627776 ∧ (b.size : Int) ≤ 1000) = v := ⟨_, rfl⟩
        rw [hv]
        have hv2 : v = false := by rw [← hv]; exact decide_eq_false (by omega)
        have HV := Lib.hid hv2
        clear hv hv2
        go_enter Tryd.func13, Tryd.ntmps13
        go_wp2
        go_ret
        exact ⟨ret_bool (by first | exact HV.out.symm | (rw [HV.out]; simpa using ‹_›)), B.out⟩
    · obtain ⟨v, hv⟩ : ∃ v, decide ((1 ≤ k ∧ k ≤ 4) ∧ (e : Int) ≤ 1099511627776 ∧ (o : Int) ≤ 1099511627776 ∧ (s : Int) ≤ 1099511627776 ∧ (b.size : Int) ≤ 1000) = v := ⟨_, rfl⟩
      rw [hv]
      have hv2 : v = false := by rw [← hv]; exact decide_eq_false (by omega)
      have HV := Lib.hid hv2
      clear hv hv2
      go_enter Tryd.func13, Tryd.ntmps13
      go_wp2
      go_ret
      exact ⟨ret_bool (by first | exact HV.out.symm | (rw [HV.out]; simpa using ‹_›)), B.out⟩
  · obtain ⟨v, hv⟩ : ∃ v, decide ((1 ≤ k ∧ k ≤ 4) ∧ (e : Int) ≤ 1099511627776 ∧ (o : Int) ≤ 1099511627776 ∧ (s : Int) ≤ 1099511627776 ∧ (b.size : Int) ≤ 1000) = v := ⟨_, rfl⟩
    rw [hv]
    have hv2 : v = false := by rw [← hv]; exact decide_eq_false (by omega)
    have HV := Lib.hid hv2
    clear hv hv2
    go_enter Tryd.func13, Tryd.ntmps13
    go_wp2
    go_ret
    exact ⟨ret_bool (by first | exact HV.out.symm | (rw [HV.out]; simpa using ‹_›)), B.out⟩


def beg0 : Rec := ⟨2, 2, 0, 0, 0, ⟨#[97, 98]⟩⟩
theorem beg0_may : mayB beg0 = true := by decide
set_option maxRecDepth 100000 in
set_option maxHeartbeats 2000000 in
theorem begun_any (w : World) (hT : crc.Tab w) : Calls Tryd.prog 8 #[] w fun e w' => e = .returned (.bool true) ∧ Below w.heap.size w w' := by
  have C := Lib.hid (Encode_any beg0 w hT ⟨by decide, by decide, by decide⟩)
  have HT := Lib.hid hT
  clear hT
  go_enter Tryd.func8, Tryd.ntmps8
  go_wp2_with fail
  refine C.out.mono ?_
  rintro en w1 hm
  rw [enc, if_pos beg0_may] at hm
  obtain ⟨v, rfl, o1, _, b1⟩ := hm
  have hl : (encL beg0).length = 41 := encL_length beg0
  obtain ⟨a, cap, ev, hc, _, _, l1, _⟩ := o1.form
  rw [hl] at ev hc
  subst ev
  have hd := dec_enc beg0 beg0_may (by decide)
  have hd2 := dec_cut beg0 beg0_may (by decide) 10 (by rw [hl]; decide)
  have hB := encL_byte beg0
  obtain ⟨l, hll⟩ : ∃ l, encL beg0 = l := ⟨_, rfl⟩
  rw [hll] at hd hd2 hB hl l1
  have T1 := Lib.hid (HT.out.later b1)
  have L1 := Lib.hid l1
  have HB := Lib.hid hB
  have HL := Lib.hid hl
  have HD := Lib.hid hd
  have HD2 := Lib.hid hd2
  have B1 := Lib.hid b1
  clear o1 b1 l1 hB hl hll hd hd2 C
  go_wp2_with fail
  refine (Decode_any a 41 cap l w1 T1.out L1.out HB.out HL.out hc (by decide)).mono ?_
  rintro en w2 ⟨rfl, b2⟩
  have hv : decV (dec l) = .tuple #[.agg #[.int .i64 2, .int .u32 2, .int .u64 0, .int .u64 0, .int .u64 0, .string ⟨#[97, 98]⟩], .int .i64 41, .int .i64 0] := by rw [HD.out]; rfl
  rw [hv]
  have T2 := Lib.hid (T1.out.later b2)
  have L2 := Lib.hid (L1.out.later b2)
  have B2 := Lib.hid (B1.out.trans (b2.mono B1.out.size))
  clear b2 hv
  go_wp2_with fail
  obtain ⟨p, hp⟩ : ∃ p, w2.heap.size = p := ⟨_, rfl⟩
  have b3 : Below w2.heap.size w2 (w2.alloc (.cells #[.int .i64 2, .int .u32 2, .int .u64 0, .int .u64 0, .int .u64 0, .string ⟨#[97, 98]⟩] 25)) := (Below.refl _ _).alloc (Nat.le_refl _) _
  have W3 : Whole (w2.alloc (.cells #[.int .i64 2, .int .u32 2, .int .u64 0, .int .u64 0, .int .u64 0, .string ⟨#[97, 98]⟩] 25)) p 25 [.int .i64 2, .int .u32 2, .int .u64 0, .int .u64 0, .int .u64 0, .string ⟨#[97, 98]⟩] := Whole.new_ hp.symm rfl
  refine (Decode_any a 10 cap (l.take 10) _ (T2.out.later b3) ((L2.out.later b3).take 10) (HB.out.take 10) (by rw [List.length_take, HL.out]; decide) (by omega) (by decide)).mono ?_
  rintro en w4 ⟨rfl, b4⟩
  have hv : decV (dec (l.take 10)) = .tuple #[.agg #[.int .i64 0, .int .u32 0, .int .u64 0, .int .u64 0, .int .u64 0, .string ⟨#[]⟩], .int .i64 0, .int .i64 11] := by rw [HD2.out]; rfl
  rw [hv]
  have W4 := Lib.hid (W3.kept b4)
  have B4 := Lib.hid ((B2.out.trans (b3.mono B2.out.size)).trans (b4.mono (B2.out.trans (b3.mono B2.out.size)).size))
  rw [hp]
  have c1 : (w4.alloc (.cells #[.int .i64 0, .int .u32 0, .int .u64 0, .int .u64 0, .int .u64 0, .string ⟨#[]⟩] 25)).cell? ⟨p, 1, none⟩ = some (.int .u32 2) := (W4.out.more _).at_ 1
  have c5 : (w4.alloc (.cells #[.int .i64 0, .int .u32 0, .int .u64 0, .int .u64 0, .int .u64 0, .string ⟨#[]⟩] 25)).cell? ⟨p, 5, none⟩ = some (.string ⟨#[97, 98]⟩) := (W4.out.more _).at_ 5
  clear b3 b4 W3 hv hp
  go_wp2_with fail
  go_ret
  exact ⟨rfl, B4.out.alloc B4.out.size _⟩
end Go.Proofs.YtlpennnnkbnjmaaDoor.recd
