/-
  THE WALK OF 'stillroomlaw8.SegmentBad' (P8.1). Written by wip/tools/segbad.py.
-/
import Derived.Test.YtcmboifkfeeocaaDoorSgBegun
import Derived.Test.YtcmboifkfeeocaaDoorMScan
namespace Go.Proofs.YtcmboifkfeeocaaDoor.scan
open Go.RowKit Go.Proofs.YtcmboifkfeeocaaDoor.disk Go.Proofs.YtcmboifkfeeocaaDoor.recd Go.Proofs.YtcmboifkfeeocaaDoor.seg
set_option linter.unusedVariables false

theorem all_snoc {t : Nat} {gs : List Rec} {z : Rec} {ok mb : Bool} (h : ok = true ↔ ∀ r ∈ gs, OneOf t r) (hm : mayB z = mb) : ((ok && mb && decide (z.tenant = t)) = true) ↔ ∀ r ∈ gs ++ [z], OneOf t r := by
  subst hm
  simp only [Bool.and_eq_true, decide_eq_true_eq, h, List.mem_append, List.mem_singleton]
  constructor
  · rintro ⟨⟨h1, h2⟩, h3⟩ r (hr | rfl)
    · exact h1 r hr
    · exact ⟨h3, h2⟩
  · intro h1
    exact ⟨⟨fun r hr => h1 r (.inl hr), (h1 z (.inr rfl)).2⟩, (h1 z (.inr rfl)).1⟩
theorem within_mb' : within 1048576 = 1048576 := by decide
theorem rec_put (w : World) (g : Nat) (k : Int) (tt e o s t : Nat) (b : ByteArray) (h : Whole w g 33 [.int .i64 k, .int .u32 (tt : Int), .int .u64 (e : Int), .int .u64 (o : Int), .int .u64 (s : Int), .string b]) :
    Whole (w.setCell ⟨g, 1, none⟩ (.int .u32 (t : Int))) g 33 [.int .i64 k, .int .u32 (t : Int), .int .u64 (e : Int), .int .u64 (o : Int), .int .u64 (s : Int), .string b] := h.put 1 _

set_option maxRecDepth 100000 in
set_option maxHeartbeats 8000000 in
theorem segbad_any (w : World) (hT : Tabs w) (t : Nat) (ht : t < 4294967296) {a : Option Addr} {len cap : Nat} {rs : Nat → Rec} (hr : RecRow w a len cap rs) : Calls Tryd.prog 3 #[.int .u32 (t : Int), .slice a len cap] w fun e w' => e = .returned (.bool true) ∧ Below w.heap.size w w' := by
  have CB := Lib.hid (sbegun_any w hT)
  have HT := Lib.hid hT
  have HR := Lib.hid hr
  have hlm := hr.most
  clear hT hr
  go_enter Tryd.func3, Tryd.ntmps3
  go_wp2_with fail
  refine CB.out.mono ?_
  rintro e w1 ⟨rfl, h1⟩
  have H1 := Lib.hid h1
  clear h1 CB
  go_wp2_with fail
  refine (new_any w1 1048576).mono ?_
  rintro e w2 ho
  obtain ⟨p, rfl, h2, _⟩ := held_new (W := w) (X := fun _ => False) (fun _ e => e.elim) H1.out ho
  have C2 := Lib.hid (segcreate_new HT.out w2 p 1048576 h2 t 1 ht (by omega))
  clear ho h2
  go_wp2_with fail
  refine C2.out.mono ?_
  rintro e w3 ⟨b, s, rfl, s3, h3, _, _⟩
  have H3 := Lib.hid h3
  have S3 := Lib.hid s3
  have R3 := Lib.hid (HR.out.later h3.below)
  clear s3 h3 C2 HR
  go_wp2_with fail
  go_loopw [9, 10, 11] (fun v ok i wr => ∃ (gs : List Rec) (okb : Bool) (q : Nat), ok = .bool okb ∧ i = .int .i64 (q : Int) ∧ q = gs.length ∧ q ≤ len ∧ q ≤ 6 ∧ (okb = true ↔ ∀ r ∈ gs, OneOf t r) ∧ (∀ r ∈ gs, r.Fit) ∧ GrowS fRec w3 gs v wr) (fun _ _ i _ => ((6 : Int) - intOf i).toNat)
  case atStart => exact ⟨[], true, 0, rfl, rfl, rfl, Nat.zero_le _, by omega, ⟨(fun _ r hr => by cases hr), fun _ => rfl⟩, (fun r hr => by cases hr), GrowS.start fRec w3⟩
  case round =>
    obtain ⟨gs, okb, q, rfl, rfl, hqg, hql, hq6, hok, hfit, hg⟩ := hrel
    have HOK := Lib.hid hok
    have HFIT := Lib.hid hfit
    have HQG := Lib.hid hqg
    clear hok hfit hqg
    by_cases hlt : q < len ∧ q < 6
    · obtain ⟨hl1, hl2⟩ := hlt
      have hl1I : (q : Int) < (len : Int) := by omega
      have hl2I : (q : Int) < 6 := by omega
      have hrf := R3.out.fit q hl1
      have CC := fun W => cutRec_any (rs q) 100 (by decide) hrf W
      have hcf : (cutR (rs q) 100).Fit := ⟨hrf.kind, hrf.tenant, by have := recd.cutS_size (rs q).body 100; show (recd.cutS (rs q).body 100).size ≤ maxLen; unfold maxLen; omega⟩
      obtain ⟨x, hx⟩ : ∃ x, rs q = x := ⟨_, rfl⟩
      obtain ⟨y, hy⟩ : ∃ y, cutR (rs q) 100 = y := ⟨_, rfl⟩
      rw [hy] at CC hcf
      rw [hx] at CC
      obtain ⟨k, tt, e, o, sq', bd⟩ := x
      obtain ⟨br, off, rfl, c0, c1, c2, c3, c4, c5⟩ := (R3.out.later hg.below).at_ q hl1 k tt e o sq' bd hx
      obtain ⟨k2, t2, e2, o2, s2, b2⟩ := y
      unfold Rec.val at CC
      simp only at CC
      have HCC := Lib.hid CC
      have HG := Lib.hid hg
      have HCF := Lib.hid hcf
      clear CC hg hcf hx hy hrf
      go_wp2_with fail
      refine (HCC.out _).mono ?_
      rintro en w4 ⟨rfl, b4⟩
      have G4 := Lib.hid (HG.out.later b4)
      clear c0 c1 c2 c3 c4 c5 b4 HCC HG
      go_upto_region 14 with fail
      obtain ⟨wa, hwa⟩ : ∃ wa, w4.alloc (.cells #[.int .i64 k2, .int .u32 (t2 : Int), .int .u64 (e2 : Int), .int .u64 (o2 : Int), .int .u64 (s2 : Int), .string b2] 33) = wa := ⟨_, rfl⟩
      have bwa : Below w4.heap.size w4 wa := by rw [← hwa]; exact laid_below _ _
      have wh : Whole wa w4.heap.size 33 [.int .i64 k2, .int .u32 (t2 : Int), .int .u64 (e2 : Int), .int .u64 (o2 : Int), .int .u64 (s2 : Int), .string b2] := by rw [← hwa]; exact Whole.made' w4 _ _
      rw [hwa]
      clear hwa
      by_cases hpar : q % 2 = 0
      · have hpI : ((q : Int) % 2 == 0) = true := by rw [beq_iff_eq]; omega
        have hpJ : (q : Int) % 2 = 0 := by omega
        obtain ⟨z0, z1, z2, z3, z4, z5⟩ := whole6 wh
        have zf := wh.free 1
        go_upto_region 16 with fail
        have Gb := G4.out.later (bwa.setCell (p := ⟨w4.heap.size, 1, none⟩) (Nat.le_refl _) (.int .u32 (t : Int)))
        have wb := rec_put wa w4.heap.size k2 t2 e2 o2 s2 t b2 wh
        have HZ := Lib.hid (show Rec.Fit ⟨k2, t, e2, o2, s2, b2⟩ from ⟨HCF.out.kind, ht, HCF.out.body⟩)
        have hten : decide ((⟨k2, t, e2, o2, s2, b2⟩ : Rec).tenant = t) = true := decide_eq_true rfl
        generalize wa.setCell ⟨w4.heap.size, 1, none⟩ (.int .u32 (t : Int)) = wc at Gb wb ⊢
        clear z0 z1 z2 z3 z4 z5 zf hpar hpI hpJ
        generalize w4.heap.size = bx at wb ⊢
        obtain ⟨x0, x1, x2, x3, x4, x5⟩ := whole6 wb
        have CM := fun W => rMay_any ⟨k2, t, e2, o2, s2, b2⟩ W HZ.out
        obtain ⟨mb, hmb⟩ : ∃ mb, mayB ⟨k2, t, e2, o2, s2, b2⟩ = mb := ⟨_, rfl⟩
        have key := all_snoc (t := t) (z := ⟨k2, t, e2, o2, s2, b2⟩) HOK.out hmb
        have hgl : gs.length ≤ 1000000000 := by have := HQG.out; omega
        have fin : ∀ (okn : Bool) (v7 : Value) (w7 : World), (okn = true ↔ ∀ r ∈ gs ++ [⟨k2, t, e2, o2, s2, b2⟩], OneOf t r) → GrowS fRec w3 (gs ++ [⟨k2, t, e2, o2, s2, b2⟩]) v7 w7 → ∃ (gs2 : List Rec) (okb2 : Bool) (q2 : Nat), Value.bool okn = .bool okb2 ∧ Value.int .i64 ((q : Int) + 1) = .int .i64 (q2 : Int) ∧ q2 = gs2.length ∧ q2 ≤ len ∧ q2 ≤ 6 ∧ (okb2 = true ↔ ∀ r ∈ gs2, OneOf t r) ∧ (∀ r ∈ gs2, r.Fit) ∧ GrowS fRec w3 gs2 v7 w7 := by
          intro okn v7 w7 h1 h2
          refine ⟨_, okn, q + 1, rfl, by rw [Int.natCast_add]; rfl, by rw [List.length_append, List.length_singleton, HQG.out], by omega, by omega, h1, fun r hr => ?_, h2⟩
          rcases List.mem_append.1 hr with hr | hr
          · exact HFIT.out r hr
          · rw [List.mem_singleton.1 hr]; exact HZ.out
        have FIN := Lib.hid fin
        rw [hmb] at CM
        unfold Rec.val at CM
        simp only at CM
        have HCM := Lib.hid CM
        have KEY := Lib.hid key
        have WB := Lib.hid wb
        clear fin CM key hmb wb
        cases okb with
        | false =>
          obtain ⟨v7, w7, r7, g7⟩ := Gb.put ⟨k2, t, e2, o2, s2, b2⟩ wc.heap.size 1 rfl hgl
          have R7 := Lib.hid r7
          have FN := Lib.hid (FIN.out _ v7 w7 KEY.out g7)
          clear r7 g7 FIN Gb
          go_wp2_with ((with_reducible show wpList _ _ _ (⟨some 60, _, _, _, _, _⟩ :: _) _ _); refine wpList_append_of 23 23 (.tmp 57) (.tmp 59) _ _ rfl rfl rfl rfl rfl R7.out ?_)
          refine ⟨FN.out, ?_⟩
          show ((6 : Int) - ((q : Int) + 1)).toNat < ((6 : Int) - (q : Int)).toNat
          omega
        | true =>
          go_wp2_with fail
          refine (HCM.out _).mono ?_
          rintro en w5 ⟨rfl, b5⟩
          obtain ⟨y0, y1, y2, y3, y4, y5⟩ := whole6 (WB.out.kept b5)
          have G5 := Gb.later b5
          clear x0 x1 x2 x3 x4 x5 b5 Gb WB HCM
          cases mb with
          | false =>
            obtain ⟨v7, w7, r7, g7⟩ := G5.put ⟨k2, t, e2, o2, s2, b2⟩ w5.heap.size 1 rfl hgl
            have R7 := Lib.hid r7
            have FN := Lib.hid (FIN.out _ v7 w7 KEY.out g7)
            clear r7 g7 FIN G5
            go_wp2_with ((with_reducible show wpList _ _ _ (⟨some 60, _, _, _, _, _⟩ :: _) _ _); refine wpList_append_of 23 23 (.tmp 57) (.tmp 59) _ _ rfl rfl rfl rfl rfl R7.out ?_)
            refine ⟨FN.out, ?_⟩
            show ((6 : Int) - ((q : Int) + 1)).toNat < ((6 : Int) - (q : Int)).toNat
            omega
          | true =>
            have key2 : (true : Bool) = true ↔ ∀ r ∈ gs ++ [⟨k2, t, e2, o2, s2, b2⟩], OneOf t r := by
              have h := KEY.out
              simpa using h
            have KEY2 := Lib.hid key2
            clear key2
            obtain ⟨v7, w7, r7, g7⟩ := G5.put ⟨k2, t, e2, o2, s2, b2⟩ w5.heap.size 1 rfl hgl
            have R7 := Lib.hid r7
            have FN := Lib.hid (FIN.out _ v7 w7 KEY2.out g7)
            clear r7 g7 FIN G5
            go_wp2_with ((with_reducible show wpList _ _ _ (⟨some 60, _, _, _, _, _⟩ :: _) _ _); refine wpList_append_of 23 23 (.tmp 57) (.tmp 59) _ _ rfl rfl rfl rfl rfl R7.out ?_)
            refine ⟨FN.out, ?_⟩
            show ((6 : Int) - ((q : Int) + 1)).toNat < ((6 : Int) - (q : Int)).toNat
            omega
      · have hpI : ((q : Int) % 2 == 0) = false := by rw [beq_eq_false_iff_ne]; omega
        have hpJ : ¬ (q : Int) % 2 = 0 := by omega
        go_upto_region 16 with fail
        have Gb := G4.out.later bwa
        have wb := wh
        have HZ := HCF
        generalize wa = wc at Gb wb ⊢
        clear hpar hpI hpJ
        generalize w4.heap.size = bx at wb ⊢
        obtain ⟨x0, x1, x2, x3, x4, x5⟩ := whole6 wb
        have CM := fun W => rMay_any ⟨k2, t2, e2, o2, s2, b2⟩ W HZ.out
        obtain ⟨mb, hmb⟩ : ∃ mb, mayB ⟨k2, t2, e2, o2, s2, b2⟩ = mb := ⟨_, rfl⟩
        have key := all_snoc (t := t) (z := ⟨k2, t2, e2, o2, s2, b2⟩) HOK.out hmb
        have hgl : gs.length ≤ 1000000000 := by have := HQG.out; omega
        have fin : ∀ (okn : Bool) (v7 : Value) (w7 : World), (okn = true ↔ ∀ r ∈ gs ++ [⟨k2, t2, e2, o2, s2, b2⟩], OneOf t r) → GrowS fRec w3 (gs ++ [⟨k2, t2, e2, o2, s2, b2⟩]) v7 w7 → ∃ (gs2 : List Rec) (okb2 : Bool) (q2 : Nat), Value.bool okn = .bool okb2 ∧ Value.int .i64 ((q : Int) + 1) = .int .i64 (q2 : Int) ∧ q2 = gs2.length ∧ q2 ≤ len ∧ q2 ≤ 6 ∧ (okb2 = true ↔ ∀ r ∈ gs2, OneOf t r) ∧ (∀ r ∈ gs2, r.Fit) ∧ GrowS fRec w3 gs2 v7 w7 := by
          intro okn v7 w7 h1 h2
          refine ⟨_, okn, q + 1, rfl, by rw [Int.natCast_add]; rfl, by rw [List.length_append, List.length_singleton, HQG.out], by omega, by omega, h1, fun r hr => ?_, h2⟩
          rcases List.mem_append.1 hr with hr | hr
          · exact HFIT.out r hr
          · rw [List.mem_singleton.1 hr]; exact HZ.out
        have FIN := Lib.hid fin
        rw [hmb] at CM
        unfold Rec.val at CM
        simp only at CM
        have HCM := Lib.hid CM
        have KEY := Lib.hid key
        have WB := Lib.hid wb
        clear fin CM key hmb wb
        cases okb with
        | false =>
          obtain ⟨v7, w7, r7, g7⟩ := Gb.put ⟨k2, t2, e2, o2, s2, b2⟩ wc.heap.size 1 rfl hgl
          have R7 := Lib.hid r7
          have FN := Lib.hid (FIN.out _ v7 w7 KEY.out g7)
          clear r7 g7 FIN Gb
          go_wp2_with ((with_reducible show wpList _ _ _ (⟨some 60, _, _, _, _, _⟩ :: _) _ _); refine wpList_append_of 23 23 (.tmp 57) (.tmp 59) _ _ rfl rfl rfl rfl rfl R7.out ?_)
          refine ⟨FN.out, ?_⟩
          show ((6 : Int) - ((q : Int) + 1)).toNat < ((6 : Int) - (q : Int)).toNat
          omega
        | true =>
          go_wp2_with fail
          refine (HCM.out _).mono ?_
          rintro en w5 ⟨rfl, b5⟩
          obtain ⟨y0, y1, y2, y3, y4, y5⟩ := whole6 (WB.out.kept b5)
          have G5 := Gb.later b5
          clear x0 x1 x2 x3 x4 x5 b5 Gb WB HCM
          cases mb with
          | false =>
            obtain ⟨v7, w7, r7, g7⟩ := G5.put ⟨k2, t2, e2, o2, s2, b2⟩ w5.heap.size 1 rfl hgl
            have R7 := Lib.hid r7
            have FN := Lib.hid (FIN.out _ v7 w7 KEY.out g7)
            clear r7 g7 FIN G5
            go_wp2_with ((with_reducible show wpList _ _ _ (⟨some 60, _, _, _, _, _⟩ :: _) _ _); refine wpList_append_of 23 23 (.tmp 57) (.tmp 59) _ _ rfl rfl rfl rfl rfl R7.out ?_)
            refine ⟨FN.out, ?_⟩
            show ((6 : Int) - ((q : Int) + 1)).toNat < ((6 : Int) - (q : Int)).toNat
            omega
          | true =>
            by_cases htt : t2 = t
            · subst htt
              have key2 : (true : Bool) = true ↔ ∀ r ∈ gs ++ [⟨k2, t2, e2, o2, s2, b2⟩], OneOf t2 r := by
                have h := KEY.out
                simpa using h
              have KEY2 := Lib.hid key2
              clear key2
              obtain ⟨v7, w7, r7, g7⟩ := G5.put ⟨k2, t2, e2, o2, s2, b2⟩ w5.heap.size 1 rfl hgl
              have R7 := Lib.hid r7
              have FN := Lib.hid (FIN.out _ v7 w7 KEY2.out g7)
              clear r7 g7 FIN G5
              go_wp2_with ((with_reducible show wpList _ _ _ (⟨some 60, _, _, _, _, _⟩ :: _) _ _); refine wpList_append_of 23 23 (.tmp 57) (.tmp 59) _ _ rfl rfl rfl rfl rfl R7.out ?_)
              refine ⟨FN.out, ?_⟩
              show ((6 : Int) - ((q : Int) + 1)).toNat < ((6 : Int) - (q : Int)).toNat
              omega
            · have htI : ((t2 : Int) == (t : Int)) = false := by rw [beq_eq_false_iff_ne]; omega
              have key2 : (false : Bool) = true ↔ ∀ r ∈ gs ++ [⟨k2, t2, e2, o2, s2, b2⟩], OneOf t r := by
                have h := KEY.out
                rw [show (true && true && decide ((⟨k2, t2, e2, o2, s2, b2⟩ : Rec).tenant = t)) = false by simpa using htt] at h
                exact h
              have KEY2 := Lib.hid key2
              clear key2 htt
              obtain ⟨v7, w7, r7, g7⟩ := G5.put ⟨k2, t2, e2, o2, s2, b2⟩ w5.heap.size 1 rfl hgl
              have R7 := Lib.hid r7
              have FN := Lib.hid (FIN.out _ v7 w7 KEY2.out g7)
              clear r7 g7 FIN G5
              go_wp2_with ((with_reducible show wpList _ _ _ (⟨some 60, _, _, _, _, _⟩ :: _) _ _); refine wpList_append_of 23 23 (.tmp 57) (.tmp 59) _ _ rfl rfl rfl rfl rfl R7.out ?_)
              refine ⟨FN.out, ?_⟩
              show ((6 : Int) - ((q : Int) + 1)).toNat < ((6 : Int) - (q : Int)).toNat
              omega
    · have hcond : (((q : Int) < (len : Int)) ∧ ¬ ((q : Int) < 6)) ∨ ¬ ((q : Int) < (len : Int)) := by omega
      have hA0 : (⟨[], [], []⟩ : FileA).now.length = 0 := rfl
      have h4 := H3.out.later hg.below
      have s4 := S3.out.later hg.below
      have HD := Lib.hid h4
      have SD := Lib.hid s4
      obtain ⟨av, cv, rfl, hrow⟩ := recs_own hg.own HFIT.out
      have hg6 : gs.length ≤ 6 := by have := HQG.out; omega
      clear h4 s4 hg hlt
      by_cases hall : gs ≠ [] ∧ ∀ r ∈ gs, OneOf t r
      · obtain ⟨hne, hone⟩ := hall
        have hpos := List.length_pos_iff.2 hne
        have hcl : (cat gs).length ≤ 6 * 1039 := by
          have h1 := encs_len gs
          rw [encs_cat fun x hx => (hone x hx).2] at h1
          omega
        have CA := Lib.hid (segapp_row HT.out HD.out (by omega) SD.out (.inr rfl) gs hne hone (by omega) av cv hrow (by decide) (by rw [hA0, within_mb']; omega))
        have hokb : okb = true := HOK.out.2 hone
        subst hokb
        have hpl := placesF_length (⟨[], [], []⟩ : FileA).now.length gs
        have HPL := Lib.hid hpl
        obtain ⟨m, hm⟩ : ∃ m, gs.length = m := ⟨_, rfl⟩
        rw [hm] at CA hpos ⊢
        have HM := Lib.hid hm
        have hposI : (0 : Int) < (m : Int) := by omega
        clear hne hone hcl hrow hpl hm
        rcases hcond with ⟨hc1, hc2⟩ | hc1
        all_goals
          go_wp2_with fail
          refine CA.out.mono ?_
          rintro e w7 ⟨v7, rfl, o7, _, h7, _⟩
          obtain ⟨a7, c7, e7⟩ : ∃ a7 c7, v7 = .slice a7 m c7 := by
            have hl7 : (placesF (⟨[], [], []⟩ : FileA).now.length gs).length = m := by rw [HPL.out, HM.out]
            rcases o7.form with ⟨e7, e8⟩ | ⟨g, cap, e7, _⟩
            · rw [e8] at hl7; simp at hl7; omega
            · rw [hl7] at e7; exact ⟨_, _, e7⟩
          subst e7
          have B7 := Lib.hid h7.below
          clear o7 h7
          go_wp2_with fail
          go_ret
          exact ⟨rfl, B7.out⟩
      · have CA := Lib.hid (append_form wr s p (nameB t 1) t true SD.out av gs.length cv _ hrow (fun h => hall ((allOf_list t gs).1 h)))
        have hokb : okb = true → gs = [] := fun h => Classical.byContradiction fun e => hall ⟨e, HOK.out.1 h⟩
        have hcase : (okb = true ∧ gs.length = 0) ∨ okb = false := by
          cases okb
          · exact .inr rfl
          · exact .inl ⟨rfl, by rw [hokb rfl]; rfl⟩
        have HRow := Lib.hid hrow
        obtain ⟨m, hm⟩ : ∃ m, gs.length = m := ⟨_, rfl⟩
        rw [hm] at CA hcase ⊢
        clear hrow hall hokb hm
        rcases hcond with ⟨hc1, hc2⟩ | hc1
        all_goals
          rcases hcase with ⟨rfl, rfl⟩ | rfl
          all_goals
            go_wp2_with fail
            refine CA.out.mono ?_
            rintro e w7 ⟨rfl, b7⟩
            have H7 := Lib.hid (HD.out.later b7)
            have S7 := Lib.hid (SD.out.later b7)
            have CZ := segsize H7.out S7.out
            rw [hA0] at CZ
            have HCZ := Lib.hid CZ
            clear b7 CZ
            go_wp2_with fail
            refine HCZ.out.mono ?_
            rintro e w8 ⟨rfl, q8, rfl⟩
            have H8 := Lib.hid (H7.out.later (draws_below w7 q8))
            have S8 := Lib.hid (S7.out.later (draws_below w7 q8))
            generalize w7.drewN q8 = w8 at H8 S8 ⊢
            have CR := Lib.hid (segrecords HT.out H8.out (by omega) S8.out (.inr rfl))
            clear HCZ
            go_wp2_with fail
            refine CR.out.mono ?_
            rintro e w9 ⟨v9, rfl, r9, _, h9, _⟩
            have hse : (segF t (⟨[], [], []⟩ : FileA).now).1 = [] := by
              show (segF t (cat [])).1 = []
              rw [segF_all t [] (fun r hr => by cases hr) (fun r hr => by cases hr)]
              rfl
            rw [hse] at r9
            obtain ⟨a9, c9, e9, _⟩ := r9.slice
            have e9' : v9 = .slice a9 0 c9 := e9
            subst e9'
            have B9 := Lib.hid h9.below
            clear r9 h9 e9 hse
            go_wp2_with fail
            go_ret
            exact ⟨rfl, B9.out⟩
end Go.Proofs.YtcmboifkfeeocaaDoor.scan
