/-
  THE WALK OF 'stillroomlaw8.SegmentAny' (P8.1).
-/
import Derived.Test.YtcmboifkfeeocaaDoorSgBegun
import Derived.Test.YtcmboifkfeeocaaDoorSgSame
import Derived.Test.YtcmboifkfeeocaaDoorSgGroup
import Derived.Test.YtcmboifkfeeocaaDoorSgMath2
import Derived.Test.YtcmboifkfeeocaaDoorMRec
import Derived.Test.YtcmboifkfeeocaaDoorMBase
import Derived.Test.YtcmboifkfeeocaaDoorMScan

namespace Go.Proofs.YtcmboifkfeeocaaDoor.scan
open Go.RowKit Go.Proofs.YtcmboifkfeeocaaDoor.disk Go.Proofs.YtcmboifkfeeocaaDoor.recd Go.Proofs.YtcmboifkfeeocaaDoor.seg
set_option linter.unusedVariables false

theorem kpart_of (t : Nat) : OneOf t ⟨2, t, 0, 0, 0, ⟨#[]⟩⟩ := ⟨rfl, by
  rw [mayB_eq]
  exact decide_eq_true ⟨by omega, by omega, by omega, by omega, by show ((0 : Nat) : Int) ≤ 1000; omega⟩⟩

/-- A disk of one file that holds these bytes, and has room for a record more. -/
structure AnySt (S : St) (t b : Nat) (L : List Int) : Prop where
  look : dlook (nameL t 2) S.now = some b
  file : (S.file b).now = L
  write : ∀ (k : Int) (part : List Int), part.length ≤ 2000 → ((readSt S k).write (nameB t 2).data.toList (L.length : Int) part).1 = 0
theorem anySt {t b : Nat} {A : FileA} {sy : Dir} {wa : List Ch} {f c r : Int} (h0 : f ≠ 0) (hl : A.now.length ≤ 10000) : AnySt (One (within 1048576) (nameL t 2) b A sy wa f c r) t b A.now := by
  refine ⟨One.look, by rw [One.file], fun k part hp => ?_⟩
  rw [nameB_data, show readSt (One (within 1048576) (nameL t 2) b A sy wa f c r) k = One (within 1048576) (nameL t 2) b A sy wa f c (r + k) from rfl,
    One.write A.now.length part h0 (Nat.le_refl _) (by rw [show within 1048576 = 1048576 by decide]; omega)]

set_option maxRecDepth 100000 in
set_option maxHeartbeats 16000000 in
theorem segany_any (w : World) (hT : Tabs w) (t : Nat) (ht : t < 4294967296) {a : Option Addr} {len cap : Nat} {rs : Nat → Rec} (hr : RecRow w a len cap rs) {a2 : Option Addr} {len2 cap2 : Nat} {l2 : List Int} (hl2 : Row w a2 len2 cap2 l2) {cut : Int} (hcut : -9223372036854775808 ≤ cut ∧ cut ≤ 9223372036854775807) :
    Calls Tryd.prog 4 #[.int .u32 (t : Int), .slice a len cap, .slice a2 len2 cap2, .int .i64 cut] w fun e w' => e = .returned (.bool true) ∧ Below w.heap.size w w' := by
  have CB := Lib.hid (sbegun_any w hT)
  have HT := Lib.hid hT
  have HR := Lib.hid hr
  have HL2 := Lib.hid hl2
  have hle2 := hl2.le
  have hmo2 := hl2.most
  obtain ⟨hcut1, hcut2⟩ := hcut
  clear hT hr hl2
  go_enter Tryd.func4, Tryd.ntmps4
  go_wp2_with fail
  refine CB.out.mono ?_
  rintro e w1 ⟨rfl, h1⟩
  have C1 := Lib.hid (group_any a len cap rs w1 (HR.out.later h1) t ht)
  have B1 := Lib.hid h1
  clear h1 CB
  go_wp2_with fail
  refine C1.out.mono ?_
  rintro e w2 ⟨gs, ⟨v, rfl, g2⟩, hgl, hgs⟩
  have B2 := Lib.hid (B1.out.trans (g2.below.mono B1.out.size))
  obtain ⟨n, hn⟩ : ∃ n, gs.length = n := ⟨_, rfl⟩
  obtain ⟨ao, c1, rfl, hao⟩ : ∃ ao c1, v = .slice ao n c1 ∧ (0 < n → ∃ g, ao = some ⟨g, 0, none⟩) := by
    rcases g2.own.form with ⟨rfl, rfl⟩ | ⟨g, cap, rfl, h1, h2, _⟩
    · exact ⟨none, 0, by rw [← hn]; rfl, fun h => by rw [← hn] at h; cases h⟩
    · exact ⟨some ⟨g, 0, none⟩, cap, by rw [← hn], fun _ => ⟨g, rfl⟩⟩
  rw [hn] at hgl
  have O2 := Lib.hid g2.own
  have HN := Lib.hid hn
  have HGS := Lib.hid hgs
  have HAO := Lib.hid hao
  have ST : Hid (Grow w2 (encs (gs.take 0)) (.slice none 0 0) w2) := ⟨Own.none_ _, (fun g hg => by cases hg), Below.refl _ _⟩
  clear g2 hn hgs hao C1
  go_wp2_with fail
  go_loopw [11, 12] (fun bv p wr => ∃ (q : Nat), p = .int .i64 (q : Int) ∧ q ≤ n ∧ Grow w2 (encs (gs.take q)) bv wr) (fun _ p _ => ((n : Int) - intOf p).toNat)
  case atStart => exact ⟨0, rfl, Nat.zero_le _, ST.out⟩
  case round =>
    obtain ⟨q, rfl, hq, hg⟩ := hrel
    by_cases hqn : q < n
    · have hqI : (q : Int) < (n : Int) := by omega
      obtain ⟨g, rfl⟩ := HAO.out (by omega)
      have hql : q < gs.length := by rw [HN.out]; exact hqn
      have hvr := O2.out.later hg.below
      have hrg := hvr.range q hql
      obtain ⟨x, hx⟩ : ∃ x, gs[q] = x := ⟨_, rfl⟩
      have hxs := HGS.out _ (List.getElem_mem hql)
      rw [hx] at hrg hxs
      have CE := fun W => REncode_any x W hxs.2.1
      have hel := enc_len x
      have sE : encs (gs.take q) ++ enc x = encs (gs.take (q + 1)) := by
        rw [List.take_add_one, List.getElem?_eq_getElem hql, hx]
        show _ = encs (gs.take q ++ [x])
        rw [encs_snoc]
      have hlq := encs_len (gs.take q)
      have hlq2 : (gs.take q).length ≤ 5 := by rw [List.length_take]; omega
      obtain ⟨L1, hL1⟩ : ∃ L1, enc x = L1 := ⟨_, rfl⟩
      rw [hL1] at CE hel sE
      obtain ⟨k, tt, e, o, s, b⟩ := x
      unfold Rec.val at CE
      simp only at CE
      have c0 : wr.cell? ⟨g, q * 6, none⟩ = some (.int .i64 k) := hrg 0 _ rfl
      have c1' : wr.cell? ⟨g, q * 6 + 1, none⟩ = some (.int .u32 (tt : Int)) := hrg 1 _ rfl
      have c2 : wr.cell? ⟨g, q * 6 + 2, none⟩ = some (.int .u64 (e : Int)) := hrg 2 _ rfl
      have c3 : wr.cell? ⟨g, q * 6 + 3, none⟩ = some (.int .u64 (o : Int)) := hrg 3 _ rfl
      have c4 : wr.cell? ⟨g, q * 6 + 4, none⟩ = some (.int .u64 (s : Int)) := hrg 4 _ rfl
      have c5 : wr.cell? ⟨g, q * 6 + 5, none⟩ = some (.string b) := hrg 5 _ rfl
      have HE := Lib.hid sE
      have HG := Lib.hid hg
      have HCE := Lib.hid CE
      clear hvr hrg hx sE hg hql hxs CE hL1
      go_wp2_with fail
      refine (HCE.out _).mono ?_
      intro en w4 hm4
      obtain ⟨a4, cap4, v4, w5, rfl, r5, g5⟩ := HG.out.put L1.length rfl hm4 (by omega)
      rw [HE.out] at g5
      have R5 := Lib.hid r5
      have G5 := Lib.hid g5
      clear hm4 r5 g5 HG HCE c0 c1' c2 c3 c4 c5
      go_wp2_with ((with_reducible show wpList _ _ _ (⟨some 38, _, _, _, _, _⟩ :: _) _ _); refine wpList_append_of 43 43 (.tmp 32) (.tmp 37) _ _ rfl rfl rfl rfl rfl R5.out ?_)
      refine ⟨⟨q + 1, by rw [Int.natCast_add]; rfl, by omega, G5.out⟩, ?_⟩
      show ((n : Int) - ((q : Int) + 1)).toNat < ((n : Int) - (q : Int)).toNat
      omega
    · have hqI : ¬ (q : Int) < (n : Int) := by omega
      have e : gs.take q = gs := List.take_of_length_le (by rw [HN.out]; omega)
      rw [e] at hg
      have hcat : encs gs = cat gs := encs_cat fun x hx => (HGS.out x hx).1.2
      rw [hcat] at hg
      have hcl := encs_len gs
      rw [hcat, HN.out] at hcl
      have hls : (l2.take 40).length ≤ 40 := List.length_take_le _ _
      have hrw := ((HL2.out.later B2.out).later hg.below).short 40
      have CS := Lib.hid (crc.short_any a2 len2 cap2 40 wr hle2 HL2.out.nil (by omega))
      obtain ⟨v4, w5, r5, g5⟩ := hg.row a2 (min len2 40) cap2 hrw.bytes hrw.length (fun e => (HL2.out.nil e).2) (by omega)
      have R5 := Lib.hid r5
      have G5 := Lib.hid g5
      have hby : Byte (cat gs ++ l2.take 40) := (cat_byte gs).append hrw.byte
      have HBY := Lib.hid hby
      obtain ⟨L, hL⟩ : ∃ L, cat gs ++ l2.take 40 = L := ⟨_, rfl⟩
      have hLl : L.length ≤ 6000 := by rw [← hL, List.length_append]; omega
      rw [hL] at G5 HBY
      clear hg e hcat hcl hls hrw r5 g5 hby hL
      go_wp2_with fail
      refine CS.out.mono ?_
      rintro en w6 ⟨rfl, rfl⟩
      obtain ⟨ub, cb, eb, hcb1, hcb2, _, hub, hub2⟩ := G5.out.own.form
      have hub3 : ∀ g, v4.ownBlock = some g → w2.heap.size ≤ g := G5.out.new_
      obtain ⟨m, hm⟩ : ∃ m, L.length = m := ⟨_, rfl⟩
      rw [hm] at eb hcb1 hLl
      subst eb
      have HM := Lib.hid hm
      have HUB := Lib.hid hub
      have HUB2 := Lib.hid hub2
      have B5 := Lib.hid (B2.out.trans (G5.out.below.mono B2.out.size))
      clear hm hub hub2 CS
      go_upto_region 11 with ((with_reducible show wpList _ _ _ (⟨some 42, _, _, _, _, _⟩ :: _) _ _); refine wpList_append_of 43 43 (.tmp 39) (.tmp 41) _ _ rfl rfl rfl rfl rfl R5.out ?_)
      have hub4 : ∀ g, ub = some ⟨g, 0, none⟩ → g < w5.heap.size ∧ w2.heap.size ≤ g := fun g hg => by
        rcases HUB2.out with h0 | ⟨g', h1, h2, h3⟩
        · rw [h0] at hg; cases hg
        · rw [h1] at hg
          injection hg with hg
          injection hg with hg
          subst hg
          exact ⟨h3, hub3 _ h2⟩
      have hub5 : ∀ g off, ub = some ⟨g, off, none⟩ → off = 0 := fun g off hg => by
        rcases HUB2.out with h0 | ⟨g', h1, h2, h3⟩
        · rw [h0] at hg; cases hg
        · rw [h1] at hg
          injection hg with hg
          injection hg with _ hg
          exact hg.symm
      have HUB4 := Lib.hid hub4
      have HUB5 := Lib.hid hub5
      clear hub4 hub5 hub3 R5
      have hcase : (0 < cut ∧ cut ≤ (m : Int)) ∨ ((cut ≤ 0 ∧ cut ≤ 0) ∨ (0 < cut ∧ (m : Int) < cut)) := by omega
      rcases hcase with ⟨hc1, hc2⟩ | ⟨hc1, hc2⟩ | ⟨hc1, hc2⟩
      · obtain ⟨c, rfl⟩ : ∃ c : Nat, cut = (c : Int) := ⟨cut.toNat, by omega⟩
        obtain ⟨g, rfl⟩ : ∃ g, ub = some ⟨g, 0, none⟩ := by
          rcases HUB2.out with h0 | ⟨g', h1, h2, h3⟩
          · subst h0
            have := (G5.out.own.form)
            obtain ⟨a', c', e', _, _, hno, _, _⟩ := this
            injection e' with e1 e2 e3
            have := (hno e1.symm).1
            rw [HM.out] at this
            omega
          · exact ⟨g', h1⟩
        obtain ⟨nf, hnf⟩ : ∃ nf, m - c = nf := ⟨_, rfl⟩
        have hsl := fun W => run_front g 0 m cb nf (by omega) W
        rw [show ((nf : Nat) : Int) = (m : Int) - (c : Int) by omega] at hsl
        have LF : Hid (Leads w5 (some ⟨g, 0, none⟩) (L.take nf)) := HUB.out.take nf
        have NF : Hid ((L.take nf).length = nf) := by show (L.take nf).length = nf; rw [List.length_take, HM.out]; omega
        have BF : Hid (Byte (L.take nf)) := HBY.out.take nf
        have hnf2 : nf ≤ m := by omega
        have hnf3 : nf ≤ cb := by omega
        clear hnf
        generalize L.take nf = Lf at LF NF BF
        go_wp2_with fail
        refine (new_any w5 1048576).mono ?_
        rintro e w6 ho
        obtain ⟨p, rfl, h6, k6⟩ := held_new (W := w) (X := fun k => (some ⟨g, 0, none⟩ : Option Addr) = some ⟨k, 0, none⟩) (fun k hk => (HUB4.out k hk).1) B5.out ho
        have L6 : Leads w6 (some ⟨g, 0, none⟩) Lf := LF.out.same fun b' off e hne => k6 b' (by have := HUB5.out b' off e; subst this; exact e)
        have C6 := Lib.hid (seg_name ht (n := 2) (by omega) w6 (HT.out.later h6.below))
        have H6 := Lib.hid h6
        have HL6 := Lib.hid L6
        clear ho h6 k6 L6
        go_wp2_with fail
        refine C6.out.mono ?_
        rintro e w7 ⟨rfl, b7⟩
        have h7 := H6.out.later b7
        have C7 := Lib.hid (create_any w7 p _ 0 h7.disk (by omega) (nameB t 2) (nameB_fit ht (by omega)))
        have H7 := Lib.hid h7
        have HL7 := Lib.hid (HL6.out.later b7)
        clear h7 b7 C6 H6 HL6
        go_wp2_with fail
        refine C7.out.mono ?_
        rintro e w8 ⟨b, _, _, _, ho⟩
        rw [nameB_data, One.create (nameL_good ht (by omega))] at ho
        obtain ⟨rfl, h8, k8⟩ := H7.out.out ho
        have L8 : Leads w8 (some ⟨g, 0, none⟩) Lf := HL7.out.same fun b' off e hne => k8 b' (by have := HUB5.out b' off e; subst this; exact e)
        have C8 := Lib.hid (seg_name ht (n := 2) (by omega) w8 (HT.out.later h8.below))
        have H8 := Lib.hid h8
        have HL8 := Lib.hid L8
        clear ho h8 k8 L8 C7 H7 HL7
        go_wp2_with fail
        refine C8.out.mono ?_
        rintro e w9 ⟨rfl, b9⟩
        have C9 := Held.write (H8.out.later b9) (HL8.out.later b9) (c := cb) NF.out BF.out (by rw [NF.out]; omega) (fun b' off e hne => .inl (by have := HUB5.out b' off e; subst this; exact e)) (by omega) (nameB t 2) (nameB_fit ht (by omega)) ((0 : Nat) : Int)
        rw [nameB_data, One.write 0 Lf (by omega) (Nat.zero_le _) (by rw [NF.out, show within 1048576 = 1048576 by decide]; omega)] at C9
        have hA : ((⟨[], [], []⟩ : FileA).write 0 Lf).now = Lf := FileA.write_end ⟨[], [], []⟩ Lf
        have hst := anySt (t := t) (b := b) (A := (⟨[], [], []⟩ : FileA).write 0 Lf) (sy := []) (wa := [⟨some b, [], nameL t 2⟩]) (f := less (-1)) (c := 1 + 1) (r := 0) (by decide) (by rw [hA, NF.out]; omega)
        rw [hA] at hst
        obtain ⟨S1, hS1⟩ : ∃ S1, One (within 1048576) (nameL t 2) b ((⟨[], [], []⟩ : FileA).write 0 Lf) [] [⟨some b, [], nameL t 2⟩] (less (-1)) (1 + 1) 0 = S1 := ⟨_, rfl⟩
        rw [hS1] at C9 hst
        have HC9 := Lib.hid C9
        have HST := Lib.hid hst
        have HL9 := Lib.hid (HL8.out.later b9)
        clear b9 C9 hA hst hS1 C8 H8 HL8
        go_wp2_with fail
        refine HC9.out.mono ?_
        rintro e w10 ⟨rfl, h10, k10⟩
        have L10 : Leads w10 (some ⟨g, 0, none⟩) Lf := HL9.out.same fun b' off e hne => k10 b' (by have := HUB5.out b' off e; subst this; exact e)
        have C10 := segopen_good HT.out w10 p S1 _ h10 (by omega) t 2 ht (by omega) b HST.out.look
        rw [HST.out.file, NF.out] at C10
        have HC10 := Lib.hid C10
        have HL10 := Lib.hid L10
        clear h10 k10 L10 C10 HC9 HL9
        go_wp2_with fail
        refine HC10.out.mono ?_
        rintro e w11 ⟨s, rfl, s11, h11, k11, z11⟩
        have L11 : Leads w11 (some ⟨g, 0, none⟩) Lf := HL10.out.same fun b' off e hne => k11 b' (by have := HUB5.out b' off e; subst this; exact e)
        have hsz : (readSt S1 (nf : Int)).size (nameB t 2).data.toList = (nf : Int) := by
          rw [nameB_data, St.size]
          simp only [show dlook (nameL t 2) (readSt S1 (nf : Int)).now = some b from HST.out.look]
          show (((S1.file b).now.length : Nat) : Int) = _
          rw [HST.out.file, NF.out]
        have C11 := segsize_any w11 p (readSt S1 (nf : Int)) _ h11.disk s (nameB t 2) t _ s11
        rw [hsz] at C11
        have HC11 := Lib.hid C11
        have H11 := Lib.hid h11
        have S11 := Lib.hid s11
        have HL11 := Lib.hid L11
        clear h11 s11 k11 z11 L11 C11 hsz HC10 HL10
        go_wp2_with fail
        refine HC11.out.mono ?_
        rintro e w12 ⟨rfl, q12, rfl⟩
        have H12 : Held w _ (w11.drewN q12) p (readSt S1 (nf : Int)) (0 + 2 + 2 + 1) := H11.out.later (draws_below w11 q12)
        have HH12 := Lib.hid H12
        have S12 := Lib.hid (S11.out.later (draws_below w11 q12))
        have HL12 := Lib.hid (HL11.out.later (draws_below w11 q12))
        generalize w11.drewN q12 = w12 at HH12 S12 HL12 ⊢
        have C12 := Lib.hid (RFront_any (some ⟨g, 0, none⟩) nf cb Lf w12 HL12.out BF.out NF.out (by omega) (by omega))
        clear H12 HC11 H11 S11 HL11
        go_wp2_with fail
        refine C12.out.mono ?_
        rintro e w13 ⟨v13, rfl, g13⟩
        obtain ⟨⟨fs, en⟩, hfr⟩ : ∃ x, front Lf 0 = x := ⟨_, rfl⟩
        rw [hfr] at g13 ⊢
        simp only at g13
        have hfl := front_small Lf 0
        have hfe := (front_end (b := Lf) (p := 0) (Nat.zero_le _)).2
        have hfb : ∀ x ∈ fs, x.r.body.size ≤ 1000 ∧ x.at_ < nf := fun x hx => by
          have := front_body (b := Lf) (p := 0) (x := x) (by rw [hfr]; exact hx)
          rw [NF.out] at this
          exact this
        rw [hfr, NF.out] at hfl hfe
        simp only at hfl hfe
        have hseg : segF t Lf = ownOf t fs en := by rw [segF, hfr]
        obtain ⟨M, hM⟩ : ∃ M, fs.length = M := ⟨_, rfl⟩
        rw [hM] at hfl
        obtain ⟨a3, c3, e3, ha3⟩ : ∃ a3 c3, v13 = .slice a3 M c3 ∧ (0 < M → ∃ g, a3 = some ⟨g, 0, none⟩) := by
          rcases g13.own.form with ⟨rfl, rfl⟩ | ⟨g, cap, rfl, h1, h2, _⟩
          · exact ⟨none, 0, by rw [← hM]; rfl, fun h => by rw [← hM] at h; cases h⟩
          · exact ⟨some ⟨g, 0, none⟩, cap, by rw [← hM], fun _ => ⟨g, rfl⟩⟩
        subst e3
        have HG13 := Lib.hid g13
        have HMM := Lib.hid hM
        have HA3 := Lib.hid ha3
        have HFB := Lib.hid hfb
        have HSEG := Lib.hid hseg
        have ST2 := Lib.hid (GrowS.start fR w13)
        clear g13 hM ha3 hfb hseg hfr C12
        go_wp2_with fail
        go_loopw [17, 18, 19] (fun nv u i wr => nv = .int .i64 (en : Int) ∧ ∃ (q : Nat), i = .int .i64 (q : Int) ∧ q ≤ M ∧ (∀ j (hj : j < fs.length), j < q → fs[j].r.tenant = t) ∧ GrowS fR w13 (fs.take q) u wr) (fun _ _ i _ => ((M : Int) - intOf i).toNat)
        case atStart => exact ⟨rfl, 0, rfl, Nat.zero_le _, (fun j hj h => by omega), ST2.out⟩
        case round =>
          obtain ⟨rfl, q3, rfl, hq3, hown, hg⟩ := hrel
          have hb13 : Below w12.heap.size w12 wr := HG13.out.below.trans (hg.below.mono HG13.out.below.size)
          have HB13 := Lib.hid hb13
          have HGW := Lib.hid hg
          have HOW := Lib.hid hown
          by_cases hqM : q3 < M
          · have hqI2 : (q3 : Int) < (M : Int) := by omega
            have hql : q3 < fs.length := by rw [HMM.out]; exact hqM
            obtain ⟨g3, rfl⟩ := HA3.out (by omega)
            obtain ⟨⟨fa, ⟨k, tt, ep, o, sq, bd⟩⟩, hx⟩ : ∃ x, fs[q3] = x := ⟨_, rfl⟩
            obtain ⟨d0, d1, d2, d3, d4, d5, d6⟩ := fd_cells rfl rfl (HG13.out.own.later hg.below) q3 hql fa k tt ep o sq bd hx
            by_cases htt : t = tt
            · subst htt
              have e1 : fs.take q3 ++ [⟨fa, ⟨k, t, ep, o, sq, bd⟩⟩] = fs.take (q3 + 1) := by rw [List.take_add_one, List.getElem?_eq_getElem hql, hx]; rfl
              obtain ⟨v', w2', r2, g2⟩ := hg.put ⟨fa, ⟨k, t, ep, o, sq, bd⟩⟩ wr.heap.size 1 rfl (by rw [List.length_take]; omega)
              rw [e1] at g2
              have nxt : ∀ j (hj : j < fs.length), j < q3 + 1 → fs[j].r.tenant = t := fun j hj hjq => by
                by_cases e : j = q3
                · subst e; rw [hx]
                · exact hown j hj (by omega)
              have R2 := Lib.hid r2
              have G2 := Lib.hid g2
              have NX := Lib.hid nxt
              clear r2 g2 nxt e1 hx hb13 hg hown hql
              go_wp2_with ((with_reducible show wpList _ _ _ (⟨some 107, _, _, _, _, _⟩ :: _) _ _); refine wpList_append_of 50 50 (.tmp 101) (.tmp 106) _ _ rfl rfl rfl rfl rfl R2.out ?_)
              refine ⟨⟨rfl, q3 + 1, by rw [Int.natCast_add]; rfl, by omega, NX.out, G2.out⟩, ?_⟩
              show ((M : Int) - ((q3 : Int) + 1)).toNat < ((M : Int) - (q3 : Int)).toNat
              omega
            · have htI : ((tt : Int) == (t : Int)) = false := by rw [beq_eq_false_iff_ne]; omega
              have htJ : ((tt : Int) != (t : Int)) = true := by rw [bne_iff_ne]; omega
              have hseg2 : segF t Lf = (fs.take q3, fa) := by
                rw [HSEG.out, ownOf_at (t := t) (e := en) hql (fun j hj => hown j (by omega) hj) (by rw [hx]; exact fun e => htt e.symm), hx]
              have hfa : fa < nf := by have := (HFB.out _ (List.getElem_mem hql)).2; rw [hx] at this; exact this
              have hwl : (fs.take q3).length ≤ 6000 := by rw [List.length_take]; omega
              have hwh : decide ((segF t Lf).2 = nf) = false := by rw [hseg2]; exact decide_eq_false (by show ¬ fa = nf; omega)
              have hnI : ((-1 : Int) == (nf : Int)) = false := by rw [beq_eq_false_iff_ne]; omega
              clear htt hfa hx hql hg hown hb13
              have hm := HH12.out.mine HB13.out
              have hs' := S12.out.later HB13.out
              rw [hwh] at hs'
              have CSM := same_any wr p (readSt S1 (nf : Int)) _ hm (by omega) HT.out.crc s (nameB t 2) t _ hs' (.inl (.inr rfl)) b (by rw [nameB_data]; exact HST.out.look) (fs.take q3) (by show (segF t (S1.file b).now).1 = _; rw [HST.out.file, hseg2]) (by omega)
                (fun x hx => by show readS t (S1.file b).now _ = _ ∧ _ < (S1.file b).now.length ∧ _; rw [HST.out.file]; exact readS_front (by rw [hseg2]; exact hx)) _ (RowS.of_own HGW.out.own) (fun g' hg' => .inr ⟨Nat.le_trans HG13.out.below.size (HGW.out.new_ g' hg'), HGW.out.own.lt hg'⟩)
              have HCS := Lib.hid CSM
              have SS := Lib.hid hs'
              clear CSM hm hs' hwh hseg2
              go_wp2_with fail
              refine HCS.out.mono ?_
              rintro e w14 ⟨rfl, k14, h14, kk14⟩
              have s14 := SS.out.kept (X := fun j => (_ ∨ j = s) ∨ _) (.inl (.inr rfl)) kk14
              have H14 := Lib.hid h14
              have S14 := Lib.hid s14
              clear h14 s14 kk14 HCS
              go_wp2_with fail
              have b15 := laid_below (w := w14) #[.int .i64 2, .int .u32 (t : Int), .int .u64 0, .int .u64 0, .int .u64 0, .string ⟨#[]⟩] 33
              have hrow : RecRow (w14.alloc (.cells #[.int .i64 2, .int .u32 (t : Int), .int .u64 0, .int .u64 0, .int .u64 0, .string ⟨#[]⟩] 33)) (some ⟨w14.heap.size, 0, none⟩) 1 1 (fun i => [(⟨2, t, 0, 0, 0, ⟨#[]⟩⟩ : Rec)].getD i zeroRec) :=
                recs_cells (l := [⟨2, t, 0, 0, 0, ⟨#[]⟩⟩]) (t := 33) (fr := (0, 0)) (heap_alloc_new w14 _) (fun r hr => by rw [List.mem_singleton.1 hr]; exact ⟨by show -9223372036854775808 ≤ (2 : Int) ∧ (2 : Int) ≤ _; omega, ht, by show 0 ≤ maxLen; omega⟩) (by simp)
              have hall2 := (allOf_list t [⟨2, t, 0, 0, 0, ⟨#[]⟩⟩]).2 ⟨by simp, fun r hr => by rw [List.mem_singleton.1 hr]; exact kpart_of t⟩
              have h15 := Held.later H14.out b15
              have CA := append_corrupt (w14.alloc (.cells #[.int .i64 2, .int .u32 (t : Int), .int .u64 0, .int .u64 0, .int .u64 0, .string ⟨#[]⟩] 33)) s p (nameB t 2) t (S14.out.later b15) (some ⟨w14.heap.size, 0, none⟩) 1 1 _ hrow hall2
              have HCA := Lib.hid CA
              have B14 := Lib.hid h15.below
              clear CA h15 hrow hall2 b15
              refine HCA.out.mono ?_
              rintro e w15 ⟨rfl, b16⟩
              have B15 := Lib.hid (B14.out.trans (b16.mono B14.out.size))
              clear b16 HCA
              go_wp2_with fail
              go_ret
              exact ⟨rfl, B15.out⟩
          · have hqI2 : ¬ (q3 : Int) < (M : Int) := by omega
            have hall : ownOf t fs en = (fs, en) := ownOf_all fun x hx => by
              obtain ⟨j, hj, rfl⟩ := List.getElem_of_mem hx
              exact hown j hj (by have := HMM.out; omega)
            have e1 : fs.take q3 = fs := List.take_of_length_le (by rw [HMM.out]; omega)
            have hseg2 : segF t Lf = (fs.take q3, en) := by rw [HSEG.out, hall, e1]
            have hwl : (fs.take q3).length ≤ 6000 := by rw [List.length_take]; omega
            clear hall hg hown hb13 e1
            by_cases hen : en = nf
            · have hwh : decide ((segF t Lf).2 = nf) = true := by rw [hseg2]; exact decide_eq_true hen
              have hnI : ((en : Int) == (nf : Int)) = true := by rw [beq_iff_eq]; omega
              clear hen
              have hm := HH12.out.mine HB13.out
              have hs' := S12.out.later HB13.out
              rw [hwh] at hs'
              have CSM := same_any wr p (readSt S1 (nf : Int)) _ hm (by omega) HT.out.crc s (nameB t 2) t _ hs' (.inl (.inr rfl)) b (by rw [nameB_data]; exact HST.out.look) (fs.take q3) (by show (segF t (S1.file b).now).1 = _; rw [HST.out.file, hseg2]) (by omega)
                (fun x hx => by show readS t (S1.file b).now _ = _ ∧ _ < (S1.file b).now.length ∧ _; rw [HST.out.file]; exact readS_front (by rw [hseg2]; exact hx)) _ (RowS.of_own HGW.out.own) (fun g' hg' => .inr ⟨Nat.le_trans HG13.out.below.size (HGW.out.new_ g' hg'), HGW.out.own.lt hg'⟩)
              have HCS := Lib.hid CSM
              have SS := Lib.hid hs'
              clear CSM hm hs' hwh hseg2
              go_wp2_with fail
              refine HCS.out.mono ?_
              rintro e w14 ⟨rfl, k14, h14, kk14⟩
              have s14 := SS.out.kept (X := fun j => (_ ∨ j = s) ∨ _) (.inl (.inr rfl)) kk14
              have H14 := Lib.hid h14
              have S14 := Lib.hid s14
              clear h14 s14 kk14 HCS
              go_wp2_with fail
              have b15 := laid_below (w := w14) #[.int .i64 2, .int .u32 (t : Int), .int .u64 0, .int .u64 0, .int .u64 0, .string ⟨#[]⟩] 33
              have hrow : RecRow (w14.alloc (.cells #[.int .i64 2, .int .u32 (t : Int), .int .u64 0, .int .u64 0, .int .u64 0, .string ⟨#[]⟩] 33)) (some ⟨w14.heap.size, 0, none⟩) 1 1 (fun i => [(⟨2, t, 0, 0, 0, ⟨#[]⟩⟩ : Rec)].getD i zeroRec) :=
                recs_cells (l := [⟨2, t, 0, 0, 0, ⟨#[]⟩⟩]) (t := 33) (fr := (0, 0)) (heap_alloc_new w14 _) (fun r hr => by rw [List.mem_singleton.1 hr]; exact ⟨by show -9223372036854775808 ≤ (2 : Int) ∧ (2 : Int) ≤ _; omega, ht, by show 0 ≤ maxLen; omega⟩) (by simp)
              have hall2 := (allOf_list t [⟨2, t, 0, 0, 0, ⟨#[]⟩⟩]).2 ⟨by simp, fun r hr => by rw [List.mem_singleton.1 hr]; exact kpart_of t⟩
              have h15 := Held.later H14.out b15
              have CA := append_any (w14.alloc (.cells #[.int .i64 2, .int .u32 (t : Int), .int .u64 0, .int .u64 0, .int .u64 0, .string ⟨#[]⟩] 33)) p _ _ h15 (by omega) HT.out.crc s (nameB t 2) t (S14.out.later b15) (.inl (.inr rfl)) b (by rw [nameB_data]; exact HST.out.look) (some ⟨w14.heap.size, 0, none⟩) 1 1 _ hrow hall2 (by omega)
              have hwr : (((readSt (readSt S1 (nf : Int)) k14)).write (nameB t 2).data.toList ((((readSt (readSt S1 (nf : Int)) k14).file b).now.length : Nat) : Int) (encs (recsTo (fun i => [(⟨2, t, 0, 0, 0, ⟨#[]⟩⟩ : Rec)].getD i zeroRec) 1))).1 = 0 := by
                rw [readSt_add]
                show ((readSt S1 _).write _ (((S1.file b).now.length : Nat) : Int) _).1 = 0
                rw [HST.out.file]
                exact HST.out.write _ _ (Nat.le_trans (encs_len _) (by rw [recsTo_length]; omega))
              have HCA := Lib.hid CA
              have HWR := Lib.hid hwr
              clear CA hwr h15 hrow hall2 b15
              refine HCA.out.mono ?_
              rintro e w15 (⟨_, v15, rfl, _, _, h15, _⟩ | ⟨h1, _⟩)
              · have B15 := Lib.hid h15.below
                clear h15 HCA
                go_wp2_with fail
                go_ret
                exact ⟨rfl, B15.out⟩
              · exact absurd HWR.out h1
            · have hwh : decide ((segF t Lf).2 = nf) = false := by rw [hseg2]; exact decide_eq_false hen
              have hnI : ((en : Int) == (nf : Int)) = false := by rw [beq_eq_false_iff_ne]; omega
              clear hen
              have hm := HH12.out.mine HB13.out
              have hs' := S12.out.later HB13.out
              rw [hwh] at hs'
              have CSM := same_any wr p (readSt S1 (nf : Int)) _ hm (by omega) HT.out.crc s (nameB t 2) t _ hs' (.inl (.inr rfl)) b (by rw [nameB_data]; exact HST.out.look) (fs.take q3) (by show (segF t (S1.file b).now).1 = _; rw [HST.out.file, hseg2]) (by omega)
                (fun x hx => by show readS t (S1.file b).now _ = _ ∧ _ < (S1.file b).now.length ∧ _; rw [HST.out.file]; exact readS_front (by rw [hseg2]; exact hx)) _ (RowS.of_own HGW.out.own) (fun g' hg' => .inr ⟨Nat.le_trans HG13.out.below.size (HGW.out.new_ g' hg'), HGW.out.own.lt hg'⟩)
              have HCS := Lib.hid CSM
              have SS := Lib.hid hs'
              clear CSM hm hs' hwh hseg2
              go_wp2_with fail
              refine HCS.out.mono ?_
              rintro e w14 ⟨rfl, k14, h14, kk14⟩
              have s14 := SS.out.kept (X := fun j => (_ ∨ j = s) ∨ _) (.inl (.inr rfl)) kk14
              have H14 := Lib.hid h14
              have S14 := Lib.hid s14
              clear h14 s14 kk14 HCS
              go_wp2_with fail
              have b15 := laid_below (w := w14) #[.int .i64 2, .int .u32 (t : Int), .int .u64 0, .int .u64 0, .int .u64 0, .string ⟨#[]⟩] 33
              have hrow : RecRow (w14.alloc (.cells #[.int .i64 2, .int .u32 (t : Int), .int .u64 0, .int .u64 0, .int .u64 0, .string ⟨#[]⟩] 33)) (some ⟨w14.heap.size, 0, none⟩) 1 1 (fun i => [(⟨2, t, 0, 0, 0, ⟨#[]⟩⟩ : Rec)].getD i zeroRec) :=
                recs_cells (l := [⟨2, t, 0, 0, 0, ⟨#[]⟩⟩]) (t := 33) (fr := (0, 0)) (heap_alloc_new w14 _) (fun r hr => by rw [List.mem_singleton.1 hr]; exact ⟨by show -9223372036854775808 ≤ (2 : Int) ∧ (2 : Int) ≤ _; omega, ht, by show 0 ≤ maxLen; omega⟩) (by simp)
              have hall2 := (allOf_list t [⟨2, t, 0, 0, 0, ⟨#[]⟩⟩]).2 ⟨by simp, fun r hr => by rw [List.mem_singleton.1 hr]; exact kpart_of t⟩
              have h15 := Held.later H14.out b15
              have CA := append_corrupt (w14.alloc (.cells #[.int .i64 2, .int .u32 (t : Int), .int .u64 0, .int .u64 0, .int .u64 0, .string ⟨#[]⟩] 33)) s p (nameB t 2) t (S14.out.later b15) (some ⟨w14.heap.size, 0, none⟩) 1 1 _ hrow hall2
              have HCA := Lib.hid CA
              have B14 := Lib.hid h15.below
              clear CA h15 hrow hall2 b15
              refine HCA.out.mono ?_
              rintro e w15 ⟨rfl, b16⟩
              have B15 := Lib.hid (B14.out.trans (b16.mono B14.out.size))
              clear b16 HCA
              go_wp2_with fail
              go_ret
              exact ⟨rfl, B15.out⟩
      · have LF := HUB
        have NF := HM
        have BF := HBY
        have hnf2 : m ≤ m := Nat.le_refl _
        have hnf3 := hcb1
        go_wp2_with fail
        refine (new_any w5 1048576).mono ?_
        rintro e w6 ho
        obtain ⟨p, rfl, h6, k6⟩ := held_new (W := w) (X := fun k => ub = some ⟨k, 0, none⟩) (fun k hk => (HUB4.out k hk).1) B5.out ho
        have L6 : Leads w6 ub L := LF.out.same fun b' off e hne => k6 b' (by have := HUB5.out b' off e; subst this; exact e)
        have C6 := Lib.hid (seg_name ht (n := 2) (by omega) w6 (HT.out.later h6.below))
        have H6 := Lib.hid h6
        have HL6 := Lib.hid L6
        clear ho h6 k6 L6
        go_wp2_with fail
        refine C6.out.mono ?_
        rintro e w7 ⟨rfl, b7⟩
        have h7 := H6.out.later b7
        have C7 := Lib.hid (create_any w7 p _ 0 h7.disk (by omega) (nameB t 2) (nameB_fit ht (by omega)))
        have H7 := Lib.hid h7
        have HL7 := Lib.hid (HL6.out.later b7)
        clear h7 b7 C6 H6 HL6
        go_wp2_with fail
        refine C7.out.mono ?_
        rintro e w8 ⟨b, _, _, _, ho⟩
        rw [nameB_data, One.create (nameL_good ht (by omega))] at ho
        obtain ⟨rfl, h8, k8⟩ := H7.out.out ho
        have L8 : Leads w8 ub L := HL7.out.same fun b' off e hne => k8 b' (by have := HUB5.out b' off e; subst this; exact e)
        have C8 := Lib.hid (seg_name ht (n := 2) (by omega) w8 (HT.out.later h8.below))
        have H8 := Lib.hid h8
        have HL8 := Lib.hid L8
        clear ho h8 k8 L8 C7 H7 HL7
        go_wp2_with fail
        refine C8.out.mono ?_
        rintro e w9 ⟨rfl, b9⟩
        have C9 := Held.write (H8.out.later b9) (HL8.out.later b9) (c := cb) NF.out BF.out (by rw [NF.out]; omega) (fun b' off e hne => .inl (by have := HUB5.out b' off e; subst this; exact e)) (by omega) (nameB t 2) (nameB_fit ht (by omega)) ((0 : Nat) : Int)
        rw [nameB_data, One.write 0 L (by omega) (Nat.zero_le _) (by rw [NF.out, show within 1048576 = 1048576 by decide]; omega)] at C9
        have hA : ((⟨[], [], []⟩ : FileA).write 0 L).now = L := FileA.write_end ⟨[], [], []⟩ L
        have hst := anySt (t := t) (b := b) (A := (⟨[], [], []⟩ : FileA).write 0 L) (sy := []) (wa := [⟨some b, [], nameL t 2⟩]) (f := less (-1)) (c := 1 + 1) (r := 0) (by decide) (by rw [hA, NF.out]; omega)
        rw [hA] at hst
        obtain ⟨S1, hS1⟩ : ∃ S1, One (within 1048576) (nameL t 2) b ((⟨[], [], []⟩ : FileA).write 0 L) [] [⟨some b, [], nameL t 2⟩] (less (-1)) (1 + 1) 0 = S1 := ⟨_, rfl⟩
        rw [hS1] at C9 hst
        have HC9 := Lib.hid C9
        have HST := Lib.hid hst
        have HL9 := Lib.hid (HL8.out.later b9)
        clear b9 C9 hA hst hS1 C8 H8 HL8
        go_wp2_with fail
        refine HC9.out.mono ?_
        rintro e w10 ⟨rfl, h10, k10⟩
        have L10 : Leads w10 ub L := HL9.out.same fun b' off e hne => k10 b' (by have := HUB5.out b' off e; subst this; exact e)
        have C10 := segopen_good HT.out w10 p S1 _ h10 (by omega) t 2 ht (by omega) b HST.out.look
        rw [HST.out.file, NF.out] at C10
        have HC10 := Lib.hid C10
        have HL10 := Lib.hid L10
        clear h10 k10 L10 C10 HC9 HL9
        go_wp2_with fail
        refine HC10.out.mono ?_
        rintro e w11 ⟨s, rfl, s11, h11, k11, z11⟩
        have L11 : Leads w11 ub L := HL10.out.same fun b' off e hne => k11 b' (by have := HUB5.out b' off e; subst this; exact e)
        have hsz : (readSt S1 (m : Int)).size (nameB t 2).data.toList = (m : Int) := by
          rw [nameB_data, St.size]
          simp only [show dlook (nameL t 2) (readSt S1 (m : Int)).now = some b from HST.out.look]
          show (((S1.file b).now.length : Nat) : Int) = _
          rw [HST.out.file, NF.out]
        have C11 := segsize_any w11 p (readSt S1 (m : Int)) _ h11.disk s (nameB t 2) t _ s11
        rw [hsz] at C11
        have HC11 := Lib.hid C11
        have H11 := Lib.hid h11
        have S11 := Lib.hid s11
        have HL11 := Lib.hid L11
        clear h11 s11 k11 z11 L11 C11 hsz HC10 HL10
        go_wp2_with fail
        refine HC11.out.mono ?_
        rintro e w12 ⟨rfl, q12, rfl⟩
        have H12 : Held w _ (w11.drewN q12) p (readSt S1 (m : Int)) (0 + 2 + 2 + 1) := H11.out.later (draws_below w11 q12)
        have HH12 := Lib.hid H12
        have S12 := Lib.hid (S11.out.later (draws_below w11 q12))
        have HL12 := Lib.hid (HL11.out.later (draws_below w11 q12))
        generalize w11.drewN q12 = w12 at HH12 S12 HL12 ⊢
        have C12 := Lib.hid (RFront_any ub m cb L w12 HL12.out BF.out NF.out (by omega) (by omega))
        clear H12 HC11 H11 S11 HL11
        go_wp2_with fail
        refine C12.out.mono ?_
        rintro e w13 ⟨v13, rfl, g13⟩
        obtain ⟨⟨fs, en⟩, hfr⟩ : ∃ x, front L 0 = x := ⟨_, rfl⟩
        rw [hfr] at g13 ⊢
        simp only at g13
        have hfl := front_small L 0
        have hfe := (front_end (b := L) (p := 0) (Nat.zero_le _)).2
        have hfb : ∀ x ∈ fs, x.r.body.size ≤ 1000 ∧ x.at_ < m := fun x hx => by
          have := front_body (b := L) (p := 0) (x := x) (by rw [hfr]; exact hx)
          rw [NF.out] at this
          exact this
        rw [hfr, NF.out] at hfl hfe
        simp only at hfl hfe
        have hseg : segF t L = ownOf t fs en := by rw [segF, hfr]
        obtain ⟨M, hM⟩ : ∃ M, fs.length = M := ⟨_, rfl⟩
        rw [hM] at hfl
        obtain ⟨a3, c3, e3, ha3⟩ : ∃ a3 c3, v13 = .slice a3 M c3 ∧ (0 < M → ∃ g, a3 = some ⟨g, 0, none⟩) := by
          rcases g13.own.form with ⟨rfl, rfl⟩ | ⟨g, cap, rfl, h1, h2, _⟩
          · exact ⟨none, 0, by rw [← hM]; rfl, fun h => by rw [← hM] at h; cases h⟩
          · exact ⟨some ⟨g, 0, none⟩, cap, by rw [← hM], fun _ => ⟨g, rfl⟩⟩
        subst e3
        have HG13 := Lib.hid g13
        have HMM := Lib.hid hM
        have HA3 := Lib.hid ha3
        have HFB := Lib.hid hfb
        have HSEG := Lib.hid hseg
        have ST2 := Lib.hid (GrowS.start fR w13)
        clear g13 hM ha3 hfb hseg hfr C12
        go_wp2_with fail
        go_loopw [17, 18, 19] (fun nv u i wr => nv = .int .i64 (en : Int) ∧ ∃ (q : Nat), i = .int .i64 (q : Int) ∧ q ≤ M ∧ (∀ j (hj : j < fs.length), j < q → fs[j].r.tenant = t) ∧ GrowS fR w13 (fs.take q) u wr) (fun _ _ i _ => ((M : Int) - intOf i).toNat)
        case atStart => exact ⟨rfl, 0, rfl, Nat.zero_le _, (fun j hj h => by omega), ST2.out⟩
        case round =>
          obtain ⟨rfl, q3, rfl, hq3, hown, hg⟩ := hrel
          have hb13 : Below w12.heap.size w12 wr := HG13.out.below.trans (hg.below.mono HG13.out.below.size)
          have HB13 := Lib.hid hb13
          have HGW := Lib.hid hg
          have HOW := Lib.hid hown
          by_cases hqM : q3 < M
          · have hqI2 : (q3 : Int) < (M : Int) := by omega
            have hql : q3 < fs.length := by rw [HMM.out]; exact hqM
            obtain ⟨g3, rfl⟩ := HA3.out (by omega)
            obtain ⟨⟨fa, ⟨k, tt, ep, o, sq, bd⟩⟩, hx⟩ : ∃ x, fs[q3] = x := ⟨_, rfl⟩
            obtain ⟨d0, d1, d2, d3, d4, d5, d6⟩ := fd_cells rfl rfl (HG13.out.own.later hg.below) q3 hql fa k tt ep o sq bd hx
            by_cases htt : t = tt
            · subst htt
              have e1 : fs.take q3 ++ [⟨fa, ⟨k, t, ep, o, sq, bd⟩⟩] = fs.take (q3 + 1) := by rw [List.take_add_one, List.getElem?_eq_getElem hql, hx]; rfl
              obtain ⟨v', w2', r2, g2⟩ := hg.put ⟨fa, ⟨k, t, ep, o, sq, bd⟩⟩ wr.heap.size 1 rfl (by rw [List.length_take]; omega)
              rw [e1] at g2
              have nxt : ∀ j (hj : j < fs.length), j < q3 + 1 → fs[j].r.tenant = t := fun j hj hjq => by
                by_cases e : j = q3
                · subst e; rw [hx]
                · exact hown j hj (by omega)
              have R2 := Lib.hid r2
              have G2 := Lib.hid g2
              have NX := Lib.hid nxt
              clear r2 g2 nxt e1 hx hb13 hg hown hql
              go_wp2_with ((with_reducible show wpList _ _ _ (⟨some 107, _, _, _, _, _⟩ :: _) _ _); refine wpList_append_of 50 50 (.tmp 101) (.tmp 106) _ _ rfl rfl rfl rfl rfl R2.out ?_)
              refine ⟨⟨rfl, q3 + 1, by rw [Int.natCast_add]; rfl, by omega, NX.out, G2.out⟩, ?_⟩
              show ((M : Int) - ((q3 : Int) + 1)).toNat < ((M : Int) - (q3 : Int)).toNat
              omega
            · have htI : ((tt : Int) == (t : Int)) = false := by rw [beq_eq_false_iff_ne]; omega
              have htJ : ((tt : Int) != (t : Int)) = true := by rw [bne_iff_ne]; omega
              have hseg2 : segF t L = (fs.take q3, fa) := by
                rw [HSEG.out, ownOf_at (t := t) (e := en) hql (fun j hj => hown j (by omega) hj) (by rw [hx]; exact fun e => htt e.symm), hx]
              have hfa : fa < m := by have := (HFB.out _ (List.getElem_mem hql)).2; rw [hx] at this; exact this
              have hwl : (fs.take q3).length ≤ 6000 := by rw [List.length_take]; omega
              have hwh : decide ((segF t L).2 = m) = false := by rw [hseg2]; exact decide_eq_false (by show ¬ fa = m; omega)
              have hnI : ((-1 : Int) == (m : Int)) = false := by rw [beq_eq_false_iff_ne]; omega
              clear htt hfa hx hql hg hown hb13
              have hm := HH12.out.mine HB13.out
              have hs' := S12.out.later HB13.out
              rw [hwh] at hs'
              have CSM := same_any wr p (readSt S1 (m : Int)) _ hm (by omega) HT.out.crc s (nameB t 2) t _ hs' (.inl (.inr rfl)) b (by rw [nameB_data]; exact HST.out.look) (fs.take q3) (by show (segF t (S1.file b).now).1 = _; rw [HST.out.file, hseg2]) (by omega)
                (fun x hx => by show readS t (S1.file b).now _ = _ ∧ _ < (S1.file b).now.length ∧ _; rw [HST.out.file]; exact readS_front (by rw [hseg2]; exact hx)) _ (RowS.of_own HGW.out.own) (fun g' hg' => .inr ⟨Nat.le_trans HG13.out.below.size (HGW.out.new_ g' hg'), HGW.out.own.lt hg'⟩)
              have HCS := Lib.hid CSM
              have SS := Lib.hid hs'
              clear CSM hm hs' hwh hseg2
              go_wp2_with fail
              refine HCS.out.mono ?_
              rintro e w14 ⟨rfl, k14, h14, kk14⟩
              have s14 := SS.out.kept (X := fun j => (_ ∨ j = s) ∨ _) (.inl (.inr rfl)) kk14
              have H14 := Lib.hid h14
              have S14 := Lib.hid s14
              clear h14 s14 kk14 HCS
              go_wp2_with fail
              have b15 := laid_below (w := w14) #[.int .i64 2, .int .u32 (t : Int), .int .u64 0, .int .u64 0, .int .u64 0, .string ⟨#[]⟩] 33
              have hrow : RecRow (w14.alloc (.cells #[.int .i64 2, .int .u32 (t : Int), .int .u64 0, .int .u64 0, .int .u64 0, .string ⟨#[]⟩] 33)) (some ⟨w14.heap.size, 0, none⟩) 1 1 (fun i => [(⟨2, t, 0, 0, 0, ⟨#[]⟩⟩ : Rec)].getD i zeroRec) :=
                recs_cells (l := [⟨2, t, 0, 0, 0, ⟨#[]⟩⟩]) (t := 33) (fr := (0, 0)) (heap_alloc_new w14 _) (fun r hr => by rw [List.mem_singleton.1 hr]; exact ⟨by show -9223372036854775808 ≤ (2 : Int) ∧ (2 : Int) ≤ _; omega, ht, by show 0 ≤ maxLen; omega⟩) (by simp)
              have hall2 := (allOf_list t [⟨2, t, 0, 0, 0, ⟨#[]⟩⟩]).2 ⟨by simp, fun r hr => by rw [List.mem_singleton.1 hr]; exact kpart_of t⟩
              have h15 := Held.later H14.out b15
              have CA := append_corrupt (w14.alloc (.cells #[.int .i64 2, .int .u32 (t : Int), .int .u64 0, .int .u64 0, .int .u64 0, .string ⟨#[]⟩] 33)) s p (nameB t 2) t (S14.out.later b15) (some ⟨w14.heap.size, 0, none⟩) 1 1 _ hrow hall2
              have HCA := Lib.hid CA
              have B14 := Lib.hid h15.below
              clear CA h15 hrow hall2 b15
              refine HCA.out.mono ?_
              rintro e w15 ⟨rfl, b16⟩
              have B15 := Lib.hid (B14.out.trans (b16.mono B14.out.size))
              clear b16 HCA
              go_wp2_with fail
              go_ret
              exact ⟨rfl, B15.out⟩
          · have hqI2 : ¬ (q3 : Int) < (M : Int) := by omega
            have hall : ownOf t fs en = (fs, en) := ownOf_all fun x hx => by
              obtain ⟨j, hj, rfl⟩ := List.getElem_of_mem hx
              exact hown j hj (by have := HMM.out; omega)
            have e1 : fs.take q3 = fs := List.take_of_length_le (by rw [HMM.out]; omega)
            have hseg2 : segF t L = (fs.take q3, en) := by rw [HSEG.out, hall, e1]
            have hwl : (fs.take q3).length ≤ 6000 := by rw [List.length_take]; omega
            clear hall hg hown hb13 e1
            by_cases hen : en = m
            · have hwh : decide ((segF t L).2 = m) = true := by rw [hseg2]; exact decide_eq_true hen
              have hnI : ((en : Int) == (m : Int)) = true := by rw [beq_iff_eq]; omega
              clear hen
              have hm := HH12.out.mine HB13.out
              have hs' := S12.out.later HB13.out
              rw [hwh] at hs'
              have CSM := same_any wr p (readSt S1 (m : Int)) _ hm (by omega) HT.out.crc s (nameB t 2) t _ hs' (.inl (.inr rfl)) b (by rw [nameB_data]; exact HST.out.look) (fs.take q3) (by show (segF t (S1.file b).now).1 = _; rw [HST.out.file, hseg2]) (by omega)
                (fun x hx => by show readS t (S1.file b).now _ = _ ∧ _ < (S1.file b).now.length ∧ _; rw [HST.out.file]; exact readS_front (by rw [hseg2]; exact hx)) _ (RowS.of_own HGW.out.own) (fun g' hg' => .inr ⟨Nat.le_trans HG13.out.below.size (HGW.out.new_ g' hg'), HGW.out.own.lt hg'⟩)
              have HCS := Lib.hid CSM
              have SS := Lib.hid hs'
              clear CSM hm hs' hwh hseg2
              go_wp2_with fail
              refine HCS.out.mono ?_
              rintro e w14 ⟨rfl, k14, h14, kk14⟩
              have s14 := SS.out.kept (X := fun j => (_ ∨ j = s) ∨ _) (.inl (.inr rfl)) kk14
              have H14 := Lib.hid h14
              have S14 := Lib.hid s14
              clear h14 s14 kk14 HCS
              go_wp2_with fail
              have b15 := laid_below (w := w14) #[.int .i64 2, .int .u32 (t : Int), .int .u64 0, .int .u64 0, .int .u64 0, .string ⟨#[]⟩] 33
              have hrow : RecRow (w14.alloc (.cells #[.int .i64 2, .int .u32 (t : Int), .int .u64 0, .int .u64 0, .int .u64 0, .string ⟨#[]⟩] 33)) (some ⟨w14.heap.size, 0, none⟩) 1 1 (fun i => [(⟨2, t, 0, 0, 0, ⟨#[]⟩⟩ : Rec)].getD i zeroRec) :=
                recs_cells (l := [⟨2, t, 0, 0, 0, ⟨#[]⟩⟩]) (t := 33) (fr := (0, 0)) (heap_alloc_new w14 _) (fun r hr => by rw [List.mem_singleton.1 hr]; exact ⟨by show -9223372036854775808 ≤ (2 : Int) ∧ (2 : Int) ≤ _; omega, ht, by show 0 ≤ maxLen; omega⟩) (by simp)
              have hall2 := (allOf_list t [⟨2, t, 0, 0, 0, ⟨#[]⟩⟩]).2 ⟨by simp, fun r hr => by rw [List.mem_singleton.1 hr]; exact kpart_of t⟩
              have h15 := Held.later H14.out b15
              have CA := append_any (w14.alloc (.cells #[.int .i64 2, .int .u32 (t : Int), .int .u64 0, .int .u64 0, .int .u64 0, .string ⟨#[]⟩] 33)) p _ _ h15 (by omega) HT.out.crc s (nameB t 2) t (S14.out.later b15) (.inl (.inr rfl)) b (by rw [nameB_data]; exact HST.out.look) (some ⟨w14.heap.size, 0, none⟩) 1 1 _ hrow hall2 (by omega)
              have hwr : (((readSt (readSt S1 (m : Int)) k14)).write (nameB t 2).data.toList ((((readSt (readSt S1 (m : Int)) k14).file b).now.length : Nat) : Int) (encs (recsTo (fun i => [(⟨2, t, 0, 0, 0, ⟨#[]⟩⟩ : Rec)].getD i zeroRec) 1))).1 = 0 := by
                rw [readSt_add]
                show ((readSt S1 _).write _ (((S1.file b).now.length : Nat) : Int) _).1 = 0
                rw [HST.out.file]
                exact HST.out.write _ _ (Nat.le_trans (encs_len _) (by rw [recsTo_length]; omega))
              have HCA := Lib.hid CA
              have HWR := Lib.hid hwr
              clear CA hwr h15 hrow hall2 b15
              refine HCA.out.mono ?_
              rintro e w15 (⟨_, v15, rfl, _, _, h15, _⟩ | ⟨h1, _⟩)
              · have B15 := Lib.hid h15.below
                clear h15 HCA
                go_wp2_with fail
                go_ret
                exact ⟨rfl, B15.out⟩
              · exact absurd HWR.out h1
            · have hwh : decide ((segF t L).2 = m) = false := by rw [hseg2]; exact decide_eq_false hen
              have hnI : ((en : Int) == (m : Int)) = false := by rw [beq_eq_false_iff_ne]; omega
              clear hen
              have hm := HH12.out.mine HB13.out
              have hs' := S12.out.later HB13.out
              rw [hwh] at hs'
              have CSM := same_any wr p (readSt S1 (m : Int)) _ hm (by omega) HT.out.crc s (nameB t 2) t _ hs' (.inl (.inr rfl)) b (by rw [nameB_data]; exact HST.out.look) (fs.take q3) (by show (segF t (S1.file b).now).1 = _; rw [HST.out.file, hseg2]) (by omega)
                (fun x hx => by show readS t (S1.file b).now _ = _ ∧ _ < (S1.file b).now.length ∧ _; rw [HST.out.file]; exact readS_front (by rw [hseg2]; exact hx)) _ (RowS.of_own HGW.out.own) (fun g' hg' => .inr ⟨Nat.le_trans HG13.out.below.size (HGW.out.new_ g' hg'), HGW.out.own.lt hg'⟩)
              have HCS := Lib.hid CSM
              have SS := Lib.hid hs'
              clear CSM hm hs' hwh hseg2
              go_wp2_with fail
              refine HCS.out.mono ?_
              rintro e w14 ⟨rfl, k14, h14, kk14⟩
              have s14 := SS.out.kept (X := fun j => (_ ∨ j = s) ∨ _) (.inl (.inr rfl)) kk14
              have H14 := Lib.hid h14
              have S14 := Lib.hid s14
              clear h14 s14 kk14 HCS
              go_wp2_with fail
              have b15 := laid_below (w := w14) #[.int .i64 2, .int .u32 (t : Int), .int .u64 0, .int .u64 0, .int .u64 0, .string ⟨#[]⟩] 33
              have hrow : RecRow (w14.alloc (.cells #[.int .i64 2, .int .u32 (t : Int), .int .u64 0, .int .u64 0, .int .u64 0, .string ⟨#[]⟩] 33)) (some ⟨w14.heap.size, 0, none⟩) 1 1 (fun i => [(⟨2, t, 0, 0, 0, ⟨#[]⟩⟩ : Rec)].getD i zeroRec) :=
                recs_cells (l := [⟨2, t, 0, 0, 0, ⟨#[]⟩⟩]) (t := 33) (fr := (0, 0)) (heap_alloc_new w14 _) (fun r hr => by rw [List.mem_singleton.1 hr]; exact ⟨by show -9223372036854775808 ≤ (2 : Int) ∧ (2 : Int) ≤ _; omega, ht, by show 0 ≤ maxLen; omega⟩) (by simp)
              have hall2 := (allOf_list t [⟨2, t, 0, 0, 0, ⟨#[]⟩⟩]).2 ⟨by simp, fun r hr => by rw [List.mem_singleton.1 hr]; exact kpart_of t⟩
              have h15 := Held.later H14.out b15
              have CA := append_corrupt (w14.alloc (.cells #[.int .i64 2, .int .u32 (t : Int), .int .u64 0, .int .u64 0, .int .u64 0, .string ⟨#[]⟩] 33)) s p (nameB t 2) t (S14.out.later b15) (some ⟨w14.heap.size, 0, none⟩) 1 1 _ hrow hall2
              have HCA := Lib.hid CA
              have B14 := Lib.hid h15.below
              clear CA h15 hrow hall2 b15
              refine HCA.out.mono ?_
              rintro e w15 ⟨rfl, b16⟩
              have B15 := Lib.hid (B14.out.trans (b16.mono B14.out.size))
              clear b16 HCA
              go_wp2_with fail
              go_ret
              exact ⟨rfl, B15.out⟩
      · have LF := HUB
        have NF := HM
        have BF := HBY
        have hnf2 : m ≤ m := Nat.le_refl _
        have hnf3 := hcb1
        go_wp2_with fail
        refine (new_any w5 1048576).mono ?_
        rintro e w6 ho
        obtain ⟨p, rfl, h6, k6⟩ := held_new (W := w) (X := fun k => ub = some ⟨k, 0, none⟩) (fun k hk => (HUB4.out k hk).1) B5.out ho
        have L6 : Leads w6 ub L := LF.out.same fun b' off e hne => k6 b' (by have := HUB5.out b' off e; subst this; exact e)
        have C6 := Lib.hid (seg_name ht (n := 2) (by omega) w6 (HT.out.later h6.below))
        have H6 := Lib.hid h6
        have HL6 := Lib.hid L6
        clear ho h6 k6 L6
        go_wp2_with fail
        refine C6.out.mono ?_
        rintro e w7 ⟨rfl, b7⟩
        have h7 := H6.out.later b7
        have C7 := Lib.hid (create_any w7 p _ 0 h7.disk (by omega) (nameB t 2) (nameB_fit ht (by omega)))
        have H7 := Lib.hid h7
        have HL7 := Lib.hid (HL6.out.later b7)
        clear h7 b7 C6 H6 HL6
        go_wp2_with fail
        refine C7.out.mono ?_
        rintro e w8 ⟨b, _, _, _, ho⟩
        rw [nameB_data, One.create (nameL_good ht (by omega))] at ho
        obtain ⟨rfl, h8, k8⟩ := H7.out.out ho
        have L8 : Leads w8 ub L := HL7.out.same fun b' off e hne => k8 b' (by have := HUB5.out b' off e; subst this; exact e)
        have C8 := Lib.hid (seg_name ht (n := 2) (by omega) w8 (HT.out.later h8.below))
        have H8 := Lib.hid h8
        have HL8 := Lib.hid L8
        clear ho h8 k8 L8 C7 H7 HL7
        go_wp2_with fail
        refine C8.out.mono ?_
        rintro e w9 ⟨rfl, b9⟩
        have C9 := Held.write (H8.out.later b9) (HL8.out.later b9) (c := cb) NF.out BF.out (by rw [NF.out]; omega) (fun b' off e hne => .inl (by have := HUB5.out b' off e; subst this; exact e)) (by omega) (nameB t 2) (nameB_fit ht (by omega)) ((0 : Nat) : Int)
        rw [nameB_data, One.write 0 L (by omega) (Nat.zero_le _) (by rw [NF.out, show within 1048576 = 1048576 by decide]; omega)] at C9
        have hA : ((⟨[], [], []⟩ : FileA).write 0 L).now = L := FileA.write_end ⟨[], [], []⟩ L
        have hst := anySt (t := t) (b := b) (A := (⟨[], [], []⟩ : FileA).write 0 L) (sy := []) (wa := [⟨some b, [], nameL t 2⟩]) (f := less (-1)) (c := 1 + 1) (r := 0) (by decide) (by rw [hA, NF.out]; omega)
        rw [hA] at hst
        obtain ⟨S1, hS1⟩ : ∃ S1, One (within 1048576) (nameL t 2) b ((⟨[], [], []⟩ : FileA).write 0 L) [] [⟨some b, [], nameL t 2⟩] (less (-1)) (1 + 1) 0 = S1 := ⟨_, rfl⟩
        rw [hS1] at C9 hst
        have HC9 := Lib.hid C9
        have HST := Lib.hid hst
        have HL9 := Lib.hid (HL8.out.later b9)
        clear b9 C9 hA hst hS1 C8 H8 HL8
        go_wp2_with fail
        refine HC9.out.mono ?_
        rintro e w10 ⟨rfl, h10, k10⟩
        have L10 : Leads w10 ub L := HL9.out.same fun b' off e hne => k10 b' (by have := HUB5.out b' off e; subst this; exact e)
        have C10 := segopen_good HT.out w10 p S1 _ h10 (by omega) t 2 ht (by omega) b HST.out.look
        rw [HST.out.file, NF.out] at C10
        have HC10 := Lib.hid C10
        have HL10 := Lib.hid L10
        clear h10 k10 L10 C10 HC9 HL9
        go_wp2_with fail
        refine HC10.out.mono ?_
        rintro e w11 ⟨s, rfl, s11, h11, k11, z11⟩
        have L11 : Leads w11 ub L := HL10.out.same fun b' off e hne => k11 b' (by have := HUB5.out b' off e; subst this; exact e)
        have hsz : (readSt S1 (m : Int)).size (nameB t 2).data.toList = (m : Int) := by
          rw [nameB_data, St.size]
          simp only [show dlook (nameL t 2) (readSt S1 (m : Int)).now = some b from HST.out.look]
          show (((S1.file b).now.length : Nat) : Int) = _
          rw [HST.out.file, NF.out]
        have C11 := segsize_any w11 p (readSt S1 (m : Int)) _ h11.disk s (nameB t 2) t _ s11
        rw [hsz] at C11
        have HC11 := Lib.hid C11
        have H11 := Lib.hid h11
        have S11 := Lib.hid s11
        have HL11 := Lib.hid L11
        clear h11 s11 k11 z11 L11 C11 hsz HC10 HL10
        go_wp2_with fail
        refine HC11.out.mono ?_
        rintro e w12 ⟨rfl, q12, rfl⟩
        have H12 : Held w _ (w11.drewN q12) p (readSt S1 (m : Int)) (0 + 2 + 2 + 1) := H11.out.later (draws_below w11 q12)
        have HH12 := Lib.hid H12
        have S12 := Lib.hid (S11.out.later (draws_below w11 q12))
        have HL12 := Lib.hid (HL11.out.later (draws_below w11 q12))
        generalize w11.drewN q12 = w12 at HH12 S12 HL12 ⊢
        have C12 := Lib.hid (RFront_any ub m cb L w12 HL12.out BF.out NF.out (by omega) (by omega))
        clear H12 HC11 H11 S11 HL11
        go_wp2_with fail
        refine C12.out.mono ?_
        rintro e w13 ⟨v13, rfl, g13⟩
        obtain ⟨⟨fs, en⟩, hfr⟩ : ∃ x, front L 0 = x := ⟨_, rfl⟩
        rw [hfr] at g13 ⊢
        simp only at g13
        have hfl := front_small L 0
        have hfe := (front_end (b := L) (p := 0) (Nat.zero_le _)).2
        have hfb : ∀ x ∈ fs, x.r.body.size ≤ 1000 ∧ x.at_ < m := fun x hx => by
          have := front_body (b := L) (p := 0) (x := x) (by rw [hfr]; exact hx)
          rw [NF.out] at this
          exact this
        rw [hfr, NF.out] at hfl hfe
        simp only at hfl hfe
        have hseg : segF t L = ownOf t fs en := by rw [segF, hfr]
        obtain ⟨M, hM⟩ : ∃ M, fs.length = M := ⟨_, rfl⟩
        rw [hM] at hfl
        obtain ⟨a3, c3, e3, ha3⟩ : ∃ a3 c3, v13 = .slice a3 M c3 ∧ (0 < M → ∃ g, a3 = some ⟨g, 0, none⟩) := by
          rcases g13.own.form with ⟨rfl, rfl⟩ | ⟨g, cap, rfl, h1, h2, _⟩
          · exact ⟨none, 0, by rw [← hM]; rfl, fun h => by rw [← hM] at h; cases h⟩
          · exact ⟨some ⟨g, 0, none⟩, cap, by rw [← hM], fun _ => ⟨g, rfl⟩⟩
        subst e3
        have HG13 := Lib.hid g13
        have HMM := Lib.hid hM
        have HA3 := Lib.hid ha3
        have HFB := Lib.hid hfb
        have HSEG := Lib.hid hseg
        have ST2 := Lib.hid (GrowS.start fR w13)
        clear g13 hM ha3 hfb hseg hfr C12
        go_wp2_with fail
        go_loopw [17, 18, 19] (fun nv u i wr => nv = .int .i64 (en : Int) ∧ ∃ (q : Nat), i = .int .i64 (q : Int) ∧ q ≤ M ∧ (∀ j (hj : j < fs.length), j < q → fs[j].r.tenant = t) ∧ GrowS fR w13 (fs.take q) u wr) (fun _ _ i _ => ((M : Int) - intOf i).toNat)
        case atStart => exact ⟨rfl, 0, rfl, Nat.zero_le _, (fun j hj h => by omega), ST2.out⟩
        case round =>
          obtain ⟨rfl, q3, rfl, hq3, hown, hg⟩ := hrel
          have hb13 : Below w12.heap.size w12 wr := HG13.out.below.trans (hg.below.mono HG13.out.below.size)
          have HB13 := Lib.hid hb13
          have HGW := Lib.hid hg
          have HOW := Lib.hid hown
          by_cases hqM : q3 < M
          · have hqI2 : (q3 : Int) < (M : Int) := by omega
            have hql : q3 < fs.length := by rw [HMM.out]; exact hqM
            obtain ⟨g3, rfl⟩ := HA3.out (by omega)
            obtain ⟨⟨fa, ⟨k, tt, ep, o, sq, bd⟩⟩, hx⟩ : ∃ x, fs[q3] = x := ⟨_, rfl⟩
            obtain ⟨d0, d1, d2, d3, d4, d5, d6⟩ := fd_cells rfl rfl (HG13.out.own.later hg.below) q3 hql fa k tt ep o sq bd hx
            by_cases htt : t = tt
            · subst htt
              have e1 : fs.take q3 ++ [⟨fa, ⟨k, t, ep, o, sq, bd⟩⟩] = fs.take (q3 + 1) := by rw [List.take_add_one, List.getElem?_eq_getElem hql, hx]; rfl
              obtain ⟨v', w2', r2, g2⟩ := hg.put ⟨fa, ⟨k, t, ep, o, sq, bd⟩⟩ wr.heap.size 1 rfl (by rw [List.length_take]; omega)
              rw [e1] at g2
              have nxt : ∀ j (hj : j < fs.length), j < q3 + 1 → fs[j].r.tenant = t := fun j hj hjq => by
                by_cases e : j = q3
                · subst e; rw [hx]
                · exact hown j hj (by omega)
              have R2 := Lib.hid r2
              have G2 := Lib.hid g2
              have NX := Lib.hid nxt
              clear r2 g2 nxt e1 hx hb13 hg hown hql
              go_wp2_with ((with_reducible show wpList _ _ _ (⟨some 107, _, _, _, _, _⟩ :: _) _ _); refine wpList_append_of 50 50 (.tmp 101) (.tmp 106) _ _ rfl rfl rfl rfl rfl R2.out ?_)
              refine ⟨⟨rfl, q3 + 1, by rw [Int.natCast_add]; rfl, by omega, NX.out, G2.out⟩, ?_⟩
              show ((M : Int) - ((q3 : Int) + 1)).toNat < ((M : Int) - (q3 : Int)).toNat
              omega
            · have htI : ((tt : Int) == (t : Int)) = false := by rw [beq_eq_false_iff_ne]; omega
              have htJ : ((tt : Int) != (t : Int)) = true := by rw [bne_iff_ne]; omega
              have hseg2 : segF t L = (fs.take q3, fa) := by
                rw [HSEG.out, ownOf_at (t := t) (e := en) hql (fun j hj => hown j (by omega) hj) (by rw [hx]; exact fun e => htt e.symm), hx]
              have hfa : fa < m := by have := (HFB.out _ (List.getElem_mem hql)).2; rw [hx] at this; exact this
              have hwl : (fs.take q3).length ≤ 6000 := by rw [List.length_take]; omega
              have hwh : decide ((segF t L).2 = m) = false := by rw [hseg2]; exact decide_eq_false (by show ¬ fa = m; omega)
              have hnI : ((-1 : Int) == (m : Int)) = false := by rw [beq_eq_false_iff_ne]; omega
              clear htt hfa hx hql hg hown hb13
              have hm := HH12.out.mine HB13.out
              have hs' := S12.out.later HB13.out
              rw [hwh] at hs'
              have CSM := same_any wr p (readSt S1 (m : Int)) _ hm (by omega) HT.out.crc s (nameB t 2) t _ hs' (.inl (.inr rfl)) b (by rw [nameB_data]; exact HST.out.look) (fs.take q3) (by show (segF t (S1.file b).now).1 = _; rw [HST.out.file, hseg2]) (by omega)
                (fun x hx => by show readS t (S1.file b).now _ = _ ∧ _ < (S1.file b).now.length ∧ _; rw [HST.out.file]; exact readS_front (by rw [hseg2]; exact hx)) _ (RowS.of_own HGW.out.own) (fun g' hg' => .inr ⟨Nat.le_trans HG13.out.below.size (HGW.out.new_ g' hg'), HGW.out.own.lt hg'⟩)
              have HCS := Lib.hid CSM
              have SS := Lib.hid hs'
              clear CSM hm hs' hwh hseg2
              go_wp2_with fail
              refine HCS.out.mono ?_
              rintro e w14 ⟨rfl, k14, h14, kk14⟩
              have s14 := SS.out.kept (X := fun j => (_ ∨ j = s) ∨ _) (.inl (.inr rfl)) kk14
              have H14 := Lib.hid h14
              have S14 := Lib.hid s14
              clear h14 s14 kk14 HCS
              go_wp2_with fail
              have b15 := laid_below (w := w14) #[.int .i64 2, .int .u32 (t : Int), .int .u64 0, .int .u64 0, .int .u64 0, .string ⟨#[]⟩] 33
              have hrow : RecRow (w14.alloc (.cells #[.int .i64 2, .int .u32 (t : Int), .int .u64 0, .int .u64 0, .int .u64 0, .string ⟨#[]⟩] 33)) (some ⟨w14.heap.size, 0, none⟩) 1 1 (fun i => [(⟨2, t, 0, 0, 0, ⟨#[]⟩⟩ : Rec)].getD i zeroRec) :=
                recs_cells (l := [⟨2, t, 0, 0, 0, ⟨#[]⟩⟩]) (t := 33) (fr := (0, 0)) (heap_alloc_new w14 _) (fun r hr => by rw [List.mem_singleton.1 hr]; exact ⟨by show -9223372036854775808 ≤ (2 : Int) ∧ (2 : Int) ≤ _; omega, ht, by show 0 ≤ maxLen; omega⟩) (by simp)
              have hall2 := (allOf_list t [⟨2, t, 0, 0, 0, ⟨#[]⟩⟩]).2 ⟨by simp, fun r hr => by rw [List.mem_singleton.1 hr]; exact kpart_of t⟩
              have h15 := Held.later H14.out b15
              have CA := append_corrupt (w14.alloc (.cells #[.int .i64 2, .int .u32 (t : Int), .int .u64 0, .int .u64 0, .int .u64 0, .string ⟨#[]⟩] 33)) s p (nameB t 2) t (S14.out.later b15) (some ⟨w14.heap.size, 0, none⟩) 1 1 _ hrow hall2
              have HCA := Lib.hid CA
              have B14 := Lib.hid h15.below
              clear CA h15 hrow hall2 b15
              refine HCA.out.mono ?_
              rintro e w15 ⟨rfl, b16⟩
              have B15 := Lib.hid (B14.out.trans (b16.mono B14.out.size))
              clear b16 HCA
              go_wp2_with fail
              go_ret
              exact ⟨rfl, B15.out⟩
          · have hqI2 : ¬ (q3 : Int) < (M : Int) := by omega
            have hall : ownOf t fs en = (fs, en) := ownOf_all fun x hx => by
              obtain ⟨j, hj, rfl⟩ := List.getElem_of_mem hx
              exact hown j hj (by have := HMM.out; omega)
            have e1 : fs.take q3 = fs := List.take_of_length_le (by rw [HMM.out]; omega)
            have hseg2 : segF t L = (fs.take q3, en) := by rw [HSEG.out, hall, e1]
            have hwl : (fs.take q3).length ≤ 6000 := by rw [List.length_take]; omega
            clear hall hg hown hb13 e1
            by_cases hen : en = m
            · have hwh : decide ((segF t L).2 = m) = true := by rw [hseg2]; exact decide_eq_true hen
              have hnI : ((en : Int) == (m : Int)) = true := by rw [beq_iff_eq]; omega
              clear hen
              have hm := HH12.out.mine HB13.out
              have hs' := S12.out.later HB13.out
              rw [hwh] at hs'
              have CSM := same_any wr p (readSt S1 (m : Int)) _ hm (by omega) HT.out.crc s (nameB t 2) t _ hs' (.inl (.inr rfl)) b (by rw [nameB_data]; exact HST.out.look) (fs.take q3) (by show (segF t (S1.file b).now).1 = _; rw [HST.out.file, hseg2]) (by omega)
                (fun x hx => by show readS t (S1.file b).now _ = _ ∧ _ < (S1.file b).now.length ∧ _; rw [HST.out.file]; exact readS_front (by rw [hseg2]; exact hx)) _ (RowS.of_own HGW.out.own) (fun g' hg' => .inr ⟨Nat.le_trans HG13.out.below.size (HGW.out.new_ g' hg'), HGW.out.own.lt hg'⟩)
              have HCS := Lib.hid CSM
              have SS := Lib.hid hs'
              clear CSM hm hs' hwh hseg2
              go_wp2_with fail
              refine HCS.out.mono ?_
              rintro e w14 ⟨rfl, k14, h14, kk14⟩
              have s14 := SS.out.kept (X := fun j => (_ ∨ j = s) ∨ _) (.inl (.inr rfl)) kk14
              have H14 := Lib.hid h14
              have S14 := Lib.hid s14
              clear h14 s14 kk14 HCS
              go_wp2_with fail
              have b15 := laid_below (w := w14) #[.int .i64 2, .int .u32 (t : Int), .int .u64 0, .int .u64 0, .int .u64 0, .string ⟨#[]⟩] 33
              have hrow : RecRow (w14.alloc (.cells #[.int .i64 2, .int .u32 (t : Int), .int .u64 0, .int .u64 0, .int .u64 0, .string ⟨#[]⟩] 33)) (some ⟨w14.heap.size, 0, none⟩) 1 1 (fun i => [(⟨2, t, 0, 0, 0, ⟨#[]⟩⟩ : Rec)].getD i zeroRec) :=
                recs_cells (l := [⟨2, t, 0, 0, 0, ⟨#[]⟩⟩]) (t := 33) (fr := (0, 0)) (heap_alloc_new w14 _) (fun r hr => by rw [List.mem_singleton.1 hr]; exact ⟨by show -9223372036854775808 ≤ (2 : Int) ∧ (2 : Int) ≤ _; omega, ht, by show 0 ≤ maxLen; omega⟩) (by simp)
              have hall2 := (allOf_list t [⟨2, t, 0, 0, 0, ⟨#[]⟩⟩]).2 ⟨by simp, fun r hr => by rw [List.mem_singleton.1 hr]; exact kpart_of t⟩
              have h15 := Held.later H14.out b15
              have CA := append_any (w14.alloc (.cells #[.int .i64 2, .int .u32 (t : Int), .int .u64 0, .int .u64 0, .int .u64 0, .string ⟨#[]⟩] 33)) p _ _ h15 (by omega) HT.out.crc s (nameB t 2) t (S14.out.later b15) (.inl (.inr rfl)) b (by rw [nameB_data]; exact HST.out.look) (some ⟨w14.heap.size, 0, none⟩) 1 1 _ hrow hall2 (by omega)
              have hwr : (((readSt (readSt S1 (m : Int)) k14)).write (nameB t 2).data.toList ((((readSt (readSt S1 (m : Int)) k14).file b).now.length : Nat) : Int) (encs (recsTo (fun i => [(⟨2, t, 0, 0, 0, ⟨#[]⟩⟩ : Rec)].getD i zeroRec) 1))).1 = 0 := by
                rw [readSt_add]
                show ((readSt S1 _).write _ (((S1.file b).now.length : Nat) : Int) _).1 = 0
                rw [HST.out.file]
                exact HST.out.write _ _ (Nat.le_trans (encs_len _) (by rw [recsTo_length]; omega))
              have HCA := Lib.hid CA
              have HWR := Lib.hid hwr
              clear CA hwr h15 hrow hall2 b15
              refine HCA.out.mono ?_
              rintro e w15 (⟨_, v15, rfl, _, _, h15, _⟩ | ⟨h1, _⟩)
              · have B15 := Lib.hid h15.below
                clear h15 HCA
                go_wp2_with fail
                go_ret
                exact ⟨rfl, B15.out⟩
              · exact absurd HWR.out h1
            · have hwh : decide ((segF t L).2 = m) = false := by rw [hseg2]; exact decide_eq_false hen
              have hnI : ((en : Int) == (m : Int)) = false := by rw [beq_eq_false_iff_ne]; omega
              clear hen
              have hm := HH12.out.mine HB13.out
              have hs' := S12.out.later HB13.out
              rw [hwh] at hs'
              have CSM := same_any wr p (readSt S1 (m : Int)) _ hm (by omega) HT.out.crc s (nameB t 2) t _ hs' (.inl (.inr rfl)) b (by rw [nameB_data]; exact HST.out.look) (fs.take q3) (by show (segF t (S1.file b).now).1 = _; rw [HST.out.file, hseg2]) (by omega)
                (fun x hx => by show readS t (S1.file b).now _ = _ ∧ _ < (S1.file b).now.length ∧ _; rw [HST.out.file]; exact readS_front (by rw [hseg2]; exact hx)) _ (RowS.of_own HGW.out.own) (fun g' hg' => .inr ⟨Nat.le_trans HG13.out.below.size (HGW.out.new_ g' hg'), HGW.out.own.lt hg'⟩)
              have HCS := Lib.hid CSM
              have SS := Lib.hid hs'
              clear CSM hm hs' hwh hseg2
              go_wp2_with fail
              refine HCS.out.mono ?_
              rintro e w14 ⟨rfl, k14, h14, kk14⟩
              have s14 := SS.out.kept (X := fun j => (_ ∨ j = s) ∨ _) (.inl (.inr rfl)) kk14
              have H14 := Lib.hid h14
              have S14 := Lib.hid s14
              clear h14 s14 kk14 HCS
              go_wp2_with fail
              have b15 := laid_below (w := w14) #[.int .i64 2, .int .u32 (t : Int), .int .u64 0, .int .u64 0, .int .u64 0, .string ⟨#[]⟩] 33
              have hrow : RecRow (w14.alloc (.cells #[.int .i64 2, .int .u32 (t : Int), .int .u64 0, .int .u64 0, .int .u64 0, .string ⟨#[]⟩] 33)) (some ⟨w14.heap.size, 0, none⟩) 1 1 (fun i => [(⟨2, t, 0, 0, 0, ⟨#[]⟩⟩ : Rec)].getD i zeroRec) :=
                recs_cells (l := [⟨2, t, 0, 0, 0, ⟨#[]⟩⟩]) (t := 33) (fr := (0, 0)) (heap_alloc_new w14 _) (fun r hr => by rw [List.mem_singleton.1 hr]; exact ⟨by show -9223372036854775808 ≤ (2 : Int) ∧ (2 : Int) ≤ _; omega, ht, by show 0 ≤ maxLen; omega⟩) (by simp)
              have hall2 := (allOf_list t [⟨2, t, 0, 0, 0, ⟨#[]⟩⟩]).2 ⟨by simp, fun r hr => by rw [List.mem_singleton.1 hr]; exact kpart_of t⟩
              have h15 := Held.later H14.out b15
              have CA := append_corrupt (w14.alloc (.cells #[.int .i64 2, .int .u32 (t : Int), .int .u64 0, .int .u64 0, .int .u64 0, .string ⟨#[]⟩] 33)) s p (nameB t 2) t (S14.out.later b15) (some ⟨w14.heap.size, 0, none⟩) 1 1 _ hrow hall2
              have HCA := Lib.hid CA
              have B14 := Lib.hid h15.below
              clear CA h15 hrow hall2 b15
              refine HCA.out.mono ?_
              rintro e w15 ⟨rfl, b16⟩
              have B15 := Lib.hid (B14.out.trans (b16.mono B14.out.size))
              clear b16 HCA
              go_wp2_with fail
              go_ret
              exact ⟨rfl, B15.out⟩
end Go.Proofs.YtcmboifkfeeocaaDoor.scan
