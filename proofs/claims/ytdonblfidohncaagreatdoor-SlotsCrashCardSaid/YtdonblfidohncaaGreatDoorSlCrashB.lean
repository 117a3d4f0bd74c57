/-
  THE WALK OF 'stillroomlaw9.SlotsCrash' (P9.1, K1), the sectors' row as it is.
-/
import Derived.Test.YtdonblfidohncaaGreatDoorSlCrashW
namespace Go.Proofs.YtdonblfidohncaaGreatDoor.slots
open Go.RowKit Go.Proofs.YtdonblfidohncaaGreatDoor.disk Go.Proofs.YtdonblfidohncaaGreatDoor.recd Go.Proofs.YtdonblfidohncaaGreatDoor.num
set_option linter.unusedVariables false

set_option maxRecDepth 100000 in
set_option maxHeartbeats 16000000 in
theorem slotscrash_b (w : World) (hT : crc.Tab w) {a1 : Option Addr} {len1 cap1 : Nat} {ps : Nat → disk.Piece} (hps : disk.RRow w a1 len1 cap1 ps) (fl : Nat) (hfl : fl ≤ 60) (n : Int) (ka : Option Addr) (kn0 kn kc : Nat) (keep : List Bool) (hk : Bools w ka kn keep)
    (hk1 : kn0 ≤ 140) (hk2 : kn = kn0) (torn : Int) :
    Calls Tryz.prog 4 #[.slice a1 len1 cap1, .int .i64 (fl : Int), .int .i64 n, .slice ka kn0 kc, .int .i64 torn] w fun e w' => e = .returned (.bool true) ∧ Below w.heap.size w w' := by
  have HT := Lib.hid hT
  have CB := Lib.hid (begun9 w hT)
  have kc9 := fun (w : World) (C : Array Value) (n c : Nat) => Lib.run_convert_bytes_const (P := Tryz.prog) w 57 5 C n c Tryz.underlying57 Tryz.underlying5
  have HPS := Lib.hid hps
  have HK := Lib.hid hk
  have hm1 := hps.most
  have i1 : ¬ (fl : Int) < 0 := by omega
  have i2 : ¬ (60 : Int) < (fl : Int) := by omega
  clear hT hps hk
  subst hk2
  have hgt : ¬ (140 : Int) < (kn : Int) := by omega
  go_enter Tryz.func4, Tryz.ntmps4
  go_wp2_with fail
  refine CB.out.mono ?_
  rintro e w1 ⟨rfl, b1⟩
  have B1 := Lib.hid b1
  clear b1 CB
  go_wp2_with fail
  refine (new_any w1 100000).mono ?_
  rintro e w2 ho
  obtain ⟨p, rfl, h2, _⟩ := held_new (W := w) (X := fun _ => False) (fun _ e => e.elim) B1.out ho
  obtain ⟨l3, b3⟩ := text_new w2 #[.int .u8 102, .int .u8 105, .int .u8 114, .int .u8 115, .int .u8 116] (5, 6) firstL9 rfl
  have hlt3 := new_lt w2 (.cells #[.int .u8 102, .int .u8 105, .int .u8 114, .int .u8 115, .int .u8 116] 5 (5, 6))
  have h3 : Held w (fun k => k = w2.heap.size) (w2.alloc (.cells #[.int .u8 102, .int .u8 105, .int .u8 114, .int .u8 115, .int .u8 116] 5 (5, 6))) p (start (-1)) 0 := (h2.mine b3).fewer fun k hk => .inr (by subst hk; exact ⟨Nat.le_refl _, hlt3⟩)
  have C2 := Lib.hid ((make_any _ p (-1) h3 HT.out (some ⟨w2.heap.size, 0, none⟩) 5 5 firstL9 l3 firstByte rfl (by omega) (fun e => by cases e) (fun g off e _ => .inl (by injection e with e; injection e with e; exact e.symm))).mono fun e w' => make_one (by decide) firstByte)
  clear ho h2 l3 b3 hlt3 h3
  go_wp2_with fail
  refine C2.out.mono ?_
  rintro e w3 ⟨_, s, tv, b, S', A, rfl, sl3, st3, cl3⟩
  have sl3 := sl3.fewer (E' := fun _ => False) fun j e => e.elim
  have C3 := Lib.hid (held_fail sl3.held (fl : Int) (by omega))
  have SL3 := Lib.hid sl3
  have ST3 := Lib.hid st3
  have CL3 := Lib.hid cl3
  clear sl3 st3 cl3 C2
  go_wp2_with fail
  refine C3.out.mono ?_
  rintro e w4 ⟨rfl, h4, k4⟩
  have ST : Hid (Runs w s p b 0 (.string ⟨#[102, 105, 114, 115, 116]⟩) (.string ⟨#[102, 105, 114, 115, 116]⟩) w4) :=
    ⟨⟨tv, _, _, _, _, A, _, ⟨SL3.out.at_.kept (X := Hold s tv fun _ => False) (.inl (.inl rfl)) (fun g hg => .inl (.inr hg)) k4, h4, SL3.out.lone.failing _, SL3.out.keeps, SL3.out.fresh, SL3.out.free, SL3.out.late⟩, ST3.out, CL3.out, by omega, by rw [str_first], by rw [str_first]⟩⟩
  clear h4 k4 SL3 ST3 CL3 C3
  go_wp2_with fail
  go_loopw [15, 16, 17] (fun nv xv i wr => ∃ (q : Nat), i = .int .i64 (q : Int) ∧ q ≤ 20 ∧ q ≤ len1 ∧ Runs w s p b q nv xv wr) (fun _ _ i _ => ((len1 : Int) - intOf i).toNat)
  case atStart => exact ⟨0, rfl, by omega, by omega, ST.out⟩
  case round =>
    obtain ⟨q, rfl, hq, hql, hR⟩ := hrel
    obtain ⟨⟨tv, x, t, k, S, A, f, sl, st, cl, ht, hnw, hnx⟩⟩ := hR
    subst hnw hnx
    have SL := Lib.hid sl
    have STR := Lib.hid st
    have CL := Lib.hid cl
    clear st cl
    by_cases hlt : q < len1 ∧ q < 20
    · obtain ⟨hl1, hl2⟩ := hlt
      have j1 : (q : Int) < (len1 : Int) := by omega
      have j2 : (q : Int) < 20 := by omega
      obtain ⟨bt, off, rfl, hcs⟩ := HPS.out.cells.resolve_left (by omega)
      have hcw := (sl.held.below.cell (p := ⟨bt, off + q, none⟩) (block_lt_of_cell (hcs q hl1))).trans (hcs q hl1)
      have hrow := HPS.out.rows q hl1
      obtain ⟨⟨qa, ql, qc, qs⟩, hpq⟩ : ∃ y, ps q = y := ⟨_, rfl⟩
      rw [hpq] at hcw hrow
      have cS := Lib.hid (short_any qa ql qc 300 wr hrow.le hrow.nil (by omega))
      obtain ⟨m, hm⟩ : ∃ m, min ql 300 = m := ⟨_, rfl⟩
      have hmm : m ≤ 300 := by omega
      have hr2 := hrow.short 300
      rw [hm] at cS hr2
      obtain ⟨l, hl⟩ : ∃ l, qs.take 300 = l := ⟨_, rfl⟩
      rw [hl] at hr2
      have HR := Lib.hid hr2
      have hmc := hr2.le
      have rs5 : (convert 57 9 (.slice qa m qc)).run Tryz.prog wr = .ok (.string (disk.str l)) wr := by
        have := disk.run_str (hr2.bytes.later sl.held.below) hr2.byte qc
        rw [hr2.length] at this
        exact this
      have C5 := Lib.hid (save_slot sl (by omega) HT.out qa m qc l (hr2.bytes.later sl.held.below) hr2.byte hr2.length (by omega) hmc (fun e => (hr2.nil e).2) (piece_far hr2) (by omega))
      have KE := Lib.hid sl.keeps
      clear sl hcs hrow hr2 hm hl hpq SL
      go_wp2_with fail
      refine cS.out.mono ?_
      rintro e w5 ⟨rfl, rfl⟩
      clear cS
      go_wp2_with fail
      refine C5.out.mono ?_
      rintro e w6 ⟨_, c, tv', x', t', k', S2, A2, f2, rfl, sl6, hc⟩
      have hcase : (c = 3 ∧ x' = x ∧ EndSt A2 k t x l) ∨ (c = 0 ∧ x' = l ∧ t' = t + 1 ∧ Strict A2 k' t' ∧ A2 = ⟨A2.now, A2.now, []⟩) := by
        rcases hc with ⟨_, h1, h3, _, h2, _⟩ | ⟨_, _, h1, h3, h4, _, h2, _⟩ | ⟨_, _, h1, h3, _, h2, h4, h5, h6⟩
        · exact .inl ⟨h1, h2, by rw [h3]; exact EndSt.clean KE.out STR.out CL.out⟩
        · exact .inl ⟨h1, h2, EndSt.written KE.out STR.out CL.out (by rw [HR.out.length]; omega) HR.out.byte (by omega) h3 h4⟩
        · exact .inr ⟨h1, h2, h4, h6, by rw [h3]⟩
      clear hc C5 rs5
      rcases hcase with ⟨rfl, hx', hend⟩ | ⟨rfl, hx', rfl, st6, cl6⟩
      · subst hx'
        have hx1 := sl6.at_.byte
        have CT := Lib.hid (text_any sl6.at_)
        have BX := Lib.hid hx1
        have SL6 := Lib.hid sl6
        have HEND := Lib.hid hend
        clear sl6 hend hx1
        go_wp2_with fail
        refine CT.out.mono ?_
        rintro e w7 ⟨v7, rfl, o7, n7, b7⟩
        obtain ⟨a7, cp7, rfl, _, _, _, l7, _⟩ := o7.form
        have rs7 := disk.run_str l7 BX.out cp7
        have NX := Lib.hid (SL6.out.later b7)
        clear o7 n7 b7 l7 SL6
        have C7 := Lib.hid (NX.out.held.crash (by omega) n ka kn kc keep (HK.out.turned (R := fun _ => False) (Turn.of_below NX.out.held.below) (fun _ _ _ _ e => e)) torn)
        go_wp2_with fail
        refine C7.out.mono ?_
        rintro e w8 ⟨p2, S3, rfl, h8, hs8, hb8⟩
        obtain ⟨b', lo8⟩ := NX.out.lone.crash hs8 hb8
        have hby : Byte (leftL A2 keep torn) := by
          have := (h8.disk.fit (h8.disk.ok.inow _ (dlook_mem lo8.look))).bnow
          rw [lo8.file] at this
          exact this
        have hst := left_stays (slot_stays HEND.out.lold HEND.out.lnow HEND.out.same) keep torn
        have CM := Lib.hid (mix_any NX.out.held NX.out.lone h8 lo8 (by rw [hst.1, HEND.out.lold]; exact Nat.le_refl _) (by omega) (by omega))
        have HBY := Lib.hid hby
        clear h8 hs8 hb8 lo8 hby hst C7
        go_wp2_with fail
        refine CM.out.mono ?_
        rintro e w9 ⟨r, rfl, hr, ⟨S5, n5, hn5, h9, lo9⟩, hk9⟩
        have H9 := Lib.hid h9
        have LO9 := Lib.hid lo9
        have HR9 := Lib.hid hr
        clear h9 lo9 hr hk9 CM
        cases r with
        | true =>
          have B9 := Lib.hid H9.out.below
          go_wp2_with fail
          go_ret
          exact ⟨rfl, B9.out⟩
        | false =>
          obtain ⟨S6, hb6, hok⟩ := HR9.out rfl
          rw [St.leftDir_none NX.out.lone.wait (by rw [NX.out.lone.synced, NX.out.lone.now]), NX.out.lone.now] at hb6
          obtain ⟨b6, hn6, _, hf6⟩ := hb6.one
          rw [NX.out.lone.file, scan.left_none] at hf6
          obtain ⟨hC, t9, y, kk, hod, hyx⟩ := end_told HEND.out NX.out.lone.now (by rw [NX.out.lone.file]) hn6 (by rw [hf6]) keep torn HBY.out hok
          have CO := open_any w9 p2 S5 n5 H9.out (by omega) HT.out aB aB_fit b' LO9.out.look (leftL A2 keep torn) (by rw [LO9.out.file]) hC
          rw [hod] at CO
          have HCO := Lib.hid CO
          have HYX := Lib.hid hyx
          clear hb6 hok hn6 hf6 hod hyx CO HR9
          go_wp2_with fail
          refine HCO.out.mono ?_
          rintro e w10 ⟨s9, tv9, rfl, sa9, h10, _, _, _, _⟩
          have CT1 := Lib.hid (fun W (hb : Below w10.heap.size w10 W) => text_any (sa9.later hb))
          have B10 := Lib.hid h10.below
          have BY := Lib.hid sa9.byte
          clear sa9 h10 HCO
          go_wp2_with fail
          refine (CT1.out w10 (Below.refl _ _)).mono ?_
          rintro e w11 ⟨v11, rfl, o11, n11, b11⟩
          obtain ⟨a11, cp11, rfl, _, _, _, l11, _⟩ := o11.form
          have rs11 := disk.run_str l11 BY.out cp11
          have B11 := Lib.hid b11
          clear o11 n11 b11 l11
          rcases HYX.out with hyx | hyx
          · rw [hyx] at rs11
            have BF := Lib.hid (B10.out.trans (B11.out.mono B10.out.size))
            go_wp2_with fail
            go_ret
            exact ⟨rfl, BF.out⟩
          · rw [hyx] at rs11
            have CT2 := Lib.hid (CT1.out w11 B11.out)
            have BF1 := Lib.hid (B10.out.trans (B11.out.mono B10.out.size))
            by_cases hsx : (disk.str l).toList = (disk.str x').toList
            · go_wp2_with fail
              go_ret
              exact ⟨rfl, BF1.out⟩
            · clear HYX
              go_wp2_with fail
              refine CT2.out.mono ?_
              rintro e w12 ⟨v12, rfl, o12, n12, b12⟩
              obtain ⟨a12, cp12, rfl, _, _, _, l12, _⟩ := o12.form
              have rs12 := disk.run_str l12 BY.out cp12
              rw [hyx] at rs12
              have BF := Lib.hid (BF1.out.trans (b12.mono BF1.out.size))
              clear o12 n12 b12 l12
              go_wp2_with fail
              go_ret
              exact ⟨rfl, BF.out⟩
      · have hx2 := hx'.symm
        subst hx2
        have NX := Lib.hid sl6
        have ST6 := Lib.hid st6
        have CL6 := Lib.hid cl6
        have TB : Hid (t + 1 ≤ 1 + (q + 1)) := by show t + 1 ≤ 1 + (q + 1); omega
        clear sl6 st6 cl6
        go_wp2_with fail
        refine ⟨⟨q + 1, by rw [Int.natCast_add]; rfl, by omega, by omega, ⟨⟨_, _, _, _, _, _, _, NX.out.fewer fun j e => e, ST6.out, CL6.out, TB.out, rfl, rfl⟩⟩⟩, ?_⟩
        show ((len1 : Int) - ((q : Int) + 1)).toNat < ((len1 : Int) - (q : Int)).toNat
        omega
    · have hcond : ¬ ((q : Int) < (len1 : Int)) ∨ ((q : Int) < (len1 : Int) ∧ ¬ ((q : Int) < 20)) := by omega
      clear hlt
      have BX := Lib.hid SL.out.at_.byte
      have NX := SL
      have hend : EndSt A k t x x := EndSt.clean SL.out.keeps STR.out CL.out
      have HEND := Lib.hid hend
      clear sl hend SL
      rcases hcond with hc1 | ⟨hc1, hc2⟩
      · skip
        have C7 := Lib.hid (NX.out.held.crash (by omega) n ka kn kc keep (HK.out.turned (R := fun _ => False) (Turn.of_below NX.out.held.below) (fun _ _ _ _ e => e)) torn)
        go_wp2_with fail
        refine C7.out.mono ?_
        rintro e w8 ⟨p2, S3, rfl, h8, hs8, hb8⟩
        obtain ⟨b', lo8⟩ := NX.out.lone.crash hs8 hb8
        have hby : Byte (leftL A keep torn) := by
          have := (h8.disk.fit (h8.disk.ok.inow _ (dlook_mem lo8.look))).bnow
          rw [lo8.file] at this
          exact this
        have hst := left_stays (slot_stays HEND.out.lold HEND.out.lnow HEND.out.same) keep torn
        have CM := Lib.hid (mix_any NX.out.held NX.out.lone h8 lo8 (by rw [hst.1, HEND.out.lold]; exact Nat.le_refl _) (by omega) (by omega))
        have HBY := Lib.hid hby
        clear h8 hs8 hb8 lo8 hby hst C7
        go_wp2_with fail
        refine CM.out.mono ?_
        rintro e w9 ⟨r, rfl, hr, ⟨S5, n5, hn5, h9, lo9⟩, hk9⟩
        have H9 := Lib.hid h9
        have LO9 := Lib.hid lo9
        have HR9 := Lib.hid hr
        clear h9 lo9 hr hk9 CM
        cases r with
        | true =>
          have B9 := Lib.hid H9.out.below
          go_wp2_with fail
          go_ret
          exact ⟨rfl, B9.out⟩
        | false =>
          obtain ⟨S6, hb6, hok⟩ := HR9.out rfl
          rw [St.leftDir_none NX.out.lone.wait (by rw [NX.out.lone.synced, NX.out.lone.now]), NX.out.lone.now] at hb6
          obtain ⟨b6, hn6, _, hf6⟩ := hb6.one
          rw [NX.out.lone.file, scan.left_none] at hf6
          obtain ⟨hC, t9, y, kk, hod, hyx⟩ := end_told HEND.out NX.out.lone.now (by rw [NX.out.lone.file]) hn6 (by rw [hf6]) keep torn HBY.out hok
          have CO := open_any w9 p2 S5 n5 H9.out (by omega) HT.out aB aB_fit b' LO9.out.look (leftL A keep torn) (by rw [LO9.out.file]) hC
          rw [hod] at CO
          have HCO := Lib.hid CO
          have HYX := Lib.hid hyx
          clear hb6 hok hn6 hf6 hod hyx CO HR9
          go_wp2_with fail
          refine HCO.out.mono ?_
          rintro e w10 ⟨s9, tv9, rfl, sa9, h10, _, _, _, _⟩
          have CT1 := Lib.hid (fun W (hb : Below w10.heap.size w10 W) => text_any (sa9.later hb))
          have B10 := Lib.hid h10.below
          have BY := Lib.hid sa9.byte
          clear sa9 h10 HCO
          go_wp2_with fail
          refine (CT1.out w10 (Below.refl _ _)).mono ?_
          rintro e w11 ⟨v11, rfl, o11, n11, b11⟩
          obtain ⟨a11, cp11, rfl, _, _, _, l11, _⟩ := o11.form
          have rs11 := disk.run_str l11 BY.out cp11
          have B11 := Lib.hid b11
          clear o11 n11 b11 l11
          rcases HYX.out with hyx | hyx
          · rw [hyx] at rs11
            have BF := Lib.hid (B10.out.trans (B11.out.mono B10.out.size))
            go_wp2_with fail
            go_ret
            exact ⟨rfl, BF.out⟩
          · rw [hyx] at rs11
            have BF := Lib.hid (B10.out.trans (B11.out.mono B10.out.size))
            go_wp2_with fail
            go_ret
            exact ⟨rfl, BF.out⟩
      · skip
        have C7 := Lib.hid (NX.out.held.crash (by omega) n ka kn kc keep (HK.out.turned (R := fun _ => False) (Turn.of_below NX.out.held.below) (fun _ _ _ _ e => e)) torn)
        go_wp2_with fail
        refine C7.out.mono ?_
        rintro e w8 ⟨p2, S3, rfl, h8, hs8, hb8⟩
        obtain ⟨b', lo8⟩ := NX.out.lone.crash hs8 hb8
        have hby : Byte (leftL A keep torn) := by
          have := (h8.disk.fit (h8.disk.ok.inow _ (dlook_mem lo8.look))).bnow
          rw [lo8.file] at this
          exact this
        have hst := left_stays (slot_stays HEND.out.lold HEND.out.lnow HEND.out.same) keep torn
        have CM := Lib.hid (mix_any NX.out.held NX.out.lone h8 lo8 (by rw [hst.1, HEND.out.lold]; exact Nat.le_refl _) (by omega) (by omega))
        have HBY := Lib.hid hby
        clear h8 hs8 hb8 lo8 hby hst C7
        go_wp2_with fail
        refine CM.out.mono ?_
        rintro e w9 ⟨r, rfl, hr, ⟨S5, n5, hn5, h9, lo9⟩, hk9⟩
        have H9 := Lib.hid h9
        have LO9 := Lib.hid lo9
        have HR9 := Lib.hid hr
        clear h9 lo9 hr hk9 CM
        cases r with
        | true =>
          have B9 := Lib.hid H9.out.below
          go_wp2_with fail
          go_ret
          exact ⟨rfl, B9.out⟩
        | false =>
          obtain ⟨S6, hb6, hok⟩ := HR9.out rfl
          rw [St.leftDir_none NX.out.lone.wait (by rw [NX.out.lone.synced, NX.out.lone.now]), NX.out.lone.now] at hb6
          obtain ⟨b6, hn6, _, hf6⟩ := hb6.one
          rw [NX.out.lone.file, scan.left_none] at hf6
          obtain ⟨hC, t9, y, kk, hod, hyx⟩ := end_told HEND.out NX.out.lone.now (by rw [NX.out.lone.file]) hn6 (by rw [hf6]) keep torn HBY.out hok
          have CO := open_any w9 p2 S5 n5 H9.out (by omega) HT.out aB aB_fit b' LO9.out.look (leftL A keep torn) (by rw [LO9.out.file]) hC
          rw [hod] at CO
          have HCO := Lib.hid CO
          have HYX := Lib.hid hyx
          clear hb6 hok hn6 hf6 hod hyx CO HR9
          go_wp2_with fail
          refine HCO.out.mono ?_
          rintro e w10 ⟨s9, tv9, rfl, sa9, h10, _, _, _, _⟩
          have CT1 := Lib.hid (fun W (hb : Below w10.heap.size w10 W) => text_any (sa9.later hb))
          have B10 := Lib.hid h10.below
          have BY := Lib.hid sa9.byte
          clear sa9 h10 HCO
          go_wp2_with fail
          refine (CT1.out w10 (Below.refl _ _)).mono ?_
          rintro e w11 ⟨v11, rfl, o11, n11, b11⟩
          obtain ⟨a11, cp11, rfl, _, _, _, l11, _⟩ := o11.form
          have rs11 := disk.run_str l11 BY.out cp11
          have B11 := Lib.hid b11
          clear o11 n11 b11 l11
          rcases HYX.out with hyx | hyx
          · rw [hyx] at rs11
            have BF := Lib.hid (B10.out.trans (B11.out.mono B10.out.size))
            go_wp2_with fail
            go_ret
            exact ⟨rfl, BF.out⟩
          · rw [hyx] at rs11
            have BF := Lib.hid (B10.out.trans (B11.out.mono B10.out.size))
            go_wp2_with fail
            go_ret
            exact ⟨rfl, BF.out⟩
end Go.Proofs.YtdonblfidohncaaGreatDoor.slots
