/-
  THE WALK OF 'stillroomlaw9.SlotsMake' (P9.1).
-/
import Derived.Test.YtdonblfidohncaaGreatDoorSlCrashW
import Derived.Deep.DeepCutAuto
import Derived.Deep.RegionLaw
namespace Go.Proofs.YtdonblfidohncaaGreatDoor.slots
open Go.RowKit Go.Proofs.YtdonblfidohncaaGreatDoor.disk Go.Proofs.YtdonblfidohncaaGreatDoor.recd Go.Proofs.YtdonblfidohncaaGreatDoor.num
set_option linter.unusedVariables false

/-- Mixed, of any two disks in a law's hand, the second a crash's of the first. -/
theorem mix_two {w : World} {X : Nat → Prop} {w7 w8 : World} {p n p2 n2 : Nat} {S1 S2 : St} (h7 : Held w X w7 p S1 n) (h8 : Held w7 (fun _ => False) w8 p2 S2 n2) (h1 : S1.now.length ≤ 1) (h1' : (S1.leftDir 0).length ≤ 1) (h2 : S2.now.length ≤ 1) (hn : n ≤ 10000) (hn2 : n2 ≤ 30000) :
    Calls Tryz.prog 15 #[.pointer (some ⟨p, 0, none⟩), .pointer (some ⟨p2, 0, none⟩)] w8 fun e w' => ∃ r, e = .returned (.bool r) ∧ (∃ k2 n5, n5 ≤ 100000 ∧ Held w (fun k => k < w7.heap.size) w' p2 (scan.readSt S2 k2) n5) := by
  have hb78 := h8.below
  have d1 : Disk (Free w.heap.size X w7) w8 p S1 n := h7.disk.later hb78
  refine (scan.mixed_any w8 p S1 n p2 S2 n2 d1 h8.disk (fun k hk => Nat.lt_of_lt_of_le hk.2.1 hb78.size) (fun k hk => hk.2.1) (fun k hk hk2 => by have := hk.1; have := hk2.2.1; omega) 1 4194304 h1 h1' (fun z hz => (h8.disk.fit (h8.disk.ok.inow _ hz)).most) (by have : S2.now.length * ((4194304 + 2) * 1) ≤ 1 * 4194306 := Nat.mul_le_mul h2 (by omega); omega) (by omega) (by omega)).mono ?_
  rintro e w9 ⟨r, rfl, _, ⟨k2, hd⟩, ht⟩
  refine ⟨r, rfl, k2, _, ?_, ⟨hd.mono fun k hk hR => ⟨?_, hk, fun hlt => ?_⟩, ?_, fun k hk => ?_⟩⟩
  · omega
  · have := hR.1; have := h7.below.size; omega
  · have := hR.1; omega
  · refine (h7.below.trans (hb78.mono h7.below.size)).trans (ht.below (fun k hk => ?_) (Nat.le_trans h7.below.size hb78.size))
    rcases hk with hk | hk
    · exact hk.1
    · have := hk.1; have := h7.below.size; omega
  · have := ht.size; have := hb78.size; omega
set_option maxRecDepth 100000 in
set_option maxHeartbeats 8000000 in
theorem slotsmake_in (w : World) (hT : crc.Tab w) (fl n : Int) (hfl : fl ≤ 9223372036854775807) (ka : Option Addr) (kn0 kn kc : Nat) (keep : List Bool) (hk : Bools w ka kn keep)
    (hcut : (140 < kn0 ∧ kn = 140 ∧ ∀ w', (Instr.slice 24 (.slice ka kn0 kc) none (some (.int .i64 140)) none).run Tryz.prog w' = .ok (.slice ka 140 kc) w') ∨ (kn0 ≤ 140 ∧ kn = kn0)) (torn : Int) {a1 : Option Addr} {len1 cap1 : Nat} {l1 : List Int} (hr1 : Row w a1 len1 cap1 l1) :
    Calls Tryz.prog 5 #[.int .i64 fl, .int .i64 n, .slice ka kn0 kc, .int .i64 torn, .slice a1 len1 cap1] w fun e w' => e = .returned (.bool true) ∧ Below w.heap.size w w' := by
  have HT := Lib.hid hT
  have CB := Lib.hid (begun9 w hT)
  have HK := Lib.hid hk
  have S1 := fun w1 => short_any a1 len1 cap1 200 w1 hr1.le hr1.nil (by omega)
  have r1 := hr1.short 200
  obtain ⟨m, hm⟩ : ∃ m, min len1 200 = m := ⟨_, rfl⟩
  rw [hm] at S1 r1
  obtain ⟨l, hl⟩ : ∃ t, l1.take 200 = t := ⟨_, rfl⟩
  rw [hl] at r1
  have q1 : m ≤ 200 := by omega
  have c1 := r1.le
  have HS1 := Lib.hid S1
  have R1 := Lib.hid r1
  clear hT hk S1 r1 hm hl hr1
  go_enter Tryz.func5, Tryz.ntmps5
  go_wp2_with fail
  refine CB.out.mono ?_
  rintro e w1 ⟨rfl, b1⟩
  have B1 := Lib.hid b1
  clear b1 CB
  go_wp2_with fail
  refine (HS1.out w1).mono ?_
  rintro e w2 ⟨rfl, rfl⟩
  clear HS1
  rcases hcut with ⟨hk1, rfl, hsl⟩ | ⟨hk1, rfl⟩
  · have hgt : (140 : Int) < (kn0 : Int) := by omega
    go_wp2_with fail
    refine (new_any w1 100000).mono ?_
    rintro e w2 ho
    obtain ⟨p, rfl, h2, _⟩ := held_new (W := w) (X := fun _ => False) (fun _ e => e.elim) B1.out ho
    have C2 := Lib.hid (held_fail h2 fl hfl)
    clear ho h2
    go_wp2_with fail
    refine C2.out.mono ?_
    rintro e w3 ⟨rfl, h3, _⟩
    have h3 : Held w (fun _ => False) w3 p (start (max fl (-1))) 0 := h3
    have C3 := Lib.hid (make_any w3 p (max fl (-1)) h3 HT.out a1 m cap1 l (R1.out.bytes.later h3.below) R1.out.byte R1.out.length (by omega) (fun e => (R1.out.nil e).2) (piece_far R1.out))
    obtain ⟨Z, hZ⟩ : ∃ Z, splice (List.replicate 8192 0) 0 (slotE 1 l) = Z := ⟨_, rfl⟩
    have hkp := keeps_first (x := l) (by rw [R1.out.length]; omega) R1.out.byte
    rw [hZ] at C3 hkp
    have HKP := Lib.hid hkp
    clear h3 hZ hkp C2
    go_wp2_with fail
    refine C3.out.mono ?_
    rintro e w4 ⟨_, S', ⟨s, tv, b, rfl, sl⟩ | ⟨rfl, _, h4, hleft⟩⟩
    · have SL := Lib.hid sl
      have C4 := Lib.hid (sl.held.crash (by omega) n ka 140 kc keep (HK.out.turned (R := fun _ => False) (Turn.of_below sl.held.below) (fun _ _ _ _ e => e)) torn)
      clear sl C3
      go_wp2_with fail
      refine C4.out.mono ?_
      rintro e w8 ⟨p2, S3, rfl, h8, hs8, hb8⟩
      obtain ⟨b', lo8⟩ := SL.out.lone.crash hs8 hb8
      have hzz : leftL ⟨Z, Z, []⟩ keep torn = Z := rfl
      rw [hzz] at lo8
      have CM := Lib.hid (mix_two SL.out.held h8 (by rw [SL.out.lone.now]; exact Nat.le_refl 1) (by rw [St.leftDir_none SL.out.lone.wait (by rw [SL.out.lone.synced, SL.out.lone.now]), SL.out.lone.now]; exact Nat.le_refl 1) (by rw [lo8.now]; exact Nat.le_refl 1) (by omega) (by omega))
      have LO8 := Lib.hid lo8
      clear h8 hs8 hb8 lo8 C4
      go_wp2_with fail
      refine CM.out.mono ?_
      rintro e w9 ⟨r, rfl, k2, n5, hn5, h9⟩
      have H9 := Lib.hid h9
      clear h9 CM
      cases r with
      | true =>
        have B9 := Lib.hid H9.out.below
        go_wp2_with fail
        go_ret
        exact ⟨rfl, B9.out⟩
      | false =>
        have CO := open_any w9 p2 (scan.readSt S3 k2) n5 H9.out (by omega) HT.out aB aB_fit b' LO8.out.look Z (by show (S3.file b').now = Z; rw [LO8.out.file]) HKP.out.1.len
        rw [openD_of HKP.out.1 HKP.out.2] at CO
        have CO := Lib.hid CO
        clear HKP LO8
        go_wp2_with fail
        refine (CO.out).mono ?_
        rintro e w10 ⟨s9, tv9, rfl, sa9, h10, _, _, _, _⟩
        have B10 := Lib.hid h10.below
        have CT9 : Hid (∀ W, Below w10.heap.size w10 W → Calls Tryz.prog 25 #[.pointer (some ⟨s9, 0, none⟩)] W (Made W l)) := fun W hb => text_any (sa9.later hb)
        obtain ⟨sq, hsq⟩ : ∃ sq, disk.str l = sq := ⟨_, rfl⟩
        have RA : ∀ W, Below w10.heap.size w10 W → (convert 57 9 (.slice a1 m cap1)).run Tryz.prog W = .ok (.string sq) W := fun W hb => by
          have := disk.run_str (R1.out.bytes.later (B10.out.trans (hb.mono B10.out.size))) R1.out.byte cap1
          rw [R1.out.length, hsq] at this
          exact this
        have b10 : Below w10.heap.size w10 w10.drew := below_draws (Below.refl w10.heap.size w10) 1
        have ra0 := RA _ b10
        have HRA := Lib.hid RA
        have HSQ := Lib.hid hsq
        clear sa9 h10 CO RA hsq
        go_upto_region 18 with fail
        go_region_law (first
          | (go_simp
             go_at_call 25
             refine (CT9.out _ b10).mono ?_
             rintro e w11 ⟨v7, rfl, o7, n7, b7⟩
             obtain ⟨a7, cp7, rfl, _, _, _, l7, _⟩ := o7.form
             rw [R1.out.length]
             have rs7 : (convert 57 9 (.slice a7 m cp7)).run Tryz.prog w11 = .ok (.string sq) w11 := by
               have := disk.run_str l7 R1.out.byte cp7
               rw [R1.out.length, HSQ.out] at this
               exact this
             have c7 : Below w10.heap.size w10 w11 := b10.trans (b7.mono b10.size)
             have ra7 := HRA.out _ c7
             have B11 := Lib.hid (B10.out.trans (c7.mono B10.out.size))
             clear o7 n7 b7 l7))
        all_goals
          go_wp2_with fail
          go_ret
          exact ⟨rfl, B11.out⟩
    · have H4 := Lib.hid h4
      have C4 := Lib.hid (h4.crash (by omega) n ka 140 kc keep (HK.out.turned (R := fun _ => False) (Turn.of_below h4.below) (fun _ _ _ _ e => e)) torn)
      have HLF := Lib.hid hleft
      clear h4 hleft C3
      go_wp2_with fail
      refine C4.out.mono ?_
      rintro e w8 ⟨p2, S3, rfl, h8, hs8, hb8⟩
      have hlf := HLF.out.2 _ _ _ _ hb8
      have hnl : S3.now.length ≤ 1 := by
        have e1 := congrArg List.length hb8.names
        rw [List.length_map, List.length_map] at e1
        rw [e1]
        exact HLF.out.1.2 _
      have CM := Lib.hid (mix_two H4.out h8 HLF.out.1.1 (HLF.out.1.2 0) hnl (by omega) (by omega))
      clear h8 hs8 hb8 hnl C4 HLF
      rcases hlf with hno | ⟨b', hn6, hf6⟩
      · have HNO := Lib.hid hno
        clear hno
        go_wp2_with fail
        refine CM.out.mono ?_
        rintro e w9 ⟨r, rfl, k2, n5, hn5, h9⟩
        have H9 := Lib.hid h9
        clear h9 CM
        cases r with
        | true =>
          have B9 := Lib.hid H9.out.below
          go_wp2_with fail
          go_ret
          exact ⟨rfl, B9.out⟩
        | false =>
          have CN := Lib.hid (open_none w9 p2 (scan.readSt S3 k2) n5 H9.out aB aB_fit HNO.out)
          have B9 := Lib.hid H9.out.below
          go_wp2_with fail
          refine CN.out.mono ?_
          rintro e w10 ⟨rfl, rfl⟩
          go_wp2_with fail
          go_ret
          exact ⟨rfl, B9.out⟩
      · have HN6 := Lib.hid hn6
        have HF6 := Lib.hid hf6
        clear hn6 hf6
        go_wp2_with fail
        refine CM.out.mono ?_
        rintro e w9 ⟨r, rfl, k2, n5, hn5, h9⟩
        have H9 := Lib.hid h9
        clear h9 CM
        cases r with
        | true =>
          have B9 := Lib.hid H9.out.below
          go_wp2_with fail
          go_ret
          exact ⟨rfl, B9.out⟩
        | false =>
          have hlk : dlook aN S3.now = some b' := by rw [HN6.out]; exact One.look (room := 0) (A := ⟨[], [], []⟩) (sy := []) (wa := []) (f := 0) (c := 0) (r := 0)
          have CO := open_any w9 p2 (scan.readSt S3 k2) n5 H9.out (by omega) HT.out aB aB_fit b' hlk Z (by show (S3.file b').now = Z; rw [HF6.out]) HKP.out.1.len
          rw [openD_of HKP.out.1 HKP.out.2] at CO
          have CO := Lib.hid CO
          clear HKP hlk
          go_wp2_with fail
          refine (CO.out).mono ?_
          rintro e w10 ⟨s9, tv9, rfl, sa9, h10, _, _, _, _⟩
          have B10 := Lib.hid h10.below
          have CT9 : Hid (∀ W, Below w10.heap.size w10 W → Calls Tryz.prog 25 #[.pointer (some ⟨s9, 0, none⟩)] W (Made W l)) := fun W hb => text_any (sa9.later hb)
          obtain ⟨sq, hsq⟩ : ∃ sq, disk.str l = sq := ⟨_, rfl⟩
          have RA : ∀ W, Below w10.heap.size w10 W → (convert 57 9 (.slice a1 m cap1)).run Tryz.prog W = .ok (.string sq) W := fun W hb => by
            have := disk.run_str (R1.out.bytes.later (B10.out.trans (hb.mono B10.out.size))) R1.out.byte cap1
            rw [R1.out.length, hsq] at this
            exact this
          have b10 : Below w10.heap.size w10 w10.drew := below_draws (Below.refl w10.heap.size w10) 1
          have ra0 := RA _ b10
          have HRA := Lib.hid RA
          have HSQ := Lib.hid hsq
          clear sa9 h10 CO RA hsq
          go_upto_region 18 with fail
          go_region_law (first
            | (go_simp
               go_at_call 25
               refine (CT9.out _ b10).mono ?_
               rintro e w11 ⟨v7, rfl, o7, n7, b7⟩
               obtain ⟨a7, cp7, rfl, _, _, _, l7, _⟩ := o7.form
               rw [R1.out.length]
               have rs7 : (convert 57 9 (.slice a7 m cp7)).run Tryz.prog w11 = .ok (.string sq) w11 := by
                 have := disk.run_str l7 R1.out.byte cp7
                 rw [R1.out.length, HSQ.out] at this
                 exact this
               have c7 : Below w10.heap.size w10 w11 := b10.trans (b7.mono b10.size)
               have ra7 := HRA.out _ c7
               have B11 := Lib.hid (B10.out.trans (c7.mono B10.out.size))
               clear o7 n7 b7 l7))
          all_goals
            go_wp2_with fail
            go_ret
            exact ⟨rfl, B11.out⟩
  · have hgt : ¬ (140 : Int) < (kn : Int) := by omega
    go_wp2_with fail
    refine (new_any w1 100000).mono ?_
    rintro e w2 ho
    obtain ⟨p, rfl, h2, _⟩ := held_new (W := w) (X := fun _ => False) (fun _ e => e.elim) B1.out ho
    have C2 := Lib.hid (held_fail h2 fl hfl)
    clear ho h2
    go_wp2_with fail
    refine C2.out.mono ?_
    rintro e w3 ⟨rfl, h3, _⟩
    have h3 : Held w (fun _ => False) w3 p (start (max fl (-1))) 0 := h3
    have C3 := Lib.hid (make_any w3 p (max fl (-1)) h3 HT.out a1 m cap1 l (R1.out.bytes.later h3.below) R1.out.byte R1.out.length (by omega) (fun e => (R1.out.nil e).2) (piece_far R1.out))
    obtain ⟨Z, hZ⟩ : ∃ Z, splice (List.replicate 8192 0) 0 (slotE 1 l) = Z := ⟨_, rfl⟩
    have hkp := keeps_first (x := l) (by rw [R1.out.length]; omega) R1.out.byte
    rw [hZ] at C3 hkp
    have HKP := Lib.hid hkp
    clear h3 hZ hkp C2
    go_wp2_with fail
    refine C3.out.mono ?_
    rintro e w4 ⟨_, S', ⟨s, tv, b, rfl, sl⟩ | ⟨rfl, _, h4, hleft⟩⟩
    · have SL := Lib.hid sl
      have C4 := Lib.hid (sl.held.crash (by omega) n ka kn kc keep (HK.out.turned (R := fun _ => False) (Turn.of_below sl.held.below) (fun _ _ _ _ e => e)) torn)
      clear sl C3
      go_wp2_with fail
      refine C4.out.mono ?_
      rintro e w8 ⟨p2, S3, rfl, h8, hs8, hb8⟩
      obtain ⟨b', lo8⟩ := SL.out.lone.crash hs8 hb8
      have hzz : leftL ⟨Z, Z, []⟩ keep torn = Z := rfl
      rw [hzz] at lo8
      have CM := Lib.hid (mix_two SL.out.held h8 (by rw [SL.out.lone.now]; exact Nat.le_refl 1) (by rw [St.leftDir_none SL.out.lone.wait (by rw [SL.out.lone.synced, SL.out.lone.now]), SL.out.lone.now]; exact Nat.le_refl 1) (by rw [lo8.now]; exact Nat.le_refl 1) (by omega) (by omega))
      have LO8 := Lib.hid lo8
      clear h8 hs8 hb8 lo8 C4
      go_wp2_with fail
      refine CM.out.mono ?_
      rintro e w9 ⟨r, rfl, k2, n5, hn5, h9⟩
      have H9 := Lib.hid h9
      clear h9 CM
      cases r with
      | true =>
        have B9 := Lib.hid H9.out.below
        go_wp2_with fail
        go_ret
        exact ⟨rfl, B9.out⟩
      | false =>
        have CO := open_any w9 p2 (scan.readSt S3 k2) n5 H9.out (by omega) HT.out aB aB_fit b' LO8.out.look Z (by show (S3.file b').now = Z; rw [LO8.out.file]) HKP.out.1.len
        rw [openD_of HKP.out.1 HKP.out.2] at CO
        have CO := Lib.hid CO
        clear HKP LO8
        go_wp2_with fail
        refine (CO.out).mono ?_
        rintro e w10 ⟨s9, tv9, rfl, sa9, h10, _, _, _, _⟩
        have B10 := Lib.hid h10.below
        have CT9 : Hid (∀ W, Below w10.heap.size w10 W → Calls Tryz.prog 25 #[.pointer (some ⟨s9, 0, none⟩)] W (Made W l)) := fun W hb => text_any (sa9.later hb)
        obtain ⟨sq, hsq⟩ : ∃ sq, disk.str l = sq := ⟨_, rfl⟩
        have RA : ∀ W, Below w10.heap.size w10 W → (convert 57 9 (.slice a1 m cap1)).run Tryz.prog W = .ok (.string sq) W := fun W hb => by
          have := disk.run_str (R1.out.bytes.later (B10.out.trans (hb.mono B10.out.size))) R1.out.byte cap1
          rw [R1.out.length, hsq] at this
          exact this
        have b10 : Below w10.heap.size w10 w10.drew := below_draws (Below.refl w10.heap.size w10) 1
        have ra0 := RA _ b10
        have HRA := Lib.hid RA
        have HSQ := Lib.hid hsq
        clear sa9 h10 CO RA hsq
        go_upto_region 18 with fail
        go_region_law (first
          | (go_simp
             go_at_call 25
             refine (CT9.out _ b10).mono ?_
             rintro e w11 ⟨v7, rfl, o7, n7, b7⟩
             obtain ⟨a7, cp7, rfl, _, _, _, l7, _⟩ := o7.form
             rw [R1.out.length]
             have rs7 : (convert 57 9 (.slice a7 m cp7)).run Tryz.prog w11 = .ok (.string sq) w11 := by
               have := disk.run_str l7 R1.out.byte cp7
               rw [R1.out.length, HSQ.out] at this
               exact this
             have c7 : Below w10.heap.size w10 w11 := b10.trans (b7.mono b10.size)
             have ra7 := HRA.out _ c7
             have B11 := Lib.hid (B10.out.trans (c7.mono B10.out.size))
             clear o7 n7 b7 l7))
        all_goals
          go_wp2_with fail
          go_ret
          exact ⟨rfl, B11.out⟩
    · have H4 := Lib.hid h4
      have C4 := Lib.hid (h4.crash (by omega) n ka kn kc keep (HK.out.turned (R := fun _ => False) (Turn.of_below h4.below) (fun _ _ _ _ e => e)) torn)
      have HLF := Lib.hid hleft
      clear h4 hleft C3
      go_wp2_with fail
      refine C4.out.mono ?_
      rintro e w8 ⟨p2, S3, rfl, h8, hs8, hb8⟩
      have hlf := HLF.out.2 _ _ _ _ hb8
      have hnl : S3.now.length ≤ 1 := by
        have e1 := congrArg List.length hb8.names
        rw [List.length_map, List.length_map] at e1
        rw [e1]
        exact HLF.out.1.2 _
      have CM := Lib.hid (mix_two H4.out h8 HLF.out.1.1 (HLF.out.1.2 0) hnl (by omega) (by omega))
      clear h8 hs8 hb8 hnl C4 HLF
      rcases hlf with hno | ⟨b', hn6, hf6⟩
      · have HNO := Lib.hid hno
        clear hno
        go_wp2_with fail
        refine CM.out.mono ?_
        rintro e w9 ⟨r, rfl, k2, n5, hn5, h9⟩
        have H9 := Lib.hid h9
        clear h9 CM
        cases r with
        | true =>
          have B9 := Lib.hid H9.out.below
          go_wp2_with fail
          go_ret
          exact ⟨rfl, B9.out⟩
        | false =>
          have CN := Lib.hid (open_none w9 p2 (scan.readSt S3 k2) n5 H9.out aB aB_fit HNO.out)
          have B9 := Lib.hid H9.out.below
          go_wp2_with fail
          refine CN.out.mono ?_
          rintro e w10 ⟨rfl, rfl⟩
          go_wp2_with fail
          go_ret
          exact ⟨rfl, B9.out⟩
      · have HN6 := Lib.hid hn6
        have HF6 := Lib.hid hf6
        clear hn6 hf6
        go_wp2_with fail
        refine CM.out.mono ?_
        rintro e w9 ⟨r, rfl, k2, n5, hn5, h9⟩
        have H9 := Lib.hid h9
        clear h9 CM
        cases r with
        | true =>
          have B9 := Lib.hid H9.out.below
          go_wp2_with fail
          go_ret
          exact ⟨rfl, B9.out⟩
        | false =>
          have hlk : dlook aN S3.now = some b' := by rw [HN6.out]; exact One.look (room := 0) (A := ⟨[], [], []⟩) (sy := []) (wa := []) (f := 0) (c := 0) (r := 0)
          have CO := open_any w9 p2 (scan.readSt S3 k2) n5 H9.out (by omega) HT.out aB aB_fit b' hlk Z (by show (S3.file b').now = Z; rw [HF6.out]) HKP.out.1.len
          rw [openD_of HKP.out.1 HKP.out.2] at CO
          have CO := Lib.hid CO
          clear HKP hlk
          go_wp2_with fail
          refine (CO.out).mono ?_
          rintro e w10 ⟨s9, tv9, rfl, sa9, h10, _, _, _, _⟩
          have B10 := Lib.hid h10.below
          have CT9 : Hid (∀ W, Below w10.heap.size w10 W → Calls Tryz.prog 25 #[.pointer (some ⟨s9, 0, none⟩)] W (Made W l)) := fun W hb => text_any (sa9.later hb)
          obtain ⟨sq, hsq⟩ : ∃ sq, disk.str l = sq := ⟨_, rfl⟩
          have RA : ∀ W, Below w10.heap.size w10 W → (convert 57 9 (.slice a1 m cap1)).run Tryz.prog W = .ok (.string sq) W := fun W hb => by
            have := disk.run_str (R1.out.bytes.later (B10.out.trans (hb.mono B10.out.size))) R1.out.byte cap1
            rw [R1.out.length, hsq] at this
            exact this
          have b10 : Below w10.heap.size w10 w10.drew := below_draws (Below.refl w10.heap.size w10) 1
          have ra0 := RA _ b10
          have HRA := Lib.hid RA
          have HSQ := Lib.hid hsq
          clear sa9 h10 CO RA hsq
          go_upto_region 18 with fail
          go_region_law (first
            | (go_simp
               go_at_call 25
               refine (CT9.out _ b10).mono ?_
               rintro e w11 ⟨v7, rfl, o7, n7, b7⟩
               obtain ⟨a7, cp7, rfl, _, _, _, l7, _⟩ := o7.form
               rw [R1.out.length]
               have rs7 : (convert 57 9 (.slice a7 m cp7)).run Tryz.prog w11 = .ok (.string sq) w11 := by
                 have := disk.run_str l7 R1.out.byte cp7
                 rw [R1.out.length, HSQ.out] at this
                 exact this
               have c7 : Below w10.heap.size w10 w11 := b10.trans (b7.mono b10.size)
               have ra7 := HRA.out _ c7
               have B11 := Lib.hid (B10.out.trans (c7.mono B10.out.size))
               clear o7 n7 b7 l7))
          all_goals
            go_wp2_with fail
            go_ret
            exact ⟨rfl, B11.out⟩

theorem slotsmake (w : World) (hT : crc.Tab w) {fl : Int} (hfl : -9223372036854775808 ≤ fl ∧ fl ≤ 9223372036854775807) {n : Int} (hn : -9223372036854775808 ≤ n ∧ n ≤ 9223372036854775807) {ka : Option Addr} {kn kc : Nat} {keep : List Bool} (hk : BRow w ka kn kc keep) {torn : Int} (htorn : -9223372036854775808 ≤ torn ∧ torn ≤ 9223372036854775807) {a1 : Option Addr} {len1 cap1 : Nat} {l1 : List Int} (hr1 : Row w a1 len1 cap1 l1) :
    Calls Tryz.prog 5 #[.int .i64 fl, .int .i64 n, .slice ka kn kc, .int .i64 torn, .slice a1 len1 cap1] w fun e w' => e = .returned (.bool true) ∧ Below w.heap.size w w' := by
  by_cases hc : 140 < kn
  · obtain ⟨h1, h2⟩ := hk.front 140 hc
    exact slotsmake_in w hT fl n hfl.2 ka kn 140 kc (keep.take 140) h2 (.inl ⟨hc, rfl, h1⟩) torn hr1
  · exact slotsmake_in w hT fl n hfl.2 ka kn kn kc keep hk.bools (.inr ⟨by omega, rfl⟩) torn hr1
end Go.Proofs.YtdonblfidohncaaGreatDoor.slots
