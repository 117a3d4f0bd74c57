/-
  THE WALK OF 'stillroomlaw9.SlotsAgain' (P9.1).
-/
import Derived.Test.YtdonblfidohncaaDoorSlBeg
import Derived.Test.YtdonblfidohncaaDoorMDkC
namespace Go.Proofs.YtdonblfidohncaaDoor.slots
open Go.RowKit Go.Proofs.YtdonblfidohncaaDoor.disk Go.Proofs.YtdonblfidohncaaDoor.recd Go.Proofs.YtdonblfidohncaaDoor.num
set_option linter.unusedVariables false

def firstL9 : List Int := [102, 105, 114, 115, 116]
def lastL9 : List Int := [108, 97, 115, 116]
theorem firstByte : Byte firstL9 := by intro c hc; simp [firstL9] at hc; rcases hc with rfl | rfl | rfl | rfl | rfl <;> omega
theorem lastByte : Byte lastL9 := by intro c hc; simp [lastL9] at hc; rcases hc with rfl | rfl | rfl | rfl <;> omega
theorem str_first : disk.str firstL9 = ⟨#[102, 105, 114, 115, 116]⟩ := by rfl
theorem str_last : disk.str lastL9 = ⟨#[108, 97, 115, 116]⟩ := by rfl
theorem run_maxl (w : World) (a : Int) : (Builtin.max_ #[3, 3] 3 #[.int .i64 (-1), .int .i64 a]).run Tryd.prog w = .ok (.int .i64 (max (-1) a)) w := by
  have e : max (-1) a = if -1 < a then a else (-1 : Int) := by split <;> omega
  rw [e]
  by_cases h : -1 < a <;> simp [Builtin.max_, Builtin.max2, h]
/-- The loop under way. -/
structure Goes (W : World) (s p b i : Nat) (now : Value) (wr : World) : Prop where
  some_ : ∃ tv x t k tr S A f, Slot W (fun _ => False) wr s p aB tv x t k tr S (9 + 4 * i) b A f ∧ tr ≤ 1 + i ∧ now = .string (disk.str x)
theorem piece_far {w : World} {a : Option Addr} {len cap : Nat} {l : List Int} (h : Row w a len cap l) : ∀ g off, a = some ⟨g, off, none⟩ → l ≠ [] → False ∨ g < w.heap.size := fun g off e hne => .inr (by
  obtain ⟨b2, off2, e2, h2⟩ := h.bytes.lt hne
  rw [e] at e2
  injection e2 with e2
  injection e2 with e2
  omega)

set_option maxRecDepth 100000 in
set_option maxHeartbeats 4000000 in
theorem slotsagain (w : World) (hT : crc.Tab w) {a1 : Option Addr} {len1 cap1 : Nat} {ns : List Int} (hns : Nums w a1 len1 ns) {a2 : Option Addr} {len2 cap2 : Nat} {ps : Nat → disk.Piece} (hps : disk.RRow w a2 len2 cap2 ps) :
    Calls Tryd.prog 4 #[.slice a1 len1 cap1, .slice a2 len2 cap2] w fun e w' => e = .returned (.bool true) ∧ Below w.heap.size w w' := by
  have HT := Lib.hid hT
  have CB := Lib.hid (begun9 w hT)
  have kc := fun (w : World) (C : Array Value) (n c : Nat) => Lib.run_convert_bytes_const (P := Tryd.prog) w 33 5 C n c Tryd.underlying33 Tryd.underlying5
  have HNS := Lib.hid hns
  have HPS := Lib.hid hps
  have hm2 := hps.most
  clear hT hns hps
  go_enter Tryd.func4, Tryd.ntmps4
  go_wp2_with fail
  refine CB.out.mono ?_
  rintro e w1 ⟨rfl, b1⟩
  have B1 := Lib.hid b1
  clear b1 CB
  go_wp2_with fail
  refine (new_any w1 100000).mono ?_
  rintro e w2 ho
  obtain ⟨p, rfl, h2, _⟩ := held_new (W := w) (X := fun _ => False) (fun _ e => e.elim) B1.out ho
  obtain ⟨l3, b3⟩ := text_new w2 #[.int .u8 102, .int .u8 105, .int .u8 114, .int .u8 115, .int .u8 116] (5, 6) firstL9 rfl
  have hlt3 := new_lt w2 (.cells #[.int .u8 102, .int .u8 105, .int .u8 114, .int .u8 115, .int .u8 116] 5 (5, 6))
  have h3 : Held w (fun k => k = w2.heap.size) (w2.alloc (.cells #[.int .u8 102, .int .u8 105, .int .u8 114, .int .u8 115, .int .u8 116] 5 (5, 6))) p (start (-1)) 0 := (h2.mine b3).fewer fun k hk => .inr (by subst hk; exact ⟨Nat.le_refl _, hlt3⟩)
  have C2 := Lib.hid ((make_any _ p (-1) h3 HT.out (some ⟨w2.heap.size, 0, none⟩) 5 5 firstL9 l3 firstByte rfl (by omega) (fun e => by cases e) (fun g off e _ => .inl (by injection e with e; injection e with e; exact e.symm))).mono fun e w' => make_one (by decide) firstByte)
  clear ho h2 l3 b3 hlt3 h3
  go_wp2_with fail
  refine C2.out.mono ?_
  rintro e w3 ⟨_, s, tv, b, S', A, rfl, sl3, st3, _⟩
  have ST : Hid (Goes w s p b 0 (.string ⟨#[102, 105, 114, 115, 116]⟩) w3) := ⟨⟨tv, _, _, _, _, S', A, -1, sl3.fewer fun j e => e.elim, by omega, by rw [str_first]⟩⟩
  clear sl3 st3 C2
  go_wp2_with fail
  go_loopw [9, 10] (fun nv i wr => ∃ (q : Nat), i = .int .i64 (q : Int) ∧ q ≤ 15 ∧ q ≤ len2 ∧ Goes w s p b q nv wr) (fun _ i _ => ((len2 : Int) - intOf i).toNat)
  case atStart => exact ⟨0, rfl, by omega, by omega, ST.out⟩
  case round =>
    obtain ⟨q, rfl, hq, hql, hR⟩ := hrel
    obtain ⟨⟨tv, x, t, k, tr, S, A, f, sl, htr, hnow⟩⟩ := hR
    have SL := Lib.hid sl
    subst hnow
    by_cases hlt : q < len2 ∧ q < 15
    · obtain ⟨hl1, hl2⟩ := hlt
      have j1 : (q : Int) < (len2 : Int) := by omega
      have j2 : (q : Int) < 15 := by omega
      obtain ⟨bt, off, rfl, hcs⟩ := HPS.out.cells.resolve_left (by omega)
      have hcw := (sl.held.below.cell (p := ⟨bt, off + q, none⟩) (block_lt_of_cell (hcs q hl1))).trans (hcs q hl1)
      have hrow := HPS.out.rows q hl1
      obtain ⟨⟨qa, ql, qc, qs⟩, hpq⟩ : ∃ y, ps q = y := ⟨_, rfl⟩
      rw [hpq] at hcw hrow
      have cS := Lib.hid (short_any qa ql qc 100 wr hrow.le hrow.nil (by omega))
      obtain ⟨m, hm⟩ : ∃ m, min ql 100 = m := ⟨_, rfl⟩
      have hm1 : m ≤ 100 := by omega
      have hr2 := hrow.short 100
      rw [hm] at cS hr2
      obtain ⟨l, hl⟩ : ∃ l, qs.take 100 = l := ⟨_, rfl⟩
      rw [hl] at hr2
      have HR := Lib.hid hr2
      clear sl hcs hrow hr2 hm hl hpq
      go_wp2_with fail
      refine cS.out.mono ?_
      rintro e w5 ⟨rfl, rfl⟩
      rcases Nat.lt_or_ge q len1 with hf | hf
      · have j3 : (q : Int) < (len1 : Int) := by omega
        obtain ⟨bn, offn, rfl, hcn⟩ := HNS.out.cells.resolve_left (by omega)
        have hcn' := (SL.out.held.below.cell (p := ⟨bn, offn + q, none⟩) (block_lt_of_cell (hcn q hf))).trans (hcn q hf)
        have hsm := HNS.out.small q hf
        obtain ⟨z, hz⟩ : ∃ z, ns.getD q 0 = z := ⟨_, rfl⟩
        rw [hz] at hcn' hsm
        have km := fun w => run_maxl w (z.tmod 4)
        clear hcn hf hz cS
        go_wp2_with fail
        refine (held_fail SL.out.held (max (-1) (z.tmod 4)) (by have := Int.tmod_lt_of_pos z (show (0 : Int) < 4 by omega); omega)).mono ?_
        rintro e w5 ⟨rfl, h5, k5⟩
        have sl5 : Slot w (fun _ => False) w5 s p aB tv x t k tr (S.failing (max (-1) (z.tmod 4))) (9 + 4 * q) b A (max (max (-1) (z.tmod 4)) (-1)) :=
          ⟨SL.out.at_.kept (X := Hold s tv fun _ => False) (.inl (.inl rfl)) (fun g hg => .inl (.inr hg)) k5, h5, SL.out.lone.failing _, SL.out.keeps, SL.out.fresh, SL.out.free, SL.out.late⟩
        obtain ⟨f5, hf5⟩ : ∃ f5, max (max (-1) (z.tmod 4)) (-1) = f5 := ⟨_, rfl⟩
        obtain ⟨S5, hS5⟩ : ∃ S5, S.failing (max (-1) (z.tmod 4)) = S5 := ⟨_, rfl⟩
        rw [hf5, hS5] at sl5
        have SL5 := Lib.hid sl5
        clear sl5 h5 k5 hf5 hS5 hcn' hsm km j3
        have hm9 : m ≤ qc := HR.out.le
        have C5 := Lib.hid (save_slot SL5.out (by omega) HT.out qa m qc l (HR.out.bytes.later SL5.out.held.below) HR.out.byte HR.out.length (by omega) hm9 (fun e => (HR.out.nil e).2) (piece_far HR.out) (by omega))
        clear SL5
        go_wp2_with fail
        refine C5.out.mono ?_
        rintro e w6 ⟨_, c, tv', x', t', k', S2, A2, f2, rfl, sl6, hc⟩
        have hcase : (c = 3 ∧ x' = x) ∨ (c = 0 ∧ x' = l) := by
          rcases hc with ⟨_, h1, _, _, h2, _⟩ | ⟨_, _, h1, _, _, _, h2, _⟩ | ⟨_, _, h1, _, _, h2, _⟩
          · exact .inl ⟨h1, h2⟩
          · exact .inl ⟨h1, h2⟩
          · exact .inr ⟨h1, h2⟩
        have CT := Lib.hid (text_any sl6.at_)
        have SL6 := Lib.hid sl6
        have BX := Lib.hid sl6.at_.byte
        have rs5 : (convert 33 9 (.slice qa m qc)).run Tryd.prog w6 = .ok (.string (disk.str l)) w6 := by
          have := disk.run_str (HR.out.bytes.later sl6.held.below) HR.out.byte qc
          rw [HR.out.length] at this
          exact this
        clear sl6 hc C5
        rcases hcase with ⟨rfl, rfl⟩ | ⟨rfl, rfl⟩
        · go_wp2_with fail
          refine CT.out.mono ?_
          rintro e w7 ⟨v7, rfl, o7, n7, b7⟩
          obtain ⟨a7, cp7, rfl, _, _, _, l7, _⟩ := o7.form
          have rs7 := disk.run_str l7 BX.out cp7
          have NX := Lib.hid (SL6.out.later b7)
          clear o7 n7 b7 l7 rs5
          go_wp2_with fail
          refine ⟨⟨q + 1, by rw [Int.natCast_add]; rfl, by omega, by omega, ⟨_, _, _, _, _, _, _, _, NX.out, by omega, rfl⟩⟩, ?_⟩
          show ((len2 : Int) - ((q : Int) + 1)).toNat < ((len2 : Int) - (q : Int)).toNat
          omega
        · go_wp2_with fail
          refine CT.out.mono ?_
          rintro e w7 ⟨v7, rfl, o7, n7, b7⟩
          obtain ⟨a7, cp7, rfl, _, _, _, l7, _⟩ := o7.form
          have rs7 := disk.run_str l7 BX.out cp7
          have NX := Lib.hid (SL6.out.later b7)
          clear o7 n7 b7 l7 rs5
          go_wp2_with fail
          refine ⟨⟨q + 1, by rw [Int.natCast_add]; rfl, by omega, by omega, ⟨_, _, _, _, _, _, _, _, NX.out, by omega, rfl⟩⟩, ?_⟩
          show ((len2 : Int) - ((q : Int) + 1)).toNat < ((len2 : Int) - (q : Int)).toNat
          omega
      · have j3 : ¬ (q : Int) < (len1 : Int) := by omega
        have SL5 := SL
        clear hf cS
        have hm9 : m ≤ qc := HR.out.le
        have C5 := Lib.hid (save_slot SL5.out (by omega) HT.out qa m qc l (HR.out.bytes.later SL5.out.held.below) HR.out.byte HR.out.length (by omega) hm9 (fun e => (HR.out.nil e).2) (piece_far HR.out) (by omega))
        clear SL5
        go_wp2_with fail
        refine C5.out.mono ?_
        rintro e w6 ⟨_, c, tv', x', t', k', S2, A2, f2, rfl, sl6, hc⟩
        have hcase : (c = 3 ∧ x' = x) ∨ (c = 0 ∧ x' = l) := by
          rcases hc with ⟨_, h1, _, _, h2, _⟩ | ⟨_, _, h1, _, _, _, h2, _⟩ | ⟨_, _, h1, _, _, h2, _⟩
          · exact .inl ⟨h1, h2⟩
          · exact .inl ⟨h1, h2⟩
          · exact .inr ⟨h1, h2⟩
        have CT := Lib.hid (text_any sl6.at_)
        have SL6 := Lib.hid sl6
        have BX := Lib.hid sl6.at_.byte
        have rs5 : (convert 33 9 (.slice qa m qc)).run Tryd.prog w6 = .ok (.string (disk.str l)) w6 := by
          have := disk.run_str (HR.out.bytes.later sl6.held.below) HR.out.byte qc
          rw [HR.out.length] at this
          exact this
        clear sl6 hc C5
        rcases hcase with ⟨rfl, rfl⟩ | ⟨rfl, rfl⟩
        · go_wp2_with fail
          refine CT.out.mono ?_
          rintro e w7 ⟨v7, rfl, o7, n7, b7⟩
          obtain ⟨a7, cp7, rfl, _, _, _, l7, _⟩ := o7.form
          have rs7 := disk.run_str l7 BX.out cp7
          have NX := Lib.hid (SL6.out.later b7)
          clear o7 n7 b7 l7 rs5
          go_wp2_with fail
          refine ⟨⟨q + 1, by rw [Int.natCast_add]; rfl, by omega, by omega, ⟨_, _, _, _, _, _, _, _, NX.out, by omega, rfl⟩⟩, ?_⟩
          show ((len2 : Int) - ((q : Int) + 1)).toNat < ((len2 : Int) - (q : Int)).toNat
          omega
        · go_wp2_with fail
          refine CT.out.mono ?_
          rintro e w7 ⟨v7, rfl, o7, n7, b7⟩
          obtain ⟨a7, cp7, rfl, _, _, _, l7, _⟩ := o7.form
          have rs7 := disk.run_str l7 BX.out cp7
          have NX := Lib.hid (SL6.out.later b7)
          clear o7 n7 b7 l7 rs5
          go_wp2_with fail
          refine ⟨⟨q + 1, by rw [Int.natCast_add]; rfl, by omega, by omega, ⟨_, _, _, _, _, _, _, _, NX.out, by omega, rfl⟩⟩, ?_⟩
          show ((len2 : Int) - ((q : Int) + 1)).toNat < ((len2 : Int) - (q : Int)).toNat
          omega
    · have hcond : ¬ ((q : Int) < (len2 : Int)) ∨ ((q : Int) < (len2 : Int) ∧ ¬ ((q : Int) < 15)) := by omega
      clear hlt
      have hq15 : q ≤ 15 := hq
      have C5 := Lib.hid (held_fail SL.out.held (-1) (by omega))
      clear sl
      rcases hcond with hc1 | ⟨hc1, hc2⟩
      · go_wp2_with fail
        refine C5.out.mono ?_
        rintro e w5 ⟨rfl, h5, k5⟩
        have sl5 : Slot w (fun _ => False) w5 s p aB tv x t k tr (S.failing (-1)) (9 + 4 * q) b A (-1) :=
          ⟨SL.out.at_.kept (X := Hold s tv fun _ => False) (.inl (.inl rfl)) (fun g hg => .inl (.inr hg)) k5, h5, SL.out.lone.failing _, SL.out.keeps, SL.out.fresh, SL.out.free, SL.out.late⟩
        obtain ⟨l6, b6⟩ := text_new w5 #[.int .u8 108, .int .u8 97, .int .u8 115, .int .u8 116] (4, 5) lastL9 rfl
        have hlt6 := new_lt w5 (.cells #[.int .u8 108, .int .u8 97, .int .u8 115, .int .u8 116] 5 (4, 5))
        have C6 := Lib.hid (save_slot (sl5.mine b6) (by omega) HT.out (some ⟨w5.heap.size, 0, none⟩) 4 4 lastL9 l6 lastByte rfl (by omega) (by omega) (fun e => by cases e) (fun g off e _ => .inl (.inr (by injection e with e; injection e with e; subst e; exact ⟨Nat.le_refl _, hlt6⟩))) (by omega))
        clear h5 k5 sl5 l6 b6 hlt6 C5
        go_wp2_with fail
        refine C6.out.mono ?_
        rintro e w7 ⟨_, c, tv', x', t', k', S2, A2, f2, rfl, sl7, hc⟩
        rcases hc with ⟨h0, _⟩ | ⟨_, h0, _⟩ | ⟨_, _, rfl, hA2, rfl, rfl, rfl, rfl, st7⟩
        · cases h0
        · cases h0
        have C7 := Lib.hid (sl7.held.crash (by omega) 0 none 0 0 [] (bools_nil w7) (-1))
        have LO := Lib.hid sl7.lone
        have KE := Lib.hid sl7.keeps
        have BW := Lib.hid sl7.held.below
        have ST7 := Lib.hid st7
        have HA2 := Lib.hid hA2
        clear sl7 st7 hA2 C6
        go_wp2_with fail
        refine C7.out.mono ?_
        rintro e w8 ⟨p2, S3, rfl, h8, hs8, hb8⟩
        obtain ⟨b', lo8⟩ := LO.out.crash hs8 hb8
        have hA3 : (⟨leftL A2 [] (-1), leftL A2 [] (-1), []⟩ : FileA) = A2 := by rw [HA2.out]; rfl
        rw [hA3] at lo8
        have C8 := Lib.hid (open_slot h8 lo8 KE.out ST7.out (Nat.le_refl _) (by omega) (HT.out.later BW.out))
        clear h8 hs8 hb8 lo8 hA3 C7
        go_wp2_with fail
        refine C8.out.mono ?_
        rintro e w9 ⟨s9, tv9, S9, rfl, sl9, _⟩
        have CT := Lib.hid (text_any sl9.at_)
        have B9 := Lib.hid (BW.out.trans (sl9.held.below.mono BW.out.size))
        clear sl9 C8
        go_wp2_with fail
        refine CT.out.mono ?_
        rintro e w10 ⟨v7, rfl, o7, n7, b7⟩
        obtain ⟨a7, cp7, rfl, _, _, _, l7, _⟩ := o7.form
        have rs7 := disk.run_str l7 lastByte cp7
        rw [str_last] at rs7
        have rs' : (convert 33 9 (.slice a7 lastL9.length cp7)).run Tryd.prog w10 = .ok (.string ⟨#[108, 97, 115, 116]⟩) w10 := rs7
        have B10 := Lib.hid (B9.out.trans (b7.mono B9.out.size))
        clear o7 n7 b7 l7 rs7 CT
        go_wp2_with fail
        go_ret
        exact ⟨rfl, B10.out⟩
      · go_wp2_with fail
        refine C5.out.mono ?_
        rintro e w5 ⟨rfl, h5, k5⟩
        have sl5 : Slot w (fun _ => False) w5 s p aB tv x t k tr (S.failing (-1)) (9 + 4 * q) b A (-1) :=
          ⟨SL.out.at_.kept (X := Hold s tv fun _ => False) (.inl (.inl rfl)) (fun g hg => .inl (.inr hg)) k5, h5, SL.out.lone.failing _, SL.out.keeps, SL.out.fresh, SL.out.free, SL.out.late⟩
        obtain ⟨l6, b6⟩ := text_new w5 #[.int .u8 108, .int .u8 97, .int .u8 115, .int .u8 116] (4, 5) lastL9 rfl
        have hlt6 := new_lt w5 (.cells #[.int .u8 108, .int .u8 97, .int .u8 115, .int .u8 116] 5 (4, 5))
        have C6 := Lib.hid (save_slot (sl5.mine b6) (by omega) HT.out (some ⟨w5.heap.size, 0, none⟩) 4 4 lastL9 l6 lastByte rfl (by omega) (by omega) (fun e => by cases e) (fun g off e _ => .inl (.inr (by injection e with e; injection e with e; subst e; exact ⟨Nat.le_refl _, hlt6⟩))) (by omega))
        clear h5 k5 sl5 l6 b6 hlt6 C5
        go_wp2_with fail
        refine C6.out.mono ?_
        rintro e w7 ⟨_, c, tv', x', t', k', S2, A2, f2, rfl, sl7, hc⟩
        rcases hc with ⟨h0, _⟩ | ⟨_, h0, _⟩ | ⟨_, _, rfl, hA2, rfl, rfl, rfl, rfl, st7⟩
        · cases h0
        · cases h0
        have C7 := Lib.hid (sl7.held.crash (by omega) 0 none 0 0 [] (bools_nil w7) (-1))
        have LO := Lib.hid sl7.lone
        have KE := Lib.hid sl7.keeps
        have BW := Lib.hid sl7.held.below
        have ST7 := Lib.hid st7
        have HA2 := Lib.hid hA2
        clear sl7 st7 hA2 C6
        go_wp2_with fail
        refine C7.out.mono ?_
        rintro e w8 ⟨p2, S3, rfl, h8, hs8, hb8⟩
        obtain ⟨b', lo8⟩ := LO.out.crash hs8 hb8
        have hA3 : (⟨leftL A2 [] (-1), leftL A2 [] (-1), []⟩ : FileA) = A2 := by rw [HA2.out]; rfl
        rw [hA3] at lo8
        have C8 := Lib.hid (open_slot h8 lo8 KE.out ST7.out (Nat.le_refl _) (by omega) (HT.out.later BW.out))
        clear h8 hs8 hb8 lo8 hA3 C7
        go_wp2_with fail
        refine C8.out.mono ?_
        rintro e w9 ⟨s9, tv9, S9, rfl, sl9, _⟩
        have CT := Lib.hid (text_any sl9.at_)
        have B9 := Lib.hid (BW.out.trans (sl9.held.below.mono BW.out.size))
        clear sl9 C8
        go_wp2_with fail
        refine CT.out.mono ?_
        rintro e w10 ⟨v7, rfl, o7, n7, b7⟩
        obtain ⟨a7, cp7, rfl, _, _, _, l7, _⟩ := o7.form
        have rs7 := disk.run_str l7 lastByte cp7
        rw [str_last] at rs7
        have rs' : (convert 33 9 (.slice a7 lastL9.length cp7)).run Tryd.prog w10 = .ok (.string ⟨#[108, 97, 115, 116]⟩) w10 := rs7
        have B10 := Lib.hid (B9.out.trans (b7.mono B9.out.size))
        clear o7 n7 b7 l7 rs7 CT
        go_wp2_with fail
        go_ret
        exact ⟨rfl, B10.out⟩
end Go.Proofs.YtdonblfidohncaaDoor.slots
