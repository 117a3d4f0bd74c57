/-
  THE WALK OF 'stillroomlaw9.SlotsSpoilt' (P9.1).
-/
import Derived.Test.YtdonblfidohncaaDoorSlAgain
import Derived.Test.YtdonblfidohncaaDoorSlSpM
import Derived.Test.YtdonblfidohncaaDoorMBase
import Derived.Deep.DeepCutAuto
import Derived.Deep.RegionLaw
namespace Go.Proofs.YtdonblfidohncaaDoor.slots
open Go.RowKit Go.Proofs.YtdonblfidohncaaDoor.disk Go.Proofs.YtdonblfidohncaaDoor.recd Go.Proofs.YtdonblfidohncaaDoor.num
set_option linter.unusedVariables false

theorem bx_other {c x : Int} (hc : 0 ≤ c ∧ c < 256) (hx : 0 ≤ x ∧ x < 256) (hx0 : x ≠ 0) : crc.bx c x ≠ c := fun e => by
  have h := crc.bx_bv hc hx
  rw [e] at h
  have h2 := congrArg (BitVec.ofInt 32 c ^^^ ·) h
  simp only [← BitVec.xor_assoc, BitVec.xor_self, BitVec.zero_xor] at h2
  have h3 := crc.toNat_byte hx
  rw [← h2] at h3
  exact hx0 (by rw [← h3]; rfl)
/-- A byte of the file, read. -/
theorem read_one {W : World} {w : World} {p n b : Nat} {S : St} {A : FileA} {f : Int} (h : Held W (fun _ => False) w p S n) (hn : n ≤ 10000000) (lo : Lone S aN b A f) (hl : A.now.length = 8192) (q : Nat) (hq : q < 8192) :
    Calls Tryd.prog 20 #[.pointer (some ⟨p, 0, none⟩), .string aB, .int .i64 (q : Int), .int .i64 1] w fun e w' => ∃ g cap S', e = .returned (.tuple #[.slice (some ⟨g, 0, none⟩) 1 cap, .int .i64 0]) ∧ w'.cell? ⟨g, 0, none⟩ = some (.int .u8 (A.now.getD q 0)) ∧ Held W (fun _ => False) w' p S' (n + 1) ∧ Lone S' aN b A f := by
  refine ((read_good w p S n h.disk aB aB_fit q 1 b lo.look (by rw [lo.file, hl]; omega) (by omega)).mono fun e w' ho => h.read ho).mono ?_
  rintro e w' ⟨v, rfl, o, _, h2, _⟩
  rw [lo.file] at o
  have e1 : (A.now.drop q).take 1 = [A.now.getD q 0] := by
    rw [List.getD_eq_getElem?_getD, List.getElem?_eq_getElem (by omega), Option.getD_some]
    rw [List.drop_eq_getElem_cons (by omega), List.take_succ_cons, List.take_zero]
  rw [e1] at o
  obtain ⟨a, cap, rfl, _, _, hno, hl2, _⟩ := o.form
  rcases hl2 with h0 | ⟨g, off, rfl, hc⟩
  · cases h0
  · have h5 := hc 0 (by simp)
    obtain rfl : off = 0 := by
      rcases o.2 with ⟨e2, _⟩ | ⟨g2, cap2, cur, e2, _⟩
      · cases e2
      · injection e2 with e2
        injection e2 with e2
        injection e2 with _ e2
    exact ⟨g, cap, _, rfl, h5, h2, lo.reads _⟩
/-- A byte of the file, written. -/
theorem write_one {W : World} {w : World} {p n b : Nat} {S : St} {A : FileA} (h : Held W (fun _ => False) w p S n) (hn : n ≤ 1000000) (lo : Lone S aN b A (-1)) (hl : A.now.length = 8192) (q : Nat) (hq : q < 8192) (y : Int) (hy : 0 ≤ y ∧ y < 256) :
    Calls Tryd.prog 21 #[.pointer (some ⟨p, 0, none⟩), .string aB, .int .i64 (q : Int), .slice (some ⟨w.heap.size, 0, none⟩) 1 1] (w.alloc (.cells #[.int .u8 y] 5)) fun e w' => ∃ S' A', e = .returned (.int .i64 0) ∧ Held W (fun _ => False) w' p S' (n + 2) ∧ Lone S' aN b A' (-1) ∧ A'.now = A.now.set q y := by
  obtain ⟨l1, b1⟩ := text_new w #[.int .u8 y] (0, 0) [y] rfl
  have hlt := new_lt w (.cells #[.int .u8 y] 5 (0, 0))
  have hby : Byte [y] := fun c hc => by rw [List.mem_singleton] at hc; omega
  have h1 := h.mine b1
  refine (Held.write h1 l1 (c := 1) rfl hby (by simp) (fun b' off e hne => .inl (.inr (by injection e with e; injection e with e; subst e; exact ⟨Nat.le_refl _, hlt⟩))) (by omega) aB aB_fit (q : Int)).mono ?_
  rintro e w' ⟨rfl, h2, _⟩
  obtain ⟨e1, l2⟩ := lo.write (by decide) q [y] (by omega) (by simp; omega)
  rw [aB_data] at h2 ⊢
  rw [e1]
  refine ⟨_, _, rfl, h2.fewer fun j e => e.elim, l2, ?_⟩
  rw [(write_in (by simp) (by rw [hl]; simp; omega)).1, splice_one (by omega)]

theorem set_byte9 {l : List Int} (h : Byte l) (i : Nat) {y : Int} (hy : 0 ≤ y ∧ y < 256) : Byte (l.set i y) := fun c hc => by
  rcases List.mem_or_eq_of_mem_set hc with hc | rfl
  · exact h c hc
  · exact hy
theorem slotAt_len {L : List Int} (hl : L.length = 8192) (k : Nat) : 4096 ≤ (slotAt L k).length := by
  unfold slotAt
  split
  · rw [List.length_take]; omega
  · rw [List.length_drop]; omega
theorem slotAt_byte {L : List Int} (hb : Byte L) (k : Nat) : Byte (slotAt L k) := by
  unfold slotAt
  split
  · exact hb.take _
  · exact hb.drop _
/-- The latest text's slot is spoilt: the elder one is told. -/
theorem spoilt_one {L : List Int} {t1 t2 : List Int} (hk : Keeps L 1 2 t2 2) (h0 : slotD (slotAt L 0) = some (1, t1)) {kn : Nat} (hkl : kn < 16 + t2.length) (hno : ¬ (8 ≤ kn ∧ kn < 12)) {y : Int} (hy : 0 ≤ y ∧ y < 256) (hne : y ≠ L.getD (4096 + kn) 0) :
    Keeps (L.set (4096 + kn) y) 0 1 t1 1 ∧ slotD (slotAt (L.set (4096 + kn) y) 1) = none := by
  obtain ⟨_, h2, _, _⟩ := slotD_some (slotAt_byte hk.byte 1) (slotAt_len hk.len 1) hk.this
  obtain ⟨s1, s2, s3⟩ := slotAt_set hk.len (k := 1) (Nat.le_refl _) (i := kn) (by omega) y
  rw [Nat.one_mul] at s1 s2 s3
  have e1 : slotD (slotAt (L.set (4096 + kn) y) 1) = none := by
    rw [s1]
    exact slotD_spoilt (slotAt_byte hk.byte 1) (slotAt_len hk.len 1) hk.this kn hkl hno y hy (by rw [s3]; exact hne)
  refine ⟨⟨by rw [List.length_set]; exact hk.len, set_byte9 hk.byte _ hy, by omega, ?_, fun t z e => ?_⟩, e1⟩
  · have : slotAt (L.set (4096 + kn) y) 0 = slotAt L 0 := s2
    rw [this]
    exact h0
  · rw [e1] at e; cases e
theorem spoilt_two {L : List Int} {t1 : List Int} (hk : Keeps L 0 1 t1 1) (h1 : slotD (slotAt L 1) = none) {jn : Nat} (hjl : jn < 16 + t1.length) (hno : ¬ (8 ≤ jn ∧ jn < 12)) {y : Int} (hy : 0 ≤ y ∧ y < 256) (hne : y ≠ L.getD jn 0) : openD (L.set jn y) = none := by
  obtain ⟨_, h2, _, _⟩ := slotD_some (slotAt_byte hk.byte 0) (slotAt_len hk.len 0) hk.this
  obtain ⟨s1, s2, s3⟩ := slotAt_set hk.len (k := 0) (Nat.zero_le _) (i := jn) (by omega) y
  rw [Nat.zero_mul, Nat.zero_add] at s1 s2 s3
  have e0 : slotD (slotAt (L.set jn y) 0) = none := by
    rw [s1]
    exact slotD_spoilt (slotAt_byte hk.byte 0) (slotAt_len hk.len 0) hk.this jn hjl hno y hy (by rw [s3]; exact hne)
  have e1 : slotD (slotAt (L.set jn y) 1) = none := by
    have : slotAt (L.set jn y) 1 = slotAt L 1 := s2
    rw [this]
    exact h1
  unfold openD
  have e0' : slotD ((L.set jn y).take 4096) = none := e0
  have e1' : slotD ((L.set jn y).drop 4096) = none := e1
  rw [e0', e1']

set_option maxRecDepth 100000 in
set_option maxHeartbeats 4000000 in
theorem slotsspoilt (w : World) (hT : crc.Tab w) {a1 : Option Addr} {len1 cap1 : Nat} {l1 : List Int} (hr1 : Row w a1 len1 cap1 l1) {a2 : Option Addr} {len2 cap2 : Nat} {l2 : List Int} (hr2 : Row w a2 len2 cap2 l2) {at_ : Int} (hat : -9223372036854775808 ≤ at_ ∧ at_ ≤ 9223372036854775807) {x : Int} (hx : 0 ≤ x ∧ x ≤ 255) (both : Bool) :
    Calls Tryd.prog 6 #[.slice a1 len1 cap1, .slice a2 len2 cap2, .int .i64 at_, .int .u8 x, .bool both] w fun e w' => e = .returned (.bool true) ∧ Below w.heap.size w w' := by
  have HT := Lib.hid hT
  have CB := Lib.hid (begun9 w hT)
  have S1 := fun w1 => short_any a1 len1 cap1 100 w1 hr1.le hr1.nil (by omega)
  have S2 := fun w1 => short_any a2 len2 cap2 100 w1 hr2.le hr2.nil (by omega)
  have r1 := hr1.short 100
  have r2 := hr2.short 100
  obtain ⟨m1, hm1⟩ : ∃ m, min len1 100 = m := ⟨_, rfl⟩
  obtain ⟨m2, hm2⟩ : ∃ m, min len2 100 = m := ⟨_, rfl⟩
  rw [hm1] at S1 r1
  rw [hm2] at S2 r2
  obtain ⟨t1, ht1⟩ : ∃ t, l1.take 100 = t := ⟨_, rfl⟩
  obtain ⟨t2, ht2⟩ : ∃ t, l2.take 100 = t := ⟨_, rfl⟩
  rw [ht1] at r1
  rw [ht2] at r2
  have q1 : m1 ≤ 100 := by omega
  have q2 : m2 ≤ 100 := by omega
  have c1 := r1.le
  have c2 := r2.le
  have HS1 := Lib.hid S1
  have HS2 := Lib.hid S2
  have R1 := Lib.hid r1
  have R2 := Lib.hid r2
  obtain ⟨x0, x1⟩ := hx
  obtain ⟨a0, a9⟩ := hat
  clear hT S1 S2 r1 r2 hm1 hm2 ht1 ht2 hr1 hr2
  go_enter Tryd.func6, Tryd.ntmps6
  go_wp2_with fail
  refine CB.out.mono ?_
  rintro e w1 ⟨rfl, b1⟩
  have B1 := Lib.hid b1
  clear b1 CB
  go_wp2_with fail
  refine (HS1.out w1).mono ?_
  rintro e w2 ⟨rfl, rfl⟩
  go_wp2_with fail
  refine (HS2.out w1).mono ?_
  rintro e w2 ⟨rfl, rfl⟩
  clear HS1 HS2
  by_cases ha : at_ < 0
  · go_wp2_with fail
    go_ret
    exact ⟨rfl, B1.out⟩
  obtain ⟨an, rfl⟩ : ∃ an : Nat, at_ = (an : Int) := ⟨at_.toNat, by omega⟩
  have i1 : ¬ (an : Int) < 0 := ha
  clear ha a0
  by_cases hx0 : x = 0
  · have i2 : (x == 0) = true := by rw [hx0]; rfl
    go_wp2_with fail
    go_ret
    exact ⟨rfl, B1.out⟩
  have i2 : (x == 0) = false := by rw [beq_eq_false_iff_ne]; exact hx0
  go_wp2_with fail
  refine (new_any w1 100000).mono ?_
  rintro e w2 ho
  obtain ⟨p, rfl, h2, _⟩ := held_new (W := w) (X := fun _ => False) (fun _ e => e.elim) B1.out ho
  have C2 := Lib.hid ((make_any w2 p (-1) h2 HT.out a1 m1 cap1 t1 (R1.out.bytes.later h2.below) R1.out.byte R1.out.length (by omega) (fun e => (R1.out.nil e).2) (piece_far R1.out)).mono fun e w' => make_one (by rw [R1.out.length]; omega) R1.out.byte)
  clear ho h2
  go_wp2_with fail
  refine C2.out.mono ?_
  rintro e w3 ⟨_, s, tv, b, S', A, rfl, sl3, st3, _⟩
  have KE3 := Lib.hid sl3.keeps
  have C3 := Lib.hid (save_slot sl3 (by omega) HT.out a2 m2 cap2 t2 (R2.out.bytes.later sl3.held.below) R2.out.byte R2.out.length (by omega) c2 (fun e => (R2.out.nil e).2) (piece_far R2.out) (by omega))
  clear sl3 st3 C2
  go_wp2_with fail
  refine C3.out.mono ?_
  rintro e w5 ⟨_, c, tv', x', t', k', S2, A2, f2, rfl, sl5, hc⟩
  rcases hc with ⟨h0, _⟩ | ⟨_, h0, _⟩ | ⟨_, _, rfl, hA2, rfl, hx', rfl, rfl, st5⟩
  · cases h0
  · cases h0
  have hx2 := hx'.symm
  subst hx2
  have KE5 := Lib.hid sl5.keeps
  have H5 := Lib.hid (sl5.held.fewer (Y := fun _ => False) fun j e => e.elim)
  have LO5 := Lib.hid sl5.lone
  -- the other slot is still whole
  have k0 : slotD (slotAt A2.now 0) = some (1, t1) := by
    rw [hA2]
    have := (KE3.out.save (by omega) (l := t2) (by rw [R2.out.length]; omega) R2.out.byte (by omega)).2.2.this
    exact this
  have K0 := Lib.hid k0
  obtain ⟨kn, hkn⟩ : ∃ kn, an % (16 + m2) = kn := ⟨_, rfl⟩
  obtain ⟨jn, hjn⟩ : ∃ jn, an % (16 + m1) = jn := ⟨_, rfl⟩
  have hkl : kn < 16 + m2 := by rw [← hkn]; exact Nat.mod_lt _ (by omega)
  have hjl : jn < 16 + m1 := by rw [← hjn]; exact Nat.mod_lt _ (by omega)
  have e1 : IntKind.i64.wrap (16 + (m2 : Int)) = ((16 + m2 : Nat) : Int) := by rw [IntKind.wrap_i64]; omega
  have e2 : IntKind.i64.wrap (16 + (m1 : Int)) = ((16 + m1 : Nat) : Int) := by rw [IntKind.wrap_i64]; omega
  have e3 : (an : Int) % (16 + (m2 : Int)) = (kn : Int) := by rw [← hkn]; push_cast; rfl
  have e4 : (an : Int) % (16 + (m1 : Int)) = (jn : Int) := by rw [← hjn]; push_cast; rfl
  have n3 : ((16 + m2 : Nat) : Int) ≠ 0 := by omega
  have n4 : ((16 + m1 : Nat) : Int) ≠ 0 := by omega
  clear sl5 st5 hA2 k0 C3 hkn hjn KE3
  go_upto_region 13 with fail
  rw [e3, e4]
  cases both with
  | false =>
    by_cases hno : 8 ≤ kn ∧ kn < 12
    · obtain ⟨k8, k12⟩ := hno
      have i8 : (8 : Int) ≤ (kn : Int) := by omega
      have i12 : (kn : Int) < 12 := by omega
      have B5 := Lib.hid H5.out.below
      go_wp2_with fail
      go_ret
      exact ⟨rfl, B5.out⟩
    · have hk3 : kn < 8 ∨ 12 ≤ kn := by omega
      go_cut [73] (fun v wx => v = .bool false ∧ wx = w5)
      case first =>
        rcases hk3 with hk3 | hk3
        · have i8 : ¬ (8 : Int) ≤ (kn : Int) := by omega
          go_wp2_with fail
          go_meet
          exact ⟨rfl, rfl⟩
        · have i8 : (8 : Int) ≤ (kn : Int) := by omega
          have i12 : ¬ (kn : Int) < 12 := by omega
          go_wp2_with fail
          go_meet
          exact ⟨rfl, rfl⟩
      case rest =>
        obtain ⟨rfl, rfl⟩ := hcut
        have e5 : IntKind.i64.wrap (4096 + (kn : Int)) = ((4096 + kn : Nat) : Int) := by rw [IntKind.wrap_i64]; omega
        have CR := Lib.hid (read_one H5.out (by omega) LO5.out KE5.out.len (4096 + kn) (by omega))
        go_wp2_with fail
        refine CR.out.mono ?_
        rintro e w6 ⟨g, cap, S6, rfl, hcell, h6, lo6⟩
        have hcb : 0 ≤ A2.now.getD (4096 + kn) 0 ∧ A2.now.getD (4096 + kn) 0 < 256 := KE5.out.byte.at (by rw [KE5.out.len]; omega)
        have hxx : 0 ≤ x ∧ x < 256 := ⟨x0, by omega⟩
        have hyb := crc.bx_byte hcb hxx
        have hyn := bx_other hcb hxx hx0
        obtain ⟨cc, hcc⟩ : ∃ cc, A2.now.getD (4096 + kn) 0 = cc := ⟨_, rfl⟩
        rw [hcc] at hcell hyb hyn hcb
        obtain ⟨y, hy⟩ : ∃ y, crc.bx cc x = y := ⟨_, rfl⟩
        have hbx : bits .xor .u8 cc x = y := hy
        rw [hy] at hyb hyn
        have CW := Lib.hid (write_one h6 (by omega) lo6 KE5.out.len (4096 + kn) (by omega) y hyb)
        have sp := spoilt_one KE5.out K0.out (kn := kn) (by rw [R2.out.length]; exact hkl) hno hyb (by rw [hcc]; exact hyn)
        have SP := Lib.hid sp
        clear h6 lo6 hyb hyn hy hcb hcc sp CR
        go_wp2_with fail
        refine CW.out.mono ?_
        rintro e w7 ⟨S7, A7, rfl, h7, lo7, hA7⟩
        rw [← hA7] at SP
        clear hcell hbx CW hA7
        have C8 := Lib.hid (open_slot h7 lo7 SP.out.1 (fun t y e => by have := SP.out.2; rw [show slotAt A7.now (1 - 0) = slotAt A7.now 1 from rfl, this] at e; cases e) (Nat.le_refl _) (by omega) HT.out)
        clear h7 lo7
        go_upto_region 22 with fail
        go_cut [14, 18] (fun ev sv wx => ∃ s9 tv9 S9, sv = .pointer (some ⟨s9, 0, none⟩) ∧ ev = .int .i64 0 ∧ Slot w (fun _ => False) wx s9 p aB tv9 t1 1 0 1 S9 (9 + 4 + 1 + 2 + 1) b A7 (-1))
        case first =>
          go_wp2_with fail
          refine C8.out.mono ?_
          rintro e w9 ⟨s9, tv9, S9, rfl, sl9, _⟩
          have SL9 := Lib.hid sl9
          clear sl9 C8
          go_wp2_with fail
          go_meet
          exact ⟨_, _, _, rfl, rfl, SL9.out⟩
        obtain ⟨s9, tv9, S9, rfl, rfl, sl9⟩ := hcut
        obtain ⟨w9, hw9⟩ : ∃ w9, w9 = wc := ⟨_, rfl⟩
        rw [← hw9] at sl9 ⊢
        clear hw9
        have CT9 : Hid (∀ W, Below w9.heap.size w9 W → Calls Tryd.prog 15 #[.pointer (some ⟨s9, 0, none⟩)] W (Made W t1)) := fun W hb => text_any (sl9.at_.later hb)
        have CU9 : Hid (∀ W, Below w9.heap.size w9 W → Calls Tryd.prog 16 #[.pointer (some ⟨s9, 0, none⟩)] W fun e w' => e = .returned (.int .u64 ((1 : Nat) : Int)) ∧ W = w') := fun W hb => turn_any (sl9.at_.later hb)
        have B9 := Lib.hid sl9.held.below
        obtain ⟨sq, hsq⟩ : ∃ sq, disk.str t1 = sq := ⟨_, rfl⟩
        have RA : ∀ W, Below w9.heap.size w9 W → (convert 33 9 (.slice a1 m1 cap1)).run Tryd.prog W = .ok (.string sq) W := fun W hb => by
          have := disk.run_str (R1.out.bytes.later (B9.out.trans (hb.mono B9.out.size))) R1.out.byte cap1
          rw [R1.out.length, hsq] at this
          exact this
        have b9 : Below w9.heap.size w9 w9.drew := below_draws (Below.refl w9.heap.size w9) 1
        have ra0 := RA _ b9
        have HRA := Lib.hid RA
        have HSQ := Lib.hid hsq
        clear sl9 C8 RA hsq H5 LO5 K0 KE5 SP e1 e2 e3 e4 e5 n3 n4 i1 i2
        go_upto_region 25 with fail
        go_cut [10] (fun v wx => v = .bool true ∧ Below w9.heap.size w9 wx)
        case first =>
          go_region_law (first
            | (go_simp
               go_at_call 15
               refine (CT9.out _ b9).mono ?_
               rintro e w10 ⟨v7, rfl, o7, n7, b7⟩
               obtain ⟨a7, cp7, rfl, _, _, _, l7, _⟩ := o7.form
               rw [R1.out.length]
               have rs7 : (convert 33 9 (.slice a7 m1 cp7)).run Tryd.prog w10 = .ok (.string sq) w10 := by
                 have := disk.run_str l7 R1.out.byte cp7
                 rw [R1.out.length, HSQ.out] at this
                 exact this
               have c7 : Below w9.heap.size w9 w10 := b9.trans (b7.mono b9.size)
               have ra7 := HRA.out _ c7
               clear o7 n7 b7 l7)
            | (go_simp
               go_at_call 16
               refine (CU9.out _ c7).mono ?_
               rintro e w8 ⟨rfl, rfl⟩))
          all_goals
            go_wp2_with fail
            go_meet
            exact ⟨rfl, c7⟩
        case rest =>
          obtain ⟨rfl, c7⟩ := hcut
          have B10 := Lib.hid (B9.out.trans (c7.mono B9.out.size))
          clear c7
          go_wp2_with fail
          go_ret
          exact ⟨rfl, B10.out⟩
  | true =>
    by_cases hno : 8 ≤ kn ∧ kn < 12
    · obtain ⟨k8, k12⟩ := hno
      have i8 : (8 : Int) ≤ (kn : Int) := by omega
      have i12 : (kn : Int) < 12 := by omega
      have B5 := Lib.hid H5.out.below
      go_wp2_with fail
      go_ret
      exact ⟨rfl, B5.out⟩
    · have hk3 : kn < 8 ∨ 12 ≤ kn := by omega
      by_cases hno2 : 8 ≤ jn ∧ jn < 12
      · obtain ⟨j8, j12⟩ := hno2
        have ij8 : (8 : Int) ≤ (jn : Int) := by omega
        have ij12 : (jn : Int) < 12 := by omega
        have B5 := Lib.hid H5.out.below
        rcases hk3 with hk3 | hk3
        · have i8 : ¬ (8 : Int) ≤ (kn : Int) := by omega
          go_wp2_with fail
          go_ret
          exact ⟨rfl, B5.out⟩
        · have i8 : (8 : Int) ≤ (kn : Int) := by omega
          have i12 : ¬ (kn : Int) < 12 := by omega
          go_wp2_with fail
          go_ret
          exact ⟨rfl, B5.out⟩
      · have hj3 : jn < 8 ∨ 12 ≤ jn := by omega
        go_cut [73] (fun v wx => v = .bool false ∧ wx = w5)
        case first =>
          rcases hk3 with hk3 | hk3
          · have i8 : ¬ (8 : Int) ≤ (kn : Int) := by omega
            rcases hj3 with hj3 | hj3
            · have ij8 : ¬ (8 : Int) ≤ (jn : Int) := by omega
              go_wp2_with fail
              go_meet
              exact ⟨rfl, rfl⟩
            · have ij8 : (8 : Int) ≤ (jn : Int) := by omega
              have ij12 : ¬ (jn : Int) < 12 := by omega
              go_wp2_with fail
              go_meet
              exact ⟨rfl, rfl⟩
          · have i8 : (8 : Int) ≤ (kn : Int) := by omega
            have i12 : ¬ (kn : Int) < 12 := by omega
            rcases hj3 with hj3 | hj3
            · have ij8 : ¬ (8 : Int) ≤ (jn : Int) := by omega
              go_wp2_with fail
              go_meet
              exact ⟨rfl, rfl⟩
            · have ij8 : (8 : Int) ≤ (jn : Int) := by omega
              have ij12 : ¬ (jn : Int) < 12 := by omega
              go_wp2_with fail
              go_meet
              exact ⟨rfl, rfl⟩
        case rest =>
          obtain ⟨rfl, rfl⟩ := hcut
          have e5 : IntKind.i64.wrap (4096 + (kn : Int)) = ((4096 + kn : Nat) : Int) := by rw [IntKind.wrap_i64]; omega
          have CR := Lib.hid (read_one H5.out (by omega) LO5.out KE5.out.len (4096 + kn) (by omega))
          go_wp2_with fail
          refine CR.out.mono ?_
          rintro e w6 ⟨g, cap, S6, rfl, hcell, h6, lo6⟩
          have hcb : 0 ≤ A2.now.getD (4096 + kn) 0 ∧ A2.now.getD (4096 + kn) 0 < 256 := KE5.out.byte.at (by rw [KE5.out.len]; omega)
          have hxx : 0 ≤ x ∧ x < 256 := ⟨x0, by omega⟩
          have hyb := crc.bx_byte hcb hxx
          have hyn := bx_other hcb hxx hx0
          obtain ⟨cc, hcc⟩ : ∃ cc, A2.now.getD (4096 + kn) 0 = cc := ⟨_, rfl⟩
          rw [hcc] at hcell hyb hyn hcb
          obtain ⟨y, hy⟩ : ∃ y, crc.bx cc x = y := ⟨_, rfl⟩
          have hbx : bits .xor .u8 cc x = y := hy
          rw [hy] at hyb hyn
          have CW := Lib.hid (write_one h6 (by omega) lo6 KE5.out.len (4096 + kn) (by omega) y hyb)
          have sp := spoilt_one KE5.out K0.out (kn := kn) (by rw [R2.out.length]; exact hkl) hno hyb (by rw [hcc]; exact hyn)
          have SP := Lib.hid sp
          clear h6 lo6 hyb hyn hy hcb hcc sp CR
          go_wp2_with fail
          refine CW.out.mono ?_
          rintro e w7 ⟨S7, A7, rfl, h7, lo7, hA7⟩
          rw [← hA7] at SP
          clear hcell hbx CW hA7
          have CR := Lib.hid (read_one h7 (by omega) lo7 SP.out.1.len jn (by omega))
          clear h7 lo7
          go_wp2_with fail
          refine CR.out.mono ?_
          rintro e w8 ⟨g8, cap8, S8, rfl, hcell, h6, lo6⟩
          have hcb : 0 ≤ A7.now.getD jn 0 ∧ A7.now.getD jn 0 < 256 := SP.out.1.byte.at (by rw [SP.out.1.len]; omega)
          have hyb := crc.bx_byte hcb hxx
          have hyn := bx_other hcb hxx hx0
          obtain ⟨cc2, hcc⟩ : ∃ cc, A7.now.getD jn 0 = cc := ⟨_, rfl⟩
          rw [hcc] at hcell hyb hyn hcb
          obtain ⟨y2, hy⟩ : ∃ y, crc.bx cc2 x = y := ⟨_, rfl⟩
          have hbx : bits .xor .u8 cc2 x = y2 := hy
          rw [hy] at hyb hyn
          have CW := Lib.hid (write_one h6 (by omega) lo6 SP.out.1.len jn (by omega) y2 hyb)
          have SQ := Lib.hid (spoilt_two SP.out.1 SP.out.2 (jn := jn) (by rw [R1.out.length]; exact hjl) hno2 hyb (by rw [hcc]; exact hyn))
          have HSL : Hid (A7.now.length = 8192) := SP.out.1.len
          clear h6 lo6 hyb hyn hy hcb hcc CR
          go_wp2_with fail
          refine CW.out.mono ?_
          rintro e w9 ⟨S9, A9, rfl, h9, lo9, hA9⟩
          rw [← hA9] at SQ
          have C8 := Lib.hid (open_any w9 p S9 _ h9 (by omega) HT.out aB aB_fit b lo9.look A9.now (by rw [lo9.file]) (by rw [hA9, List.length_set]; exact HSL.out))
          rw [SQ.out] at C8
          clear hcell hbx CW hA9 h9 lo9
          go_wp2_with fail
          refine C8.out.mono ?_
          rintro e w10 ⟨rfl, h10, _⟩
          have B10 := Lib.hid h10.below
          clear h10 C8
          go_wp2_with fail
          go_ret
          exact ⟨rfl, B10.out⟩
end Go.Proofs.YtdonblfidohncaaDoor.slots
