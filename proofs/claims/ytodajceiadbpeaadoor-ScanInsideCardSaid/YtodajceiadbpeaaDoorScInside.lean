/-
  THE WALK OF 'stillroomlaw7.ScanInside' (P7.1).
-/
import Derived.Test.YtodajceiadbpeaaDoorScInner
namespace Go.Proofs.YtodajceiadbpeaaDoor.scan
open Go.RowKit Go.Proofs.YtodajceiadbpeaaDoor.disk Go.Proofs.YtodajceiadbpeaaDoor.recd Go.Proofs.YtodajceiadbpeaaDoor.num
set_option linter.unusedVariables false

set_option maxRecDepth 100000 in
set_option maxHeartbeats 2000000 in
theorem inside_any (w : World) (hT : crc.Tab w) (n : Int) (x : Int) (hx : 0 ≤ x ∧ x < 256) : Calls Tryd.prog 6 #[.int .i64 n, .int .u8 x] w fun e w' => e = .returned (.bool true) ∧ Below w.heap.size w w' := by
  have CB := Lib.hid (begun_any w hT)
  have HT := Lib.hid hT
  have HX := Lib.hid hx
  clear hT hx
  go_enter Tryd.func6, Tryd.ntmps6
  go_wp2_with fail
  refine CB.out.mono ?_
  rintro en w1 ⟨rfl, b1⟩
  have B1 := Lib.hid b1
  clear b1 CB
  by_cases h1 : n < 1
  · go_wp2_with fail
    go_ret
    exact ⟨rfl, B1.out⟩
  · by_cases h2 : 15 < n
    · go_wp2_with fail
      go_ret
      exact ⟨rfl, B1.out⟩
    · obtain ⟨m, rfl⟩ : ∃ m : Nat, n = (m : Int) := ⟨n.toNat, by omega⟩
      go_wp2_with fail
      go_loopw [6, 7, 8] (fun sv p _ wr => ∃ (s : ByteArray) (q : Nat), sv = .string s ∧ s.size = 41 * q ∧ p = .int .i64 (q : Int) ∧ q ≤ m ∧ Below w.heap.size w wr) (fun _ p _ _ => ((m : Int) - intOf p).toNat)
      case atStart => exact ⟨⟨#[]⟩, 0, rfl, rfl, rfl, Nat.zero_le _, B1.out⟩
      case round =>
        obtain ⟨s, q, rfl, hs, rfl, hq, hb⟩ := hrel
        have HB := Lib.hid hb
        have HS := Lib.hid hs
        clear hb hs B1
        by_cases hqm : q < m
        · have hqI : (q : Int) < (m : Int) := by omega
          have CI := Lib.hid (inner_any q (by omega) x HX.out wr)
          go_wp2_with fail
          refine CI.out.mono ?_
          rintro en w2 ⟨rfl, b2⟩
          go_wp2_with fail
          refine (REncode_any (inn q x) w2 (inn_fit q x)).mono ?_
          rintro en w3 ⟨v3, rfl, o3, _, b3⟩
          obtain ⟨a3, c3, rfl, _, _, _, l3, _⟩ := o3.form
          have hbe : Byte (enc (inn q x)) := by rw [enc, if_pos (inn_may q x (by omega))]; exact encL_byte _
          have hlen := inn_length q x (by omega)
          have kc := run_str l3 hbe c3
          have hss := str_size (enc (inn q x))
          rw [hlen] at kc hss ⊢
          obtain ⟨t, ht⟩ : ∃ t, str (enc (inn q x)) = t := ⟨_, rfl⟩
          rw [ht] at kc hss
          have B3 := Lib.hid (HB.out.trans ((b2.trans (b3.mono b2.size)).mono HB.out.size))
          have hsum : ¬ (9223372036854775807 < s.size + t.size) := by rw [HS.out, hss]; omega
          have HSS := Lib.hid hss
          clear b2 b3 o3 l3 hbe hlen hss ht CI HB
          go_wp2_with fail
          refine ⟨⟨_, q + 1, rfl, by rw [ByteArray.size_append, HS.out, HSS.out]; omega, by rw [Int.natCast_add]; rfl, by omega, B3.out⟩, ?_⟩
          show ((m : Int) - ((q : Int) + 1)).toNat < ((m : Int) - (q : Int)).toNat
          omega
        · have hqI : ¬ (q : Int) < (m : Int) := by omega
          have hs2 : s.size ≤ 1000 := by rw [HS.out]; omega
          have CI := Lib.hid (inner_any 99 (by decide) x HX.out wr)
          go_wp2_with fail
          refine CI.out.mono ?_
          rintro en w2 ⟨rfl, b2⟩
          unfold inn Rec.val
          simp only
          have bo : ∀ W, w2.heap.size ≤ W → True := fun _ _ => trivial
          have hmb : mayB ⟨2, 0, 0, 0, 99, s⟩ = true := by rw [mayB_eq]; exact decide_eq_true ⟨by omega, by omega, by omega, by omega, by omega⟩
          have hro := rest_one ⟨2, 0, 0, 0, 99, s⟩ hmb (by show 0 < 4294967296; omega)
          have hfo := front_one ⟨2, 0, 0, 0, 99, s⟩ hmb (by show 0 < 4294967296; omega)
          have hle := encL_length ⟨2, 0, 0, 0, 99, s⟩
          have hby := encL_byte ⟨2, 0, 0, 0, 99, s⟩
          have ce := fun W => REncode_any ⟨2, 0, 0, 0, 99, s⟩ W ⟨by show -9223372036854775808 ≤ (2 : Int) ∧ (2 : Int) ≤ 9223372036854775807; omega, by show 0 < 4294967296; omega, by show s.size ≤ _; unfold maxLen; omega⟩
          rw [enc, if_pos hmb] at ce
          unfold Rec.val at ce
          simp only at ce hle
          obtain ⟨L, hL⟩ : ∃ L, encL ⟨2, 0, 0, 0, 99, s⟩ = L := ⟨_, rfl⟩
          rw [hL] at hro hfo hle hby ce
          obtain ⟨N, hN⟩ : ∃ N, 39 + s.size = N := ⟨_, rfl⟩
          rw [hN] at hle
          rw [hle] at hfo
          have hN2 : N ≤ 1039 := by omega
          have CE := Lib.hid ce
          have HRO := Lib.hid hro
          have HFO := Lib.hid hfo
          have HLE := Lib.hid hle
          have HBY := Lib.hid hby
          have B2 := Lib.hid (HB.out.trans (b2.mono HB.out.size))
          clear b2 bo hmb hro hfo hle hby ce hL hN CI HB HS
          go_wp2_with fail
          have b3 : Below w2.heap.size w2 (w2.alloc (.cells #[.int .i64 2, .int .u32 0, .int .u64 0, .int .u64 0, .int .u64 99, .string s] 32)) := (Below.refl _ _).alloc (Nat.le_refl _) _
          refine (CE.out _).mono ?_
          rintro en w4 ⟨v4, rfl, o4, _, b4⟩
          obtain ⟨a4, c4, rfl, hc4, _, _, l4, _⟩ := o4.form
          have HL4 := Lib.hid l4
          have B4 := Lib.hid (B2.out.trans ((b3.trans (b4.mono b3.size)).mono B2.out.size))
          rw [HLE.out] at hc4 ⊢
          clear o4 l4 b3 b4 B2 CE
          go_wp2_with fail
          have cf := Front_any a4 N c4 L w4 (HT.out.later B4.out) HL4.out HBY.out HLE.out hc4 (by omega)
          rw [HFO.out] at cf
          refine cf.mono ?_
          rintro en w5 ⟨v5, rfl, g5⟩
          obtain ⟨a5, c5, rfl⟩ : ∃ a c, v5 = .slice a 1 c := by
            rcases g5.own.form with ⟨_, e⟩ | ⟨g, cap, e, _⟩
            · cases e
            · exact ⟨_, _, e⟩
          have B5 := Lib.hid (B4.out.trans (g5.below.mono B4.out.size))
          have ca := All_any a4 N c4 L w5 (HT.out.later B5.out) (HL4.out.later g5.below) HBY.out HLE.out hc4 (by omega)
          rw [HRO.out] at ca
          have CA := Lib.hid ca
          clear g5 cf ca B4 HL4 HRO HFO
          go_wp2_with fail
          refine CA.out.mono ?_
          rintro en w6 ⟨v6, rfl, g6⟩
          obtain ⟨a6, c6, rfl⟩ : ∃ a c, v6 = .slice a 1 c := by
            rcases g6.own.form with ⟨_, e⟩ | ⟨g, cap, e, _⟩
            · cases e
            · exact ⟨_, _, e⟩
          have B6 := Lib.hid (B5.out.trans (g6.below.mono B5.out.size))
          clear g6 B5 CA
          go_wp2_with fail
          go_ret
          exact ⟨rfl, B6.out⟩
theorem inside_card (w : World) (hT : crc.Tab w) {n x : Int} (_ : -9223372036854775808 ≤ n ∧ n ≤ 9223372036854775807) (hx : 0 ≤ x ∧ x ≤ 255) : Calls Tryd.prog 6 #[.int .i64 n, .int .u8 x] w fun e w' => e = .returned (.bool true) ∧ Below w.heap.size w w' :=
  inside_any w hT n x ⟨hx.1, by have := hx.2; omega⟩
end Go.Proofs.YtodajceiadbpeaaDoor.scan
