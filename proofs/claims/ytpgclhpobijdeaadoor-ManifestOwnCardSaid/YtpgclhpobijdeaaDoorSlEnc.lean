/-
  CONTRACTS of slots.sum and slots.encode (P9.1).
-/
import Derived.Test.YtpgclhpobijdeaaDoorSlAt
namespace Go.Proofs.YtpgclhpobijdeaaDoor.slots
open Go.RowKit Go.Proofs.YtpgclhpobijdeaaDoor.disk Go.Proofs.YtpgclhpobijdeaaDoor.recd Go.Proofs.YtpgclhpobijdeaaDoor.num
set_option linter.unusedVariables false

theorem slsum_any (w : World) (hT : crc.Tab w) (a b : Option Addr) (n m ca cb : Nat) (l k : List Int) (hl : Leads w a l) (hk : Leads w b k) (bl : Byte l) (bk : Byte k) (hn : l.length = n) (hm : k.length = m) (hn2 : n ≤ 1000000000) (hm2 : m ≤ 1000000000) :
    Calls Tryd.prog 60 #[.slice a n ca, .slice b m cb] w fun e w' => e = .returned (.int .u64 (recd.sumOf (l ++ k) : Nat)) ∧ w = w' := by
  subst hn hm
  have c1 := crc.sum_any a l ca w hT hl bl (by omega)
  have c2 := crc.more_any (crc.sum l) b k cb w hT hk bk (by omega)
  rw [crc.more_sum] at c2
  generalize l.length = n at c1 hn2
  generalize k.length = m at c2 hm2
  unfold recd.sumOf
  generalize crc.sum l = s1 at c1 c2
  generalize crc.sum (l ++ k) = s2 at c2
  have hs2 : s2.toNat < 4294967296 := s2.isLt
  have e2 : IntKind.u64.wrap ((s2.toNat : Nat) : Int) = ((s2.toNat : Nat) : Int) := by rw [IntKind.wrap_u64]; omega
  have C1 := Lib.hid c1
  have C2 := Lib.hid c2
  clear c1 c2
  go_enter Tryd.func60, Tryd.ntmps60
  go_wp2_with fail
  refine C1.out.mono ?_
  rintro e w' ⟨rfl, rfl⟩
  go_wp2_with fail
  refine C2.out.mono ?_
  rintro e w' ⟨rfl, rfl⟩
  go_wp2
  go_ret
  exact ⟨rfl, rfl⟩

set_option maxRecDepth 100000 in
set_option maxHeartbeats 4000000 in
theorem encode_any (w : World) (hT : crc.Tab w) (t : Nat) (a : Option Addr) (n cap : Nat) (x : List Int) (hx : Leads w a x) (hb : Byte x) (hn : x.length = n) (hn2 : n ≤ 100000000) (ha : a = none → cap = 0) :
    Calls Tryd.prog 41 #[.int .u64 (t : Int), .slice a n cap] w (Made w (slotE t x)) := by
  have e1 : IntKind.u64.wrap (n : Int) = (n : Int) := by rw [IntKind.wrap_u64]; omega
  have HX := Lib.hid hx
  have HB := Lib.hid hb
  have HN := Lib.hid hn
  have HT := Lib.hid hT
  have HA := Lib.hid ha
  clear hx hb hn hT ha
  go_enter Tryd.func41, Tryd.ntmps41
  go_wp2_with fail
  refine (put_any t 8 (by decide) w).mono ?_
  rintro e w1 ⟨v1, rfl, o1, n1, b1⟩
  have G1 : Hid (Grow w (be t 8) v1 w1) := ⟨o1, n1, b1⟩
  clear o1 n1 b1
  go_wp2_with fail
  refine (put_any n 4 (by decide) w1).mono ?_
  rintro e wm hm
  obtain ⟨a2, c2, v2, w2, rfl, r2, g2⟩ := G1.out.put 4 (be_length _ _) hm (by rw [be_length]; decide)
  obtain ⟨hd, hh⟩ : ∃ hd, be t 8 ++ be n 4 = hd := ⟨_, rfl⟩
  have hl : hd.length = 12 := by rw [← hh, List.length_append, be_length, be_length]
  have hby : Byte hd := by rw [← hh]; exact (show Byte (be t 8) from be_byte 8 t).append (be_byte 4 n)
  rw [hh] at g2
  have R2 := Lib.hid r2
  have G2 := Lib.hid g2
  have HH := Lib.hid hh
  have HL := Lib.hid hl
  have HBY := Lib.hid hby
  clear r2 g2 hm hh hl hby
  go_wp2_with ((with_reducible show wpList _ _ _ (⟨some 12, _, _, _, _, _⟩ :: _) _ _); refine wpList_append_run 44 (.tmp 7) (.tmp 11) _ _ rfl rfl rfl rfl rfl R2.out ?_)
  obtain ⟨ah, ch, rfl, hc1, hc2, hc3, hlh, _⟩ := G2.out.own.form
  rw [HL.out] at hc1 hc3 ⊢
  have CS := Lib.hid (slsum_any w2 (HT.out.later G2.out.below) ah a 12 n ch cap hd x hlh (HX.out.later G2.out.below) HBY.out HB.out HL.out HN.out (by omega) (by omega))
  clear hlh R2
  go_wp2_with fail
  refine CS.out.mono ?_
  rintro e w3 ⟨rfl, rfl⟩
  obtain ⟨s, hs⟩ : ∃ s, recd.sumOf (hd ++ x) = s := ⟨_, rfl⟩
  rw [hs]
  have HS := Lib.hid hs
  clear hs CS
  go_wp2_with fail
  refine (put_any s 4 (by decide) w2).mono ?_
  rintro e wm hm
  obtain ⟨a4, c4, v4, w4, rfl, r4, g4⟩ := G2.out.put 4 (be_length _ _) hm (by rw [HL.out]; decide)
  have hl4 : (hd ++ be s 4).length = 16 := by rw [List.length_append, HL.out, be_length]
  obtain ⟨v5, w5, r5, g5⟩ := g4.row a n cap (HX.out.later g4.below) HN.out HA.out (by rw [hl4]; omega)
  rw [HL.out] at r4
  have R4 := Lib.hid r4
  have R5 := Lib.hid r5
  have G5 := Lib.hid g5
  clear r4 r5 g5 g4 hm hl4
  go_wp2_with (first
    | ((with_reducible show wpList _ _ _ (⟨some 18, _, _, _, _, _⟩ :: _) _ _); refine wpList_append_run 44 (.tmp 13) (.tmp 17) _ _ rfl rfl rfl rfl rfl R4.out ?_)
    | ((with_reducible show wpList _ _ _ (⟨some 20, _, _, _, _, _⟩ :: _) _ _); refine wpList_append_run 44 (.tmp 18) (.tmp 19) _ _ rfl rfl rfl rfl rfl R5.out ?_))
  have hfin : (hd ++ be s 4) ++ x = slotE t x := by
    unfold slotE
    rw [HN.out, ← HS.out, ← HH.out]
    simp only [List.append_assoc]
  have FIN : Hid (Made w (slotE t x) (.returned v5) w5) := ⟨v5, rfl, by rw [← hfin]; exact G5.out.own, G5.out.new_, G5.out.below⟩
  clear hfin
  go_ret
  exact FIN.out
end Go.Proofs.YtpgclhpobijdeaaDoor.slots
