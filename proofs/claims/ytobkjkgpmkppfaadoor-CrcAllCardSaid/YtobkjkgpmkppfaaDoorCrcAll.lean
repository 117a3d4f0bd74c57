/-
  THE WALK OF 'CrcAll': any bytes have their sum, however they are cut.
-/
import Derived.Test.YtobkjkgpmkppfaaDoorCrcAppend
namespace Go.Proofs.YtobkjkgpmkppfaaDoor.crc
open Go.RowKit

theorem all_any (a0 : Option Addr) (len0 cap0 : Nat) (l0 : List Int) (a1 : Option Addr) (len1 cap1 : Nat) (l1 : List Int) (w : World) (hT : Tab w)
    (h0 : Row w a0 len0 cap0 l0) (h1 : Row w a1 len1 cap1 l1) :
    Calls Tryd.prog 4 #[.slice a0 len0 cap0, .slice a1 len1 cap1] w fun e w' => e = .returned (.bool true) ∧ Below w.heap.size w w' := by
  have HB := Lib.hid (begun_any w hT)
  have hm0 : min len0 300 ≤ 300 := by omega
  have hm1 : min len1 300 ≤ 300 := by omega
  have hs0 := h0.short 300
  have hs1 := h1.short 300
  have HS0 := Lib.hid (fun w1 => short_any a0 len0 cap0 300 w1 h0.le h0.nil (by omega))
  have HS1 := Lib.hid (fun w1 => short_any a1 len1 cap1 300 w1 h1.le h1.nil (by omega))
  clear h0 h1
  generalize min len0 300 = m0 at hs0 HS0 hm0
  generalize l0.take 300 = k0 at hs0
  generalize min len1 300 = m1 at hs1 HS1 hm1
  generalize l1.take 300 = k1 at hs1
  have H0 := Lib.hid hs0
  have H1 := Lib.hid hs1
  clear hs0 hs1
  go_enter Tryd.func4, Tryd.ntmps4
  go_wp2_with fail
  refine HB.out.mono ?_; rintro e w1 ⟨rfl, hb1⟩
  have R0 := H0.out.later hb1
  have R1 := H1.out.later hb1
  have hT1 := hT.later hb1
  obtain ⟨v2, w2, run2, own2, bel2, _⟩ := append_row (Own.none_ w1 w1.heap.size) a0 m0 cap0 k0 R0.bytes R0.length (fun e => (R0.nil e).2) (by have := R0.length; simp; omega) (Nat.le_refl _)
  have R1' := R1.later bel2
  obtain ⟨v3, w3, run3, own3, bel3, _⟩ := append_row own2 a1 m1 cap1 k1 R1'.bytes R1'.length (fun e => (R1'.nil e).2) (by have := R0.length; simp; omega) bel2.size
  have bel4 := bel2.trans bel3
  have R0c := Lib.hid (R0.later bel4)
  have R1c := Lib.hid (R1.later bel4)
  have HT3 := Lib.hid (hT1.later bel4)
  have HB3 : Hid (Below w.heap.size w w3) := hb1.trans (bel4.mono hb1.size)
  obtain ⟨A, cap, rfl, hc1, hc2, _, hbytes⟩ := own3.form
  have HBy := Lib.hid hbytes
  have HL : Hid (([] ++ k0 ++ k1).length = m0 + m1) := by
    show _ = _
    rw [List.nil_append, List.length_append, R0.length, R1.length]
  have HY : Hid (Byte ([] ++ k0 ++ k1)) := by
    intro c hc
    rw [List.nil_append] at hc
    rcases List.mem_append.1 hc with h | h
    · exact R0.byte c h
    · exact R1.byte c h
  rw [HL.out] at run3
  clear hb1 hbytes own3 own2 bel2 bel3 bel4 R0 R1 R1' hT1 hc1 hc2 hT H0 H1 HB
  have Run2 := Lib.hid run2
  have Run3 := Lib.hid run3
  clear run2 run3
  have HA : Hid ([] ++ k0 ++ k1 = k0 ++ k1) := by show _ = _; simp
  go_wp2_with fail
  refine (HS0.out _).mono ?_; rintro e w' ⟨rfl, rfl⟩
  go_wp2_with fail
  refine (HS1.out _).mono ?_; rintro e w' ⟨rfl, rfl⟩
  go_wp2_with (first
    | (at_builtin; refine wpList_append_run (.const (.slice none 0 0)) (.tmp 14) _ _ rfl rfl rfl rfl rfl Run2.out ?_)
    | (at_builtin; refine wpList_append_run (.tmp 15) (.tmp 16) _ _ rfl rfl rfl rfl rfl Run3.out ?_)
    | fail)
  refine (sum_at A ([] ++ k0 ++ k1) _ _ _ HL.out (by omega) HT3.out HBy.out HY.out).mono ?_; rintro e w' ⟨rfl, rfl⟩
  generalize hz : sum ([] ++ k0 ++ k1) = z
  have HZ := Lib.hid hz; clear hz
  go_wp2_with fail
  refine (ref_at A ([] ++ k0 ++ k1) _ _ _ HL.out (by omega) HBy.out HY.out).mono ?_; rintro e w' ⟨rfl, rfl⟩
  rw [HZ.out]
  go_wp2_with fail
  refine (sum_at a0 k0 _ _ _ R0c.out.length (by omega) HT3.out R0c.out.bytes R0c.out.byte).mono ?_; rintro e w' ⟨rfl, rfl⟩
  go_wp2_with fail
  refine (more_at (sum k0) a1 k1 _ _ _ R1c.out.length (by omega) HT3.out R1c.out.bytes R1c.out.byte).mono ?_; rintro e w' ⟨rfl, rfl⟩
  rw [more_sum, ← HA.out, HZ.out]
  go_wp2_with fail
  refine (sum_at A ([] ++ k0 ++ k1) _ _ _ HL.out (by omega) HT3.out HBy.out HY.out).mono ?_; rintro e w' ⟨rfl, rfl⟩
  rw [HZ.out]
  go_wp2
  go_ret
  exact ⟨rfl, HB3.out⟩
end Go.Proofs.YtobkjkgpmkppfaaDoor.crc
