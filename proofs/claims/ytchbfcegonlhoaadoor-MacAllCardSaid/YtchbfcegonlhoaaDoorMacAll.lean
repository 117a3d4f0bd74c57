/-
  THE WALK OF 'MacAll': any key and bytes have their tag.
-/
import Derived.Test.YtchbfcegonlhoaaDoorShaShort
import Derived.Test.YtchbfcegonlhoaaDoorMacBegun
import Derived.Test.YtchbfcegonlhoaaDoorRefMac
namespace Go.Proofs.YtchbfcegonlhoaaDoor.sha
open Go.RowKit

set_option maxRecDepth 100000 in
set_option maxHeartbeats 2000000 in
theorem macAll_any (a0 : Option Addr) (len0 cap0 : Nat) (l0 : List Int) (a1 : Option Addr) (len1 cap1 : Nat) (l1 : List Int) (m : Int) (w : World) (hT : Tab w) (h0 : Row w a0 len0 cap0 l0) (h1 : Row w a1 len1 cap1 l1) (hm : -9223372036854775808 ≤ m ∧ m ≤ 9223372036854775807) :
    Calls Tryd.prog 5 #[.slice a0 len0 cap0, .slice a1 len1 cap1, .int .i64 m] w fun e w' => e = .returned (.bool true) ∧ Below w.heap.size w w' := by
  have HB := Lib.hid (begun3_any w hT)
  have HS := fun w1 => Lib.hid (short_any a0 len0 cap0 100 w1 h0.le h0.nil (by omega))
  have HS1 := fun w1 => Lib.hid (short_any a1 len1 cap1 200 w1 h1.le h1.nil (by omega))
  have HT := Lib.hid hT
  have hs := h0.short 100
  have hs1 := h1.short 200
  have HR := Lib.hid hs
  have HR1 := Lib.hid hs1
  obtain ⟨p, hp⟩ : ∃ p, min len0 100 = p := ⟨_, rfl⟩
  have hp2 : p ≤ 100 := by omega
  simp only [hp] at HS HR
  obtain ⟨q1, hq⟩ : ∃ q, min len1 200 = q := ⟨_, rfl⟩
  have hq2 : q1 ≤ 200 := by omega
  simp only [hq] at HS1 HR1
  obtain ⟨L, hL⟩ : ∃ L, l0.take 100 = L := ⟨_, rfl⟩
  rw [hL] at HR
  obtain ⟨p1, hL1⟩ : ∃ L, l1.take 200 = L := ⟨_, rfl⟩
  rw [hL1] at HR1
  clear hT h0 hs hp hL h1 hs1 hq hL1
  go_enter Tryd.func5, Tryd.ntmps5
  go_wp2_with fail
  refine HB.out.mono ?_
  rintro e w1 ⟨rfl, hb1⟩
  have KB1 := Lib.hid hb1
  have hr1 := HR.out.later hb1
  obtain ⟨v2, w2, run2, own2, bel2, _, _⟩ := append_row (Own.none_ w1 w1.heap.size) a0 p cap0 L hr1.bytes hr1.length (fun e => (hr1.nil e).2) (by simp; omega) (Nat.le_refl _)
  rw [List.nil_append] at own2
  have hLl : L.length = p := hr1.length
  have hLb : Byte L := hr1.byte
  have kb2 := hb1.trans (bel2.mono hb1.size)
  have Run2 := Lib.hid run2
  have Own2 := Lib.hid own2
  have KB2 := Lib.hid kb2
  have hbase : w1.heap.size ≤ w2.heap.size := bel2.size
  clear hb1 hr1 run2 own2 bel2 kb2 HB HR
  go_wp2_with fail
  refine (HS _).out.mono ?_
  rintro e w' ⟨rfl, rfl⟩
  clear HS
  have hng := noGuard
  obtain ⟨A, c, hv, f1, f2, f3, f4, _, _⟩ := Own2.out.form
  rw [hLl] at hv f1 f3
  subst hv
  go_wp2_with (first
    | (at_builtin; refine wpList_append_run (.const (.slice none 0 0)) (.tmp 12) _ _ rfl rfl rfl rfl rfl Run2.out ?_)
    | fail)
  refine (HS1 _).out.mono ?_
  rintro e w' ⟨rfl, rfl⟩
  clear HS1
  by_cases hc : 0 < m ∧ m < 100
  · obtain ⟨n, rfl⟩ : ∃ n : Nat, m = (n : Int) := ⟨m.toNat, by omega⟩
    obtain ⟨v3, w3, run3, own3, bel3, _⟩ := append_zeros Own2.out n (by omega) (by omega) hbase
    have kb3 := KB2.out.trans (bel3.mono KB1.out.size)
    obtain ⟨A3, c3, hv3, g1, g2, g3, g4, _, _⟩ := own3.form
    have hln : (L ++ List.replicate n 0).length = p + n := by rw [List.length_append, List.length_replicate, hLl]
    rw [hln] at hv3 g1 g3
    subst hv3
    have HLN := Lib.hid hln
    have HBY := Lib.hid (hLb.append (Byte.zeros n))
    have HLD := Lib.hid g4
    have KB3 := Lib.hid kb3
    have Run3 := Lib.hid run3
    have HA3 := Lib.hid (show A3 = none → p + n = 0 ∧ c3 = 0 from g3)
    have same0 := bytes_same (tagOf (L ++ List.replicate n 0) p1) (tagOf_length _ _)
    obtain ⟨c1, c2⟩ := hc
    clear own3 bel3 run3 kb3 g3 g4 hln f1 f2 f3 f4 Own2 hLb hLl
    go_wp2_with (first
      | (at_builtin; refine wpList_append_zeros (.tmp 22) (.tmp 23) _ _ rfl rfl rfl rfl rfl Run3.out ?_)
      | fail)
    refine (macSum_any A3 (L ++ List.replicate n 0) (p + n) c3 a1 p1 q1 cap1 w3 (HT.out.later KB3.out) ⟨HLN.out, g1, g2, HA3.out, HLD.out, HBY.out⟩ (HR1.out.later KB3.out) (by omega) (by omega)).mono ?_
    rintro e w4 ⟨rfl, h4⟩
    have kb4 := KB3.out.trans (h4.mono KB3.out.size)
    have ld4 := HLD.out.later h4
    have KB4 := Lib.hid kb4
    have LD4 := Lib.hid ld4
    clear h4 kb4 ld4
    go_wp2_with fail
    refine (rMac_any A3 (L ++ List.replicate n 0) (p + n) c3 a1 p1 q1 cap1 w4 ⟨HLN.out, g1, g2, HA3.out, LD4.out, HBY.out⟩ (HR1.out.later KB4.out) (by omega) (by omega)).mono ?_
    rintro e w5 ⟨rfl, h5⟩
    have kb5 := KB4.out.trans (h5.mono KB4.out.size)
    have KB5 := Lib.hid kb5
    clear h5 kb5
    go_wp2
    go_ret
    exact ⟨rfl, KB5.out⟩
  · have HLN := Lib.hid hLl
    have HBY := Lib.hid hLb
    have HLD := Lib.hid f4
    have HA3 := Lib.hid (show A = none → p = 0 ∧ c = 0 from f3)
    have same0 := bytes_same (tagOf L p1) (tagOf_length _ _)
    clear f3 f4 Own2 hLb hLl
    rcases (show ¬ 0 < m ∨ (0 < m ∧ ¬ m < 100) by omega) with c1 | ⟨c1, c2⟩
    all_goals
      clear hc
      go_wp2_with fail
      refine (macSum_any A L p c a1 p1 q1 cap1 w2 (HT.out.later KB2.out) ⟨HLN.out, f1, f2, HA3.out, HLD.out, HBY.out⟩ (HR1.out.later KB2.out) (by omega) (by omega)).mono ?_
      rintro e w4 ⟨rfl, h4⟩
      have kb4 := KB2.out.trans (h4.mono KB2.out.size)
      have ld4 := HLD.out.later h4
      have KB4 := Lib.hid kb4
      have LD4 := Lib.hid ld4
      clear h4 kb4 ld4
      go_wp2_with fail
      refine (rMac_any A L p c a1 p1 q1 cap1 w4 ⟨HLN.out, f1, f2, HA3.out, LD4.out, HBY.out⟩ (HR1.out.later KB4.out) (by omega) (by omega)).mono ?_
      rintro e w5 ⟨rfl, h5⟩
      have kb5 := KB4.out.trans (h5.mono KB4.out.size)
      have KB5 := Lib.hid kb5
      clear h5 kb5
      go_wp2
      go_ret
      exact ⟨rfl, KB5.out⟩
end Go.Proofs.YtchbfcegonlhoaaDoor.sha
