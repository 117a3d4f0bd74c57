import Derived.Test.YtchbfcegonlhoaaDoorRefDigits
import Derived.Test.YtchbfcegonlhoaaDoorRefCarry
import Derived.BigRegion
namespace Go.Proofs.YtchbfcegonlhoaaDoor.sha
open Go.RowKit

theorem mul_small {a b : Int} (ha : 0 ≤ a ∧ a < 65536) (hb : 0 ≤ b ∧ b < 65536) : 0 ≤ a * b ∧ a * b ≤ 4294836225 := by
  have h1 := Int.mul_nonneg ha.1 hb.1
  have h2 : a * b ≤ 65535 * b := Int.mul_le_mul_of_nonneg_right (by omega) hb.1
  omega

set_option maxHeartbeats 1000000 in
theorem times_any (A : Option Addr) (la : List Int) (m ca : Nat) (Bv : Option Addr) (lb : List Int) (q cb : Nat) (w : World) (hA : Holds .u64 w A la) (hB : Holds .u64 w Bv lb) (ha : Dig la) (hb : Dig lb) (hm : la.length = m) (hq : lb.length = q) (hm1 : m ≤ 100) (hq1 : q ≤ 100) :
    Calls Tryd.prog 40 #[.slice A m ca, .slice Bv q cb] w fun e w' => (∃ v, e = .returned v ∧ ∃ l, OwnN 54 .u64 w' w.heap.size v l ∧ Dig l ∧ val l = val la * val lb ∧ l.length = m + q + 1) ∧ Below w.heap.size w w' := by
  obtain ⟨w1, hmk, own1, bel1⟩ := run_make_nums (kd := .u64) Tryd.underlying67 u64_info (by omega) w (m + q + 1) (by omega)
  rw [show ((m + q + 1 : Nat) : Int) = (m : Int) + (q : Int) + 1 by omega] at hmk
  have HA := Lib.hid hA
  have HB := Lib.hid hB
  have DA := Lib.hid ha
  have DB := Lib.hid hb
  have HM := Lib.hid hm
  have HQ := Lib.hid hq
  have OWN1 := Lib.hid own1
  have BEL1 := Lib.hid bel1
  have hb1 := bel1.size
  clear hA hB ha hb hm hq own1 bel1
  go_enter Tryd.func40, Tryd.ntmps40
  go_wp2_with fail
  clear hmk
  go_loopw [6] (fun i wr => ∃ (x : Nat) (l : List Int), x ≤ m ∧ i = .int .i64 x ∧ OwnN 54 .u64 wr w.heap.size (.slice (some ⟨w.heap.size, 0, none⟩) (m + q + 1) (m + q + 1)) l ∧ Dig l ∧ l.length = m + q + 1 ∧ val l = val (la.take x) * val lb ∧ Below w.heap.size w wr) (fun i _ => m - (intOf i).toNat)
  case atStart => exact ⟨0, _, by omega, rfl, OWN1.out, Dig.zeros _, by simp, by rw [val_zeros]; simp [val], BEL1.out⟩
  case round =>
    obtain ⟨x, l, hx, rfl, hown, hdig, hlen, hval, hbel⟩ := hrel
    obtain ⟨wo, rfl⟩ : ∃ wo : World, wo = wr := ⟨_, rfl⟩
    have HO := Lib.hid hown
    have HD := Lib.hid hdig
    have HLE := Lib.hid hlen
    have HV := Lib.hid hval
    have HBel := Lib.hid hbel
    clear hown hdig hlen hval hbel
    by_cases hxm : x < m
    · have hz : part la lb x 0 = val (la.take x) * val lb := part_zero la lb x
      have hend : part la lb x q = val (la.take (x + 1)) * val lb := by have h := part_full la lb x (by rw [HM.out]; exact hxm); rwa [HQ.out] at h
      have HZ := Lib.hid hz
      have HEND := Lib.hid hend
      clear hz hend
      go_wp2_with fail
      go_loopw [7, 8] (fun i _ wr => ∃ (y : Nat) (l : List Int), y ≤ q ∧ i = .int .i64 y ∧ OwnN 54 .u64 wr w.heap.size (.slice (some ⟨w.heap.size, 0, none⟩) (m + q + 1) (m + q + 1)) l ∧ Dig l ∧ l.length = m + q + 1 ∧ val l = part la lb x y ∧ Below w.heap.size w wr) (fun i _ _ => q - (intOf i).toNat)
      case atStart => exact ⟨0, l, by omega, rfl, HO.out, HD.out, HLE.out, by rw [HZ.out]; exact HV.out, HBel.out⟩
      case round =>
        obtain ⟨y, l, hy, rfl, hown, hdig, hlen, hval, hbel⟩ := hrel
        clear HO HD HLE HV HBel
        by_cases hyq : y < q
        · have hA' := HA.out.later hbel
          have hB' := HB.out.later hbel
          obtain ⟨b1, o1, rfl, k1⟩ := hA'.resolve_left (by intro h; have := HM.out; rw [h] at this; simp at this; omega)
          obtain ⟨b2, o2, rfl, k2⟩ := hB'.resolve_left (by intro h; have := HQ.out; rw [h] at this; simp at this; omega)
          have ca1 := k1 x (by rw [HM.out]; exact hxm)
          have cb1 := k2 y (by rw [HQ.out]; exact hyq)
          have da := DA.out.at (i := x) (by rw [HM.out]; exact hxm)
          have db := DB.out.at (i := y) (by rw [HQ.out]; exact hyq)
          have cl := hown.cell hlen (x + y) (by omega)
          have fl := hown.free hlen (x + y)
          have dl := hdig.at (i := x + y) (by rw [hlen]; omega)
          have hp := part_succ la lb x y (by rw [HQ.out]; exact hyq)
          have hlt := part_lt DA.out DB.out (i := x) (k := y + 1) (by rw [HM.out]; exact hxm)
          rw [HM.out, HQ.out] at hlt
          have hset := val_set (l := l) (i := x + y) (l.getD (x + y) 0 + la.getD x 0 * lb.getD y 0) (by rw [hlen]; omega)
          rw [show l.getD (x + y) 0 + la.getD x 0 * lb.getD y 0 - l.getD (x + y) 0 = la.getD x 0 * lb.getD y 0 by omega, hval, ← hp] at hset
          have ms := mul_small da db
          have hnear := near_of hdig (i := x + y) (by rw [hlen]; omega) (c := l.getD (x + y) 0 + la.getD x 0 * lb.getD y 0) (by omega)
          have hown2 := hown.put hlen (x + y) (l.getD (x + y) 0 + la.getD x 0 * lb.getD y 0)
          have hbel2 := hbel.setCell (p := ⟨w.heap.size, x + y, none⟩) (Nat.le_refl _) (.int .u64 (l.getD (x + y) 0 + la.getD x 0 * lb.getD y 0))
          have hlen2 : (l.set (x + y) (l.getD (x + y) 0 + la.getD x 0 * lb.getD y 0)).length = m + q + 1 := by rw [List.length_set]; exact hlen
          generalize la.getD x 0 = va at ca1 da hnear hown2 hbel2 hset ms hlen2
          generalize lb.getD y 0 = vb at cb1 db hnear hown2 hbel2 hset ms hlen2
          obtain ⟨l2, hl2⟩ : ∃ l2, l.set (x + y) (l.getD (x + y) 0 + va * vb) = l2 := ⟨_, rfl⟩
          rw [hl2] at hnear hown2 hset hlen2
          generalize l.getD (x + y) 0 = vl at cl dl hown2 hbel2
          obtain ⟨T, hT⟩ : ∃ T, part la lb x (y + 1) = T := ⟨_, rfl⟩
          rw [hT] at hset hlt
          have HT := Lib.hid hT
          have HNear := Lib.hid hnear
          have HO2 := Lib.hid hown2
          have HB2 := Lib.hid hbel2
          have HS2 := Lib.hid hset
          have HLT := Lib.hid hlt
          have HL2 := Lib.hid hlen2
          clear hl2 hT hnear hown2 hbel2 hset hlt hlen2 hp hval hdig hlen hown hbel hA' hB' k1 k2
          go_wp2_with fail
          go_region
          go_wp2_with fail
          go_loopw [8] (fun i wr => ∃ (j : Nat) (l : List Int), j < m + q ∧ i = .int .i64 j ∧ OwnN 54 .u64 wr w.heap.size (.slice (some ⟨w.heap.size, 0, none⟩) (m + q + 1) (m + q + 1)) l ∧ Near l j ∧ l.length = m + q + 1 ∧ val l = T ∧ Below w.heap.size w wr) (fun i _ => m + q - (intOf i).toNat)
          case atStart => exact ⟨x + y, l2, by omega, by go_num, HO2.out.draws 1, HNear.out, HL2.out, HS2.out, below_draws HB2.out 1⟩
          case round =>
            obtain ⟨j, l, hj, rfl, hown, hnear, hlen, hval, hbel⟩ := hrel
            clear HNear HO2 HB2 HS2 HL2 fl cl dl
            have cj := hown.cell hlen j (by omega)
            have fj := hown.free hlen j
            have pj := hnear.pos j (by omega)
            have mj := hnear.most
            by_cases hbig : 65535 < l.getD j 0
            · have hroom := carry_room hnear (by omega) hbig (by rw [hval]; exact HLT.out)
              have cj1 := hown.cell hlen (j + 1) (by omega)
              have fj1 := hown.free hlen (j + 1)
              have pj1 := hnear.pos (j + 1) (by omega)
              have sj1 := hnear.small (j + 1) (by omega) (by omega)
              have hn2 := hnear.step (by omega)
              have hv2 := carried_val l j (by omega)
              have hl2 := carried_length l j
              have ho2 := (hown.put hlen (j + 1) (l.getD (j + 1) 0 + l.getD j 0 / 65536)).put (by rw [List.length_set]; exact hlen) j (l.getD j 0 % 65536)
              rw [show (l.set (j + 1) (l.getD (j + 1) 0 + l.getD j 0 / 65536)).set j (l.getD j 0 % 65536) = carried l j from rfl] at ho2
              have hb2 := (hbel.setCell (p := ⟨w.heap.size, j + 1, none⟩) (Nat.le_refl _) (.int .u64 (l.getD (j + 1) 0 + l.getD j 0 / 65536))).setCell (p := ⟨w.heap.size, j, none⟩) (Nat.le_refl _) (.int .u64 (l.getD j 0 % 65536))
              rw [hval] at hv2
              rw [hlen] at hl2
              generalize l.getD j 0 = vj at cj pj mj hbig ho2 hb2
              generalize l.getD (j + 1) 0 = vk at cj1 pj1 sj1 ho2 hb2
              generalize carried l j = l3 at hn2 hv2 hl2 ho2
              have HN2 := Lib.hid hn2
              have HV2 := Lib.hid hv2
              have HL3 := Lib.hid hl2
              have HO3 := Lib.hid ho2
              have HB3 := Lib.hid hb2
              clear hn2 hv2 hl2 ho2 hb2 hown hnear hlen hval hbel
              go_wp2_with fail
              go_region
              go_wp2_with fail
              refine ⟨⟨j + 1, l3, by omega, by go_num, ?_, HN2.out, HL3.out, HV2.out, ?_⟩, by simp [intOf]; omega⟩
              · exact HO3.out
              · exact below_draws HB3.out _
            · have hd := hnear.dig (by omega)
              generalize l.getD j 0 = vj at cj pj mj hbig
              have HO3 := Lib.hid hown
              have HB3 := Lib.hid hbel
              have HD3 := Lib.hid hd
              have HL3 := Lib.hid hlen
              have HV3 := Lib.hid (hval.trans HT.out.symm)
              clear hown hnear hlen hval hbel hd
              go_wp2_with fail
              exact ⟨⟨y + 1, l, by omega, by go_num, HO3.out, HD3.out, HL3.out, HV3.out, HB3.out⟩, by simp [intOf]; omega⟩
        · obtain rfl : y = q := by omega
          rw [HEND.out] at hval
          have HO3 := Lib.hid hown
          have HB3 := Lib.hid hbel
          have HD3 := Lib.hid hdig
          have HL3 := Lib.hid hlen
          have HV3 := Lib.hid hval
          clear hown hlen hval hbel hdig
          go_wp2_with fail
          exact ⟨⟨x + 1, l, by omega, by go_num, HO3.out, HD3.out, HL3.out, HV3.out, HB3.out⟩, by simp [intOf]; omega⟩
    · obtain rfl : x = m := by omega
      have hfull : la.take x = la := List.take_of_length_le (by rw [HM.out]; exact Nat.le_refl x)
      have hv := HV.out
      rw [hfull] at hv
      have HV3 := Lib.hid hv
      clear hv hfull
      go_wp2_with fail
      go_ret
      exact ⟨⟨_, rfl, l, HO.out, HD.out, HV3.out, HLE.out⟩, HBel.out⟩
end Go.Proofs.YtchbfcegonlhoaaDoor.sha
