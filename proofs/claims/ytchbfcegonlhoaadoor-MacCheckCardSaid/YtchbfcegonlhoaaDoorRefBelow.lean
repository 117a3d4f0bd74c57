/-
  THE WALK OF the reference's "below": m to the k is not above n shifted by 32 k bits.
-/
import Derived.Test.YtchbfcegonlhoaaDoorRefBelowMath
namespace Go.Proofs.YtchbfcegonlhoaaDoor.sha
open Go.RowKit

set_option maxHeartbeats 1000000 in
theorem below_any (m n k : Nat) (hm : m < 281474976710656) (hn : n < 281474976710656) (hn0 : 0 < n) (hk : k ≤ 3) (w : World) :
    Calls Tryd.prog 33 #[.int .u64 (m : Int), .int .u64 (n : Int), .int .i64 (k : Int)] w fun e w' => e = .returned (.bool (fits n k m)) ∧ Below w.heap.size w w' := by
  obtain ⟨i0, hi, hz0, hz1, hz2⟩ := info_parts u64_info
  have HI := Lib.hid hi
  have HZ0 := Lib.hid hz0
  have HZ1 := Lib.hid hz1
  have HZ2 := Lib.hid hz2
  have C1 := Lib.hid (digits_any (m : Int) (by omega) w)
  have HF := Lib.hid (fits_iff n k m)
  have HN0 := Lib.hid hn0
  have HN := Lib.hid hn
  have HM := Lib.hid hm
  clear hi hz0 hz1 hz2 hm hn hn0
  go_enter Tryd.func33, Tryd.ntmps33
  go_wp2_with fail
  refine C1.out.mono ?_
  rintro e w1 ⟨⟨vp, rfl, lp, hop, hdp, hvp, hlp⟩, hb1⟩
  obtain ⟨ap, cp, rfl, _, _, _, hhp, _⟩ := hop.form
  obtain ⟨mp, hmp⟩ : ∃ mp, lp.length = mp := ⟨_, rfl⟩
  rw [hmp] at hlp ⊢
  have C2 := Lib.hid (digits_any 1 (by omega) w1)
  have HHP := Lib.hid hhp
  have HDP := Lib.hid hdp
  have HVP := Lib.hid hvp
  have HMP := Lib.hid hmp
  have HB1 := Lib.hid hb1
  clear C1 hop hdp hvp hb1 hhp hmp
  go_wp2_with fail
  refine C2.out.mono ?_
  rintro e w2 ⟨⟨vx, rfl, lx, hox, hdx, hvx, hlx⟩, hb2⟩
  have HOX := Lib.hid hox
  have HDX := Lib.hid hdx
  have HVX := Lib.hid hvx
  have HLX := Lib.hid hlx
  have HB2 := Lib.hid hb2
  clear C2 hox hdx hvx hlx hb2
  go_wp2_with fail
  go_loopw [8, 9] (fun x i wr => ∃ (j : Nat) (l : List Int), j ≤ k ∧ i = .int .i64 j ∧ OwnN 54 .u64 wr w1.heap.size x l ∧ Dig l ∧ l.length ≤ 3 + 4 * j ∧ val l = (m : Int) ^ j ∧ Below w1.heap.size w1 wr) (fun _ i _ => k - (intOf i).toNat)
  case atStart => exact ⟨0, lx, by omega, rfl, HOX.out, HDX.out, by have := HLX.out; omega, by rw [HVX.out, Int.pow_zero], HB2.out⟩
  case round =>
    obtain ⟨j, l, hj, rfl, hown, hdig, hlen, hval, hbel⟩ := hrel
    clear HOX HDX HVX HLX HB2
    obtain ⟨mx, hmx⟩ : ∃ mx, l.length = mx := ⟨_, rfl⟩
    by_cases hjk : j < k
    · obtain ⟨ax, cx, rfl, _, _, hhx⟩ := hown.shape hmx
      rw [hmx] at hlen
      have C3 := Lib.hid (times_any ax l mx cx ap lp mp cp wr hhx (HHP.out.later hbel) hdig HDP.out hmx HMP.out (by omega) (by omega))
      have HB := Lib.hid hbel
      have HV := Lib.hid hval
      have hmp3 := hlp
      clear hown hdig hval hbel hhx hmx
      go_wp2_with fail
      refine C3.out.mono ?_
      rintro e w3 ⟨⟨v3, rfl, l3, ho3, hd3, hv3, hl3⟩, hb3⟩
      have hs3 := HB.out.size
      have HO3 := Lib.hid (ho3.low hs3)
      have HD3 := Lib.hid hd3
      have HV3 := Lib.hid (show val l3 = (m : Int) ^ (j + 1) by rw [hv3, HV.out, HVP.out, Int.pow_succ])
      have HB3 := Lib.hid (HB.out.trans (hb3.mono hs3))
      clear C3 ho3 hd3 hv3 hb3
      go_wp2_with fail
      exact ⟨⟨j + 1, l3, by omega, by go_num, HO3.out, HD3.out, by omega, HV3.out, HB3.out⟩, by simp [intOf]; omega⟩
    · obtain rfl : j = k := by omega
      obtain ⟨wx, rfl⟩ : ∃ wx : World, wx = wr := ⟨_, rfl⟩
      obtain ⟨x, rfl⟩ : ∃ x : Value, x = u8 := ⟨_, rfl⟩
      have HOX := Lib.hid hown
      have HDX := Lib.hid hdig
      have HVX := Lib.hid hval
      have HLX := Lib.hid hlen
      have HBX := Lib.hid hbel
      have C4 := Lib.hid (digits_any (n : Int) (by have := HN.out; omega) wx)
      clear hown hdig hval hlen hbel hmx HHP HDP HVP HMP
      go_wp2_with fail
      refine C4.out.mono ?_
      rintro e w4 ⟨⟨vy, rfl, ly, hoy, hdy, hvy, hly⟩, hb4⟩
      have hpos : 0 < ly.length := len_pos (by rw [hvy]; have := HN0.out; omega)
      have HOY := Lib.hid hoy
      have HDY := Lib.hid hdy
      have HVY := Lib.hid hvy
      have HLY := Lib.hid hly
      have HPY := Lib.hid hpos
      have HB4 := Lib.hid hb4
      clear C4 hoy hdy hvy hly hb4 hpos
      go_wp2_with fail
      go_loopw [10, 11] (fun y i w' => ∃ (t : Nat) (l : List Int), t ≤ 2 * j ∧ i = .int .i64 t ∧ OwnN 54 .u64 w' wx.heap.size y l ∧ Dig l ∧ l.length ≤ 3 + t ∧ 0 < l.length ∧ val l = (n : Int) * 65536 ^ t ∧ Below wx.heap.size wx w') (fun _ i _ => 2 * j - (intOf i).toNat)
      case atStart => exact ⟨0, ly, by omega, rfl, HOY.out, HDY.out, by have := HLY.out; omega, HPY.out, by rw [HVY.out, Int.pow_zero, Int.mul_one], HB4.out⟩
      case round =>
        obtain ⟨t, l2, ht, rfl, hown, hdig, hlen, hpos, hval, hbel⟩ := hrel
        clear HOY HDY HVY HLY HPY HB4
        by_cases htk : t < 2 * j
        · obtain ⟨my, hmy⟩ : ∃ my, l2.length = my := ⟨_, rfl⟩
          rw [hmy] at hlen hpos
          have hv2 := val_front l2 n t hval
          have hd2 := hdig.front
          have hs := hbel.size
          obtain ⟨ay, cy, rfl, _, hnone, hhy⟩ := hown.shape hmy
          have hlt := World.ownsRow.lt hown
          obtain ⟨b, off, rfl, hcells⟩ := hhy.resolve_left (by intro h; rw [h] at hmy; simp at hmy; omega)
          have hnews : ∀ (jj : Nat) (u : Value), (ns .u64 l2)[jj]? = some u → (wr.alloc (.cells #[.int .u64 0] 54)).cell? (({ block := b, off := off } : Addr).add jj) = some u := by
            intro jj u hu
            have hjl : jj < l2.length := by
              have := (List.getElem?_eq_some_iff.1 hu).1
              rwa [ns_length] at this
            rw [ns_at .u64 l2 hjl] at hu
            cases hu
            rw [Addr.add_mid, show off + jj = off + jj from rfl]
            have hbl : b < wr.heap.size := block_lt_of_cell (hcells jj hjl)
            rw [World.cell?_of_block (w := wr) (by exact heap_alloc_old wr _ hbl)]
            exact hcells jj hjl
          have hfresh : (wr.alloc (.cells #[.int .u64 0] 54)).ownsRow wx.heap.size 54 1 (.slice (some ⟨wr.heap.size, 0, none⟩) 1 1) 1 (ns .u64 [0]) := OwnN.fresh 54 .u64 wr wx.heap.size 0 hs
          have hnl : (ns .u64 l2).length = my * 1 := by rw [ns_length, hmy]; omega
          have HNEWS := Lib.hid hnews
          have HFRESH := Lib.hid hfresh
          have HNL := Lib.hid hnl
          have HV2 := Lib.hid hv2
          have HD2 := Lib.hid hd2
          have HB := Lib.hid hbel
          have HMY := Lib.hid hmy
          clear hnews hfresh hnl hv2 hd2 hbel hmy hown hdig hval hhy hcells hnone hlt
          go_wp2_with (first
            | (at_builtin; refine wpList_append_lies _ rfl (.tmp 32) (.tmp 33) 67 rfl wx.heap.size 54 i0 (.int .u64 0) 1 8 Tryd.underlying67 HI.out HZ0.out HZ1.out HZ2.out rfl (by decide) (.slice (some ⟨wr.heap.size, 0, none⟩) 1 1) 1 (ns .u64 [0]) (by rfl) (by exact HFRESH.out) ⟨b, off, none⟩ my cy (ns .u64 l2) (by rfl) HNL.out (by exact HNEWS.out) (ns_one .u64 l2) (by omega) (by unfold maxLen; omega) (by omega) (by have := HB.out.size; simp; omega) (wr.heap.size + 1) (by simp) ?_; intro g2 cap2 w2' o2 g2' o2' l2'; have O2 := Lib.hid o2; have G2 := Lib.hid g2'; clear o2 g2' o2' l2')
            | fail)
          refine ⟨⟨t + 1, 0 :: l2, by omega, by go_num, ?_, HD2.out, by rw [List.length_cons, HMY.out]; omega, by simp, HV2.out, ((HB.out.alloc (by exact HB.out.size) _).grown G2.out (by have := HB.out.size; simp; omega) (fun g' hg' => by have := HB.out.size; simp [Value.ownBlock] at hg'; omega))⟩, by simp [intOf]; omega⟩
          unfold OwnN
          rw [List.length_cons, HMY.out, Nat.add_comm my 1]
          exact O2.out
        · obtain rfl : t = 2 * j := by omega
          obtain ⟨my, hmy⟩ : ∃ my, l2.length = my := ⟨_, rfl⟩
          rw [hmy] at hlen
          obtain ⟨ay, cy, rfl, _, _, _⟩ := hown.shape hmy
          have hs := hbel.size
          have hs1 := HBX.out.size
          have hx1 := HOX.out.later hbel
          have hap : Apart x (.slice ay my cy) := hown.apart_low (fun g hg => (World.ownsRow.lt HOX.out g hg).2)
          have HX := Lib.hid hx1
          have HAP := Lib.hid hap
          have HY := Lib.hid (hown.low hs1)
          have HYD := Lib.hid hdig
          have HYV := Lib.hid hval
          have HMY := Lib.hid hmy
          have HB := Lib.hid (HBX.out.trans (hbel.mono hs1))
          clear hx1 hap hown hdig hval hmy hbel HOX HBX hs hs1 hpos
          go_wp2_with fail
          go_loopw [8] (fun v w' => ∃ la : List Int, OwnN 54 .u64 w' w1.heap.size v la ∧ Dig la ∧ la.length ≤ 15 ∧ val la = (m : Int) ^ j ∧ OwnN 54 .u64 w' w1.heap.size (.slice ay my cy) l2 ∧ Apart v (.slice ay my cy) ∧ Below w1.heap.size w1 w') (fun v _ => 20 - lenOfN v)
          case atStart => exact ⟨l, HX.out, HDX.out, by have := HLX.out; omega, HVX.out, HY.out, HAP.out, HB.out⟩
          case round =>
            obtain ⟨la, hown, hdig, hlen3, hval, hy, hap, hbel⟩ := hrel
            clear HX HY HAP HB
            obtain ⟨mv, hmv⟩ : ∃ mv, la.length = mv := ⟨_, rfl⟩
            obtain ⟨av, cv, rfl, _, _, _⟩ := hown.shape hmv
            rw [hmv] at hlen3
            by_cases hlt : mv < my
            · have hv2 := val_pad la
              rw [hval] at hv2
              have HO := Lib.hid (hown.owns hmv)
              have HV2 := Lib.hid hv2
              have HD2 := Lib.hid hdig.pad
              have HYA := Lib.hid hy
              have HAP := Lib.hid hap
              have HB := Lib.hid hbel
              have HMV := Lib.hid hmv
              clear hown hdig hval hy hap hbel hmv hv2
              go_wp2_with (first
                | (at_builtin; refine wpList_append_lies _ rfl (.tmp 40) (.tmp 41) 67 rfl w1.heap.size 54 i0 (.int .u64 0) 1 8 Tryd.underlying67 HI.out HZ0.out HZ1.out HZ2.out rfl (by decide) (.slice av mv cv) mv (ns .u64 la) (by rfl) (by exact World.ownsRow.alloc (w := wr) HO.out _) ⟨wr.heap.size, 0, none⟩ 1 1 [.int .u64 0] (by rfl) rfl (by exact World.news_of_block (heap_alloc_new wr _)) (by intro u hu; simp at hu; subst hu; rfl) (by decide) (by unfold maxLen; omega) (by omega) (by have := HB.out.size; simp; omega) (wr.heap.size + 1) (by simp) ?_; intro g2 cap2 w2' o2 g2' o2' l2'; have O2 := Lib.hid o2; have G2 := Lib.hid g2'; have L2 := Lib.hid o2'; clear o2 g2' o2' l2')
                | fail)
              refine ⟨⟨_, _, _, _, _, _, _, _, _, ?_, rfl⟩, by simp [lenOfN]; omega⟩
              refine ⟨la ++ [0], ?_, HD2.out, by rw [List.length_append, HMV.out]; simp; omega, HV2.out, (OwnN.alloc HYA.out _).apart HAP.out G2.out, apart_new HYA.out HAP.out L2.out, ((HB.out.alloc (by exact HB.out.size) _).grown G2.out (by have := HB.out.size; simp; omega) (fun g' hg' => (World.ownsRow.lt HO.out g' hg').1))⟩
              unfold OwnN
              rw [List.length_append, HMV.out, ns_snoc]
              exact O2.out
            · obtain ⟨xv, hxv⟩ : ∃ xv : Value, xv = .slice av mv cv := ⟨_, rfl⟩
              rw [← hxv] at hown hap
              have HX := Lib.hid hown
              have HAP := Lib.hid hap
              have HY := Lib.hid hy
              have HXD := Lib.hid hdig
              have HXV := Lib.hid hval
              have HMV := Lib.hid hmv
              have HB := Lib.hid hbel
              have HXE := Lib.hid hxv
              clear hown hap hy hdig hval hmv hbel hxv
              go_wp2_with fail
              go_loopw [10] (fun v w' => ∃ lb : List Int, OwnN 54 .u64 w' w1.heap.size v lb ∧ Dig lb ∧ lb.length ≤ mv ∧ val lb = (n : Int) * 65536 ^ (2 * j) ∧ OwnN 54 .u64 w' w1.heap.size xv la ∧ Apart xv v ∧ Below w1.heap.size w1 w') (fun v _ => 20 - lenOfN v)
              case atStart => exact ⟨l2, HY.out, HYD.out, by rw [HMY.out]; omega, HYV.out, HX.out, HAP.out, HB.out⟩
              case round =>
                obtain ⟨lb, hown, hdig, hlen4, hval, hx, hap, hbel⟩ := hrel
                clear HX HY HAP HB
                obtain ⟨mb, hmb⟩ : ∃ mb, lb.length = mb := ⟨_, rfl⟩
                obtain ⟨ab, cb, rfl, _, _, _⟩ := hown.shape hmb
                rw [hmb] at hlen4
                by_cases hlt4 : mb < mv
                · have hv2 := val_pad lb
                  rw [hval] at hv2
                  have HO := Lib.hid (hown.owns hmb)
                  have HV2 := Lib.hid hv2
                  have HD2 := Lib.hid hdig.pad
                  have HXA := Lib.hid hx
                  have HAP := Lib.hid hap.symm
                  have HB := Lib.hid hbel
                  have HMB := Lib.hid hmb
                  clear hown hdig hval hx hap hbel hmb hv2
                  go_wp2_with (first
                    | (at_builtin; refine wpList_append_lies _ rfl (.tmp 48) (.tmp 49) 67 rfl w1.heap.size 54 i0 (.int .u64 0) 1 8 Tryd.underlying67 HI.out HZ0.out HZ1.out HZ2.out rfl (by decide) (.slice ab mb cb) mb (ns .u64 lb) (by rfl) (by exact World.ownsRow.alloc (w := wr) HO.out _) ⟨wr.heap.size, 0, none⟩ 1 1 [.int .u64 0] (by rfl) rfl (by exact World.news_of_block (heap_alloc_new wr _)) (by intro u hu; simp at hu; subst hu; rfl) (by decide) (by unfold maxLen; omega) (by omega) (by have := HB.out.size; simp; omega) (wr.heap.size + 1) (by simp) ?_; intro g2 cap2 w2' o2 g2' o2' l2'; have O2 := Lib.hid o2; have G2 := Lib.hid g2'; have L2 := Lib.hid o2'; clear o2 g2' o2' l2')
                    | fail)
                  refine ⟨⟨_, _, _, _, _, _, _, _, _, ?_, rfl⟩, by simp [lenOfN]; omega⟩
                  refine ⟨lb ++ [0], ?_, HD2.out, by rw [List.length_append, HMB.out]; simp; omega, HV2.out, (OwnN.alloc HXA.out _).apart HAP.out G2.out, (apart_new HXA.out HAP.out L2.out).symm, ((HB.out.alloc (by exact HB.out.size) _).grown G2.out (by have := HB.out.size; simp; omega) (fun g' hg' => (World.ownsRow.lt HO.out g' hg').1))⟩
                  unfold OwnN
                  rw [List.length_append, HMB.out, ns_snoc]
                  exact O2.out
                · obtain rfl : mb = mv := by omega
                  obtain ⟨wz, rfl⟩ : ∃ wz : World, wz = wr := ⟨_, rfl⟩
                  have HX := Lib.hid hx
                  have HY := Lib.hid hown
                  have HLD := Lib.hid hdig
                  have HLV := Lib.hid hval
                  have HMB := Lib.hid hmb
                  have HB := Lib.hid (HB1.out.trans (hbel.mono HB1.out.size))
                  clear hx hown hdig hval hmb hbel hap
                  obtain rfl := HXE.out
                  clear HXE
                  go_wp2_with fail
                  go_loopw [12] (fun i w' => ∃ (d : Nat) (iv : Int), d ≤ mb ∧ i = .int .i64 iv ∧ iv = (d : Int) - 1 ∧ la.drop d = lb.drop d ∧ ∃ q, w' = wz.drewN q) (fun i _ => (intOf i + 1).toNat)
                  case atStart => exact ⟨mb, (mb : Int) - 1, by omega, by go_num, rfl, by rw [List.drop_of_length_le (by rw [HMV.out]; omega), List.drop_of_length_le (by rw [HMB.out]; omega)], 0, rfl⟩
                  case round =>
                    obtain ⟨d, iv, hd, rfl, hiv, hdr, q, rfl⟩ := hrel
                    rcases Nat.eq_zero_or_pos d with rfl | hpos
                    · have hfin : fits n j m = true := by
                        rw [HF.out, ← HXV.out, ← HLV.out]
                        rw [List.drop_zero, List.drop_zero] at hdr
                        rw [hdr]
                        exact decide_eq_true (Int.le_refl _)
                      have HFIN := Lib.hid hfin
                      obtain rfl : iv = -1 := by omega
                      clear hfin hdr hiv hd
                      go_wp2_with fail
                      go_ret
                      exact ⟨by rw [HFIN.out]; rfl, below_draws HB.out q⟩
                    · obtain ⟨e, rfl⟩ : ∃ e, d = e + 1 := ⟨d - 1, by omega⟩
                      obtain rfl : iv = (e : Int) := by omega
                      obtain ⟨gx, cx, hxe, _, _⟩ := HX.out.block HMV.out (by omega)
                      obtain ⟨gy, cy2, hye, _, _⟩ := HY.out.block HMB.out (by omega)
                      cases hxe
                      cases hye
                      have cl1 := (HX.out.draws q).cell HMV.out e (by omega)
                      have cl2 := (HY.out.draws q).cell HMB.out e (by omega)
                      have hcmp := val_cmp HXD.out HLD.out (by rw [HMV.out, HMB.out]) (i := e) (by rw [HMV.out]; omega) hdr
                      have hsame := drop_same (j := e) (by rw [HMV.out]; omega) (by rw [HMB.out]; omega) hdr
                      rw [HXV.out, HLV.out] at hcmp
                      have hdraw : ∃ q', wz.drewN q = wz.drewN q' := ⟨q, rfl⟩
                      have hdraw2 : ∀ wq : World, (∃ q', wq = wz.drewN q') → ∃ q', wq.drew = wz.drewN q' := by
                        rintro _ ⟨q', rfl⟩
                        exact ⟨q' + 1, rfl⟩
                      have hbq := below_draws HB.out q
                      generalize wz.drewN q = wq at cl1 cl2 hdraw hbq ⊢
                      have HDR := Lib.hid hdraw
                      have HDR2 := Lib.hid hdraw2
                      have HBQ := Lib.hid hbq
                      clear hdraw hdraw2 hbq
                      generalize la.getD e 0 = va at cl1 hcmp hsame
                      generalize lb.getD e 0 = vb at cl2 hcmp hsame
                      by_cases hv : va = vb
                      · have HS := Lib.hid (hsame hv)
                        subst hv
                        clear hsame hcmp hdr hiv
                        go_wp2_with fail
                        go_region
                        go_wp2_with fail
                        exact ⟨⟨e, (e : Int) - 1, by omega, rfl, by omega, HS.out, HDR2.out _ HDR.out⟩, by simp [intOf]⟩
                      · have hfin : fits n j m = decide (va < vb) := by
                          rw [HF.out, decide_eq_decide]
                          constructor
                          · intro h
                            refine Int.lt_of_not_ge fun h2 => ?_
                            have := hcmp.2 (by omega)
                            omega
                          · exact hcmp.1
                        have HFIN := Lib.hid hfin
                        clear hfin hsame hcmp hdr hiv
                        go_wp2_with fail
                        go_region
                        go_wp2_with fail
                        go_region
                        go_wp2_with fail
                        go_ret
                        exact ⟨by rw [HFIN.out]; rfl, below_draws HBQ.out 2⟩
end Go.Proofs.YtchbfcegonlhoaaDoor.sha
