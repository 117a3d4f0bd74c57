import Derived.Test.YtchbfcegonlhoaaDoorRefRound
import Derived.Test.YtchbfcegonlhoaaDoorRefDigMath
import Derived.Test.YtchbfcegonlhoaaDoorRefOut
import Derived.Test.YtchbfcegonlhoaaDoorRefLast
import Derived.Test.YtchbfcegonlhoaaDoorShaSum
import Derived.Deep.RegionLaw
import Derived.BigRegion
import Derived.Deep.QuietTactic
import Derived.BigQuiet
import Derived.IntWalk
namespace Go.Proofs.YtchbfcegonlhoaaDoor.sha
open Go.RowKit

def z64w : List (BitVec 32) := List.replicate 64 0
theorem zero64w (w : World) : (zeroValue 44).run Tryd.prog w = .ok (.agg (u32s z64w).toArray) w := by kernel_rfl
theorem z64w_filled : z64w = filled [] := rfl

set_option maxRecDepth 100000 in
set_option maxHeartbeats 1500000 in
theorem rdig_any (a : Option Addr) (t : List Int) (n cap : Nat) (ks : List (BitVec 32)) (s0 : St) (w : World) (hL : Leads w a t) (hy : Byte t) (hn : t.length = n) (hks : ks.length = 64) (ha : a = none → cap = 0) (hn1 : n ≤ 10000) :
    Calls Tryd.prog 23 #[.slice a n cap, .agg (u32s ks).toArray, .agg (u32s s0.list).toArray] w fun e w' => e = .returned (.agg (u8s (out (stG ks s0 (padded t) ((padded t).length / 64)))).toArray) ∧ Below w.heap.size w w' := by
  -- the beginning's world
  obtain ⟨w0, hw0⟩ : ∃ w0, ((w.alloc (.cells (u32s ks).toArray 44)).alloc (.cells (u32s s0.list).toArray 45)).alloc (.cells (u8s z32).toArray 25) = w0 := ⟨_, rfl⟩
  have b0 : Below w.heap.size w w0 := by rw [← hw0]; exact (((Below.refl _ _).alloc (Nat.le_refl _) _).alloc (by simp) _).alloc (by simp; omega) _
  have z0 : w0.heap.size = w.heap.size + 3 := by rw [← hw0]; simp
  have k0 : Whole w0 w.heap.size 44 (u32s ks) := by rw [← hw0]; exact ((Whole.new_ rfl rfl).more _).more _
  have h0 : Whole w0 (w.heap.size + 1) 45 (u32s s0.list) := by rw [← hw0]; exact (Whole.new_ (by simp) rfl).more _
  have o0 : Whole w0 (w.heap.size + 2) 25 (u8s z32) := by rw [← hw0]; exact Whole.new_ (by simp) rfl
  -- the text, and one bit behind it
  obtain ⟨v1, w1, run1, own1, bel1, _, _⟩ := append_row (Own.none_ w0 w0.heap.size) a n cap t (hL.later b0) hn ha (by simp; omega) (Nat.le_refl _)
  rw [List.nil_append] at own1
  have own1' : Own (w1.alloc (.cells #[.int .u8 128] 5)) w0.heap.size v1 t := World.ownsRow.alloc own1 _
  obtain ⟨v2, w2, run2, own2, bel2, _, _⟩ := append_row own1' (some ⟨w1.heap.size, 0, none⟩) 1 1 [128] (Leads.of_whole (o := 0) (n := 1) (Whole.new_ (l := u8s [128]) rfl rfl) rfl) rfl (fun e => by cases e) (by omega) (by have := bel1.size; simp; omega)
  have own2' : Own w2 w0.heap.size v2 (midPad t 0) := by simpa [midPad] using own2
  have bel2' : Below w0.heap.size w0 w2 := (bel1.trans (((Below.refl _ _).alloc bel1.size _))).trans bel2
  have HB0 := Lib.hid b0
  have K0 := Lib.hid k0
  have H0 := Lib.hid h0
  have O0 := Lib.hid o0
  have Run1 := Lib.hid run1
  have Run2 := Lib.hid run2
  have OWN2 := Lib.hid own2'
  have BEL2 := Lib.hid bel2'
  have HW0 := Lib.hid hw0
  have HN := Lib.hid hn
  have HY := Lib.hid hy
  have HL := Lib.hid hL
  have HKS := Lib.hid hks
  have hz := zero32
  obtain ⟨q, hq⟩ : ∃ q, q = (119 - n % 64) % 64 := ⟨_, rfl⟩
  have HQ := Lib.hid hq
  have hq64 : q < 64 := by omega
  have hq56 : (n + 1 + q) % 64 = 56 := by omega
  have hqn : ∀ j, j < q → (n + 1 + j) % 64 ≠ 56 := by intro j hj; omega
  have HQN := Lib.hid hqn
  have HQ56 := Lib.hid hq56
  clear b0 k0 h0 o0 run1 run2 own1 own1' own2 own2' bel1 bel2 bel2' hw0 hn hy hL hks hq hqn hq56
  go_enter Tryd.func23, Tryd.ntmps23
  go_wp2_with (first
    | (at_builtin; refine wpList_append_run (.const (.slice none 0 0)) (.tmp 24) _ _ rfl rfl rfl rfl rfl (by rw [show _ = w0 from HW0.out]; exact Run1.out) ?_)
    | (at_builtin; refine wpList_append_run (.tmp 25) (.tmp 26) _ _ rfl rfl rfl rfl rfl Run2.out ?_)
    | fail)
  clear hz
  go_loopw [7] (fun v wr => ∃ j : Nat, j ≤ q ∧ Own wr w0.heap.size v (midPad t j) ∧ Below w0.heap.size w0 wr) (fun v _ => q + n + 1 - lenOf v)
  case atStart => exact ⟨0, by omega, OWN2.out, BEL2.out⟩
  case round =>
    obtain ⟨j, hj, hown, hbel⟩ := hrel
    have hml : (midPad t j).length = n + 1 + j := by rw [midPad_length, HN.out]
    obtain ⟨A, c, hv, f1, f2, f3, f4, f5, f6⟩ := hown.form
    rw [hml] at hv f1
    subst hv
    by_cases hjq : j < q
    · have hne : (((n : Int) + 1 + (j : Int)) % 64 == 56) = false := by rw [beq_eq_false_iff_ne]; have := HQN.out j hjq; omega
      have hne2 : (((n : Int) + 1 + (j : Int)) % 64 != 56) = true := by rw [bne, hne]; rfl
      have hown' : Own (wr.alloc (.cells #[.int .u8 0] 5)) w0.heap.size (.slice A (n + 1 + j) c) (midPad t j) := World.ownsRow.alloc hown _
      obtain ⟨v3, w3, run3, own3, bel3, _, _⟩ := append_row hown' (some ⟨wr.heap.size, 0, none⟩) 1 1 [0] (Leads.of_whole (o := 0) (n := 1) (Whole.new_ (l := u8s [0]) rfl rfl) rfl) rfl (fun e => by cases e) (by omega) (by have := hbel.size; simp; omega)
      rw [midPad_snoc] at own3
      obtain ⟨A3, c3, hv3, _⟩ := own3.form
      rw [midPad_length, HN.out] at hv3
      subst hv3
      have kb3 := (hbel.alloc hbel.size (.cells #[.int .u8 0] 5)).trans bel3
      have Run3 := Lib.hid run3
      have Own3 := Lib.hid own3
      have KB3 := Lib.hid kb3
      clear hown' run3 own3 bel3 kb3 hown hbel f1 f2 f3 f4 f5 f6 hml
      go_wp2_with (first
        | (at_builtin; refine wpList_append_run (.tmp 32) (.tmp 33) _ _ rfl rfl rfl rfl rfl Run3.out ?_)
        | fail)
      exact ⟨⟨j + 1, by omega, Own3.out, KB3.out⟩, by simp [lenOf]; omega⟩
    · obtain rfl : j = q := by omega
      have hne : (((n : Int) + 1 + (j : Int)) % 64 == 56) = true := by rw [beq_iff_eq]; have := HQ56.out; omega
      have hne2 : (((n : Int) + 1 + (j : Int)) % 64 != 56) = false := by rw [bne, hne]; rfl
      clear hml f1 f2 f3 f4 f5 f6
      have HOwn := Lib.hid hown
      have HBel := Lib.hid hbel
      clear hown hbel
      go_wp2_with fail
      refine (put_any ((n : Int) * 8) 8 (by omega) wr).mono ?_
      rintro e w4 ⟨⟨v4, rfl, own4⟩, bel4⟩
      rw [putN_eight] at own4
      have own5 : Own w4 w0.heap.size (.slice A (n + 1 + j) c) (midPad t j) := HOwn.out.keep (row := none) ⟨bel4.os, bel4.tape, bel4.output, bel4.size, fun i hi _ => bel4.block i hi⟩ (by
        cases hb : (Value.slice A (n + 1 + j) c).ownBlock with
        | none => exact .inl rfl
        | some g => exact .inr (by simp))
      obtain ⟨A4, c4, hv4, g1, g2, g3, g4, _, _⟩ := own4.form
      rw [eight_length] at hv4 g1 g3
      subst hv4
      obtain ⟨v6, w6, run6, own6, bel6, _, _⟩ := append_row own5 A4 8 c4 (eight ((n : Int) * 8)) g4 rfl (fun e => (g3 e).2) (by rw [midPad_length, HN.out]; omega) (by have := HBel.out.size; have := bel4.size; omega)
      have hfull : midPad t j ++ eight ((n : Int) * 8) = padded t := by rw [HQ.out, ← HN.out]; exact midPad_end t
      rw [hfull] at own6
      have bel6' : Below w0.heap.size w0 w6 := (HBel.out.trans (bel4.mono HBel.out.size)).trans bel6
      have Run6 := Lib.hid run6
      have Own6 := Lib.hid own6
      have KB6 := Lib.hid bel6'
      clear own4 bel4 own5 g1 g2 g3 g4 run6 own6 bel6 hfull bel6' hne hne2
      go_wp2_with (first
        | (at_builtin; refine wpList_append_run (.tmp 35) (.tmp 40) _ _ rfl rfl rfl rfl rfl Run6.out ?_)
        | fail)
      have hbel6 := KB6.out
      have k6 : Whole w6 w.heap.size 44 (u32s ks) := K0.out.keep hbel6 (by omega)
      have h6 : Whole w6 (w.heap.size + 1) 45 (u32s s0.list) := H0.out.keep hbel6 (by omega)
      have o6 : Whole w6 (w.heap.size + 2) 25 (u8s z32) := O0.out.keep hbel6 (by omega)
      have hw6 : Below w.heap.size w w6 := HB0.out.trans (hbel6.mono HB0.out.size)
      have hpy : Byte (padded t) := padded_byte HY.out
      obtain ⟨AM, cM, hvM, m1, m2, m3, m4, m5, m6⟩ := Own6.out.form
      have hpw : ∃ Q, (padded t).length = 64 * Q := ⟨(padded t).length / 64, by have := pad_whole t.length; have e : (padded t).length = t.length + (pad t.length).length := List.length_append; omega⟩
      obtain ⟨Q, hQ⟩ := hpw
      have hQd : (padded t).length / 64 = Q := by omega
      have hQ1 : 0 < Q := by have := padded_length t; omega
      have hQ2 : Q ≤ 1000 := by have := padded_length t; have := HN.out; omega
      rw [hQ] at hvM m1 m3
      obtain ⟨gm, rfl⟩ : ∃ g, AM = some ⟨g, 0, none⟩ := m6.resolve_left (fun e => by have := (m3 e).1; omega)
      subst hvM
      have hres : ∃ R, stG ks s0 (padded t) ((padded t).length / 64) = R ∧ stG ks s0 (padded t) Q = R := ⟨_, rfl, by rw [hQd]⟩
      obtain ⟨R, hR1, hR2⟩ := hres
      have hgp : gm ≠ w.heap.size + 1 := by
        rcases m5 (w.heap.size + 1) with h | ⟨h, _⟩
        · rcases h with h | h
          · rw [h] at hQ; simp at hQ; omega
          · exact h gm 0 rfl
        · omega
      have hgl : gm < w6.heap.size := by
        obtain ⟨b, off, e, hb⟩ := m4.lt (by intro h; rw [h] at hQ; simp at hQ; omega)
        injection e with e; injection e with e; omega
      have K6 := Lib.hid k6
      have H6 := Lib.hid h6
      have O6 := Lib.hid o6
      have HW6 := Lib.hid hw6
      have HPY := Lib.hid hpy
      have HM := Lib.hid m4
      have HQ' := Lib.hid hQ
      have HR1 := Lib.hid hR1
      have HR2 := Lib.hid hR2
      have hw6s := hw6.size
      have h63 : w.heap.size + 3 ≤ w6.heap.size := by have := hbel6.size; omega
      have hzw := zero64w
      clear Own6 KB6 Run6 HB0 K0 H0 O0 HW0 OWN2 BEL2 Run1 Run2 HOwn HBel k6 h6 o6 hw6 hpy m4 m5 m6 m3 hQ hR1 hR2 hbel6 hQd
      generalize hPP : padded t = P at *
      have HPP := Lib.hid hPP
      clear hPP
      go_loopw [8] (fun i wr => ∃ q : Nat, q ≤ Q ∧ i = .int .i64 (64 * (q : Int)) ∧ Whole wr (w.heap.size + 1) 45 (u32s (stG ks s0 P q).list) ∧ w6.grownBy wr (some (w.heap.size + 1))) (fun i _ => 64 * Q - (intOf i).toNat)
      case atStart => exact ⟨0, by omega, by go_num, H6.out, ⟨rfl, rfl, rfl, Nat.le_refl _, fun _ _ _ => rfl⟩⟩
      case round =>
        obtain ⟨q, hq, rfl, hst, hgrow⟩ := hrel
        obtain ⟨wo, rfl⟩ : ∃ wo : World, wo = wr := ⟨_, rfl⟩
        by_cases hqQ : q < Q
        · have hnext : stG ks s0 P (q + 1) = mixG ks (stG ks s0 P q) ((P.drop (64 * q)).take 64) := rfl
          obtain ⟨s, hs⟩ : ∃ s, stG ks s0 P q = s := ⟨_, rfl⟩
          rw [hs] at hnext hst
          have hat : ∀ k, k < 16 → (P.drop (64 * q + 4 * k)).take 4 = [((P.drop (64 * q)).take 64).getD (4 * k) 0, ((P.drop (64 * q)).take 64).getD (4 * k + 1) 0, ((P.drop (64 * q)).take 64).getD (4 * k + 2) 0, ((P.drop (64 * q)).take 64).getD (4 * k + 3) 0] := by
            intro k hk
            rw [four_of P _ (by rw [HQ'.out]; omega), block_at _ _ _ (by omega), block_at _ _ _ (by omega), block_at _ _ _ (by omega), block_at _ _ _ (by omega)]
            rfl
          have hby : Byte ((P.drop (64 * q)).take 64) := (HPY.out.drop _).take _
          have hbl : ((P.drop (64 * q)).take 64).length = 64 := by rw [List.length_take, List.length_drop, HQ'.out]; omega
          obtain ⟨blk, hblk⟩ : ∃ blk, (P.drop (64 * q)).take 64 = blk := ⟨_, rfl⟩
          rw [hblk] at hat hby hbl hnext
          have hmg : mixG ks s blk = s.plus (rnds ks (sched blk) s 64) := rfl
          rw [hmg] at hnext
          have hrm : Leads wo (some ⟨gm, 0, none⟩) P := HM.out.keep hgrow (fun g' e => by injection e with e; subst e; exact .inr (fun b off e => by injection e with e; injection e with e; omega))
          have hko : Whole wo w.heap.size 44 (u32s ks) := K6.out.grown hgrow (by simp)
          have hoz := hgrow.size
          have HNEXT := Lib.hid hnext
          have HAT := Lib.hid hat
          have HBY := Lib.hid hby
          have HBL := Lib.hid hbl
          have HST := Lib.hid hst
          have HGR := Lib.hid hgrow
          have HRM := Lib.hid hrm
          have HKO := Lib.hid hko
          clear hs hnext hat hby hbl hblk hmg hst hgrow hrm hko
          go_wp2_with fail
          go_loopw [10] (fun i wx => ∃ k : Nat, k ≤ 16 ∧ i = .int .i64 k ∧ Whole wx wo.heap.size 44 (u32s (filled (firstN blk k))) ∧ Below wo.heap.size wo wx) (fun i _ => 16 - (intOf i).toNat)
          case atStart => exact ⟨0, by omega, rfl, Whole.new_ rfl rfl, (Below.refl _ _).alloc (Nat.le_refl _) _⟩
          case round =>
            obtain ⟨k, hk, rfl, h1, hbel⟩ := hrel
            by_cases hlt : k < 16
            · have b0 := HBY.out.at (i := 4 * k) (by rw [HBL.out]; omega)
              have b1 := HBY.out.at (i := 4 * k + 1) (by rw [HBL.out]; omega)
              have b2 := HBY.out.at (i := 4 * k + 2) (by rw [HBL.out]; omega)
              have b3 := HBY.out.at (i := 4 * k + 3) (by rw [HBL.out]; omega)
              have hf := firstN_succ blk k
              have hw := W_word b0 b1 b2 b3
              have hg4 := HAT.out k hlt
              have hl := firstN_length blk k
              generalize blk.getD (4 * k) 0 = x0 at b0 hf hw hg4
              generalize blk.getD (4 * k + 1) 0 = x1 at b1 hf hw hg4
              generalize blk.getD (4 * k + 2) 0 = x2 at b2 hf hw hg4
              generalize blk.getD (4 * k + 3) 0 = x3 at b3 hf hw hg4
              have hrd : Leads wr (some ⟨gm, 64 * q + 4 * k, none⟩) [x0, x1, x2, x3] := by
                have h := (((HRM.out.later hbel).drop (64 * q + 4 * k)).take 4)
                rw [hg4, Nat.zero_add] at h
                exact h
              have hy4 : Byte [x0, x1, x2, x3] := by
                intro c hc
                simp only [List.mem_cons, List.not_mem_nil, or_false] at hc
                rcases hc with rfl | rfl | rfl | rfl <;> assumption
              have G4 := fun c => get_any (some ⟨gm, 64 * q + 4 * k, none⟩) [x0, x1, x2, x3] c wr hrd hy4 rfl
              rw [getN_word, ← hw] at G4
              have hd : wr.cell? ⟨wo.heap.size, k, none⟩ = _ := (h1.at_ _).trans (u32s_at _ (by rw [filled_length (by omega)]; omega))
              have hfz : wr.frozen? ⟨wo.heap.size, k, none⟩ = false := h1.free _
              generalize (filled (firstN blk k)).getD k 0 = z at hd
              generalize word x0 x1 x2 x3 = y at hf hw G4
              have hyl := W_lt y
              have hcm : ¬ cM = 64 * q + 4 * k := by omega
              have HG4 := Lib.hid G4
              have HF := Lib.hid hf
              have H1 := Lib.hid h1
              have HL4 := Lib.hid hl
              have HBel := Lib.hid hbel
              clear hrd hy4 G4 hg4 hf h1 hbel hw b0 b1 b2 b3 hl
              go_wp2_with fail
              refine (HG4.out _).mono ?_
              rintro e w' ⟨rfl, rfl⟩
              go_wp2_with fail
              refine ⟨⟨k + 1, by omega, by go_num, ?_, HBel.out.setCell (Nat.le_refl _) _⟩, by simp [intOf]; omega⟩
              have h := H1.out.put k (.int .u32 (W y))
              have hs := filled_set (l := firstN blk k) (by rw [HL4.out]; omega) y
              rw [HL4.out] at hs
              rw [u32s_set, hs, ← HF.out] at h
              exact h
            · obtain rfl : k = 16 := by omega
              obtain ⟨xs, hxs⟩ : ∃ xs, sched blk = xs := ⟨_, rfl⟩
              have hxl : xs.length = 64 := by rw [← hxs]; exact sched_length blk
              have hsp : ∀ k, 16 ≤ k → k < 64 → spreadN (firstN blk 16) (k + 1 - 16) = spreadN (firstN blk 16) (k - 16) ++ [nextWord (spreadN (firstN blk 16) (k - 16))] := by
                intro k h1 h2; rw [show k + 1 - 16 = (k - 16) + 1 by omega]; rfl
              have hsl : ∀ k, 16 ≤ k → (spreadN (firstN blk 16) (k - 16)).length = k := by intro k h1; rw [spreadN_length, firstN_length]; omega
              have hse : spreadN (firstN blk 16) (64 - 16) = xs := by rw [← hxs]; rfl
              rw [show filled (firstN blk 16) = filled (spreadN (firstN blk 16) (16 - 16)) from rfl] at h1
              have hnx := HNEXT.out
              rw [hxs] at hnx
              have HNX := Lib.hid hnx
              have HXL := Lib.hid hxl
              have HSP := Lib.hid hsp
              have HSL := Lib.hid hsl
              have HSE := Lib.hid hse
              have H1 := Lib.hid h1
              have HBel := Lib.hid hbel
              clear hxs hxl hsp hsl hse h1 hbel hnx HNEXT HAT HBY HBL
              obtain ⟨sp, hsp⟩ : ∃ sp : Nat → List (BitVec 32), (fun k => spreadN (firstN blk 16) (k - 16)) = sp := ⟨_, rfl⟩
              have HSP' : Hid (∀ k, 16 ≤ k → k < 64 → sp (k + 1) = sp k ++ [nextWord (sp k)]) := by
                intro k a b; rw [← hsp]; exact HSP.out k a b
              have HSL' : Hid (∀ k, 16 ≤ k → (sp k).length = k) := by intro k a; rw [← hsp]; exact HSL.out k a
              have HSE' : Hid (sp 64 = xs) := by show sp 64 = xs; rw [← hsp]; exact HSE.out
              have H1' : Hid (Whole wr wo.heap.size 44 (u32s (filled (sp 16)))) := by show Whole _ _ _ _; rw [← hsp]; exact H1.out
              clear hsp HSP HSL HSE H1
              go_wp2_with fail
              obtain ⟨wp, rfl⟩ : ∃ wp : World, wp = wr := ⟨_, rfl⟩
              go_loopw [11, 12, 13] (fun i _ _ wx => ∃ k : Nat, 16 ≤ k ∧ k ≤ 64 ∧ i = .int .i64 k ∧ Whole wx wo.heap.size 44 (u32s (filled (sp k))) ∧ Below wo.heap.size wo wx) (fun i _ _ _ => 64 - (intOf i).toNat)
              case atStart => exact ⟨16, by omega, by omega, rfl, H1'.out, HBel.out⟩
              case round =>
                obtain ⟨k, hk0, hk, rfl, h3, hbel⟩ := hrel
                clear H1' HBel
                by_cases hlt : k < 64
                · have hl := HSL'.out k hk0
                  have hn := HSP'.out k hk0 hlt
                  generalize sp k = l at hl hn h3
                  have hw : nextWord l = l.getD (k - 16) 0 + far (l.getD (k - 15) 0) + l.getD (k - 7) 0 + near (l.getD (k - 2) 0) := by rw [nextWord, hl]
                  have c16 : wr.cell? ⟨wo.heap.size, k - 16, none⟩ = _ := (h3.at_ _).trans (u32s_at _ (by rw [filled_length (by omega)]; omega))
                  have c15 : wr.cell? ⟨wo.heap.size, k - 15, none⟩ = _ := (h3.at_ _).trans (u32s_at _ (by rw [filled_length (by omega)]; omega))
                  have c7 : wr.cell? ⟨wo.heap.size, k - 7, none⟩ = _ := (h3.at_ _).trans (u32s_at _ (by rw [filled_length (by omega)]; omega))
                  have c2 : wr.cell? ⟨wo.heap.size, k - 2, none⟩ = _ := (h3.at_ _).trans (u32s_at _ (by rw [filled_length (by omega)]; omega))
                  rw [filled_at (by omega)] at c16 c15 c7 c2
                  have hd : wr.cell? ⟨wo.heap.size, k, none⟩ = _ := (h3.at_ _).trans (u32s_at _ (by rw [filled_length (by omega)]; omega))
                  have hf : wr.frozen? ⟨wo.heap.size, k, none⟩ = false := h3.free _
                  generalize (filled l).getD k 0 = z at hd
                  generalize l.getD (k - 16) 0 = x16 at hw c16
                  generalize l.getD (k - 15) 0 = x15 at hw c15
                  generalize l.getD (k - 7) 0 = x7 at hw c7
                  generalize l.getD (k - 2) 0 = x2 at hw c2
                  have n1 := W_xor (rotr x2 17) (rotr x2 19)
                  have n2 : W x2 / (1024 : Int) = W (x2 >>> 10) := W_shr x2 10
                  have n3 := W_xor (rotr x2 17 ^^^ rotr x2 19) (x2 >>> 10)
                  have f1 := W_xor (rotr x15 7) (rotr x15 18)
                  have f2 : W x15 / (8 : Int) = W (x15 >>> 3) := W_shr x15 3
                  have f3 := W_xor (rotr x15 7 ^^^ rotr x15 18) (x15 >>> 3)
                  have hN : near x2 = rotr x2 17 ^^^ rotr x2 19 ^^^ x2 >>> 10 := rfl
                  have hF : far x15 = rotr x15 7 ^^^ rotr x15 18 ^^^ x15 >>> 3 := rfl
                  rw [← hN] at n3
                  rw [← hF] at f3
                  clear hN hF
                  generalize near x2 = xn at n3 hw
                  generalize far x15 = xf at f3 hw
                  have a1 := W_add x16 xf
                  have a2 := W_add (x16 + xf) x7
                  have a3 := W_add (x16 + xf + x7) xn
                  rw [← hw] at a3
                  have p2 := W_lt x2
                  have p7 := W_lt x7
                  have p15 := W_lt x15
                  have p16 := W_lt x16
                  generalize nextWord l = y at hn hw a3
                  have HNx := Lib.hid hn
                  have H3 := Lib.hid h3
                  have HBel := Lib.hid hbel
                  have HL := Lib.hid hl
                  clear h3 hbel hl hn hw
                  have s2 : IntKind.i64.wrap ((k : Int) - 2) = (k : Int) - 2 := IntWalk.i64_in _ (by omega)
                  have s15 : IntKind.i64.wrap ((k : Int) - 15) = (k : Int) - 15 := IntWalk.i64_in _ (by omega)
                  have t2 : ((k : Int) - 2).toNat = k - 2 := by omega
                  have t15 : ((k : Int) - 15).toNat = k - 15 := by omega
                  have l2 : (2 : Int) ≤ (k : Int) := by omega
                  have l15 : (15 : Int) ≤ (k : Int) := by omega
                  have m2' : ((k : Int) - 2) < 64 := by omega
                  have m15' : ((k : Int) - 15) < 64 := by omega
                  go_wp2_with fail
                  go_quiet ((go_at_call 36; exact rturn_quiet _ _ (by unfold Turns; decide) _ _))
                  go_wp2_with fail
                  go_quiet ((go_at_call 36; exact rturn_quiet2 _ _ (by unfold Turns; decide) _ _ _))
                  clear s2 s15 t2 t15 l2 l15 m2' m15'
                  go_wp2_with fail
                  go_region
                  go_wp2
                  go_roundw
                  case rel =>
                    refine ⟨k + 1, by omega, by omega, by go_num, ?_, ?_⟩
                    · have h := H3.out.put k (.int .u32 (W y))
                      have hs := filled_set (l := l) (by rw [HL.out]; omega) y
                      rw [HL.out] at hs
                      rw [u32s_set, hs, ← HNx.out] at h
                      exact h
                    · exact (below_draws HBel.out _).setCell (by exact Nat.le_refl _) _
                  case measure => simp [intOf]; omega
                · obtain rfl : k = 64 := by omega
                  rw [HSE'.out, filled_full HXL.out] at h3
                  have hNl : w.heap.size + 3 ≤ wo.heap.size := by omega
                  have k4 : Whole wr w.heap.size 44 (u32s ks) := HKO.out.keep hbel (by omega)
                  have s4 : Whole wr (w.heap.size + 1) 45 (u32s s.list) := HST.out.keep hbel (by omega)
                  have hi8 : (Tryd.prog.info? 45).map (·.size) = some (u32s s.list).toArray.size := by rw [u32s_size]; exact info8
                  have hwN : wo.heap.size < wr.heap.size := h3.lt
                  have H3 := Lib.hid h3
                  have K4 := Lib.hid k4
                  have S4 := Lib.hid s4
                  have HI8 := Lib.hid hi8
                  have HBel := Lib.hid hbel
                  clear h3 k4 s4 hi8 hbel HSP' HSL' HSE'
                  go_wp2_with (first
                    | ((with_reducible show wpList _ _ _ _ _ _); refine wpList_load_row rfl 45 (.tmp 5) rfl (w.heap.size + 1) rfl 45 (u32s s.list).toArray (0, 0) _ (by exact S4.out) Tryd.underlying45 rfl HI8.out ?_)
                    | ((with_reducible show wpList _ _ _ _ _ _); refine wpList_store_as rfl 45 (.tmp 14) (.tmp 120) rfl wr.heap.size 0 (u32s s.list).toArray rfl rfl (by exact (Whole.new_ (l := u32s [0, 0, 0, 0, 0, 0, 0, 0]) rfl rfl).there _ _ (by rw [u32s_size]; exact Nat.le_refl 8)) HI8.out (u32s_one _) ?_; intro w5 hw5; have HW5 := Lib.hid hw5; clear hw5)
                    | fail)
                  have v5 : Whole w5 wr.heap.size 45 (u32s s.list) := by
                    rw [← HW5.out]
                    have h := Whole.lay (u32s s.list) 0 (Whole.new_ (w := wr) (g := wr.heap.size) (t := 45) (l := u32s [0, 0, 0, 0, 0, 0, 0, 0]) rfl rfl) (by rw [u32s_length]; exact Nat.le_refl 8)
                    rwa [lay_all _ _ (by rw [u32s_length, u32s_length]; rfl)] at h
                  have b5 : Below wr.heap.size wr w5 := by rw [← HW5.out]; exact below_lay _ _ _ ((Below.refl _ _).alloc (Nat.le_refl _) _) (Nat.le_refl _)
                  have x5 : Whole w5 wo.heap.size 44 (u32s xs) := H3.out.kept b5
                  have k5 : Whole w5 w.heap.size 44 (u32s ks) := K4.out.kept b5
                  have s5 : Whole w5 (w.heap.size + 1) 45 (u32s s.list) := S4.out.kept b5
                  have n5 : Below wo.heap.size wo w5 := HBel.out.trans (b5.mono (by omega))
                  have V5 := Lib.hid v5
                  have X5 := Lib.hid x5
                  have K5 := Lib.hid k5
                  have S5 := Lib.hid s5
                  have N5 := Lib.hid n5
                  clear v5 b5 x5 k5 s5 n5 HW5 H3 K4 S4 HI8 HBel
                  obtain ⟨wq, rfl⟩ : ∃ wq : World, wq = wr := ⟨_, rfl⟩
                  go_loopw [15] (fun i wz => ∃ k : Nat, k ≤ 64 ∧ i = .int .i64 k ∧ Whole wz wq.heap.size 45 (u32s (rnds ks xs s k).list) ∧ Below wq.heap.size w5 wz) (fun i _ => 64 - (intOf i).toNat)
                  case atStart => exact ⟨0, by omega, rfl, V5.out, Below.refl _ _⟩
                  case round =>
                    obtain ⟨k, hk, rfl, hv, hbel⟩ := hrel
                    by_cases hlt : k < 64
                    · have hr : rnds ks xs s (k + 1) = rnd (rnds ks xs s k) (ks.getD k 0) (xs.getD k 0) := rfl
                      have ck : w5.cell? ⟨w.heap.size, k, none⟩ = _ := (K5.out.at_ _).trans (u32s_at _ (by rw [HKS.out]; exact hlt))
                      have cx : w5.cell? ⟨wo.heap.size, k, none⟩ = _ := (X5.out.at_ _).trans (u32s_at _ (by rw [HXL.out]; exact hlt))
                      have ck2 : wr.cell? ⟨w.heap.size, k, none⟩ = _ := (hbel.cell (p := ⟨w.heap.size, k, none⟩) (by show w.heap.size < wq.heap.size; omega)).trans ck
                      have cx2 : wr.cell? ⟨wo.heap.size, k, none⟩ = _ := (hbel.cell (p := ⟨wo.heap.size, k, none⟩) hwN).trans cx
                      clear ck cx
                      have HBel := Lib.hid hbel
                      have HR1 := Lib.hid hr
                      refine dig_round _ _ _ _ _ _ _ _ _ _ _ _ _ _ _ _ _ _ _ _ _ _ _ _ _ _ _ _ _ _ _ _ _ _ _ _ _ _ _ _ _ _ _ _ _ _ _ _ _ _ _ _ _ _ _ _ _ _ _ _ _ _ _ _ _ _ _ _ _ _ _ _ _ _ _ _ _ _ _ _ _ _ _ _ _ _ _ _ _ _ _ _ _ _ _ _ _ _ _ _ _ _ _ _ _ _ _ _ _ _ _ _ _ _ _ _ _ _ _ _ _ _ _ _ _ _ _ _ _ _ _ _ _ _ _ _ _ _ _ _ _ _ _ _ _ _ _ _ _ _ _ _ _ _ _ _ _ _ _ _ _ _ _ _ _ _ _ _ _ _ _ _ _ _ _ _ _ _ _ _ _ _ _ _ _ _ _ _ _ _ _ _ _ _ _ _ _ _ _ _ _ _ _ _ _ _ _ _ _ _ _ _ _ _ _ _ _ _ _ _ _ _ _ _ _ _ _ _ _ _ _ _ _ _ w.heap.size wo.heap.size wq.heap.size k hlt (ks.getD k 0) (xs.getD k 0) (rnds ks xs s k) wr ck2 cx2 hv _ ?_
                      intro z0 z1 z2 z3 z4 z5 z6 z7 z8 z9 z10 z11 z12 z13 z14 z15 z16 z17 z18 z19 z20 z21 z22 z23 z24 z25 z26 z27 z28 z29 z30 z31 z32 z33 z34 z35 z36 z37 z38 z39 z40 z41 z42 z43 z44 z45 z46 z47 z48 z49 z50 z51 z52 z53 z54 z55 z56 z57 z58 z59 z60 z61 z62 z63 z64 z65 z66 z67 z68 z69 z70 z71 z72 z73 z74 z75 z76 z77 z78 z79 z80 z81 z82 z83 z84 z85 z86 z87 z88 z89 z90 z91 z92 z93 z94 z95 w7 hv7 hb7
                      have HV7 := Lib.hid hv7
                      have HB7 := Lib.hid (hb7 _ _ (Nat.le_refl _) HBel.out)
                      clear hv7 hb7 hv hbel hr
                      go_roundw
                      case rel => exact ⟨_, _, _, _, _, _, _, _, _, _, _, _, _, _, _, _, _, _, _, _, _, _, _, _, _, _, _, _, _, _, _, _, _, _, _, _, _, _, _, _, _, _, _, _, _, _, _, _, _, _, _, _, _, _, _, _, _, _, _, _, _, _, _, _, _, _, _, _, _, _, _, _, _, _, _, _, _, _, _, _, _, _, _, _, _, _, _, _, _, _, _, _, _, _, _, _, _, ⟨k + 1, by omega, by go_num, by rw [HR1.out]; exact HV7.out, HB7.out⟩, rfl⟩
                      case measure => simp [intOf]; omega
                    · obtain rfl : k = 64 := by omega
                      obtain ⟨r, hr0⟩ : ∃ r, rnds ks xs s 64 = r := ⟨_, rfl⟩
                      have hnx := HNX.out
                      rw [hr0] at hv hnx
                      have s6 : Whole wr (w.heap.size + 1) 45 (u32s (sumAt s r 0)) := by rw [sumAt_zero]; exact S5.out.keep hbel (by omega)
                      have n6 : Below wo.heap.size wo wr := N5.out.trans (hbel.mono (by omega))
                      have g6 : w6.grownBy wr (some (w.heap.size + 1)) := only_below HGR.out n6
                      have hwv := hv.lt
                      have HNX2 := Lib.hid hnx
                      have HV := Lib.hid hv
                      have S6 := Lib.hid s6
                      have G6 := Lib.hid g6
                      clear hr0 hnx hv s6 n6 g6 hbel HNX K5 X5 S5 N5 V5
                      go_wp2_with fail
                      obtain ⟨wu, rfl⟩ : ∃ wu : World, wu = wr := ⟨_, rfl⟩
                      go_loopw [21] (fun i wv => ∃ k : Nat, k ≤ 8 ∧ i = .int .i64 k ∧ Whole wv (w.heap.size + 1) 45 (u32s (sumAt s r k)) ∧ Whole wv wq.heap.size 45 (u32s r.list) ∧ w6.grownBy wv (some (w.heap.size + 1))) (fun i _ => 8 - (intOf i).toNat)
                      case atStart => exact ⟨0, by omega, rfl, S6.out, HV.out, G6.out⟩
                      case round =>
                        obtain ⟨k, hk, rfl, hs1, hv1, hg1⟩ := hrel
                        clear S6 HV G6
                        by_cases hlt : k < 8
                        · have hset := sumAt_set s r k hlt
                          have ca : wr.cell? ⟨w.heap.size + 1, k, none⟩ = _ := (hs1.at_ _).trans (u32s_at _ (by rw [sumAt_length _ _ _ (by omega)]; exact hlt))
                          rw [sumAt_at s r k hlt] at ca
                          have cb : wr.cell? ⟨wq.heap.size, k, none⟩ = _ := (hv1.at_ _).trans (u32s_at _ (by exact hlt))
                          have hf := hs1.free k
                          generalize s.list.getD k 0 = xa at ca hset
                          generalize r.list.getD k 0 = xb at cb hset
                          have ad := W_add xa xb
                          generalize xa + xb = xc at ad hset
                          have HSET := Lib.hid hset
                          have HS1 := Lib.hid hs1
                          have HV1 := Lib.hid hv1
                          have HG1 := Lib.hid hg1
                          clear hset hs1 hv1 hg1
                          go_wp2_with fail
                          go_region
                          go_wp2
                          go_roundw
                          case rel =>
                            refine ⟨k + 1, by omega, by go_num, ?_, ?_, ?_⟩
                            · have h := HS1.out.put k (.int .u32 (W xc))
                              rw [u32s_set, HSET.out] at h
                              exact h
                            · exact HV1.out.apart (p := ⟨w.heap.size + 1, k, none⟩) (by show wq.heap.size ≠ w.heap.size + 1; omega) _
                            · exact only_draws (only_set HG1.out k _) 1
                          case measure => simp [intOf]; omega
                        · obtain rfl : k = 8 := by omega
                          rw [sumAt_eight] at hs1
                          have hfin : Whole wr (w.heap.size + 1) 45 (u32s (stG ks s0 P (q + 1)).list) := by rw [HNX2.out]; exact hs1
                          have HFIN := Lib.hid hfin
                          have HG1 := Lib.hid hg1
                          clear hs1 hv1 hg1 hfin
                          go_wp2_with fail
                          exact ⟨⟨q + 1, by omega, by go_num, HFIN.out, HG1.out⟩, by simp [intOf]; omega⟩
        · obtain rfl : q = Q := by omega
          rw [HR2.out] at hst
          have hob : Whole wo (w.heap.size + 2) 25 (u8s z32) := O6.out.grown hgrow (by simp)
          have hoz := hgrow.size
          have hbw : Below w.heap.size w wo := below_only HW6.out hgrow (by omega) hw6s
          have hi8 : (Tryd.prog.info? 45).map (·.size) = some (u32s R.list).toArray.size := by rw [u32s_size]; exact info8
          have HST := Lib.hid hst
          have HOB := Lib.hid hob
          have HBW := Lib.hid hbw
          have hz := zero32
          have HOE := Lib.hid (outAt_end R)
          clear hst hob hbw hgrow hi8 hzw
          obtain ⟨l, hl⟩ : ∃ l, R.list = l := ⟨_, rfl⟩
          have hl8 : l.length = 8 := by rw [← hl]; rfl
          rw [hl] at HST HOE
          have HLL := Lib.hid hl8
          clear hl hl8
          go_wp2_with fail
          clear hz
          go_loopw [23] (fun i wy => ∃ k : Nat, k ≤ 8 ∧ i = .int .i64 k ∧ Whole wy wo.heap.size 25 (u8s (outAt l k)) ∧ Below wo.heap.size wo wy) (fun i _ => 8 - (intOf i).toNat)
          case atStart => exact ⟨0, by omega, rfl, Whole.new_ rfl (by rfl), (Below.refl _ _).alloc (Nat.le_refl _) _⟩
          case round =>
            obtain ⟨k, hk, rfl, h1, hbel⟩ := hrel
            by_cases hlt : k < 8
            · have cx : wr.cell? ⟨w.heap.size + 1, k, none⟩ = some (.int .u32 (W (l.getD k 0))) := by
                rw [hbel.cell (p := ⟨w.heap.size + 1, k, none⟩) (by show w.heap.size + 1 < wo.heap.size; omega)]
                exact (HST.out.at_ _).trans (u32s_at _ (by rw [HLL.out]; exact hlt))
              have HBel := Lib.hid hbel
              refine calm_to (dig_last _ _ _ _ _ _ _ _ _ _ _ _ _ _ _ _ _ _ _ _ _ _ _ _ _ _ _ _ _ _ _ _ _ _ _ _ _ _ _ _ _ _ _ _ _ _ _ _ _ _ _ _ _ _ _ _ _ _ _ _ _ _ _ _ _ _ _ _ _ _ _ _ _ _ _ _ _ _ _ _ _ _ _ _ _ _ _ _ _ _ _ _ _ _ _ _ _ _ _ _ _ _ _ _ _ _ _ _ _ _ _ _ _ _ _ _ _ _ _ _ _ _ _ _ _ _ _ _ _ _ _ _ _ _ _ _ _ _ _ _ _ _ _ _ _ _ _ _ _ _ _ _ _ _ _ _ _ _ _ _ _ _ _ _ _ _ _ _ _ _ _ _ _ _ _ _ _ _ _ _ _ _ _ _ _ _ _ _ _ _ _ _ _ _ _ _ _ _ _ _ _ _ _ _ _ _ _ _ _ _ _ _ _ _ _ _ _ _ _ _ _ _ _ _ _ _ _ _ _ _ _ _ _ _ _ (w.heap.size + 1) wo.heap.size k hlt l HLL.out wr cx h1 _ ?_)
              intro z224 z225 z226 z227 z228 z229 z230 z231 z232 z233 z234 z235 z236 w7 hv7 hb7
              have HV7 := Lib.hid hv7
              have HB7 := Lib.hid (hb7 _ _ (Nat.le_refl _) HBel.out.size HBel.out)
              clear hv7 hb7 hbel h1 cx
              go_roundw
              case rel => exact ⟨_, _, _, _, _, _, _, _, _, _, _, _, _, _, ⟨k + 1, by omega, by go_num, HV7.out, HB7.out⟩, rfl⟩
              case measure => simp [intOf]; omega
            · obtain rfl : k = 8 := by omega
              have hout : u8s (outAt l 8) = u8s (out R) := by rw [HOE.out]
              rw [hout] at h1
              have hi32 : (Tryd.prog.info? 25).map (·.size) = some (u8s (out R)).toArray.size := by rw [← hout, u8s_size, outAt_length l HLL.out 8 (by omega)]; exact info32
              have HI32 := Lib.hid hi32
              have kb4 : Below w.heap.size w wr := HBW.out.trans (hbel.mono (by omega))
              have k4 : Whole wr (w.heap.size + 2) 25 (u8s z32) := HOB.out.keep hbel (by omega)
              have hol : (out R).length = 32 := by
                have := outAt_length l HLL.out 8 (by omega); rw [HOE.out] at this; exact this
              have hth : wr.there (w.heap.size + 2) 0 (u8s (out R)).toArray.size := k4.there _ _ (by rw [u8s_size, hol]; exact Nat.le_refl 32)
              have k5 := k4.lay (u8s (out R)) 0 (by rw [u8s_length, hol]; exact Nat.le_refl 32)
              rw [lay_all _ _ (by rw [u8s_length, u8s_length, hol]; rfl)] at k5
              have kb5 := below_lay (u8s (out R)) (w.heap.size + 2) 0 kb4 (by omega)
              have H1 := Lib.hid h1
              have HTH := Lib.hid hth
              have K5 := Lib.hid k5
              have KB5 := Lib.hid kb5
              clear h1 hbel hout hi32 kb4 k4 hol hth k5 kb5
              go_wp2_with (first
                | ((with_reducible show wpList _ _ _ _ _ _); refine wpList_load_row rfl 25 (.tmp 22) rfl wo.heap.size rfl 25 (u8s (out R)).toArray (0, 0) _ (by exact H1.out) Tryd.underlying25 rfl HI32.out ?_)
                | ((with_reducible show wpList _ _ _ _ _ _); refine wpList_store_mid rfl 25 (.tmp 6) (.tmp 237) rfl (w.heap.size + 2) 0 (u8s (out R)).toArray rfl rfl HTH.out HI32.out (u8s_one _) ?_)
                | fail)
              exact bodyPost_ret (results_cell_row rfl _ _ (w.heap.size + 2) 25 (u8s (out R)).toArray (0, 0) _ rfl K5.out Tryd.underlying25 rfl HI32.out) rfl ⟨by rw [HPP.out, HR1.out], KB5.out⟩
end Go.Proofs.YtchbfcegonlhoaaDoor.sha
