/-
  THE WALK OF 'stillroomlaw7.ScanLost' (P7.1). Written by wip/tools/losttail.py.
-/
import Derived.Test.YtodajceiadbpeaaDoorScLostT
import Derived.Deep.DeepCutAuto
namespace Go.Proofs.YtodajceiadbpeaaDoor.scan
open Go.RowKit Go.Proofs.YtodajceiadbpeaaDoor.disk Go.Proofs.YtodajceiadbpeaaDoor.recd Go.Proofs.YtodajceiadbpeaaDoor.num
set_option linter.unusedVariables false

set_option maxRecDepth 100000 in
set_option maxHeartbeats 8000000 in
theorem lost_any (w : World) (hT : crc.Tab w) (a0 : Option Addr) (len0 cap0 : Nat) (rs : Nat → Rec) (hr : RecRow w a0 len0 cap0 rs) (which at_ : Int) (hwb : -9223372036854775808 ≤ which ∧ which ≤ 9223372036854775807) (hab : -9223372036854775808 ≤ at_ ∧ at_ ≤ 9223372036854775807) (x : Int) (hx : 0 ≤ x ∧ x < 256) :
    Calls Tryd.prog 4 #[.slice a0 len0 cap0, .int .i64 which, .int .i64 at_, .int .u8 x] w fun e w' => e = .returned (.bool true) ∧ Below w.heap.size w w' := by
  have CB := Lib.hid (begun_any w hT)
  have HT := Lib.hid hT
  have HR := Lib.hid hr
  have HX := Lib.hid hx
  have HWB := Lib.hid hwb
  have HAB := Lib.hid hab
  clear hT hr hx hwb hab
  go_enter Tryd.func4, Tryd.ntmps4
  go_wp2_with fail
  refine CB.out.mono ?_
  rintro en w1 ⟨rfl, b1⟩
  have B1 := Lib.hid b1
  clear b1 CB
  go_wp2_with fail
  refine (Good_any a0 len0 cap0 rs w1 (HR.out.later B1.out) 8 (by decide)).mono ?_
  rintro en w2 ⟨gs, ⟨v2, rfl, g2⟩, hg6, hgood⟩
  obtain ⟨m, hm⟩ : ∃ m, gs.length = m := ⟨_, rfl⟩
  rw [hm] at hg6
  obtain ⟨av, cv, rfl, hav⟩ : ∃ a c, v2 = .slice a m c ∧ (0 < m → ∃ g, a = some ⟨g, 0, none⟩) := by
    rcases g2.own.form with ⟨e, e2⟩ | ⟨g, cap, e, _⟩
    · subst e2; refine ⟨_, _, by rw [← hm]; exact e, fun h => by rw [← hm] at h; exact absurd h (Nat.lt_irrefl 0)⟩
    · exact ⟨_, _, by rw [← hm]; exact e, fun _ => ⟨g, rfl⟩⟩
  have o2 := g2.own
  have B2 := Lib.hid (B1.out.trans (g2.below.mono B1.out.size))
  have O2 := Lib.hid o2
  have HM := Lib.hid hm
  have HGD := Lib.hid hgood
  clear o2 hm hgood g2 B1 HR
  by_cases hm0 : m = 0
  · subst hm0
    clear hav
    go_wp2_with fail
    go_ret
    exact ⟨rfl, B2.out⟩
  obtain ⟨g, rfl⟩ := hav (by omega)
  have dz : ¬ (m : Int) = 0 := by omega
  by_cases hw0 : which < 0
  · go_wp2_with fail
    go_ret
    exact ⟨rfl, B2.out⟩
  by_cases ha0 : at_ < 0
  · go_wp2_with fail
    go_ret
    exact ⟨rfl, B2.out⟩
  by_cases hx0 : x = 0
  · go_wp2_with fail
    go_ret
    exact ⟨rfl, B2.out⟩
  obtain ⟨PW, rfl⟩ : ∃ P : Nat, which = (P : Int) := ⟨which.toNat, by omega⟩
  obtain ⟨AT, rfl⟩ : ∃ P : Nat, at_ = (P : Int) := ⟨at_.toNat, by omega⟩
  obtain ⟨p, hp⟩ : ∃ p, PW % m = p := ⟨_, rfl⟩
  have hpm : p < m := by rw [← hp]; exact Nat.mod_lt _ (by omega)
  have hpI : (PW : Int) % (m : Int) = (p : Int) := by rw [← hp, Int.natCast_emod]
  clear hp
  have bm0 : ((m : Int) == 0) = false := by simp; omega
  have bx0 : (x == 0) = false := by simp; omega
  have hwb := HWB.out
  have hab := HAB.out
  go_wp2_with fail
  rw [hpI]
  clear hpI hwb bm0 bx0
  go_loopw [10, 11, 12] (fun bv ev i wr => ∃ (q : Nat), i = .int .i64 (q : Int) ∧ q ≤ m ∧ Pair w2 (cat (gs.take q)) (endsN gs q) bv ev wr) (fun _ _ i _ => ((m : Int) - intOf i).toNat)
  case atStart => exact ⟨0, rfl, Nat.zero_le _, Pair.start w2⟩
  case round =>
    obtain ⟨q, rfl, hq, hg⟩ := hrel
    by_cases hqm : q < m
    · have hqI : (q : Int) < (m : Int) := by omega
      have hql : q < gs.length := by rw [HM.out]; exact hqm
      have hsm := pos_small gs HGD.out q (by omega)
      have hps := pos_succ gs q hql
      have htk := take_snoc gs q hql
      obtain ⟨r, hrq⟩ : ∃ r, gs[q] = r := ⟨_, rfl⟩
      have hgr := HGD.out r (by rw [← hrq]; exact List.getElem_mem hql)
      have ce := fun W => REncode_any r W hgr.fit
      rw [enc, if_pos hgr.1] at ce
      have hle := encL_length r
      have hr2 := hgr.2.2
      rw [hrq] at hps htk
      obtain ⟨N, hN⟩ : ∃ N, 39 + r.body.size = N := ⟨_, rfl⟩
      rw [hN] at hle hps
      have hN3 : N ≤ 239 := by omega
      have hct : cat (gs.take (q + 1)) = cat (gs.take q) ++ encL r := by rw [htk, cat_append, cat_one]
      obtain ⟨E, hE⟩ : ∃ E, encL r = E := ⟨_, rfl⟩
      rw [hE] at ce hle hct
      have hrg := (O2.out.later hg.grow.below).range q hql
      rw [hrq] at hrg
      obtain ⟨k, t, e, o, s, b⟩ := r
      unfold Rec.val at ce
      simp only at ce
      have c0 : wr.cell? ⟨g, q * 6, none⟩ = some (.int .i64 k) := hrg 0 _ rfl
      have c1 : wr.cell? ⟨g, q * 6 + 1, none⟩ = some (.int .u32 (t : Int)) := hrg 1 _ rfl
      have c2 : wr.cell? ⟨g, q * 6 + 2, none⟩ = some (.int .u64 (e : Int)) := hrg 2 _ rfl
      have c3 : wr.cell? ⟨g, q * 6 + 3, none⟩ = some (.int .u64 (o : Int)) := hrg 3 _ rfl
      have c4 : wr.cell? ⟨g, q * 6 + 4, none⟩ = some (.int .u64 (s : Int)) := hrg 4 _ rfl
      have c5 : wr.cell? ⟨g, q * 6 + 5, none⟩ = some (.string b) := hrg 5 _ rfl
      have CE := Lib.hid ce
      have HLE := Lib.hid hle
      have HG := Lib.hid hg
      have HCT := Lib.hid hct
      have HSM := Lib.hid (show (cat (gs.take q)).length ≤ q * 239 from hsm)
      have HPS := Lib.hid (show (cat (gs.take (q + 1))).length = (cat (gs.take q)).length + N from hps)
      clear ce hle hg hct hgr hN hE hrq hql hr2 hrg hsm hps htk
      go_wp2_with fail
      refine (CE.out _).mono ?_
      rintro en w5 hmade
      clear c0 c1 c2 c3 c4 c5
      obtain ⟨a5, c5, v6, w6, rfl, r6, g6⟩ := HG.out.putB N HLE.out hmade (by have := HSM.out; omega)
      rw [← HCT.out] at g6
      obtain ⟨a6, c6, rfl, _, _, _, _, _⟩ := g6.grow.own.form
      obtain ⟨v7, w7, r7, g7⟩ := g6.putE (pos gs (q + 1)) w6.heap.size 1 rfl (by rw [endsN_length]; omega)
      rw [endsN_succ] at g7
      obtain ⟨Z, hZ⟩ : ∃ Z, (cat (gs.take (q + 1))).length = Z := ⟨_, rfl⟩
      rw [show pos gs (q + 1) = Z from hZ] at r7
      rw [hZ] at g7 r6
      have R6 := Lib.hid r6
      have R7 := Lib.hid r7
      have FIN := Lib.hid (show ∃ (q2 : Nat), Value.int .i64 ((q : Int) + 1) = .int .i64 (q2 : Int) ∧ q2 ≤ m ∧ Pair w2 (cat (gs.take q2)) (endsN gs q2) (.slice a6 Z c6) v7 w7 from ⟨q + 1, by rw [Int.natCast_add]; rfl, by omega, g7⟩)
      clear r6 r7 g6 g7 hmade HG CE HCT HSM HPS hZ
      go_wp2_with (first
        | ((with_reducible show wpList _ _ _ (⟨some 57, _, _, _, _, _⟩ :: _) _ _); refine wpList_append_run 26 (.tmp 51) (.tmp 56) _ _ rfl rfl rfl rfl rfl R6.out ?_)
        | ((with_reducible show wpList _ _ _ (⟨some 62, _, _, _, _, _⟩ :: _) _ _); refine wpList_append_of 44 44 (.tmp 58) (.tmp 61) _ _ rfl rfl rfl rfl rfl R7.out ?_))
      refine ⟨FIN.out, ?_⟩
      show ((m : Int) - ((q : Int) + 1)).toNat < ((m : Int) - (q : Int)).toNat
      omega
    · obtain rfl : q = m := by omega
      have hqI : ¬ (q : Int) < (q : Int) := by omega
      have et : gs.take q = gs := List.take_of_length_le (by rw [HM.out]; exact Nat.le_refl _)
      rw [et] at hg
      obtain ⟨NB, hNB⟩ : ∃ N, (cat gs).length = N := ⟨_, rfl⟩
      have hall := pos_all gs (k := q) (by rw [HM.out]; exact Nat.le_refl _)
      have hle9 := pos_le gs q (by rw [HM.out]; exact Nat.le_refl _)
      have hsm9 := pos_small gs HGD.out q (by rw [HM.out]; exact Nat.le_refl _)
      rw [hall, hNB] at hle9 hsm9
      obtain ⟨ab, cb, rfl, hcb, hcm, hbn, hlb, hb0⟩ := hg.grow.own.form
      rw [hNB] at hcb hbn hg
      obtain ⟨gb, rfl⟩ : ∃ gb, ab = some ⟨gb, 0, none⟩ := by
        rcases hb0 with e | ⟨gb, e, _⟩
        · have := hbn e; omega
        · exact ⟨gb, e⟩
      obtain ⟨ge, ce, rfl, hec⟩ : ∃ ge ce, u11 = .slice (some ⟨ge, 0, none⟩) q ce ∧ ∀ k, k < q → wr.cell? ⟨ge, k, none⟩ = some (.int .i64 (pos gs (k + 1) : Nat)) := by
        rcases hg.ends.own.form with ⟨_, e⟩ | ⟨ge, ce, e, _, _, _, hc⟩
        · have := congrArg List.length e; rw [endsN_length] at this; exact absurd this hm0
        · rw [endsN_length] at e
          refine ⟨ge, ce, e, fun k hk => ?_⟩
          have hk2 : k < (endsN gs q).length := by rw [endsN_length]; exact hk
          have := hc k hk2 0 (by decide)
          rw [endsN_at gs q k hk2, show k * fInt.sz + 0 = k by show k * 1 + 0 = k; omega] at this
          exact this
      have hpl : p < gs.length := by rw [HM.out]; exact hpm
      have hgeb : ge ≠ gb := fun e => hg.apart gb rfl (by rw [e]; rfl)
      have hgen : w2.heap.size ≤ ge := hg.ends.new_ ge rfl
      have hgbn : w2.heap.size ≤ gb := hg.grow.new_ gb rfl
      have eT := hec p hpm
      have hsT := pos_succ gs p hpl
      have hsF := pos_small gs HGD.out p (by omega)
      have hTN : pos gs (p + 1) ≤ NB := by
        rw [← hNB]
        unfold pos
        conv => rhs; rw [← List.take_append_drop (p + 1) gs, cat_append, List.length_append]
        omega
      have hnp := (HGD.out gs[p] (List.getElem_mem hpl)).2.2
      have e1 : 0 < p → wr.cell? ⟨ge, p - 1, none⟩ = some (.int .i64 (pos gs p : Nat)) := fun h => by
        have := hec (p - 1) (by omega)
        rwa [show p - 1 + 1 = p by omega] at this
      have e0 : p = 0 → pos gs p = 0 := fun h => by rw [h]; rfl
      obtain ⟨D, hD⟩ : ∃ D, 39 + gs[p].body.size = D := ⟨_, rfl⟩
      rw [hD] at hsT
      obtain ⟨FR, hFR⟩ : ∃ F, pos gs p = F := ⟨_, rfl⟩
      obtain ⟨TO, hTO⟩ : ∃ F, pos gs (p + 1) = F := ⟨_, rfl⟩
      rw [hFR] at hsT hsF e1 e0
      rw [hTO] at hsT hTN eT
      have hD0 : 39 ≤ D := by omega
      have hDb : D ≤ 239 := by omega
      obtain ⟨off, hoff⟩ : ∃ o, AT % D = o := ⟨_, rfl⟩
      have hod : off < D := by rw [← hoff]; exact Nat.mod_lt _ (by omega)
      have hoI : (AT : Int) % (D : Int) = (off : Int) := by rw [← hoff, Int.natCast_emod]
      have hDI : (TO : Int) - (FR : Int) = (D : Int) := by omega
      have dz2 : ¬ (D : Int) = 0 := by omega
      have HSD := Lib.hid (show FR + D = TO by omega)
      clear hsT
      have hg8 : q ≤ 8 := hg6
      have HEC := Lib.hid hec
      have HGR := Lib.hid hg.grow
      have HNB := Lib.hid hNB
      have HLB := Lib.hid hlb
      have HE0 := Lib.hid e0
      have HE1 := Lib.hid e1
      have HOFF := Lib.hid hoff
      have HF := Lib.hid hFR
      have HTO := Lib.hid hTO
      rw [hNB]
      clear hg hec hNB hlb hb0 hbn e0 e1 hoff et hall hD hFR hTO hpl hnp hqI hqm hq hg6
      have hnI : ¬ (q : Int) < (q : Int) := by omega
      by_cases hp0 : 0 < p
      · have hp0I : (0 : Int) < (p : Int) := by omega
        obtain ⟨p1, hp1⟩ : ∃ p1, p - 1 = p1 := ⟨_, rfl⟩
        have hp1I : (p : Int) - 1 = (p1 : Int) := by omega
        have e1 := HE1.out hp0
        rw [hp1] at e1
        clear HE0 HE1 hp1
        by_cases ho1 : 31 ≤ off ∧ off < 35
        · have ho1a : (31 : Int) ≤ (off : Int) := by omega
          have ho1b : (off : Int) < 35 := by omega
          have b9 := B2.out.trans (HGR.out.below.mono B2.out.size)
          have B9 := Lib.hid b9
          clear b9
          go_wp2_with fail
          go_ret
          exact ⟨rfl, B9.out⟩
        have hN9 : NB ≤ 2000 := by omega
        go_upto_region 21 with fail
        all_goals exact lost_tail w w2 wr HT.out gs q p NB cb ce cv g gb ge FR TO D off x HM.out HGD.out hg8 hpm B2.out O2.out HGR.out HNB.out hN9 hcb HEC.out hgeb hgbn HX.out hx0 HF.out HTO.out HSD.out hD0 hTN hod ho1 _ (by assumption)
      · have hp0I : ¬ (0 : Int) < (p : Int) := by omega
        have hF0 := HE0.out (by omega)
        have HF0 := Lib.hid (HF.out.trans hF0)
        have hDT : TO = D := by have := HSD.out; omega
        subst hF0
        subst hDT
        clear HE0 HE1
        by_cases ho1 : 31 ≤ off ∧ off < 35
        · have ho1a : (31 : Int) ≤ (off : Int) := by omega
          have ho1b : (off : Int) < 35 := by omega
          have b9 := B2.out.trans (HGR.out.below.mono B2.out.size)
          have B9 := Lib.hid b9
          clear b9
          go_wp2_with fail
          go_ret
          exact ⟨rfl, B9.out⟩
        have hN9 : NB ≤ 2000 := by omega
        go_upto_region 21 with fail
        all_goals exact lost_tail w w2 wr HT.out gs q p NB cb ce cv g gb ge 0 TO TO off x HM.out HGD.out hg8 hpm B2.out O2.out HGR.out HNB.out hN9 hcb HEC.out hgeb hgbn HX.out hx0 HF0.out HTO.out HSD.out hD0 hTN hod ho1 _ (by assumption)
theorem lost_card (w : World) (hT : crc.Tab w) {a0 : Option Addr} {len0 cap0 : Nat} {rs : Nat → Rec} (hr : RecRow w a0 len0 cap0 rs) {which at_ : Int} (hwb : -9223372036854775808 ≤ which ∧ which ≤ 9223372036854775807) (hab : -9223372036854775808 ≤ at_ ∧ at_ ≤ 9223372036854775807) {x : Int} (hx : 0 ≤ x ∧ x ≤ 255) :
    Calls Tryd.prog 4 #[.slice a0 len0 cap0, .int .i64 which, .int .i64 at_, .int .u8 x] w fun e w' => e = .returned (.bool true) ∧ Below w.heap.size w w' :=
  lost_any w hT a0 len0 cap0 rs hr which at_ hwb hab x ⟨hx.1, by have := hx.2; omega⟩
end Go.Proofs.YtodajceiadbpeaaDoor.scan
