/-
  THE WALK OF 'stillroomlaw7.ScanAll' (P7.1). Written by wip/tools/scanall.py.
-/
import Derived.Test.YtodajceiadbpeaaDoorScRowsIn
import Derived.Test.YtodajceiadbpeaaDoorScBegun
import Derived.Test.YtodajceiadbpeaaDoorScFound
import Derived.Test.YtodajceiadbpeaaDoorScEq
import Derived.Test.YtodajceiadbpeaaDoorScRAll
import Derived.Test.YtodajceiadbpeaaDoorScRFront
import Derived.Test.YtodajceiadbpeaaDoorCrcShort
import Derived.Test.YtodajceiadbpeaaDoorDkCells
namespace Go.Proofs.YtodajceiadbpeaaDoor.scan
open Go.RowKit Go.Proofs.YtodajceiadbpeaaDoor.disk Go.Proofs.YtodajceiadbpeaaDoor.recd Go.Proofs.YtodajceiadbpeaaDoor.num
set_option linter.unusedVariables false

theorem own_leads {w : World} {a : Option Addr} {m c : Nat} {l : List Int} (h : Own w (.slice a m c) l) : Leads w a l := by
  obtain ⟨a', c', e, -, -, -, hl, -⟩ := h.form
  injection e with e1 e2 e3
  subst e1
  exact hl
theorem set_byte {l : List Int} (h : Byte l) {y : Int} (hy : 0 ≤ y ∧ y < 256) {k : Nat} : Byte (l.set k y) := fun c hc => by
  rcases List.mem_or_eq_of_mem_set hc with hc | rfl
  · exact h c hc
  · exact hy
theorem front_small0 (L : List Int) {n : Nat} (h : L.length = n) : (front L 0).1.length ≤ n := by have := front_small L 0; omega
theorem rest_small0 (L : List Int) {n : Nat} (h : L.length = n) : (rest L 0).length ≤ n := by have := rest_small L 0; omega

set_option maxRecDepth 100000 in
set_option maxHeartbeats 4000000 in
theorem all_any (w : World) (hT : crc.Tab w) (a0 : Option Addr) (len0 cap0 : Nat) (rs : Nat → Rec) (hr : RecRow w a0 len0 cap0 rs) (a1 : Option Addr) (len1 cap1 : Nat) (ps : Nat → Piece) (hj : RRow w a1 len1 cap1 ps) (at_ : Int) (ha : -9223372036854775808 ≤ at_ ∧ at_ ≤ 9223372036854775807) (x : Int) (hx : 0 ≤ x ∧ x < 256) :
    Calls Tryd.prog 3 #[.slice a0 len0 cap0, .slice a1 len1 cap1, .int .i64 at_, .int .u8 x] w fun e w' => e = .returned (.bool true) ∧ Below w.heap.size w w' := by
  have CB := Lib.hid (begun_any w hT)
  have HT := Lib.hid hT
  have HR := Lib.hid hr
  have HJ := Lib.hid hj
  have HX := Lib.hid hx
  have HA := Lib.hid ha
  have hjm := hj.most
  clear hT hr hj hx ha
  go_enter Tryd.func3, Tryd.ntmps3
  go_wp2_with fail
  refine CB.out.mono ?_
  rintro en w1 ⟨rfl, b1⟩
  have B1 := Lib.hid b1
  clear b1 CB
  go_wp2_with fail
  refine (Good_any a0 len0 cap0 rs w1 (HR.out.later B1.out) 6 (by decide)).mono ?_
  rintro en w2 ⟨gs, ⟨v2, rfl, g2⟩, hg6, hgood⟩
  obtain ⟨m, hm⟩ : ∃ m, gs.length = m := ⟨_, rfl⟩
  rw [hm] at hg6
  obtain ⟨av, cv, rfl, hav⟩ : ∃ a c, v2 = .slice a m c ∧ (0 < m → ∃ g, a = some ⟨g, 0, none⟩) := by
    rcases g2.own.form with ⟨e, e2⟩ | ⟨g, cap, e, _⟩
    · subst e2; refine ⟨_, _, by rw [← hm]; exact e, fun h => by rw [← hm] at h; exact absurd h (Nat.lt_irrefl 0)⟩
    · exact ⟨_, _, by rw [← hm]; exact e, fun _ => ⟨g, rfl⟩⟩
  have o2 := g2.own
  have B2 := Lib.hid (B1.out.trans (g2.below.mono B1.out.size))
  have O2 := Lib.hid o2
  have HM := Lib.hid hm
  have HGD := Lib.hid hgood
  have HAV := Lib.hid hav
  clear o2 hm hgood g2 hav B1
  go_wp2_with fail
  go_loopw [10, 11] (fun v i wr => ∃ (q : Nat) (bl : List Int), i = .int .i64 (q : Int) ∧ q ≤ m ∧ Byte bl ∧ bl.length ≤ q * 254 ∧ Grow w2 bl v wr) (fun _ i _ => ((m : Int) - intOf i).toNat)
  case atStart => exact ⟨0, [], rfl, Nat.zero_le _, Byte.nil, Nat.zero_le _, ⟨Own.none_ _, (fun g hg => by cases hg), Below.refl _ _⟩⟩
  case round =>
    obtain ⟨q, bl, rfl, hq, hby, hbl, hg⟩ := hrel
    by_cases hqm : q < m
    · have hqI : (q : Int) < (m : Int) := by omega
      obtain ⟨g, hav⟩ := HAV.out (by omega)
      subst hav
      have hql : q < gs.length := by rw [HM.out]; exact hqm
      obtain ⟨r, hrq⟩ : ∃ r, gs[q] = r := ⟨_, rfl⟩
      have hgr := HGD.out r (by rw [← hrq]; exact List.getElem_mem hql)
      have hfit : r.Fit := ⟨by have := May.of hgr.1; omega, hgr.2.1, by have := hgr.2.2; unfold maxLen; omega⟩
      have ce := fun W => REncode_any r W hfit
      rw [enc, if_pos hgr.1] at ce
      have hle := encL_length r
      have hey := encL_byte r
      have hr2 := hgr.2.2
      obtain ⟨N, hN⟩ : ∃ N, 39 + r.body.size = N := ⟨_, rfl⟩
      rw [hN] at hle
      have hN2 : N ≤ 239 := by omega
      obtain ⟨E, hE⟩ : ∃ E, encL r = E := ⟨_, rfl⟩
      rw [hE] at ce hle hey
      have cells := fun W (hb : Below w2.heap.size w2 W) => (O2.out.later hb).range q hql
      rw [hrq] at cells
      obtain ⟨k, t, e, o, s, b⟩ := r
      unfold Rec.val at ce
      simp only at ce
      have CE := Lib.hid ce
      have HLE := Lib.hid hle
      have HEY := Lib.hid hey
      have HBY := Lib.hid hby
      have HBL := Lib.hid hbl
      have CELLS := Lib.hid cells
      have HG := Lib.hid hg
      clear ce hle hey hby hbl cells hg hfit hgr hN hE hrq hql hr2
      by_cases hqj : q < len1
      · have hqjI : (q : Int) < (len1 : Int) := by omega
        obtain ⟨b1, off1, rfl, hjc⟩ : ∃ b off, a1 = some ⟨b, off, none⟩ ∧ ∀ i, i < len1 → wr.cell? ⟨b, off + i, none⟩ = some (.slice (ps i).a (ps i).len (ps i).cap) := by
          rcases (HJ.out.later (B2.out.trans (HG.out.below.mono B2.out.size))).cells with h | h
          · omega
          · exact h
        have hjq := hjc q hqj
        have hrow := (HJ.out.rows q hqj).later (B2.out.trans (HG.out.below.mono B2.out.size))
        obtain ⟨⟨ja, jl, jc, jb⟩, hp⟩ : ∃ p, ps q = p := ⟨_, rfl⟩
        rw [hp] at hjq hrow
        simp only at hjq hrow
        have CS := Lib.hid (fun W => crc.short_any ja jl jc 15 W hrow.le hrow.nil (by decide))
        have hsh := hrow.short 15
        obtain ⟨jn, hjn⟩ : ∃ jn, min jl 15 = jn := ⟨_, rfl⟩
        obtain ⟨jt, hjt⟩ : ∃ jt, jb.take 15 = jt := ⟨_, rfl⟩
        rw [hjn] at hsh CS
        rw [hjt] at hsh
        have hjn5 : jn ≤ 15 := by omega
        have HSH := Lib.hid hsh
        clear hjc hrow hp hsh hjn hjt
        go_wp2_with fail
        refine (CS.out _).mono ?_
        rintro en w4 ⟨rfl, rfl⟩
        obtain ⟨v4, w4, r4, g4⟩ := HG.out.row ja jn jc HSH.out.bytes HSH.out.length (fun e => (HSH.out.nil e).2) (by have := HBL.out; omega)
        have R4 := Lib.hid r4
        have G4 := Lib.hid g4
        have hb4 : (bl ++ jt).length ≤ q * 254 + 15 := by rw [List.length_append, HSH.out.length]; have := HBL.out; omega
        have HB4 := Lib.hid hb4
        have HY4 := Lib.hid (HBY.out.append HSH.out.byte)
        clear r4 g4 hb4 HSH HBL HBY CS HG
        have hrg := CELLS.out w4 G4.out.below
        have c0 : (w4).cell? ⟨g, q * 6, none⟩ = some (.int .i64 k) := hrg 0 _ rfl
        have c1 : (w4).cell? ⟨g, q * 6 + 1, none⟩ = some (.int .u32 (t : Int)) := hrg 1 _ rfl
        have c2 : (w4).cell? ⟨g, q * 6 + 2, none⟩ = some (.int .u64 (e : Int)) := hrg 2 _ rfl
        have c3 : (w4).cell? ⟨g, q * 6 + 3, none⟩ = some (.int .u64 (o : Int)) := hrg 3 _ rfl
        have c4 : (w4).cell? ⟨g, q * 6 + 4, none⟩ = some (.int .u64 (s : Int)) := hrg 4 _ rfl
        have c5 : (w4).cell? ⟨g, q * 6 + 5, none⟩ = some (.string b) := hrg 5 _ rfl
        clear hrg
        go_wp2_with ((with_reducible show wpList _ _ _ (⟨some 37, _, _, _, _, _⟩ :: _) _ _); refine wpList_append_run 26 (.tmp 31) (.tmp 36) _ _ rfl rfl rfl rfl rfl R4.out ?_)
        refine (CE.out _).mono ?_
        rintro en w5 hmade
        clear c0 c1 c2 c3 c4 c5
        obtain ⟨a5, c5, v6, w6, rfl, r6, g6⟩ := G4.out.put N HLE.out hmade (by have := HB4.out; omega)
        have fin : ∃ (q2 : Nat) (bl : List Int), Value.int .i64 ((q : Int) + 1) = .int .i64 (q2 : Int) ∧ q2 ≤ m ∧ Byte bl ∧ bl.length ≤ q2 * 254 ∧ Grow w2 bl v6 w6 := ⟨q + 1, _, by rw [Int.natCast_add]; rfl, by omega, HY4.out.append HEY.out, by rw [List.length_append, HLE.out]; have := HB4.out; omega, g6⟩
        have R6 := Lib.hid r6
        have FIN := Lib.hid fin
        clear r6 g6 fin hmade G4 CE
        go_wp2_with ((with_reducible show wpList _ _ _ (⟨some 44, _, _, _, _, _⟩ :: _) _ _); refine wpList_append_run 26 (.tmp 38) (.tmp 43) _ _ rfl rfl rfl rfl rfl R6.out ?_)
        refine ⟨FIN.out, ?_⟩
        show ((m : Int) - ((q : Int) + 1)).toNat < ((m : Int) - (q : Int)).toNat
        omega
      · have hqjI : ¬ (q : Int) < (len1 : Int) := by omega
        have hrg := CELLS.out wr HG.out.below
        have c0 : (wr).cell? ⟨g, q * 6, none⟩ = some (.int .i64 k) := hrg 0 _ rfl
        have c1 : (wr).cell? ⟨g, q * 6 + 1, none⟩ = some (.int .u32 (t : Int)) := hrg 1 _ rfl
        have c2 : (wr).cell? ⟨g, q * 6 + 2, none⟩ = some (.int .u64 (e : Int)) := hrg 2 _ rfl
        have c3 : (wr).cell? ⟨g, q * 6 + 3, none⟩ = some (.int .u64 (o : Int)) := hrg 3 _ rfl
        have c4 : (wr).cell? ⟨g, q * 6 + 4, none⟩ = some (.int .u64 (s : Int)) := hrg 4 _ rfl
        have c5 : (wr).cell? ⟨g, q * 6 + 5, none⟩ = some (.string b) := hrg 5 _ rfl
        clear hrg
        go_wp2_with fail
        refine (CE.out _).mono ?_
        rintro en w5 hmade
        clear c0 c1 c2 c3 c4 c5
        obtain ⟨a5, c5, v6, w6, rfl, r6, g6⟩ := HG.out.put N HLE.out hmade (by have := HBL.out; omega)
        have fin : ∃ (q2 : Nat) (bl : List Int), Value.int .i64 ((q : Int) + 1) = .int .i64 (q2 : Int) ∧ q2 ≤ m ∧ Byte bl ∧ bl.length ≤ q2 * 254 ∧ Grow w2 bl v6 w6 := ⟨q + 1, _, by rw [Int.natCast_add]; rfl, by omega, HBY.out.append HEY.out, by rw [List.length_append, HLE.out]; have := HBL.out; omega, g6⟩
        have R6 := Lib.hid r6
        have FIN := Lib.hid fin
        clear r6 g6 fin hmade HG CE
        go_wp2_with ((with_reducible show wpList _ _ _ (⟨some 44, _, _, _, _, _⟩ :: _) _ _); refine wpList_append_run 26 (.tmp 38) (.tmp 43) _ _ rfl rfl rfl rfl rfl R6.out ?_)
        refine ⟨FIN.out, ?_⟩
        show ((m : Int) - ((q : Int) + 1)).toNat < ((m : Int) - (q : Int)).toNat
        omega
    · have hqI : ¬ (q : Int) < (m : Int) := by omega
      obtain ⟨N, hN⟩ : ∃ N, bl.length = N := ⟨_, rfl⟩
      have hN9 : N ≤ 1524 := by omega
      obtain ⟨ab, cb, rfl, hcb, hcm, hbn, -, -⟩ := hg.own.form
      rw [hN] at hg hcb hbn
      have HG := Lib.hid hg
      have HBY := Lib.hid hby
      have HN := Lib.hid hN
      have HBN := Lib.hid hbn
      rw [hN]
      clear hg hby hN hbn hbl
      by_cases z1 : 0 < N
      · have z1I : (0 : Int) < (N : Int) := by omega
        have dz : ¬ (N : Int) = 0 := by omega
        by_cases z2 : 0 ≤ at_
        · obtain ⟨p, rfl⟩ : ∃ p : Nat, at_ = p := ⟨at_.toNat, by omega⟩
          obtain ⟨k0, hk0⟩ : ∃ k0, p % N = k0 := ⟨_, rfl⟩
          have hk1 : k0 < N := by rw [← hk0]; exact Nat.mod_lt _ z1
          have hkI : (p : Int) % (N : Int) = (k0 : Int) := by rw [← hk0, Int.natCast_emod]
          obtain ⟨g, hg, -⟩ := own_at HG.out.own 0 (by rw [HN.out]; omega)
          subst hg
          have ck := HG.out.own.cell HN.out k0 (by omega)
          have fk := HG.out.own.free HN.out k0
          have hb0 := HBY.out.at (i := k0) (by rw [HN.out]; omega)
          have hy := crc.bx_byte hb0 HX.out
          have hbx : bits .xor .u8 (bl.getD k0 0) x = crc.bx (bl.getD k0 0) x := rfl
          obtain ⟨cc, hcc⟩ : ∃ cc, bl.getD k0 0 = cc := ⟨_, rfl⟩
          rw [hcc] at ck hb0 hy hbx
          obtain ⟨y, hyy⟩ : ∃ y, crc.bx cc x = y := ⟨_, rfl⟩
          rw [hyy] at hbx hy
          have HYB := Lib.hid hy
          have hab := HA.out
          clear hyy hcc hk0 hy
          go_wp2_with fail
          have o7 := HG.out.own.set HN.out k0 y
          have b7 : Below w2.heap.size w2 (wr.setCell ⟨g, k0, none⟩ (.int .u8 y)) := HG.out.below.setCell (HG.out.new_ g rfl) _
          obtain ⟨w7, hw7⟩ : ∃ w7, wr.setCell ⟨g, k0, none⟩ (.int .u8 y) = w7 := ⟨_, rfl⟩
          rw [hw7] at o7 b7 ⊢
          obtain ⟨ab, hab2⟩ : ∃ ab, (some (⟨g, 0, none⟩ : Addr)) = ab := ⟨_, rfl⟩
          rw [hab2] at o7 ⊢
          obtain ⟨L, hL⟩ : ∃ L, bl.set k0 y = L := ⟨_, rfl⟩
          have Y7 : Hid (Byte L) := by rw [← hL]; exact set_byte HBY.out HYB.out
          have N7 : Hid (L.length = N) := by rw [← hL, List.length_set]; exact HN.out
          rw [hL] at o7
          have L7 := Lib.hid (own_leads o7)
          have B7 := Lib.hid (B2.out.trans (b7.mono B2.out.size))
          clear hw7 ck fk o7 b7 hab2 hL HG HBY HN HYB O2 HM HGD HAV HR HJ B2
          refine (Front_any ab N cb L w7 (HT.out.later B7.out) L7.out Y7.out N7.out hcb (by omega)).mono ?_
          rintro en w8 ⟨v8, rfl, g8⟩
          have b8 := g8.below
          have RF := Lib.hid (RFront_any ab N cb L w8 (L7.out.later b8) Y7.out N7.out hcb (by omega))
          have f7 := Lib.hid (front_small0 L N7.out)
          have r7 := Lib.hid (rest_small0 L N7.out)
          have fb := Lib.hid (fun (x : Fd) (hx : x ∈ (front L 0).1) => (front_body hx).1)
          have rb := Lib.hid (fun (x : Fd) (hx : x ∈ rest L 0) => (rest_body hx).1)
          obtain ⟨⟨ff, fz⟩, hff⟩ : ∃ y, front L 0 = y := ⟨_, rfl⟩
          rw [hff] at g8 RF f7 fb
          rw [hff]
          have G8 := Lib.hid g8
          clear g8 b8 hff
          go_wp2_with fail
          refine RF.out.mono ?_
          rintro en w9 ⟨v9, rfl, g9⟩
          have b9 : Below w7.heap.size w7 w9 := G8.out.below.trans (g9.below.mono G8.out.below.size)
          have AL := Lib.hid (All_any ab N cb L w9 (HT.out.later (B7.out.trans (b9.mono B7.out.size))) (L7.out.later b9) Y7.out N7.out hcb (by omega))
          have RA := Lib.hid (fun W hl => RAll_any ab N cb L W hl Y7.out N7.out hcb (by omega))
          obtain ⟨rf, hrf⟩ : ∃ y, rest L 0 = y := ⟨_, rfl⟩
          rw [hrf] at AL RA r7 rb
          have B9 := Lib.hid b9
          have G9 := Lib.hid g9
          clear RF g9 b9 hrf
          go_wp2_with fail
          refine AL.out.mono ?_
          rintro en w10 ⟨v10, rfl, g10⟩
          have FA := Lib.hid (Found_any v10 rf w10 g10.own (by have := r7.out; omega))
          have B10 := Lib.hid (B9.out.trans (g10.below.mono B9.out.size))
          have S10 := Lib.hid g10.below
          clear AL g10
          go_wp2_with fail
          refine FA.out.mono ?_
          rintro en w11 ⟨v11, rfl, g11⟩
          have B11 := Lib.hid (B10.out.trans (g11.below.mono B10.out.size))
          have S11 := Lib.hid (S10.out.trans (g11.below.mono S10.out.size))
          have G11 := Lib.hid g11.own
          clear FA g11 S10
          go_wp2_with fail
          refine (RA.out w11 (L7.out.later B11.out)).mono ?_
          rintro en w12 ⟨v12, rfl, g12⟩
          have EQ := Lib.hid (EqAll_any v11 v12 rf w12 (G11.out.later g12.below) g12.own rb.out)
          have B12 := Lib.hid (B11.out.trans (g12.below.mono B11.out.size))
          have S12 := Lib.hid (S11.out.trans (g12.below.mono S11.out.size))
          clear RA g12 S11 G11 B11
          go_wp2_with fail
          refine EQ.out.mono ?_
          rintro en w13 ⟨rfl, b13⟩
          have S13 := Lib.hid (S12.out.trans (b13.mono S12.out.size))
          have B13 := Lib.hid (B12.out.trans (b13.mono B12.out.size))
          have h8 : Below w8.heap.size w8 w13 := G9.out.below.trans (S13.out.mono G9.out.below.size)
          have FB := Lib.hid (Found_any v8 ff w13 (G8.out.own.later h8) (by have := f7.out; omega))
          clear EQ b13 S12 B12 h8
          go_wp2_with fail
          refine FB.out.mono ?_
          rintro en w14 ⟨v14, rfl, g14⟩
          have EQ := Lib.hid (EqAll_any v14 v9 ff w14 g14.own ((G9.out.own.later S13.out).later g14.below) fb.out)
          have B14 := Lib.hid (B13.out.trans (g14.below.mono B13.out.size))
          clear FB g14 S13 B13
          go_wp2_with fail
          refine EQ.out.mono ?_
          rintro en w15 ⟨rfl, b15⟩
          have B15 := Lib.hid (B7.out.trans ((B14.out.trans (b15.mono B14.out.size)).mono B7.out.size))
          clear EQ b15 B14
          go_wp2_with fail
          go_ret
          exact ⟨rfl, B15.out⟩
        · skip
          have B7 := Lib.hid (B2.out.trans (HG.out.below.mono B2.out.size))
          have L7 := Lib.hid (own_leads HG.out.own)
          have Y7 := HBY
          have N7 := HN
          clear HG HBY HN O2 HM HGD HAV HR HJ B2
          obtain ⟨L, hL⟩ : ∃ L, bl = L := ⟨_, rfl⟩
          subst hL
          obtain ⟨w7, hw7⟩ : ∃ w7, wr = w7 := ⟨_, rfl⟩
          subst hw7
          go_wp2_with fail
          refine (Front_any ab N cb bl wr (HT.out.later B7.out) L7.out Y7.out N7.out hcb (by omega)).mono ?_
          rintro en w8 ⟨v8, rfl, g8⟩
          have b8 := g8.below
          have RF := Lib.hid (RFront_any ab N cb bl w8 (L7.out.later b8) Y7.out N7.out hcb (by omega))
          have f7 := Lib.hid (front_small0 bl N7.out)
          have r7 := Lib.hid (rest_small0 bl N7.out)
          have fb := Lib.hid (fun (x : Fd) (hx : x ∈ (front bl 0).1) => (front_body hx).1)
          have rb := Lib.hid (fun (x : Fd) (hx : x ∈ rest bl 0) => (rest_body hx).1)
          obtain ⟨⟨ff, fz⟩, hff⟩ : ∃ y, front bl 0 = y := ⟨_, rfl⟩
          rw [hff] at g8 RF f7 fb
          rw [hff]
          have G8 := Lib.hid g8
          clear g8 b8 hff
          go_wp2_with fail
          refine RF.out.mono ?_
          rintro en w9 ⟨v9, rfl, g9⟩
          have b9 : Below wr.heap.size wr w9 := G8.out.below.trans (g9.below.mono G8.out.below.size)
          have AL := Lib.hid (All_any ab N cb bl w9 (HT.out.later (B7.out.trans (b9.mono B7.out.size))) (L7.out.later b9) Y7.out N7.out hcb (by omega))
          have RA := Lib.hid (fun W hl => RAll_any ab N cb bl W hl Y7.out N7.out hcb (by omega))
          obtain ⟨rf, hrf⟩ : ∃ y, rest bl 0 = y := ⟨_, rfl⟩
          rw [hrf] at AL RA r7 rb
          have B9 := Lib.hid b9
          have G9 := Lib.hid g9
          clear RF g9 b9 hrf
          go_wp2_with fail
          refine AL.out.mono ?_
          rintro en w10 ⟨v10, rfl, g10⟩
          have FA := Lib.hid (Found_any v10 rf w10 g10.own (by have := r7.out; omega))
          have B10 := Lib.hid (B9.out.trans (g10.below.mono B9.out.size))
          have S10 := Lib.hid g10.below
          clear AL g10
          go_wp2_with fail
          refine FA.out.mono ?_
          rintro en w11 ⟨v11, rfl, g11⟩
          have B11 := Lib.hid (B10.out.trans (g11.below.mono B10.out.size))
          have S11 := Lib.hid (S10.out.trans (g11.below.mono S10.out.size))
          have G11 := Lib.hid g11.own
          clear FA g11 S10
          go_wp2_with fail
          refine (RA.out w11 (L7.out.later B11.out)).mono ?_
          rintro en w12 ⟨v12, rfl, g12⟩
          have EQ := Lib.hid (EqAll_any v11 v12 rf w12 (G11.out.later g12.below) g12.own rb.out)
          have B12 := Lib.hid (B11.out.trans (g12.below.mono B11.out.size))
          have S12 := Lib.hid (S11.out.trans (g12.below.mono S11.out.size))
          clear RA g12 S11 G11 B11
          go_wp2_with fail
          refine EQ.out.mono ?_
          rintro en w13 ⟨rfl, b13⟩
          have S13 := Lib.hid (S12.out.trans (b13.mono S12.out.size))
          have B13 := Lib.hid (B12.out.trans (b13.mono B12.out.size))
          have h8 : Below w8.heap.size w8 w13 := G9.out.below.trans (S13.out.mono G9.out.below.size)
          have FB := Lib.hid (Found_any v8 ff w13 (G8.out.own.later h8) (by have := f7.out; omega))
          clear EQ b13 S12 B12 h8
          go_wp2_with fail
          refine FB.out.mono ?_
          rintro en w14 ⟨v14, rfl, g14⟩
          have EQ := Lib.hid (EqAll_any v14 v9 ff w14 g14.own ((G9.out.own.later S13.out).later g14.below) fb.out)
          have B14 := Lib.hid (B13.out.trans (g14.below.mono B13.out.size))
          clear FB g14 S13 B13
          go_wp2_with fail
          refine EQ.out.mono ?_
          rintro en w15 ⟨rfl, b15⟩
          have B15 := Lib.hid (B7.out.trans ((B14.out.trans (b15.mono B14.out.size)).mono B7.out.size))
          clear EQ b15 B14
          go_wp2_with fail
          go_ret
          exact ⟨rfl, B15.out⟩
      · have z1I : ¬ (0 : Int) < (N : Int) := by omega
        have B7 := Lib.hid (B2.out.trans (HG.out.below.mono B2.out.size))
        have L7 := Lib.hid (own_leads HG.out.own)
        have Y7 := HBY
        have N7 := HN
        clear HG HBY HN O2 HM HGD HAV HR HJ B2
        obtain ⟨L, hL⟩ : ∃ L, bl = L := ⟨_, rfl⟩
        subst hL
        obtain ⟨w7, hw7⟩ : ∃ w7, wr = w7 := ⟨_, rfl⟩
        subst hw7
        go_wp2_with fail
        refine (Front_any ab N cb bl wr (HT.out.later B7.out) L7.out Y7.out N7.out hcb (by omega)).mono ?_
        rintro en w8 ⟨v8, rfl, g8⟩
        have b8 := g8.below
        have RF := Lib.hid (RFront_any ab N cb bl w8 (L7.out.later b8) Y7.out N7.out hcb (by omega))
        have f7 := Lib.hid (front_small0 bl N7.out)
        have r7 := Lib.hid (rest_small0 bl N7.out)
        have fb := Lib.hid (fun (x : Fd) (hx : x ∈ (front bl 0).1) => (front_body hx).1)
        have rb := Lib.hid (fun (x : Fd) (hx : x ∈ rest bl 0) => (rest_body hx).1)
        obtain ⟨⟨ff, fz⟩, hff⟩ : ∃ y, front bl 0 = y := ⟨_, rfl⟩
        rw [hff] at g8 RF f7 fb
        rw [hff]
        have G8 := Lib.hid g8
        clear g8 b8 hff
        go_wp2_with fail
        refine RF.out.mono ?_
        rintro en w9 ⟨v9, rfl, g9⟩
        have b9 : Below wr.heap.size wr w9 := G8.out.below.trans (g9.below.mono G8.out.below.size)
        have AL := Lib.hid (All_any ab N cb bl w9 (HT.out.later (B7.out.trans (b9.mono B7.out.size))) (L7.out.later b9) Y7.out N7.out hcb (by omega))
        have RA := Lib.hid (fun W hl => RAll_any ab N cb bl W hl Y7.out N7.out hcb (by omega))
        obtain ⟨rf, hrf⟩ : ∃ y, rest bl 0 = y := ⟨_, rfl⟩
        rw [hrf] at AL RA r7 rb
        have B9 := Lib.hid b9
        have G9 := Lib.hid g9
        clear RF g9 b9 hrf
        go_wp2_with fail
        refine AL.out.mono ?_
        rintro en w10 ⟨v10, rfl, g10⟩
        have FA := Lib.hid (Found_any v10 rf w10 g10.own (by have := r7.out; omega))
        have B10 := Lib.hid (B9.out.trans (g10.below.mono B9.out.size))
        have S10 := Lib.hid g10.below
        clear AL g10
        go_wp2_with fail
        refine FA.out.mono ?_
        rintro en w11 ⟨v11, rfl, g11⟩
        have B11 := Lib.hid (B10.out.trans (g11.below.mono B10.out.size))
        have S11 := Lib.hid (S10.out.trans (g11.below.mono S10.out.size))
        have G11 := Lib.hid g11.own
        clear FA g11 S10
        go_wp2_with fail
        refine (RA.out w11 (L7.out.later B11.out)).mono ?_
        rintro en w12 ⟨v12, rfl, g12⟩
        have EQ := Lib.hid (EqAll_any v11 v12 rf w12 (G11.out.later g12.below) g12.own rb.out)
        have B12 := Lib.hid (B11.out.trans (g12.below.mono B11.out.size))
        have S12 := Lib.hid (S11.out.trans (g12.below.mono S11.out.size))
        clear RA g12 S11 G11 B11
        go_wp2_with fail
        refine EQ.out.mono ?_
        rintro en w13 ⟨rfl, b13⟩
        have S13 := Lib.hid (S12.out.trans (b13.mono S12.out.size))
        have B13 := Lib.hid (B12.out.trans (b13.mono B12.out.size))
        have h8 : Below w8.heap.size w8 w13 := G9.out.below.trans (S13.out.mono G9.out.below.size)
        have FB := Lib.hid (Found_any v8 ff w13 (G8.out.own.later h8) (by have := f7.out; omega))
        clear EQ b13 S12 B12 h8
        go_wp2_with fail
        refine FB.out.mono ?_
        rintro en w14 ⟨v14, rfl, g14⟩
        have EQ := Lib.hid (EqAll_any v14 v9 ff w14 g14.own ((G9.out.own.later S13.out).later g14.below) fb.out)
        have B14 := Lib.hid (B13.out.trans (g14.below.mono B13.out.size))
        clear FB g14 S13 B13
        go_wp2_with fail
        refine EQ.out.mono ?_
        rintro en w15 ⟨rfl, b15⟩
        have B15 := Lib.hid (B7.out.trans ((B14.out.trans (b15.mono B14.out.size)).mono B7.out.size))
        clear EQ b15 B14
        go_wp2_with fail
        go_ret
        exact ⟨rfl, B15.out⟩
theorem all_card (w : World) (hT : crc.Tab w) {a0 : Option Addr} {len0 cap0 : Nat} {rs : Nat → Rec} (hr : RecRow w a0 len0 cap0 rs) {a1 : Option Addr} {len1 cap1 : Nat} {ps : Nat → Piece} (hj : RRow w a1 len1 cap1 ps) {at_ : Int} (ha : -9223372036854775808 ≤ at_ ∧ at_ ≤ 9223372036854775807) {x : Int} (hx : 0 ≤ x ∧ x ≤ 255) :
    Calls Tryd.prog 3 #[.slice a0 len0 cap0, .slice a1 len1 cap1, .int .i64 at_, .int .u8 x] w fun e w' => e = .returned (.bool true) ∧ Below w.heap.size w w' :=
  all_any w hT a0 len0 cap0 rs hr a1 len1 cap1 ps hj at_ ha x ⟨hx.1, by have := hx.2; omega⟩
end Go.Proofs.YtodajceiadbpeaaDoor.scan
