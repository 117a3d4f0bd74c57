/-
  THE WALK OF 'stillroomlaw8.SegmentAll' (P8.1, K1), the sectors' row as it is.
-/
import Derived.Test.YtdonblfidohncaaGreatDoorSgAllW
namespace Go.Proofs.YtdonblfidohncaaGreatDoor.scan
open Go.RowKit Go.Proofs.YtdonblfidohncaaGreatDoor.disk Go.Proofs.YtdonblfidohncaaGreatDoor.recd Go.Proofs.YtdonblfidohncaaGreatDoor.seg
set_option linter.unusedVariables false

set_option maxRecDepth 100000 in
set_option maxHeartbeats 16000000 in
theorem segall_b (w : World) (hT : Tabs w) (t : Nat) (ht : t < 4294967296) {a1 : Option Addr} {len1 cap1 : Nat} {ps : Nat → Batch} (hps : RRRow w a1 len1 cap1 ps) (sy : Int) (ka : Option Addr) (kn0 kn kc : Nat) (keep : List Bool) (hk : Bools w ka kn keep)
    (hk1 : kn0 ≤ 100) (hk2 : kn = kn0) (torn : Int) :
    Calls Tryz.prog 3 #[.int .u32 (t : Int), .slice a1 len1 cap1, .int .i64 sy, .slice ka kn0 kc, .int .i64 torn] w fun e w' => e = .returned (.bool true) ∧ Below w.heap.size w w' := by
  have HT := Lib.hid hT
  have CB := Lib.hid (sbegun_any w hT)
  have HPS := Lib.hid hps
  have HK := Lib.hid hk
  have hm1 := hps.most
  subst hk2
  have hgt : ¬ (100 : Int) < (kn : Int) := by omega
  clear hT hps hk hk1
  go_enter Tryz.func3, Tryz.ntmps3
  go_wp2_with fail
  refine CB.out.mono ?_
  rintro e w1 ⟨rfl, b1⟩
  have B1 := Lib.hid b1
  clear b1 CB
  go_wp2_with fail
  refine (new_any w1 1048576).mono ?_
  rintro e w2 ho
  obtain ⟨p, rfl, h2, _⟩ := held_new (W := w) (X := fun _ => False) (fun _ e => e.elim) B1.out ho
  have C2 := Lib.hid (segcreate_new HT.out w2 p 1048576 h2 t 1 ht (by omega))
  have Z2 := Lib.hid h2.below.size
  clear ho h2
  go_wp2_with fail
  refine C2.out.mono ?_
  rintro e w3 ⟨b, s, rfl, s3, h3, _, hzs⟩
  have hWs : w.heap.size ≤ s := Nat.le_trans Z2.out hzs
  have ST : Hid (Grp w p s b t 0 (.slice none 0 0) (.int .i64 0) (.int .i64 0) w3) := ⟨⟨⟨[], [], []⟩, [], 0, 2, rfl, rfl, ⟨h3.fewer (fun k hk => by
    rcases hk with (hk | hk) | hk
    · exact .inr hk
    · cases hk
    · exact hk.elim), s3, OwnS.none_ fR w3, (fun g hg => by cases hg), hWs⟩, rfl, rfl, Nat.le_refl _, Nat.le_refl _, (fun r hr => by cases hr)⟩⟩
  have HWS := Lib.hid hWs
  clear s3 h3 hzs C2 hWs
  go_wp2_with fail
  go_loopw [15, 16, 17, 18] (fun lv av sv i wr => ∃ (q : Nat), i = .int .i64 (q : Int) ∧ q ≤ 10 ∧ q ≤ len1 ∧ Grp w p s b t q lv av sv wr) (fun _ _ _ i _ => ((len1 : Int) - intOf i).toNat)
  case atStart => exact ⟨0, rfl, by omega, by omega, ST.out⟩
  case round =>
    obtain ⟨q, rfl, hq, hql, hR⟩ := hrel
    obtain ⟨⟨A, gs, sn, c, rfl, rfl, hin, hnow, hold, hsn, hgl, hone⟩⟩ := hR
    have IN := Lib.hid hin
    have HNOW := Lib.hid hnow
    have HOLD := Lib.hid hold
    have HSN := Lib.hid hsn
    have HON := Lib.hid hone
    clear hin hnow hold hsn hone
    by_cases hlt : q < len1 ∧ q < 10
    · obtain ⟨hl1, hl2⟩ := hlt
      have j1 : (q : Int) < (len1 : Int) := by omega
      have j2 : (q : Int) < 10 := by omega
      obtain ⟨bt, off, rfl, hcs⟩ := HPS.out.cells.resolve_left (by omega)
      have hcw := (IN.out.held.below.cell (p := ⟨bt, off + q, none⟩) (block_lt_of_cell (hcs q hl1))).trans (hcs q hl1)
      have hrow := HPS.out.rows q hl1
      obtain ⟨⟨qa, ql, qc, qs⟩, hpq⟩ : ∃ y, ps q = y := ⟨_, rfl⟩
      rw [hpq] at hcw hrow
      have CG := Lib.hid (group_any qa ql qc qs wr (hrow.later IN.out.held.below) t ht)
      clear hcs hrow hpq
      go_wp2_with fail
      refine CG.out.mono ?_
      rintro e w4 ⟨g, ⟨gv, rfl, gg⟩, hg5, hgone⟩
      have in4 := IN.out.mine gg.below
      obtain ⟨ga, gcap, hgv, hgrow⟩ := recs_own gg.own fun r hr => (hgone r hr).2.1
      obtain ⟨k, hk9⟩ : ∃ k, g.length = k := ⟨_, rfl⟩
      rw [hk9] at hg5 hgv hgrow
      subst hgv
      rcases Nat.eq_zero_or_pos k with h0 | h0
      · subst h0
        have hg0 : g = [] := List.eq_nil_of_length_eq_zero hk9
        have CA := Lib.hid (append_form w4 s p (nameB t 1) t true in4.seg ga 0 gcap _ hgrow (by rw [← hk9, allOf_list]; exact fun h => h.1 hg0))
        have IN4 := Lib.hid ((in4.fewer (E' := fun _ => False) fun j e => e.elim).more (by omega : 3 + 4 * q ≤ 3 + 4 * (q + 1)))
        clear in4 gg hgone hgrow hk9 hg0 CG
        go_wp2_with fail
        refine CA.out.mono ?_
        rintro e w5 ⟨rfl, b5⟩
        have NX := Lib.hid (IN4.out.later b5)
        clear b5 CA
        go_wp2_with fail
        refine ⟨⟨q + 1, by rw [Int.natCast_add]; rfl, by omega, by omega, ⟨⟨A, gs, sn, c, rfl, rfl, NX.out, HNOW.out, HOLD.out, HSN.out, by omega, HON.out⟩⟩⟩, ?_⟩
        show ((len1 : Int) - ((q : Int) + 1)).toNat < ((len1 : Int) - (q : Int)).toNat
        omega
      · have hne : g ≠ [] := fun e => by rw [e] at hk9; simp at hk9; omega
        have hal : A.now.length ≤ 52000 := by
          rw [HNOW.out]
          have := cat_le' (gs := gs) fun r hr => ((HON.out r hr).1).2
          omega
        have hgc : (cat g).length ≤ 5195 := by
          have := cat_le' (gs := g) fun r hr => ((hgone r hr).1).2
          omega
        rw [← hk9] at hgrow
        have CA := segapp_row HT.out in4.held (by omega) in4.seg (.inl (.inl rfl)) g hne (fun x hx => (hgone x hx).1) (by omega) ga gcap hgrow (by decide) (by rw [show within 1048576 = 1048576 from by decide]; omega)
        rw [hk9] at CA
        have HCA := Lib.hid CA
        have IN4 := Lib.hid in4
        have GG := Lib.hid gg
        have HG := Lib.hid hgone
        have HK9 := Lib.hid hk9
        clear in4 gg hgone hgrow hk9 CA CG hgc
        go_wp2_with fail
        refine HCA.out.mono ?_
        rintro e w5 ⟨pv, rfl, po5, pn5, h5, kk5⟩
        have hpl : (placesF A.now.length g).length = k := by rw [placesF_length, HK9.out]
        obtain ⟨gp, cp, hpv, hpc⟩ : ∃ gp cp, pv = .slice (some ⟨gp, 0, none⟩) k cp ∧ k ≤ cp := by
          rcases po5.form with ⟨_, e⟩ | ⟨gp, cp, e, h1, _⟩
          · rw [e] at hpl; simp at hpl; omega
          · rw [hpl] at e h1; exact ⟨gp, cp, e, h1⟩
        subst hpv
        obtain ⟨gx, hga⟩ : ∃ gx, ga = some ⟨gx, 0, none⟩ := by
          rcases GG.out.own.form with ⟨e, _⟩ | ⟨gx, cx, e, _⟩
          · injection e with _ e _; omega
          · injection e with e _ _; exact ⟨gx, e⟩
        subst hga
        have hgx1 : wr.heap.size ≤ gx := GG.out.new_ gx rfl
        have hgx2 : gx < w4.heap.size := GG.out.own.lt rfl
        have hgp1 : w4.heap.size ≤ gp := pn5 gp rfl
        obtain ⟨A2, hA2⟩ : ∃ A2, A.write A.now.length (cat g) = A2 := ⟨_, rfl⟩
        have hA2n : A2.now = cat (gs ++ g) := by rw [← hA2, FileA.write_end, HNOW.out, cat_append]
        have hA2o : A2.old = cat (gs.take sn) := by rw [← hA2, write_old, HOLD.out]
        rw [hA2, show less (-1) = -1 from rfl] at h5
        have in5 : In w p s b t A2 (c + 1) (3 + 4 * q + 2) (fun j => (False ∨ (wr.heap.size ≤ j ∧ j < w4.heap.size)) ∨ j = gp) u15 (finds 0 gs) w5 :=
          ⟨h5.fewer fun j hj => by
            rcases hj with (hj | hj) | hj | hj
            · exact .inl (.inl (.inl hj))
            · exact .inl (.inl (.inr hj))
            · exact .inl (.inr hj)
            · exact .inr (by rw [hj]; rfl), IN4.out.seg.kept (X := fun j => (j = s ∨ u15.ownBlock = some j) ∨ (False ∨ (wr.heap.size ≤ j ∧ j < w4.heap.size))) (.inl (.inl rfl)) kk5, IN4.out.l_.same fun g' hg' => kk5 g' (.inl (.inr hg')), fun g' hg' => ⟨(IN4.out.far g' hg').1, fun e => by
            rcases e with e | e
            · exact (IN4.out.far g' hg').2 e
            · have := IN4.out.l_.lt hg'; omega⟩, IN4.out.late⟩
        have gg5 : OwnS fRec w5 (.slice (some ⟨gx, 0, none⟩) k gcap) g := GG.out.own.same fun g' hg' => by
          have h9 : some gx = some g' := hg'
          injection h9 with h9
          exact kk5 g' (.inr (.inr ⟨by omega, by omega⟩))
        have hss : s < wr.heap.size := IN.out.seg.cells.lt
        obtain ⟨E2, hE2⟩ : ∃ E2 : Nat → Prop, E2 = fun j => (False ∨ (wr.heap.size ≤ j ∧ j < w4.heap.size)) ∨ j = gp := ⟨_, rfl⟩
        rw [← hE2] at in5
        have hEs : ¬ E2 s := by
          rw [hE2]
          rintro ((e | e) | e)
          · exact e
          · omega
          · have := IN4.out.seg.cells.lt; omega
        have hEx : E2 gx := by rw [hE2]; exact .inl (.inr ⟨hgx1, hgx2⟩)
        have hEp : E2 gp := by rw [hE2]; exact .inr rfl
        have st0 : Told w p s b t A2 (c + 1) (3 + 4 * q + 2) E2 gs g (placesF A.now.length g) (.slice (some ⟨gx, 0, none⟩) k gcap) (.slice (some ⟨gp, 0, none⟩) k cp) 0 u15 (.int .i64 ((cat gs).length : Int)) w5 :=
          ⟨by rw [List.take_zero, List.append_nil], by rw [List.take_zero, List.append_nil]; exact in5, gg5, po5⟩
        have ST0 := Lib.hid st0
        have HEs := Lib.hid hEs
        have HEx := Lib.hid hEx
        have HEp := Lib.hid hEp
        have HA2n := Lib.hid hA2n
        have HA2o := Lib.hid hA2o
        have HPL := Lib.hid hpl
        have hk5 : k ≤ 5 := hg5
        have hlk : k ≤ gcap := by
          rcases GG.out.own.form with ⟨e, _⟩ | ⟨gx', cx, e, h1, _⟩
          · cases e
          · injection e with _ _ e
            rw [HK9.out] at h1
            omega
        have hkI : ((k : Int) == 0) = false := by rw [beq_eq_false_iff_ne]; omega
        clear po5 pn5 h5 kk5 hpl hgx1 hgx2 hgp1 hA2 hA2n hA2o in5 gg5 hss hE2 hEs hEx hEp st0 HCA GG hne
        go_wp2_with fail
        go_loopw [15, 16, 22] (fun lv2 av i wr2 => ∃ (j : Nat), i = .int .i64 (j : Int) ∧ j ≤ k ∧ Told w p s b t A2 (c + 1) (3 + 4 * q + 2) E2 gs g (placesF A.now.length g) (.slice (some ⟨gx, 0, none⟩) k gcap) (.slice (some ⟨gp, 0, none⟩) k cp) j lv2 av wr2) (fun _ _ i _ => ((k : Int) - intOf i).toNat)
        case atStart => exact ⟨0, rfl, by omega, ST0.out⟩
        case round =>
          obtain ⟨j, rfl, hj, hTd⟩ := hrel
          obtain ⟨hav, hin2, hg2, hp2⟩ := hTd
          by_cases hjk : j < k
          · have hjI : (j : Int) < (k : Int) := by omega
            have hjl : j < g.length := by rw [HK9.out]; exact hjk
            have hrg := hg2.range j hjl
            have hrp := hp2.range j (by rw [HPL.out]; exact hjk)
            obtain ⟨N1, hN1⟩ : ∃ N1, (cat (gs ++ g.take j)).length = N1 := ⟨_, rfl⟩
            have hN1' : (placesF A.now.length g)[j]'(by rw [HPL.out]; exact hjk) = N1 := by
              rw [placesF_at A.now.length g j hjl (fun r hr => ((HG.out r hr).1).2), ← hN1, cat_append, List.length_append, HNOW.out]
              rfl
            rw [hN1'] at hrp
            rw [hN1] at hav
            subst hav
            have cp0 : wr.cell? ⟨gp, j, none⟩ = some (.int .i64 (N1 : Int)) := by
              have := hrp 0 _ rfl
              simp only [show fInt.sz = 1 from rfl, Nat.mul_one, Nat.add_zero] at this
              exact this
            obtain ⟨x, hx⟩ : ∃ x, g[j] = x := ⟨_, rfl⟩
            have hxs := HG.out _ (List.getElem_mem hjl)
            rw [hx] at hrg hxs
            have hN2 : (cat (gs ++ g.take (j + 1))).length = N1 + (39 + x.body.size) := by
              rw [List.take_add_one, List.getElem?_eq_getElem hjl, hx, ← List.append_assoc]
              show (cat ((gs ++ g.take j) ++ [x])).length = _
              rw [cat_append, List.length_append, hN1, cat_one, encL_length]
            have hfs : finds 0 (gs ++ g.take (j + 1)) = finds 0 (gs ++ g.take j) ++ [⟨N1, x⟩] := by
              rw [List.take_add_one, List.getElem?_eq_getElem hjl, hx, ← List.append_assoc]
              show finds 0 ((gs ++ g.take j) ++ [x]) = _
              rw [finds_snoc, hN1]
            have hNb : N1 ≤ 60000 := by
              rw [← hN1]
              have := cat_le' (gs := gs ++ g.take j) fun r hr => by
                rcases List.mem_append.1 hr with hr | hr
                · exact ((HON.out r hr).1).2
                · exact ((HG.out r (List.mem_of_mem_take hr)).1).2
              have h2 : (gs ++ g.take j).length ≤ 55 := by rw [List.length_append, List.length_take]; omega
              omega
            have hbz : x.body.size ≤ 200 := hxs.2.2
            obtain ⟨v6, w6, r6, i6, k6⟩ := hin2.put HEs.out ⟨N1, x⟩ wr.heap.size 1 rfl (by rw [finds_length, List.length_append, List.length_take]; omega)
            rw [← hfs] at i6
            have g6 : OwnS fRec w6 (.slice (some ⟨gx, 0, none⟩) k gcap) g := hg2.same fun g' hg' => by
              have h9 : some gx = some g' := hg'
              injection h9 with h9
              exact h9 ▸ k6 gx HEx.out
            have p6 : OwnS fInt w6 (.slice (some ⟨gp, 0, none⟩) k cp) (placesF A.now.length g) := hp2.same fun g' hg' => by
              have h9 : some gp = some g' := hg'
              injection h9 with h9
              exact h9 ▸ k6 gp HEp.out
            obtain ⟨kd, tt, ep, o, sq, bd⟩ := x
            have hbz' : bd.size ≤ 200 := hbz
            have c0 : wr.cell? ⟨gx, j * 6, none⟩ = some (.int .i64 kd) := hrg 0 _ rfl
            have c1' : wr.cell? ⟨gx, j * 6 + 1, none⟩ = some (.int .u32 (tt : Int)) := hrg 1 _ rfl
            have c2 : wr.cell? ⟨gx, j * 6 + 2, none⟩ = some (.int .u64 (ep : Int)) := hrg 2 _ rfl
            have c3 : wr.cell? ⟨gx, j * 6 + 3, none⟩ = some (.int .u64 (o : Int)) := hrg 3 _ rfl
            have c4 : wr.cell? ⟨gx, j * 6 + 4, none⟩ = some (.int .u64 (sq : Int)) := hrg 4 _ rfl
            have c5 : wr.cell? ⟨gx, j * 6 + 5, none⟩ = some (.string bd) := hrg 5 _ rfl
            have d5 : w6.cell? ⟨gx, j * 6 + 5, none⟩ = some (.string bd) := (World.cell?_of_block (a := ⟨gx, j * 6 + 5, none⟩) (k6 gx HEx.out)).trans c5
            have e1 : IntKind.i64.wrap (39 + (bd.size : Int)) = 39 + (bd.size : Int) := by rw [IntKind.wrap_i64]; omega
            have e2 : IntKind.i64.wrap ((N1 : Int) + (39 + (bd.size : Int))) = (N1 : Int) + (39 + (bd.size : Int)) := by rw [IntKind.wrap_i64]; omega
            have R6 := Lib.hid r6
            have NX : Hid (Told w p s b t A2 (c + 1) (3 + 4 * q + 2) E2 gs g (placesF A.now.length g) (.slice (some ⟨gx, 0, none⟩) k gcap) (.slice (some ⟨gp, 0, none⟩) k cp) (j + 1) v6 (.int .i64 ((N1 : Int) + (39 + (bd.size : Int)))) w6) :=
              ⟨by rw [hN2]; rfl, i6, g6, p6⟩
            clear hrg hrp hN1 hN1' hx hxs hN2 hfs hNb hbz hbz' r6 i6 k6 g6 p6 hin2 hg2 hp2
            go_wp2_with ((with_reducible show wpList _ _ _ (⟨some 104, _, _, _, _, _⟩ :: _) _ _); refine wpList_append_of 32 32 (.tmp 96) (.tmp 103) _ _ rfl rfl rfl rfl rfl R6.out ?_)
            refine ⟨⟨j + 1, by rw [Int.natCast_add]; rfl, by omega, NX.out⟩, ?_⟩
            show ((k : Int) - ((j : Int) + 1)).toNat < ((k : Int) - (j : Int)).toNat
            omega
          · obtain rfl : j = k := by omega
            have hjI : ¬ (j : Int) < (j : Int) := by omega
            rw [show g.take j = g from List.take_of_length_le (by rw [HK9.out]; exact Nat.le_refl _)] at hav hin2
            subst hav
            have hall : ∀ r ∈ gs ++ g, OneOf t r ∧ r.Fit := fun r hr => by
              rcases List.mem_append.1 hr with hr | hr
              · exact HON.out r hr
              · exact ⟨(HG.out r hr).1, (HG.out r hr).2.1⟩
            have hgl2 : (gs ++ g).length ≤ 5 * (q + 1) := by rw [List.length_append, HK9.out]; omega
            have in9 := hin2.fewer (E' := fun _ => False) fun k hk => hk.elim
            have HALL := Lib.hid hall
            have HGL := Lib.hid hgl2
            have IN9 := Lib.hid in9
            clear hin2 hg2 hp2 hall hgl2 in9
            by_cases hsy : (q : Int) = sy
            · have hI : ((q : Int) == sy) = true := by rw [beq_iff_eq]; exact hsy
              have CY := Lib.hid (segsync IN9.out.held (by omega) IN9.out.seg (by decide))
              obtain ⟨ao, cpl, hlv, _⟩ := IN9.out.rowlen
              obtain ⟨ng, hng⟩ : ∃ ng, (gs ++ g).length = ng := ⟨_, rfl⟩
              have HNG := Lib.hid hng
              rw [finds_length, hng] at hlv
              subst hlv
              clear hng
              clear hsy
              go_wp2_with fail
              refine CY.out.mono ?_
              rintro e w7 ⟨rfl, h7, kk7⟩
              have hss : (A2.now : List Int) = cat (gs ++ g) := HA2n.out
              have NX : Hid (Grp w p s b t (q + 1) (.slice ao ng cpl) (.int .i64 ((cat (gs ++ g)).length : Int)) (.int .i64 (ng : Int)) w7) :=
                ⟨⟨⟨A2.now, A2.now, []⟩, gs ++ g, ng, c + 1 + 1, rfl, rfl, (In.more ⟨h7, IN9.out.seg.kept (X := fun j => (j = s ∨ _) ∨ False) (.inl (.inl rfl)) kk7, IN9.out.l_.same fun g' hg' => kk7 g' (.inl (.inr hg')), IN9.out.far, IN9.out.late⟩ (by omega)), hss, by rw [← HNG.out, List.take_length]; exact hss, Nat.le_of_eq HNG.out.symm, HGL.out, HALL.out⟩⟩
              clear h7 kk7 CY hss
              go_wp2_with fail
              refine ⟨⟨q + 1, by rw [Int.natCast_add]; rfl, by omega, by omega, NX.out⟩, ?_⟩
              show ((len1 : Int) - ((q : Int) + 1)).toNat < ((len1 : Int) - (q : Int)).toNat
              omega
            · have hI : ((q : Int) == sy) = false := by rw [beq_eq_false_iff_ne]; exact hsy
              have NX : Hid (Grp w p s b t (q + 1) u15 (.int .i64 ((cat (gs ++ g)).length : Int)) (.int .i64 (sn : Int)) wr) :=
                ⟨⟨A2, gs ++ g, sn, c + 1, rfl, rfl, IN9.out.more (by omega), HA2n.out, by rw [HA2o.out, List.take_append_of_le_length HSN.out], by rw [List.length_append]; have := HSN.out; omega, HGL.out, HALL.out⟩⟩
              clear hsy
              go_wp2_with fail
              refine ⟨⟨q + 1, by rw [Int.natCast_add]; rfl, by omega, by omega, NX.out⟩, ?_⟩
              show ((len1 : Int) - ((q : Int) + 1)).toNat < ((len1 : Int) - (q : Int)).toNat
              omega
    · have hcond : ¬ ((q : Int) < (len1 : Int)) ∨ ((q : Int) < (len1 : Int) ∧ ¬ ((q : Int) < 10)) := by omega
      clear hlt
      have hg50 : gs.length ≤ 50 := by omega
      rcases hcond with hc1 | ⟨hc1, hc2⟩
      · skip
        have CZ := Lib.hid (segsize IN.out.held IN.out.seg)
        go_wp2_with fail
        refine CZ.out.mono ?_
        rintro e w5 ⟨rfl, q5, hw5⟩
        have b5 : Below wr.heap.size wr w5 := hw5 ▸ draws_below wr q5
        have in5 := IN.out.later b5
        have hfine : ∀ r ∈ gs, Fine r := fun r hr => ⟨((HON.out r hr).1).2, by rw [((HON.out r hr).1).1]; exact ht⟩
        have hsegf : segF t (cat gs) = (finds 0 gs, (cat gs).length) := segF_all t gs hfine fun r hr => ((HON.out r hr).1).1
        have hfl : (SegSt (within 1048576) t 1 b A (-1) c 0).file b = A := SegSt.file
        have CS := same_any w5 p _ _ in5.held (by omega) HT.out.crc s (nameB t 1) t true in5.seg (.inl (.inl rfl)) b SegSt.look (finds 0 gs) (by rw [hfl, HNOW.out, hsegf]) (by rw [finds_length]; omega)
          (fun x hx => by rw [hfl, HNOW.out]; exact readS_front (by rw [hsegf]; exact hx)) u15 (RowS.of_own in5.l_) (fun g hg => .inl (.inr hg))
        have HCS := Lib.hid CS
        have IN5 := Lib.hid in5
        have hnl : ((A.now.length : Nat) : Int) = ((cat gs).length : Int) := by rw [HNOW.out]
        rw [hnl]
        clear b5 in5 hw5 CS CZ IN hfl hnl
        go_wp2_with fail
        refine HCS.out.mono ?_
        rintro e w6 ⟨rfl, k6, h6, kk6⟩
        have lo6 := IN5.out.l_.same fun g hg => kk6 g (.inl (.inr hg))
        have hst : readSt (SegSt (within 1048576) t 1 b A (-1) c 0) k6 = SegSt (within 1048576) t 1 b A (-1) c (0 + k6) := rfl
        rw [hst] at h6
        have C7 := Lib.hid (h6.crash (by rw [finds_length]; omega) 0 ka kn kc keep (HK.out.turned (R := fun _ => False) (Turn.of_below h6.below) (fun _ _ _ _ e => e)) torn)
        have H6 := Lib.hid h6
        have LO6 := Lib.hid lo6
        clear h6 lo6 kk6 HCS hst
        go_wp2_with fail
        refine C7.out.mono ?_
        rintro e w8 ⟨p2, S2, rfl, h8, _, hb8⟩
        rw [show (SegSt (within 1048576) t 1 b A (-1) c (0 + k6)).leftDir (min (0 : Int).toNat (SegSt (within 1048576) t 1 b A (-1) c (0 + k6)).wait.length) = [(nameL t 1, b)] from One.left_zero] at hb8
        obtain ⟨b2, hn2, hd2, hf2⟩ := hb8.one
        rw [SegSt.file] at hf2
        have hby : Byte (leftL A keep torn) := by
          have := (h8.disk.fit (h8.disk.ok.inow _ (dlook_mem hd2))).bnow
          rw [hf2] at this
          exact this
        have hAN : A.now.length ≤ 52000 := by
          rw [HNOW.out]
          have := cat_le' (gs := gs) fun r hr => ((HON.out r hr).1).2
          omega
        have hll : (leftL A keep torn).length ≤ 60000 := by
          have hfit := H6.out.disk.fit (H6.out.disk.ok.inow (nameL t 1, b) (List.mem_singleton.2 rfl))
          rw [SegSt.file] at hfit
          have hle := left_len hfit keep torn
          omega
        have d1 : Disk (Free w.heap.size (fun k => (k = s ∨ u15.ownBlock = some k) ∨ False) w6) w8 p _ _ := H6.out.disk.later h8.below
        have CM := mixed_any w8 p _ _ p2 S2 _ d1 h8.disk (fun k hk => Nat.lt_of_lt_of_le hk.2.1 h8.below.size) (fun k hk => hk.2.1) (fun k hk hk2 => by have := hk.1; have := hk2.2.1; omega) 1 60000 (Nat.le_refl 1) (by rw [show (SegSt (within 1048576) t 1 b A (-1) c (0 + k6)).leftDir 0 = [(nameL t 1, b)] from One.left_zero]; exact Nat.le_refl 1) (fun z hz => by
          rw [hn2, List.mem_singleton] at hz
          subst hz
          rw [hf2]
          exact hll) (by rw [hn2, finds_length]; simp; omega) (by rw [hn2, finds_length]; simp; omega) (by omega)
        have HCM := Lib.hid CM
        have H8 := Lib.hid h8
        have HN2 := Lib.hid hn2
        have HF2 := Lib.hid hf2
        have HD2 := Lib.hid hd2
        have HBY := Lib.hid hby
        clear h8 hb8 hn2 hf2 hd2 hby hll d1 CM C7 hAN
        go_wp2_with fail
        refine HCM.out.mono ?_
        rintro e w9 ⟨r, rfl, hr, ⟨k2, hd9⟩, ht9⟩
        have h9 : Held w (fun k => k < w6.heap.size) w9 p2 (readSt S2 k2) _ := ⟨hd9.mono fun k hk hR => ⟨by have := hR.1; have := H6.out.below.size; omega, hk, fun hlt => by have := hR.1; omega⟩, (H6.out.below.trans (H8.out.below.mono H6.out.below.size)).trans (ht9.below (fun k hk => by
          rcases hk with hk | hk
          · exact hk.1
          · have := hk.1; have := H6.out.below.size; omega) (Nat.le_trans H6.out.below.size H8.out.below.size)), fun k hk => by have := ht9.size; have := H8.out.below.size; omega⟩
        have lo9 : OwnS fR w9 u15 (finds 0 gs) := LO6.out.same fun g hg => by
          have hlt := LO6.out.lt hg
          rw [ht9.block g (by have := H8.out.below.size; omega) (fun e => by
            rcases e with e | e
            · exact e.2.2 (.inl (.inr hg))
            · have := e.1; omega)]
          exact H8.out.below.block g hlt
        have H9 := Lib.hid h9
        have LO9 := Lib.hid lo9
        have HR9 := Lib.hid hr
        clear h9 lo9 hr hd9 ht9 HCM
        cases r with
        | true =>
          have B9 := Lib.hid H9.out.below
          go_wp2_with fail
          go_ret
          exact ⟨rfl, B9.out⟩
        | false =>
          obtain ⟨S3, hb3, hok⟩ := HR9.out rfl
          rw [show (SegSt (within 1048576) t 1 b A (-1) c (0 + k6)).leftDir 0 = [(nameL t 1, b)] from One.left_zero] at hb3
          obtain ⟨b3, hn3, _, hf3⟩ := hb3.one
          rw [SegSt.file, left_none] at hf3
          have hz := hok (nameL t 1, b2) (by rw [HN2.out]; exact List.mem_singleton.2 rfl)
          rw [HF2.out] at hz
          obtain ⟨m9, hm9a, hm9b, hseg9⟩ := crash_told ht HSN.out (fun r hr => (HON.out r hr).1) HNOW.out HOLD.out (S1 := SegSt (within 1048576) t 1 b A (-1) c (0 + k6)) (S3 := S3) (nm1 := nameL t 1) (b1 := b) rfl (by rw [SegSt.file]) hn3 (by rw [hf3]) (leftL A keep torn) HBY.out keep torn rfl hz
          have hd9' : dlook (nameL t 1) (readSt S2 k2).now = some b2 := HD2.out
          have hL9 : ((readSt S2 k2).file b2).now = leftL A keep torn := by show (S2.file b2).now = _; rw [HF2.out]
          have CO := segopen_good HT.out w9 p2 (readSt S2 k2) _ H9.out (by rw [HN2.out, finds_length]; simp; omega) t 1 ht (by omega) b2 hd9'
          have HCO := Lib.hid CO
          have HL9 := Lib.hid hL9
          have HD9 := Lib.hid hd9'
          have HS9 := Lib.hid hseg9
          have HM9 := Lib.hid (And.intro hm9a hm9b)
          have TR := Lib.hid (finds_length 0 gs)
          clear hb3 hok hn3 hf3 hz CO hL9 hd9' hseg9 hm9a hm9b HR9
          go_wp2_with fail
          refine HCO.out.mono ?_
          rintro e w10 ⟨s10, rfl, g10, h10, kk10, _⟩
          have C11 := records_any w10 p2 _ _ h10 (by rw [HN2.out, TR.out]; simp; omega) HT.out.crc s10 (nameB t 1) t _ g10 (.inr rfl) b2 (by rw [nameB_data]; exact HD9.out)
          have e11 : ({ readSt S2 k2 with reads := (readSt S2 k2).reads + (((readSt S2 k2).file b2).now.length : Int) } : St).file b2 = (readSt S2 k2).file b2 := rfl
          rw [e11, HL9.out, HS9.out] at C11
          have lo10 := LO9.out.same fun g hg => kk10 g (by have := LO6.out.lt hg; omega)
          have HC11 := Lib.hid C11
          have LO10 := Lib.hid lo10
          have H10 := Lib.hid h10
          clear g10 h10 kk10 C11 lo10 e11 HCO
          go_wp2_with fail
          refine HC11.out.mono ?_
          rintro e w11 ⟨v11, rfl, r11, _, h11, kk11, _⟩
          have lo11 := LO10.out.same fun g hg => kk11 g (.inl (by have := LO6.out.lt hg; omega))
          have C12 := Lib.hid (Found_row v11 _ w11 r11 (by rw [List.length_take, TR.out]; omega))
          have LO11 := Lib.hid lo11
          have B11 := Lib.hid h11.below
          clear r11 h11 kk11 lo11 HC11
          go_wp2_with fail
          refine C12.out.mono ?_
          rintro e w12 ⟨v12, rfl, g12⟩
          have lo12 := LO11.out.later g12.below
          have B12 := Lib.hid (B11.out.trans (g12.below.mono B11.out.size))
          obtain ⟨ao12, cp12, hv12, _, _, _⟩ := (RowS.of_own g12.own).slice
          obtain ⟨aol, cpl, hvl, hcl, hcl2, hal⟩ := (RowS.of_own lo12).slice
          have hml : ((finds 0 gs).take m9).length = m9 := by rw [List.length_take, TR.out]; have := HM9.out.2; omega
          rw [hml] at hv12
          rw [TR.out] at hvl hcl
          subst hv12 hvl
          have rl : ∃ gl : Option Addr, (∀ W, (Instr.slice 32 (.slice aol gs.length cpl) none (some (.int .i64 (m9 : Int))) none).run Tryz.prog W = .ok (.slice gl m9 cpl) W) ∧ RowS fR w12 (.slice gl m9 cpl) ((finds 0 gs).take m9) := by
            have hm9 := HM9.out.2
            rcases RowS.of_own lo12 with ⟨e, e2⟩ | ⟨g9, c9, e, h91, h92, h93, _⟩
            · injection e with e _ e3
              have e4 := congrArg List.length e2
              rw [TR.out] at e4
              have hm0 : m9 = 0 := by simp at e4; omega
              subst e e3 hm0
              refine ⟨none, fun W => found_none gs.length 0 0 (Nat.le_refl _) W, ?_⟩
              rw [List.take_zero]
              exact .inl ⟨rfl, rfl⟩
            · injection e with e _ e3
              subst e e3
              refine ⟨some ⟨g9, 0, none⟩, fun W => found_slice g9 gs.length cpl m9 (by rw [TR.out] at h91; omega) W, ?_⟩
              have lo12' := RowS.of_own lo12
              have hrt := RowS.take (m := m9) (c := cpl) lo12' (by rw [TR.out]; exact hm9) (by rw [TR.out] at h91; omega) h92
              exact hrt
          obtain ⟨gl, rsl, rrow⟩ := rl
          have CE := Lib.hid (EqAll_row _ _ _ w12 (RowS.of_own g12.own) rrow (fun x hx => by
            have := HON.out _ (finds_mem (List.mem_of_mem_take hx))
            exact (May.of this.1.2).2.2.2.2))
          have i8 : ¬ (m9 : Int) < (sn : Int) := by have := HM9.out.1; omega
          have i9 : ¬ (gs.length : Int) < (m9 : Int) := by have := HM9.out.2; omega
          clear g12 lo12 rrow hcl hcl2 hal hml C12
          go_wp2_with fail
          refine CE.out.mono ?_
          rintro e w13 ⟨rfl, b13⟩
          have B13 := Lib.hid (B12.out.trans (b13.mono B12.out.size))
          clear b13
          go_wp2_with fail
          go_ret
          exact ⟨rfl, B13.out⟩
      · skip
        have CZ := Lib.hid (segsize IN.out.held IN.out.seg)
        go_wp2_with fail
        refine CZ.out.mono ?_
        rintro e w5 ⟨rfl, q5, hw5⟩
        have b5 : Below wr.heap.size wr w5 := hw5 ▸ draws_below wr q5
        have in5 := IN.out.later b5
        have hfine : ∀ r ∈ gs, Fine r := fun r hr => ⟨((HON.out r hr).1).2, by rw [((HON.out r hr).1).1]; exact ht⟩
        have hsegf : segF t (cat gs) = (finds 0 gs, (cat gs).length) := segF_all t gs hfine fun r hr => ((HON.out r hr).1).1
        have hfl : (SegSt (within 1048576) t 1 b A (-1) c 0).file b = A := SegSt.file
        have CS := same_any w5 p _ _ in5.held (by omega) HT.out.crc s (nameB t 1) t true in5.seg (.inl (.inl rfl)) b SegSt.look (finds 0 gs) (by rw [hfl, HNOW.out, hsegf]) (by rw [finds_length]; omega)
          (fun x hx => by rw [hfl, HNOW.out]; exact readS_front (by rw [hsegf]; exact hx)) u15 (RowS.of_own in5.l_) (fun g hg => .inl (.inr hg))
        have HCS := Lib.hid CS
        have IN5 := Lib.hid in5
        have hnl : ((A.now.length : Nat) : Int) = ((cat gs).length : Int) := by rw [HNOW.out]
        rw [hnl]
        clear b5 in5 hw5 CS CZ IN hfl hnl
        go_wp2_with fail
        refine HCS.out.mono ?_
        rintro e w6 ⟨rfl, k6, h6, kk6⟩
        have lo6 := IN5.out.l_.same fun g hg => kk6 g (.inl (.inr hg))
        have hst : readSt (SegSt (within 1048576) t 1 b A (-1) c 0) k6 = SegSt (within 1048576) t 1 b A (-1) c (0 + k6) := rfl
        rw [hst] at h6
        have C7 := Lib.hid (h6.crash (by rw [finds_length]; omega) 0 ka kn kc keep (HK.out.turned (R := fun _ => False) (Turn.of_below h6.below) (fun _ _ _ _ e => e)) torn)
        have H6 := Lib.hid h6
        have LO6 := Lib.hid lo6
        clear h6 lo6 kk6 HCS hst
        go_wp2_with fail
        refine C7.out.mono ?_
        rintro e w8 ⟨p2, S2, rfl, h8, _, hb8⟩
        rw [show (SegSt (within 1048576) t 1 b A (-1) c (0 + k6)).leftDir (min (0 : Int).toNat (SegSt (within 1048576) t 1 b A (-1) c (0 + k6)).wait.length) = [(nameL t 1, b)] from One.left_zero] at hb8
        obtain ⟨b2, hn2, hd2, hf2⟩ := hb8.one
        rw [SegSt.file] at hf2
        have hby : Byte (leftL A keep torn) := by
          have := (h8.disk.fit (h8.disk.ok.inow _ (dlook_mem hd2))).bnow
          rw [hf2] at this
          exact this
        have hAN : A.now.length ≤ 52000 := by
          rw [HNOW.out]
          have := cat_le' (gs := gs) fun r hr => ((HON.out r hr).1).2
          omega
        have hll : (leftL A keep torn).length ≤ 60000 := by
          have hfit := H6.out.disk.fit (H6.out.disk.ok.inow (nameL t 1, b) (List.mem_singleton.2 rfl))
          rw [SegSt.file] at hfit
          have hle := left_len hfit keep torn
          omega
        have d1 : Disk (Free w.heap.size (fun k => (k = s ∨ u15.ownBlock = some k) ∨ False) w6) w8 p _ _ := H6.out.disk.later h8.below
        have CM := mixed_any w8 p _ _ p2 S2 _ d1 h8.disk (fun k hk => Nat.lt_of_lt_of_le hk.2.1 h8.below.size) (fun k hk => hk.2.1) (fun k hk hk2 => by have := hk.1; have := hk2.2.1; omega) 1 60000 (Nat.le_refl 1) (by rw [show (SegSt (within 1048576) t 1 b A (-1) c (0 + k6)).leftDir 0 = [(nameL t 1, b)] from One.left_zero]; exact Nat.le_refl 1) (fun z hz => by
          rw [hn2, List.mem_singleton] at hz
          subst hz
          rw [hf2]
          exact hll) (by rw [hn2, finds_length]; simp; omega) (by rw [hn2, finds_length]; simp; omega) (by omega)
        have HCM := Lib.hid CM
        have H8 := Lib.hid h8
        have HN2 := Lib.hid hn2
        have HF2 := Lib.hid hf2
        have HD2 := Lib.hid hd2
        have HBY := Lib.hid hby
        clear h8 hb8 hn2 hf2 hd2 hby hll d1 CM C7 hAN
        go_wp2_with fail
        refine HCM.out.mono ?_
        rintro e w9 ⟨r, rfl, hr, ⟨k2, hd9⟩, ht9⟩
        have h9 : Held w (fun k => k < w6.heap.size) w9 p2 (readSt S2 k2) _ := ⟨hd9.mono fun k hk hR => ⟨by have := hR.1; have := H6.out.below.size; omega, hk, fun hlt => by have := hR.1; omega⟩, (H6.out.below.trans (H8.out.below.mono H6.out.below.size)).trans (ht9.below (fun k hk => by
          rcases hk with hk | hk
          · exact hk.1
          · have := hk.1; have := H6.out.below.size; omega) (Nat.le_trans H6.out.below.size H8.out.below.size)), fun k hk => by have := ht9.size; have := H8.out.below.size; omega⟩
        have lo9 : OwnS fR w9 u15 (finds 0 gs) := LO6.out.same fun g hg => by
          have hlt := LO6.out.lt hg
          rw [ht9.block g (by have := H8.out.below.size; omega) (fun e => by
            rcases e with e | e
            · exact e.2.2 (.inl (.inr hg))
            · have := e.1; omega)]
          exact H8.out.below.block g hlt
        have H9 := Lib.hid h9
        have LO9 := Lib.hid lo9
        have HR9 := Lib.hid hr
        clear h9 lo9 hr hd9 ht9 HCM
        cases r with
        | true =>
          have B9 := Lib.hid H9.out.below
          go_wp2_with fail
          go_ret
          exact ⟨rfl, B9.out⟩
        | false =>
          obtain ⟨S3, hb3, hok⟩ := HR9.out rfl
          rw [show (SegSt (within 1048576) t 1 b A (-1) c (0 + k6)).leftDir 0 = [(nameL t 1, b)] from One.left_zero] at hb3
          obtain ⟨b3, hn3, _, hf3⟩ := hb3.one
          rw [SegSt.file, left_none] at hf3
          have hz := hok (nameL t 1, b2) (by rw [HN2.out]; exact List.mem_singleton.2 rfl)
          rw [HF2.out] at hz
          obtain ⟨m9, hm9a, hm9b, hseg9⟩ := crash_told ht HSN.out (fun r hr => (HON.out r hr).1) HNOW.out HOLD.out (S1 := SegSt (within 1048576) t 1 b A (-1) c (0 + k6)) (S3 := S3) (nm1 := nameL t 1) (b1 := b) rfl (by rw [SegSt.file]) hn3 (by rw [hf3]) (leftL A keep torn) HBY.out keep torn rfl hz
          have hd9' : dlook (nameL t 1) (readSt S2 k2).now = some b2 := HD2.out
          have hL9 : ((readSt S2 k2).file b2).now = leftL A keep torn := by show (S2.file b2).now = _; rw [HF2.out]
          have CO := segopen_good HT.out w9 p2 (readSt S2 k2) _ H9.out (by rw [HN2.out, finds_length]; simp; omega) t 1 ht (by omega) b2 hd9'
          have HCO := Lib.hid CO
          have HL9 := Lib.hid hL9
          have HD9 := Lib.hid hd9'
          have HS9 := Lib.hid hseg9
          have HM9 := Lib.hid (And.intro hm9a hm9b)
          have TR := Lib.hid (finds_length 0 gs)
          clear hb3 hok hn3 hf3 hz CO hL9 hd9' hseg9 hm9a hm9b HR9
          go_wp2_with fail
          refine HCO.out.mono ?_
          rintro e w10 ⟨s10, rfl, g10, h10, kk10, _⟩
          have C11 := records_any w10 p2 _ _ h10 (by rw [HN2.out, TR.out]; simp; omega) HT.out.crc s10 (nameB t 1) t _ g10 (.inr rfl) b2 (by rw [nameB_data]; exact HD9.out)
          have e11 : ({ readSt S2 k2 with reads := (readSt S2 k2).reads + (((readSt S2 k2).file b2).now.length : Int) } : St).file b2 = (readSt S2 k2).file b2 := rfl
          rw [e11, HL9.out, HS9.out] at C11
          have lo10 := LO9.out.same fun g hg => kk10 g (by have := LO6.out.lt hg; omega)
          have HC11 := Lib.hid C11
          have LO10 := Lib.hid lo10
          have H10 := Lib.hid h10
          clear g10 h10 kk10 C11 lo10 e11 HCO
          go_wp2_with fail
          refine HC11.out.mono ?_
          rintro e w11 ⟨v11, rfl, r11, _, h11, kk11, _⟩
          have lo11 := LO10.out.same fun g hg => kk11 g (.inl (by have := LO6.out.lt hg; omega))
          have C12 := Lib.hid (Found_row v11 _ w11 r11 (by rw [List.length_take, TR.out]; omega))
          have LO11 := Lib.hid lo11
          have B11 := Lib.hid h11.below
          clear r11 h11 kk11 lo11 HC11
          go_wp2_with fail
          refine C12.out.mono ?_
          rintro e w12 ⟨v12, rfl, g12⟩
          have lo12 := LO11.out.later g12.below
          have B12 := Lib.hid (B11.out.trans (g12.below.mono B11.out.size))
          obtain ⟨ao12, cp12, hv12, _, _, _⟩ := (RowS.of_own g12.own).slice
          obtain ⟨aol, cpl, hvl, hcl, hcl2, hal⟩ := (RowS.of_own lo12).slice
          have hml : ((finds 0 gs).take m9).length = m9 := by rw [List.length_take, TR.out]; have := HM9.out.2; omega
          rw [hml] at hv12
          rw [TR.out] at hvl hcl
          subst hv12 hvl
          have rl : ∃ gl : Option Addr, (∀ W, (Instr.slice 32 (.slice aol gs.length cpl) none (some (.int .i64 (m9 : Int))) none).run Tryz.prog W = .ok (.slice gl m9 cpl) W) ∧ RowS fR w12 (.slice gl m9 cpl) ((finds 0 gs).take m9) := by
            have hm9 := HM9.out.2
            rcases RowS.of_own lo12 with ⟨e, e2⟩ | ⟨g9, c9, e, h91, h92, h93, _⟩
            · injection e with e _ e3
              have e4 := congrArg List.length e2
              rw [TR.out] at e4
              have hm0 : m9 = 0 := by simp at e4; omega
              subst e e3 hm0
              refine ⟨none, fun W => found_none gs.length 0 0 (Nat.le_refl _) W, ?_⟩
              rw [List.take_zero]
              exact .inl ⟨rfl, rfl⟩
            · injection e with e _ e3
              subst e e3
              refine ⟨some ⟨g9, 0, none⟩, fun W => found_slice g9 gs.length cpl m9 (by rw [TR.out] at h91; omega) W, ?_⟩
              have lo12' := RowS.of_own lo12
              have hrt := RowS.take (m := m9) (c := cpl) lo12' (by rw [TR.out]; exact hm9) (by rw [TR.out] at h91; omega) h92
              exact hrt
          obtain ⟨gl, rsl, rrow⟩ := rl
          have CE := Lib.hid (EqAll_row _ _ _ w12 (RowS.of_own g12.own) rrow (fun x hx => by
            have := HON.out _ (finds_mem (List.mem_of_mem_take hx))
            exact (May.of this.1.2).2.2.2.2))
          have i8 : ¬ (m9 : Int) < (sn : Int) := by have := HM9.out.1; omega
          have i9 : ¬ (gs.length : Int) < (m9 : Int) := by have := HM9.out.2; omega
          clear g12 lo12 rrow hcl hcl2 hal hml C12
          go_wp2_with fail
          refine CE.out.mono ?_
          rintro e w13 ⟨rfl, b13⟩
          have B13 := Lib.hid (B12.out.trans (b13.mono B12.out.size))
          clear b13
          go_wp2_with fail
          go_ret
          exact ⟨rfl, B13.out⟩
end Go.Proofs.YtdonblfidohncaaGreatDoor.scan
