/-
  THE WALK OF 'stillroomlaw9.SlotsAll' (P9.1).
-/
import Derived.Test.YtdonblfidohncaaDoorSlAgain
import Derived.Test.YtdonblfidohncaaDoorMDkC
import Derived.Deep.RegionLaw
namespace Go.Proofs.YtdonblfidohncaaDoor.slots
open Go.RowKit Go.Proofs.YtdonblfidohncaaDoor.disk Go.Proofs.YtdonblfidohncaaDoor.recd Go.Proofs.YtdonblfidohncaaDoor.num
set_option linter.unusedVariables false

theorem step_append9 {w w' : World} {v' : Value} {ops : Array Oper} {o : Oper} {a : Act} {K : Act → World → Prop} {Q : Exit → Act → World → Prop} {E : Prop} (T : TypeId) (s x : Operand) (v u : Value) (hw : Region.wanted o (yielded ops a.tmps) = true)
    (ho : o.op = .call { callee := .builtin .append, args := #[s, x], argTypes := #[33, T] }) (hty : o.type = 33) (hs : a.eval s = v) (hx : a.eval x = u)
    (hrun : (Builtin.append_ #[33, T] 33 #[v, u]).run Tryd.prog w = .ok v' w')
    (h : K (a.put o.dst v') w') : if Region.wanted o (yielded ops a.tmps) = true then Oper.wp Tryd.prog o a w K Q else E := by
  rw [if_pos hw]
  unfold Oper.wp execOp
  simp only [ho, hty, resolve, invoke, builtin, Sem.run_bind, Sem.run_pure, Result.andThen_ok, List.map_toArray, List.map_cons, List.map_nil, hs, hx, hrun]
  exact h

theorem crash_clean {A : FileA} {keep : List Bool} {torn : Int} (h : A = ⟨A.now, A.now, []⟩) : (⟨leftL A keep torn, leftL A keep torn, []⟩ : FileA) = A := by
  have e : leftL A keep torn = A.now := by rw [h]; rfl
  rw [e]
  exact h.symm
theorem Slot.more {W : World} {E : Nat → Prop} {w : World} {s p : Nat} {nm : ByteArray} {tv : Value} {x : List Int} {t k tr : Nat} {S : St} {n m b : Nat} {A : FileA} {f : Int} (h : Slot W E w s p nm tv x t k tr S n b A f) (hn : n ≤ m) : Slot W E w s p nm tv x t k tr S m b A f :=
  ⟨h.at_, Held.more' h.held hn, h.lone, h.keeps, h.fresh, h.free, h.late⟩
/-- The loop under way. -/
structure Saves (W : World) (q : Nat) (fv sv now tn : Value) (wr : World) : Prop where
  some_ : ∃ (p s : Nat) (tv : Value) (x : List Int) (t k : Nat) (S : St) (b : Nat) (A : FileA), fv = .pointer (some ⟨p, 0, none⟩) ∧ sv = .pointer (some ⟨s, 0, none⟩) ∧ now = .string (disk.str x) ∧ tn = .int .u64 (t : Int) ∧ Slot W (fun _ => False) wr s p aB tv x t k t S (9 + 5 * q) b A (-1) ∧ Strict A k t ∧ A = ⟨A.now, A.now, []⟩ ∧ t ≤ 1 + q

set_option maxRecDepth 100000 in
set_option maxHeartbeats 32000000 in
theorem slotsall (w : World) (hT : crc.Tab w) {a1 : Option Addr} {len1 cap1 : Nat} {ps : Nat → disk.Piece} (hps : disk.RRow w a1 len1 cap1 ps) {a2 : Option Addr} {len2 cap2 : Nat} {ns : List Int} (hns : Nums w a2 len2 ns) {a3 : Option Addr} {len3 cap3 : Nat} {os : List Bool} (hos : BRow w a3 len3 cap3 os) :
    Calls Tryd.prog 3 #[.slice a1 len1 cap1, .slice a2 len2 cap2, .slice a3 len3 cap3] w fun e w' => e = .returned (.bool true) ∧ Below w.heap.size w w' := by
  have HT := Lib.hid hT
  have CB := Lib.hid (begun9 w hT)
  have HNS := Lib.hid hns
  have HPS := Lib.hid hps
  have HOS := Lib.hid hos.bools
  have hm1 := hps.most
  have hm2 := hns.most
  have hm3 := hos.bools.most
  clear hT hns hps hos
  go_enter Tryd.func3, Tryd.ntmps3
  go_wp2_with fail
  refine CB.out.mono ?_
  rintro e w1 ⟨rfl, b1⟩
  have B1 := Lib.hid b1
  clear b1 CB
  go_wp2_with fail
  refine (new_any w1 100000).mono ?_
  rintro e w2 ho
  obtain ⟨p0, rfl, h2, _⟩ := held_new (W := w) (X := fun _ => False) (fun _ e => e.elim) B1.out ho
  have C2 := Lib.hid ((make_any w2 p0 (-1) h2 HT.out none 0 0 [] (.inl rfl) (fun c hc => by cases hc) rfl (by omega) (fun _ => rfl) (fun g off e _ => by cases e)).mono fun e w' => make_one (by decide) (fun c hc => by cases hc))
  clear ho h2
  go_wp2_with fail
  refine C2.out.mono ?_
  rintro e w3 ⟨_, s0, tv0, b0, S0, A0, rfl, sl3, st3, cl3⟩
  have ST : Hid (Saves w 0 (.pointer (some ⟨p0, 0, none⟩)) (.pointer (some ⟨s0, 0, none⟩)) (.string ⟨#[]⟩) (.int .u64 1) w3) := ⟨⟨p0, s0, tv0, [], 1, 0, S0, b0, A0, rfl, rfl, rfl, rfl, sl3, st3, cl3, by omega⟩⟩
  clear sl3 st3 cl3 C2
  go_wp2_with fail
  go_loopw [8, 9, 11, 12, 13] (fun fv sv nv tn i wr => ∃ (q : Nat), i = .int .i64 (q : Int) ∧ q ≤ 20 ∧ q ≤ len1 ∧ Saves w q fv sv nv tn wr) (fun _ _ _ _ i _ => ((len1 : Int) - intOf i).toNat)
  case atStart => exact ⟨0, rfl, by omega, by omega, ST.out⟩
  case round =>
    obtain ⟨q, rfl, hq, hql, hR⟩ := hrel
    obtain ⟨⟨p, s, tv, x, t, k, S, b, A, rfl, rfl, rfl, rfl, sl, st, cl, ht⟩⟩ := hR
    have SL := Lib.hid sl
    have STR := Lib.hid st
    have CL := Lib.hid cl
    have HTB := Lib.hid ht
    clear st cl
    by_cases hlt : q < len1 ∧ q < 20
    · obtain ⟨hl1, hl2⟩ := hlt
      have j1 : (q : Int) < (len1 : Int) := by omega
      have j2 : (q : Int) < 20 := by omega
      obtain ⟨bt, off, rfl, hcs⟩ := HPS.out.cells.resolve_left (by omega)
      have hcw := (sl.held.below.cell (p := ⟨bt, off + q, none⟩) (block_lt_of_cell (hcs q hl1))).trans (hcs q hl1)
      have hrow := HPS.out.rows q hl1
      obtain ⟨⟨qa, ql, qc, qs⟩, hpq⟩ : ∃ y, ps q = y := ⟨_, rfl⟩
      rw [hpq] at hcw hrow
      have cS := Lib.hid (short_any qa ql qc 100 wr hrow.le hrow.nil (by omega))
      obtain ⟨m, hm⟩ : ∃ m, min ql 100 = m := ⟨_, rfl⟩
      have hmm : m ≤ 100 := by omega
      have hr2 := hrow.short 100
      rw [hm] at cS hr2
      obtain ⟨l, hl⟩ : ∃ l, qs.take 100 = l := ⟨_, rfl⟩
      rw [hl] at hr2
      have HR := Lib.hid hr2
      have e7 : IntKind.u64.wrap ((t : Int) + 1) = ((t + 1 : Nat) : Int) := by rw [IntKind.wrap_u64]; omega
      have hmc := hr2.le
      clear sl hcs hrow hr2 hm hl hpq
      go_wp2_with fail
      refine cS.out.mono ?_
      rintro e w5 ⟨rfl, rfl⟩
      clear cS
      rcases Nat.lt_or_ge q len2 with hs2 | hs2
      · have j4 : (q : Int) < (len2 : Int) := by omega
        obtain ⟨bz, offz, rfl, hcz⟩ := HNS.out.cells.resolve_left (by omega)
        have hzc := (SL.out.held.below.cell (p := ⟨bz, offz + q, none⟩) (block_lt_of_cell (hcz q hs2))).trans (hcz q hs2)
        obtain ⟨z, hz⟩ : ∃ z, ns.getD q 0 = z := ⟨_, rfl⟩
        rw [hz] at hzc
        clear hcz hs2 hz
        by_cases hz1 : 100 < z
        · by_cases hz2 : z < 4200
          · obtain ⟨zn, rfl⟩ : ∃ zn : Nat, z = (zn : Int) := ⟨z.toNat, by omega⟩
            obtain ⟨v1, w1x, r1, o1, g1, hb1⟩ := append_row (Own.none_ wr.drew) qa m qc l (HR.out.bytes.later (SL.out.held.below.trans ((below_draws (Below.refl wr.heap.size wr) 1).mono SL.out.held.below.size))) HR.out.length (fun e => (HR.out.nil e).2) (by simp; omega)
            rw [List.nil_append] at o1
            obtain ⟨v2, w2x, r2, o2, g2, g9, cp9, hv9, hb9⟩ := append_zeros o1 zn (by omega) (by rw [HR.out.length]; omega)
            rw [HR.out.length] at hv9
            have b1x : Below wr.heap.size wr w1x := (below_draws (Below.refl wr.heap.size wr) 1).grown g1 (Nat.le_refl _) (fun g hg => by cases hg)
            have n1x : ∀ g, v1.ownBlock = some g → wr.heap.size ≤ g := fun g hg => by
              rcases hb1 with hb1 | hb1
              · rw [hb1] at hg; cases hg
              · rw [hb1] at hg; injection hg with hg; exact hg ▸ Nat.le_refl _
            have b2x : Below wr.heap.size wr w2x := b1x.grown g2 b1x.size n1x
            have n2x : wr.heap.size ≤ g9 := by
              rcases hb9 with hb9 | hb9
              · exact n1x g9 hb9
              · rw [hb9]; exact b1x.size
            have hzc1 : w1x.cell? ⟨bz, offz + q, none⟩ = some (.int .i64 (zn : Int)) := (b1x.cell (p := ⟨bz, offz + q, none⟩) (block_lt_of_cell hzc)).trans hzc
            have hzc0 : wr.drew.cell? ⟨bz, offz + q, none⟩ = some (.int .i64 (zn : Int)) := hzc
            obtain ⟨L2, hL2⟩ : ∃ L2, l ++ List.replicate zn 0 = L2 := ⟨_, rfl⟩
            have hL2l : L2.length = m + zn := by rw [← hL2, List.length_append, List.length_replicate, HR.out.length]
            have hL2b : Byte L2 := by rw [← hL2]; exact HR.out.byte.append (Byte.zeros _)
            rw [hL2] at o2
            subst hv9
            have R1 := Lib.hid r1
            have R2 := Lib.hid r2
            have O2 := Lib.hid o2
            have B2 := Lib.hid b2x
            have HLL := Lib.hid hL2l
            have HLB := Lib.hid hL2b
            have c9 : m + zn ≤ cp9 := by
              obtain ⟨_, _, e9, h9, _⟩ := o2.form
              injection e9 with e9 e10 e11
              omega
            clear r1 r2 o1 o2 g1 g2 hb1 hb9 b1x n1x b2x hL2 hL2l hL2b
            go_upto_region 15 with fail
            go_region_law (first
              | (refine step_append9 33 (.const (.slice none 0 0)) (.tmp 60) _ _ rfl rfl rfl rfl rfl (by exact R1.out) ?_)
              | (refine step_append9 3 (.tmp 61) (.tmp 65) _ _ rfl rfl rfl rfl rfl (by exact R2.out) ?_))
            all_goals
              clear hzc hzc1 hzc0
              by_cases hbig : 4080 < m + zn
              · have i8 : (4080 : Int) < ((m + zn : Nat) : Int) := by omega
                have i8' : (4080 : Int) < (m : Int) + (zn : Int) := by omega
                have C5 := Lib.hid (save_large (w := w2x) (s := s) (p := p) (nm := aB) (tv := tv) (x := x) (t := t) (k := k) (tr := t) (some ⟨g9, 0, none⟩) (m + zn) cp9 hbig (by omega))
                have SL6 := Lib.hid (SL.out.later B2.out)
                have TB : Hid (t ≤ 1 + (q + 1)) := by show t ≤ 1 + (q + 1); have := HTB.out; omega
                have ST6 := STR
                have CL6 := CL
                clear SL
                go_wp2_with fail
                refine C5.out.mono ?_
                rintro e w6 ⟨rfl, rfl⟩
                clear C5
                rcases Nat.lt_or_ge q len3 with ho3 | ho3
                · have j6 : (q : Int) < (len3 : Int) := by omega
                  obtain ⟨bo, offo, hao, hco⟩ := HOS.out.cells.resolve_left (by omega)
                  subst hao
                  have hco' := (SL6.out.held.below.cell (p := ⟨bo, offo + q, none⟩) (block_lt_of_cell (hco q ho3))).trans (hco q ho3)
                  obtain ⟨z9, hz9⟩ : ∃ z9, os.getD q false = z9 := ⟨_, rfl⟩
                  rw [hz9] at hco'
                  clear hco ho3 hz9
                  cases z9 with
                  | false =>
                    have SX := Lib.hid (Slot.more (m := 9 + 5 * (q + 1)) SL6.out (by omega))
                    have SY := ST6
                    have SZ := CL6
                    have CT := Lib.hid (text_any SX.out.at_)
                    have BX := Lib.hid SX.out.at_.byte
                    go_wp2_with fail
                    refine CT.out.mono ?_
                    rintro e w17 ⟨v7, rfl, o7, n7, b7⟩
                    obtain ⟨a7, cp7, rfl, _, _, _, l7, _⟩ := o7.form
                    have rs7 := disk.run_str l7 BX.out cp7
                    have NX := Lib.hid (SX.out.later b7)
                    have CU := Lib.hid (turn_any NX.out.at_)
                    clear o7 n7 b7 l7 CT
                    go_wp2_with fail
                    refine CU.out.mono ?_
                    rintro e w18 ⟨rfl, rfl⟩
                    go_wp2_with fail
                    refine ⟨⟨q + 1, by rw [Int.natCast_add]; rfl, by omega, by omega, ⟨_, _, _, _, _, _, _, _, _, rfl, rfl, rfl, rfl, NX.out, SY.out, SZ.out, TB.out⟩⟩, ?_⟩
                    show ((len1 : Int) - ((q : Int) + 1)).toNat < ((len1 : Int) - (q : Int)).toNat
                    omega
                  | true =>
                    have C7 := Lib.hid (SL6.out.held.crash (by omega) 0 none 0 0 [] (bools_nil _) (-1))
                    go_wp2_with fail
                    refine C7.out.mono ?_
                    rintro e w8 ⟨p2, S3, rfl, h8, hs8, hb8⟩
                    obtain ⟨b', lo8⟩ := SL6.out.lone.crash hs8 hb8
                    have hA3 := crash_clean (keep := []) (torn := -1) CL6.out
                    rw [hA3] at lo8
                    have h9 := Held.fresh h8 hs8.2.2.1 hs8.2.2.2.1 hs8.2.2.2.2.1 (by rw [lo8.now]; exact Nat.le_refl _) hs8.2.2.2.2.2
                    have h10 : Held w (fun _ => False) w8 p2 S3 1 := Held.rebase h9 SL6.out.held.below.size (SL6.out.held.below.trans (h9.below.mono SL6.out.held.below.size)) (fun k hk => hk.elim) (fun k _ hk => hk.elim)
                    have C8 := Lib.hid (open_slot h10 lo8 SL6.out.keeps ST6.out (Nat.le_refl _) (by omega) HT.out)
                    clear h8 hs8 hb8 lo8 hA3 h9 h10 C7 hco'
                    go_wp2_with fail
                    refine C8.out.mono ?_
                    rintro e w9 ⟨s9, tv9, S9, rfl, sl9, _⟩
                    have SX := Lib.hid (Slot.more (m := 9 + 5 * (q + 1)) (sl9.fewer (E' := fun _ => False) fun j e => e.elim) (by omega))
                    have SY := ST6
                    have SZ := CL6
                    clear sl9 C8
                    have CT := Lib.hid (text_any SX.out.at_)
                    have BX := Lib.hid SX.out.at_.byte
                    go_wp2_with fail
                    refine CT.out.mono ?_
                    rintro e w17 ⟨v7, rfl, o7, n7, b7⟩
                    obtain ⟨a7, cp7, rfl, _, _, _, l7, _⟩ := o7.form
                    have rs7 := disk.run_str l7 BX.out cp7
                    have NX := Lib.hid (SX.out.later b7)
                    have CU := Lib.hid (turn_any NX.out.at_)
                    clear o7 n7 b7 l7 CT
                    go_wp2_with fail
                    refine CU.out.mono ?_
                    rintro e w18 ⟨rfl, rfl⟩
                    go_wp2_with fail
                    refine ⟨⟨q + 1, by rw [Int.natCast_add]; rfl, by omega, by omega, ⟨_, _, _, _, _, _, _, _, _, rfl, rfl, rfl, rfl, NX.out, SY.out, SZ.out, TB.out⟩⟩, ?_⟩
                    show ((len1 : Int) - ((q : Int) + 1)).toNat < ((len1 : Int) - (q : Int)).toNat
                    omega
                · have j6 : ¬ (q : Int) < (len3 : Int) := by omega
                  have SX := Lib.hid (Slot.more (m := 9 + 5 * (q + 1)) SL6.out (by omega))
                  have SY := ST6
                  have SZ := CL6
                  clear ho3
                  have CT := Lib.hid (text_any SX.out.at_)
                  have BX := Lib.hid SX.out.at_.byte
                  go_wp2_with fail
                  refine CT.out.mono ?_
                  rintro e w17 ⟨v7, rfl, o7, n7, b7⟩
                  obtain ⟨a7, cp7, rfl, _, _, _, l7, _⟩ := o7.form
                  have rs7 := disk.run_str l7 BX.out cp7
                  have NX := Lib.hid (SX.out.later b7)
                  have CU := Lib.hid (turn_any NX.out.at_)
                  clear o7 n7 b7 l7 CT
                  go_wp2_with fail
                  refine CU.out.mono ?_
                  rintro e w18 ⟨rfl, rfl⟩
                  go_wp2_with fail
                  refine ⟨⟨q + 1, by rw [Int.natCast_add]; rfl, by omega, by omega, ⟨_, _, _, _, _, _, _, _, _, rfl, rfl, rfl, rfl, NX.out, SY.out, SZ.out, TB.out⟩⟩, ?_⟩
                  show ((len1 : Int) - ((q : Int) + 1)).toNat < ((len1 : Int) - (q : Int)).toNat
                  omega
              · have i8 : ¬ (4080 : Int) < ((m + zn : Nat) : Int) := by omega
                have i8' : ¬ (4080 : Int) < (m : Int) + (zn : Int) := by omega
                have C5 := Lib.hid (save_slot (SL.out.mine B2.out) (by omega) HT.out (some ⟨g9, 0, none⟩) (m + zn) cp9 L2 (Own.leads O2.out).2 HLB.out HLL.out (by omega) c9 (fun e => by cases e) (fun g off e _ => .inl (.inr (by injection e with e; injection e with e; subst e; exact ⟨n2x, O2.out.lt rfl⟩))) (by omega))
                have kl5 : ∀ w6, Kept (fun j => False ∨ (wr.heap.size ≤ j ∧ j < w2x.heap.size)) w2x w6 → Leads w6 (some ⟨g9, 0, none⟩) L2 := fun w6 hk => (Own.leads O2.out).2.same fun b' off' e hne => by
                  injection e with e
                  injection e with e
                  subst e
                  exact hk g9 (.inr ⟨n2x, O2.out.lt rfl⟩)
                have KL5 := Lib.hid kl5
                clear kl5
                clear SL
                go_wp2_with fail
                refine C5.out.mono ?_
                rintro e w6 ⟨hk6, c, tv', x', t', k', S2, A2, f2, rfl, sl6, hc⟩
                rcases hc with ⟨h0, _⟩ | ⟨_, h0, _⟩ | ⟨_, _, rfl, hA2, rfl, hxl, rfl, rfl, st6⟩
                · cases h0
                · cases h0
                have hxl' := hxl.symm
                subst hxl'
                have rs5 : (convert 33 9 (.slice (some ⟨g9, 0, none⟩) (m + zn) cp9)).run Tryd.prog w6 = .ok (.string (disk.str L2)) w6 := by
                  have := disk.run_str (KL5.out w6 hk6) HLB.out cp9
                  rw [HLL.out] at this
                  exact this
                have SL6 := Lib.hid (sl6.fewer (E' := fun _ => False) fun j e => e.elim)
                have TB : Hid (t + 1 ≤ 1 + (q + 1)) := by show t + 1 ≤ 1 + (q + 1); have := HTB.out; omega
                have ST6 := Lib.hid st6
                have CL6 : Hid (A2 = ⟨A2.now, A2.now, []⟩) := by show A2 = ⟨A2.now, A2.now, []⟩; rw [hA2]
                clear sl6 st6 hA2 C5
                rcases Nat.lt_or_ge q len3 with ho3 | ho3
                · have j6 : (q : Int) < (len3 : Int) := by omega
                  obtain ⟨bo, offo, hao, hco⟩ := HOS.out.cells.resolve_left (by omega)
                  subst hao
                  have hco' := (SL6.out.held.below.cell (p := ⟨bo, offo + q, none⟩) (block_lt_of_cell (hco q ho3))).trans (hco q ho3)
                  obtain ⟨z9, hz9⟩ : ∃ z9, os.getD q false = z9 := ⟨_, rfl⟩
                  rw [hz9] at hco'
                  clear hco ho3 hz9
                  cases z9 with
                  | false =>
                    have SX := Lib.hid (Slot.more (m := 9 + 5 * (q + 1)) SL6.out (by omega))
                    have SY := ST6
                    have SZ := CL6
                    have CT := Lib.hid (text_any SX.out.at_)
                    have BX := Lib.hid SX.out.at_.byte
                    go_wp2_with fail
                    refine CT.out.mono ?_
                    rintro e w17 ⟨v7, rfl, o7, n7, b7⟩
                    obtain ⟨a7, cp7, rfl, _, _, _, l7, _⟩ := o7.form
                    have rs7 := disk.run_str l7 BX.out cp7
                    have NX := Lib.hid (SX.out.later b7)
                    have CU := Lib.hid (turn_any NX.out.at_)
                    clear o7 n7 b7 l7 CT
                    go_wp2_with fail
                    refine CU.out.mono ?_
                    rintro e w18 ⟨rfl, rfl⟩
                    go_wp2_with fail
                    refine ⟨⟨q + 1, by rw [Int.natCast_add]; rfl, by omega, by omega, ⟨_, _, _, _, _, _, _, _, _, rfl, rfl, rfl, rfl, NX.out, SY.out, SZ.out, TB.out⟩⟩, ?_⟩
                    show ((len1 : Int) - ((q : Int) + 1)).toNat < ((len1 : Int) - (q : Int)).toNat
                    omega
                  | true =>
                    have C7 := Lib.hid (SL6.out.held.crash (by omega) 0 none 0 0 [] (bools_nil _) (-1))
                    go_wp2_with fail
                    refine C7.out.mono ?_
                    rintro e w8 ⟨p2, S3, rfl, h8, hs8, hb8⟩
                    obtain ⟨b', lo8⟩ := SL6.out.lone.crash hs8 hb8
                    have hA3 := crash_clean (keep := []) (torn := -1) CL6.out
                    rw [hA3] at lo8
                    have h9 := Held.fresh h8 hs8.2.2.1 hs8.2.2.2.1 hs8.2.2.2.2.1 (by rw [lo8.now]; exact Nat.le_refl _) hs8.2.2.2.2.2
                    have h10 : Held w (fun _ => False) w8 p2 S3 1 := Held.rebase h9 SL6.out.held.below.size (SL6.out.held.below.trans (h9.below.mono SL6.out.held.below.size)) (fun k hk => hk.elim) (fun k _ hk => hk.elim)
                    have C8 := Lib.hid (open_slot h10 lo8 SL6.out.keeps ST6.out (Nat.le_refl _) (by omega) HT.out)
                    clear h8 hs8 hb8 lo8 hA3 h9 h10 C7 hco'
                    go_wp2_with fail
                    refine C8.out.mono ?_
                    rintro e w9 ⟨s9, tv9, S9, rfl, sl9, _⟩
                    have SX := Lib.hid (Slot.more (m := 9 + 5 * (q + 1)) (sl9.fewer (E' := fun _ => False) fun j e => e.elim) (by omega))
                    have SY := ST6
                    have SZ := CL6
                    clear sl9 C8
                    have CT := Lib.hid (text_any SX.out.at_)
                    have BX := Lib.hid SX.out.at_.byte
                    go_wp2_with fail
                    refine CT.out.mono ?_
                    rintro e w17 ⟨v7, rfl, o7, n7, b7⟩
                    obtain ⟨a7, cp7, rfl, _, _, _, l7, _⟩ := o7.form
                    have rs7 := disk.run_str l7 BX.out cp7
                    have NX := Lib.hid (SX.out.later b7)
                    have CU := Lib.hid (turn_any NX.out.at_)
                    clear o7 n7 b7 l7 CT
                    go_wp2_with fail
                    refine CU.out.mono ?_
                    rintro e w18 ⟨rfl, rfl⟩
                    go_wp2_with fail
                    refine ⟨⟨q + 1, by rw [Int.natCast_add]; rfl, by omega, by omega, ⟨_, _, _, _, _, _, _, _, _, rfl, rfl, rfl, rfl, NX.out, SY.out, SZ.out, TB.out⟩⟩, ?_⟩
                    show ((len1 : Int) - ((q : Int) + 1)).toNat < ((len1 : Int) - (q : Int)).toNat
                    omega
                · have j6 : ¬ (q : Int) < (len3 : Int) := by omega
                  have SX := Lib.hid (Slot.more (m := 9 + 5 * (q + 1)) SL6.out (by omega))
                  have SY := ST6
                  have SZ := CL6
                  clear ho3
                  have CT := Lib.hid (text_any SX.out.at_)
                  have BX := Lib.hid SX.out.at_.byte
                  go_wp2_with fail
                  refine CT.out.mono ?_
                  rintro e w17 ⟨v7, rfl, o7, n7, b7⟩
                  obtain ⟨a7, cp7, rfl, _, _, _, l7, _⟩ := o7.form
                  have rs7 := disk.run_str l7 BX.out cp7
                  have NX := Lib.hid (SX.out.later b7)
                  have CU := Lib.hid (turn_any NX.out.at_)
                  clear o7 n7 b7 l7 CT
                  go_wp2_with fail
                  refine CU.out.mono ?_
                  rintro e w18 ⟨rfl, rfl⟩
                  go_wp2_with fail
                  refine ⟨⟨q + 1, by rw [Int.natCast_add]; rfl, by omega, by omega, ⟨_, _, _, _, _, _, _, _, _, rfl, rfl, rfl, rfl, NX.out, SY.out, SZ.out, TB.out⟩⟩, ?_⟩
                  show ((len1 : Int) - ((q : Int) + 1)).toNat < ((len1 : Int) - (q : Int)).toNat
                  omega
          · have hz2' : ¬ z < 4200 := hz2
            have C5 := Lib.hid (save_slot SL.out (by omega) HT.out qa m qc l (HR.out.bytes.later SL.out.held.below) HR.out.byte HR.out.length (by omega) hmc (fun e => (HR.out.nil e).2) (piece_far HR.out) (by omega))
            have i8 : ¬ (4080 : Int) < (m : Int) := by omega
            clear SL
            go_wp2_with fail
            refine C5.out.mono ?_
            rintro e w6 ⟨_, c, tv', x', t', k', S2, A2, f2, rfl, sl6, hc⟩
            rcases hc with ⟨h0, _⟩ | ⟨_, h0, _⟩ | ⟨_, _, rfl, hA2, rfl, hxl, rfl, rfl, st6⟩
            · cases h0
            · cases h0
            have hxl' := hxl.symm
            subst hxl'
            have rs5 : (convert 33 9 (.slice qa m qc)).run Tryd.prog w6 = .ok (.string (disk.str l)) w6 := by
              have := disk.run_str (HR.out.bytes.later sl6.held.below) HR.out.byte qc
              rw [HR.out.length] at this
              exact this
            have SL6 := Lib.hid (sl6.fewer (E' := fun _ => False) fun j e => e.elim)
            have TB : Hid (t + 1 ≤ 1 + (q + 1)) := by show t + 1 ≤ 1 + (q + 1); have := HTB.out; omega
            have ST6 := Lib.hid st6
            have CL6 : Hid (A2 = ⟨A2.now, A2.now, []⟩) := by show A2 = ⟨A2.now, A2.now, []⟩; rw [hA2]
            clear sl6 st6 hA2 C5
            rcases Nat.lt_or_ge q len3 with ho3 | ho3
            · have j6 : (q : Int) < (len3 : Int) := by omega
              obtain ⟨bo, offo, hao, hco⟩ := HOS.out.cells.resolve_left (by omega)
              subst hao
              have hco' := (SL6.out.held.below.cell (p := ⟨bo, offo + q, none⟩) (block_lt_of_cell (hco q ho3))).trans (hco q ho3)
              obtain ⟨z9, hz9⟩ : ∃ z9, os.getD q false = z9 := ⟨_, rfl⟩
              rw [hz9] at hco'
              clear hco ho3 hz9
              cases z9 with
              | false =>
                have SX := Lib.hid (Slot.more (m := 9 + 5 * (q + 1)) SL6.out (by omega))
                have SY := ST6
                have SZ := CL6
                have CT := Lib.hid (text_any SX.out.at_)
                have BX := Lib.hid SX.out.at_.byte
                go_wp2_with fail
                refine CT.out.mono ?_
                rintro e w17 ⟨v7, rfl, o7, n7, b7⟩
                obtain ⟨a7, cp7, rfl, _, _, _, l7, _⟩ := o7.form
                have rs7 := disk.run_str l7 BX.out cp7
                have NX := Lib.hid (SX.out.later b7)
                have CU := Lib.hid (turn_any NX.out.at_)
                clear o7 n7 b7 l7 CT
                go_wp2_with fail
                refine CU.out.mono ?_
                rintro e w18 ⟨rfl, rfl⟩
                go_wp2_with fail
                refine ⟨⟨q + 1, by rw [Int.natCast_add]; rfl, by omega, by omega, ⟨_, _, _, _, _, _, _, _, _, rfl, rfl, rfl, rfl, NX.out, SY.out, SZ.out, TB.out⟩⟩, ?_⟩
                show ((len1 : Int) - ((q : Int) + 1)).toNat < ((len1 : Int) - (q : Int)).toNat
                omega
              | true =>
                have C7 := Lib.hid (SL6.out.held.crash (by omega) 0 none 0 0 [] (bools_nil _) (-1))
                go_wp2_with fail
                refine C7.out.mono ?_
                rintro e w8 ⟨p2, S3, rfl, h8, hs8, hb8⟩
                obtain ⟨b', lo8⟩ := SL6.out.lone.crash hs8 hb8
                have hA3 := crash_clean (keep := []) (torn := -1) CL6.out
                rw [hA3] at lo8
                have h9 := Held.fresh h8 hs8.2.2.1 hs8.2.2.2.1 hs8.2.2.2.2.1 (by rw [lo8.now]; exact Nat.le_refl _) hs8.2.2.2.2.2
                have h10 : Held w (fun _ => False) w8 p2 S3 1 := Held.rebase h9 SL6.out.held.below.size (SL6.out.held.below.trans (h9.below.mono SL6.out.held.below.size)) (fun k hk => hk.elim) (fun k _ hk => hk.elim)
                have C8 := Lib.hid (open_slot h10 lo8 SL6.out.keeps ST6.out (Nat.le_refl _) (by omega) HT.out)
                clear h8 hs8 hb8 lo8 hA3 h9 h10 C7 hco'
                go_wp2_with fail
                refine C8.out.mono ?_
                rintro e w9 ⟨s9, tv9, S9, rfl, sl9, _⟩
                have SX := Lib.hid (Slot.more (m := 9 + 5 * (q + 1)) (sl9.fewer (E' := fun _ => False) fun j e => e.elim) (by omega))
                have SY := ST6
                have SZ := CL6
                clear sl9 C8
                have CT := Lib.hid (text_any SX.out.at_)
                have BX := Lib.hid SX.out.at_.byte
                go_wp2_with fail
                refine CT.out.mono ?_
                rintro e w17 ⟨v7, rfl, o7, n7, b7⟩
                obtain ⟨a7, cp7, rfl, _, _, _, l7, _⟩ := o7.form
                have rs7 := disk.run_str l7 BX.out cp7
                have NX := Lib.hid (SX.out.later b7)
                have CU := Lib.hid (turn_any NX.out.at_)
                clear o7 n7 b7 l7 CT
                go_wp2_with fail
                refine CU.out.mono ?_
                rintro e w18 ⟨rfl, rfl⟩
                go_wp2_with fail
                refine ⟨⟨q + 1, by rw [Int.natCast_add]; rfl, by omega, by omega, ⟨_, _, _, _, _, _, _, _, _, rfl, rfl, rfl, rfl, NX.out, SY.out, SZ.out, TB.out⟩⟩, ?_⟩
                show ((len1 : Int) - ((q : Int) + 1)).toNat < ((len1 : Int) - (q : Int)).toNat
                omega
            · have j6 : ¬ (q : Int) < (len3 : Int) := by omega
              have SX := Lib.hid (Slot.more (m := 9 + 5 * (q + 1)) SL6.out (by omega))
              have SY := ST6
              have SZ := CL6
              clear ho3
              have CT := Lib.hid (text_any SX.out.at_)
              have BX := Lib.hid SX.out.at_.byte
              go_wp2_with fail
              refine CT.out.mono ?_
              rintro e w17 ⟨v7, rfl, o7, n7, b7⟩
              obtain ⟨a7, cp7, rfl, _, _, _, l7, _⟩ := o7.form
              have rs7 := disk.run_str l7 BX.out cp7
              have NX := Lib.hid (SX.out.later b7)
              have CU := Lib.hid (turn_any NX.out.at_)
              clear o7 n7 b7 l7 CT
              go_wp2_with fail
              refine CU.out.mono ?_
              rintro e w18 ⟨rfl, rfl⟩
              go_wp2_with fail
              refine ⟨⟨q + 1, by rw [Int.natCast_add]; rfl, by omega, by omega, ⟨_, _, _, _, _, _, _, _, _, rfl, rfl, rfl, rfl, NX.out, SY.out, SZ.out, TB.out⟩⟩, ?_⟩
              show ((len1 : Int) - ((q : Int) + 1)).toNat < ((len1 : Int) - (q : Int)).toNat
              omega
        · have hz1' : ¬ (100 : Int) < z := hz1
          have C5 := Lib.hid (save_slot SL.out (by omega) HT.out qa m qc l (HR.out.bytes.later SL.out.held.below) HR.out.byte HR.out.length (by omega) hmc (fun e => (HR.out.nil e).2) (piece_far HR.out) (by omega))
          have i8 : ¬ (4080 : Int) < (m : Int) := by omega
          clear SL
          go_wp2_with fail
          refine C5.out.mono ?_
          rintro e w6 ⟨_, c, tv', x', t', k', S2, A2, f2, rfl, sl6, hc⟩
          rcases hc with ⟨h0, _⟩ | ⟨_, h0, _⟩ | ⟨_, _, rfl, hA2, rfl, hxl, rfl, rfl, st6⟩
          · cases h0
          · cases h0
          have hxl' := hxl.symm
          subst hxl'
          have rs5 : (convert 33 9 (.slice qa m qc)).run Tryd.prog w6 = .ok (.string (disk.str l)) w6 := by
            have := disk.run_str (HR.out.bytes.later sl6.held.below) HR.out.byte qc
            rw [HR.out.length] at this
            exact this
          have SL6 := Lib.hid (sl6.fewer (E' := fun _ => False) fun j e => e.elim)
          have TB : Hid (t + 1 ≤ 1 + (q + 1)) := by show t + 1 ≤ 1 + (q + 1); have := HTB.out; omega
          have ST6 := Lib.hid st6
          have CL6 : Hid (A2 = ⟨A2.now, A2.now, []⟩) := by show A2 = ⟨A2.now, A2.now, []⟩; rw [hA2]
          clear sl6 st6 hA2 C5
          rcases Nat.lt_or_ge q len3 with ho3 | ho3
          · have j6 : (q : Int) < (len3 : Int) := by omega
            obtain ⟨bo, offo, hao, hco⟩ := HOS.out.cells.resolve_left (by omega)
            subst hao
            have hco' := (SL6.out.held.below.cell (p := ⟨bo, offo + q, none⟩) (block_lt_of_cell (hco q ho3))).trans (hco q ho3)
            obtain ⟨z9, hz9⟩ : ∃ z9, os.getD q false = z9 := ⟨_, rfl⟩
            rw [hz9] at hco'
            clear hco ho3 hz9
            cases z9 with
            | false =>
              have SX := Lib.hid (Slot.more (m := 9 + 5 * (q + 1)) SL6.out (by omega))
              have SY := ST6
              have SZ := CL6
              have CT := Lib.hid (text_any SX.out.at_)
              have BX := Lib.hid SX.out.at_.byte
              go_wp2_with fail
              refine CT.out.mono ?_
              rintro e w17 ⟨v7, rfl, o7, n7, b7⟩
              obtain ⟨a7, cp7, rfl, _, _, _, l7, _⟩ := o7.form
              have rs7 := disk.run_str l7 BX.out cp7
              have NX := Lib.hid (SX.out.later b7)
              have CU := Lib.hid (turn_any NX.out.at_)
              clear o7 n7 b7 l7 CT
              go_wp2_with fail
              refine CU.out.mono ?_
              rintro e w18 ⟨rfl, rfl⟩
              go_wp2_with fail
              refine ⟨⟨q + 1, by rw [Int.natCast_add]; rfl, by omega, by omega, ⟨_, _, _, _, _, _, _, _, _, rfl, rfl, rfl, rfl, NX.out, SY.out, SZ.out, TB.out⟩⟩, ?_⟩
              show ((len1 : Int) - ((q : Int) + 1)).toNat < ((len1 : Int) - (q : Int)).toNat
              omega
            | true =>
              have C7 := Lib.hid (SL6.out.held.crash (by omega) 0 none 0 0 [] (bools_nil _) (-1))
              go_wp2_with fail
              refine C7.out.mono ?_
              rintro e w8 ⟨p2, S3, rfl, h8, hs8, hb8⟩
              obtain ⟨b', lo8⟩ := SL6.out.lone.crash hs8 hb8
              have hA3 := crash_clean (keep := []) (torn := -1) CL6.out
              rw [hA3] at lo8
              have h9 := Held.fresh h8 hs8.2.2.1 hs8.2.2.2.1 hs8.2.2.2.2.1 (by rw [lo8.now]; exact Nat.le_refl _) hs8.2.2.2.2.2
              have h10 : Held w (fun _ => False) w8 p2 S3 1 := Held.rebase h9 SL6.out.held.below.size (SL6.out.held.below.trans (h9.below.mono SL6.out.held.below.size)) (fun k hk => hk.elim) (fun k _ hk => hk.elim)
              have C8 := Lib.hid (open_slot h10 lo8 SL6.out.keeps ST6.out (Nat.le_refl _) (by omega) HT.out)
              clear h8 hs8 hb8 lo8 hA3 h9 h10 C7 hco'
              go_wp2_with fail
              refine C8.out.mono ?_
              rintro e w9 ⟨s9, tv9, S9, rfl, sl9, _⟩
              have SX := Lib.hid (Slot.more (m := 9 + 5 * (q + 1)) (sl9.fewer (E' := fun _ => False) fun j e => e.elim) (by omega))
              have SY := ST6
              have SZ := CL6
              clear sl9 C8
              have CT := Lib.hid (text_any SX.out.at_)
              have BX := Lib.hid SX.out.at_.byte
              go_wp2_with fail
              refine CT.out.mono ?_
              rintro e w17 ⟨v7, rfl, o7, n7, b7⟩
              obtain ⟨a7, cp7, rfl, _, _, _, l7, _⟩ := o7.form
              have rs7 := disk.run_str l7 BX.out cp7
              have NX := Lib.hid (SX.out.later b7)
              have CU := Lib.hid (turn_any NX.out.at_)
              clear o7 n7 b7 l7 CT
              go_wp2_with fail
              refine CU.out.mono ?_
              rintro e w18 ⟨rfl, rfl⟩
              go_wp2_with fail
              refine ⟨⟨q + 1, by rw [Int.natCast_add]; rfl, by omega, by omega, ⟨_, _, _, _, _, _, _, _, _, rfl, rfl, rfl, rfl, NX.out, SY.out, SZ.out, TB.out⟩⟩, ?_⟩
              show ((len1 : Int) - ((q : Int) + 1)).toNat < ((len1 : Int) - (q : Int)).toNat
              omega
          · have j6 : ¬ (q : Int) < (len3 : Int) := by omega
            have SX := Lib.hid (Slot.more (m := 9 + 5 * (q + 1)) SL6.out (by omega))
            have SY := ST6
            have SZ := CL6
            clear ho3
            have CT := Lib.hid (text_any SX.out.at_)
            have BX := Lib.hid SX.out.at_.byte
            go_wp2_with fail
            refine CT.out.mono ?_
            rintro e w17 ⟨v7, rfl, o7, n7, b7⟩
            obtain ⟨a7, cp7, rfl, _, _, _, l7, _⟩ := o7.form
            have rs7 := disk.run_str l7 BX.out cp7
            have NX := Lib.hid (SX.out.later b7)
            have CU := Lib.hid (turn_any NX.out.at_)
            clear o7 n7 b7 l7 CT
            go_wp2_with fail
            refine CU.out.mono ?_
            rintro e w18 ⟨rfl, rfl⟩
            go_wp2_with fail
            refine ⟨⟨q + 1, by rw [Int.natCast_add]; rfl, by omega, by omega, ⟨_, _, _, _, _, _, _, _, _, rfl, rfl, rfl, rfl, NX.out, SY.out, SZ.out, TB.out⟩⟩, ?_⟩
            show ((len1 : Int) - ((q : Int) + 1)).toNat < ((len1 : Int) - (q : Int)).toNat
            omega
      · have j4 : ¬ (q : Int) < (len2 : Int) := by omega
        clear hs2
        have C5 := Lib.hid (save_slot SL.out (by omega) HT.out qa m qc l (HR.out.bytes.later SL.out.held.below) HR.out.byte HR.out.length (by omega) hmc (fun e => (HR.out.nil e).2) (piece_far HR.out) (by omega))
        have i8 : ¬ (4080 : Int) < (m : Int) := by omega
        clear SL
        go_wp2_with fail
        refine C5.out.mono ?_
        rintro e w6 ⟨_, c, tv', x', t', k', S2, A2, f2, rfl, sl6, hc⟩
        rcases hc with ⟨h0, _⟩ | ⟨_, h0, _⟩ | ⟨_, _, rfl, hA2, rfl, hxl, rfl, rfl, st6⟩
        · cases h0
        · cases h0
        have hxl' := hxl.symm
        subst hxl'
        have rs5 : (convert 33 9 (.slice qa m qc)).run Tryd.prog w6 = .ok (.string (disk.str l)) w6 := by
          have := disk.run_str (HR.out.bytes.later sl6.held.below) HR.out.byte qc
          rw [HR.out.length] at this
          exact this
        have SL6 := Lib.hid (sl6.fewer (E' := fun _ => False) fun j e => e.elim)
        have TB : Hid (t + 1 ≤ 1 + (q + 1)) := by show t + 1 ≤ 1 + (q + 1); have := HTB.out; omega
        have ST6 := Lib.hid st6
        have CL6 : Hid (A2 = ⟨A2.now, A2.now, []⟩) := by show A2 = ⟨A2.now, A2.now, []⟩; rw [hA2]
        clear sl6 st6 hA2 C5
        rcases Nat.lt_or_ge q len3 with ho3 | ho3
        · have j6 : (q : Int) < (len3 : Int) := by omega
          obtain ⟨bo, offo, hao, hco⟩ := HOS.out.cells.resolve_left (by omega)
          subst hao
          have hco' := (SL6.out.held.below.cell (p := ⟨bo, offo + q, none⟩) (block_lt_of_cell (hco q ho3))).trans (hco q ho3)
          obtain ⟨z9, hz9⟩ : ∃ z9, os.getD q false = z9 := ⟨_, rfl⟩
          rw [hz9] at hco'
          clear hco ho3 hz9
          cases z9 with
          | false =>
            have SX := Lib.hid (Slot.more (m := 9 + 5 * (q + 1)) SL6.out (by omega))
            have SY := ST6
            have SZ := CL6
            have CT := Lib.hid (text_any SX.out.at_)
            have BX := Lib.hid SX.out.at_.byte
            go_wp2_with fail
            refine CT.out.mono ?_
            rintro e w17 ⟨v7, rfl, o7, n7, b7⟩
            obtain ⟨a7, cp7, rfl, _, _, _, l7, _⟩ := o7.form
            have rs7 := disk.run_str l7 BX.out cp7
            have NX := Lib.hid (SX.out.later b7)
            have CU := Lib.hid (turn_any NX.out.at_)
            clear o7 n7 b7 l7 CT
            go_wp2_with fail
            refine CU.out.mono ?_
            rintro e w18 ⟨rfl, rfl⟩
            go_wp2_with fail
            refine ⟨⟨q + 1, by rw [Int.natCast_add]; rfl, by omega, by omega, ⟨_, _, _, _, _, _, _, _, _, rfl, rfl, rfl, rfl, NX.out, SY.out, SZ.out, TB.out⟩⟩, ?_⟩
            show ((len1 : Int) - ((q : Int) + 1)).toNat < ((len1 : Int) - (q : Int)).toNat
            omega
          | true =>
            have C7 := Lib.hid (SL6.out.held.crash (by omega) 0 none 0 0 [] (bools_nil _) (-1))
            go_wp2_with fail
            refine C7.out.mono ?_
            rintro e w8 ⟨p2, S3, rfl, h8, hs8, hb8⟩
            obtain ⟨b', lo8⟩ := SL6.out.lone.crash hs8 hb8
            have hA3 := crash_clean (keep := []) (torn := -1) CL6.out
            rw [hA3] at lo8
            have h9 := Held.fresh h8 hs8.2.2.1 hs8.2.2.2.1 hs8.2.2.2.2.1 (by rw [lo8.now]; exact Nat.le_refl _) hs8.2.2.2.2.2
            have h10 : Held w (fun _ => False) w8 p2 S3 1 := Held.rebase h9 SL6.out.held.below.size (SL6.out.held.below.trans (h9.below.mono SL6.out.held.below.size)) (fun k hk => hk.elim) (fun k _ hk => hk.elim)
            have C8 := Lib.hid (open_slot h10 lo8 SL6.out.keeps ST6.out (Nat.le_refl _) (by omega) HT.out)
            clear h8 hs8 hb8 lo8 hA3 h9 h10 C7 hco'
            go_wp2_with fail
            refine C8.out.mono ?_
            rintro e w9 ⟨s9, tv9, S9, rfl, sl9, _⟩
            have SX := Lib.hid (Slot.more (m := 9 + 5 * (q + 1)) (sl9.fewer (E' := fun _ => False) fun j e => e.elim) (by omega))
            have SY := ST6
            have SZ := CL6
            clear sl9 C8
            have CT := Lib.hid (text_any SX.out.at_)
            have BX := Lib.hid SX.out.at_.byte
            go_wp2_with fail
            refine CT.out.mono ?_
            rintro e w17 ⟨v7, rfl, o7, n7, b7⟩
            obtain ⟨a7, cp7, rfl, _, _, _, l7, _⟩ := o7.form
            have rs7 := disk.run_str l7 BX.out cp7
            have NX := Lib.hid (SX.out.later b7)
            have CU := Lib.hid (turn_any NX.out.at_)
            clear o7 n7 b7 l7 CT
            go_wp2_with fail
            refine CU.out.mono ?_
            rintro e w18 ⟨rfl, rfl⟩
            go_wp2_with fail
            refine ⟨⟨q + 1, by rw [Int.natCast_add]; rfl, by omega, by omega, ⟨_, _, _, _, _, _, _, _, _, rfl, rfl, rfl, rfl, NX.out, SY.out, SZ.out, TB.out⟩⟩, ?_⟩
            show ((len1 : Int) - ((q : Int) + 1)).toNat < ((len1 : Int) - (q : Int)).toNat
            omega
        · have j6 : ¬ (q : Int) < (len3 : Int) := by omega
          have SX := Lib.hid (Slot.more (m := 9 + 5 * (q + 1)) SL6.out (by omega))
          have SY := ST6
          have SZ := CL6
          clear ho3
          have CT := Lib.hid (text_any SX.out.at_)
          have BX := Lib.hid SX.out.at_.byte
          go_wp2_with fail
          refine CT.out.mono ?_
          rintro e w17 ⟨v7, rfl, o7, n7, b7⟩
          obtain ⟨a7, cp7, rfl, _, _, _, l7, _⟩ := o7.form
          have rs7 := disk.run_str l7 BX.out cp7
          have NX := Lib.hid (SX.out.later b7)
          have CU := Lib.hid (turn_any NX.out.at_)
          clear o7 n7 b7 l7 CT
          go_wp2_with fail
          refine CU.out.mono ?_
          rintro e w18 ⟨rfl, rfl⟩
          go_wp2_with fail
          refine ⟨⟨q + 1, by rw [Int.natCast_add]; rfl, by omega, by omega, ⟨_, _, _, _, _, _, _, _, _, rfl, rfl, rfl, rfl, NX.out, SY.out, SZ.out, TB.out⟩⟩, ?_⟩
          show ((len1 : Int) - ((q : Int) + 1)).toNat < ((len1 : Int) - (q : Int)).toNat
          omega
    · have hcond : ¬ ((q : Int) < (len1 : Int)) ∨ ((q : Int) < (len1 : Int) ∧ ¬ ((q : Int) < 20)) := by omega
      clear hlt
      have C5 := Lib.hid (size_slot SL.out)
      have B5 := Lib.hid SL.out.held.below
      clear sl
      rcases hcond with hc1 | ⟨hc1, hc2⟩
      · go_wp2_with fail
        refine C5.out.mono ?_
        rintro e w6 ⟨rfl, rfl⟩
        go_wp2_with fail
        go_ret
        exact ⟨rfl, B5.out⟩
      · go_wp2_with fail
        refine C5.out.mono ?_
        rintro e w6 ⟨rfl, rfl⟩
        go_wp2_with fail
        go_ret
        exact ⟨rfl, B5.out⟩
end Go.Proofs.YtdonblfidohncaaDoor.slots
