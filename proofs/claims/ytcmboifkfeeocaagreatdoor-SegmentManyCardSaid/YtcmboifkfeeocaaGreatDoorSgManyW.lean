/-
  THE WALK OF 'stillroomlaw8.SegmentMany' (P8.1), from its beginning.
-/
import Derived.Test.YtcmboifkfeeocaaGreatDoorSgMany
import Derived.Test.YtcmboifkfeeocaaGreatDoorMBase
namespace Go.Proofs.YtcmboifkfeeocaaGreatDoor.scan
open Go.RowKit Go.Proofs.YtcmboifkfeeocaaGreatDoor.disk Go.Proofs.YtcmboifkfeeocaaGreatDoor.recd Go.Proofs.YtcmboifkfeeocaaGreatDoor.seg
set_option linter.unusedVariables false

theorem leftL_synced (L : List Int) (keep : List Bool) (torn : Int) : leftL ⟨L, L, []⟩ keep torn = L := rfl

set_option maxRecDepth 100000 in
set_option maxHeartbeats 16000000 in
theorem segmany_in (w : World) (hT : Tabs w) (n per : Nat) (hn1 : 1 ≤ n) (hn : n ≤ 60) (hp1 : 1 ≤ per) (hp : per ≤ 10) : Calls Tryz.prog 4 #[.int .i64 (n : Int), .int .i64 (per : Int)] w fun e w' => e = .returned (.bool true) ∧ Below w.heap.size w w' := by
  have CB := Lib.hid (sbegun_any w hT)
  have HT := Lib.hid hT
  have i1 : ¬ ((n : Int) < 1) := by omega
  have i2 : ¬ (60 : Int) < (n : Int) := by omega
  have i3 : ¬ ((per : Int) < 1) := by omega
  have i4 : ¬ (10 : Int) < (per : Int) := by omega
  clear hT
  go_enter Tryz.func4, Tryz.ntmps4
  go_wp2_with fail
  refine CB.out.mono ?_
  rintro e w1 ⟨rfl, h1⟩
  have H1 := Lib.hid h1
  clear h1 CB
  go_wp2_with fail
  refine (new_any w1 1048576).mono ?_
  rintro e w2 ho
  obtain ⟨p, rfl, h2, _⟩ := held_new (W := w) (X := fun _ => False) (fun _ e => e.elim) H1.out ho
  have C2 := Lib.hid (segcreate_new HT.out w2 p 1048576 h2 4 1 (by omega) (by omega))
  have Z2 := Lib.hid h2.below.size
  clear ho h2
  go_wp2_with fail
  refine C2.out.mono ?_
  rintro e w3 ⟨b, s, rfl, s3, h3, _, hzs⟩
  have hW : w.heap.size ≤ s := Nat.le_trans Z2.out hzs
  have start : Lots w p s b 0 ⟨[], [], []⟩ 0 (.slice none 0 0) w3 := ⟨h3.fewer (fun k hk => (by
    rcases hk with rfl | hk
    · exact .inr rfl
    · cases hk)), s3, OwnS.none_ fInt w3, rfl, Nat.le_refl _, (fun g hg => by cases hg)⟩
  have ST := Lib.hid start
  clear s3 h3 C2 start hzs
  go_wp2_with fail
  go_loopw [9, 10] (fun av i wr => ∃ (m q y : Nat) (A : FileA), i = .int .i64 (q : Int) ∧ m = min q n ∧ q ≤ 1000 ∧ Lots w p s b m A y av wr) (fun _ i _ => (((n : Int) + 10) - intOf i).toNat)
  case atStart => exact ⟨0, 0, 0, _, rfl, by omega, by omega, ST.out⟩
  case round =>
    obtain ⟨m, q, y, A, rfl, hmq, hq, hL⟩ := hrel
    have HL := Lib.hid hL
    clear hL
    by_cases hqn : q < n
    · have hqI : (q : Int) < (n : Int) := by omega
      obtain rfl : m = q := by omega
      clear hmq
      obtain ⟨wo, hwo⟩ : ∃ wo : World, wo = wr := ⟨_, rfl⟩
      rw [← hwo] at HL ⊢
      clear hwo
      have SI := Lib.hid (GrowS.start fRec wo)
      go_wp2_with fail
      go_loopw [11, 12] (fun gv k wr => ∃ (kk : Nat), k = .int .i64 (kk : Int) ∧ m ≤ kk ∧ kk ≤ n ∧ kk ≤ m + per ∧ GrowS fRec wo (span m kk) gv wr) (fun _ k _ => ((n : Int) - intOf k).toNat)
      case atStart => exact ⟨m, rfl, Nat.le_refl _, by omega, by omega, by rw [span_start]; exact SI.out⟩
      case round =>
        obtain ⟨kk, rfl, hk1, hk2, hk3, hg⟩ := hrel
        have HG := Lib.hid hg
        clear hg
        by_cases hin : kk < n ∧ kk < m + per
        · obtain ⟨hin1, hin2⟩ := hin
          have j1 : (kk : Int) < (n : Int) := by omega
          have j2 : (kk : Int) < (m : Int) + (per : Int) := by omega
          obtain ⟨w4, r4, o4, b4⟩ := disk.run_make_bytes wr kk (by omega)
          have hstr := disk.run_str (w := w4) (a := some ⟨wr.heap.size, 0, none⟩) (l := List.replicate kk 0) (o4.leads).2 (by intro c hc; rw [List.eq_of_mem_replicate hc]; omega) kk
          rw [List.length_replicate] at hstr
          have hstr' : (convert 53 9 (.slice (some ⟨wr.heap.size, 0, none⟩) kk kk)).run Tryz.prog w4 = .ok (.string (zs kk)) w4 := hstr
          clear hstr
          have G4 := HG.out.later b4
          obtain ⟨v', w5, r5, g5⟩ := G4.put (mk kk) w4.heap.size 1 rfl (by rw [span_length]; omega)
          rw [span_snoc hk1] at g5
          have R5 := Lib.hid r5
          have G5 := Lib.hid g5
          have hcv : IntKind.u64.wrap (kk : Int) = (kk : Int) := by rw [IntKind.wrap_u64]; omega
          clear r5 g5 G4 o4 b4 HG
          go_wp2_with ((with_reducible show wpList _ _ _ (⟨some 73, _, _, _, _, _⟩ :: _) _ _); refine wpList_append_of 33 33 (.tmp 65) (.tmp 72) _ _ rfl rfl rfl rfl rfl R5.out ?_)
          refine ⟨⟨kk + 1, by rw [Int.natCast_add]; rfl, by omega, by omega, by omega, G5.out⟩, ?_⟩
          show ((n : Int) - ((kk : Int) + 1)).toNat < ((n : Int) - (kk : Int)).toNat
          omega
        · have hsp : ∀ r ∈ span m kk, r.Fit := fun r hr => by obtain ⟨j, hj, rfl⟩ := span_mem hr; exact mk_fit (by omega)
          obtain ⟨av, cv, rfl, hrow⟩ := recs_own HG.out.own hsp
          rw [span_length] at hrow ⊢
          obtain ⟨k, hk⟩ : ∃ k, kk - m = k := ⟨_, rfl⟩
          rw [hk] at hrow ⊢
          have CA := Lib.hid ((HL.out.later HG.out.below).append HT.out hW (m2 := kk) (by omega) (by omega) av k cv hk hrow)
          have hkn : kk = min (m + per) n := by omega
          have hcond : ((kk : Int) < (n : Int) ∧ ¬ ((kk : Int) < (m : Int) + (per : Int))) ∨ ¬ ((kk : Int) < (n : Int)) := by omega
          have HKN := Lib.hid hkn
          clear hsp hrow HG hk hin hkn
          rcases hcond with ⟨hc1, hc2⟩ | hc1
          all_goals
            go_wp2_with fail
            refine CA.out.mono ?_
            rintro e w7 ⟨A', g, cap, rfl, v', w8, r8, h8⟩
            have R8 := Lib.hid r8
            have H8 := Lib.hid h8
            clear r8 h8 CA
            go_wp2_with ((with_reducible show wpList _ _ _ (⟨some 84, _, _, _, _, _⟩ :: _) _ _); refine wpList_append_of 35 35 (.tmp 82) (.tmp 83) _ _ rfl rfl rfl rfl rfl R8.out ?_)
            refine ⟨⟨kk, m + per, y + 1, A', by rw [Int.natCast_add], HKN.out, by omega, H8.out⟩, ?_⟩
            show (((n : Int) + 10) - ((m : Int) + (per : Int))).toNat < (((n : Int) + 10) - (m : Int)).toNat
            omega
    · obtain rfl : m = n := by omega
      have hqI : ¬ ((q : Int) < (m : Int)) := by omega
      clear hmq
      have hplen : (placesF 0 (many m)).length = m := by rw [placesF_length, many_length]
      obtain ⟨g, c0, rfl⟩ : ∃ g c0, u9 = .slice (some ⟨g, 0, none⟩) m c0 := by
        rcases HL.out.at_.form with ⟨_, e⟩ | ⟨g, c0, e, _⟩
        · rw [e] at hplen; simp at hplen; omega
        · rw [hplen] at e; exact ⟨g, c0, e⟩
      have hle := HL.out.le
      have CS := Lib.hid (segsync HL.out.held (by omega) HL.out.seg (by decide))
      go_wp2_with fail
      refine CS.out.mono ?_
      rintro e w5 ⟨rfl, h5, k5⟩
      have s5 := HL.out.seg.kept (.inl rfl) k5
      have a5 := HL.out.at_.same fun g' hg' => k5 g' (.inr hg')
      have C5 := Lib.hid (h5.crash (by omega) 0 none 0 0 [] (bools_nil w5) (-1))
      have H5 := Lib.hid h5
      have S5 := Lib.hid s5
      have A5 := Lib.hid a5
      clear h5 k5 s5 a5 CS
      go_wp2_with fail
      refine C5.out.mono ?_
      rintro e w6 ⟨p2, S2, rfl, h6, _, hbl⟩
      rw [show (SegSt (within 1048576) 4 1 b ⟨A.now, A.now, []⟩ (less (-1)) (2 + (y : Int) + 1) 0).leftDir (min (0 : Int).toNat (SegSt (within 1048576) 4 1 b ⟨A.now, A.now, []⟩ (less (-1)) (2 + (y : Int) + 1) 0).wait.length) = [(nameL 4 1, b)] from One.left_zero] at hbl
      obtain ⟨b2, _, hd2, hf2⟩ := hbl.one
      rw [SegSt.file, leftL_synced, HL.out.bytes] at hf2
      obtain ⟨L, hL⟩ : ∃ L, cat (many m) = L := ⟨_, rfl⟩
      have hL2 : (S2.file b2).now = L := by rw [hf2, ← hL]
      have hseg : segF 4 L = (finds 0 (many m), L.length) := by rw [← hL]; exact segF_all 4 (many m) (many_fine (by omega)) fun r hr => (many_one (by omega) r hr).1
      have T5 := Lib.hid (HT.out.later H5.out.below)
      have C6 := segopen_good T5.out w6 p2 S2 _ h6 (by omega) 4 1 (by omega) (by omega) b2 hd2
      rw [hL2, show decide ((segF 4 L).2 = L.length) = true by rw [hseg]; exact decide_eq_true rfl] at C6
      have HC6 := Lib.hid C6
      have HD2 := Lib.hid hd2
      have HL2 := Lib.hid hL2
      have HLE := Lib.hid hL
      have HSEG := Lib.hid hseg
      have Z6 := Lib.hid h6.below.size
      clear h6 hbl hd2 hf2 hL2 hseg C6 C5 hL
      go_wp2_with fail
      refine HC6.out.mono ?_
      rintro e w7 ⟨s2, rfl, g7, h7, _, z7⟩
      have C7 := records_any w7 p2 (readSt S2 (L.length : Int)) _ h7 (by omega) T5.out.crc s2 (nameB 4 1) 4 true g7 (.inr rfl) b2 (by rw [nameB_data]; exact HD2.out)
      rw [show ((readSt S2 (L.length : Int)).file b2).now = L from HL2.out, HSEG.out] at C7
      have HC7 := Lib.hid C7
      have G7 := Lib.hid g7
      have Z7 := Lib.hid h7.below
      clear h7 g7 C7 HC6
      go_wp2_with fail
      refine HC7.out.mono ?_
      rintro e w8 ⟨v8, rfl, r8, _, h8, k8, _⟩
      obtain ⟨a8, c8, e8, _, _, _⟩ := r8.slice
      simp only [finds_length, many_length] at e8
      subst e8
      have h8' := h8.fewer (Y := fun k => k = s2) fun k hk => .inl (.inr hk)
      have g8 := G7.out.kept (X := fun k => False ∨ k = s2) (.inr rfl) k8
      have C8 := segsize_any w8 p2 _ _ h8'.disk s2 (nameB 4 1) 4 true g8
      have hsz8 : St.size ({ readSt S2 (L.length : Int) with reads := (readSt S2 (L.length : Int)).reads + ((L.length : Nat) : Int) } : St) (nameB 4 1).data.toList = (L.length : Int) := by
        rw [nameB_data, St.size]
        simp only [show dlook (nameL 4 1) ({ readSt S2 (L.length : Int) with reads := (readSt S2 (L.length : Int)).reads + ((L.length : Nat) : Int) } : St).now = some b2 from HD2.out]
        show (((S2.file b2).now.length : Nat) : Int) = _
        rw [HL2.out]
      rw [hsz8] at C8
      have HC8 := Lib.hid C8
      have H8 := Lib.hid h8'
      have G8 := Lib.hid g8
      clear r8 h8 h8' k8 g8 C8 hsz8 HC7
      go_wp2_with fail
      refine HC8.out.mono ?_
      rintro e w9 ⟨rfl, q9, hw9⟩
      have b9 : Below w8.heap.size w8 w9 := hw9 ▸ draws_below w8 q9
      have h9 := Held.later H8.out b9
      have g9 := G8.out.later b9
      have b59 : Below w5.heap.size w5 w9 := h9.below
      have hAL : A.now = L := by rw [HL.out.bytes, HLE.out]
      obtain ⟨S1, hS1⟩ : ∃ S1, SegSt (within 1048576) 4 1 b ⟨A.now, A.now, []⟩ (less (-1)) (2 + (y : Int) + 1) 0 = S1 := ⟨_, rfl⟩
      have hD1 : dlook (nameB 4 1).data.toList S1.now = some b := by rw [← hS1]; exact SegSt.look
      have hF1 : (S1.file b).now = L := by rw [← hS1, SegSt.file]; exact hAL
      have C9 := segsize (Held.later H5.out b59) (S5.out.later b59)
      rw [show ({ now := A.now, old := A.now, dirty := [] } : FileA).now.length = L.length by rw [← hAL]] at C9
      have hD2 : dlook (nameB 4 1).data.toList S2.now = some b2 := by rw [nameB_data]; exact HD2.out
      have d1 := H5.out.mine b59
      rw [hS1] at d1
      have hcz : w5.heap.size ≤ s2 := Nat.le_trans Z6.out z7
      have hlen : (many m).length = m := many_length m
      have bo : Both w w5.heap.size w9 p s S1 0 (3 + 2 * y + 2 + 2 * 0) p2 s2 S2 ((L.length : Int) + (L.length : Int)) (2 * (3 + 2 * y + 2) + 1 + 1 + 0) (nameB 4 1) 4 (.slice (some ⟨g, 0, none⟩) m c0) (placesF 0 (many m)) (fun _ => False) := by
        refine ⟨?_, ?_, S5.out.later b59, g9, A5.out.later b59, S5.out.cells.lt, fun g' hg' => A5.out.lt hg', hcz, b59.size, H5.out.below.size, fun k hk => hk.elim⟩
        · rw [readSt_zero]
          exact d1
        · have := held_wide (W := w) h9 H5.out.below
          rw [← readSt_add]
          exact this.fewer fun k hk => by
            rcases hk with (rfl | hk) | hk
            · exact .inl rfl
            · exact hk.elim
            · exact .inr hk
      have HC9 := Lib.hid C9
      have BO := Lib.hid bo
      have HD1 := Lib.hid hD1
      have HF1 := Lib.hid hF1
      have HDD := Lib.hid hD2
      have HAL := Lib.hid hAL
      have B9 := Lib.hid (H5.out.below.trans (b59.mono H5.out.below.size))
      clear hw9 h9 g9 C9 bo hD1 hF1 hD2 d1 hS1 HC8 hAL
      obtain ⟨cz, hczz⟩ : ∃ cz, w5.heap.size = cz := ⟨_, rfl⟩
      rw [hczz] at BO
      clear hczz b59 b9 G8 H8
      go_wp2_with fail
      refine HC9.out.mono ?_
      rintro e w10 ⟨rfl, q10, hw10⟩
      have bo := BO.out.later (hw10 ▸ draws_below w9 q10 : Below w9.heap.size w9 w10)
      have B10 := Lib.hid bo
      clear bo hw10 BO HC9
      go_wp2_with fail
      go_loopw [16] (fun i wr => ∃ (q3 : Nat) (k1 k2 : Int), i = .int .i64 (q3 : Int) ∧ q3 ≤ m ∧ Both w cz wr p s S1 k1 (3 + 2 * y + 2 + 2 * q3) p2 s2 S2 k2 (2 * (3 + 2 * y + 2) + 1 + 1 + q3) (nameB 4 1) 4 (.slice (some ⟨g, 0, none⟩) m c0) (placesF 0 (many m)) (fun _ => False)) (fun i _ => ((m : Int) - intOf i).toNat)
      case atStart => exact ⟨0, _, _, rfl, Nat.zero_le _, B10.out⟩
      case round =>
        obtain ⟨q3, k1, k2, rfl, hq3, hbo⟩ := hrel
        by_cases hqm : q3 < m
        · have hqI3 : (q3 : Int) < (m : Int) := by omega
          have hql : q3 < (placesF 0 (many m)).length := by rw [hplen]; exact hqm
          have hqm2 : q3 < (many m).length := by rw [hlen]; exact hqm
          have hat : (placesF 0 (many m))[q3] = pos (many m) q3 := by
            have := placesF_at 0 (many m) q3 hqm2 (fun r hr => (many_one (by omega) r hr).2) hql
            rw [Nat.zero_add] at this
            exact this
          obtain ⟨pq, hpq⟩ : ∃ pq, pos (many m) q3 = pq := ⟨_, rfl⟩
          have hp1 : pq + 1 < L.length := by rw [← hpq, ← HLE.out]; exact pos_many (by omega) hqm
          have hLl : L.length ≤ 60 * 1039 := by
            have := cat_le (gs := many m) fun r hr => (many_one (by omega) r hr).2
            rw [hlen, HLE.out] at this
            omega
          have hpz : pq ≤ 100000 := by omega
          clear hLl
          have hr1 : readS 4 L (pq : Int) = (mk q3, 0) := by rw [← hpq, ← HLE.out]; exact read_many (by omega) hqm
          have hr2 : readS 4 L ((pq + 1 : Nat) : Int) = (zeroRec, 4) := by rw [← hpq, ← HLE.out]; exact read_past (by omega) hqm
          have hc : wr.cell? ⟨g, q3, none⟩ = some (.int .i64 (pq : Int)) := by
            have := hbo.at_.range q3 hql 0 _ rfl
            rw [hat, hpq, show q3 * fInt.sz + 0 = q3 by show q3 * 1 + 0 = q3; omega] at this
            exact this
          have CA := hbo.read1 HT.out (by omega) b HD1.out L HF1.out pq (by omega)
          rw [hr1] at CA
          have HCA := Lib.hid CA
          have HR1 := Lib.hid hr1
          have HR2 := Lib.hid hr2
          have HP1 := Lib.hid hp1
          have HAT := Lib.hid hat
          have HPQ := Lib.hid hpq
          clear hr1 hr2 CA hbo hp1 hat hpq hqm2
          go_wp2_with fail
          refine HCA.out.mono ?_
          rintro e wa ⟨rfl, k1', hba, _⟩
          have hv : ((mk q3, (0 : Int)) : Rec × Int).1.val = .agg #[.int .i64 2, .int .u32 4, .int .u64 0, .int .u64 0, .int .u64 (q3 : Int), .string (zs q3)] := rfl
          rw [hv]
          have HBA := Lib.hid hba
          clear hc hba hv HCA
          go_upto_region 32 with fail
          obtain ⟨wb, hwb⟩ : ∃ wb, wa.alloc (.cells #[.int .i64 2, .int .u32 4, .int .u64 0, .int .u64 0, .int .u64 (q3 : Int), .string (zs q3)] 40) = wb := ⟨_, rfl⟩
          have bb : Below wa.heap.size wa wb := by rw [← hwb]; exact laid_below' _ _
          have whb : Whole wb wa.heap.size 40 [.int .i64 2, .int .u32 4, .int .u64 0, .int .u64 0, .int .u64 (q3 : Int), .string (zs q3)] := by rw [← hwb]; exact Whole.made' wa _ _
          have hsb : wa.heap.size < wb.heap.size := by rw [← hwb, World.alloc]; simp
          rw [hwb]
          clear hwb
          have hbb := HBA.out.mine bb
          have hc2 : wb.cell? ⟨g, q3, none⟩ = some (.int .i64 (pq : Int)) := by
            have := hbb.at_.range q3 hql 0 _ rfl
            rw [HAT.out, HPQ.out, show q3 * fInt.sz + 0 = q3 by show q3 * 1 + 0 = q3; omega] at this
            exact this
          have CB := hbb.read2 HT.out (by omega) b2 HDD.out L HL2.out pq (by have := HP1.out; omega)
          rw [HR1.out] at CB
          have HCB := Lib.hid CB
          have WHB := Lib.hid (whole6 whb)
          have HSB := Lib.hid hsb
          clear CB whb hbb bb hsb HBA
          go_wp2_with fail
          refine HCB.out.mono ?_
          rintro e wc ⟨rfl, k2', hbc, kc⟩
          have hv : ((mk q3, (0 : Int)) : Rec × Int).1.val = .agg #[.int .i64 2, .int .u32 4, .int .u64 0, .int .u64 0, .int .u64 (q3 : Int), .string (zs q3)] := rfl
          rw [hv]
          have hak : wc.heap[wa.heap.size]? = wb.heap[wa.heap.size]? := kc _ (.inr ⟨Nat.le_refl _, HSB.out⟩)
          have hac : wa.heap.size < wc.heap.size := by
            have := hbc.d2.user wa.heap.size (.inl (.inr (.inr ⟨Nat.le_refl _, HSB.out⟩)))
            exact this
          have HBC := Lib.hid hbc
          have HAK := Lib.hid hak
          have HAC := Lib.hid hac
          clear hc2 hbc kc hv hak hac HCB
          go_upto_region 33 with fail
          obtain ⟨wd, hwd⟩ : ∃ wd, wc.alloc (.cells #[.int .i64 2, .int .u32 4, .int .u64 0, .int .u64 0, .int .u64 (q3 : Int), .string (zs q3)] 40) = wd := ⟨_, rfl⟩
          have bd : Below wc.heap.size wc wd := by rw [← hwd]; exact laid_below' _ _
          have whd : Whole wd wc.heap.size 40 [.int .i64 2, .int .u32 4, .int .u64 0, .int .u64 0, .int .u64 (q3 : Int), .string (zs q3)] := by rw [← hwd]; exact Whole.made' wc _ _
          rw [hwd]
          clear hwd
          obtain ⟨_, _, _, _, a4, _⟩ := WHB.out
          obtain ⟨_, _, _, _, b4, b5⟩ := whole6 whd
          have a4' : wd.cell? ⟨wa.heap.size, 4, none⟩ = some (.int .u64 (q3 : Int)) := by
            rw [← a4]
            unfold World.cell?
            rw [bd.block _ HAC.out, HAK.out]
          have hbd := (HBC.out.later bd).fewer (E' := fun _ => False) fun _ h => h.elim
          have hc3 : wd.cell? ⟨g, q3, none⟩ = some (.int .i64 (pq : Int)) := by
            have := hbd.at_.range q3 hql 0 _ rfl
            rw [HAT.out, HPQ.out, show q3 * fInt.sz + 0 = q3 by show q3 * 1 + 0 = q3; omega] at this
            exact this
          have CD := hbd.read1 HT.out (by omega) b HD1.out L HF1.out (pq + 1) HP1.out
          rw [HR2.out, show ((pq + 1 : Nat) : Int) = (pq : Int) + 1 from rfl] at CD
          have HCD := Lib.hid CD
          have hcv : IntKind.u64.wrap (q3 : Int) = (q3 : Int) := by rw [IntKind.wrap_u64]; omega
          have hzs := zs_size q3
          clear CD whd bd hbd a4 WHB HBC HAK HAC HSB
          go_wp2_with fail
          refine HCD.out.mono ?_
          rintro e we ⟨rfl, k3', hbe, _⟩
          have fin : ∃ (q4 : Nat) (k1 k2 : Int), Value.int .i64 ((q3 : Int) + 1) = .int .i64 (q4 : Int) ∧ q4 ≤ m ∧ Both w cz we p s S1 k1 (3 + 2 * y + 2 + 2 * q4) p2 s2 S2 k2 (2 * (3 + 2 * y + 2) + 1 + 1 + q4) (nameB 4 1) 4 (.slice (some ⟨g, 0, none⟩) m c0) (placesF 0 (many m)) (fun _ => False) := ⟨q3 + 1, _, _, by rw [Int.natCast_add]; rfl, by omega, hbe⟩
          have FIN := Lib.hid fin
          clear hbe fin HCD
          go_wp2_with fail
          refine ⟨FIN.out, ?_⟩
          show ((m : Int) - ((q3 : Int) + 1)).toNat < ((m : Int) - (q3 : Int)).toNat
          omega
        · have B11 := Lib.hid hbo.d1.below
          have hqI3 : ¬ ((q3 : Int) < (m : Int)) := by omega
          clear hbo
          go_wp2_with fail
          go_ret
          exact ⟨rfl, B11.out⟩
set_option maxRecDepth 100000 in
set_option maxHeartbeats 4000000 in
theorem segmany_out (w : World) (hT : Tabs w) (n k : Int) (hout : n < 1 ∨ 60 < n ∨ k < 1 ∨ 10 < k) : Calls Tryz.prog 4 #[.int .i64 n, .int .i64 k] w fun e w' => e = .returned (.bool true) ∧ Below w.heap.size w w' := by
  have CB := Lib.hid (sbegun_any w hT)
  by_cases c1 : n < 1
  · clear hout
    go_enter Tryz.func4, Tryz.ntmps4
    go_wp2_with fail
    refine CB.out.mono ?_
    rintro e w1 ⟨rfl, h1⟩
    have H1 := Lib.hid h1
    clear h1
    go_wp2_with fail
    go_ret
    exact ⟨rfl, H1.out⟩
  · by_cases c2 : 60 < n
    · clear hout
      go_enter Tryz.func4, Tryz.ntmps4
      go_wp2_with fail
      refine CB.out.mono ?_
      rintro e w1 ⟨rfl, h1⟩
      have H1 := Lib.hid h1
      clear h1
      go_wp2_with fail
      go_ret
      exact ⟨rfl, H1.out⟩
    · by_cases c3 : k < 1
      · clear hout
        go_enter Tryz.func4, Tryz.ntmps4
        go_wp2_with fail
        refine CB.out.mono ?_
        rintro e w1 ⟨rfl, h1⟩
        have H1 := Lib.hid h1
        clear h1
        go_wp2_with fail
        go_ret
        exact ⟨rfl, H1.out⟩
      · have c4 : 10 < k := by omega
        clear hout
        go_enter Tryz.func4, Tryz.ntmps4
        go_wp2_with fail
        refine CB.out.mono ?_
        rintro e w1 ⟨rfl, h1⟩
        have H1 := Lib.hid h1
        clear h1
        go_wp2_with fail
        go_ret
        exact ⟨rfl, H1.out⟩
theorem segmany_any (w : World) (hT : Tabs w) {n k : Int} (_ : -9223372036854775808 ≤ n ∧ n ≤ 9223372036854775807) (_ : -9223372036854775808 ≤ k ∧ k ≤ 9223372036854775807) : Calls Tryz.prog 4 #[.int .i64 n, .int .i64 k] w fun e w' => e = .returned (.bool true) ∧ Below w.heap.size w w' := by
  by_cases hout : n < 1 ∨ 60 < n ∨ k < 1 ∨ 10 < k
  · exact segmany_out w hT n k hout
  · obtain ⟨nn, rfl⟩ : ∃ nn : Nat, n = nn := ⟨n.toNat, by omega⟩
    obtain ⟨kk, rfl⟩ : ∃ kk : Nat, k = kk := ⟨k.toNat, by omega⟩
    exact segmany_in w hT nn kk (by omega) (by omega) (by omega) (by omega)
end Go.Proofs.YtcmboifkfeeocaaGreatDoor.scan
