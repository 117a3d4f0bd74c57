/-
  THE WALK OF 'stillroomlaw10.ManifestMany' (P10.2).
-/
import Derived.Test.YtpgclhpobijdeaaDoorMnManyM
import Derived.Test.YtpgclhpobijdeaaDoorMnBegun
import Derived.Test.YtpgclhpobijdeaaDoorMBase
namespace Go.Proofs.YtpgclhpobijdeaaDoor.man
open Go.RowKit Go.Proofs.YtpgclhpobijdeaaDoor.disk Go.Proofs.YtpgclhpobijdeaaDoor.recd Go.Proofs.YtpgclhpobijdeaaDoor.num Go.Proofs.YtpgclhpobijdeaaDoor.scan Go.Proofs.YtpgclhpobijdeaaDoor.slots
set_option linter.unusedVariables false

/-- The law's manifest in its first loop: so many tenants. -/
def Lay (w w2 : World) (m s p b : Nat) (i : Nat) (wr : World) : Prop := Below w.heap.size w wr ∧ ∃ tv t k tr S A, MSlot w (fun _ => False) wr m s p (mkL (min i 6) fun _ => 5000) tv t k tr S (9 + 4 * i) b A (-1) ∧ tr ≤ 1 + i
theorem put_case_full {A : FileA} {f : Int} {L : List Ten} {t k tr : Nat} {x : Ten} {c : Int} {A' : FileA} {f' : Int} {L' : List Ten} {t' k' tr' : Nat} (h : PutCase A f L t k tr x c A' f' L' t' k' tr') (hm : 6 < (putT L x).length) : c = 2 ∧ f' = f ∧ L' = L ∧ tr' = tr := by
  rcases h with ⟨_, h1, _, h2, h3, _, _, h4⟩ | ⟨h, _⟩ | ⟨h, _⟩
  · exact ⟨h1, h2, h3, h4⟩
  · omega
  · have := mayB_len h; omega
theorem put_case_form {A : FileA} {f : Int} {L : List Ten} {t k tr : Nat} {x : Ten} {c : Int} {A' : FileA} {f' : Int} {L' : List Ten} {t' k' tr' : Nat} (h : PutCase A f L t k tr x c A' f' L' t' k' tr') (hl : (putT L x).length ≤ 6) (hm : mayB (putT L x) = false) : c = 5 ∧ f' = f ∧ L' = L ∧ tr' = tr := by
  rcases h with ⟨h, _⟩ | ⟨_, _, h1, _, h2, h3, _, _, h4⟩ | ⟨h, _⟩
  · omega
  · exact ⟨h1, h2, h3, h4⟩
  · rw [hm] at h; cases h
/-- .. and in its second. -/
def Kept6 (w : World) (m s p b k : Nat) (i : Nat) (wr : World) : Prop := Below w.heap.size w wr ∧ ∃ tv t kk tr S A, ∃ qs : Nat → Int, MSlot w (fun _ => False) wr m s p (mkL k qs) tv t kk tr S (100 + 4 * i) b A (-1) ∧ tr ≤ 20 + i ∧ ∀ j, j < k → 1000 ≤ qs j ∧ qs j ≤ 65536
theorem u32_wrap (x : Nat) (h : x ≤ 100) : IntKind.u32.wrap (x : Int) = (x : Int) := by rw [IntKind.wrap_u32]; omega
theorem quoT_fit {id : Nat} (h : id < 4294967296) {q : Int} (hq : -9223372036854775808 ≤ q ∧ q ≤ 9223372036854775807) : (quoT id q).Fit := ⟨h, (oneT_fit h).epoch, hq, (oneT_fit h).nobj, (oneT_fit h).nseg, (oneT_fit h).segs⟩

set_option maxRecDepth 100000 in
set_option maxHeartbeats 2000000 in
theorem manifestmany (w : World) (hT : crc.Tab w) {n : Int} (hn : -9223372036854775808 ≤ n ∧ n ≤ 9223372036854775807) {qa : Option Addr} {qn qc : Nat} {ql : List Int} (hq : Nums w qa qn ql) :
    Calls Tryd.prog 3 #[.int .i64 n, .slice qa qn qc] w fun e w' => e = .returned (.bool true) ∧ Below w.heap.size w w' := by
  have HT := Lib.hid hT
  have HQ := Lib.hid hq
  have hqn := hq.most
  have CB := Lib.hid (manBegun w hT)
  clear hT hq
  by_cases hn0 : n < 0
  · go_enter Tryd.func3, Tryd.ntmps3
    go_wp2_with fail
    refine CB.out.mono ?_
    rintro e w1 ⟨rfl, b1⟩
    have B1 := Lib.hid b1
    clear b1
    go_wp2_with fail
    go_ret
    exact ⟨rfl, B1.out⟩
  by_cases hn10 : 10 < n
  · go_enter Tryd.func3, Tryd.ntmps3
    go_wp2_with fail
    refine CB.out.mono ?_
    rintro e w1 ⟨rfl, b1⟩
    have B1 := Lib.hid b1
    clear b1
    go_wp2_with fail
    go_ret
    exact ⟨rfl, B1.out⟩
  obtain ⟨N, rfl⟩ := Int.eq_ofNat_of_zero_le (show 0 ≤ n by omega)
  have hN : N ≤ 10 := by omega
  have hd0 : decide ((N : Int) < 0) = false := decide_eq_false (by omega)
  have hd1 : decide ((10 : Int) < (N : Int)) = false := decide_eq_false (by omega)
  go_enter Tryd.func3, Tryd.ntmps3
  go_wp2_with fail
  refine CB.out.mono ?_
  rintro e w1 ⟨rfl, b1⟩
  have B1 := Lib.hid b1
  clear b1 CB
  go_wp2_with fail
  refine (new_any w1 100000).mono ?_
  rintro e w2 ho
  obtain ⟨p, rfl, h2, _⟩ := held_new (W := w) (X := fun _ => False) (fun _ e => e.elim) B1.out ho
  have C2 := Lib.hid (manCreate_any w2 p (show Held w (fun _ => False) w2 p (slots.start (-1)) 0 from h2) HT.out)
  clear ho h2
  go_wp2_with fail
  refine C2.out.mono ?_
  rintro e w3 ⟨_, m, s, tv, b, S', A, rfl, ms, _, _⟩
  have L0 : Hid (Lay w w m s p b 0 w3) := Lib.hid ⟨ms.slot.held.below, tv, 1, 0, 1, S', A, ms, by omega⟩
  clear ms C2
  go_wp2_with fail
  go_loopw [9, 10] (fun u _ wr => ∃ i : Nat, i ≤ N ∧ u = .int .i64 (i : Int) ∧ Hid (Lay w w m s p b i wr)) (fun u _ _ => N - (intOf u).toNat)
  case atStart => exact ⟨0, Nat.zero_le _, rfl, L0⟩
  case round =>
    obtain ⟨i, hi, rfl, hL⟩ := hrel
    by_cases hlt : i < N
    · have hltI : (i : Int) < (N : Int) := by omega
      have eid : (10 : Int) - (i : Int) = ((10 - i : Nat) : Int) := by omega
      have ewr := u32_wrap (10 - i) (by omega)
      obtain ⟨id, hid⟩ : ∃ id, 10 - i = id := ⟨_, rfl⟩
      rw [hid] at eid ewr
      have HID := Lib.hid hid
      clear hid
      go_wp2_with fail
      refine (one_any wr id).mono ?_
      rintro e w4 ⟨h4, rfl, s4, _, _, b4⟩
      obtain ⟨bL, tv, t, k, tr, S, A, ms, htr⟩ := hL.out
      have CP : Hid (Calls Tryd.prog 10 #[.pointer (some ⟨m, 0, none⟩), .agg #[.int .u32 (id : Int), .int .u64 1, .int .i64 5000, .int .u64 1, .int .i64 3, .slice (some ⟨h4, 0, none⟩) 2 2]] w4 (PutOut w (fun _ => False) w4 m s p (mkL (min i 6) fun _ => 5000) t k tr (9 + 4 * i) b A (-1) (oneT id))) := Lib.hid (put_ten (ms.later b4) (by omega) HT.out (by omega) ⟨oneT id, some ⟨h4, 0, none⟩, 2, 2⟩ ⟨oneT_fit (by have := HID.out; omega), s4⟩)
      have HTR := Lib.hid htr
      clear s4 b4 bL ms htr hL
      unfold TS.val oneT
      simp only
      go_wp2_with fail
      refine CP.out.mono ?_
      rintro e w5 ⟨_, c, tv', L', t', k', tr', S2, A2, f2, rfl, ms5, hc⟩
      by_cases h6 : i < 6
      · rw [← HID.out, show min i 6 = i by omega] at hc
        have hmo := mkL_more (k := i) (by omega)
        obtain ⟨rfl, _, rfl, rfl, _, rfl, _, _⟩ := put_case_ok hc (by rw [hmo]; exact mkL_may _ (by omega) fun j hj => by omega)
        rw [hmo] at ms5
        have F : Hid (Lay w w m s p b (i + 1) w5) := Lib.hid ⟨ms5.slot.held.below, tv', t', k', tr + 1, S2, A2, by rw [show min (i + 1) 6 = i + 1 by omega]; exact ms5.more (by omega), by have := HTR.out; omega⟩
        have h6I : (i : Int) < 6 := by omega
        clear hc ms5 hmo CP
        go_wp2_with fail
        refine ⟨⟨i + 1, by omega, by rw [Int.natCast_add]; rfl, F⟩, ?_⟩
        show N - ((i : Int) + 1).toNat < N - (i : Int).toNat
        omega
      · rw [← HID.out, show min i 6 = 6 by omega] at hc
        have hfu := mkL_full (i := i) (by omega) (by omega)
        obtain ⟨rfl, rfl, rfl, rfl⟩ := put_case_full hc (by omega)
        have F : Hid (Lay w w m s p b (i + 1) w5) := Lib.hid ⟨ms5.slot.held.below, tv', t', k', tr', S2, A2, by rw [show min (i + 1) 6 = 6 by omega]; exact ms5.more (by omega), by have := HTR.out; omega⟩
        have h6I : (6 : Int) ≤ (i : Int) := by omega
        have h6J : ¬ (i : Int) < 6 := by omega
        clear hc ms5 hfu CP
        go_wp2_with fail
        refine ⟨⟨i + 1, by omega, by rw [Int.natCast_add]; rfl, F⟩, ?_⟩
        show N - ((i : Int) + 1).toNat < N - (i : Int).toNat
        omega
    · obtain rfl : i = N := by omega
      obtain ⟨k, hk⟩ : ∃ k, min i 6 = k := ⟨_, rfl⟩
      have hk6 : k ≤ 6 := by omega
      have hmn : ∀ V, (Builtin.min_ #[3, 3] 3 #[.int .i64 (i : Int), .int .i64 6]).run Tryd.prog V = .ok (.int .i64 (k : Int)) V := fun V => by rw [← hk, Lib.run_min_ints]; congr 2; omega
      have K0 : Hid (Kept6 w m s p b k 0 wr) := by
        obtain ⟨bL, tv, t, kk, tr, S, A, ms, htr⟩ := hL.out
        rw [hk] at ms
        exact Lib.hid ⟨bL, tv, t, kk, tr, S, A, _, ms.more (by omega), by omega, fun j hj => by omega⟩
      clear hL hk
      go_wp2_with fail
      go_loopw [12, 13, 14, 15, 16, 17] (fun u _ _ _ _ _ wr => ∃ j : Nat, j ≤ 20 ∧ u = .int .i64 (j : Int) ∧ Hid (Kept6 w m s p b k j wr)) (fun u _ _ _ _ _ _ => 20 - (intOf u).toNat)
      case atStart => exact ⟨0, Nat.zero_le _, rfl, K0⟩
      case round =>
        clear K0
        obtain ⟨j, hj, rfl, hK⟩ := hrel
        by_cases hin : j < qn ∧ j < 20 ∧ 0 < k
        · obtain ⟨hjq, hj20, hk0⟩ := hin
          have hjqI : (j : Int) < (qn : Int) := by omega
          have hj20I : (j : Int) < 20 := by omega
          have hk0I : (0 : Int) < (k : Int) := by omega
          have hkne : ((k : Int) == 0) = false := by rw [beq_eq_false_iff_ne]; omega
          obtain ⟨r, hr⟩ : ∃ r, j % k = r := ⟨_, rfl⟩
          have hrk : r < k := by rw [← hr]; exact Nat.mod_lt _ hk0
          have hrm : (j : Int) % (k : Int) = (r : Int) := by rw [← hr]; rfl
          have hrm2 : Int.tmod (j : Int) (k : Int) = (r : Int) := by rw [← hr]; rfl
          obtain ⟨id, hid⟩ : ∃ id, 10 - r = id := ⟨_, rfl⟩
          have eid : (10 : Int) - (r : Int) = (id : Int) := by omega
          have ewr := u32_wrap id (by omega)
          have HID := Lib.hid hid
          have HRK := Lib.hid hrk
          obtain ⟨qb, qo, rfl, hqc⟩ : ∃ b off, qa = some ⟨b, off, none⟩ ∧ ∀ i, i < qn → w.cell? ⟨b, off + i, none⟩ = some (.int .i64 (ql.getD i 0)) := by
            rcases HQ.out.cells with h | h
            · omega
            · exact h
          have hq0 := hqc j hjq
          have hqr := HQ.out.small j hjq
          obtain ⟨q, hqe⟩ : ∃ q, ql.getD j 0 = q := ⟨_, rfl⟩
          rw [hqe] at hq0 hqr
          have HQ0 := Lib.hid hq0
          have HQR := Lib.hid hqr
          have hkn : (r : Int) < (k : Int) := by omega
          clear hqc hqe hq0 hqr hr hid hrk
          go_wp2_with fail
          refine (one_any wr id).mono ?_
          rintro e w4 ⟨h4, rfl, s4, _, _, b4⟩
          obtain ⟨bL, tv, t, kk, tr, S, A, qs, ms, htr, hqs⟩ := hK.out
          have MS4 := Lib.hid (ms.later b4)
          have S4 := Lib.hid s4
          have B4 : Hid (Below w.heap.size w w4) := Lib.hid (bL.trans (b4.mono bL.size))
          have HTR := Lib.hid htr
          have HQS := Lib.hid hqs
          clear bL ms htr hqs s4 b4 hK
          unfold TS.val oneT
          simp only
          obtain ⟨pt, hpt⟩ : ∃ pt, w4.heap.size = pt := ⟨_, rfl⟩
          have hpt2 := hpt
          go_upto_region 21 with fail
          obtain ⟨wa, hwa⟩ : ∃ wa, w4.alloc (.cells #[.int .u32 (id : Int), .int .u64 1, .int .i64 5000, .int .u64 1, .int .i64 3, .slice (some ⟨h4, 0, none⟩) 2 2] 34) = wa := ⟨_, rfl⟩
          rw [hwa]
          have ba : Below w4.heap.size w4 wa := by rw [← hwa]; exact (Below.refl _ _).alloc (Nat.le_refl _) _
          have wh : Whole wa pt 34 [.int .u32 (id : Int), .int .u64 1, .int .i64 5000, .int .u64 1, .int .i64 3, .slice (some ⟨h4, 0, none⟩) 2 2] := by rw [← hwa]; exact Whole.new_ hpt.symm rfl
          have qc1 : wa.cell? ⟨qb, qo + j, none⟩ = some (.int .i64 q) := ((B4.out.trans (ba.mono B4.out.size)).cell (p := ⟨qb, qo + j, none⟩) (block_lt_of_cell HQ0.out)).trans HQ0.out
          obtain ⟨y0, y1, y2, y3, y4, y5⟩ := ten6 wh
          have f2 := wh.free 2
          have WH := Lib.hid wh
          have BA := Lib.hid ba
          clear hwa ba wh hpt
          go_upto_region 22 with fail
          obtain ⟨wb, hwb⟩ : ∃ wb, wa.setCell ⟨pt, 2, none⟩ (.int .i64 q) = wb := ⟨_, rfl⟩
          rw [hwb]
          have wh2 : Whole wb pt 34 [.int .u32 (id : Int), .int .u64 1, .int .i64 q, .int .u64 1, .int .i64 3, .slice (some ⟨h4, 0, none⟩) 2 2] := by rw [← hwb]; exact WH.out.put 2 (.int .i64 q)
          have bb : Below w4.heap.size w4 wb := by rw [← hwb]; exact BA.out.setCell (p := ⟨pt, 2, none⟩) (by rw [hpt2]; exact Nat.le_refl _) _
          have WH2 := Lib.hid wh2
          have qc2 : wb.cell? ⟨qb, qo + j, none⟩ = some (.int .i64 q) := ((B4.out.trans (bb.mono B4.out.size)).cell (p := ⟨qb, qo + j, none⟩) (block_lt_of_cell HQ0.out)).trans HQ0.out
          have BB := Lib.hid bb
          have hptl : pt < wb.heap.size := wh2.lt
          clear y0 y1 y2 y3 y4 y5 f2 hwb WH BA qc1
          obtain ⟨z0, z1, z2, z3, z4, z5⟩ := ten6 wh2
          have CP : Hid (Calls Tryd.prog 10 #[.pointer (some ⟨m, 0, none⟩), .agg #[.int .u32 (id : Int), .int .u64 1, .int .i64 q, .int .u64 1, .int .i64 3, .slice (some ⟨h4, 0, none⟩) 2 2]] wb (PutOut w (fun j => j = pt ∨ False) wb m s p (mkL k qs) t kk tr (100 + 4 * j) b A (-1) (quoT id q))) := Lib.hid (put_ten (((MS4.out.mine BB.out).fewer fun j hj => by
              rcases hj with rfl | hj
              · exact .inr ⟨by omega, hptl⟩
              · exact hj.elim)) (by omega) HT.out (by have := HTR.out; omega) ⟨quoT id q, some ⟨h4, 0, none⟩, 2, 2⟩ ⟨quoT_fit (by have := HID.out; omega) HQR.out, S4.out.later BB.out⟩)
          clear wh2 bb
          have hidk : 10 - r = id := HID.out
          by_cases h1 : q < 1000
          · have h1I : ¬ (1000 : Int) ≤ q := by omega
            have hd2 : decide ((1000 : Int) ≤ q) = false := decide_eq_false h1I
            clear hpt2 hidk
            go_wp2_with fail
            refine CP.out.mono ?_
            rintro e w6 ⟨k6, c, tv', L', t', k', tr', S2, A2, f2, rfl, ms6, hc⟩
            rw [← HID.out] at hc
            obtain ⟨hbl, hbm⟩ := mkL_bad hk6 HRK.out qs q (by omega)
            obtain ⟨rfl, rfl, rfl, rfl⟩ := put_case_form hc (by omega) hbm
            obtain ⟨qs', hqs'⟩ : ∃ qs' : Nat → Int, qs = qs' := ⟨_, rfl⟩
            rw [hqs'] at ms6
            have HQ2 : Hid (∀ i, i < k → 1000 ≤ qs' i ∧ qs' i ≤ 65536) := Lib.hid (by rw [← hqs']; exact HQS.out)
            have HTR6 : Hid (tr' ≤ 20 + (j + 1)) := Lib.hid (by have := HTR.out; omega)
            clear hqs' hbl hbm
            have w6c : Whole w6 pt 34 [.int .u32 (id : Int), .int .u64 1, .int .i64 q, .int .u64 1, .int .i64 3, .slice (some ⟨h4, 0, none⟩) 2 2] := Whole.same WH2.out (k6 pt (.inl rfl))
            have c60 := w6c.at_ 0
            simp only [List.getElem?_cons_zero] at c60
            have CG := Lib.hid (get_any ms6.at_ id)
            have MS6 := Lib.hid (ms6.fewer (E' := fun _ => False) fun j hj => .inr hj)
            have q6 : Hid (w6.cell? ⟨qb, qo + j, none⟩ = some (.int .i64 q)) := Lib.hid ((ms6.slot.held.below.cell (p := ⟨qb, qo + j, none⟩) (block_lt_of_cell HQ0.out)).trans HQ0.out)
            clear k6 hc ms6 w6c z0 z1 z2 z3 z4 z5 qc2 CP
            go_wp2_with fail
            refine CG.out.mono ?_
            rintro e w7 ⟨b7, ⟨_, hno⟩ | ⟨x, hx, rfl, hmem, hxid, hxa, _, hxn, hxc, sx, _⟩⟩
            · obtain ⟨t0, ht0, hi0⟩ := mkL_has hk6 HRK.out qs'
              exact absurd (hi0.trans HID.out) (hno t0 ht0)
            have hxt := mkL_get hk6 HRK.out qs' hmem (hxid.trans HID.out.symm)
            rw [HID.out] at hxt
            obtain ⟨xt, xa, xn, xc⟩ := x
            simp only at hxt hxa hxn hxc
            subst hxt
            obtain rfl : xn = 2 := by rw [← hxn]; rfl
            subst hxc
            subst hxa
            unfold TS.val quoT oneT
            simp only
            have MS7 := Lib.hid (MS6.out.later b7)
            have q7 := (b7.cell (p := ⟨qb, qo + j, none⟩) (block_lt_of_cell q6.out)).trans q6.out
            clear b7 hmem hxn hxid sx CG c60
            go_upto_region 27 with fail
            obtain ⟨px, hpx⟩ : ∃ px, w7.heap.size = px := ⟨_, rfl⟩
            obtain ⟨w8, hw8⟩ : ∃ w8, w7.alloc (.cells #[.int .u32 (id : Int), .int .u64 1, .int .i64 (qs' (k - 1 - r)), .int .u64 1, .int .i64 3, .slice (some ⟨hx, 0, none⟩) 2 2] 34) = w8 := ⟨_, rfl⟩
            rw [hw8, hpx]
            have b8 : Below w7.heap.size w7 w8 := by rw [← hw8]; exact (Below.refl _ _).alloc (Nat.le_refl _) _
            have w8c : Whole w8 px 34 [.int .u32 (id : Int), .int .u64 1, .int .i64 (qs' (k - 1 - r)), .int .u64 1, .int .i64 3, .slice (some ⟨hx, 0, none⟩) 2 2] := by rw [← hw8]; exact Whole.new_ hpx.symm rfl
            have q8 := (b8.cell (p := ⟨qb, qo + j, none⟩) (block_lt_of_cell q7)).trans q7
            have d2 : w8.cell? ⟨px, 2, none⟩ = some (.int .i64 (qs' (k - 1 - r))) := w8c.at_ 2
            have MS8 := Lib.hid (MS7.out.later b8)
            have g1 := Aft.cell q8
            have g2 := Aft.cell d2
            clear q7 q8 d2 b8 hw8 hpx w8c
            refine wp_region_aft (by kernel_rfl) (by kernel_rfl) ?_
            repeat ((with_reducible refine wpQuiet_step (fun K hK => ?_)); go_simp; refine hK _ ?_; clear hK K)
            refine wpQuiet_nil ?_
            intro _ hw'
            obtain ⟨pq, hw''⟩ := hw'
            subst hw''
            have F : Hid (Kept6 w m s p b k (j + 1) pq.W) := Lib.hid (by
              have ms9 := MS8.out.later pq.h
              exact ⟨ms9.slot.held.below, tv', t', k', _, S2, A2, qs', ms9.more (by omega), HTR6.out, HQ2.out⟩)
            clear g1 g2
            go_wp2_with fail
            refine ⟨⟨j + 1, by omega, by rw [Int.natCast_add]; rfl, F⟩, ?_⟩
            show 20 - ((j : Int) + 1).toNat < 20 - (j : Int).toNat
            omega
          by_cases h2 : 65536 < q
          · have h1I : (1000 : Int) ≤ q := by omega
            have h2I : ¬ q ≤ (65536 : Int) := by omega
            have hd2 : decide (q ≤ (65536 : Int)) = false := decide_eq_false h2I
            clear hpt2 hidk
            go_wp2_with fail
            refine CP.out.mono ?_
            rintro e w6 ⟨k6, c, tv', L', t', k', tr', S2, A2, f2, rfl, ms6, hc⟩
            rw [← HID.out] at hc
            obtain ⟨hbl, hbm⟩ := mkL_bad hk6 HRK.out qs q (by omega)
            obtain ⟨rfl, rfl, rfl, rfl⟩ := put_case_form hc (by omega) hbm
            obtain ⟨qs', hqs'⟩ : ∃ qs' : Nat → Int, qs = qs' := ⟨_, rfl⟩
            rw [hqs'] at ms6
            have HQ2 : Hid (∀ i, i < k → 1000 ≤ qs' i ∧ qs' i ≤ 65536) := Lib.hid (by rw [← hqs']; exact HQS.out)
            have HTR6 : Hid (tr' ≤ 20 + (j + 1)) := Lib.hid (by have := HTR.out; omega)
            clear hqs' hbl hbm
            have w6c : Whole w6 pt 34 [.int .u32 (id : Int), .int .u64 1, .int .i64 q, .int .u64 1, .int .i64 3, .slice (some ⟨h4, 0, none⟩) 2 2] := Whole.same WH2.out (k6 pt (.inl rfl))
            have c60 := w6c.at_ 0
            simp only [List.getElem?_cons_zero] at c60
            have CG := Lib.hid (get_any ms6.at_ id)
            have MS6 := Lib.hid (ms6.fewer (E' := fun _ => False) fun j hj => .inr hj)
            have q6 : Hid (w6.cell? ⟨qb, qo + j, none⟩ = some (.int .i64 q)) := Lib.hid ((ms6.slot.held.below.cell (p := ⟨qb, qo + j, none⟩) (block_lt_of_cell HQ0.out)).trans HQ0.out)
            clear k6 hc ms6 w6c z0 z1 z2 z3 z4 z5 qc2 CP
            go_wp2_with fail
            refine CG.out.mono ?_
            rintro e w7 ⟨b7, ⟨_, hno⟩ | ⟨x, hx, rfl, hmem, hxid, hxa, _, hxn, hxc, sx, _⟩⟩
            · obtain ⟨t0, ht0, hi0⟩ := mkL_has hk6 HRK.out qs'
              exact absurd (hi0.trans HID.out) (hno t0 ht0)
            have hxt := mkL_get hk6 HRK.out qs' hmem (hxid.trans HID.out.symm)
            rw [HID.out] at hxt
            obtain ⟨xt, xa, xn, xc⟩ := x
            simp only at hxt hxa hxn hxc
            subst hxt
            obtain rfl : xn = 2 := by rw [← hxn]; rfl
            subst hxc
            subst hxa
            unfold TS.val quoT oneT
            simp only
            have MS7 := Lib.hid (MS6.out.later b7)
            have q7 := (b7.cell (p := ⟨qb, qo + j, none⟩) (block_lt_of_cell q6.out)).trans q6.out
            clear b7 hmem hxn hxid sx CG c60
            go_upto_region 27 with fail
            obtain ⟨px, hpx⟩ : ∃ px, w7.heap.size = px := ⟨_, rfl⟩
            obtain ⟨w8, hw8⟩ : ∃ w8, w7.alloc (.cells #[.int .u32 (id : Int), .int .u64 1, .int .i64 (qs' (k - 1 - r)), .int .u64 1, .int .i64 3, .slice (some ⟨hx, 0, none⟩) 2 2] 34) = w8 := ⟨_, rfl⟩
            rw [hw8, hpx]
            have b8 : Below w7.heap.size w7 w8 := by rw [← hw8]; exact (Below.refl _ _).alloc (Nat.le_refl _) _
            have w8c : Whole w8 px 34 [.int .u32 (id : Int), .int .u64 1, .int .i64 (qs' (k - 1 - r)), .int .u64 1, .int .i64 3, .slice (some ⟨hx, 0, none⟩) 2 2] := by rw [← hw8]; exact Whole.new_ hpx.symm rfl
            have q8 := (b8.cell (p := ⟨qb, qo + j, none⟩) (block_lt_of_cell q7)).trans q7
            have d2 : w8.cell? ⟨px, 2, none⟩ = some (.int .i64 (qs' (k - 1 - r))) := w8c.at_ 2
            have MS8 := Lib.hid (MS7.out.later b8)
            have g1 := Aft.cell q8
            have g2 := Aft.cell d2
            clear q7 q8 d2 b8 hw8 hpx w8c
            refine wp_region_aft (by kernel_rfl) (by kernel_rfl) ?_
            repeat ((with_reducible refine wpQuiet_step (fun K hK => ?_)); go_simp; refine hK _ ?_; clear hK K)
            refine wpQuiet_nil ?_
            intro _ hw'
            obtain ⟨pq, hw''⟩ := hw'
            subst hw''
            have F : Hid (Kept6 w m s p b k (j + 1) pq.W) := Lib.hid (by
              have ms9 := MS8.out.later pq.h
              exact ⟨ms9.slot.held.below, tv', t', k', _, S2, A2, qs', ms9.more (by omega), HTR6.out, HQ2.out⟩)
            clear g1 g2
            go_wp2_with fail
            refine ⟨⟨j + 1, by omega, by rw [Int.natCast_add]; rfl, F⟩, ?_⟩
            show 20 - ((j : Int) + 1).toNat < 20 - (j : Int).toNat
            omega
          · have h1I : (1000 : Int) ≤ q := by omega
            have h2I : q ≤ (65536 : Int) := by omega
            clear hpt2 hidk
            go_wp2_with fail
            refine CP.out.mono ?_
            rintro e w6 ⟨k6, c, tv', L', t', k', tr', S2, A2, f2, rfl, ms6, hc⟩
            rw [← HID.out] at hc
            have hst := mkL_set hk6 HRK.out qs q
            have hmy : mayB (putT (mkL k qs) (quoT (10 - r) q)) = true := by
              rw [hst]
              refine mkL_may _ hk6 fun i hi => ?_
              by_cases e : i = k - 1 - r
              · simp only [if_pos e]; omega
              · simp only [if_neg e]; exact HQS.out i hi
            obtain ⟨rfl, _, rfl, rfl, _, rfl, _, _⟩ := put_case_ok hc hmy
            clear hmy
            rw [hst] at ms6
            obtain ⟨qs', hqs'⟩ : ∃ qs' : Nat → Int, (fun j => if j = k - 1 - r then q else qs j) = qs' := ⟨_, rfl⟩
            rw [hqs'] at ms6
            have HQ2 : Hid (∀ i, i < k → 1000 ≤ qs' i ∧ qs' i ≤ 65536) := Lib.hid fun i hi => by
              rw [← hqs']
              by_cases e : i = k - 1 - r
              · simp only [if_pos e]; omega
              · simp only [if_neg e]; exact HQS.out i hi
            have HQV : Hid (qs' (k - 1 - r) = q) := Lib.hid (by rw [← hqs']; exact if_pos rfl)
            have HTR6 : Hid (tr + 1 ≤ 20 + (j + 1)) := Lib.hid (by have := HTR.out; omega)
            clear hqs' hst
            have w6c : Whole w6 pt 34 [.int .u32 (id : Int), .int .u64 1, .int .i64 q, .int .u64 1, .int .i64 3, .slice (some ⟨h4, 0, none⟩) 2 2] := Whole.same WH2.out (k6 pt (.inl rfl))
            have c60 := w6c.at_ 0
            simp only [List.getElem?_cons_zero] at c60
            have CG := Lib.hid (get_any ms6.at_ id)
            have MS6 := Lib.hid (ms6.fewer (E' := fun _ => False) fun j hj => .inr hj)
            have q6 : Hid (w6.cell? ⟨qb, qo + j, none⟩ = some (.int .i64 q)) := Lib.hid ((ms6.slot.held.below.cell (p := ⟨qb, qo + j, none⟩) (block_lt_of_cell HQ0.out)).trans HQ0.out)
            clear k6 hc ms6 w6c z0 z1 z2 z3 z4 z5 qc2 CP
            go_wp2_with fail
            refine CG.out.mono ?_
            rintro e w7 ⟨b7, ⟨_, hno⟩ | ⟨x, hx, rfl, hmem, hxid, hxa, _, hxn, hxc, sx, _⟩⟩
            · obtain ⟨t0, ht0, hi0⟩ := mkL_has hk6 HRK.out qs'
              exact absurd (hi0.trans HID.out) (hno t0 ht0)
            have hxt := mkL_get hk6 HRK.out qs' hmem (hxid.trans HID.out.symm)
            rw [HID.out, HQV.out] at hxt
            obtain ⟨xt, xa, xn, xc⟩ := x
            simp only at hxt hxa hxn hxc
            subst hxt
            obtain rfl : xn = 2 := by rw [← hxn]; rfl
            subst hxc
            subst hxa
            unfold TS.val quoT oneT
            simp only
            have MS7 := Lib.hid (MS6.out.later b7)
            have q7 := (b7.cell (p := ⟨qb, qo + j, none⟩) (block_lt_of_cell q6.out)).trans q6.out
            clear b7 hmem hxn hxid sx CG c60
            go_upto_region 27 with fail
            obtain ⟨px, hpx⟩ : ∃ px, w7.heap.size = px := ⟨_, rfl⟩
            obtain ⟨w8, hw8⟩ : ∃ w8, w7.alloc (.cells #[.int .u32 (id : Int), .int .u64 1, .int .i64 q, .int .u64 1, .int .i64 3, .slice (some ⟨hx, 0, none⟩) 2 2] 34) = w8 := ⟨_, rfl⟩
            rw [hw8, hpx]
            have b8 : Below w7.heap.size w7 w8 := by rw [← hw8]; exact (Below.refl _ _).alloc (Nat.le_refl _) _
            have w8c : Whole w8 px 34 [.int .u32 (id : Int), .int .u64 1, .int .i64 q, .int .u64 1, .int .i64 3, .slice (some ⟨hx, 0, none⟩) 2 2] := by rw [← hw8]; exact Whole.new_ hpx.symm rfl
            have q8 := (b8.cell (p := ⟨qb, qo + j, none⟩) (block_lt_of_cell q7)).trans q7
            have d2 : w8.cell? ⟨px, 2, none⟩ = some (.int .i64 q) := w8c.at_ 2
            have MS8 := Lib.hid (MS7.out.later b8)
            have g1 := Aft.cell q8
            have g2 := Aft.cell d2
            clear q7 q8 d2 b8 hw8 hpx w8c
            refine wp_region_aft (by kernel_rfl) (by kernel_rfl) ?_
            repeat ((with_reducible refine wpQuiet_step (fun K hK => ?_)); go_simp; refine hK _ ?_; clear hK K)
            refine wpQuiet_nil ?_
            intro _ hw'
            obtain ⟨pq, hw''⟩ := hw'
            subst hw''
            have F : Hid (Kept6 w m s p b k (j + 1) pq.W) := Lib.hid (by
              have ms9 := MS8.out.later pq.h
              exact ⟨ms9.slot.held.below, tv', t', k', _, S2, A2, qs', ms9.more (by omega), HTR6.out, HQ2.out⟩)
            clear g1 g2
            go_wp2_with fail
            refine ⟨⟨j + 1, by omega, by rw [Int.natCast_add]; rfl, F⟩, ?_⟩
            show 20 - ((j : Int) + 1).toNat < 20 - (j : Int).toNat
            omega
        · have CA : Hid (∃ tv t kk tr S A, ∃ qs : Nat → Int, Below w.heap.size w wr ∧ MSlot w (fun _ => False) wr m s p (mkL k qs) tv t kk tr S (100 + 4 * j) b A (-1)) := by
            obtain ⟨bL, tv, t, kk, tr, S, A, qs, ms, _, _⟩ := hK.out
            exact Lib.hid ⟨tv, t, kk, tr, S, A, qs, bL, ms⟩
          obtain ⟨tv, t, kk, tr, S, A, qs, bL, ms⟩ := CA.out
          have CAll := Lib.hid (all_any ms.at_)
          have hmm := ms.may
          have HMM := Lib.hid hmm
          have BL := Lib.hid bL
          clear ms bL hmm CA hK
          by_cases e1 : j < qn
          · by_cases e2 : j < 20
            · have e3 : ¬ (0 : Int) < (k : Int) := by omega
              have e1I : (j : Int) < (qn : Int) := by omega
              have e2I : (j : Int) < 20 := by omega
              have ed : decide ((0 : Int) < (k : Int)) = false := decide_eq_false e3
              go_wp2_with fail
              refine CAll.out.mono ?_
              rintro e w5 ⟨g, n3, xs, rfl, ht, ho, _, b5⟩
              obtain rfl : n3 = k := by rw [← ho.length, ← tens_length, ht, mkL_length]
              have RIS : Hid (∀ (i j : Nat) (x y : TS), i < j → xs[i]? = some x → xs[j]? = some y → x.t.id < y.t.id) := Lib.hid fun i j x y hij hx hy => riseB_lt (mayB_rise HMM.out) i j _ _ hij (by rw [← ht]; exact tens_at hx) (by rw [← ht]; exact tens_at hy)
              have X0 : Hid (Below w.heap.size w w5 ∧ TRow w5 (some ⟨g, 0, none⟩) n3 n3 xs) := Lib.hid ⟨BL.out.trans (b5.mono BL.out.size), ho.trow⟩
              clear ht ho b5 CAll hin hmn
              go_wp2_with fail
              go_loopw [19] (fun u wr => ∃ i : Nat, 1 ≤ i ∧ u = .int .i64 (i : Int) ∧ Hid (Below w.heap.size w wr ∧ TRow wr (some ⟨g, 0, none⟩) n3 n3 xs)) (fun u _ => ((n3 : Int) - intOf u).toNat)
              case atStart => exact ⟨1, Nat.le_refl _, rfl, X0⟩
              case round =>
                clear X0
                obtain ⟨i, hi1, rfl, hX⟩ := hrel
                by_cases hil : i < n3
                · have hilI : (i : Int) < (n3 : Int) := by omega
                  obtain ⟨i', hi'⟩ : ∃ i', i = i' + 1 := ⟨i - 1, by omega⟩
                  obtain ⟨b1, o1, x, e1, hx, _, _, _, c1, _⟩ := hX.out.2.at_ (i := i) hil
                  obtain ⟨b2, o2, y, e2, hy, _, _, _, c2, _⟩ := hX.out.2.at_ (i := i') (by omega)
                  injection e1 with e1
                  injection e1 with e1 f1
                  subst e1 f1
                  injection e2 with e2
                  injection e2 with e2 f2
                  subst e2 f2
                  have hlt3 := RIS.out i' i y x (by omega) hy hx
                  rw [Nat.zero_add] at c1 c2
                  obtain ⟨X, hXe⟩ : ∃ X, x.t.id = X := ⟨_, rfl⟩
                  obtain ⟨Y, hYe⟩ : ∃ Y, y.t.id = Y := ⟨_, rfl⟩
                  rw [hXe] at c1 hlt3
                  rw [hYe] at c2 hlt3
                  have hle : ¬ X ≤ Y := by omega
                  have hleI : ¬ (X : Int) ≤ (Y : Int) := by omega
                  have hdl : decide ((X : Int) ≤ (Y : Int)) = false := decide_eq_false hleI
                  have hwi : IntKind.i64.wrap ((i : Int) - 1) = (i' : Int) := by rw [IntKind.wrap_i64]; omega
                  have hwl : (i' : Int) < (n3 : Int) := by omega
                  have hw0 : (0 : Int) ≤ (i : Int) - 1 := by omega
                  have g1 := Aft.cell c1
                  have g2 := Aft.cell c2
                  have HI := Lib.hid hi'
                  clear hx hy hXe hYe c1 c2 hlt3 hi'
                  go_upto_region 33 with fail
                  refine wp_region_aft (by kernel_rfl) (by kernel_rfl) ?_
                  repeat ((with_reducible refine wpQuiet_step (fun K hK => ?_)); go_simp; refine hK _ ?_; clear hK K)
                  refine wpQuiet_nil ?_
                  intro _ hw'
                  obtain ⟨pq, hw''⟩ := hw'
                  subst hw''
                  have F : Hid (Below w.heap.size w pq.W ∧ TRow pq.W (some ⟨g, 0, none⟩) n3 n3 xs) := Lib.hid ⟨hX.out.1.trans (pq.h.mono hX.out.1.size), hX.out.2.later pq.h⟩
                  clear g1 g2 hX
                  go_wp2_with fail
                  refine ⟨⟨i + 1, by omega, by rw [Int.natCast_add]; rfl, F⟩, ?_⟩
                  show ((n3 : Int) - ((i : Int) + 1)).toNat < ((n3 : Int) - (i : Int)).toNat
                  omega
                · have hilI : ¬ (i : Int) < (n3 : Int) := by omega
                  have F := Lib.hid hX.out.1
                  clear hX
                  go_wp2_with fail
                  go_ret
                  exact ⟨ret_bool (by simp), F.out⟩
            · have e2I : ¬ (j : Int) < 20 := by omega
              have e1I : (j : Int) < (qn : Int) := by omega
              have ed : decide ((j : Int) < 20) = false := decide_eq_false e2I
              go_wp2_with fail
              refine CAll.out.mono ?_
              rintro e w5 ⟨g, n3, xs, rfl, ht, ho, _, b5⟩
              obtain rfl : n3 = k := by rw [← ho.length, ← tens_length, ht, mkL_length]
              have RIS : Hid (∀ (i j : Nat) (x y : TS), i < j → xs[i]? = some x → xs[j]? = some y → x.t.id < y.t.id) := Lib.hid fun i j x y hij hx hy => riseB_lt (mayB_rise HMM.out) i j _ _ hij (by rw [← ht]; exact tens_at hx) (by rw [← ht]; exact tens_at hy)
              have X0 : Hid (Below w.heap.size w w5 ∧ TRow w5 (some ⟨g, 0, none⟩) n3 n3 xs) := Lib.hid ⟨BL.out.trans (b5.mono BL.out.size), ho.trow⟩
              clear ht ho b5 CAll hin hmn
              go_wp2_with fail
              go_loopw [19] (fun u wr => ∃ i : Nat, 1 ≤ i ∧ u = .int .i64 (i : Int) ∧ Hid (Below w.heap.size w wr ∧ TRow wr (some ⟨g, 0, none⟩) n3 n3 xs)) (fun u _ => ((n3 : Int) - intOf u).toNat)
              case atStart => exact ⟨1, Nat.le_refl _, rfl, X0⟩
              case round =>
                clear X0
                obtain ⟨i, hi1, rfl, hX⟩ := hrel
                by_cases hil : i < n3
                · have hilI : (i : Int) < (n3 : Int) := by omega
                  obtain ⟨i', hi'⟩ : ∃ i', i = i' + 1 := ⟨i - 1, by omega⟩
                  obtain ⟨b1, o1, x, e1, hx, _, _, _, c1, _⟩ := hX.out.2.at_ (i := i) hil
                  obtain ⟨b2, o2, y, e2, hy, _, _, _, c2, _⟩ := hX.out.2.at_ (i := i') (by omega)
                  injection e1 with e1
                  injection e1 with e1 f1
                  subst e1 f1
                  injection e2 with e2
                  injection e2 with e2 f2
                  subst e2 f2
                  have hlt3 := RIS.out i' i y x (by omega) hy hx
                  rw [Nat.zero_add] at c1 c2
                  obtain ⟨X, hXe⟩ : ∃ X, x.t.id = X := ⟨_, rfl⟩
                  obtain ⟨Y, hYe⟩ : ∃ Y, y.t.id = Y := ⟨_, rfl⟩
                  rw [hXe] at c1 hlt3
                  rw [hYe] at c2 hlt3
                  have hle : ¬ X ≤ Y := by omega
                  have hleI : ¬ (X : Int) ≤ (Y : Int) := by omega
                  have hdl : decide ((X : Int) ≤ (Y : Int)) = false := decide_eq_false hleI
                  have hwi : IntKind.i64.wrap ((i : Int) - 1) = (i' : Int) := by rw [IntKind.wrap_i64]; omega
                  have hwl : (i' : Int) < (n3 : Int) := by omega
                  have hw0 : (0 : Int) ≤ (i : Int) - 1 := by omega
                  have g1 := Aft.cell c1
                  have g2 := Aft.cell c2
                  have HI := Lib.hid hi'
                  clear hx hy hXe hYe c1 c2 hlt3 hi'
                  go_upto_region 33 with fail
                  refine wp_region_aft (by kernel_rfl) (by kernel_rfl) ?_
                  repeat ((with_reducible refine wpQuiet_step (fun K hK => ?_)); go_simp; refine hK _ ?_; clear hK K)
                  refine wpQuiet_nil ?_
                  intro _ hw'
                  obtain ⟨pq, hw''⟩ := hw'
                  subst hw''
                  have F : Hid (Below w.heap.size w pq.W ∧ TRow pq.W (some ⟨g, 0, none⟩) n3 n3 xs) := Lib.hid ⟨hX.out.1.trans (pq.h.mono hX.out.1.size), hX.out.2.later pq.h⟩
                  clear g1 g2 hX
                  go_wp2_with fail
                  refine ⟨⟨i + 1, by omega, by rw [Int.natCast_add]; rfl, F⟩, ?_⟩
                  show ((n3 : Int) - ((i : Int) + 1)).toNat < ((n3 : Int) - (i : Int)).toNat
                  omega
                · have hilI : ¬ (i : Int) < (n3 : Int) := by omega
                  have F := Lib.hid hX.out.1
                  clear hX
                  go_wp2_with fail
                  go_ret
                  exact ⟨ret_bool (by simp), F.out⟩
          · have e1I : ¬ (j : Int) < (qn : Int) := by omega
            have ed : decide ((j : Int) < (qn : Int)) = false := decide_eq_false e1I
            go_wp2_with fail
            refine CAll.out.mono ?_
            rintro e w5 ⟨g, n3, xs, rfl, ht, ho, _, b5⟩
            obtain rfl : n3 = k := by rw [← ho.length, ← tens_length, ht, mkL_length]
            have RIS : Hid (∀ (i j : Nat) (x y : TS), i < j → xs[i]? = some x → xs[j]? = some y → x.t.id < y.t.id) := Lib.hid fun i j x y hij hx hy => riseB_lt (mayB_rise HMM.out) i j _ _ hij (by rw [← ht]; exact tens_at hx) (by rw [← ht]; exact tens_at hy)
            have X0 : Hid (Below w.heap.size w w5 ∧ TRow w5 (some ⟨g, 0, none⟩) n3 n3 xs) := Lib.hid ⟨BL.out.trans (b5.mono BL.out.size), ho.trow⟩
            clear ht ho b5 CAll hin hmn
            go_wp2_with fail
            go_loopw [19] (fun u wr => ∃ i : Nat, 1 ≤ i ∧ u = .int .i64 (i : Int) ∧ Hid (Below w.heap.size w wr ∧ TRow wr (some ⟨g, 0, none⟩) n3 n3 xs)) (fun u _ => ((n3 : Int) - intOf u).toNat)
            case atStart => exact ⟨1, Nat.le_refl _, rfl, X0⟩
            case round =>
              clear X0
              obtain ⟨i, hi1, rfl, hX⟩ := hrel
              by_cases hil : i < n3
              · have hilI : (i : Int) < (n3 : Int) := by omega
                obtain ⟨i', hi'⟩ : ∃ i', i = i' + 1 := ⟨i - 1, by omega⟩
                obtain ⟨b1, o1, x, e1, hx, _, _, _, c1, _⟩ := hX.out.2.at_ (i := i) hil
                obtain ⟨b2, o2, y, e2, hy, _, _, _, c2, _⟩ := hX.out.2.at_ (i := i') (by omega)
                injection e1 with e1
                injection e1 with e1 f1
                subst e1 f1
                injection e2 with e2
                injection e2 with e2 f2
                subst e2 f2
                have hlt3 := RIS.out i' i y x (by omega) hy hx
                rw [Nat.zero_add] at c1 c2
                obtain ⟨X, hXe⟩ : ∃ X, x.t.id = X := ⟨_, rfl⟩
                obtain ⟨Y, hYe⟩ : ∃ Y, y.t.id = Y := ⟨_, rfl⟩
                rw [hXe] at c1 hlt3
                rw [hYe] at c2 hlt3
                have hle : ¬ X ≤ Y := by omega
                have hleI : ¬ (X : Int) ≤ (Y : Int) := by omega
                have hdl : decide ((X : Int) ≤ (Y : Int)) = false := decide_eq_false hleI
                have hwi : IntKind.i64.wrap ((i : Int) - 1) = (i' : Int) := by rw [IntKind.wrap_i64]; omega
                have hwl : (i' : Int) < (n3 : Int) := by omega
                have hw0 : (0 : Int) ≤ (i : Int) - 1 := by omega
                have g1 := Aft.cell c1
                have g2 := Aft.cell c2
                have HI := Lib.hid hi'
                clear hx hy hXe hYe c1 c2 hlt3 hi'
                go_upto_region 33 with fail
                refine wp_region_aft (by kernel_rfl) (by kernel_rfl) ?_
                repeat ((with_reducible refine wpQuiet_step (fun K hK => ?_)); go_simp; refine hK _ ?_; clear hK K)
                refine wpQuiet_nil ?_
                intro _ hw'
                obtain ⟨pq, hw''⟩ := hw'
                subst hw''
                have F : Hid (Below w.heap.size w pq.W ∧ TRow pq.W (some ⟨g, 0, none⟩) n3 n3 xs) := Lib.hid ⟨hX.out.1.trans (pq.h.mono hX.out.1.size), hX.out.2.later pq.h⟩
                clear g1 g2 hX
                go_wp2_with fail
                refine ⟨⟨i + 1, by omega, by rw [Int.natCast_add]; rfl, F⟩, ?_⟩
                show ((n3 : Int) - ((i : Int) + 1)).toNat < ((n3 : Int) - (i : Int)).toNat
                omega
              · have hilI : ¬ (i : Int) < (n3 : Int) := by omega
                have F := Lib.hid hX.out.1
                clear hX
                go_wp2_with fail
                go_ret
                exact ⟨ret_bool (by simp), F.out⟩
end Go.Proofs.YtpgclhpobijdeaaDoor.man
