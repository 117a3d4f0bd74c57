/-
  THE WALK OF "RecordAny".
-/
import Derived.Test.YtlpennnnkbnjmaaDoorRcTells
import Derived.Test.YtlpennnnkbnjmaaDoorRcSpMath
import Derived.Test.YtlpennnnkbnjmaaDoorRowIn
import Derived.Test.YtlpennnnkbnjmaaDoorDkCells
namespace Go.Proofs.YtlpennnnkbnjmaaDoor.recd
open Go.RowKit Go.Proofs.YtlpennnnkbnjmaaDoor.num Go.Proofs.YtlpennnnkbnjmaaDoor.disk
set_option linter.unusedVariables false

theorem short_any (a : Option Addr) (len cap n : Nat) (w : World) (hlc : len ≤ cap) (ha : a = none → len = 0 ∧ cap = 0) (hn : n ≤ 1000) :
    Calls Tryd.prog 16 #[.slice a len cap, .int .i64 n] w fun e w' => e = .returned (.slice a (min len n) cap) ∧ w = w' := by
  by_cases h : n < len
  · rw [show min len n = n by omega]
    cases a with
    | none => have := ha rfl; omega
    | some x =>
      clear ha
      have h1 : (n : Int) < (len : Int) := by omega
      go_enter Tryd.func16, Tryd.ntmps16
      go_wp2
      go_ret
      exact ⟨rfl, rfl⟩
  · rw [show min len n = len by omega]
    have h1 : ¬ (n : Int) < (len : Int) := by omega
    clear ha
    go_enter Tryd.func16, Tryd.ntmps16
    go_wp2
    go_ret
    exact ⟨rfl, rfl⟩
theorem own_leads {w : World} {a : Option Addr} {m c : Nat} {l : List Int} (h : Own w (.slice a m c) l) : Leads w a l := by
  obtain ⟨a', c', e, -, -, -, hl, -⟩ := h.form
  injection e with e1 e2 e3
  subst e1
  exact hl
theorem set_byte {l : List Int} (h : Byte l) {y : Int} (hy : 0 ≤ y ∧ y < 256) {k : Nat} : Byte (l.set k y) := fun c hc => by
  rcases List.mem_or_eq_of_mem_set hc with hc | rfl
  · exact h c hc
  · exact hy
theorem enc_byte (r : Rec) : Byte (enc r) := by
  rw [enc]
  split
  · exact encL_byte _
  · exact Byte.nil
theorem enc_short (r : Rec) (n : Nat) (h : r.body.size ≤ n) : (enc r).length ≤ 39 + n := by
  rw [enc]
  split
  · rw [encL_length]; omega
  · exact Nat.zero_le _

set_option maxRecDepth 100000 in
set_option maxHeartbeats 2000000 in
theorem any_any (w : World) (hT : crc.Tab w) (r : Rec) (hf : r.Fit) (ct at_ x : Int) (hx : 0 ≤ x ∧ x ≤ 255) {a4 a5 : Option Addr} {n4 c4 n5 c5 : Nat} {l4 l5 : List Int} (h4 : Row w a4 n4 c4 l4) (h5 : Row w a5 n5 c5 l5) :
    Calls Tryd.prog 4 #[r.val, .int .i64 ct, .int .i64 at_, .int .u8 x, .slice a4 n4 c4, .slice a5 n5 c5] w fun e w' => e = .returned (.bool true) ∧ Below w.heap.size w w' := by
  have CB := fun W hW => begun_any W hW
  have CC := fun W => cutRec_any r 100 (by decide) hf W
  have hcs : (cutR r 100).body.size ≤ 100 := by have := cutS_size r.body 100; show (cutS r.body 100).size ≤ 100; omega
  have hcf : (cutR r 100).Fit := ⟨hf.kind, hf.tenant, by unfold maxLen; omega⟩
  have CE := fun W => REncode_any (cutR r 100) W hcf
  have hby := enc_byte (cutR r 100)
  have hel := enc_short (cutR r 100) 100 hcs
  obtain ⟨el, hell⟩ : ∃ el, enc (cutR r 100) = el := ⟨_, rfl⟩
  rw [hell] at CE hby hel
  have HS4 := Lib.hid fun W => short_any a4 n4 c4 20 W h4.le h4.nil (by omega)
  have HS5 := Lib.hid fun W => short_any a5 n5 c5 100 W h5.le h5.nil (by omega)
  have r4 := h4.short 20
  have r5 := h5.short 100
  have i4 : min n4 20 ≤ 20 := by omega
  have i5 : min n5 100 ≤ 100 := by omega
  obtain ⟨m4, hm4⟩ : ∃ m4, min n4 20 = m4 := ⟨_, rfl⟩
  obtain ⟨m5, hm5⟩ : ∃ m5, min n5 100 = m5 := ⟨_, rfl⟩
  obtain ⟨k4, hk4⟩ : ∃ k4, l4.take 20 = k4 := ⟨_, rfl⟩
  obtain ⟨k5, hk5⟩ : ∃ k5, l5.take 100 = k5 := ⟨_, rfl⟩
  rw [hm4] at HS4 r4 i4
  rw [hm5] at HS5 r5 i5
  rw [hk4] at r4
  rw [hk5] at r5
  have R4 := Lib.hid r4
  have R5 := Lib.hid r5
  have HBY := Lib.hid hby
  have HEL := Lib.hid hel
  have I4 := Lib.hid i4
  have I5 := Lib.hid i5
  clear hell hby hel hm4 hm5 hk4 hk5 r4 r5 h4 h5 i4 i5
  obtain ⟨k, t, e, o, s, b⟩ := r
  unfold cutR Rec.val at *
  simp only at CB CC CE ⊢
  obtain ⟨c, hc⟩ : ∃ c, cutS b 100 = c := ⟨_, rfl⟩
  rw [hc] at CC CE
  have HCB := Lib.hid CB
  have HCC := Lib.hid CC
  have HCE := Lib.hid CE
  have HT := Lib.hid hT
  have HX := Lib.hid hx
  clear CB CC CE hT hf hc hcf hcs hx
  go_enter Tryd.func4, Tryd.ntmps4
  go_wp2_with fail
  obtain ⟨p, hp⟩ : ∃ p, w.heap.size = p := ⟨_, rfl⟩
  have b0 : Below w.heap.size w (w.alloc (.cells #[.int .i64 k, .int .u32 (t : Int), .int .u64 (e : Int), .int .u64 (o : Int), .int .u64 (s : Int), .string b] 25)) := (Below.refl _ _).alloc (Nat.le_refl _) _
  have wh0 : Whole (w.alloc (.cells #[.int .i64 k, .int .u32 (t : Int), .int .u64 (e : Int), .int .u64 (o : Int), .int .u64 (s : Int), .string b] 25)) p 25 [.int .i64 k, .int .u32 (t : Int), .int .u64 (e : Int), .int .u64 (o : Int), .int .u64 (s : Int), .string b] := Whole.new_ hp.symm rfl
  have T0 := HT.out.later b0
  refine (HCB.out _ T0).mono ?_
  rintro en w1 ⟨rfl, b1⟩
  have W1 := Lib.hid (wh0.kept b1)
  have B1 := Lib.hid (b0.trans (b1.mono b0.size))
  (try rw [hp])
  clear b0 wh0 T0 b1 hp HCB
  go_wp2_with fail
  refine (HS5.out _).mono ?_
  rintro en w2 ⟨rfl, rfl⟩
  go_wp2_with fail
  refine (HS4.out _).mono ?_
  rintro en w2 ⟨rfl, rfl⟩
  go_wp2_with fail
  have T1 := HT.out.later B1.out
  refine (tells_any a5 m5 c5 k5 w1 T1 (R5.out.later B1.out).bytes R5.out.byte R5.out.length R5.out.le (by have := I5.out; omega)).mono ?_
  rintro en w3 ⟨rfl, b3⟩
  have W3 := Lib.hid (W1.out.kept b3)
  have B3 := Lib.hid (B1.out.trans (b3.mono B1.out.size))
  clear b3 W1 B1 T1 HS4 HS5
  go_wp2_with ((with_reducible show wpList _ _ _ (⟨some 25, _, _, _, _, _⟩ :: _) _ _); refine wpList_load_mid rfl 25 (.tmp 6) rfl p 0 rfl [.int .i64 k, .int .u32 (t : Int), .int .u64 (e : Int), .int .u64 (o : Int), .int .u64 (s : Int), .string b] _ (W3.out.range 0 6) Tryd.underlying25 rfl recInfo ?_)
  refine (HCC.out w3).mono ?_
  rintro en w4 ⟨rfl, b4⟩
  have B4 := Lib.hid (B3.out.trans (b4.mono B3.out.size))
  clear b4 W3 B3
  go_wp2_with fail
  refine (HCE.out w4).mono ?_
  rintro en w5 hmade
  obtain ⟨v5, rfl, o5, nn5, b5⟩ := hmade
  have G5 : Grow w el v5 w5 := ⟨o5, fun g hg => Nat.le_trans B4.out.size (nn5 g hg), B4.out.trans (b5.mono B4.out.size)⟩
  obtain ⟨v6, w6, r6, G6⟩ := G5.row a4 m4 c4 (R4.out.bytes.later G5.below) R4.out.length (fun e => (R4.out.nil e).2) (by have := HEL.out; have := I4.out; omega)
  have hby := HBY.out.append R4.out.byte
  have hN9 : (el ++ k4).length ≤ 200 := by rw [List.length_append, R4.out.length]; have := HEL.out; have := I4.out; omega
  obtain ⟨L, hL⟩ : ∃ L, el ++ k4 = L := ⟨_, rfl⟩
  rw [hL] at G6 hby hN9
  obtain ⟨a6, c6, rfl, hc6, hmx, -, -, -⟩ := G6.own.form
  obtain ⟨N, hN⟩ : ∃ N, L.length = N := ⟨_, rfl⟩
  rw [hN] at r6 G6 hc6 hN9
  have RUN := Lib.hid r6
  have GG := Lib.hid G6
  have BYL := Lib.hid hby
  have HN := Lib.hid hN
  have HC6 := Lib.hid hc6
  have HN9 := Lib.hid hN9
  clear r6 G6 hby hN hL G5 o5 nn5 b5 B4 HBY HEL HCC HCE R4 R5
  by_cases z1 : 0 < ct
  · by_cases z2 : ct ≤ (N : Int)
    · obtain ⟨g, hg, -⟩ := own_at GG.out.own 0 (by rw [HN.out]; omega)
      subst hg
      obtain ⟨m, hm⟩ : ∃ m : Nat, N - ct.toNat = m := ⟨_, rfl⟩
      have ew : IntKind.i64.wrap ((N : Int) - ct) = (m : Int) := by rw [IntKind.wrap_i64]; omega
      have hmN : m ≤ N := by omega
      have hsl : ∀ W, (Instr.slice 28 (.slice (some ⟨g, 0, none⟩) N c6) none (some (.int .i64 (m : Int))) none).run Tryd.prog W = .ok (.slice (some ⟨g, 0, none⟩) m c6) W := fun W => run_front g 0 N c6 m (by omega) W
      have hmN2 : m ≤ c6 := by omega
      by_cases y1 : 0 < m
      · have y1I : (0 : Int) < (m : Int) := by omega
        have dz : ¬ (m : Int) = 0 := by omega
        by_cases y2 : 0 ≤ at_
        · obtain ⟨q, rfl⟩ : ∃ q : Nat, at_ = q := ⟨at_.toNat, by omega⟩
          obtain ⟨k0, hk0⟩ : ∃ k0, q % m = k0 := ⟨_, rfl⟩
          have hk1 : k0 < m := by rw [← hk0]; exact Nat.mod_lt _ y1
          have hkI : (q : Int) % (m : Int) = (k0 : Int) := by rw [← hk0, Int.natCast_emod]
          have ck := GG.out.own.cell HN.out k0 (by omega)
          have fk := GG.out.own.free HN.out k0
          have hb0 := BYL.out.at (i := k0) (by rw [HN.out]; omega)
          have hy := crc.bx_byte hb0 (show 0 ≤ x ∧ x < 256 from ⟨HX.out.1, by have := HX.out.2; omega⟩)
          have hbx : bits .xor .u8 (L.getD k0 0) x = crc.bx (L.getD k0 0) x := rfl
          obtain ⟨cc, hcc⟩ : ∃ cc, L.getD k0 0 = cc := ⟨_, rfl⟩
          rw [hcc] at ck hb0 hy hbx
          obtain ⟨y, hyy⟩ : ∃ y, crc.bx cc x = y := ⟨_, rfl⟩
          rw [hyy] at hbx hy
          have HYB := Lib.hid hy
          clear hyy hcc hk0 hy
          go_wp2_with ((with_reducible show wpList _ _ _ _ _ _); refine wpList_append_run 28 (.tmp 27) (.tmp 28) _ _ rfl rfl rfl rfl rfl RUN.out ?_)
          have o7 := GG.out.own.set HN.out k0 y
          have b7 : Below w.heap.size w (w6.setCell ⟨g, k0, none⟩ (.int .u8 y)) := GG.out.below.setCell (GG.out.new_ g rfl) _
          obtain ⟨w7, hw7⟩ : ∃ w7, w6.setCell ⟨g, k0, none⟩ (.int .u8 y) = w7 := ⟨_, rfl⟩
          rw [hw7] at o7 b7 ⊢
          clear hw7 ck fk
          refine (tells_any _ m c6 _ w7 (HT.out.later b7) ((own_leads o7).take m) (Byte.take (set_byte BYL.out HYB.out) m) (by rw [List.length_take]; first | (rw [HN.out]; omega) | (rw [List.length_set, HN.out]; omega)) (by omega) (by omega)).mono ?_
          rintro en w9 ⟨rfl, b9⟩
          have B9 := Lib.hid ((b7).trans (b9.mono (b7).size))
          clear b9
          go_wp2_with fail
          go_ret
          exact ⟨rfl, B9.out⟩
        · skip
          go_wp2_with ((with_reducible show wpList _ _ _ _ _ _); refine wpList_append_run 28 (.tmp 27) (.tmp 28) _ _ rfl rfl rfl rfl rfl RUN.out ?_)
          refine (tells_any (some ⟨g, 0, none⟩) m c6 _ w6 (HT.out.later GG.out.below) ((own_leads GG.out.own).take m) (BYL.out.take m) (by rw [List.length_take]; first | (rw [HN.out]; omega) | (rw [List.length_set, HN.out]; omega)) (by omega) (by omega)).mono ?_
          rintro en w9 ⟨rfl, b9⟩
          have B9 := Lib.hid ((GG.out.below).trans (b9.mono (GG.out.below).size))
          clear b9
          go_wp2_with fail
          go_ret
          exact ⟨rfl, B9.out⟩
      · have y1I : ¬ (0 : Int) < (m : Int) := by omega
        go_wp2_with ((with_reducible show wpList _ _ _ _ _ _); refine wpList_append_run 28 (.tmp 27) (.tmp 28) _ _ rfl rfl rfl rfl rfl RUN.out ?_)
        refine (tells_any (some ⟨g, 0, none⟩) m c6 _ w6 (HT.out.later GG.out.below) ((own_leads GG.out.own).take m) (BYL.out.take m) (by rw [List.length_take]; first | (rw [HN.out]; omega) | (rw [List.length_set, HN.out]; omega)) (by omega) (by omega)).mono ?_
        rintro en w9 ⟨rfl, b9⟩
        have B9 := Lib.hid ((GG.out.below).trans (b9.mono (GG.out.below).size))
        clear b9
        go_wp2_with fail
        go_ret
        exact ⟨rfl, B9.out⟩
    · obtain ⟨m, hm⟩ : ∃ m : Nat, N = m := ⟨_, rfl⟩
      subst hm
      have hmN : N ≤ N := Nat.le_refl _
      have hmN2 : N ≤ c6 := by omega
      by_cases y1 : 0 < N
      · have y1I : (0 : Int) < (N : Int) := by omega
        have dz : ¬ (N : Int) = 0 := by omega
        by_cases y2 : 0 ≤ at_
        · obtain ⟨q, rfl⟩ : ∃ q : Nat, at_ = q := ⟨at_.toNat, by omega⟩
          obtain ⟨k0, hk0⟩ : ∃ k0, q % N = k0 := ⟨_, rfl⟩
          have hk1 : k0 < N := by rw [← hk0]; exact Nat.mod_lt _ y1
          have hkI : (q : Int) % (N : Int) = (k0 : Int) := by rw [← hk0, Int.natCast_emod]
          obtain ⟨g, hg, -⟩ := own_at GG.out.own 0 (by rw [HN.out]; omega)
          subst hg
          have ck := GG.out.own.cell HN.out k0 (by omega)
          have fk := GG.out.own.free HN.out k0
          have hb0 := BYL.out.at (i := k0) (by rw [HN.out]; omega)
          have hy := crc.bx_byte hb0 (show 0 ≤ x ∧ x < 256 from ⟨HX.out.1, by have := HX.out.2; omega⟩)
          have hbx : bits .xor .u8 (L.getD k0 0) x = crc.bx (L.getD k0 0) x := rfl
          obtain ⟨cc, hcc⟩ : ∃ cc, L.getD k0 0 = cc := ⟨_, rfl⟩
          rw [hcc] at ck hb0 hy hbx
          obtain ⟨y, hyy⟩ : ∃ y, crc.bx cc x = y := ⟨_, rfl⟩
          rw [hyy] at hbx hy
          have HYB := Lib.hid hy
          clear hyy hcc hk0 hy
          go_wp2_with ((with_reducible show wpList _ _ _ _ _ _); refine wpList_append_run 28 (.tmp 27) (.tmp 28) _ _ rfl rfl rfl rfl rfl RUN.out ?_)
          have o7 := GG.out.own.set HN.out k0 y
          have b7 : Below w.heap.size w (w6.setCell ⟨g, k0, none⟩ (.int .u8 y)) := GG.out.below.setCell (GG.out.new_ g rfl) _
          obtain ⟨w7, hw7⟩ : ∃ w7, w6.setCell ⟨g, k0, none⟩ (.int .u8 y) = w7 := ⟨_, rfl⟩
          rw [hw7] at o7 b7 ⊢
          clear hw7 ck fk
          refine (tells_any _ N c6 _ w7 (HT.out.later b7) ((own_leads o7).take N) (Byte.take (set_byte BYL.out HYB.out) N) (by rw [List.length_take]; first | (rw [HN.out]; omega) | (rw [List.length_set, HN.out]; omega)) (by omega) (by omega)).mono ?_
          rintro en w9 ⟨rfl, b9⟩
          have B9 := Lib.hid ((b7).trans (b9.mono (b7).size))
          clear b9
          go_wp2_with fail
          go_ret
          exact ⟨rfl, B9.out⟩
        · skip
          go_wp2_with ((with_reducible show wpList _ _ _ _ _ _); refine wpList_append_run 28 (.tmp 27) (.tmp 28) _ _ rfl rfl rfl rfl rfl RUN.out ?_)
          refine (tells_any a6 N c6 _ w6 (HT.out.later GG.out.below) ((own_leads GG.out.own).take N) (BYL.out.take N) (by rw [List.length_take]; first | (rw [HN.out]; omega) | (rw [List.length_set, HN.out]; omega)) (by omega) (by omega)).mono ?_
          rintro en w9 ⟨rfl, b9⟩
          have B9 := Lib.hid ((GG.out.below).trans (b9.mono (GG.out.below).size))
          clear b9
          go_wp2_with fail
          go_ret
          exact ⟨rfl, B9.out⟩
      · have y1I : ¬ (0 : Int) < (N : Int) := by omega
        go_wp2_with ((with_reducible show wpList _ _ _ _ _ _); refine wpList_append_run 28 (.tmp 27) (.tmp 28) _ _ rfl rfl rfl rfl rfl RUN.out ?_)
        refine (tells_any a6 N c6 _ w6 (HT.out.later GG.out.below) ((own_leads GG.out.own).take N) (BYL.out.take N) (by rw [List.length_take]; first | (rw [HN.out]; omega) | (rw [List.length_set, HN.out]; omega)) (by omega) (by omega)).mono ?_
        rintro en w9 ⟨rfl, b9⟩
        have B9 := Lib.hid ((GG.out.below).trans (b9.mono (GG.out.below).size))
        clear b9
        go_wp2_with fail
        go_ret
        exact ⟨rfl, B9.out⟩
  · obtain ⟨m, hm⟩ : ∃ m : Nat, N = m := ⟨_, rfl⟩
    subst hm
    have hmN : N ≤ N := Nat.le_refl _
    have hmN2 : N ≤ c6 := by omega
    by_cases y1 : 0 < N
    · have y1I : (0 : Int) < (N : Int) := by omega
      have dz : ¬ (N : Int) = 0 := by omega
      by_cases y2 : 0 ≤ at_
      · obtain ⟨q, rfl⟩ : ∃ q : Nat, at_ = q := ⟨at_.toNat, by omega⟩
        obtain ⟨k0, hk0⟩ : ∃ k0, q % N = k0 := ⟨_, rfl⟩
        have hk1 : k0 < N := by rw [← hk0]; exact Nat.mod_lt _ y1
        have hkI : (q : Int) % (N : Int) = (k0 : Int) := by rw [← hk0, Int.natCast_emod]
        obtain ⟨g, hg, -⟩ := own_at GG.out.own 0 (by rw [HN.out]; omega)
        subst hg
        have ck := GG.out.own.cell HN.out k0 (by omega)
        have fk := GG.out.own.free HN.out k0
        have hb0 := BYL.out.at (i := k0) (by rw [HN.out]; omega)
        have hy := crc.bx_byte hb0 (show 0 ≤ x ∧ x < 256 from ⟨HX.out.1, by have := HX.out.2; omega⟩)
        have hbx : bits .xor .u8 (L.getD k0 0) x = crc.bx (L.getD k0 0) x := rfl
        obtain ⟨cc, hcc⟩ : ∃ cc, L.getD k0 0 = cc := ⟨_, rfl⟩
        rw [hcc] at ck hb0 hy hbx
        obtain ⟨y, hyy⟩ : ∃ y, crc.bx cc x = y := ⟨_, rfl⟩
        rw [hyy] at hbx hy
        have HYB := Lib.hid hy
        clear hyy hcc hk0 hy
        go_wp2_with ((with_reducible show wpList _ _ _ _ _ _); refine wpList_append_run 28 (.tmp 27) (.tmp 28) _ _ rfl rfl rfl rfl rfl RUN.out ?_)
        have o7 := GG.out.own.set HN.out k0 y
        have b7 : Below w.heap.size w (w6.setCell ⟨g, k0, none⟩ (.int .u8 y)) := GG.out.below.setCell (GG.out.new_ g rfl) _
        obtain ⟨w7, hw7⟩ : ∃ w7, w6.setCell ⟨g, k0, none⟩ (.int .u8 y) = w7 := ⟨_, rfl⟩
        rw [hw7] at o7 b7 ⊢
        clear hw7 ck fk
        refine (tells_any _ N c6 _ w7 (HT.out.later b7) ((own_leads o7).take N) (Byte.take (set_byte BYL.out HYB.out) N) (by rw [List.length_take]; first | (rw [HN.out]; omega) | (rw [List.length_set, HN.out]; omega)) (by omega) (by omega)).mono ?_
        rintro en w9 ⟨rfl, b9⟩
        have B9 := Lib.hid ((b7).trans (b9.mono (b7).size))
        clear b9
        go_wp2_with fail
        go_ret
        exact ⟨rfl, B9.out⟩
      · skip
        go_wp2_with ((with_reducible show wpList _ _ _ _ _ _); refine wpList_append_run 28 (.tmp 27) (.tmp 28) _ _ rfl rfl rfl rfl rfl RUN.out ?_)
        refine (tells_any a6 N c6 _ w6 (HT.out.later GG.out.below) ((own_leads GG.out.own).take N) (BYL.out.take N) (by rw [List.length_take]; first | (rw [HN.out]; omega) | (rw [List.length_set, HN.out]; omega)) (by omega) (by omega)).mono ?_
        rintro en w9 ⟨rfl, b9⟩
        have B9 := Lib.hid ((GG.out.below).trans (b9.mono (GG.out.below).size))
        clear b9
        go_wp2_with fail
        go_ret
        exact ⟨rfl, B9.out⟩
    · have y1I : ¬ (0 : Int) < (N : Int) := by omega
      go_wp2_with ((with_reducible show wpList _ _ _ _ _ _); refine wpList_append_run 28 (.tmp 27) (.tmp 28) _ _ rfl rfl rfl rfl rfl RUN.out ?_)
      refine (tells_any a6 N c6 _ w6 (HT.out.later GG.out.below) ((own_leads GG.out.own).take N) (BYL.out.take N) (by rw [List.length_take]; first | (rw [HN.out]; omega) | (rw [List.length_set, HN.out]; omega)) (by omega) (by omega)).mono ?_
      rintro en w9 ⟨rfl, b9⟩
      have B9 := Lib.hid ((GG.out.below).trans (b9.mono (GG.out.below).size))
      clear b9
      go_wp2_with fail
      go_ret
      exact ⟨rfl, B9.out⟩
end Go.Proofs.YtlpennnnkbnjmaaDoor.recd
