/-
  CONTRACT of the reference's Mac: the tag, too.
-/
import Derived.Test.YtchbfcegonlhoaaDoorMacSum
import Derived.Test.YtchbfcegonlhoaaDoorZeros
namespace Go.Proofs.YtchbfcegonlhoaaDoor.sha
open Go.RowKit

theorem make64 (w : World) : (Instr.makeSlice 22 (.int .i64 64) (.int .i64 64)).run Tryd.prog w = .ok (.slice (some ⟨w.heap.size, 0, none⟩) 64 64) (w.alloc (.cells (u8s z64b).toArray 5)) := by kernel_rfl
theorem own_64 {w : World} {g base : Nat} (h : Whole w g 5 (u8s z64b)) (hb : base ≤ g) : Own w base (.slice (some ⟨g, 0, none⟩) 64 64) z64b :=
  ⟨by rfl, .inr ⟨g, 64, _, rfl, hb, h, Nat.le_refl _, by unfold maxLen; omega, by rfl, by rfl⟩⟩
theorem Own.later {w w' : World} {base : Nat} {v : Value} {l : List Int} (h : Own w base v l) (hb : Below w.heap.size w w') : Own w' base v l := by
  refine h.keep (row := none) ⟨hb.os, hb.tape, hb.output, hb.size, fun i hi _ => hb.block i hi⟩ ?_
  cases hv : v.ownBlock with
  | none => exact .inl rfl
  | some g => exact .inr (by simp)

theorem cell_of' {w : World} {a : Option Addr} {l : List Int} (h : Leads w a l) {i : Nat} (hi : i < l.length) : ∃ b off, a = some ⟨b, off, none⟩ ∧ w.cell? ⟨b, off + i, none⟩ = some (.int .u8 (l.getD i 0)) := by
  rcases h with h | ⟨b, off, e, hc⟩
  · rw [h] at hi; simp at hi
  · exact ⟨b, off, e, hc i hi⟩

set_option maxRecDepth 100000 in
set_option maxHeartbeats 2000000 in
theorem rMac_short (a0 : Option Addr) (K : List Int) (n0 cap0 : Nat) (a1 : Option Addr) (l : List Int) (n1 cap1 : Nat) (w : World) (h0 : Row w a0 n0 cap0 K) (h1 : Row w a1 n1 cap1 l) (hn0 : ¬ 64 < n0) (hn1 : n1 ≤ 5000) :
    Calls Tryd.prog 14 #[.slice a0 n0 cap0, .slice a1 n1 cap1] w fun e w' => e = .returned (.agg (u8s (tagOf K l)).toArray) ∧ Below w.heap.size w w' := by
  have H1 := Lib.hid h1
  have hz32 := zero32
  have hmk := make64
  obtain ⟨L, hL⟩ : ∃ L, block K = L := ⟨_, rfl⟩
  have HLL := Lib.hid (show L.length = 64 by rw [← hL]; exact block_length K)
  have HLY := Lib.hid (show Byte L by rw [← hL]; exact block_byte h0.byte)
  obtain ⟨I, hI⟩ : ∃ I, digest (xored L 54 ++ l) = I := ⟨_, rfl⟩
  have hIl : I.length = 32 := by rw [← hI]; exact digest_length _
  have hIy : Byte I := by rw [← hI]; exact digest_byte _
  obtain ⟨T, hTg⟩ : ∃ T, tagOf K l = T := ⟨_, rfl⟩
  have hTg2 : digest (xored L 92 ++ I) = T := by rw [← hTg, ← hI, ← hL]; rfl
  have hTl : T.length = 32 := by rw [← hTg]; exact tagOf_length _ _
  have HI32 := Lib.hid (show (Tryd.prog.info? 25).map (·.size) = some (u8s I).toArray.size by rw [u8s_size, hIl]; exact info32)
  have HI32T := Lib.hid (show (Tryd.prog.info? 25).map (·.size) = some (u8s T).toArray.size by rw [u8s_size, hTl]; exact info32)
  have HII := Lib.hid hI
  have HIL := Lib.hid hIl
  have HIY := Lib.hid hIy
  have HTG := Lib.hid hTg2
  have HTL := Lib.hid hTl
  rw [hTg]
  have c1 : ¬ (64 : Int) < (n0 : Int) := by omega
  have HLO := Lib.hid (show onto K 64 = L by rw [← hL]; exact (block_short (by rw [h0.length]; exact hn0)).symm)
  have HKN := Lib.hid h0.length
  obtain ⟨wb, hwb⟩ : ∃ wb, w.alloc (.cells (u8s z32).toArray 25) = wb := ⟨_, rfl⟩
  have HBB := Lib.hid (show Below w.heap.size w wb by rw [← hwb]; exact (Below.refl _ _).alloc (Nat.le_refl _) _)
  have HOB := Lib.hid (show Whole wb w.heap.size 25 (u8s z32) by rw [← hwb]; exact Whole.new_ rfl rfl)
  have HKD := Lib.hid (h0.bytes.later HBB.out)
  have HWB := Lib.hid hwb
  clear h0 h1 hI hIl hIy hTg hTg2 hTl hL hwb
  go_enter Tryd.func14, Tryd.ntmps14
  go_wp2_with fail
  rw [show _ = wb from HWB.out]
  clear HWB
  go_region
  · have OI := Lib.hid (show Own _ wb.heap.size (.slice (some ⟨wb.heap.size, 0, none⟩) 64 64) z64b from own_64 (w := (wb.drew.alloc (.cells (u8s z64b).toArray 5)).alloc (.cells (u8s z64b).toArray 5)) (Whole.more (Whole.new_ rfl rfl) _) (by omega))
    have OO := Lib.hid (show Own _ wb.heap.size (.slice (some ⟨(wb.heap.size + 1), 0, none⟩) 64 64) z64b from own_64 (w := (wb.drew.alloc (.cells (u8s z64b).toArray 5)).alloc (.cells (u8s z64b).toArray 5)) (Whole.new_ (by simp) rfl) (by omega))
    have BB := Lib.hid (show Below wb.heap.size wb ((wb.drew.alloc (.cells (u8s z64b).toArray 5)).alloc (.cells (u8s z64b).toArray 5)) from (((below_draws (Below.refl _ _) 1).alloc (by exact Nat.le_refl _) _).alloc (by simp) _))
    go_wp2_with fail
    go_loopw [8, 9] (fun i _ wr => ∃ k : Nat, k ≤ 64 ∧ i = .int .i64 k ∧ Own wr wb.heap.size (.slice (some ⟨wb.heap.size, 0, none⟩) 64 64) (laidX L 54 64 k) ∧ Own wr wb.heap.size (.slice (some ⟨(wb.heap.size + 1), 0, none⟩) 64 64) (laidX L 92 64 k) ∧ Below wb.heap.size wb wr) (fun i _ _ => 64 - (intOf i).toNat)
    case atStart => exact ⟨0, by omega, rfl, by rw [laidX_zero]; exact OI.out, by rw [laidX_zero]; exact OO.out, BB.out⟩
    case round =>
      obtain ⟨k, hk, rfl, oi, oo, hbel⟩ := hrel
      clear OI OO BB
      by_cases hlt : k < 64
      · have hli := laidX_length 54 HLL.out (Nat.le_of_lt hlt)
        have hlo := laidX_length 92 HLL.out (Nat.le_of_lt hlt)
        have ci := oi.cell hli k hlt
        have fi := oi.free hli k
        have co := oo.cell hlo k hlt
        have fo := oo.free hlo k
        have si := oi.set hli k (xb (L.getD k 0) 54)
        rw [laidX_set 54 HLL.out hlt] at si
        have so := oo.set hlo k (xb (L.getD k 0) 92)
        rw [laidX_set 92 HLL.out hlt] at so
        have xi : bits .xor .u8 (L.getD k 0) 54 = xb (L.getD k 0) 54 := rfl
        have xo : bits .xor .u8 (L.getD k 0) 92 = xb (L.getD k 0) 92 := rfl
        have gi1 : wr.grownBy (wr.setCell ⟨wb.heap.size, k, none⟩ (.int .u8 (xb (L.getD k 0) 54))) (some (wb.heap.size)) := only_set ⟨rfl, rfl, rfl, Nat.le_refl _, fun _ _ _ => rfl⟩ _ _
        have oo1 := oo.keep gi1 (.inr (by simp [Value.ownBlock]))
        have si1 := si.keep (only_set (g := (wb.heap.size + 1)) ⟨rfl, rfl, rfl, Nat.le_refl _, fun _ _ _ => rfl⟩ k (.int .u8 (xb (L.getD k 0) 92))) (.inr (by simp [Value.ownBlock]))
        have so1 := oo1.set hlo k (xb (L.getD k 0) 92)
        rw [laidX_set 92 HLL.out hlt] at so1
        have co1 := oo1.cell hlo k hlt
        have fo1 := oo1.free hlo k
        have bb1 := (hbel.setCell (p := ⟨wb.heap.size, k, none⟩) (by show wb.heap.size ≤ wb.heap.size; omega) (.int .u8 (xb (L.getD k 0) 54))).setCell (p := ⟨(wb.heap.size + 1), k, none⟩) (by show wb.heap.size ≤ (wb.heap.size + 1); omega) (.int .u8 (xb (L.getD k 0) 92))
        clear oi oo si so oo1 gi1 co fo
        by_cases hkl : k < n0
        · obtain ⟨cb, ce, hca, hcc⟩ := cell_of' (HKD.out.later hbel) (i := k) (by rw [HKN.out]; exact hkl)
          have hLk : L.getD k 0 = (K).getD k 0 := by rw [← HLO.out]; exact onto_low (by rw [HKN.out]; exact hkl)
          rw [← hLk] at hcc
          subst hca
          generalize xb (L.getD k 0) 54 = zi at *
          generalize xb (L.getD k 0) 92 = zo at *
          generalize L.getD k 0 = x at *
          clear hLk
          generalize (laidX L 54 64 k).getD k 0 = y1 at ci
          generalize (laidX L 92 64 k).getD k 0 = y2 at co1
          have SI := Lib.hid si1
          have SO := Lib.hid so1
          have BB1 := Lib.hid bb1
          clear si1 so1 bb1 hbel hli hlo
          go_wp2_with fail
          exact ⟨⟨k + 1, by omega, by go_num, SI.out, SO.out, BB1.out⟩, by simp [intOf]; omega⟩
        · have hLk : L.getD k 0 = 0 := by rw [← HLO.out]; exact onto_high (by rw [HKN.out]; omega)
          rw [hLk] at xi xo si1 so1 bb1 co1 fo1
          clear hLk
          generalize xb 0 54 = zi at *
          generalize xb 0 92 = zo at *
          generalize (laidX L 54 64 k).getD k 0 = y1 at ci
          generalize (laidX L 92 64 k).getD k 0 = y2 at co1
          have SI := Lib.hid si1
          have SO := Lib.hid so1
          have BB1 := Lib.hid bb1
          clear si1 so1 bb1 hbel hli hlo
          go_wp2_with fail
          exact ⟨⟨k + 1, by omega, by go_num, SI.out, SO.out, BB1.out⟩, by simp [intOf]; omega⟩
      · obtain rfl : k = 64 := by omega
        rw [laidX_full 54 HLL.out] at oi
        rw [laidX_full 92 HLL.out] at oo
        have hx5 : (xored L 54).length = 64 := by rw [xored_length, HLL.out]
        have hx9 : (xored L 92).length = 64 := by rw [xored_length, HLL.out]
        have r1 := H1.out.later (HBB.out.trans (hbel.mono HBB.out.size))
        obtain ⟨v3, w3, run3, own3, bel3, gro3, _⟩ := append_row oi a1 n1 cap1 l r1.bytes r1.length (fun e => (r1.nil e).2) (by rw [hx5]; omega) hbel.size
        obtain ⟨A3, c3, hv3, _, _, f3, f4, _, _⟩ := own3.form
        have hl3 : (xored L 54 ++ l).length = 64 + n1 := by rw [List.length_append, hx5, r1.length]
        rw [hl3] at hv3 f3
        subst hv3
        have oo3 := oo.keep gro3 (.inr (by simp [Value.ownBlock]))
        have b3 := hbel.trans bel3
        have Run3 := Lib.hid run3
        have Q3 := Lib.hid (quick_any A3 (xored L 54 ++ l) (64 + n1) c3 w3 f4 ((xored_byte HLY.out (by omega)).append H1.out.byte) hl3 (fun e => (f3 e).2) (by omega))
        rw [HII.out] at Q3
        have OO3 := Lib.hid oo3
        have B3 := Lib.hid b3
        clear run3 own3 bel3 gro3 f3 f4 oo3 b3 oi oo hl3 r1 hx5
        go_wp2_with (first
          | (at_builtin; refine wpList_append_run (.tmp 41) (.tmp 42) _ _ rfl rfl rfl rfl rfl Run3.out ?_)
          | fail)
        refine Q3.out.mono ?_
        rintro e w4 ⟨rfl, h4⟩
        have oo4 := OO3.out.later h4
        have b4 := B3.out.trans (h4.mono B3.out.size)
        have OO4 := Lib.hid oo4
        have B4 := Lib.hid b4
        clear oo4 b4 h4 OO3 B3 Q3 Run3
        go_wp2_with (first
          | ((with_reducible show wpList _ _ _ _ _ _); refine wpList_store_as rfl 25 (.tmp 10) (.tmp 44) rfl w4.heap.size 0 (u8s I).toArray rfl rfl (by exact (Whole.new_ (l := u8s z32) rfl rfl).there _ _ (by rw [u8s_size, HIL.out]; exact Nat.le_refl 32)) HI32.out (u8s_one _) ?_; intro w5 hw5; have L5 := Lib.hid (laid hw5 rfl (by rw [u8s_length, HIL.out]; rfl)); clear hw5; have O5 := Lib.hid (OO4.out.later L5.out.2); have B5 := Lib.hid (B4.out.trans (L5.out.2.mono B4.out.size)); obtain ⟨v6, w6, run6, own6, bel6, _, _⟩ := append_row O5.out (some ⟨w4.heap.size, 0, none⟩) 32 32 I (Leads.of_whole (o := 0) (n := 32) L5.out.1 (by rw [List.drop_zero, List.take_of_length_le (by rw [u8s_length, HIL.out]; exact Nat.le_refl _)])) HIL.out (fun e => by cases e) (by rw [hx9]; omega) B5.out.size; obtain ⟨A6, c6, hv6, _, _, f3, f4, _, _⟩ := own6.form; have hl6 : (xored L 92 ++ I).length = 96 := (by rw [List.length_append, hx9, HIL.out]); rw [hl6] at hv6 f3; subst hv6; have B6 := Lib.hid (B5.out.trans bel6); have Run6 := Lib.hid run6; have Q6 := Lib.hid (quick_any A6 (xored L 92 ++ I) 96 c6 w6 f4 ((xored_byte HLY.out (by omega)).append HIY.out) hl6 (fun e => (f3 e).2) (by omega)); clear run6 own6 bel6 f3 f4 hl6)
          | (at_builtin; refine wpList_append_run (.tmp 45) (.tmp 46) _ _ rfl rfl rfl rfl rfl Run6.out ?_)
          | fail)
        refine Q6.out.mono ?_
        rintro e w7 ⟨rfl, h7⟩
        rw [HTG.out]
        have b7 := B6.out.trans (h7.mono B6.out.size)
        have o7 := HOB.out.kept b7
        have bw7 := HBB.out.trans (b7.mono HBB.out.size)
        have hth : w7.there w.heap.size 0 (u8s T).toArray.size := o7.there _ _ (by rw [u8s_size, HTL.out]; exact Nat.le_refl 32)
        have k8 := o7.lay (u8s T) 0 (by rw [u8s_length, HTL.out]; exact Nat.le_refl 32)
        rw [lay_all _ _ (by rw [u8s_length, u8s_length, HTL.out]; rfl)] at k8
        have b8 := below_lay (u8s T) w.heap.size 0 bw7 (Nat.le_refl _)
        have HTH := Lib.hid hth
        have K8 := Lib.hid k8
        have B8 := Lib.hid b8
        clear h7 b7 o7 bw7 hth k8 b8
        go_wp2_with (first
          | ((with_reducible show wpList _ _ _ _ _ _); refine wpList_store_mid rfl 25 (.tmp 4) (.tmp 48) rfl w.heap.size 0 (u8s T).toArray rfl rfl HTH.out HI32T.out (u8s_one _) ?_)
          | fail)
        exact bodyPost_ret (results_cell_row rfl _ _ w.heap.size 25 (u8s T).toArray (0, 0) _ rfl K8.out Tryd.underlying25 rfl HI32T.out) rfl ⟨rfl, B8.out⟩
  · have OI := Lib.hid (show Own _ wb.heap.size (.slice (some ⟨(wb.heap.size + 1), 0, none⟩) 64 64) z64b from own_64 (w := (wb.drew.alloc (.cells (u8s z64b).toArray 5)).alloc (.cells (u8s z64b).toArray 5)) (Whole.new_ (by simp) rfl) (by omega))
    have OO := Lib.hid (show Own _ wb.heap.size (.slice (some ⟨wb.heap.size, 0, none⟩) 64 64) z64b from own_64 (w := (wb.drew.alloc (.cells (u8s z64b).toArray 5)).alloc (.cells (u8s z64b).toArray 5)) (Whole.more (Whole.new_ rfl rfl) _) (by omega))
    have BB := Lib.hid (show Below wb.heap.size wb ((wb.drew.alloc (.cells (u8s z64b).toArray 5)).alloc (.cells (u8s z64b).toArray 5)) from (((below_draws (Below.refl _ _) 1).alloc (by exact Nat.le_refl _) _).alloc (by simp) _))
    go_wp2_with fail
    go_loopw [8, 9] (fun i _ wr => ∃ k : Nat, k ≤ 64 ∧ i = .int .i64 k ∧ Own wr wb.heap.size (.slice (some ⟨(wb.heap.size + 1), 0, none⟩) 64 64) (laidX L 54 64 k) ∧ Own wr wb.heap.size (.slice (some ⟨wb.heap.size, 0, none⟩) 64 64) (laidX L 92 64 k) ∧ Below wb.heap.size wb wr) (fun i _ _ => 64 - (intOf i).toNat)
    case atStart => exact ⟨0, by omega, rfl, by rw [laidX_zero]; exact OI.out, by rw [laidX_zero]; exact OO.out, BB.out⟩
    case round =>
      obtain ⟨k, hk, rfl, oi, oo, hbel⟩ := hrel
      clear OI OO BB
      by_cases hlt : k < 64
      · have hli := laidX_length 54 HLL.out (Nat.le_of_lt hlt)
        have hlo := laidX_length 92 HLL.out (Nat.le_of_lt hlt)
        have ci := oi.cell hli k hlt
        have fi := oi.free hli k
        have co := oo.cell hlo k hlt
        have fo := oo.free hlo k
        have si := oi.set hli k (xb (L.getD k 0) 54)
        rw [laidX_set 54 HLL.out hlt] at si
        have so := oo.set hlo k (xb (L.getD k 0) 92)
        rw [laidX_set 92 HLL.out hlt] at so
        have xi : bits .xor .u8 (L.getD k 0) 54 = xb (L.getD k 0) 54 := rfl
        have xo : bits .xor .u8 (L.getD k 0) 92 = xb (L.getD k 0) 92 := rfl
        have gi1 : wr.grownBy (wr.setCell ⟨(wb.heap.size + 1), k, none⟩ (.int .u8 (xb (L.getD k 0) 54))) (some ((wb.heap.size + 1))) := only_set ⟨rfl, rfl, rfl, Nat.le_refl _, fun _ _ _ => rfl⟩ _ _
        have oo1 := oo.keep gi1 (.inr (by simp [Value.ownBlock]))
        have si1 := si.keep (only_set (g := wb.heap.size) ⟨rfl, rfl, rfl, Nat.le_refl _, fun _ _ _ => rfl⟩ k (.int .u8 (xb (L.getD k 0) 92))) (.inr (by simp [Value.ownBlock]))
        have so1 := oo1.set hlo k (xb (L.getD k 0) 92)
        rw [laidX_set 92 HLL.out hlt] at so1
        have co1 := oo1.cell hlo k hlt
        have fo1 := oo1.free hlo k
        have bb1 := (hbel.setCell (p := ⟨(wb.heap.size + 1), k, none⟩) (by show wb.heap.size ≤ (wb.heap.size + 1); omega) (.int .u8 (xb (L.getD k 0) 54))).setCell (p := ⟨wb.heap.size, k, none⟩) (by show wb.heap.size ≤ wb.heap.size; omega) (.int .u8 (xb (L.getD k 0) 92))
        clear oi oo si so oo1 gi1 co fo
        by_cases hkl : k < n0
        · obtain ⟨cb, ce, hca, hcc⟩ := cell_of' (HKD.out.later hbel) (i := k) (by rw [HKN.out]; exact hkl)
          have hLk : L.getD k 0 = (K).getD k 0 := by rw [← HLO.out]; exact onto_low (by rw [HKN.out]; exact hkl)
          rw [← hLk] at hcc
          subst hca
          generalize xb (L.getD k 0) 54 = zi at *
          generalize xb (L.getD k 0) 92 = zo at *
          generalize L.getD k 0 = x at *
          clear hLk
          generalize (laidX L 54 64 k).getD k 0 = y1 at ci
          generalize (laidX L 92 64 k).getD k 0 = y2 at co1
          have SI := Lib.hid si1
          have SO := Lib.hid so1
          have BB1 := Lib.hid bb1
          clear si1 so1 bb1 hbel hli hlo
          go_wp2_with fail
          exact ⟨⟨k + 1, by omega, by go_num, SI.out, SO.out, BB1.out⟩, by simp [intOf]; omega⟩
        · have hLk : L.getD k 0 = 0 := by rw [← HLO.out]; exact onto_high (by rw [HKN.out]; omega)
          rw [hLk] at xi xo si1 so1 bb1 co1 fo1
          clear hLk
          generalize xb 0 54 = zi at *
          generalize xb 0 92 = zo at *
          generalize (laidX L 54 64 k).getD k 0 = y1 at ci
          generalize (laidX L 92 64 k).getD k 0 = y2 at co1
          have SI := Lib.hid si1
          have SO := Lib.hid so1
          have BB1 := Lib.hid bb1
          clear si1 so1 bb1 hbel hli hlo
          go_wp2_with fail
          exact ⟨⟨k + 1, by omega, by go_num, SI.out, SO.out, BB1.out⟩, by simp [intOf]; omega⟩
      · obtain rfl : k = 64 := by omega
        rw [laidX_full 54 HLL.out] at oi
        rw [laidX_full 92 HLL.out] at oo
        have hx5 : (xored L 54).length = 64 := by rw [xored_length, HLL.out]
        have hx9 : (xored L 92).length = 64 := by rw [xored_length, HLL.out]
        have r1 := H1.out.later (HBB.out.trans (hbel.mono HBB.out.size))
        obtain ⟨v3, w3, run3, own3, bel3, gro3, _⟩ := append_row oi a1 n1 cap1 l r1.bytes r1.length (fun e => (r1.nil e).2) (by rw [hx5]; omega) hbel.size
        obtain ⟨A3, c3, hv3, _, _, f3, f4, _, _⟩ := own3.form
        have hl3 : (xored L 54 ++ l).length = 64 + n1 := by rw [List.length_append, hx5, r1.length]
        rw [hl3] at hv3 f3
        subst hv3
        have oo3 := oo.keep gro3 (.inr (by simp [Value.ownBlock]))
        have b3 := hbel.trans bel3
        have Run3 := Lib.hid run3
        have Q3 := Lib.hid (quick_any A3 (xored L 54 ++ l) (64 + n1) c3 w3 f4 ((xored_byte HLY.out (by omega)).append H1.out.byte) hl3 (fun e => (f3 e).2) (by omega))
        rw [HII.out] at Q3
        have OO3 := Lib.hid oo3
        have B3 := Lib.hid b3
        clear run3 own3 bel3 gro3 f3 f4 oo3 b3 oi oo hl3 r1 hx5
        go_wp2_with (first
          | (at_builtin; refine wpList_append_run (.tmp 41) (.tmp 42) _ _ rfl rfl rfl rfl rfl Run3.out ?_)
          | fail)
        refine Q3.out.mono ?_
        rintro e w4 ⟨rfl, h4⟩
        have oo4 := OO3.out.later h4
        have b4 := B3.out.trans (h4.mono B3.out.size)
        have OO4 := Lib.hid oo4
        have B4 := Lib.hid b4
        clear oo4 b4 h4 OO3 B3 Q3 Run3
        go_wp2_with (first
          | ((with_reducible show wpList _ _ _ _ _ _); refine wpList_store_as rfl 25 (.tmp 10) (.tmp 44) rfl w4.heap.size 0 (u8s I).toArray rfl rfl (by exact (Whole.new_ (l := u8s z32) rfl rfl).there _ _ (by rw [u8s_size, HIL.out]; exact Nat.le_refl 32)) HI32.out (u8s_one _) ?_; intro w5 hw5; have L5 := Lib.hid (laid hw5 rfl (by rw [u8s_length, HIL.out]; rfl)); clear hw5; have O5 := Lib.hid (OO4.out.later L5.out.2); have B5 := Lib.hid (B4.out.trans (L5.out.2.mono B4.out.size)); obtain ⟨v6, w6, run6, own6, bel6, _, _⟩ := append_row O5.out (some ⟨w4.heap.size, 0, none⟩) 32 32 I (Leads.of_whole (o := 0) (n := 32) L5.out.1 (by rw [List.drop_zero, List.take_of_length_le (by rw [u8s_length, HIL.out]; exact Nat.le_refl _)])) HIL.out (fun e => by cases e) (by rw [hx9]; omega) B5.out.size; obtain ⟨A6, c6, hv6, _, _, f3, f4, _, _⟩ := own6.form; have hl6 : (xored L 92 ++ I).length = 96 := (by rw [List.length_append, hx9, HIL.out]); rw [hl6] at hv6 f3; subst hv6; have B6 := Lib.hid (B5.out.trans bel6); have Run6 := Lib.hid run6; have Q6 := Lib.hid (quick_any A6 (xored L 92 ++ I) 96 c6 w6 f4 ((xored_byte HLY.out (by omega)).append HIY.out) hl6 (fun e => (f3 e).2) (by omega)); clear run6 own6 bel6 f3 f4 hl6)
          | (at_builtin; refine wpList_append_run (.tmp 45) (.tmp 46) _ _ rfl rfl rfl rfl rfl Run6.out ?_)
          | fail)
        refine Q6.out.mono ?_
        rintro e w7 ⟨rfl, h7⟩
        rw [HTG.out]
        have b7 := B6.out.trans (h7.mono B6.out.size)
        have o7 := HOB.out.kept b7
        have bw7 := HBB.out.trans (b7.mono HBB.out.size)
        have hth : w7.there w.heap.size 0 (u8s T).toArray.size := o7.there _ _ (by rw [u8s_size, HTL.out]; exact Nat.le_refl 32)
        have k8 := o7.lay (u8s T) 0 (by rw [u8s_length, HTL.out]; exact Nat.le_refl 32)
        rw [lay_all _ _ (by rw [u8s_length, u8s_length, HTL.out]; rfl)] at k8
        have b8 := below_lay (u8s T) w.heap.size 0 bw7 (Nat.le_refl _)
        have HTH := Lib.hid hth
        have K8 := Lib.hid k8
        have B8 := Lib.hid b8
        clear h7 b7 o7 bw7 hth k8 b8
        go_wp2_with (first
          | ((with_reducible show wpList _ _ _ _ _ _); refine wpList_store_mid rfl 25 (.tmp 4) (.tmp 48) rfl w.heap.size 0 (u8s T).toArray rfl rfl HTH.out HI32T.out (u8s_one _) ?_)
          | fail)
        exact bodyPost_ret (results_cell_row rfl _ _ w.heap.size 25 (u8s T).toArray (0, 0) _ rfl K8.out Tryd.underlying25 rfl HI32T.out) rfl ⟨rfl, B8.out⟩

set_option maxRecDepth 100000 in
set_option maxHeartbeats 2000000 in
theorem rMac_long (a0 : Option Addr) (K : List Int) (n0 cap0 : Nat) (a1 : Option Addr) (l : List Int) (n1 cap1 : Nat) (w : World) (h0 : Row w a0 n0 cap0 K) (h1 : Row w a1 n1 cap1 l) (hn0 : 64 < n0) (hn2 : n0 ≤ 5000) (hn1 : n1 ≤ 5000) :
    Calls Tryd.prog 14 #[.slice a0 n0 cap0, .slice a1 n1 cap1] w fun e w' => e = .returned (.agg (u8s (tagOf K l)).toArray) ∧ Below w.heap.size w w' := by
  have H1 := Lib.hid h1
  have hz32 := zero32
  have hmk := make64
  obtain ⟨L, hL⟩ : ∃ L, block K = L := ⟨_, rfl⟩
  have HLL := Lib.hid (show L.length = 64 by rw [← hL]; exact block_length K)
  have HLY := Lib.hid (show Byte L by rw [← hL]; exact block_byte h0.byte)
  obtain ⟨I, hI⟩ : ∃ I, digest (xored L 54 ++ l) = I := ⟨_, rfl⟩
  have hIl : I.length = 32 := by rw [← hI]; exact digest_length _
  have hIy : Byte I := by rw [← hI]; exact digest_byte _
  obtain ⟨T, hTg⟩ : ∃ T, tagOf K l = T := ⟨_, rfl⟩
  have hTg2 : digest (xored L 92 ++ I) = T := by rw [← hTg, ← hI, ← hL]; rfl
  have hTl : T.length = 32 := by rw [← hTg]; exact tagOf_length _ _
  have HI32 := Lib.hid (show (Tryd.prog.info? 25).map (·.size) = some (u8s I).toArray.size by rw [u8s_size, hIl]; exact info32)
  have HI32T := Lib.hid (show (Tryd.prog.info? 25).map (·.size) = some (u8s T).toArray.size by rw [u8s_size, hTl]; exact info32)
  have HII := Lib.hid hI
  have HIL := Lib.hid hIl
  have HIY := Lib.hid hIy
  have HTG := Lib.hid hTg2
  have HTL := Lib.hid hTl
  rw [hTg]
  have c1 : (64 : Int) < (n0 : Int) := by omega
  have HLO := Lib.hid (show onto (digest K) 64 = L by rw [← hL]; exact (block_long (by rw [h0.length]; exact hn0)).symm)
  have HKN := Lib.hid (digest_length K)
  obtain ⟨wa, hwa⟩ : ∃ wb, w.alloc (.cells (u8s z32).toArray 25) = wb := ⟨_, rfl⟩
  have HBA := Lib.hid (show Below w.heap.size w wa by rw [← hwa]; exact (Below.refl _ _).alloc (Nat.le_refl _) _)
  have HOA := Lib.hid (show Whole wa w.heap.size 25 (u8s z32) by rw [← hwa]; exact Whole.new_ rfl rfl)
  have H0 := Lib.hid (h0.later HBA.out)
  have HWA := Lib.hid hwa
  have HI32K := Lib.hid (show (Tryd.prog.info? 25).map (·.size) = some (u8s (digest K)).toArray.size by rw [u8s_size, digest_length]; exact info32)
  clear h0 h1 hI hIl hIy hTg hTg2 hTl hL hwa
  go_enter Tryd.func14, Tryd.ntmps14
  go_wp2_with fail
  rw [show _ = wa from HWA.out]
  clear HWA
  refine (quick_any a0 K n0 cap0 wa H0.out.bytes H0.out.byte H0.out.length (fun e => (H0.out.nil e).2) (by omega)).mono ?_
  rintro e wc ⟨rfl, h2⟩
  have HBC := Lib.hid (HBA.out.trans (h2.mono HBA.out.size))
  have HOC := Lib.hid (HOA.out.kept h2)
  clear h2 HBA HOA H0
  go_wp2_with (first
    | ((with_reducible show wpList _ _ _ _ _ _); refine wpList_store_as rfl 25 (.tmp 5) (.tmp 15) rfl wc.heap.size 0 (u8s (digest K)).toArray rfl rfl (by exact (Whole.new_ (l := u8s z32) rfl rfl).there _ _ (by rw [u8s_size, digest_length]; exact Nat.le_refl 32)) HI32K.out (u8s_one _) ?_; intro wb hwb; have LB := Lib.hid (laid hwb rfl (by rw [u8s_length, digest_length]; rfl)); clear hwb; have HBB := Lib.hid (HBC.out.trans (LB.out.2.mono HBC.out.size)); have HOB := Lib.hid (HOC.out.kept LB.out.2); have HKD := Lib.hid (Leads.of_whole (o := 0) (n := 32) (l := digest K) LB.out.1 (by rw [List.drop_zero, List.take_of_length_le (by rw [u8s_length, digest_length]; exact Nat.le_refl _)])); clear LB HBC HOC)
    | fail)
  go_region
  · have OI := Lib.hid (show Own _ wb.heap.size (.slice (some ⟨wb.heap.size, 0, none⟩) 64 64) z64b from own_64 (w := (wb.drew.alloc (.cells (u8s z64b).toArray 5)).alloc (.cells (u8s z64b).toArray 5)) (Whole.more (Whole.new_ rfl rfl) _) (by omega))
    have OO := Lib.hid (show Own _ wb.heap.size (.slice (some ⟨(wb.heap.size + 1), 0, none⟩) 64 64) z64b from own_64 (w := (wb.drew.alloc (.cells (u8s z64b).toArray 5)).alloc (.cells (u8s z64b).toArray 5)) (Whole.new_ (by simp) rfl) (by omega))
    have BB := Lib.hid (show Below wb.heap.size wb ((wb.drew.alloc (.cells (u8s z64b).toArray 5)).alloc (.cells (u8s z64b).toArray 5)) from (((below_draws (Below.refl _ _) 1).alloc (by exact Nat.le_refl _) _).alloc (by simp) _))
    go_wp2_with fail
    go_loopw [8, 9] (fun i _ wr => ∃ k : Nat, k ≤ 64 ∧ i = .int .i64 k ∧ Own wr wb.heap.size (.slice (some ⟨wb.heap.size, 0, none⟩) 64 64) (laidX L 54 64 k) ∧ Own wr wb.heap.size (.slice (some ⟨(wb.heap.size + 1), 0, none⟩) 64 64) (laidX L 92 64 k) ∧ Below wb.heap.size wb wr) (fun i _ _ => 64 - (intOf i).toNat)
    case atStart => exact ⟨0, by omega, rfl, by rw [laidX_zero]; exact OI.out, by rw [laidX_zero]; exact OO.out, BB.out⟩
    case round =>
      obtain ⟨k, hk, rfl, oi, oo, hbel⟩ := hrel
      clear OI OO BB
      by_cases hlt : k < 64
      · have hli := laidX_length 54 HLL.out (Nat.le_of_lt hlt)
        have hlo := laidX_length 92 HLL.out (Nat.le_of_lt hlt)
        have ci := oi.cell hli k hlt
        have fi := oi.free hli k
        have co := oo.cell hlo k hlt
        have fo := oo.free hlo k
        have si := oi.set hli k (xb (L.getD k 0) 54)
        rw [laidX_set 54 HLL.out hlt] at si
        have so := oo.set hlo k (xb (L.getD k 0) 92)
        rw [laidX_set 92 HLL.out hlt] at so
        have xi : bits .xor .u8 (L.getD k 0) 54 = xb (L.getD k 0) 54 := rfl
        have xo : bits .xor .u8 (L.getD k 0) 92 = xb (L.getD k 0) 92 := rfl
        have gi1 : wr.grownBy (wr.setCell ⟨wb.heap.size, k, none⟩ (.int .u8 (xb (L.getD k 0) 54))) (some (wb.heap.size)) := only_set ⟨rfl, rfl, rfl, Nat.le_refl _, fun _ _ _ => rfl⟩ _ _
        have oo1 := oo.keep gi1 (.inr (by simp [Value.ownBlock]))
        have si1 := si.keep (only_set (g := (wb.heap.size + 1)) ⟨rfl, rfl, rfl, Nat.le_refl _, fun _ _ _ => rfl⟩ k (.int .u8 (xb (L.getD k 0) 92))) (.inr (by simp [Value.ownBlock]))
        have so1 := oo1.set hlo k (xb (L.getD k 0) 92)
        rw [laidX_set 92 HLL.out hlt] at so1
        have co1 := oo1.cell hlo k hlt
        have fo1 := oo1.free hlo k
        have bb1 := (hbel.setCell (p := ⟨wb.heap.size, k, none⟩) (by show wb.heap.size ≤ wb.heap.size; omega) (.int .u8 (xb (L.getD k 0) 54))).setCell (p := ⟨(wb.heap.size + 1), k, none⟩) (by show wb.heap.size ≤ (wb.heap.size + 1); omega) (.int .u8 (xb (L.getD k 0) 92))
        clear oi oo si so oo1 gi1 co fo
        by_cases hkl : k < 32
        · obtain ⟨cb, ce, hca, hcc⟩ := cell_of' (HKD.out.later hbel) (i := k) (by rw [HKN.out]; exact hkl)
          have hLk : L.getD k 0 = (digest K).getD k 0 := by rw [← HLO.out]; exact onto_low (by rw [HKN.out]; exact hkl)
          rw [← hLk] at hcc
          injection hca with hca; injection hca with hca1 hca2; subst hca1; subst hca2; rw [Nat.zero_add] at hcc
          generalize xb (L.getD k 0) 54 = zi at *
          generalize xb (L.getD k 0) 92 = zo at *
          generalize L.getD k 0 = x at *
          clear hLk
          generalize (laidX L 54 64 k).getD k 0 = y1 at ci
          generalize (laidX L 92 64 k).getD k 0 = y2 at co1
          have SI := Lib.hid si1
          have SO := Lib.hid so1
          have BB1 := Lib.hid bb1
          clear si1 so1 bb1 hbel hli hlo
          go_wp2_with fail
          exact ⟨⟨k + 1, by omega, by go_num, SI.out, SO.out, BB1.out⟩, by simp [intOf]; omega⟩
        · have hLk : L.getD k 0 = 0 := by rw [← HLO.out]; exact onto_high (by rw [HKN.out]; omega)
          rw [hLk] at xi xo si1 so1 bb1 co1 fo1
          clear hLk
          generalize xb 0 54 = zi at *
          generalize xb 0 92 = zo at *
          generalize (laidX L 54 64 k).getD k 0 = y1 at ci
          generalize (laidX L 92 64 k).getD k 0 = y2 at co1
          have SI := Lib.hid si1
          have SO := Lib.hid so1
          have BB1 := Lib.hid bb1
          clear si1 so1 bb1 hbel hli hlo
          go_wp2_with fail
          exact ⟨⟨k + 1, by omega, by go_num, SI.out, SO.out, BB1.out⟩, by simp [intOf]; omega⟩
      · obtain rfl : k = 64 := by omega
        rw [laidX_full 54 HLL.out] at oi
        rw [laidX_full 92 HLL.out] at oo
        have hx5 : (xored L 54).length = 64 := by rw [xored_length, HLL.out]
        have hx9 : (xored L 92).length = 64 := by rw [xored_length, HLL.out]
        have r1 := H1.out.later (HBB.out.trans (hbel.mono HBB.out.size))
        obtain ⟨v3, w3, run3, own3, bel3, gro3, _⟩ := append_row oi a1 n1 cap1 l r1.bytes r1.length (fun e => (r1.nil e).2) (by rw [hx5]; omega) hbel.size
        obtain ⟨A3, c3, hv3, _, _, f3, f4, _, _⟩ := own3.form
        have hl3 : (xored L 54 ++ l).length = 64 + n1 := by rw [List.length_append, hx5, r1.length]
        rw [hl3] at hv3 f3
        subst hv3
        have oo3 := oo.keep gro3 (.inr (by simp [Value.ownBlock]))
        have b3 := hbel.trans bel3
        have Run3 := Lib.hid run3
        have Q3 := Lib.hid (quick_any A3 (xored L 54 ++ l) (64 + n1) c3 w3 f4 ((xored_byte HLY.out (by omega)).append H1.out.byte) hl3 (fun e => (f3 e).2) (by omega))
        rw [HII.out] at Q3
        have OO3 := Lib.hid oo3
        have B3 := Lib.hid b3
        clear run3 own3 bel3 gro3 f3 f4 oo3 b3 oi oo hl3 r1 hx5
        go_wp2_with (first
          | (at_builtin; refine wpList_append_run (.tmp 41) (.tmp 42) _ _ rfl rfl rfl rfl rfl Run3.out ?_)
          | fail)
        refine Q3.out.mono ?_
        rintro e w4 ⟨rfl, h4⟩
        have oo4 := OO3.out.later h4
        have b4 := B3.out.trans (h4.mono B3.out.size)
        have OO4 := Lib.hid oo4
        have B4 := Lib.hid b4
        clear oo4 b4 h4 OO3 B3 Q3 Run3
        go_wp2_with (first
          | ((with_reducible show wpList _ _ _ _ _ _); refine wpList_store_as rfl 25 (.tmp 10) (.tmp 44) rfl w4.heap.size 0 (u8s I).toArray rfl rfl (by exact (Whole.new_ (l := u8s z32) rfl rfl).there _ _ (by rw [u8s_size, HIL.out]; exact Nat.le_refl 32)) HI32.out (u8s_one _) ?_; intro w5 hw5; have L5 := Lib.hid (laid hw5 rfl (by rw [u8s_length, HIL.out]; rfl)); clear hw5; have O5 := Lib.hid (OO4.out.later L5.out.2); have B5 := Lib.hid (B4.out.trans (L5.out.2.mono B4.out.size)); obtain ⟨v6, w6, run6, own6, bel6, _, _⟩ := append_row O5.out (some ⟨w4.heap.size, 0, none⟩) 32 32 I (Leads.of_whole (o := 0) (n := 32) L5.out.1 (by rw [List.drop_zero, List.take_of_length_le (by rw [u8s_length, HIL.out]; exact Nat.le_refl _)])) HIL.out (fun e => by cases e) (by rw [hx9]; omega) B5.out.size; obtain ⟨A6, c6, hv6, _, _, f3, f4, _, _⟩ := own6.form; have hl6 : (xored L 92 ++ I).length = 96 := (by rw [List.length_append, hx9, HIL.out]); rw [hl6] at hv6 f3; subst hv6; have B6 := Lib.hid (B5.out.trans bel6); have Run6 := Lib.hid run6; have Q6 := Lib.hid (quick_any A6 (xored L 92 ++ I) 96 c6 w6 f4 ((xored_byte HLY.out (by omega)).append HIY.out) hl6 (fun e => (f3 e).2) (by omega)); clear run6 own6 bel6 f3 f4 hl6)
          | (at_builtin; refine wpList_append_run (.tmp 45) (.tmp 46) _ _ rfl rfl rfl rfl rfl Run6.out ?_)
          | fail)
        refine Q6.out.mono ?_
        rintro e w7 ⟨rfl, h7⟩
        rw [HTG.out]
        have b7 := B6.out.trans (h7.mono B6.out.size)
        have o7 := HOB.out.kept b7
        have bw7 := HBB.out.trans (b7.mono HBB.out.size)
        have hth : w7.there w.heap.size 0 (u8s T).toArray.size := o7.there _ _ (by rw [u8s_size, HTL.out]; exact Nat.le_refl 32)
        have k8 := o7.lay (u8s T) 0 (by rw [u8s_length, HTL.out]; exact Nat.le_refl 32)
        rw [lay_all _ _ (by rw [u8s_length, u8s_length, HTL.out]; rfl)] at k8
        have b8 := below_lay (u8s T) w.heap.size 0 bw7 (Nat.le_refl _)
        have HTH := Lib.hid hth
        have K8 := Lib.hid k8
        have B8 := Lib.hid b8
        clear h7 b7 o7 bw7 hth k8 b8
        go_wp2_with (first
          | ((with_reducible show wpList _ _ _ _ _ _); refine wpList_store_mid rfl 25 (.tmp 4) (.tmp 48) rfl w.heap.size 0 (u8s T).toArray rfl rfl HTH.out HI32T.out (u8s_one _) ?_)
          | fail)
        exact bodyPost_ret (results_cell_row rfl _ _ w.heap.size 25 (u8s T).toArray (0, 0) _ rfl K8.out Tryd.underlying25 rfl HI32T.out) rfl ⟨rfl, B8.out⟩
  · have OI := Lib.hid (show Own _ wb.heap.size (.slice (some ⟨(wb.heap.size + 1), 0, none⟩) 64 64) z64b from own_64 (w := (wb.drew.alloc (.cells (u8s z64b).toArray 5)).alloc (.cells (u8s z64b).toArray 5)) (Whole.new_ (by simp) rfl) (by omega))
    have OO := Lib.hid (show Own _ wb.heap.size (.slice (some ⟨wb.heap.size, 0, none⟩) 64 64) z64b from own_64 (w := (wb.drew.alloc (.cells (u8s z64b).toArray 5)).alloc (.cells (u8s z64b).toArray 5)) (Whole.more (Whole.new_ rfl rfl) _) (by omega))
    have BB := Lib.hid (show Below wb.heap.size wb ((wb.drew.alloc (.cells (u8s z64b).toArray 5)).alloc (.cells (u8s z64b).toArray 5)) from (((below_draws (Below.refl _ _) 1).alloc (by exact Nat.le_refl _) _).alloc (by simp) _))
    go_wp2_with fail
    go_loopw [8, 9] (fun i _ wr => ∃ k : Nat, k ≤ 64 ∧ i = .int .i64 k ∧ Own wr wb.heap.size (.slice (some ⟨(wb.heap.size + 1), 0, none⟩) 64 64) (laidX L 54 64 k) ∧ Own wr wb.heap.size (.slice (some ⟨wb.heap.size, 0, none⟩) 64 64) (laidX L 92 64 k) ∧ Below wb.heap.size wb wr) (fun i _ _ => 64 - (intOf i).toNat)
    case atStart => exact ⟨0, by omega, rfl, by rw [laidX_zero]; exact OI.out, by rw [laidX_zero]; exact OO.out, BB.out⟩
    case round =>
      obtain ⟨k, hk, rfl, oi, oo, hbel⟩ := hrel
      clear OI OO BB
      by_cases hlt : k < 64
      · have hli := laidX_length 54 HLL.out (Nat.le_of_lt hlt)
        have hlo := laidX_length 92 HLL.out (Nat.le_of_lt hlt)
        have ci := oi.cell hli k hlt
        have fi := oi.free hli k
        have co := oo.cell hlo k hlt
        have fo := oo.free hlo k
        have si := oi.set hli k (xb (L.getD k 0) 54)
        rw [laidX_set 54 HLL.out hlt] at si
        have so := oo.set hlo k (xb (L.getD k 0) 92)
        rw [laidX_set 92 HLL.out hlt] at so
        have xi : bits .xor .u8 (L.getD k 0) 54 = xb (L.getD k 0) 54 := rfl
        have xo : bits .xor .u8 (L.getD k 0) 92 = xb (L.getD k 0) 92 := rfl
        have gi1 : wr.grownBy (wr.setCell ⟨(wb.heap.size + 1), k, none⟩ (.int .u8 (xb (L.getD k 0) 54))) (some ((wb.heap.size + 1))) := only_set ⟨rfl, rfl, rfl, Nat.le_refl _, fun _ _ _ => rfl⟩ _ _
        have oo1 := oo.keep gi1 (.inr (by simp [Value.ownBlock]))
        have si1 := si.keep (only_set (g := wb.heap.size) ⟨rfl, rfl, rfl, Nat.le_refl _, fun _ _ _ => rfl⟩ k (.int .u8 (xb (L.getD k 0) 92))) (.inr (by simp [Value.ownBlock]))
        have so1 := oo1.set hlo k (xb (L.getD k 0) 92)
        rw [laidX_set 92 HLL.out hlt] at so1
        have co1 := oo1.cell hlo k hlt
        have fo1 := oo1.free hlo k
        have bb1 := (hbel.setCell (p := ⟨(wb.heap.size + 1), k, none⟩) (by show wb.heap.size ≤ (wb.heap.size + 1); omega) (.int .u8 (xb (L.getD k 0) 54))).setCell (p := ⟨wb.heap.size, k, none⟩) (by show wb.heap.size ≤ wb.heap.size; omega) (.int .u8 (xb (L.getD k 0) 92))
        clear oi oo si so oo1 gi1 co fo
        by_cases hkl : k < 32
        · obtain ⟨cb, ce, hca, hcc⟩ := cell_of' (HKD.out.later hbel) (i := k) (by rw [HKN.out]; exact hkl)
          have hLk : L.getD k 0 = (digest K).getD k 0 := by rw [← HLO.out]; exact onto_low (by rw [HKN.out]; exact hkl)
          rw [← hLk] at hcc
          injection hca with hca; injection hca with hca1 hca2; subst hca1; subst hca2; rw [Nat.zero_add] at hcc
          generalize xb (L.getD k 0) 54 = zi at *
          generalize xb (L.getD k 0) 92 = zo at *
          generalize L.getD k 0 = x at *
          clear hLk
          generalize (laidX L 54 64 k).getD k 0 = y1 at ci
          generalize (laidX L 92 64 k).getD k 0 = y2 at co1
          have SI := Lib.hid si1
          have SO := Lib.hid so1
          have BB1 := Lib.hid bb1
          clear si1 so1 bb1 hbel hli hlo
          go_wp2_with fail
          exact ⟨⟨k + 1, by omega, by go_num, SI.out, SO.out, BB1.out⟩, by simp [intOf]; omega⟩
        · have hLk : L.getD k 0 = 0 := by rw [← HLO.out]; exact onto_high (by rw [HKN.out]; omega)
          rw [hLk] at xi xo si1 so1 bb1 co1 fo1
          clear hLk
          generalize xb 0 54 = zi at *
          generalize xb 0 92 = zo at *
          generalize (laidX L 54 64 k).getD k 0 = y1 at ci
          generalize (laidX L 92 64 k).getD k 0 = y2 at co1
          have SI := Lib.hid si1
          have SO := Lib.hid so1
          have BB1 := Lib.hid bb1
          clear si1 so1 bb1 hbel hli hlo
          go_wp2_with fail
          exact ⟨⟨k + 1, by omega, by go_num, SI.out, SO.out, BB1.out⟩, by simp [intOf]; omega⟩
      · obtain rfl : k = 64 := by omega
        rw [laidX_full 54 HLL.out] at oi
        rw [laidX_full 92 HLL.out] at oo
        have hx5 : (xored L 54).length = 64 := by rw [xored_length, HLL.out]
        have hx9 : (xored L 92).length = 64 := by rw [xored_length, HLL.out]
        have r1 := H1.out.later (HBB.out.trans (hbel.mono HBB.out.size))
        obtain ⟨v3, w3, run3, own3, bel3, gro3, _⟩ := append_row oi a1 n1 cap1 l r1.bytes r1.length (fun e => (r1.nil e).2) (by rw [hx5]; omega) hbel.size
        obtain ⟨A3, c3, hv3, _, _, f3, f4, _, _⟩ := own3.form
        have hl3 : (xored L 54 ++ l).length = 64 + n1 := by rw [List.length_append, hx5, r1.length]
        rw [hl3] at hv3 f3
        subst hv3
        have oo3 := oo.keep gro3 (.inr (by simp [Value.ownBlock]))
        have b3 := hbel.trans bel3
        have Run3 := Lib.hid run3
        have Q3 := Lib.hid (quick_any A3 (xored L 54 ++ l) (64 + n1) c3 w3 f4 ((xored_byte HLY.out (by omega)).append H1.out.byte) hl3 (fun e => (f3 e).2) (by omega))
        rw [HII.out] at Q3
        have OO3 := Lib.hid oo3
        have B3 := Lib.hid b3
        clear run3 own3 bel3 gro3 f3 f4 oo3 b3 oi oo hl3 r1 hx5
        go_wp2_with (first
          | (at_builtin; refine wpList_append_run (.tmp 41) (.tmp 42) _ _ rfl rfl rfl rfl rfl Run3.out ?_)
          | fail)
        refine Q3.out.mono ?_
        rintro e w4 ⟨rfl, h4⟩
        have oo4 := OO3.out.later h4
        have b4 := B3.out.trans (h4.mono B3.out.size)
        have OO4 := Lib.hid oo4
        have B4 := Lib.hid b4
        clear oo4 b4 h4 OO3 B3 Q3 Run3
        go_wp2_with (first
          | ((with_reducible show wpList _ _ _ _ _ _); refine wpList_store_as rfl 25 (.tmp 10) (.tmp 44) rfl w4.heap.size 0 (u8s I).toArray rfl rfl (by exact (Whole.new_ (l := u8s z32) rfl rfl).there _ _ (by rw [u8s_size, HIL.out]; exact Nat.le_refl 32)) HI32.out (u8s_one _) ?_; intro w5 hw5; have L5 := Lib.hid (laid hw5 rfl (by rw [u8s_length, HIL.out]; rfl)); clear hw5; have O5 := Lib.hid (OO4.out.later L5.out.2); have B5 := Lib.hid (B4.out.trans (L5.out.2.mono B4.out.size)); obtain ⟨v6, w6, run6, own6, bel6, _, _⟩ := append_row O5.out (some ⟨w4.heap.size, 0, none⟩) 32 32 I (Leads.of_whole (o := 0) (n := 32) L5.out.1 (by rw [List.drop_zero, List.take_of_length_le (by rw [u8s_length, HIL.out]; exact Nat.le_refl _)])) HIL.out (fun e => by cases e) (by rw [hx9]; omega) B5.out.size; obtain ⟨A6, c6, hv6, _, _, f3, f4, _, _⟩ := own6.form; have hl6 : (xored L 92 ++ I).length = 96 := (by rw [List.length_append, hx9, HIL.out]); rw [hl6] at hv6 f3; subst hv6; have B6 := Lib.hid (B5.out.trans bel6); have Run6 := Lib.hid run6; have Q6 := Lib.hid (quick_any A6 (xored L 92 ++ I) 96 c6 w6 f4 ((xored_byte HLY.out (by omega)).append HIY.out) hl6 (fun e => (f3 e).2) (by omega)); clear run6 own6 bel6 f3 f4 hl6)
          | (at_builtin; refine wpList_append_run (.tmp 45) (.tmp 46) _ _ rfl rfl rfl rfl rfl Run6.out ?_)
          | fail)
        refine Q6.out.mono ?_
        rintro e w7 ⟨rfl, h7⟩
        rw [HTG.out]
        have b7 := B6.out.trans (h7.mono B6.out.size)
        have o7 := HOB.out.kept b7
        have bw7 := HBB.out.trans (b7.mono HBB.out.size)
        have hth : w7.there w.heap.size 0 (u8s T).toArray.size := o7.there _ _ (by rw [u8s_size, HTL.out]; exact Nat.le_refl 32)
        have k8 := o7.lay (u8s T) 0 (by rw [u8s_length, HTL.out]; exact Nat.le_refl 32)
        rw [lay_all _ _ (by rw [u8s_length, u8s_length, HTL.out]; rfl)] at k8
        have b8 := below_lay (u8s T) w.heap.size 0 bw7 (Nat.le_refl _)
        have HTH := Lib.hid hth
        have K8 := Lib.hid k8
        have B8 := Lib.hid b8
        clear h7 b7 o7 bw7 hth k8 b8
        go_wp2_with (first
          | ((with_reducible show wpList _ _ _ _ _ _); refine wpList_store_mid rfl 25 (.tmp 4) (.tmp 48) rfl w.heap.size 0 (u8s T).toArray rfl rfl HTH.out HI32T.out (u8s_one _) ?_)
          | fail)
        exact bodyPost_ret (results_cell_row rfl _ _ w.heap.size 25 (u8s T).toArray (0, 0) _ rfl K8.out Tryd.underlying25 rfl HI32T.out) rfl ⟨rfl, B8.out⟩

theorem rMac_any (a0 : Option Addr) (K : List Int) (n0 cap0 : Nat) (a1 : Option Addr) (l : List Int) (n1 cap1 : Nat) (w : World) (h0 : Row w a0 n0 cap0 K) (h1 : Row w a1 n1 cap1 l) (hn0 : n0 ≤ 5000) (hn1 : n1 ≤ 5000) :
    Calls Tryd.prog 14 #[.slice a0 n0 cap0, .slice a1 n1 cap1] w fun e w' => e = .returned (.agg (u8s (tagOf K l)).toArray) ∧ Below w.heap.size w w' := by
  by_cases h : 64 < n0
  · exact rMac_long a0 K n0 cap0 a1 l n1 cap1 w h0 h1 h hn0 hn1
  · exact rMac_short a0 K n0 cap0 a1 l n1 cap1 w h0 h1 h hn1
end Go.Proofs.YtchbfcegonlhoaaDoor.sha
