/-
  THE WALK OF 'sha.spread': of a block's bytes the schedule of its 64 rounds.
-/
import Derived.Test.YtchbfcegonlhoaaDoorShaRot
import Derived.Test.YtchbfcegonlhoaaDoorShaCells
import Derived.BigRegion
import Derived.Deep.QuietTactic
import Derived.BigQuiet
import Derived.IntWalk
namespace Go.Proofs.YtchbfcegonlhoaaDoor.sha
open Go.RowKit

set_option maxRecDepth 100000 in
set_option maxHeartbeats 1000000 in
theorem spread_any (b : List Int) (hb : b.length = 64) (hy : Byte b) (w : World) :
    Calls Tryd.prog 37 #[.agg (u8s b).toArray] w fun e w' => e = .returned (.agg (u32s (sched b)).toArray) ∧ Below w.heap.size w w' := by
  have HB := Lib.hid hb; clear hb
  have HY := Lib.hid hy; clear hy
  go_enter Tryd.func37, Tryd.ntmps37
  go_wp2_with fail
  go_loopw [4, 8] (fun _ i wr => ∃ k : Nat, k ≤ 16 ∧ i = .int .i64 k ∧ Whole wr w.heap.size 48 (u8s b) ∧ Whole wr (w.heap.size + 1) 44 (u32s (filled [])) ∧ Whole wr (w.heap.size + 1 + 1) 44 (u32s (filled (firstN b k))) ∧ Below w.heap.size w wr) (fun _ i _ => 16 - (intOf i).toNat)
  case atStart =>
    refine ⟨0, by omega, rfl, ?_, ?_, ?_, ?_⟩
    · exact ((Whole.new_ rfl rfl).more _).more _
    · exact (Whole.new_ (by simp) (by rfl)).more _
    · exact Whole.new_ (by simp) (by rfl)
    · exact (((Below.refl _ _).alloc (Nat.le_refl _) _).alloc (by simp) _).alloc (by simp; omega) _
  case round =>
    obtain ⟨k, hk, rfl, h1, h2, h3, hbel⟩ := hrel
    by_cases hlt : k < 16
    · have b0 := HY.out.at (i := 4 * k) (by rw [HB.out]; omega)
      have b1 := HY.out.at (i := 4 * k + 1) (by rw [HB.out]; omega)
      have b2 := HY.out.at (i := 4 * k + 2) (by rw [HB.out]; omega)
      have b3 := HY.out.at (i := 4 * k + 3) (by rw [HB.out]; omega)
      have c0 : wr.cell? ⟨w.heap.size, 4 * k, none⟩ = _ := (h1.at_ _).trans (u8s_at b (by rw [HB.out]; omega))
      have c1 : wr.cell? ⟨w.heap.size, 4 * k + 1, none⟩ = _ := (h1.at_ _).trans (u8s_at b (by rw [HB.out]; omega))
      have c2 : wr.cell? ⟨w.heap.size, 4 * k + 2, none⟩ = _ := (h1.at_ _).trans (u8s_at b (by rw [HB.out]; omega))
      have c3 : wr.cell? ⟨w.heap.size, 4 * k + 3, none⟩ = _ := (h1.at_ _).trans (u8s_at b (by rw [HB.out]; omega))
      have HF := Lib.hid (firstN_succ b k)
      have hl := firstN_length b k
      have HW := Lib.hid (W_word b0 b1 b2 b3)
      generalize b.getD (4 * k) 0 = x0 at *
      generalize b.getD (4 * k + 1) 0 = x1 at *
      generalize b.getD (4 * k + 2) 0 = x2 at *
      generalize b.getD (4 * k + 3) 0 = x3 at *
      have e1 : bits .or .u32 (x0 * 16777216) (x1 * 65536) = x0 * 16777216 + x1 * 65536 := or_join 24 rfl (by omega) (by omega) (by omega) (by omega)
      have e2 : bits .or .u32 (x0 * 16777216 + x1 * 65536) (x2 * 256) = x0 * 16777216 + x1 * 65536 + x2 * 256 := or_join 16 rfl (by omega) (by omega) (by omega) (by omega)
      have e3 : bits .or .u32 (x0 * 16777216 + x1 * 65536 + x2 * 256) x3 = W (word x0 x1 x2 x3) := by
        rw [HW.out]; exact or_join 8 rfl (by omega) (by omega) (by omega) (by omega)
      generalize word x0 x1 x2 x3 = y at *
      have hd : wr.cell? ⟨w.heap.size + 1 + 1, k, none⟩ = _ := (h3.at_ _).trans (u32s_at _ (by rw [filled_length (by omega)]; omega))
      have hf : wr.frozen? ⟨w.heap.size + 1 + 1, k, none⟩ = false := h3.free _
      generalize (filled (firstN b k)).getD k 0 = z at hd
      have H1 := Lib.hid h1
      have H2 := Lib.hid h2
      have H3 := Lib.hid h3
      have HBel := Lib.hid hbel
      have HL := Lib.hid hl
      clear h1 h2 h3 hbel hl
      go_wp2_with fail
      go_region
      go_wp2
      go_roundw
      case rel =>
        refine ⟨k + 1, by omega, by go_num, ?_, ?_, ?_, ?_⟩
        · exact H1.out.apart (p := ⟨w.heap.size + 1 + 1, k, none⟩) (by simp; omega) _
        · exact H2.out.apart (p := ⟨w.heap.size + 1 + 1, k, none⟩) (by simp) _
        · have h := H3.out.put k (.int .u32 (W y))
          have hs := filled_set (l := firstN b k) (by rw [HL.out]; omega) y
          rw [HL.out] at hs
          rw [u32s_set, hs, ← HF.out] at h
          exact h
        · exact (HBel.out.setCell (by simp; omega) _).drew
      case measure => simp [intOf]; omega
    · have hk16 : k = 16 := by omega
      subst hk16
      have H1 := Lib.hid h1
      have H2 := Lib.hid h2
      have H3 := Lib.hid h3
      have HBel := Lib.hid hbel
      clear h1 h2 h3 hbel hlt
      go_wp2_with fail
      obtain ⟨wo, rfl⟩ : ∃ wo : World, wo = wr := ⟨_, rfl⟩
      go_loopw [5, 6, 7] (fun i _ _ wr => ∃ k : Nat, 16 ≤ k ∧ k ≤ 64 ∧ i = .int .i64 k ∧ Whole wr (w.heap.size + 1) 44 (u32s (filled [])) ∧ Whole wr (w.heap.size + 1 + 1) 44 (u32s (filled (spreadN (firstN b 16) (k - 16)))) ∧ Below w.heap.size w wr) (fun i _ _ _ => 64 - (intOf i).toNat)
      case atStart => exact ⟨16, by omega, by omega, rfl, H2.out, H3.out, HBel.out⟩
      case round =>
        obtain ⟨k, hk0, hk, rfl, h2, h3, hbel⟩ := hrel
        clear H1 H2 H3 HBel
        by_cases hlt : k < 64
        · have hl : (spreadN (firstN b 16) (k - 16)).length = k := by rw [spreadN_length, firstN_length]; omega
          have hn : spreadN (firstN b 16) (k + 1 - 16) = spreadN (firstN b 16) (k - 16) ++ [nextWord (spreadN (firstN b 16) (k - 16))] := by
            rw [show k + 1 - 16 = (k - 16) + 1 by omega]; rfl
          generalize spreadN (firstN b 16) (k - 16) = l at *
          have hw : nextWord l = l.getD (k - 16) 0 + far (l.getD (k - 15) 0) + l.getD (k - 7) 0 + near (l.getD (k - 2) 0) := by rw [nextWord, hl]
          have c16 : wr.cell? ⟨w.heap.size + 1 + 1, k - 16, none⟩ = _ := (h3.at_ _).trans (u32s_at _ (by rw [filled_length (by omega)]; omega))
          have c15 : wr.cell? ⟨w.heap.size + 1 + 1, k - 15, none⟩ = _ := (h3.at_ _).trans (u32s_at _ (by rw [filled_length (by omega)]; omega))
          have c7 : wr.cell? ⟨w.heap.size + 1 + 1, k - 7, none⟩ = _ := (h3.at_ _).trans (u32s_at _ (by rw [filled_length (by omega)]; omega))
          have c2 : wr.cell? ⟨w.heap.size + 1 + 1, k - 2, none⟩ = _ := (h3.at_ _).trans (u32s_at _ (by rw [filled_length (by omega)]; omega))
          rw [filled_at (by omega)] at c16 c15 c7 c2
          have hd : wr.cell? ⟨w.heap.size + 1 + 1, k, none⟩ = _ := (h3.at_ _).trans (u32s_at _ (by rw [filled_length (by omega)]; omega))
          have hf : wr.frozen? ⟨w.heap.size + 1 + 1, k, none⟩ = false := h3.free _
          generalize (filled l).getD k 0 = z at hd
          generalize l.getD (k - 16) 0 = x16 at *
          generalize l.getD (k - 15) 0 = x15 at *
          generalize l.getD (k - 7) 0 = x7 at *
          generalize l.getD (k - 2) 0 = x2 at *
          have n1 := W_xor (rotr x2 17) (rotr x2 19)
          have n2 : W x2 / (1024 : Int) = W (x2 >>> 10) := W_shr x2 10
          have n3 := W_xor (rotr x2 17 ^^^ rotr x2 19) (x2 >>> 10)
          have f1 := W_xor (rotr x15 7) (rotr x15 18)
          have f2 : W x15 / (8 : Int) = W (x15 >>> 3) := W_shr x15 3
          have f3 := W_xor (rotr x15 7 ^^^ rotr x15 18) (x15 >>> 3)
          have hN : near x2 = rotr x2 17 ^^^ rotr x2 19 ^^^ x2 >>> 10 := rfl
          have hF : far x15 = rotr x15 7 ^^^ rotr x15 18 ^^^ x15 >>> 3 := rfl
          rw [← hN] at n3
          rw [← hF] at f3
          clear hN hF
          generalize near x2 = xn at *
          generalize far x15 = xf at *
          have a1 := W_add x16 xf
          have a2 := W_add (x16 + xf) x7
          have a3 := W_add (x16 + xf + x7) xn
          rw [← hw] at a3
          have p2 := W_lt x2
          have p7 := W_lt x7
          have p15 := W_lt x15
          have p16 := W_lt x16
          generalize nextWord l = y at *
          have HNx := Lib.hid hn
          have H2 := Lib.hid h2
          have H3 := Lib.hid h3
          have HBel := Lib.hid hbel
          have HL := Lib.hid hl
          clear h2 h3 hbel hl hn hw
          have s2 : IntKind.i64.wrap ((k : Int) - 2) = (k : Int) - 2 := IntWalk.i64_in _ (by omega)
          have s15 : IntKind.i64.wrap ((k : Int) - 15) = (k : Int) - 15 := IntWalk.i64_in _ (by omega)
          have t2 : ((k : Int) - 2).toNat = k - 2 := by omega
          have t15 : ((k : Int) - 15).toNat = k - 15 := by omega
          have l2 : (2 : Int) ≤ (k : Int) := by omega
          have l15 : (15 : Int) ≤ (k : Int) := by omega
          have m2 : ((k : Int) - 2) < 64 := by omega
          have m15 : ((k : Int) - 15) < 64 := by omega
          go_wp2_with fail
          go_quiet ((go_at_call 41; exact right_quiet _ _ (by unfold Turns; decide) _ _))
          go_wp2_with fail
          go_quiet ((go_at_call 41; exact right_quiet2 _ _ (by unfold Turns; decide) _ _ _))
          clear s2 s15 t2 t15 l2 l15 m2 m15
          go_wp2_with fail
          go_region
          go_wp2
          go_roundw
          case rel =>
            refine ⟨k + 1, by omega, by omega, by go_num, ?_, ?_, ?_⟩
            · exact H2.out.apart (p := ⟨w.heap.size + 1 + 1, k, none⟩) (by simp) _
            · have h := H3.out.put k (.int .u32 (W y))
              have hs := filled_set (l := l) (by rw [HL.out]; omega) y
              rw [HL.out] at hs
              rw [u32s_set, hs, ← HNx.out] at h
              exact h
            · exact (below_draws HBel.out _).setCell (by simp; omega) _
          case measure => simp [intOf]; omega
        · have hk64 : k = 64 := by omega
          subst hk64
          have hl : (spreadN (firstN b 16) 48).length = 64 := sched_length b
          rw [show spreadN (firstN b 16) (64 - 16) = sched b from rfl, filled_full (sched_length b)] at h3
          have hi : (Tryd.prog.info? 44).map (·.size) = some (u32s (sched b)).toArray.size := by rw [u32s_size, sched_length]; kernel_rfl
          have h2' := h2.lay (u32s (sched b)) 0 (by simp [u32s_length, sched_length, filled])
          rw [lay_all _ _ (by simp [u32s_length, sched_length, filled])] at h2'
          have hth : wr.there (w.heap.size + 1) 0 (u32s (sched b)).toArray.size := h2.there _ _ (by rw [u32s_size]; simp [u32s_length, sched_length, filled])
          have hone := u32s_one (sched b)
          have hb2 := below_lay (u32s (sched b)) (w.heap.size + 1) 0 hbel (by omega)
          have H2' := Lib.hid h2'
          have HI := Lib.hid hi
          have H3 := Lib.hid h3
          have HT := Lib.hid hth
          have HO := Lib.hid hone
          have HB2 := Lib.hid hb2
          clear h2 h2' hi hl hbel hth hone hb2 h3
          go_wp2_with (first
            | (refine wpList_load_row rfl 44 (.tmp 3) rfl (w.heap.size + 1 + 1) rfl 44 (u32s (sched b)).toArray (0, 0) _ H3.out Tryd.underlying44 rfl HI.out ?_)
            | (refine wpList_store_mid rfl 44 (.tmp 2) (.tmp 96) rfl (w.heap.size + 1) 0 (u32s (sched b)).toArray rfl rfl HT.out HI.out HO.out ?_)
            | fail)
          exact bodyPost_ret (results_cell_row rfl _ _ (w.heap.size + 1) 44 (u32s (sched b)).toArray (0, 0) _ rfl H2'.out Tryd.underlying44 rfl HI.out) rfl ⟨rfl, HB2.out⟩
end Go.Proofs.YtchbfcegonlhoaaDoor.sha
