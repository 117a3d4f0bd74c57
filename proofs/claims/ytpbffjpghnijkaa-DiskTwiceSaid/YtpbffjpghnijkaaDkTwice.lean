/-
  THE WALK OF 'stillroomlaw5.DiskTwice'. Written by wip/tools/twicet.py.
-/
import Derived.Test.YtpbffjpghnijkaaDkTwiceT
import Derived.Deep.DeepCutAuto
namespace Go.Proofs.Ytpbffjpghnijkaa.disk
open Go.RowKit Go.Maps
set_option linter.unusedVariables false

theorem Bools.later {w w' : World} {a : Option Addr} {n : Nat} {l : List Bool} (h : Bools w a n l) (hb : Below w.heap.size w w') : Bools w' a n l := h.turned (R := fun _ => False) (Turn.of_below hb) (fun _ _ _ _ e => e)

set_option maxRecDepth 100000 in
set_option maxHeartbeats 8000000 in
theorem twice_any (w : World) (a0 : Option Addr) (len0 cap0 : Nat) (os : Nat → OpA) (h0 : OpRow w a0 len0 cap0 os) (nn : Int) (a : Option Addr) (len cap : Nat) (keep : List Bool) (hk : BRow w a len cap keep) (torn : Int) :
    Calls Try.prog 9 #[.slice a0 len0 cap0, .int .i64 nn, .slice a len cap, .int .i64 torn] w fun e w' => e = .returned (.bool true) ∧ Below w.heap.size w w' := by
  have H0 := Lib.hid h0
  have HK := Lib.hid hk
  have hm0 := h0.most
  have hm1 := hk.most
  have hm2 := hk.le
  clear h0 hk
  go_enter Try.func9, Try.ntmps9
  go_wp2_with fail
  refine (begun_any w).mono ?_
  rintro e w1 ⟨rfl, h1⟩
  have H1 := Lib.hid h1
  clear h1
  go_wp2_with fail
  refine (new_any w1 4000).mono ?_
  rintro e w2 ho
  obtain ⟨p, rfl, h2, _⟩ := held_new (W := w) (X := fun _ => False) (fun _ e => e.elim) H1.out ho
  have H2 := Lib.hid h2
  clear ho h2
  go_wp2_with fail
  go_loopw [11] (fun iv wr => ∃ (q n : Nat) (S : St), iv = .int .i64 (q : Int) ∧ q ≤ len0 ∧ q ≤ 20 ∧ n ≤ 2 * q ∧ Held w (fun _ => False) wr p S n) (fun iv _ => ((len0 : Int) - intOf iv).toNat)
  case atStart => exact ⟨0, 0, _, rfl, Nat.zero_le _, Nat.zero_le _, Nat.le_refl _, H2.out⟩
  case round =>
    obtain ⟨q, n', S, rfl, hq1, hq2, hn, hh⟩ := hrel
    have HH := Lib.hid hh
    clear hh
    by_cases hl : q < len0
    · by_cases h20 : q < 20
      · obtain ⟨b, off, rfl, hcs⟩ : ∃ b off, a0 = some ⟨b, off, none⟩ ∧ ∀ i, i < len0 → ∀ j v, (os i).cells[j]? = some v → wr.cell? ⟨b, off + i * 7 + j, none⟩ = some v := by
          rcases (H0.out.later HH.out.below).cells with h | h
          · omega
          · exact h
        have hc := hcs q hl
        have hf := H0.out.fit q hl
        obtain ⟨⟨kd, n1, mm, nm, tt, ⟨ba, bn, bc, bl⟩, ⟨ka2, kn2, kc2, kl2⟩⟩, hx⟩ : ∃ x, os q = x := ⟨_, rfl⟩
        rw [hx] at hc hf
        refine twice_round w wr b off len0 cap0 p q n' S kd n1 mm nm tt ba ka2 bn bc kn2 kc2 bl hl h20 (by omega) hm0 hf.nm hf.tt hf.row hf.keep hf.nil (hc 0 _ rfl) (hc 1 _ rfl) (hc 2 _ rfl) (hc 3 _ rfl) (hc 4 _ rfl) (hc 5 _ rfl) (hc 6 _ rfl) HH.out _ ?_
        intro w' S' n2 hn2 hh' u12 u26 u27 u28 u29 u30 u31 u32 u33 u34 u35 u36 u37 u38 u39 u40 u41 u42 u43 u44 u45 u46 u47 u48 u49 u50 u51 u52 u53 u54 u55 u56 u57 u58 u59 u60 u61 u62 u63 u64 u65 u66 u67 u68
        go_roundw
        case rel => exact ⟨_, _, _, _, _, _, _, _, _, _, _, _, _, _, _, _, _, _, _, _, _, _, _, _, _, _, _, _, _, _, _, _, _, _, _, _, _, _, _, _, _, _, _, _, _, ⟨q + 1, n2, S', by rw [Int.natCast_add]; rfl, by omega, by omega, by omega, hh'⟩, rfl⟩
        case measure =>
          show ((len0 : Int) - ((q : Int) + 1)).toNat < ((len0 : Int) - (q : Int)).toNat
          omega
      · have hlI : (q : Int) < (len0 : Int) := by omega
        have h20I : ¬ (q : Int) < 20 := by omega
        by_cases hk60 : 60 < len
        · have hk60I : (60 : Int) < (len : Int) := by omega
          obtain ⟨hsl, hbl⟩ := HK.out.front 60 hk60
          have hsl' : ∀ w', (Instr.slice 23 (.slice a len cap) none (some (.int .i64 60)) none).run Try.prog w' = .ok (.slice a 60 cap) w' := hsl
          have HBL := Lib.hid hbl
          clear hsl hbl
          go_upto_region 20 with fail
          all_goals exact twice_tail w wr p n' S nn torn a 60 cap (keep.take 60) HH.out (by omega) (HBL.out.later HH.out.below) _ (by assumption)
        · have hk60I : ¬ (60 : Int) < (len : Int) := by omega
          go_upto_region 20 with fail
          all_goals exact twice_tail w wr p n' S nn torn a len cap keep HH.out (by omega) (HK.out.bools.later HH.out.below) _ (by assumption)
    · have hlI : ¬ (q : Int) < (len0 : Int) := by omega
      by_cases hk60 : 60 < len
      · have hk60I : (60 : Int) < (len : Int) := by omega
        obtain ⟨hsl, hbl⟩ := HK.out.front 60 hk60
        have hsl' : ∀ w', (Instr.slice 23 (.slice a len cap) none (some (.int .i64 60)) none).run Try.prog w' = .ok (.slice a 60 cap) w' := hsl
        have HBL := Lib.hid hbl
        clear hsl hbl
        go_upto_region 20 with fail
        all_goals exact twice_tail w wr p n' S nn torn a 60 cap (keep.take 60) HH.out (by omega) (HBL.out.later HH.out.below) _ (by assumption)
      · have hk60I : ¬ (60 : Int) < (len : Int) := by omega
        go_upto_region 20 with fail
        all_goals exact twice_tail w wr p n' S nn torn a len cap keep HH.out (by omega) (HK.out.bools.later HH.out.below) _ (by assumption)
end Go.Proofs.Ytpbffjpghnijkaa.disk
