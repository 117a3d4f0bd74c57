/-
  CONTRACT of scan.Front (P7.1). Written by wip/tools/scan.py.
-/
import Derived.Test.YtodajceiadbpeaaDoorScFind
namespace Go.Proofs.YtodajceiadbpeaaDoor.scan
open Go.RowKit Go.Proofs.YtodajceiadbpeaaDoor.disk Go.Proofs.YtodajceiadbpeaaDoor.recd
set_option linter.unusedVariables false

set_option maxRecDepth 100000 in
set_option maxHeartbeats 2000000 in
theorem Front_any (a : Option Addr) (n cap : Nat) (l : List Int) (w : World) (hT : crc.Tab w) (hl : Leads w a l) (hb : Byte l) (hn : l.length = n) (hc : n ≤ cap) (hm : n ≤ 1000000000) :
    Calls Tryd.prog 11 #[.slice a n cap] w (MadeF fS w (front l 0)) := by
  have HB := Lib.hid hb
  have HN := Lib.hid hn
  have HL := Lib.hid hl
  have HT := Lib.hid hT
  clear hb hn hl hT
  go_enter Tryd.func11, Tryd.ntmps11
  go_wp2_with fail
  go_loopw [4, 5] (fun v p wr => ∃ (fs : List Fd) (q : Nat), p = .int .i64 (q : Int) ∧ q ≤ n ∧ fs.length ≤ q ∧ (fs ++ (front l q).1 = (front l 0).1 ∧ (front l q).2 = (front l 0).2) ∧ GrowS fS w fs v wr) (fun _ p _ => ((n : Int) - intOf p).toNat)
  case atStart => exact ⟨[], 0, rfl, Nat.zero_le _, Nat.zero_le _, ⟨rfl, rfl⟩, GrowS.start fS w⟩
  case round =>
    obtain ⟨fs, q, rfl, hq, hfq, hr, hg⟩ := hrel
    by_cases hqn : q < n
    · have hqI : (q : Int) < (n : Int) := by omega
      have hsl : ∀ W, (Instr.slice 26 (.slice a n cap) (some (.int .i64 (q : Int))) none none).run Tryd.prog W = .ok (.slice (cutAt a cap q) (n - q) (cap - q)) W := fun W => run_tail a n cap q hq hc W
      have C := Decode_any (cutAt a cap q) (n - q) (cap - q) (l.drop q) wr (HT.out.later hg.below) (leads_tail (HL.out.later hg.below) q (by rw [HN.out]; exact hq) (by rw [HN.out]; exact hc)) (HB.out.drop q) (by rw [List.length_drop, HN.out]) (by omega) (by omega)
      by_cases hz : (dec (l.drop q)).2.2 = 0
      · have hok := dec_ok hz
        have hro := front_ok hz
        rw [List.length_drop, HN.out] at hok
        obtain ⟨⟨⟨k, t, e, o, s, b⟩, m, f⟩, hd⟩ : ∃ x, dec (l.drop q) = x := ⟨_, rfl⟩
        rw [hd] at C hz hok hro
        simp only at hz hok hro
        subst hz
        unfold DecOut decV Rec.val at C
        simp only at C
        have hm1 : 39 ≤ m := hok.1
        have hm2 : q + m ≤ n := by omega
        have HC := Lib.hid C
        have HG := Lib.hid hg
        have HR := Lib.hid hr
        have HRO := Lib.hid hro
        clear C hg hr hd hok hro
        go_wp2_with fail
        refine HC.out.mono ?_
        rintro en w1 ⟨rfl, b1⟩
        have G1 : GrowS fS w fs u4 (w1.alloc (.cells #[.int .i64 k, .int .u32 (t : Int), .int .u64 (e : Int), .int .u64 (o : Int), .int .u64 (s : Int), .string b] 32)) := (HG.out.later b1).later ((Below.refl _ _).alloc (Nat.le_refl _) _)
        obtain ⟨v', w2, r2, g2⟩ := G1.put ⟨q, ⟨k, t, e, o, s, b⟩⟩ (w1.heap.size + 1) 1 (by simp) (by omega)
        have R2 := Lib.hid r2
        have fin : ∃ (fs : List Fd) (q2 : Nat), Value.int .i64 ((q : Int) + (m : Int)) = .int .i64 (q2 : Int) ∧ q2 ≤ n ∧ fs.length ≤ q2 ∧ (fs ++ (front l q2).1 = (front l 0).1 ∧ (front l q2).2 = (front l 0).2) ∧ GrowS fS w fs v' w2 := ⟨_, q + m, by rw [Int.natCast_add], hm2, by rw [List.length_append]; simp; omega, ⟨by rw [← HR.out.1, HRO.out]; simp, by rw [← HR.out.2, HRO.out]⟩, g2⟩
        have FIN := Lib.hid fin
        clear r2 g2 G1 HG b1 HC HR HRO fin
        go_wp2_with ((with_reducible show wpList _ _ _ (⟨some 28, _, _, _, _, _⟩ :: _) _ _); refine wpList_append_of 33 33 (.tmp 23) (.tmp 27) _ _ rfl rfl rfl rfl rfl R2.out ?_)
        refine ⟨FIN.out, ?_⟩
        show ((n : Int) - ((q : Int) + (m : Int))).toNat < ((n : Int) - (q : Int)).toNat
        omega
      · have hro := front_no hz
        have HG := Lib.hid hg
        obtain ⟨⟨⟨k, t, e, o, s, b⟩, m, f⟩, hd⟩ : ∃ x, dec (l.drop q) = x := ⟨_, rfl⟩
        rw [hd] at C hz
        simp only at hz
        unfold DecOut decV Rec.val at C
        simp only at C
        have HC := Lib.hid C
        have hend : fs = (front l 0).1 ∧ q = (front l 0).2 := by
          rw [hro] at hr
          exact ⟨by rw [← hr.1, List.append_nil], hr.2⟩
        have HE := Lib.hid hend
        clear C hg hr hd hro hend
        go_wp2_with fail
        refine HC.out.mono ?_
        rintro en w1 ⟨rfl, b1⟩
        have G1 : GrowS fS w fs u4 (w1.alloc (.cells #[.int .i64 k, .int .u32 (t : Int), .int .u64 (e : Int), .int .u64 (o : Int), .int .u64 (s : Int), .string b] 32)) := (HG.out.later b1).later ((Below.refl _ _).alloc (Nat.le_refl _) _)
        have fin : MadeF fS w (front l 0) (.returned (.tuple #[u4, .int .i64 (q : Int)])) (w1.alloc (.cells #[.int .i64 k, .int .u32 (t : Int), .int .u64 (e : Int), .int .u64 (o : Int), .int .u64 (s : Int), .string b] 32)) := ⟨_, by rw [← HE.out.2], by rw [← HE.out.1]; exact G1⟩
        have FIN := Lib.hid fin
        clear G1 HG b1 HC HE fin
        go_wp2_with fail
        exact bodyPost_ret (v := .tuple #[u4, .int .i64 (q : Int)]) (by simp [results, Tryd.results11]) rfl FIN.out
    · have hz : (dec (l.drop q)).2.2 ≠ 0 := dec_short (by rw [List.length_drop, HN.out]; omega)
      have hend : fs = (front l 0).1 ∧ q = (front l 0).2 := by
        rw [front_no hz] at hr
        exact ⟨by rw [← hr.1, List.append_nil], hr.2⟩
      have fin : MadeF fS w (front l 0) (.returned (.tuple #[u4, .int .i64 (q : Int)])) wr := ⟨_, by rw [← hend.2], by rw [← hend.1]; exact hg⟩
      have FIN := Lib.hid fin
      clear hg hr hz hend fin
      have hqI : ¬ (q : Int) < (n : Int) := by omega
      go_wp2_with fail
      exact bodyPost_ret (v := .tuple #[u4, .int .i64 (q : Int)]) (by simp [results, Tryd.results11]) rfl FIN.out
end Go.Proofs.YtodajceiadbpeaaDoor.scan
