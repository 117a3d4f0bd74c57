/-
  CONTRACT of the reference's All (P7.1). Written by wip/tools/scan.py.
-/
import Derived.Test.YtodajceiadbpeaaDoorScFind
import Derived.Test.YtodajceiadbpeaaDoorRcRAll
namespace Go.Proofs.YtodajceiadbpeaaDoor.scan
open Go.RowKit Go.Proofs.YtodajceiadbpeaaDoor.disk Go.Proofs.YtodajceiadbpeaaDoor.recd
set_option linter.unusedVariables false

set_option maxRecDepth 100000 in
set_option maxHeartbeats 2000000 in
theorem RAll_any (a : Option Addr) (n cap : Nat) (l : List Int) (w : World) (hl : Leads w a l) (hb : Byte l) (hn : l.length = n) (hc : n ≤ cap) (hm : n ≤ 1000000000) :
    Calls Tryd.prog 16 #[.slice a n cap] w (MadeS fR w (rest l 0)) := by
  have HB := Lib.hid hb
  have HN := Lib.hid hn
  have HL := Lib.hid hl
  clear hb hn hl
  go_enter Tryd.func16, Tryd.ntmps16
  go_wp2_with fail
  go_loopw [3, 4] (fun v p wr => ∃ (fs : List Fd) (q : Nat), p = .int .i64 (q : Int) ∧ q ≤ n ∧ fs.length ≤ q ∧ (fs ++ rest l q = rest l 0) ∧ GrowS fR w fs v wr) (fun _ p _ => ((n : Int) - intOf p).toNat)
  case atStart => exact ⟨[], 0, rfl, Nat.zero_le _, Nat.zero_le _, rfl, GrowS.start fR w⟩
  case round =>
    obtain ⟨fs, q, rfl, hq, hfq, hr, hg⟩ := hrel
    by_cases hqn : q < n
    · have hqI : (q : Int) < (n : Int) := by omega
      have hsl : ∀ W, (Instr.slice 26 (.slice a n cap) (some (.int .i64 (q : Int))) none none).run Tryd.prog W = .ok (.slice (cutAt a cap q) (n - q) (cap - q)) W := fun W => run_tail a n cap q hq hc W
      have C := RDecode_any (cutAt a cap q) (n - q) (cap - q) (l.drop q) wr (leads_tail (HL.out.later hg.below) q (by rw [HN.out]; exact hq) (by rw [HN.out]; exact hc)) (HB.out.drop q) (by rw [List.length_drop, HN.out]) (by omega) (by omega)
      by_cases hz : (dec (l.drop q)).2.2 = 0
      · have hok := dec_ok hz
        have hro := rest_ok (by rw [HN.out]; exact hqn) hz
        rw [List.length_drop, HN.out] at hok
        obtain ⟨⟨⟨k, t, e, o, s, b⟩, m, f⟩, hd⟩ : ∃ x, dec (l.drop q) = x := ⟨_, rfl⟩
        rw [hd] at C hz hok hro
        simp only at hz hok hro
        subst hz
        unfold DecOut decV Rec.val at C
        simp only at C
        have hm1 : 39 ≤ m := hok.1
        have hm2 : q + m ≤ n := by omega
        have HC := Lib.hid C
        have HG := Lib.hid hg
        have HR := Lib.hid hr
        have HRO := Lib.hid hro
        clear C hg hr hd hok hro
        go_wp2_with fail
        refine HC.out.mono ?_
        rintro en w1 ⟨rfl, b1⟩
        have G1 : GrowS fR w fs u3 (w1.alloc (.cells #[.int .i64 k, .int .u32 (t : Int), .int .u64 (e : Int), .int .u64 (o : Int), .int .u64 (s : Int), .string b] 32)) := (HG.out.later b1).later ((Below.refl _ _).alloc (Nat.le_refl _) _)
        obtain ⟨v', w2, r2, g2⟩ := G1.put ⟨q, ⟨k, t, e, o, s, b⟩⟩ (w1.heap.size + 1) 1 (by simp) (by omega)
        have R2 := Lib.hid r2
        have fin : ∃ (fs : List Fd) (q2 : Nat), Value.int .i64 ((q : Int) + (m : Int)) = .int .i64 (q2 : Int) ∧ q2 ≤ n ∧ fs.length ≤ q2 ∧ (fs ++ rest l q2 = rest l 0) ∧ GrowS fR w fs v' w2 := ⟨_, q + m, by rw [Int.natCast_add], hm2, by rw [List.length_append]; simp; omega, by rw [← HR.out, HRO.out]; simp, g2⟩
        have FIN := Lib.hid fin
        clear r2 g2 G1 HG b1 HC HR HRO fin
        go_wp2_with ((with_reducible show wpList _ _ _ (⟨some 27, _, _, _, _, _⟩ :: _) _ _); refine wpList_append_of 36 36 (.tmp 22) (.tmp 26) _ _ rfl rfl rfl rfl rfl R2.out ?_)
        refine ⟨FIN.out, ?_⟩
        show ((n : Int) - ((q : Int) + (m : Int))).toNat < ((n : Int) - (q : Int)).toNat
        omega
      · have hro := rest_no (by rw [HN.out]; exact hqn) hz
        have HG := Lib.hid hg
        obtain ⟨⟨⟨k, t, e, o, s, b⟩, m, f⟩, hd⟩ : ∃ x, dec (l.drop q) = x := ⟨_, rfl⟩
        rw [hd] at C hz
        simp only at hz
        unfold DecOut decV Rec.val at C
        simp only at C
        have HC := Lib.hid C
        have HR := Lib.hid (hro ▸ hr)
        clear C hg hr hd hro
        go_wp2_with fail
        refine HC.out.mono ?_
        rintro en w1 ⟨rfl, b1⟩
        have G1 : GrowS fR w fs u3 (w1.alloc (.cells #[.int .i64 k, .int .u32 (t : Int), .int .u64 (e : Int), .int .u64 (o : Int), .int .u64 (s : Int), .string b] 32)) := (HG.out.later b1).later ((Below.refl _ _).alloc (Nat.le_refl _) _)
        have fin : ∃ (fs : List Fd) (q2 : Nat), Value.int .i64 ((q : Int) + 1) = .int .i64 (q2 : Int) ∧ q2 ≤ n ∧ fs.length ≤ q2 ∧ (fs ++ rest l q2 = rest l 0) ∧ GrowS fR w fs u3 (w1.alloc (.cells #[.int .i64 k, .int .u32 (t : Int), .int .u64 (e : Int), .int .u64 (o : Int), .int .u64 (s : Int), .string b] 32)) := ⟨fs, q + 1, by rw [Int.natCast_add]; rfl, by omega, by omega, HR.out, G1⟩
        have FIN := Lib.hid fin
        clear G1 HG b1 HC HR fin
        go_wp2_with fail
        refine ⟨FIN.out, ?_⟩
        show ((n : Int) - ((q : Int) + 1)).toNat < ((n : Int) - (q : Int)).toNat
        omega
    · have e : rest l q = [] := rest_end (by rw [HN.out]; omega)
      rw [e, List.append_nil] at hr
      rw [hr] at hg
      have HG := Lib.hid hg
      clear hg hr e
      have hqI : ¬ (q : Int) < (n : Int) := by omega
      go_wp2_with fail
      go_ret
      exact ⟨_, rfl, HG.out⟩
end Go.Proofs.YtodajceiadbpeaaDoor.scan
