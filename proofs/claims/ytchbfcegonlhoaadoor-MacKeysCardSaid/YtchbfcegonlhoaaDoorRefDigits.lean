/-
  THE WALK OF the reference's "digits": a number as digits of 16 bits.
-/
import Derived.Test.YtchbfcegonlhoaaDoorRefNum
import Derived.Test.YtchbfcegonlhoaaDoorRefFirst
namespace Go.Proofs.YtchbfcegonlhoaaDoor.sha
open Go.RowKit
theorem u64_info : (Tryd.prog.info? 54).map (fun i => (i.zero, i.size, i.bytes)) = some (some (.int .u64 0), 1, 8) := by kernel_rfl

theorem dig_step {n r : Int} {l : List Int} (h : val l + r * 65536 ^ l.length = n) : val (l ++ [r % 65536]) + r / 65536 * 65536 ^ (l ++ [r % 65536]).length = n := by
  rw [val_snoc, List.length_append, List.length_singleton, Int.pow_succ, Int.mul_comm (65536 ^ l.length) 65536, ← Int.mul_assoc, Int.add_assoc, ← Int.add_mul, show r % 65536 + r / 65536 * 65536 = r by omega]; exact h
theorem dig_few {n r : Int} {l : List Int} (hd : Dig l) (h : val l + r * 65536 ^ l.length = n) (hr : 0 < r) (hn : n < 281474976710656) : l.length < 3 := by
  refine Nat.lt_of_not_le fun hl => ?_
  have h1 : (65536 : Int) ^ 3 ≤ 65536 ^ l.length := by
    obtain ⟨m, hm⟩ : ∃ m, l.length = 3 + m := ⟨l.length - 3, by omega⟩
    rw [hm, Int.pow_add]
    have := pw_pos m
    have h2 : (65536 : Int) ^ 3 * 1 ≤ 65536 ^ 3 * 65536 ^ m := Int.mul_le_mul_of_nonneg_left (by omega) (by decide)
    omega
  have h2 : 1 * (65536 : Int) ^ l.length ≤ r * 65536 ^ l.length := Int.mul_le_mul_of_nonneg_right (by omega) (Int.le_of_lt (pw_pos _))
  have := val_nonneg hd.pos
  have e : (65536 : Int) ^ 3 = 281474976710656 := by decide
  omega

set_option maxHeartbeats 400000 in
theorem digits_any (n : Int) (hn : 0 ≤ n ∧ n < 281474976710656) (w : World) :
    Calls Tryd.prog 39 #[.int .u64 n] w fun e w' => (∃ v, e = .returned v ∧ ∃ l, OwnN 54 .u64 w' w.heap.size v l ∧ Dig l ∧ val l = n ∧ l.length ≤ 3) ∧ Below w.heap.size w w' := by
  obtain ⟨i0, hi, hz0, hz1, hz2⟩ := info_parts u64_info
  have HI := Lib.hid hi
  have HZ0 := Lib.hid hz0
  have HZ1 := Lib.hid hz1
  have HZ2 := Lib.hid hz2
  have HNN := Lib.hid hn
  clear hi hz0 hz1 hz2 hn
  go_enter Tryd.func39, Tryd.ntmps39
  go_wp2_with fail
  go_loopw [0, 3] (fun i v wr => ∃ (r : Int) (l : List Int), i = .int .u64 r ∧ 0 ≤ r ∧ r < 281474976710656 ∧ OwnN 54 .u64 wr w.heap.size v l ∧ Dig l ∧ val l + r * 65536 ^ l.length = n ∧ l.length ≤ 3 ∧ Below w.heap.size w wr) (fun i _ _ => (intOf i).toNat)
  case atStart => exact ⟨n, [], rfl, HNN.out.1, HNN.out.2, OwnN.none_ _ _ _ _, (fun c hc => by cases hc), by simp [val], by simp, Below.refl _ _⟩
  case round =>
    obtain ⟨r, l, rfl, hr0, hr1, hown, hdig, hval, hlen, hbel⟩ := hrel
    obtain ⟨A, c, hv, f1, f2, f3, f4, f5⟩ := hown.form
    obtain ⟨m, hm⟩ : ∃ m, l.length = m := ⟨_, rfl⟩
    rw [hm] at hv f1
    subst hv
    by_cases hr : 0 < r
    · have hm3 : m < 3 := by rw [← hm]; exact dig_few hdig hval hr HNN.out.2
      have hown' : wr.ownsRow w.heap.size 54 1 (.slice A m c) m (ns .u64 l) := by have h := hown; unfold OwnN at h; rwa [hm] at h
      have hv2 := dig_step hval
      have hd2 : Dig (l ++ [r % 65536]) := hdig.append (by intro c hc; rw [List.mem_singleton] at hc; subst hc; omega)
      have HO := Lib.hid hown'
      have HB := Lib.hid hbel
      have HM := Lib.hid hm
      have HV2 := Lib.hid hv2
      have HD2 := Lib.hid hd2
      clear hown' hown hbel hm hv2 hd2 hval hdig f1 f2 f3 f4 f5
      go_wp2_with (first
        | (at_builtin; refine wpList_append_lies _ rfl (.tmp 6) (.tmp 9) 67 rfl w.heap.size 54 i0 (.int .u64 0) 1 8 Tryd.underlying67 HI.out HZ0.out HZ1.out HZ2.out rfl (by decide) (.slice A m c) m (ns .u64 l) (by rfl) (by exact World.ownsRow.alloc (w := wr) HO.out _) ⟨wr.heap.size, 0, none⟩ 1 1 [.int .u64 (r % 65536)] (by rfl) rfl (by exact World.news_of_block (heap_alloc_new wr _)) (by intro u hu; simp at hu; subst hu; rfl) (by decide) (by unfold maxLen; omega) (by omega) (by have := HB.out.size; simp; omega) (wr.heap.size + 1) (by simp) ?_; intro g2 cap2 w2 o2 g2' o2' l2'; have O2 := Lib.hid o2; have G2 := Lib.hid g2'; clear o2 g2' o2' l2')
        | fail)
      refine ⟨⟨r / 65536, l ++ [r % 65536], rfl, by omega, by omega, ?_, HD2.out, HV2.out, by rw [List.length_append, HM.out]; simp; omega, ((HB.out.alloc (by exact HB.out.size) _).grown G2.out (by have := HB.out.size; simp; omega) (fun g' hg' => (World.ownsRow.lt HO.out g' hg').1))⟩, by simp [intOf]; omega⟩
      unfold OwnN
      rw [List.length_append, HM.out, ns_snoc]
      exact O2.out
    · obtain rfl : r = 0 := by omega
      rw [Int.zero_mul, Int.add_zero] at hval
      have HO := Lib.hid hown
      have HB := Lib.hid hbel
      have HV := Lib.hid hval
      have HD := Lib.hid hdig
      have HLE := Lib.hid hlen
      clear hown hbel hm hval hdig hlen f1 f2 f3 f4 f5
      go_wp2_with fail
      go_ret
      exact ⟨⟨_, rfl, l, HO.out, HD.out, HV.out, HLE.out⟩, HB.out⟩
end Go.Proofs.YtchbfcegonlhoaaDoor.sha
