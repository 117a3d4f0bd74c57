/-
  THE WALK OF the reference's "first": the first 64 primes.
-/
import Derived.Test.YtchbfcegonlhoaaDoorRefPrime
import Derived.Test.YtchbfcegonlhoaaDoorRows64
namespace Go.Proofs.YtchbfcegonlhoaaDoor.sha
open Go.RowKit
def prs (p : Nat) : List Int := ((List.range p).filter prm).map Int.ofNat
theorem prs_count : ∀ p : Fin 313, ((prs p.val).length < 64 ↔ p.val < 312) := by decide +kernel
theorem prs_yes (p : Nat) (h : prm p = true) : prs (p + 1) = prs p ++ [(p : Int)] := by simp [prs, List.range_succ, h]
theorem prs_no (p : Nat) (h : prm p = false) : prs (p + 1) = prs p := by simp [prs, List.range_succ, h]
theorem int_info : (Tryd.prog.info? 3).map (fun i => (i.zero, i.size, i.bytes)) = some (some (.int .i64 0), 1, 8) := by kernel_rfl
set_option maxHeartbeats 400000 in
theorem first_any (w : World) :
    Calls Tryd.prog 21 #[.int .i64 64] w fun e w' => (∃ v, e = .returned v ∧ OwnN 3 .i64 w' w.heap.size v (prs 312)) ∧ Below w.heap.size w w' := by
  obtain ⟨i0, hi, hz0, hz1, hz2⟩ := info_parts int_info
  have HI := Lib.hid hi
  have HZ0 := Lib.hid hz0
  have HZ1 := Lib.hid hz1
  have HZ2 := Lib.hid hz2
  clear hi hz0 hz1 hz2
  go_enter Tryd.func21, Tryd.ntmps21
  go_wp2_with fail
  go_loopw [3, 4] (fun v i wr => ∃ p : Nat, 2 ≤ p ∧ p ≤ 312 ∧ i = .int .i64 p ∧ OwnN 3 .i64 wr w.heap.size v (prs p) ∧ Below w.heap.size w wr) (fun _ i _ => 400 - (intOf i).toNat)
  case atStart => exact ⟨2, by omega, by omega, rfl, OwnN.none_ _ _ _ _, Below.refl _ _⟩
  case round =>
    obtain ⟨p, hp2, hp, rfl, hown, hbel⟩ := hrel
    have hcnt := prs_count ⟨p, by omega⟩
    simp only at hcnt
    obtain ⟨A, c, hv, f1, f2, f3, f4, f5⟩ := hown.form
    obtain ⟨m, hm⟩ : ∃ m, (prs p).length = m := ⟨_, rfl⟩
    rw [hm] at hv hcnt f1
    subst hv
    by_cases hlt : p < 312
    · have hm64 : m < 64 := hcnt.2 hlt
      clear hcnt
      have C := prime_any p (by omega) hp2 wr
      by_cases hpr : prm p = true
      · rw [hpr] at C
        have hn := prs_yes p hpr
        have hown' : wr.ownsRow w.heap.size 3 1 (.slice A m c) m (ns .i64 (prs p)) := by have h := hown; unfold OwnN at h; rwa [hm] at h
        have HO := Lib.hid hown'
        have HB := Lib.hid hbel
        have HC := Lib.hid C
        have HN := Lib.hid hn
        have HM := Lib.hid hm
        clear hown' hown hbel C hn hm hpr f1 f2 f3 f4 f5
        go_wp2_with fail
        refine HC.out.mono ?_
        rintro e w' ⟨rfl, rfl⟩
        go_wp2_with (first
          | (at_builtin; refine wpList_append_lies _ rfl (.tmp 13) (.tmp 15) 41 rfl w.heap.size 3 i0 (.int .i64 0) 1 8 Tryd.underlying41 HI.out HZ0.out HZ1.out HZ2.out rfl (by decide) (.slice A m c) m (ns .i64 (prs p)) (by rfl) (by exact World.ownsRow.alloc (w := wr) HO.out _) ⟨wr.heap.size, 0, none⟩ 1 1 [.int .i64 (p : Int)] (by rfl) rfl (by exact World.news_of_block (heap_alloc_new wr _)) (by intro u hu; simp at hu; subst hu; rfl) (by decide) (by unfold maxLen; omega) (by omega) (by have := HB.out.size; simp; omega) (wr.heap.size + 1) (by simp) ?_; intro g2 cap2 w2 o2 g2' o2' l2'; have O2 := Lib.hid o2; have G2 := Lib.hid g2'; clear o2 g2' o2' l2')
          | fail)
        refine ⟨⟨p + 1, by omega, by omega, by go_num, ?_, ((HB.out.alloc (by exact HB.out.size) _).grown G2.out (by have := HB.out.size; simp; omega) (fun g' hg' => (World.ownsRow.lt HO.out g' hg').1))⟩, by simp [intOf]; omega⟩
        unfold OwnN
        rw [HN.out, List.length_append, HM.out, ns_snoc]
        exact O2.out
      · have hpf : prm p = false := by simpa using hpr
        rw [hpf] at C
        have hn := prs_no p hpf
        have hown2 : OwnN 3 .i64 wr w.heap.size (.slice A m c) (prs (p + 1)) := by rw [hn]; exact hown
        have HO := Lib.hid hown2
        have HB := Lib.hid hbel
        have HC := Lib.hid C
        clear hown hown2 hbel C hn hm hpr hpf f1 f2 f3 f4 f5
        go_wp2_with fail
        refine HC.out.mono ?_
        rintro e w' ⟨rfl, rfl⟩
        go_wp2_with fail
        exact ⟨⟨p + 1, by omega, by omega, by go_num, HO.out, HB.out⟩, by simp [intOf]; omega⟩
    · obtain rfl : p = 312 := by omega
      have hm64 : ¬ m < 64 := fun h => by have := hcnt.1 h; omega
      have HO := Lib.hid hown
      have HB := Lib.hid hbel
      clear hcnt hown hbel hm f1 f2 f3 f4 f5
      go_wp2_with fail
      go_ret
      exact ⟨⟨_, rfl, HO.out⟩, HB.out⟩
end Go.Proofs.YtchbfcegonlhoaaDoor.sha
