/-
  CONTRACTS of stillroomref6.May, stillroomlaw6.begun.
-/
import Derived.Test.YtodajceiadbpeaaDoorRcLaw
namespace Go.Proofs.YtodajceiadbpeaaDoor.recd
open Go.RowKit Go.Proofs.YtodajceiadbpeaaDoor.num Go.Proofs.YtodajceiadbpeaaDoor.disk
set_option linter.unusedVariables false

theorem mayB_eq (k : Int) (t e o s : Nat) (b : ByteArray) : mayB ⟨k, t, e, o, s, b⟩ = decide ((1 ≤ k ∧ k ≤ 4) ∧ (e : Int) ≤ 1099511627776 ∧ (o : Int) ≤ 1099511627776 ∧ (s : Int) ≤ 1099511627776 ∧ (b.size : Int) ≤ 1000) := by
  unfold mayB numB isKindB
  rw [Bool.eq_iff_iff]
  simp only [Bool.and_eq_true, decide_eq_true_eq]
  omega
set_option maxHeartbeats 1000000 in
theorem rMay_any (r : Rec) (w : World) (hf : r.Fit) : Calls Tryd.prog 20 #[r.val] w fun e w' => e = .returned (.bool (mayB r)) ∧ Below w.heap.size w w' := by
  have hb := hf.body
  unfold maxLen at hb
  clear hf
  obtain ⟨k, t, e, o, s, b⟩ := r
  unfold Rec.val
  simp only at hb ⊢
  rw [mayB_eq]
  have B : Hid (Below w.heap.size w (w.alloc (.cells #[.int .i64 k, .int .u32 (t : Int), .int .u64 (e : Int), .int .u64 (o : Int), .int .u64 (s : Int), .string b] 32))) := (Below.refl _ _).alloc (Nat.le_refl _) _
  by_cases k1 : 1 ≤ k
  · by_cases k2 : k ≤ 4
    · by_cases c1 : (e : Int) ≤ 1099511627776
      · by_cases c2 : (o : Int) ≤ 1099511627776
        · by_cases c3 : (s : Int) ≤ 1099511627776
          · by_cases c4 : (b.size : Int) ≤ 1000
            · obtain ⟨v, hv⟩ : ∃ v, decide ((1 ≤ k ∧ k ≤ 4) ∧ (e : Int) ≤ 1099511627776 ∧ (o : Int) ≤ 1099511627776 ∧ (s : Int) ≤ 1099511627776 ∧ (b.size : Int) ≤ 1000) = v := ⟨_, rfl⟩
              rw [hv]
              have hv2 : v = true := by rw [← hv]; exact decide_eq_true (by omega)
              have HV := Lib.hid hv2
              clear hv hv2
              go_enter Tryd.func20, Tryd.ntmps20
              go_wp2
              go_ret
              exact ⟨ret_bool (by first | exact HV.out.symm | (rw [HV.out]; simpa using ‹_›)), B.out⟩
            · obtain ⟨v, hv⟩ : ∃ v, decide ((1 ≤ k ∧ k ≤ 4) ∧ (e : Int) ≤ 1099511627776 ∧ (o : Int) ≤ 1099511627776 ∧ (s : Int) ≤ 1099511627776 ∧ (b.size : Int) ≤ 1000) = v := ⟨_, rfl⟩
              rw [hv]
              have hv2 : v = false := by rw [← hv]; exact decide_eq_false (by omega)
              have HV := Lib.hid hv2
              clear hv hv2
              go_enter Tryd.func20, Tryd.ntmps20
              go_wp2
              go_ret
              exact ⟨ret_bool (by first | exact HV.out.symm | (rw [HV.out]; simpa using ‹_›)), B.out⟩
          · obtain ⟨v, hv⟩ : ∃ v, decide ((1 ≤ k ∧ k ≤ 4) ∧ (e : Int) ≤ 1099511627776 ∧ (o : Int) ≤ 1099511627776 ∧ (s : Int) ≤ 1099511627776 ∧ (b.size : Int) ≤ 1000) = v := ⟨_, rfl⟩
            rw [hv]
            have hv2 : v = false := by rw [← hv]; exact decide_eq_false (by omega)
            have HV := Lib.hid hv2
            clear hv hv2
            go_enter Tryd.func20, Tryd.ntmps20
            go_wp2
            go_ret
            exact ⟨ret_bool (by first | exact HV.out.symm | (rw [HV.out]; simpa using ‹_›)), B.out⟩
        · obtain ⟨v, hv⟩ : ∃ v, decide ((1 ≤ k ∧ k ≤ 4) ∧ (e : Int) ≤ 1099511627776 ∧ (o : Int) ≤ 1099511627776 ∧ (s : Int) ≤ 1099511627776 ∧ (b.size : Int) ≤ 1000) = v := ⟨_, rfl⟩
          rw [hv]
          have hv2 : v = false := by rw [← hv]; exact decide_eq_false (by omega)
          have HV := Lib.hid hv2
          clear hv hv2
          go_enter Tryd.func20, Tryd.ntmps20
          go_wp2
          go_ret
          exact ⟨ret_bool (by first | exact HV.out.symm | (rw [HV.out]; simpa using ‹_›)), B.out⟩
      · obtain ⟨v, hv⟩ : ∃ v, decide ((1 ≤ k ∧ k ≤ 4) ∧ (e : Int) ≤ 1099511627776 ∧ (o : Int) ≤ 1099511627776 ∧ (s : Int) ≤ 1099511627776 ∧ (b.size : Int) ≤ 1000) = v := ⟨_, rfl⟩
        rw [hv]
        have hv2 : v = false := by rw [← hv]; exact decide_eq_false (by omega)
        have HV := Lib.hid hv2
        clear hv hv2
        go_enter Tryd.func20, Tryd.ntmps20
        go_wp2
        go_ret
        exact ⟨ret_bool (by first | exact HV.out.symm | (rw [HV.out]; simpa using ‹_›)), B.out⟩
    · obtain ⟨v, hv⟩ : ∃ v, decide ((1 ≤ k ∧ k ≤ 4) ∧ (e : Int) ≤ 1099511627776 ∧ (o : Int) ≤ 1099511627776 ∧ (s : Int) ≤ 1099511627776 ∧ (b.size : Int) ≤ 1000) = v := ⟨_, rfl⟩
      rw [hv]
      have hv2 : v = false := by rw [← hv]; exact decide_eq_false (by omega)
      have HV := Lib.hid hv2
      clear hv hv2
      go_enter Tryd.func20, Tryd.ntmps20
      go_wp2
      go_ret
      exact ⟨ret_bool (by first | exact HV.out.symm | (rw [HV.out]; simpa using ‹_›)), B.out⟩
  · obtain ⟨v, hv⟩ : ∃ v, decide ((1 ≤ k ∧ k ≤ 4) ∧ (e : Int) ≤ 1099511627776 ∧ (o : Int) ≤ 1099511627776 ∧ (s : Int) ≤ 1099511627776 ∧ (b.size : Int) ≤ 1000) = v := ⟨_, rfl⟩
    rw [hv]
    have hv2 : v = false := by rw [← hv]; exact decide_eq_false (by omega)
    have HV := Lib.hid hv2
    clear hv hv2
    go_enter Tryd.func20, Tryd.ntmps20
    go_wp2
    go_ret
    exact ⟨ret_bool (by first | exact HV.out.symm | (rw [HV.out]; simpa using ‹_›)), B.out⟩


def beg0 : Rec := ⟨2, 2, 0, 0, 0, ⟨#[97, 98]⟩⟩
theorem beg0_may : mayB beg0 = true := by decide
end Go.Proofs.YtodajceiadbpeaaDoor.recd
