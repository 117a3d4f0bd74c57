/-
  PLAIN MATHEMATICS OF 'stillroomlaw8.SegmentAll' (K1), its end: what is told of the file behind the crash.
-/
import Derived.Test.YtdonblfidohncaaGreatDoorSgAllM
import Derived.Test.YtdonblfidohncaaGreatDoorSgLaw
import Derived.Test.YtdonblfidohncaaGreatDoorSgMixed
namespace Go.Proofs.YtdonblfidohncaaGreatDoor.scan
open Go.Proofs.YtdonblfidohncaaGreatDoor.recd Go.Proofs.YtdonblfidohncaaGreatDoor.disk
set_option linter.unusedVariables false

/-- The crash that keeps nothing leaves what was synced. -/
theorem leave_none (A : FileA) : ∀ (ds : List Nat) (k : Nat) (b : List Int), leaveL A [] (-1) k ds b = b
  | [], _, _ => rfl
  | s :: r, k, b => by
    have e : takes [] (-1) k = 0 := by
      unfold takes
      rw [if_neg (by omega)]
      simp
    have e2 : firstL A s (takes [] (-1) k) = [] := by rw [e]; unfold firstL; simp
    rw [leaveL, e2, laidL_nil]
    exact leave_none A r (k + 1) b
theorem left_none (A : FileA) : leftL A [] (-1) = A.old := leave_none A _ _ _
/-- Of a disk of one file. -/
theorem had_one {S : St} {nm : Nm} {b ad : Nat} {x : List Int} (hn : S.now = [(nm, b)]) (h : HadP S ad x) : standsAt (S.file b).now ad x := by
  obtain ⟨nm', b', hm, hs⟩ := h
  rw [hn] at hm
  obtain ⟨rfl, rfl⟩ : nm' = nm ∧ b' = b := by simpa using hm
  exact hs
/-- WHAT IS TOLD BEHIND THE CRASH: a front of what was appended, and at least what was synced. -/
theorem crash_front {t : Nat} (ht : t < 4294967296) {gs : List Rec} {sn : Nat} (hsn : sn ≤ gs.length) (hone : ∀ r ∈ gs, OneOf t r) (L : List Int) (hL : Byte L) (hb : ∃ z, L = cat (gs.take sn) ++ z) (hx : ∀ x ∈ (front L 0).1, standsAt (cat gs) x.at_ (encL x.r)) :
    ∃ m, sn ≤ m ∧ m ≤ gs.length ∧ (segF t L).1 = (finds 0 gs).take m := by
  have hfine : ∀ r ∈ gs, Fine r := fun r hr => ⟨(hone r hr).2, by rw [(hone r hr).1]; exact ht⟩
  have hw := front_was L hL gs [] hfine hx
  rw [List.length_nil] at hw
  obtain ⟨F, hF⟩ : ∃ F, (front L 0).1 = F := ⟨_, rfl⟩
  rw [hF] at hw
  have hlen : F.length ≤ gs.length := by
    have := congrArg List.length hw
    rw [List.length_take, finds_length] at this
    omega
  refine ⟨F.length, ?_, hlen, ?_⟩
  · obtain ⟨z, hz⟩ := hb
    have := front_least (gs.take sn) z fun r hr => hfine r (List.mem_of_mem_take hr)
    rw [← hz, hF, List.length_take] at this
    omega
  · have hall : ∀ x ∈ F, x.r.tenant = t := fun x hx => by
      rw [hw] at hx
      exact (hone _ (finds_mem (List.mem_of_mem_take hx))).1
    unfold segF
    rw [hF, ownOf_all hall]
    exact hw
/-- The two crashes of the law, put together. -/
theorem crash_told {t : Nat} (ht : t < 4294967296) {gs : List Rec} {sn : Nat} (hsn : sn ≤ gs.length) (hone : ∀ r ∈ gs, OneOf t r) {A : FileA} (hn : A.now = cat gs) (ho : A.old = cat (gs.take sn)) {S1 S3 : St} {nm1 nm3 : Nm} {b1 b3 : Nat} (e1 : S1.now = [(nm1, b1)]) (f1 : (S1.file b1).now = A.now) (e3 : S3.now = [(nm3, b3)]) (f3 : (S3.file b3).now = A.old)
    (L : List Int) (hL : Byte L) (keep : List Bool) (torn : Int) (hl : L = leftL A keep torn) (hok : FileOk S1 S3 L) : ∃ m, sn ≤ m ∧ m ≤ gs.length ∧ (segF t L).1 = (finds 0 gs).take m := by
  have hpre : A.now = A.old ++ cat (gs.drop sn) := by rw [hn, ho, ← cat_append, List.take_append_drop]
  refine crash_front ht hsn hone L hL ?_ fun x hx => ?_
  · rw [hl, ← ho]
    exact left_begin hpre keep torn
  · rcases hok.1 x hx with h | h
    · have := had_one e1 h
      rw [f1, hn] at this
      exact this
    · have := had_one e3 h
      rw [f3] at this
      have h2 := stands_front this hpre
      rw [hn] at h2
      exact h2
end Go.Proofs.YtdonblfidohncaaGreatDoor.scan
