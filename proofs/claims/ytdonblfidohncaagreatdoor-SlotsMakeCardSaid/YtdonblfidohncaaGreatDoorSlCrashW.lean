/-
  THE WALK OF 'stillroomlaw9.SlotsCrash' (P9.1, K1).
-/
import Derived.Test.YtdonblfidohncaaGreatDoorSlAgain
import Derived.Test.YtdonblfidohncaaGreatDoorSlCrashM
import Derived.Test.YtdonblfidohncaaGreatDoorMDkC
namespace Go.Proofs.YtdonblfidohncaaGreatDoor.slots
open Go.RowKit Go.Proofs.YtdonblfidohncaaGreatDoor.disk Go.Proofs.YtdonblfidohncaaGreatDoor.recd Go.Proofs.YtdonblfidohncaaGreatDoor.num
set_option linter.unusedVariables false

/-- Mixed, of a law's disk and the one that its crash left. -/
theorem mix_any {w : World} {X : Nat → Prop} {w7 w8 : World} {p n b b' p2 n2 : Nat} {S1 S2 : St} {A : FileA} {f : Int} {C : List Int} (h7 : Held w X w7 p S1 n) (lo : Lone S1 aN b A f) (h8 : Held w7 (fun _ => False) w8 p2 S2 n2) (lo2 : Lone S2 aN b' ⟨C, C, []⟩ (-1)) (hC : C.length ≤ 8192) (hn : n ≤ 10000) (hn2 : n2 ≤ 30000) :
    Calls Tryz.prog 15 #[.pointer (some ⟨p, 0, none⟩), .pointer (some ⟨p2, 0, none⟩)] w8 fun e w' => ∃ r, e = .returned (.bool r) ∧ (r = false → ∃ S3, Built S3 S1.file [] (-1) (S1.leftDir 0) ∧ scan.FileOk S1 S3 C) ∧ (∃ S5 n5, n5 ≤ 100000 ∧ Held w (fun k => k < w7.heap.size) w' p2 S5 n5 ∧ Lone S5 aN b' ⟨C, C, []⟩ (-1)) ∧ (∀ k, X k → w'.heap[k]? = w7.heap[k]?) := by
  have hb78 := h8.below
  have d1 : Disk (Free w.heap.size X w7) w8 p S1 n := h7.disk.later hb78
  have hnow1 : S1.now.length = 1 := by rw [lo.now]; rfl
  have hnow2 : S2.now.length = 1 := by rw [lo2.now]; rfl
  have hld : (S1.leftDir 0).length ≤ 1 := by rw [St.leftDir_none lo.wait (by rw [lo.synced, lo.now]), hnow1]; exact Nat.le_refl _
  refine (scan.mixed_any w8 p S1 n p2 S2 n2 d1 h8.disk (fun k hk => Nat.lt_of_lt_of_le hk.2.1 hb78.size) (fun k hk => hk.2.1) (fun k hk hk2 => by have := hk.1; have := hk2.2.1; omega) 1 8192 (by omega) hld (fun z hz => ?_) (by rw [hnow2]; omega) (by rw [hnow2]; omega) (by omega)).mono ?_
  · rw [lo2.now, List.mem_singleton] at hz
    subst hz
    rw [lo2.file]
    exact hC
  · rintro e w9 ⟨r, rfl, hr, ⟨k2, hd⟩, ht⟩
    refine ⟨r, rfl, fun e => ?_, ⟨_, _, ?_, ⟨hd.mono fun k hk hR => ⟨?_, hk, fun hlt => ?_⟩, ?_, fun k hk => ?_⟩, lo2.reads _⟩, fun k hk => ?_⟩
    · obtain ⟨S3, hb, hf⟩ := hr e
      have hz := hf (aN, b') (by rw [lo2.now]; exact List.mem_singleton.2 rfl)
      rw [lo2.file] at hz
      exact ⟨S3, hb, hz⟩
    · rw [hnow2]; omega
    · have := hR.1; have := h7.below.size; omega
    · have := hR.1; omega
    · refine (h7.below.trans (hb78.mono h7.below.size)).trans (ht.below (fun k hk => ?_) (Nat.le_trans h7.below.size hb78.size))
      rcases hk with hk | hk
      · exact hk.1
      · have := hk.1; have := h7.below.size; omega
    · have := ht.size; have := hb78.size; omega
    · have hk7 := h7.user k hk
      rw [ht.block k (by have := hb78.size; omega) (fun e => by
        rcases e with e | e
        · exact e.2.2 hk
        · have := e.1; omega)]
      exact hb78.block k hk7
/-- The loop under way. -/
structure Runs (W : World) (s p b q : Nat) (now nx : Value) (wr : World) : Prop where
  some_ : ∃ (tv : Value) (x : List Int) (t k : Nat) (S : St) (A : FileA) (f : Int), Slot W (fun _ => False) wr s p aB tv x t k t S (9 + 4 * q) b A f ∧ Strict A k t ∧ A = ⟨A.now, A.now, []⟩ ∧ t ≤ 1 + q ∧ now = .string (disk.str x) ∧ nx = .string (disk.str x)
end Go.Proofs.YtdonblfidohncaaGreatDoor.slots
