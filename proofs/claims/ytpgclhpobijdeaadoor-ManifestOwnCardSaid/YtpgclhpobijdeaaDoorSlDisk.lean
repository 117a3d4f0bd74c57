/-
  CONTRACTS of the disk's Rename when it is told to fail; the calls of a disk that a law holds.
-/
import Derived.Test.YtpgclhpobijdeaaDoorSlLone
import Derived.Test.YtpgclhpobijdeaaDoorMDkC
namespace Go.Proofs.YtpgclhpobijdeaaDoor.slots
open Go.RowKit Go.Proofs.YtpgclhpobijdeaaDoor.disk Go.Proofs.YtpgclhpobijdeaaDoor.recd Go.Proofs.YtpgclhpobijdeaaDoor.num
set_option linter.unusedVariables false

theorem rename_fails {R : Nat → Prop} (w : World) (p : Nat) (S : St) (n : Nat) (h : Disk R w p S n) (hn : n ≤ 100000000) (s t : ByteArray) (h0 : S.fail = 0) :
    Calls Tryd.prog 58 #[.pointer (some ⟨p, 0, none⟩), .string s, .string t] w (CallOut R w p (3, S.begin) (n + 2)) := by
  have cB := Lib.hid (begin_any w p S n h (by omega))
  rw [if_pos h0] at cB
  clear h h0
  go_enter Tryd.func58, Tryd.ntmps58
  go_wp2_with fail
  refine cB.out.mono ?_
  rintro e w1 ⟨rfl, d1, t1⟩
  have D1 := Lib.hid (d1.more (by omega : n + 1 ≤ n + 2))
  have T1 := Lib.hid t1
  clear d1 t1 cB
  go_wp2_with fail
  go_ret
  exact ⟨rfl, D1.out, T1.out⟩

section
variable {W : World} {X : Nat → Prop} {w : World} {p n : Nat} {S : St}
theorem held_sync (h : Held W X w p S n) (hn : n ≤ 10000000) (s : ByteArray) (hs : s.size ≤ maxLen) :
    Calls Tryd.prog 49 #[.pointer (some ⟨p, 0, none⟩), .string s] w fun e w' => e = .returned (.int .i64 (S.sync s.data.toList).1) ∧ Held W X w' p (S.sync s.data.toList).2 (n + 2) ∧ Kept X w w' :=
  (syncs_any w p S n h.disk (by omega) s hs).mono fun e w' ho => h.out ho
theorem held_create (h : Held W X w p S n) (hn : n ≤ 10000000) (s : ByteArray) (hs : s.size ≤ maxLen) :
    Calls Tryd.prog 22 #[.pointer (some ⟨p, 0, none⟩), .string s] w fun e w' => ∃ b, b ∉ S.files ∧ e = .returned (.int .i64 (S.create s.data.toList b).1) ∧ Held W X w' p (S.create s.data.toList b).2 (n + 2) ∧ Kept X w w' :=
  (create_any w p S n h.disk (by omega) s hs).mono fun e w' ho => by
    obtain ⟨b, hb, _, _, ho⟩ := ho
    exact ⟨b, hb, h.out ho⟩
theorem held_rename (h : Held W X w p S n) (hn : n ≤ 10000000) (s t : ByteArray) (hs : s.size ≤ maxLen) (ht : t.size ≤ maxLen) (b : Nat) (hb : dlook s.data.toList S.now = some b) (hg : isNameB t.data.toList = true) :
    Calls Tryd.prog 58 #[.pointer (some ⟨p, 0, none⟩), .string s, .string t] w fun e w' => e = .returned (.int .i64 (if S.fail = 0 then 3 else 0)) ∧ Held W X w' p (if S.fail = 0 then S.begin else S.begin.changed ⟨none, s.data.toList, t.data.toList⟩) (n + 2) ∧ Kept X w w' := by
  by_cases h0 : S.fail = 0
  · rw [if_pos h0, if_pos h0]
    exact (rename_fails w p S n h.disk (by omega) s t h0).mono fun e w' ho => h.out ho
  · rw [if_neg h0, if_neg h0]
    exact (rename_any w p S n h.disk (by omega) s t hs ht h0 b hb hg).mono fun e w' ho => h.out ho
theorem held_syncdir (h : Held W X w p S n) (hn : n ≤ 10000000) :
    Calls Tryd.prog 59 #[.pointer (some ⟨p, 0, none⟩)] w fun e w' => e = .returned (.int .i64 S.syncDir.1) ∧ Held W X w' p S.syncDir.2 (n + 1) ∧ Kept X w w' :=
  (syncdir_any w p S n h.disk (by omega)).mono fun e w' ho => h.out ho
theorem held_size (h : Held W X w p S n) (s : ByteArray) (hs : s.size ≤ maxLen) :
    Calls Tryd.prog 39 #[.pointer (some ⟨p, 0, none⟩), .string s] w fun e w' => e = .returned (.int .i64 (S.size s.data.toList)) ∧ w = w' := size_any w p S n h.disk s hs
end
end Go.Proofs.YtpgclhpobijdeaaDoor.slots
