/-
  CONTRACT of stillroomlaw8.whole (a file's bytes) at any disk; had, slot and Mixed lean on it (K1).
-/
import Derived.Test.YtdonblfidohncaaGreatDoorSgSame
import Derived.Test.YtdonblfidohncaaGreatDoorMDkB
import Derived.Test.YtdonblfidohncaaGreatDoorMDkC
namespace Go.Proofs.YtdonblfidohncaaGreatDoor.scan
open Go.RowKit Go.Proofs.YtdonblfidohncaaGreatDoor.disk Go.Proofs.YtdonblfidohncaaGreatDoor.recd
set_option linter.unusedVariables false

/-- What 'whole' leaves. -/
def WholeOut (R : Nat → Prop) (w : World) (p : Nat) (S : St) (n : Nat) (L : List Int) (e : Ending) (w' : World) : Prop :=
  ∃ v, e = .returned v ∧ Own w' v L ∧ (∀ g, v.ownBlock = some g → w.heap.size ≤ g) ∧ (∃ k, Disk R w' p (readSt S k) n) ∧ Turn R w w'

set_option maxRecDepth 100000 in
set_option maxHeartbeats 1000000 in
theorem whole_any {R : Nat → Prop} (w : World) (p : Nat) (S : St) (n : Nat) (h : Disk R w p S n) (hn : n ≤ 1000000000) (nm : ByteArray) (hs : nm.size ≤ maxLen) (b : Nat) (hd : dlook nm.data.toList S.now = some b) :
    Calls Tryz.prog 45 #[.pointer (some ⟨p, 0, none⟩), .string nm] w (WholeOut R w p S (n + 1) (S.file b).now) := by
  have CS := Lib.hid (size_any w p S n h nm hs)
  have hsz : S.size nm.data.toList = ((S.file b).now.length : Int) := by rw [St.size, hd]
  rw [hsz] at CS
  have CR := read_good w p S n h nm hs 0 (S.file b).now.length b hd (by omega) hn
  rw [show ((0 : Nat) : Int) = 0 from rfl, List.drop_zero, List.take_length] at CR
  have HCR := Lib.hid CR
  have H := Lib.hid h
  obtain ⟨L, hL⟩ : ∃ L, (S.file b).now = L := ⟨_, rfl⟩
  rw [hL] at CS HCR ⊢
  clear CR hsz h hL hd
  obtain ⟨m, hm⟩ : ∃ m, L.length = m := ⟨_, rfl⟩
  rw [hm] at CS HCR
  have HM := Lib.hid hm
  clear hm
  go_enter Tryz.func45, Tryz.ntmps45
  go_wp2_with fail
  refine CS.out.mono ?_
  rintro e w1 ⟨rfl, rfl⟩
  by_cases h0 : m < 1
  · have hI : (m : Int) < 1 := by omega
    have hL0 : L = [] := List.eq_nil_of_length_eq_zero (by have := HM.out; omega)
    have FIN := Lib.hid (show WholeOut R w p S (n + 1) L (.returned (.slice none 0 0)) w from ⟨_, rfl, by rw [hL0]; exact Own.none_ w, fun g hg => (by cases hg), ⟨0, by rw [readSt_zero]; exact H.out.more (by omega)⟩, Turn.refl R w⟩)
    go_wp2_with fail
    go_ret
    exact FIN.out
  · have hI : ¬ (m : Int) < 1 := by omega
    go_wp2_with fail
    refine HCR.out.mono ?_
    rintro e w2 ⟨v, rfl, o2, n2, d2, t2⟩
    have FIN := Lib.hid (show WholeOut R w p S (n + 1) L (.returned v) w2 from ⟨_, rfl, o2, n2, ⟨_, d2⟩, t2⟩)
    clear o2 n2 d2 t2
    go_wp2_with fail
    go_ret
    exact FIN.out
end Go.Proofs.YtdonblfidohncaaGreatDoor.scan
