/-
  CONTRACTS of segment's methods that ask the disk alone: Size, Sync; a segment in memory (P8.1).
-/
import Derived.Test.YtdonblfidohncaaGreatDoorSgFront
import Derived.Test.YtdonblfidohncaaGreatDoorMDkC

import Derived.Test.YtdonblfidohncaaGreatDoorMDkB
namespace Go.Proofs.YtdonblfidohncaaGreatDoor.scan
open Go.RowKit Go.Proofs.YtdonblfidohncaaGreatDoor.disk Go.Proofs.YtdonblfidohncaaGreatDoor.recd
set_option linter.unusedVariables false

/-- A segment that is open: its cells. -/
def segCells (p : Nat) (nm : ByteArray) (t : Nat) (wh : Bool) : List Value := [.pointer (some ⟨p, 0, none⟩), .string nm, .int .u32 (t : Int), .bool wh]
structure SegAt (w : World) (s p : Nat) (nm : ByteArray) (t : Nat) (wh : Bool) : Prop where
  cells : Whole w s 77 (segCells p nm t wh)
  name : nm.size ≤ maxLen
  tenant : t < 4294967296
section
variable {w w' : World} {s p : Nat} {nm : ByteArray} {t : Nat} {wh : Bool}
theorem SegAt.c0 (h : SegAt w s p nm t wh) : w.cell? ⟨s, 0, none⟩ = some (.pointer (some ⟨p, 0, none⟩)) := (h.cells.at_ 0).trans rfl
theorem SegAt.c1 (h : SegAt w s p nm t wh) : w.cell? ⟨s, 1, none⟩ = some (.string nm) := (h.cells.at_ 1).trans rfl
theorem SegAt.c2 (h : SegAt w s p nm t wh) : w.cell? ⟨s, 2, none⟩ = some (.int .u32 (t : Int)) := (h.cells.at_ 2).trans rfl
theorem SegAt.c3 (h : SegAt w s p nm t wh) : w.cell? ⟨s, 3, none⟩ = some (.bool wh) := (h.cells.at_ 3).trans rfl
theorem SegAt.same (h : SegAt w s p nm t wh) (e : w'.heap[s]? = w.heap[s]?) : SegAt w' s p nm t wh := ⟨Whole.same h.cells e, h.name, h.tenant⟩
theorem SegAt.kept {X : Nat → Prop} (h : SegAt w s p nm t wh) (hX : X s) (hk : Kept X w w') : SegAt w' s p nm t wh := h.same (hk s hX)
theorem SegAt.later (h : SegAt w s p nm t wh) (hb : Below w.heap.size w w') : SegAt w' s p nm t wh := h.same (hb.block s h.cells.lt)
end
theorem draws_below (w : World) (q : Nat) : Below w.heap.size w (w.drewN q) := below_draws (Below.refl _ _) q

/-! Size -/
theorem segsize_nil (w : World) : Calls Tryz.prog 12 #[.pointer none] w fun e w' => e = .returned (.int .i64 0) ∧ w = w' := by
  go_enter Tryz.func12, Tryz.ntmps12
  go_wp2
  go_ret
  exact ⟨rfl, rfl⟩
theorem segsize_any {R : Nat → Prop} (w : World) (p : Nat) (S : St) (n : Nat) (h : Disk R w p S n) (s : Nat) (nm : ByteArray) (t : Nat) (wh : Bool) (hs : SegAt w s p nm t wh) :
    Calls Tryz.prog 12 #[.pointer (some ⟨s, 0, none⟩)] w fun e w' => e = .returned (.int .i64 (S.size nm.data.toList)) ∧ ∃ q, w.drewN q = w' := by
  have c0 := hs.c0
  have c1 := hs.c1
  have CS := Lib.hid (fun q => size_any (w.drewN q) p S n (h.later (draws_below w q)) nm hs.name)
  clear h hs
  go_enter Tryz.func12, Tryz.ntmps12
  go_wp2_with fail
  go_quiet ((exact quiet_here (CS.out _)))
  go_wp2_with fail
  go_ret
  exact ⟨rfl, _, rfl⟩

/-! Sync -/
theorem segsync_nil (w : World) : Calls Tryz.prog 11 #[.pointer none] w fun e w' => e = .returned (.int .i64 10) ∧ w = w' := by
  go_enter Tryz.func11, Tryz.ntmps11
  go_wp2
  go_ret
  exact ⟨rfl, rfl⟩
set_option maxRecDepth 100000 in
set_option maxHeartbeats 1000000 in
theorem segsync_any {W : World} {X : Nat → Prop} (w : World) (p : Nat) (S : St) (n : Nat) (h : Held W X w p S n) (hn : n ≤ 100000000) (s : Nat) (nm : ByteArray) (t : Nat) (wh : Bool) (hs : SegAt w s p nm t wh) :
    Calls Tryz.prog 11 #[.pointer (some ⟨s, 0, none⟩)] w fun e w' => e = .returned (.int .i64 (S.sync nm.data.toList).1) ∧ Held W X w' p (S.sync nm.data.toList).2 (n + 2) ∧ Kept X w w' := by
  have c0 := hs.c0
  have c1 := hs.c1
  have CS : ∀ q, Hid (Calls Tryz.prog 37 #[.pointer (some ⟨p, 0, none⟩), .string nm] (w.drewN q) fun e w' => e = .returned (.int .i64 (S.sync nm.data.toList).1) ∧ Held W X w' p (S.sync nm.data.toList).2 (n + 2) ∧ Kept X w w') := fun q =>
    (syncs_any (w.drewN q) p S n (h.later (draws_below w q)).disk hn nm hs.name).mono fun e w' ho => by
      obtain ⟨e1, h1, k1⟩ := (h.later (draws_below w q)).out ho
      exact ⟨e1, h1, k1⟩
  clear h hs
  go_enter Tryz.func11, Tryz.ntmps11
  go_wp2_with fail
  go_still_tail 8, (by kernel_rfl)
  change wpList _ _ _ _ _ (w.drewN 1)
  have C1 := CS 1
  generalize w.drewN 1 = w1 at C1 ⊢
  clear CS c0 c1
  go_wp2_with fail
  refine C1.out.mono ?_
  rintro e w2 ⟨rfl, h2, k2⟩
  have H2 := Lib.hid h2
  have K2 := Lib.hid k2
  clear h2 k2 C1
  go_wp2_with fail
  go_ret
  exact ⟨rfl, H2.out, K2.out⟩
end Go.Proofs.YtdonblfidohncaaGreatDoor.scan
