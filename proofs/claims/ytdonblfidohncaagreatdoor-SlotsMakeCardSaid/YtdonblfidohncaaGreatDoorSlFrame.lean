/-
  WHAT THE CARDS OF slots SHARE: the table of sums as the row lists it.
-/
import Derived.Test.YtdonblfidohncaaGreatDoorCards
import Derived.Test.YtdonblfidohncaaGreatDoorTie
import Derived.Test.YtdonblfidohncaaGreatDoorMBase
import Derived.Test.YtdonblfidohncaaGreatDoorMDkC

import Derived.Lib.LaidTab
import Derived.Lib.SmallJoins
namespace Go.Proofs.YtdonblfidohncaaGreatDoor.slots
open Go.ChangeShapes Go.WideShapes Go.ChangeAt Go.RowKit Go.Deep Go.Joins Go.Proofs.YtdonblfidohncaaGreatDoor.disk

theorem gTab : Tryz.prog.globalNamed "stillroom/crc.nibbles" = some 1 := by kernel_rfl
theorem gTabType : (Tryz.prog.globals[1]?).map (·.type) = some 171 := by kernel_rfl
theorem cellsTab : Tryz.prog.cellsOf 171 = 16 := by kernel_rfl
theorem cellsOne : Tryz.prog.cellsOf 22 = 1 := by kernel_rfl
theorem tabOf {W : World} (h : laidMetH Tryz.prog [("stillroom/crc.nibbles", Rows.laid_stillroom_crc_nibbles)] W) : crc.Tab W := by
  have t : Lib.TabIs Tryz.prog W "stillroom/crc.nibbles" .u32 crc.table := Lib.tabIs_of_head (rest := []) gTab gTabType Tryz.underlying171 Tryz.underlying22 cellsOne cellsTab h
  intro k hk
  exact t.cell gTab k (by simpa [crc.table] using hk)

theorem bounds_u8 {n : Int} (h : (Lit.int .u8 n).wf = true) : 0 ≤ n ∧ n ≤ 255 := by
  simp [Lit.wf, IntKind.min, IntKind.max, IntKind.signed, IntKind.bits] at h
  omega
theorem nat_u64 {n : Int} (h : (Lit.int .u64 n).wf = true) : 0 ≤ n := by
  simp [Lit.wf, IntKind.min, IntKind.max, IntKind.signed, IntKind.bits] at h
  omega
theorem bounds_u32 {n : Int} (h : (Lit.int .u32 n).wf = true) : 0 ≤ n ∧ n < 4294967296 := by
  simp [Lit.wf, IntKind.min, IntKind.max, IntKind.signed, IntKind.bits] at h
  omega
end Go.Proofs.YtdonblfidohncaaGreatDoor.slots
