/-
  WHAT THE CARDS OF slots SHARE: the table of sums as the row lists it.
-/
import Derived.Test.YtpgclhpobijdeaaDoorCards
import Derived.Test.YtpgclhpobijdeaaDoorTie
import Derived.Test.YtpgclhpobijdeaaDoorMBase
import Derived.Test.YtpgclhpobijdeaaDoorMDkC

import Derived.Lib.LaidTab
import Derived.Lib.SmallJoins
namespace Go.Proofs.YtpgclhpobijdeaaDoor.slots
open Go.ChangeShapes Go.WideShapes Go.ChangeAt Go.RowKit Go.Deep Go.Joins Go.Proofs.YtpgclhpobijdeaaDoor.disk

theorem gTab : Tryd.prog.globalNamed "stillroom/crc.nibbles" = some 0 := by kernel_rfl
theorem gTabType : (Tryd.prog.globals[0]?).map (·.type) = some 125 := by kernel_rfl
theorem cellsTab : Tryd.prog.cellsOf 125 = 16 := by kernel_rfl
theorem cellsOne : Tryd.prog.cellsOf 31 = 1 := by kernel_rfl
theorem tabOf {W : World} (h : laidMetH Tryd.prog [("stillroom/crc.nibbles", Rows.laid_stillroom_crc_nibbles)] W) : crc.Tab W := by
  have t : Lib.TabIs Tryd.prog W "stillroom/crc.nibbles" .u32 crc.table := Lib.tabIs_of_head (rest := []) gTab gTabType Tryd.underlying125 Tryd.underlying31 cellsOne cellsTab h
  intro k hk
  exact t.cell gTab k (by simpa [crc.table] using hk)

theorem bounds_u8 {n : Int} (h : (Lit.int .u8 n).wf = true) : 0 ≤ n ∧ n ≤ 255 := by
  simp [Lit.wf, IntKind.min, IntKind.max, IntKind.signed, IntKind.bits] at h
  omega
theorem nat_u64 {n : Int} (h : (Lit.int .u64 n).wf = true) : 0 ≤ n := by
  simp [Lit.wf, IntKind.min, IntKind.max, IntKind.signed, IntKind.bits] at h
  omega
theorem bounds_u32 {n : Int} (h : (Lit.int .u32 n).wf = true) : 0 ≤ n ∧ n < 4294967296 := by
  simp [Lit.wf, IntKind.min, IntKind.max, IntKind.signed, IntKind.bits] at h
  omega
end Go.Proofs.YtpgclhpobijdeaaDoor.slots
