/-
  WHAT THE CARDS OF segment SHARE: the tables as the rows list them.
-/
import Derived.Test.YtdonblfidohncaaGreatDoorRcFrame
import Derived.Test.YtdonblfidohncaaGreatDoorScRowsIn
import Derived.Test.YtdonblfidohncaaGreatDoorSgOpen
import Derived.LaidSub
namespace Go.Proofs.YtdonblfidohncaaGreatDoor.scan
open Go.ChangeShapes Go.WideShapes Go.ChangeAt Go.RowKit Go.Deep Go.Joins Go.Proofs.YtdonblfidohncaaGreatDoor.disk Go.Proofs.YtdonblfidohncaaGreatDoor.recd Go.Proofs.YtdonblfidohncaaGreatDoor.seg

theorem gPow : Tryz.prog.globalNamed "internal/strconv.uint64pow10" = some 0 := by kernel_rfl
theorem gPowType : (Tryz.prog.globals[0]?).map (·.type) = some 169 := by kernel_rfl
theorem cellsPow : Tryz.prog.cellsOf 169 = 20 := by kernel_rfl
theorem cellsU64 : Tryz.prog.cellsOf 38 = 1 := by kernel_rfl
theorem powData : (Rows.laid_internal_strconv_uint64pow10 : DataW Unit) = Lib.tabData .u64 Lib.pow10Tab := by kernel_rfl
theorem tabsOf {W : World} (h : laidMetH Tryz.prog [("math/bits.deBruijn32tab", Rows.laid_math_bits_deBruijn32tab), ("math/bits.deBruijn64tab", Rows.laid_math_bits_deBruijn64tab), ("internal/strconv.uint64pow10", Rows.laid_internal_strconv_uint64pow10), ("stillroom/crc.nibbles", Rows.laid_stillroom_crc_nibbles)] W) : Tabs W := by
  have h' : laidMet Tryz.prog [("math/bits.deBruijn32tab", Rows.laid_math_bits_deBruijn32tab), ("math/bits.deBruijn64tab", Rows.laid_math_bits_deBruijn64tab), ("internal/strconv.uint64pow10", Rows.laid_internal_strconv_uint64pow10), ("stillroom/crc.nibbles", Rows.laid_stillroom_crc_nibbles)] W := h
  have f1 := laidMet.filter (fun x => x.1 == "stillroom/crc.nibbles") h'
  have f2 := laidMet.filter (fun x => x.1 == "internal/strconv.uint64pow10") h'
  have e1 : (List.filter (fun x : String × DataW Unit => x.1 == "stillroom/crc.nibbles") [("math/bits.deBruijn32tab", Rows.laid_math_bits_deBruijn32tab), ("math/bits.deBruijn64tab", Rows.laid_math_bits_deBruijn64tab), ("internal/strconv.uint64pow10", Rows.laid_internal_strconv_uint64pow10), ("stillroom/crc.nibbles", Rows.laid_stillroom_crc_nibbles)]) = [("stillroom/crc.nibbles", Rows.laid_stillroom_crc_nibbles)] := by simp
  have e2 : (List.filter (fun x : String × DataW Unit => x.1 == "internal/strconv.uint64pow10") [("math/bits.deBruijn32tab", Rows.laid_math_bits_deBruijn32tab), ("math/bits.deBruijn64tab", Rows.laid_math_bits_deBruijn64tab), ("internal/strconv.uint64pow10", Rows.laid_internal_strconv_uint64pow10), ("stillroom/crc.nibbles", Rows.laid_stillroom_crc_nibbles)]) = [("internal/strconv.uint64pow10", Lib.tabData .u64 Lib.pow10Tab)] := by simp [powData]
  rw [e1] at f1
  rw [e2] at f2
  have t1 : Lib.TabIs Tryz.prog W "stillroom/crc.nibbles" .u32 crc.table := Lib.tabIs_of_head (rest := []) gTab gTabType Tryz.underlying171 Tryz.underlying22 cellsOne cellsTab f1
  have t2 : Lib.TabIs Tryz.prog W "internal/strconv.uint64pow10" .u64 Lib.pow10Tab := Lib.tabIs_of_head (rest := []) gPow gPowType Tryz.underlying169 Tryz.underlying38 cellsU64 cellsPow f2
  exact ⟨fun k hk => t1.cell gTab k (by simpa [crc.table] using hk), t2⟩
end Go.Proofs.YtdonblfidohncaaGreatDoor.scan
