/-
  THE WALK OF 'stillroomlaw8.SegmentNone' (P8.1).
-/
import Derived.Test.YtcmboifkfeeocaaDoorSgBegun
namespace Go.Proofs.YtcmboifkfeeocaaDoor.scan
open Go.RowKit Go.Proofs.YtcmboifkfeeocaaDoor.disk Go.Proofs.YtcmboifkfeeocaaDoor.recd Go.Proofs.YtcmboifkfeeocaaDoor.seg
set_option linter.unusedVariables false

set_option maxRecDepth 100000 in
set_option maxHeartbeats 4000000 in
theorem segnone_any (w : World) (hT : Tabs w) : Calls Tryd.prog 6 #[] w fun e w' => e = .returned (.bool true) ∧ Below w.heap.size w w' := by
  have B0 : Hid (Below w.heap.size w w) := Below.refl _ _
  have HT := Lib.hid hT
  clear hT
  go_enter Tryd.func6, Tryd.ntmps6
  go_wp2_with fail
  refine (new_any w 1000).mono ?_
  rintro e w1 ho
  obtain ⟨p, rfl, h1, _⟩ := held_new (W := w) (X := fun _ => False) (fun _ e => e.elim) B0.out ho
  have H1 := Lib.hid h1
  clear ho h1 B0
  go_wp2_with fail
  refine (segcreate_range w1 _ _ _ (by omega)).mono ?_
  rintro e w2 ⟨rfl, rfl⟩
  go_wp2_with fail
  refine (segopen_none HT.out w1 p _ 0 H1.out 1 9 (by omega) (by omega) rfl).mono ?_
  rintro e w2 ⟨rfl, b2⟩
  have H2 := Lib.hid (H1.out.later b2)
  clear b2 H1
  go_wp2_with fail
  refine (segcreate_new HT.out w2 p 1000 H2.out 1 5 (by omega) (by omega)).mono ?_
  rintro e w3 ⟨b, s, rfl, _, h3, _, _⟩
  have H3 := Lib.hid h3
  clear h3 H2
  go_wp2_with fail
  refine (segcreate_exists HT.out w3 p _ 3 H3.out 1 5 (by omega) (by omega) b SegSt.look').mono ?_
  rintro e w4 ⟨rfl, b4⟩
  have B4 := Lib.hid (H3.out.below_out b4)
  clear b4 H3
  go_wp2_with fail
  refine (append_nil _ _).mono ?_
  rintro e w5 ⟨rfl, rfl⟩
  have b5 := laid_below (w := w4) #[.int .i64 2, .int .u32 0, .int .u64 0, .int .u64 0, .int .u64 0, .string ⟨#[]⟩] 33
  generalize w4.alloc (.cells #[.int .i64 2, .int .u32 0, .int .u64 0, .int .u64 0, .int .u64 0, .string ⟨#[]⟩] 33) = w5 at b5 ⊢
  have B5 := Lib.hid (B4.out.trans (b5.mono B4.out.size))
  clear b5 B4
  go_wp2_with fail
  refine (segread_nil w5 _).mono ?_
  rintro e w6 ⟨rfl, b6⟩
  rw [zeroRec_val]
  have B6 := Lib.hid (B5.out.trans (b6.mono B5.out.size))
  clear b6 B5
  go_wp2_with fail
  have b7 := laid_below (w := w6) #[.int .i64 0, .int .u32 0, .int .u64 0, .int .u64 0, .int .u64 0, .string ⟨#[]⟩] 33
  generalize w6.alloc (.cells #[.int .i64 0, .int .u32 0, .int .u64 0, .int .u64 0, .int .u64 0, .string ⟨#[]⟩] 33) = w7 at b7 ⊢
  have B7 := Lib.hid (B6.out.trans (b7.mono B6.out.size))
  clear b7 B6
  refine (records_nil w7).mono ?_
  rintro e w8 ⟨rfl, rfl⟩
  go_wp2_with fail
  refine (sbegun_any w7 (HT.out.later B7.out)).mono ?_
  rintro e w8 ⟨rfl, b8⟩
  have B8 := Lib.hid (B7.out.trans (b8.mono B7.out.size))
  clear b8 B7
  go_wp2_with fail
  refine (segsync_nil w8).mono ?_
  rintro e w9 ⟨rfl, rfl⟩
  go_wp2_with fail
  refine (segsize_nil w8).mono ?_
  rintro e w9 ⟨rfl, rfl⟩
  go_wp2_with fail
  refine (seg_name_none _ _ (by omega) w8).mono ?_
  rintro e w9 ⟨rfl, rfl⟩
  go_wp2_with fail
  go_ret
  exact ⟨rfl, B8.out⟩
end Go.Proofs.YtcmboifkfeeocaaDoor.scan
