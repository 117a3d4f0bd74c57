/-
  THE WALK OF 'stillroomlaw9.SlotsNone' (P9.1).
-/
import Derived.Test.YtdonblfidohncaaDoorSlBeg
namespace Go.Proofs.YtdonblfidohncaaDoor.slots
open Go.RowKit Go.Proofs.YtdonblfidohncaaDoor.disk Go.Proofs.YtdonblfidohncaaDoor.recd Go.Proofs.YtdonblfidohncaaDoor.num
set_option linter.unusedVariables false

theorem start_name : (start (-1)).create aN 0 = (start (-1)).create aN 0 := rfl
theorem start_create_a {b : Nat} : (start (-1)).create aN b = (0, disk.One 100000 aN b ⟨[], [], []⟩ [] [⟨some b, [], aN⟩] (-1) 1 0) := by
  unfold St.create
  rw [if_neg (by decide), if_neg (by rw [aN_good]; simp), if_neg (by show ¬ (_ ∧ 400 ≤ 0); omega)]
  rfl
set_option maxRecDepth 100000 in
set_option maxHeartbeats 1000000 in
theorem slotsnone (w : World) (hT : crc.Tab w) : Calls Tryd.prog 5 #[] w fun e w' => e = .returned (.bool true) ∧ Below w.heap.size w w' := by
  have HT := Lib.hid hT
  clear hT
  go_enter Tryd.func5, Tryd.ntmps5
  go_wp2_with fail
  refine (new_any w 100000).mono ?_
  rintro e w1 ho
  obtain ⟨p, rfl, h1, _⟩ := held_new (W := w) (X := fun _ => False) (fun _ e => e.elim) (Below.refl _ _) ho
  have h1 : Held w (fun _ => False) w1 p (start (-1)) 0 := h1
  have C1 := Lib.hid (open_none w1 p _ _ h1 aB aB_fit rfl)
  have C2 := Lib.hid (held_create h1 (by omega) aB aB_fit)
  clear ho h1
  go_wp2_with fail
  refine C1.out.mono ?_
  rintro e w2 ⟨rfl, rfl⟩
  go_wp2_with fail
  refine C2.out.mono ?_
  rintro e w2 ⟨b, _, rfl, h2, _⟩
  rw [aB_data, start_create_a] at h2 ⊢
  have C3 := Lib.hid (open_short w2 p _ _ h2 aB aB_fit b One.look (by rw [One.file]; decide))
  have C4 := Lib.hid (create_exists w2 p _ _ h2 aB aB_fit b One.look none 0 0 (by omega))
  have B2 := Lib.hid h2.below
  clear h2 C1 C2
  go_wp2_with fail
  refine C3.out.mono ?_
  rintro e w3 ⟨rfl, rfl⟩
  go_wp2_with fail
  refine C4.out.mono ?_
  rintro e w3 ⟨rfl, rfl⟩
  obtain ⟨w4, r4, o4, b4⟩ := disk.run_make_bytes w2 4081 (by omega)
  have r4' : (Instr.makeSlice 33 (.int .i64 4081) (.int .i64 4081)).run Tryd.prog w2 = .ok (.slice (some ⟨w2.heap.size, 0, none⟩) 4081 4081) w4 := r4
  have B4 := Lib.hid (B2.out.trans (b4.mono B2.out.size))
  clear o4 b4 r4 C3 C4
  go_wp2_with fail
  refine (create_large w4 _ _ _ 4081 4081 (by omega) (by omega)).mono ?_
  rintro e w5 ⟨rfl, rfl⟩
  have CB := Lib.hid (begun9 w4 (HT.out.later B4.out))
  clear r4'
  go_wp2_with fail
  refine CB.out.mono ?_
  rintro e w5 ⟨rfl, b5⟩
  have B5 := Lib.hid (B4.out.trans (b5.mono B4.out.size))
  clear b5
  go_wp2_with fail
  refine (save_nil w5 _).mono ?_
  rintro e w6 ⟨rfl, rfl⟩
  go_wp2_with fail
  refine (text_nil w5).mono ?_
  rintro e w6 ⟨rfl, rfl⟩
  go_wp2_with fail
  refine (turn_nil w5).mono ?_
  rintro e w6 ⟨rfl, rfl⟩
  go_wp2_with fail
  go_ret
  exact ⟨rfl, B5.out⟩
end Go.Proofs.YtdonblfidohncaaDoor.slots
