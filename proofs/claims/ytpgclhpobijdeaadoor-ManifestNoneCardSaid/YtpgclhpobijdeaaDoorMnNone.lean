/-
  THE WALK OF 'stillroomlaw10.ManifestNone' (P10.2).
-/
import Derived.Test.YtpgclhpobijdeaaDoorMnBegun
namespace Go.Proofs.YtpgclhpobijdeaaDoor.man
open Go.RowKit Go.Proofs.YtpgclhpobijdeaaDoor.disk Go.Proofs.YtpgclhpobijdeaaDoor.recd Go.Proofs.YtpgclhpobijdeaaDoor.num Go.Proofs.YtpgclhpobijdeaaDoor.scan Go.Proofs.YtpgclhpobijdeaaDoor.slots
set_option linter.unusedVariables false

theorem start_create_man {b : Nat} : (slots.start (-1)).create aN b = (0, disk.One 100000 aN b ⟨[], [], []⟩ [] [⟨some b, [], aN⟩] (-1) 1 0) := by
  unfold St.create
  rw [if_neg (by decide), if_neg (by rw [aN_good]; simp), if_neg (by show ¬ (_ ∧ 400 ≤ 0); omega)]
  rfl
set_option maxRecDepth 100000 in
set_option maxHeartbeats 1000000 in
theorem manifestnone (w : World) (hT : crc.Tab w) : Calls Tryd.prog 6 #[] w fun e w' => e = .returned (.bool true) ∧ Below w.heap.size w w' := by
  have HT := Lib.hid hT
  clear hT
  go_enter Tryd.func6, Tryd.ntmps6
  go_wp2_with fail
  refine (new_any w 100000).mono ?_
  rintro e w1 ho
  obtain ⟨p, rfl, h1, _⟩ := held_new (W := w) (X := fun _ => False) (fun _ e => e.elim) (Below.refl _ _) ho
  have h1 : Held w (fun _ => False) w1 p (slots.start (-1)) 0 := h1
  have C1 := Lib.hid (manOpen_none w1 p _ _ h1 rfl)
  have C2 := Lib.hid (held_create h1 (by omega) aB aB_fit)
  clear ho h1
  go_wp2_with fail
  refine C1.out.mono ?_
  rintro e w2 ⟨rfl, rfl⟩
  go_wp2_with fail
  refine C2.out.mono ?_
  rintro e w2 ⟨b, _, rfl, h2, _⟩
  rw [aB_data, start_create_man] at h2 ⊢
  have C3 := Lib.hid (manOpen_short w2 p _ _ h2 b One.look (by rw [One.file]; decide))
  have C4 := Lib.hid (manCreate_exists w2 p _ _ h2 b One.look)
  have B2 := Lib.hid h2.below
  clear h2 C1 C2
  go_wp2_with fail
  refine C3.out.mono ?_
  rintro e w3 ⟨rfl, rfl⟩
  go_wp2_with fail
  refine C4.out.mono ?_
  rintro e w3 ⟨rfl, b3⟩
  have B3 := Lib.hid (B2.out.trans (b3.mono B2.out.size))
  clear b3 C3 C4
  go_wp2_with fail
  refine (get_nil w3 1).mono ?_
  rintro e w4 ⟨b4, ⟨rfl, _⟩ | ⟨x, _, _, hx, _⟩⟩
  · have B4 := Lib.hid (B3.out.trans (b4.mono B3.out.size))
    clear b4
    unfold zten
    have ba : Below w4.heap.size w4 (w4.alloc (.cells #[.int .u32 0, .int .u64 0, .int .i64 0, .int .u64 0, .int .i64 0, .slice none 0 0] 34)) := (Below.refl _ _).alloc (Nat.le_refl _) _
    have B4 := Lib.hid (B4.out.trans (ba.mono B4.out.size))
    have CB := Lib.hid (manBegun _ (HT.out.later B4.out))
    clear ba
    go_wp2_with fail
    refine CB.out.mono ?_
    rintro e w5 ⟨rfl, b5⟩
    have B5 := Lib.hid (B4.out.trans (b5.mono B4.out.size))
    clear b5 CB
    go_wp2_with fail
    refine (one_any w5 1).mono ?_
    rintro e w6 ⟨h6, rfl, _, _, _, b6⟩
    have B6 := Lib.hid (B5.out.trans (b6.mono B5.out.size))
    have CP := Lib.hid (put_nil w6 ⟨oneT 1, some ⟨h6, 0, none⟩, 2, 2⟩)
    clear b6
    unfold TS.val oneT at *
    simp only at CP ⊢
    go_wp2_with fail
    refine CP.out.mono ?_
    rintro e w7 ⟨rfl, b7⟩
    have B7 := Lib.hid (B6.out.trans (b7.mono B6.out.size))
    clear b7 CP
    go_wp2_with fail
    refine (all_nil w7).mono ?_
    rintro e w8 ⟨rfl, rfl⟩
    go_wp2_with fail
    go_ret
    exact ⟨rfl, B7.out⟩
  · cases hx
end Go.Proofs.YtpgclhpobijdeaaDoor.man
