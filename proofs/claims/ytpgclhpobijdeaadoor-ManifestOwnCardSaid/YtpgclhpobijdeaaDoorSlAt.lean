/-
  AN OPEN FILE OF TWO SLOTS in memory (P9.1); CONTRACTS of its Text and Turn, and of the calls of none.
-/
import Derived.Test.YtpgclhpobijdeaaDoorSlDisk
import Derived.Test.YtpgclhpobijdeaaDoorMDkB
import Derived.Test.YtpgclhpobijdeaaDoorMRec
namespace Go.Proofs.YtpgclhpobijdeaaDoor.slots
open Go.RowKit Go.Proofs.YtpgclhpobijdeaaDoor.disk Go.Proofs.YtpgclhpobijdeaaDoor.recd Go.Proofs.YtpgclhpobijdeaaDoor.num
set_option linter.unusedVariables false

def slCells (p : Nat) (nm : ByteArray) (tv : Value) (t k tr : Nat) : List Value := [.pointer (some ⟨p, 0, none⟩), .string nm, tv, .int .u64 (t : Int), .int .i64 (k : Int), .int .u64 (tr : Int)]
/-- How an open file lies in memory. -/
structure SlAt (w : World) (s p : Nat) (nm : ByteArray) (tv : Value) (x : List Int) (t k tr : Nat) : Prop where
  cells : Whole w s 86 (slCells p nm tv t k tr)
  text : Own w tv x
  byte : Byte x
  name : nm.size ≤ maxLen
  small : x.length ≤ 4080
  k1 : k ≤ 1
  turn : t ≤ tr
  tried : tr < 18446744073709551616
section
variable {w w' : World} {s p : Nat} {nm : ByteArray} {tv : Value} {x : List Int} {t k tr : Nat}
theorem SlAt.c0 (h : SlAt w s p nm tv x t k tr) : w.cell? ⟨s, 0, none⟩ = some (.pointer (some ⟨p, 0, none⟩)) := h.cells.at_ 0
theorem SlAt.c1 (h : SlAt w s p nm tv x t k tr) : w.cell? ⟨s, 1, none⟩ = some (.string nm) := h.cells.at_ 1
theorem SlAt.c2 (h : SlAt w s p nm tv x t k tr) : w.cell? ⟨s, 2, none⟩ = some tv := h.cells.at_ 2
theorem SlAt.c3 (h : SlAt w s p nm tv x t k tr) : w.cell? ⟨s, 3, none⟩ = some (.int .u64 (t : Int)) := h.cells.at_ 3
theorem SlAt.c4 (h : SlAt w s p nm tv x t k tr) : w.cell? ⟨s, 4, none⟩ = some (.int .i64 (k : Int)) := h.cells.at_ 4
theorem SlAt.c5 (h : SlAt w s p nm tv x t k tr) : w.cell? ⟨s, 5, none⟩ = some (.int .u64 (tr : Int)) := h.cells.at_ 5
theorem SlAt.same (h : SlAt w s p nm tv x t k tr) (e : w'.heap[s]? = w.heap[s]?) (e2 : ∀ g, tv.ownBlock = some g → w'.heap[g]? = w.heap[g]?) : SlAt w' s p nm tv x t k tr :=
  ⟨Whole.same h.cells e, h.text.same e2, h.byte, h.name, h.small, h.k1, h.turn, h.tried⟩
theorem SlAt.kept {X : Nat → Prop} (h : SlAt w s p nm tv x t k tr) (hX : X s) (hX2 : ∀ g, tv.ownBlock = some g → X g) (hk : Kept X w w') : SlAt w' s p nm tv x t k tr :=
  h.same (hk s hX) fun g hg => hk g (hX2 g hg)
theorem SlAt.later (h : SlAt w s p nm tv x t k tr) (hb : Below w.heap.size w w') : SlAt w' s p nm tv x t k tr :=
  h.same (hb.block s h.cells.lt) fun g hg => hb.block g (h.text.lt hg)
theorem SlAt.ne (h : SlAt w s p nm tv x t k tr) {g : Nat} (hg : tv.ownBlock = some g) : g ≠ s := by
  rintro rfl
  obtain ⟨a, cap, rfl, _, _, _, _, h5⟩ := h.text.form
  have hc := h.cells
  unfold Whole at hc
  rcases h5 with rfl | ⟨g', rfl, e, _⟩
  · cases hg
  · rw [hg] at e
    injection e with e
    subst e
    obtain ⟨cur, h1, _⟩ := Own.cells h.text rfl
    rw [hc] at h1
    injection h1 with h1
    injection h1 with _ h1
    exact absurd h1 (by decide)
theorem text_any (h : SlAt w s p nm tv x t k tr) : Calls Tryd.prog 28 #[.pointer (some ⟨s, 0, none⟩)] w (Made w x) := by
  have c2 := h.c2
  have C := Lib.hid (disk.clone_any w tv x h.text (by have := h.small; omega))
  clear h
  go_enter Tryd.func28, Tryd.ntmps28
  go_wp2_with fail
  refine C.out.mono ?_
  rintro e w1 ⟨v, rfl, h1, h2, h3⟩
  have FIN : Hid (Made w x (.returned v) w1) := ⟨v, rfl, h1, h2, h3⟩
  clear h1 h2 h3 c2 C
  go_wp2_with fail
  go_ret
  exact FIN.out
theorem text_nil (w : World) : Calls Tryd.prog 28 #[.pointer none] w fun e w' => e = .returned (.slice none 0 0) ∧ w = w' := by
  go_enter Tryd.func28, Tryd.ntmps28
  go_wp2_with fail
  go_ret
  exact ⟨rfl, rfl⟩
theorem save_nil (w : World) (v : Value) : Calls Tryd.prog 27 #[.pointer none, v] w fun e w' => e = .returned (.int .i64 10) ∧ w = w' := by
  go_enter Tryd.func27, Tryd.ntmps27
  go_wp2_with fail
  go_ret
  exact ⟨rfl, rfl⟩
end
end Go.Proofs.YtpgclhpobijdeaaDoor.slots
