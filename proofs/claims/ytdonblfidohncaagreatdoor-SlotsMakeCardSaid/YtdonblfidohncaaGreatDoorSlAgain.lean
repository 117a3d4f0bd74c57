/-
  THE WALK OF 'stillroomlaw9.SlotsAgain' (P9.1).
-/
import Derived.Test.YtdonblfidohncaaGreatDoorSlBeg
import Derived.Test.YtdonblfidohncaaGreatDoorMDkC
namespace Go.Proofs.YtdonblfidohncaaGreatDoor.slots
open Go.RowKit Go.Proofs.YtdonblfidohncaaGreatDoor.disk Go.Proofs.YtdonblfidohncaaGreatDoor.recd Go.Proofs.YtdonblfidohncaaGreatDoor.num
set_option linter.unusedVariables false

def firstL9 : List Int := [102, 105, 114, 115, 116]
def lastL9 : List Int := [108, 97, 115, 116]
theorem firstByte : Byte firstL9 := by intro c hc; simp [firstL9] at hc; rcases hc with rfl | rfl | rfl | rfl | rfl <;> omega
theorem lastByte : Byte lastL9 := by intro c hc; simp [lastL9] at hc; rcases hc with rfl | rfl | rfl | rfl <;> omega
theorem str_first : disk.str firstL9 = ⟨#[102, 105, 114, 115, 116]⟩ := by rfl
theorem str_last : disk.str lastL9 = ⟨#[108, 97, 115, 116]⟩ := by rfl
theorem run_maxl (w : World) (a : Int) : (Builtin.max_ #[3, 3] 3 #[.int .i64 (-1), .int .i64 a]).run Tryz.prog w = .ok (.int .i64 (max (-1) a)) w := by
  have e : max (-1) a = if -1 < a then a else (-1 : Int) := by split <;> omega
  rw [e]
  by_cases h : -1 < a <;> simp [Builtin.max_, Builtin.max2, h]
/-- The loop under way. -/
structure Goes (W : World) (s p b i : Nat) (now : Value) (wr : World) : Prop where
  some_ : ∃ tv x t k tr S A f, Slot W (fun _ => False) wr s p aB tv x t k tr S (9 + 4 * i) b A f ∧ tr ≤ 1 + i ∧ now = .string (disk.str x)
theorem piece_far {w : World} {a : Option Addr} {len cap : Nat} {l : List Int} (h : Row w a len cap l) : ∀ g off, a = some ⟨g, off, none⟩ → l ≠ [] → False ∨ g < w.heap.size := fun g off e hne => .inr (by
  obtain ⟨b2, off2, e2, h2⟩ := h.bytes.lt hne
  rw [e] at e2
  injection e2 with e2
  injection e2 with e2
  omega)

end Go.Proofs.YtdonblfidohncaaGreatDoor.slots
