/-
  CONTRACT of stillroomlaw9.begun: two texts.
-/
import Derived.Test.YtpgclhpobijdeaaDoorSlBegun
import Derived.Test.YtpgclhpobijdeaaDoorMBase
import Derived.Lib.SlBytesConst
namespace Go.Proofs.YtpgclhpobijdeaaDoor.slots
open Go.RowKit Go.Proofs.YtpgclhpobijdeaaDoor.disk Go.Proofs.YtpgclhpobijdeaaDoor.recd Go.Proofs.YtpgclhpobijdeaaDoor.num
set_option linter.unusedVariables false

/-- New bytes. -/
theorem text_new (w : World) (cs : Array Value) (fr : Nat × Nat) (l : List Int) (h : cs = (u8s l).toArray) : Leads (w.alloc (.cells cs 5 fr)) (some ⟨w.heap.size, 0, none⟩) l ∧ Below w.heap.size w (w.alloc (.cells cs 5 fr)) := by
  subst h
  exact ⟨leads_cells (heap_alloc_new w _), (Below.refl _ _).alloc (Nat.le_refl _) _⟩
theorem new_lt (w : World) (o : Obj) : w.heap.size < (w.alloc o).heap.size := by simp
/-- What Create leaves on a new disk that is not told to fail. -/
def Made1 (W : World) (X : Nat → Prop) (w : World) (p : Nat) (x : List Int) (e : Ending) (w' : World) : Prop :=
  Kept X w w' ∧ ∃ s tv b S' A, e = .returned (.tuple #[.pointer (some ⟨s, 0, none⟩), .int .i64 0]) ∧ Slot W X w' s p aB tv x 1 0 1 S' 9 b A (-1) ∧ Strict A 0 1 ∧ A = ⟨A.now, A.now, []⟩
theorem make_one {W : World} {X : Nat → Prop} {w : World} {p : Nat} {x : List Int} (hx : x.length ≤ 4080) (hb : Byte x) {e : Ending} {w' : World} (h : MakeOut W X w p (-1) x (splice (List.replicate 8192 0) 0 (slotE 1 x)) e w') : Made1 W X w p x e w' := by
  obtain ⟨h1, S', ⟨s, tv, b, h2, h3⟩ | ⟨_, h2, _⟩⟩ := h
  · exact ⟨h1, s, tv, b, S', _, h2, h3, (keeps_first hx hb).2, rfl⟩
  · exact absurd rfl h2

def oneL : List Int := [111, 110, 101]
def twoL : List Int := [116, 119, 111]
theorem oneByte : Byte oneL := by intro c hc; simp [oneL] at hc; rcases hc with rfl | rfl | rfl <;> omega
theorem twoByte : Byte twoL := by intro c hc; simp [twoL] at hc; rcases hc with rfl | rfl | rfl <;> omega
theorem str_two : disk.str twoL = ⟨#[116, 119, 111]⟩ := by rfl

end Go.Proofs.YtpgclhpobijdeaaDoor.slots
