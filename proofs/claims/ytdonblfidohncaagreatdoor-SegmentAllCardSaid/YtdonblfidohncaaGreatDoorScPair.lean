/-
  TWO ROWS OF THE CALL's OWN THAT GROW IN TURN: bytes, and numbers.
-/
import Derived.Test.YtdonblfidohncaaGreatDoorMScan
namespace Go.Proofs.YtdonblfidohncaaGreatDoor.scan
open Go.RowKit Go.Proofs.YtdonblfidohncaaGreatDoor.disk Go.Proofs.YtdonblfidohncaaGreatDoor.recd Go.Proofs.YtdonblfidohncaaGreatDoor.num
set_option linter.unusedVariables false

def fInt : Form Nat := { e := 3, s := 35, sz := 1, by_ := 8, cells := fun n => [.int .i64 (n : Int)], zero := .int .i64 0, under := Tryz.underlying35, info := by kernel_rfl, zeros := rfl, some_ := by decide, small := by decide, length := fun _ => rfl, one := by intro x u hu; rw [List.mem_singleton.1 hu]; rfl }

structure Pair (w0 : World) (l : List Int) (es : List Nat) (bv ev : Value) (w : World) : Prop where
  grow : Grow w0 l bv w
  ends : GrowS fInt w0 es ev w
  apart : ∀ g, bv.ownBlock = some g → ev.ownBlock ≠ some g
theorem Pair.start (w : World) : Pair w [] [] (.slice none 0 0) (.slice none 0 0) w :=
  ⟨⟨Own.none_ _, (fun g hg => by cases hg), Below.refl _ _⟩, GrowS.start fInt w, fun g hg => by cases hg⟩
theorem Pair.later {w0 w w1 : World} {l : List Int} {es : List Nat} {bv ev : Value} (h : Pair w0 l es bv ev w) (hb : Below w.heap.size w w1) : Pair w0 l es bv ev w1 := ⟨h.grow.later hb, h.ends.later hb, h.apart⟩
/-- What a call made is appended to the bytes. -/
theorem Pair.putB {w0 w w1 : World} {l m : List Int} {es : List Nat} {bv ev : Value} {e : Ending} (h : Pair w0 l es bv ev w) (n : Nat) (hn : m.length = n) (hm : Made w m e w1) (hs : l.length + n ≤ 1000000000) :
    ∃ a cap v' w', e = .returned (.slice a n cap) ∧ (Builtin.append_ #[57, 57] 57 #[bv, .slice a n cap]).run Tryz.prog w1 = .ok v' w' ∧ Pair w0 (l ++ m) es v' ev w' := by
  subst hn
  obtain ⟨u, rfl, o, nb, bl⟩ := hm
  obtain ⟨a, cap, rfl, _, _, hn, hl, _⟩ := o.form
  have h1 := h.later bl
  obtain ⟨v', w', hr, ho, hg, hv⟩ := append_row h1.grow.own a m.length cap m hl rfl (fun e => (hn e).2) hs
  have b1 : Below w0.heap.size w0 w' := h1.grow.below.grown hg h1.grow.below.size h1.grow.new_
  refine ⟨a, cap, v', w', rfl, hr, h.grow.step bl ho hg hv, ⟨h1.ends.own.same fun g hgg => hg.block g (h1.ends.own.lt hgg) (fun e => h.apart g e.symm hgg), h1.ends.new_, b1⟩, fun g hg' he => ?_⟩
  rcases hv with hv | hv
  · exact h.apart g (by rw [← hv]; exact hg') he
  · rw [hv] at hg'
    injection hg' with hg'
    have := h1.ends.own.lt he
    omega
/-- A number is appended to the others: it lies in a block of its own, made just now. -/
theorem Pair.putE {w0 w : World} {l : List Int} {es : List Nat} {bv ev : Value} (h : Pair w0 l es bv ev w) (x : Nat) (g cap : Nat) (hg : g = w.heap.size) (hn : es.length ≤ 1000000000) :
    ∃ v' w', (Builtin.append_ #[35, 35] 35 #[ev, .slice (some ⟨g, 0, none⟩) 1 cap]).run Tryz.prog (w.alloc (.cells #[.int .i64 (x : Int)] 3)) = .ok v' w' ∧ Pair w0 l (es ++ [x]) bv v' w' := by
  subst hg
  obtain ⟨v', w', h1, h2, h3, h4⟩ := h.ends.own.put x cap hn
  have b1 : Below w0.heap.size w0 (w.alloc (.cells #[.int .i64 (x : Int)] 3)) := h.grow.below.alloc h.grow.below.size _
  have k1 := h.later (w1 := w.alloc (.cells #[.int .i64 (x : Int)] 3)) ((Below.refl _ _).alloc (Nat.le_refl _) _)
  have b2 : Below w0.heap.size w0 w' := b1.grown h3 b1.size h.ends.new_
  have sz : (w.alloc (.cells #[.int .i64 (x : Int)] 3)).heap.size = w.heap.size + 1 := by simp
  refine ⟨v', w', h1, ⟨k1.grow.own.same fun g hgg => h3.block g (k1.grow.own.lt hgg) (fun e => h.apart g hgg e.symm), k1.grow.new_, b2⟩, ⟨h2, fun g hg => ?_, b2⟩, fun g hg' he => ?_⟩
  · rcases h4 with h4 | h4
    · exact h.ends.new_ g (by rw [← h4]; exact hg)
    · rw [h4] at hg
      injection hg with hg
      have := h.grow.below.size
      omega
  · rcases h4 with h4 | h4
    · exact h.apart g hg' (by rw [← h4]; exact he)
    · rw [h4] at he
      injection he with he
      have := h.grow.own.lt hg'
      omega
end Go.Proofs.YtdonblfidohncaaGreatDoor.scan
