/-
  'stillroomlaw8.SegmentAll' (P8.1, K1): what its loops hold.
-/
import Derived.Test.YtdonblfidohncaaGreatDoorSgAllM2
import Derived.Test.YtdonblfidohncaaGreatDoorSgTwo
import Derived.Test.YtdonblfidohncaaGreatDoorSgBegun
import Derived.Test.YtdonblfidohncaaGreatDoorSgGroup
import Derived.Test.YtdonblfidohncaaGreatDoorSgRowsIn
namespace Go.Proofs.YtdonblfidohncaaGreatDoor.scan
open Go.RowKit Go.Proofs.YtdonblfidohncaaGreatDoor.disk Go.Proofs.YtdonblfidohncaaGreatDoor.recd Go.Proofs.YtdonblfidohncaaGreatDoor.seg
set_option linter.unusedVariables false

theorem finds_snoc' : ∀ (p : Nat) (gs : List Rec) (r : Rec), finds p (gs ++ [r]) = finds p gs ++ [⟨p + (cat gs).length, r⟩]
  | p, [], r => by simp [finds, cat]
  | p, x :: gs, r => by
    rw [List.cons_append, finds, finds_snoc' _ gs r, finds, List.cons_append, cat_cons, List.length_append, Nat.add_assoc, encL_length]
theorem finds_snoc (gs : List Rec) (r : Rec) : finds 0 (gs ++ [r]) = finds 0 gs ++ [⟨(cat gs).length, r⟩] := by
  have := finds_snoc' 0 gs r
  rw [Nat.zero_add] at this
  exact this
/-- The law's segment and its rows: the finds so far, and blocks E of the round. -/
structure In (W : World) (p s b t : Nat) (A : FileA) (c : Int) (n : Nat) (E : Nat → Prop) (lv : Value) (F : List Fd) (wr : World) : Prop where
  held : Held W (fun k => (k = s ∨ lv.ownBlock = some k) ∨ E k) wr p (SegSt (within 1048576) t 1 b A (-1) c 0) n
  seg : SegAt wr s p (nameB t 1) t true
  l_ : OwnS fR wr lv F
  far : ∀ g, lv.ownBlock = some g → s < g ∧ ¬ E g
  late : W.heap.size ≤ s
section
variable {W : World} {p s b t : Nat} {A : FileA} {c : Int} {n : Nat} {E E' : Nat → Prop} {lv : Value} {F : List Fd} {wr w' : World}
theorem In.later (h : In W p s b t A c n E lv F wr) (hb : Below wr.heap.size wr w') : In W p s b t A c n E lv F w' := ⟨h.held.later hb, h.seg.later hb, h.l_.later hb, h.far, h.late⟩
theorem In.fewer (h : In W p s b t A c n E lv F wr) (hE : ∀ k, E' k → E k) : In W p s b t A c n E' lv F wr := ⟨h.held.fewer fun k hk => hk.imp_right (hE k), h.seg, h.l_, fun g hg => ⟨(h.far g hg).1, fun e => (h.far g hg).2 (hE g e)⟩, h.late⟩
theorem In.mine (h : In W p s b t A c n E lv F wr) (hb : Below wr.heap.size wr w') : In W p s b t A c n (fun k => E k ∨ (wr.heap.size ≤ k ∧ k < w'.heap.size)) lv F w' :=
  ⟨(h.held.mine hb).fewer fun k hk => by
    rcases hk with hk | hk | hk
    · exact .inl (.inl hk)
    · exact .inl (.inr hk)
    · exact .inr hk, h.seg.later hb, h.l_.later hb, fun g hg => ⟨(h.far g hg).1, fun e => by
      rcases e with e | e
      · exact (h.far g hg).2 e
      · have := h.l_.lt hg; omega⟩, h.late⟩
/-- A find put behind the others. -/
theorem In.put (h : In W p s b t A c n E lv F wr) (hEs : ¬ E s) (x : Fd) (g cap : Nat) (hg : g = wr.heap.size) (hF : F.length ≤ 1000) :
    ∃ v' w', (Builtin.append_ #[32, 32] 32 #[lv, .slice (some ⟨g, 0, none⟩) 1 cap]).run Tryz.prog (wr.alloc (.cells (Fd.cells x).toArray 42)) = .ok v' w' ∧ In W p s b t A c n E v' (F ++ [x]) w' ∧ (∀ k, E k → w'.heap[k]? = wr.heap[k]?) := by
  subst hg
  obtain ⟨v', w', r1, o1, g1, hb1⟩ := h.l_.put x cap (by omega)
  have b0 : Below wr.heap.size wr (wr.alloc (.cells (Fd.cells x).toArray 42)) := (Below.refl _ _).alloc (Nat.le_refl _) _
  have h1 := h.later b0
  have hz : (wr.alloc (.cells (Fd.cells x).toArray 42)).heap.size = wr.heap.size + 1 := by simp
  have hsz := g1.size
  have key : ∀ k, k < (wr.alloc (.cells (Fd.cells x).toArray 42)).heap.size → lv.ownBlock ≠ some k → w'.heap[k]? = (wr.alloc (.cells (Fd.cells x).toArray 42)).heap[k]? := fun k hk hne => g1.block k hk fun e => hne e.symm
  refine ⟨v', w', r1, ⟨held_stay h1.held g1.size (fun k hk => key k hk.2.1 (fun e => hk.2.2 (.inl (.inr e)))) (h1.held.below.grown g1 h1.held.below.size fun g' hg' => by have := (h.far g' hg').1; have := h.late; omega) (fun k hk => ?_) (fun k hk e => ?_), h1.seg.same (key s h1.seg.cells.lt fun e => by have := (h.far s e).1; omega), o1, fun g' hg' => ?_, h.late⟩, fun k hk => ?_⟩
  · rcases hk with (rfl | hk) | hk
    · exact Nat.lt_of_lt_of_le h1.seg.cells.lt g1.size
    · exact o1.lt hk
    · exact Nat.lt_of_lt_of_le (h1.held.user k (.inr hk)) g1.size
  · rcases e with (e | e) | e
    · exact hk.2.2 (.inl (.inl e))
    · rcases hb1 with hb1 | hb1
      · exact hk.2.2 (.inl (.inr (by rw [← hb1]; exact e)))
      · rw [hb1] at e
        injection e with e
        have := hk.2.1
        omega
    · exact hk.2.2 (.inr e)
  · rcases hb1 with hb1 | hb1
    · exact h.far g' (by rw [← hb1]; exact hg')
    · rw [hb1] at hg'
      injection hg' with hg'
      have hsl := h.seg.cells.lt
      refine ⟨by omega, fun e => ?_⟩
      have := h.held.user g' (.inr e)
      omega
  · have hkl := h.held.user k (.inr hk)
    rw [key k (by omega) fun e => (h.far k e).2 hk]
    exact b0.block k hkl
end
end Go.Proofs.YtdonblfidohncaaGreatDoor.scan
