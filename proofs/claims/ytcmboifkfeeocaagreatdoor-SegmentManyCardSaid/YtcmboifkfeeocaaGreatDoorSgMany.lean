/-
  THE WALK OF 'stillroomlaw8.SegmentMany' (P8.1).
-/
import Derived.Test.YtcmboifkfeeocaaGreatDoorSgManyM
import Derived.Test.YtcmboifkfeeocaaGreatDoorSgTwo
import Derived.Test.YtcmboifkfeeocaaGreatDoorSgBegun
namespace Go.Proofs.YtcmboifkfeeocaaGreatDoor.scan
open Go.RowKit Go.Proofs.YtcmboifkfeeocaaGreatDoor.disk Go.Proofs.YtcmboifkfeeocaaGreatDoor.recd Go.Proofs.YtcmboifkfeeocaaGreatDoor.seg
set_option linter.unusedVariables false

theorem within_m : within 1048576 = 1048576 := by decide
/-- The outer loop under way: m records are appended. -/
structure Lots (W : World) (p s b m : Nat) (A : FileA) (y : Nat) (atv : Value) (wr : World) : Prop where
  held : Held W (fun k => k = s ∨ atv.ownBlock = some k) wr p (SegSt (within 1048576) 4 1 b A (-1) (2 + y) 0) (3 + 2 * y)
  seg : SegAt wr s p (nameB 4 1) 4 true
  at_ : OwnS fInt wr atv (placesF 0 (many m))
  bytes : A.now = cat (many m)
  le : y ≤ m
  newer : ∀ g, atv.ownBlock = some g → s < g
theorem Lots.later {W : World} {p s b m y : Nat} {A : FileA} {atv : Value} {wr w' : World} (h : Lots W p s b m A y atv wr) (hb : Below wr.heap.size wr w') : Lots W p s b m A y atv w' := ⟨h.held.later hb, h.seg.later hb, h.at_.later hb, h.bytes, h.le, h.newer⟩
/-- What a group appended leaves, its places being put behind the others. -/
def LotsOut (W : World) (p s b k m2 y : Nat) (atv : Value) (e : Ending) (w' : World) : Prop :=
  ∃ (A' : FileA) (g cap : Nat), e = .returned (.tuple #[.slice (some ⟨g, 0, none⟩) k cap, .int .i64 0]) ∧ ∃ v' w2, (Builtin.append_ #[35, 35] 35 #[atv, .slice (some ⟨g, 0, none⟩) k cap]).run Tryz.prog w' = .ok v' w2 ∧ Lots W p s b m2 A' (y + 1) v' w2
set_option maxRecDepth 100000 in
theorem Lots.append {W : World} {p s b m m2 y : Nat} {A : FileA} {atv : Value} {wr : World} (h : Lots W p s b m A y atv wr) (hT : Tabs W) (hW : W.heap.size ≤ s) (h1 : m < m2) (h2 : m2 ≤ 60) (a : Option Addr) (k cap : Nat) (hk : m2 - m = k) (hr : RecRow wr a k cap (fun i => (span m m2).getD i zeroRec)) :
    Calls Tryz.prog 9 #[.pointer (some ⟨s, 0, none⟩), .slice a k cap] wr fun e w' => LotsOut W p s b k m2 y atv e w' := by
  have hsl : (span m m2).length = k := by rw [span_length]; exact hk
  have hne : span m m2 ≠ [] := fun e => by rw [e] at hsl; simp at hsl; omega
  have hone : ∀ x ∈ span m m2, OneOf 4 x := fun x hx => by obtain ⟨j, hj, rfl⟩ := span_mem hx; exact mk_of (by omega)
  have hAl : A.now.length = (cat (many m)).length := by rw [h.bytes]
  have hml : (cat (many m)).length ≤ 60 * 1039 := by
    have := cat_le (gs := many m) fun r hr => (many_one (by omega) r hr).2
    rw [many_length] at this
    omega
  have hsc : (cat (span m m2)).length ≤ 60 * 1039 := by
    have := cat_le (gs := span m m2) fun r hr => (hone r hr).2
    rw [hsl] at this
    omega
  have hle := h.le
  rw [← hsl] at hr
  have C := segapp_row hT h.held (by omega) h.seg (.inl rfl) (span m m2) hne hone (by omega) a cap hr (by decide) (by rw [within_m]; omega)
  rw [hsl] at C
  refine C.mono ?_
  rintro e w' ⟨v, rfl, o, n, hh, hkp⟩
  have hpl : (placesF A.now.length (span m m2)).length = k := by rw [placesF_length, hsl]
  obtain ⟨g, c2, hv⟩ : ∃ g c2, v = .slice (some ⟨g, 0, none⟩) k c2 := by
    rcases o.form with ⟨_, e⟩ | ⟨g, c2, e, _⟩
    · rw [e] at hpl; simp at hpl; omega
    · rw [hpl] at e; exact ⟨g, c2, e⟩
  subst hv
  have hat := h.at_.same fun g' hg' => hkp g' (.inr hg')
  obtain ⟨v', w2, r2, o2, g2, hb2⟩ := OwnS.puts hat g k c2 _ o hpl (by rw [placesF_length, many_length]; omega) (by omega)
  refine ⟨A.write A.now.length (cat (span m m2)), g, c2, rfl, v', w2, r2, ?_⟩
  rw [show less (-1) = -1 from rfl, show (2 : Int) + (y : Int) + 1 = 2 + ((y + 1 : Nat) : Int) by omega, show 3 + 2 * y + 2 = 3 + 2 * (y + 1) by omega] at hh
  have hgs : g < w'.heap.size := o.lt rfl
  have hb0 := hh.below
  refine ⟨held_stay hh g2.size (fun k' hk' => g2.block k' hk'.2.1 (fun e => hk'.2.2 (.inl (.inr e.symm)))) (hb0.grown g2 hb0.size (fun g' hg' => by have := h.newer g' hg'; omega)) (fun k' hk' => ?_) (fun k' hk' e => ?_), ?_, ?_, ?_, by omega, ?_⟩
  · rcases hk' with rfl | hk'
    · exact Nat.lt_of_lt_of_le (hh.user _ (.inl (.inl rfl))) g2.size
    · exact o2.lt hk'
  · rcases e with rfl | e
    · exact hk'.2.2 (.inl (.inl rfl))
    · rcases hb2 with hb2 | hb2
      · exact hk'.2.2 (.inl (.inr (by rw [← hb2]; exact e)))
      · rw [hb2] at e
        injection e with e
        have := hk'.2.1
        omega
  · have h5 : SegAt w' s p (nameB 4 1) 4 true := h.seg.kept (.inl rfl) hkp
    exact h5.same (g2.block s h5.cells.lt fun e => by have := h.newer s e.symm; omega)
  · have e1 : placesF 0 (many m) ++ placesF A.now.length (span m m2) = placesF 0 (many m2) := by
      rw [← many_span (i := m) (k := m2) (by omega), placesF_append, encs_cat fun r hr => (many_one (by omega) r hr).2, hAl, Nat.zero_add]
    rw [e1] at o2
    exact o2
  · rw [FileA.write_end, h.bytes, ← cat_append, many_span (by omega)]
  · intro g' hg'
    have hsw := (h.seg.kept (X := fun k => k = s ∨ atv.ownBlock = some k) (.inl rfl) hkp).cells.lt
    rcases hb2 with hb2 | hb2
    · exact h.newer g' (by rw [← hb2]; exact hg')
    · rw [hb2] at hg'
      injection hg' with hg'
      omega
end Go.Proofs.YtcmboifkfeeocaaGreatDoor.scan
