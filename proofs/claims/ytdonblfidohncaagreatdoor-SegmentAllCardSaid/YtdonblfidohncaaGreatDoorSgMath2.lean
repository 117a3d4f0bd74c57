/-
  PLAIN MATHEMATICS OF SEGMENTS, OF ANY BYTES (P8.1): what is told is read at its place.
-/
import Derived.Test.YtdonblfidohncaaGreatDoorSgMath
namespace Go.Proofs.YtdonblfidohncaaGreatDoor.scan
open Go.Proofs.YtdonblfidohncaaGreatDoor.recd Go.Proofs.YtdonblfidohncaaGreatDoor.disk
set_option linter.unusedVariables false

theorem dec_size {l : List Int} (h : (dec l).2.2 = 0) : (dec l).2.1 = 39 + lenOf l := by
  unfold dec at h ⊢
  split at h
  · cases h
  · rename_i h1
    rw [if_neg h1]
    split at h
    · cases h
    · rename_i h2
      rw [if_neg h2]
      split at h
      · cases h
      · rename_i h3
        rw [if_neg h3]
        split at h
        · cases h
        · rename_i h4
          rw [if_neg h4]
          split at h
          · cases h
          · rename_i h5
            rw [if_neg h5]
/-- A record that stands at the beginning stands there, too, when what comes behind it is cut. -/
theorem dec_take {l : List Int} (h : (dec l).2.2 = 0) (m : Nat) (hm : (dec l).2.1 ≤ m) : dec (l.take m) = dec l := by
  have hk := dec_ok h
  have hs := dec_size h
  have e : lenOf (l.take m) = lenOf l := by
    unfold lenOf
    rw [sub_take l m 31 35 (by omega)]
  have hl : (l.take m).length = min m l.length := List.length_take ..
  have := dec_app (l.take m) (l.drop m) (by omega) (by rw [e]; omega)
  rw [List.take_append_drop] at this
  exact this.symm
theorem frontF_mem (b : List Int) : ∀ (k p : Nat), ∀ x ∈ (frontF b k p).1, (dec (b.drop x.at_)).2.2 = 0 ∧ (dec (b.drop x.at_)).1 = x.r ∧ x.at_ < b.length
  | 0, p, x, hx => by cases hx
  | k + 1, p, x, hx => by
    unfold frontF at hx
    split at hx
    · rename_i hd
      have := dec_ok hd
      rw [List.length_drop] at this
      rcases List.mem_cons.1 hx with rfl | hx
      · exact ⟨hd, rfl, by show p < b.length; omega⟩
      · exact frontF_mem b k _ x hx
    · cases hx
theorem readS_front {b : List Int} {t : Nat} {x : Fd} (hx : x ∈ (segF t b).1) : readS t b (x.at_ : Int) = (x.r, 0) ∧ x.at_ < b.length ∧ x.r.body.size ≤ 1000 := by
  obtain ⟨h1, h2⟩ := ownOf_mem hx
  obtain ⟨h3, h4, h5⟩ := frontF_mem b _ 0 x h1
  have hk := dec_ok h3
  rw [List.length_drop] at hk
  have hd : dec ((b.drop x.at_).take (min 1039 (b.length - x.at_))) = dec (b.drop x.at_) := dec_take h3 _ (by omega)
  refine ⟨?_, h5, by rw [← h4]; exact hk.2.2.2⟩
  unfold readS
  rw [if_neg (by omega), Int.toNat_natCast, hd, if_pos ⟨h3, by rw [h4]; exact h2⟩, h4]
end Go.Proofs.YtdonblfidohncaaGreatDoor.scan
