/-
  AN OPEN FILE OF TWO SLOTS on a disk that a law holds (P9.1): Save's outcomes; CONTRACT of stillroomlaw9.begun.
-/
import Derived.Test.YtpgclhpobijdeaaDoorSlOpen
namespace Go.Proofs.YtpgclhpobijdeaaDoor.slots
open Go.RowKit Go.Proofs.YtpgclhpobijdeaaDoor.disk Go.Proofs.YtpgclhpobijdeaaDoor.recd Go.Proofs.YtpgclhpobijdeaaDoor.num
set_option linter.unusedVariables false

/-- The other slot has an elder text, or none. -/
def Strict (A : FileA) (k t : Nat) : Prop := ∀ t' y, slotD (slotAt A.now (1 - k)) = some (t', y) → t' < t
/-- The three ways of a Save. -/
def SaveCase (A : FileA) (f : Int) (x l : List Int) (t k tr : Nat) (c : Int) (A' : FileA) (f' : Int) (x' : List Int) (t' k' : Nat) : Prop :=
  (f = 0 ∧ c = 3 ∧ A' = A ∧ f' = -1 ∧ x' = x ∧ t' = t ∧ k' = k) ∨
  (f ≠ 0 ∧ less f = 0 ∧ c = 3 ∧ A'.now = saved A.now k tr l ∧ A'.old = A.old ∧ f' = -1 ∧ x' = x ∧ t' = t ∧ k' = k) ∨
  (f ≠ 0 ∧ less f ≠ 0 ∧ c = 0 ∧ A' = ⟨saved A.now k tr l, saved A.now k tr l, []⟩ ∧ f' = less (less f) ∧ x' = l ∧ t' = tr + 1 ∧ k' = 1 - k ∧ Strict A' k' t')
def SaveSlot (W : World) (E : Nat → Prop) (w : World) (s p : Nat) (nm : ByteArray) (x : List Int) (t k tr : Nat) (n b : Nat) (A : FileA) (f : Int) (l : List Int) (e : Ending) (w' : World) : Prop :=
  Kept E w w' ∧ ∃ (c : Int) (tv' : Value) (x' : List Int) (t' k' : Nat) (S' : St) (A' : FileA) (f' : Int), e = .returned (.int .i64 c) ∧ Slot W E w' s p nm tv' x' t' k' (tr + 1) S' (n + 4) b A' f' ∧ SaveCase A f x l t k tr c A' f' x' t' k'
theorem save_slot {W : World} {E : Nat → Prop} {w : World} {s p : Nat} {nm : ByteArray} {tv : Value} {x : List Int} {t k tr : Nat} {S : St} {n b : Nat} {A : FileA} {f : Int} (h : Slot W E w s p nm tv x t k tr S n b A f) (hn : n ≤ 1000000) (hT : crc.Tab W)
    (a : Option Addr) (m cap : Nat) (l : List Int) (hl : Leads w a l) (hb : Byte l) (hm : l.length = m) (hm2 : m ≤ 4080) (hmc : m ≤ cap) (ha : a = none → cap = 0) (hX : ∀ g off, a = some ⟨g, off, none⟩ → l ≠ [] → E g ∨ g < W.heap.size) (htr : tr < 1099511627776) :
    Calls Tryd.prog 27 #[.pointer (some ⟨s, 0, none⟩), .slice a m cap] w (SaveSlot W E w s p nm x t k tr n b A f l) := by
  refine (save_any h.held hn hT h.at_ h.free h.fresh h.late a m cap l hl hb hm hm2 hmc ha hX htr).mono ?_
  rintro e w' ⟨c, S', tv', x', t', k', rfl, h1, h2, h3, h4, h5⟩
  refine ⟨h3, ?_⟩
  have hlen := h.keeps.len
  have hk := h.keeps.k1
  have hel : (slotE (tr + 1) l).length = 16 + m := by rw [slotE_length, hm]
  have hne : slotE (tr + 1) l ≠ [] := fun e => by rw [e] at hel; simp at hel; omega
  have hin := write_in (A := A) (p := (1 - k) * 4096) hne (by omega)
  obtain ⟨kp1, kp2, kp3⟩ := h.keeps.save h.at_.turn (l := l) (by omega) hb (by omega)
  by_cases hf : f = 0
  · subst hf
    obtain ⟨e1, l1⟩ := h.lone.write_fails ((((1 - k) * 4096 : Nat)) : Int) (slotE (tr + 1) l)
    rcases h5 with ⟨_, rfl, rfl, rfl, rfl, rfl, rfl⟩ | ⟨h0, _⟩
    · exact ⟨_, tv', x', t', k', _, A, -1, rfl, ⟨h1, h2, l1, { h.keeps with other := fun t y e => Nat.le_succ_of_le (h.keeps.other t y e) }, h4, h.free, h.late⟩, .inl ⟨rfl, e1, rfl, rfl, rfl, rfl, rfl⟩⟩
    · rw [e1] at h0; cases h0
  · obtain ⟨e1, l1⟩ := h.lone.write hf ((1 - k) * 4096) (slotE (tr + 1) l) (by omega) (by omega)
    rcases h5 with ⟨h0, _⟩ | ⟨_, rfl, rfl, h6⟩
    · exact absurd e1 h0
    · by_cases hf2 : less f = 0
      · rw [hf2] at l1
        obtain ⟨e2, l2⟩ := l1.sync_fails
        rcases h6 with ⟨_, rfl, rfl, rfl, rfl⟩ | ⟨h0, _⟩
        · exact ⟨_, tv', x', t', k', _, A.write ((1 - k') * 4096) (slotE (tr + 1) l), -1, rfl, ⟨h1, h2, l2, by rw [hin.1]; exact kp3, h4, h.free, h.late⟩, .inr (.inl ⟨hf, hf2, e2, hin.1, hin.2, rfl, rfl, rfl, rfl⟩)⟩
        · rw [e2] at h0; cases h0
      · obtain ⟨e2, l2⟩ := l1.sync hf2
        rw [hin.1] at l2
        rcases h6 with ⟨h0, _⟩ | ⟨_, rfl, rfl, rfl⟩
        · exact absurd e2 h0
        · exact ⟨_, tv', x', _, _, _, _, _, rfl, ⟨h1, h2, l2, kp1, h4, h.free, h.late⟩, .inr (.inr ⟨hf, hf2, e2, rfl, rfl, rfl, rfl, rfl, kp2⟩)⟩

/-- Opened: of a disk of one file. -/
theorem open_slot {W : World} {E : Nat → Prop} {w : World} {p n : Nat} {S : St} {b : Nat} {A : FileA} {f : Int} {k T : Nat} {x : List Int} {tr : Nat} (h : Held W E w p S n) (hl : Lone S aN b A f) (hk : Keeps A.now k T x tr) (hlt : Strict A k T) (hT2 : T ≤ tr) (hn : n ≤ 10000000) (hT : crc.Tab W) :
    Calls Tryd.prog 34 #[.pointer (some ⟨p, 0, none⟩), .string aB] w fun e w' => ∃ s tv S', e = .returned (.tuple #[.pointer (some ⟨s, 0, none⟩), .int .i64 0]) ∧ Slot W E w' s p aB tv x T k T S' (n + 1) b A f ∧ Kept E w w' := by
  refine (open_any w p S n h hn hT aB aB_fit b hl.look A.now (by rw [hl.file]) hk.len).mono ?_
  rw [openD_of hk hlt]
  rintro e w' ⟨s, tv, rfl, h1, h2, h3, h4, h5, h6⟩
  exact ⟨s, tv, _, rfl, ⟨h1, h2, hl.reads _, { hk with other := fun t y e => Nat.le_of_lt (hlt t y e) }, h4, h5, h6⟩, h3⟩
theorem SlAt.byteFit {w : World} {s p : Nat} {nm : ByteArray} {tv : Value} {x : List Int} {t k tr : Nat} (h : SlAt w s p nm tv x t k tr) : x.length ≤ 1000000000 := by have := h.small; omega
/-- The disk goes on, behind changes that left it alone. -/
theorem Slot.later {W : World} {E : Nat → Prop} {w w' : World} {s p : Nat} {nm : ByteArray} {tv : Value} {x : List Int} {t k tr : Nat} {S : St} {n b : Nat} {A : FileA} {f : Int} (h : Slot W E w s p nm tv x t k tr S n b A f) (hb : Below w.heap.size w w') : Slot W E w' s p nm tv x t k tr S n b A f :=
  ⟨h.at_.later hb, h.held.later hb, h.lone, h.keeps, h.fresh, h.free, h.late⟩
/-- New blocks of the law's own. -/
theorem Slot.mine {W : World} {E : Nat → Prop} {w w' : World} {s p : Nat} {nm : ByteArray} {tv : Value} {x : List Int} {t k tr : Nat} {S : St} {n b : Nat} {A : FileA} {f : Int} (h : Slot W E w s p nm tv x t k tr S n b A f) (hb : Below w.heap.size w w') : Slot W (fun j => E j ∨ (w.heap.size ≤ j ∧ j < w'.heap.size)) w' s p nm tv x t k tr S n b A f :=
  ⟨h.at_.later hb, (h.held.mine hb).fewer fun j hj => by
    rcases hj with (hj | hj) | hj | hj
    · exact .inl (.inl (.inl hj))
    · exact .inl (.inl (.inr hj))
    · exact .inl (.inr hj)
    · exact .inr hj, h.lone, h.keeps, fun g hg hx => by
      rcases hx with hx | hx
      · exact h.fresh g hg hx
      · have := h.at_.text.lt hg; omega, fun hx => by
      rcases hx with hx | hx
      · exact h.free hx
      · have := h.at_.cells.lt; omega, h.late⟩
theorem Slot.fewer {W : World} {E E' : Nat → Prop} {w : World} {s p : Nat} {nm : ByteArray} {tv : Value} {x : List Int} {t k tr : Nat} {S : St} {n b : Nat} {A : FileA} {f : Int} (h : Slot W E w s p nm tv x t k tr S n b A f) (hE : ∀ j, E' j → E j) : Slot W E' w s p nm tv x t k tr S n b A f :=
  ⟨h.at_, h.held.fewer fun j hj => hj.imp_right (hE j), h.lone, h.keeps, fun g hg hx => h.fresh g hg (hE g hx), fun hx => h.free (hE _ hx), h.late⟩
theorem size_slot {W : World} {E : Nat → Prop} {w : World} {s p : Nat} {nm : ByteArray} {tv : Value} {x : List Int} {t k tr : Nat} {S : St} {n b : Nat} {A : FileA} {f : Int} (h : Slot W E w s p nm tv x t k tr S n b A f) :
    Calls Tryd.prog 39 #[.pointer (some ⟨p, 0, none⟩), .string nm] w fun e w' => e = .returned (.int .i64 8192) ∧ w = w' := by
  have := held_size h.held nm h.at_.name
  rw [h.lone.size, h.keeps.len] at this
  exact this
end Go.Proofs.YtpgclhpobijdeaaDoor.slots
