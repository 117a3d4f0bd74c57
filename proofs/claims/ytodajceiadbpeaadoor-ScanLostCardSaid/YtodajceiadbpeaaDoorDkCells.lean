/-
  CELLS OF A ROW OF ONE'S OWN: read, stored, not frozen.
-/
import Derived.Test.YtodajceiadbpeaaDoorDkOwn
namespace Go.Proofs.YtodajceiadbpeaaDoor.disk
open Go.RowKit

theorem Own.set {w : World} {g n cap : Nat} {l : List Int} (h : Own w (.slice (some ⟨g, 0, none⟩) n cap) l) (hl : l.length = n) (j : Nat) (c : Int) :
    Own (w.setCell ⟨g, j, none⟩ (.int .u8 c)) (.slice (some ⟨g, 0, none⟩) n cap) (l.set j c) := by
  unfold Own at h ⊢
  rw [hl] at h
  rw [List.length_set, hl]
  have := (World.ownsRow.stored h j (.int .u8 c)).1
  rwa [show (u8s l).set j (.int .u8 c) = u8s (l.set j c) by simp [u8s, List.map_set]] at this
theorem Own.free {w : World} {g n cap : Nat} {l : List Int} (h : Own w (.slice (some ⟨g, 0, none⟩) n cap) l) (hl : l.length = n) (j : Nat) : w.frozen? ⟨g, j, none⟩ = false := by
  unfold Own at h
  rw [hl] at h
  exact World.ownsRow.frozenAt h j
theorem Own.cell {w : World} {g n cap : Nat} {l : List Int} (h : Own w (.slice (some ⟨g, 0, none⟩) n cap) l) (hl : l.length = n) (j : Nat) (hj : j < n) : w.cell? ⟨g, j, none⟩ = some (.int .u8 (l.getD j 0)) := by
  subst hl
  unfold Own at h
  have := World.ownsRow.cells h (g := g) rfl j _ (u8s_at l hj)
  rwa [Addr.add_mid, Nat.zero_add] at this
theorem own_at {w : World} {a : Option Addr} {m c : Nat} {l : List Int} (h : Own w (.slice a m c) l) (i : Nat) (hi : i < l.length) : ∃ g, a = some ⟨g, 0, none⟩ ∧ w.cell? ⟨g, i, none⟩ = some (.int .u8 (l.getD i 0)) := by
  obtain ⟨a', c', e, _, _, hn, _, hg⟩ := h.form
  simp at e
  obtain ⟨rfl, rfl, rfl⟩ := e
  rcases hg with rfl | ⟨g, rfl, _⟩
  · have := (hn rfl).1; omega
  · exact ⟨g, rfl, h.cell rfl i hi⟩
end Go.Proofs.YtodajceiadbpeaaDoor.disk
