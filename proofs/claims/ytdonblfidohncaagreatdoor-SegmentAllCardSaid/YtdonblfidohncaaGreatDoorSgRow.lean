/-
  ROWS OF STRUCTS THAT ARE READ (of the call's own, or a cut of one); the records of one tenant at a front (P8.1).
-/
import Derived.Test.YtdonblfidohncaaGreatDoorMScan

namespace Go.Proofs.YtdonblfidohncaaGreatDoor.scan
open Go.RowKit Go.Proofs.YtdonblfidohncaaGreatDoor.disk Go.Proofs.YtdonblfidohncaaGreatDoor.recd
set_option linter.unusedVariables false

/-- A slice of structs from a block's head on, whose elements are these. -/
def RowS {α : Type} (F : Form α) (w : World) (v : Value) (l : List α) : Prop :=
  (v = .slice none 0 0 ∧ l = []) ∨ ∃ g cap, v = .slice (some ⟨g, 0, none⟩) l.length cap ∧ l.length ≤ cap ∧ cap ≤ 9223372036854775807 ∧ g < w.heap.size ∧
      ∀ i (hi : i < l.length), ∀ j, j < F.sz → w.cell? ⟨g, i * F.sz + j, none⟩ = (F.cells l[i])[j]?
section
variable {α : Type} {F : Form α} {w w' : World} {v : Value} {l : List α}
theorem RowS.of_own (h : OwnS F w v l) : RowS F w v l := h.form
theorem RowS.none_ : RowS F w (.slice none 0 0) ([] : List α) := .inl ⟨rfl, rfl⟩
theorem RowS.lt (h : RowS F w v l) {g : Nat} (hg : v.ownBlock = some g) : g < w.heap.size := by
  rcases h with ⟨rfl, _⟩ | ⟨g', cap, rfl, _, _, hl, _⟩
  · cases hg
  · have : some g' = some g := hg
    injection this with this
    omega
theorem RowS.same (h : RowS F w v l) (hs : w.heap.size ≤ w'.heap.size) (e : ∀ g, v.ownBlock = some g → w'.heap[g]? = w.heap[g]?) : RowS F w' v l := by
  rcases h with h | ⟨g, cap, rfl, h1, h2, h3, h4⟩
  · exact .inl h
  · refine .inr ⟨g, cap, rfl, h1, h2, by omega, fun i hi j hj => ?_⟩
    have := e g rfl
    rw [← h4 i hi j hj]
    unfold World.cell?
    rw [this]
theorem RowS.later (h : RowS F w v l) (hb : Below w.heap.size w w') : RowS F w' v l := h.same hb.size fun g hg => hb.block g (h.lt hg)
theorem RowS.slice (h : RowS F w v l) : ∃ ao cap, v = .slice ao l.length cap ∧ l.length ≤ cap ∧ cap ≤ 9223372036854775807 ∧ (l ≠ [] → ∃ g, ao = some ⟨g, 0, none⟩) := by
  rcases h with ⟨rfl, rfl⟩ | ⟨g, cap, rfl, h1, h2, _⟩
  · exact ⟨none, 0, rfl, Nat.zero_le _, by omega, fun h => absurd rfl h⟩
  · exact ⟨some ⟨g, 0, none⟩, cap, rfl, h1, h2, fun _ => ⟨g, rfl⟩⟩
theorem RowS.range {g n cap : Nat} (h : RowS F w (.slice (some ⟨g, 0, none⟩) n cap) l) (i : Nat) (hi : i < l.length) : w.rangeAt g (i * F.sz) (F.cells l[i]) := fun j v hv => by
  rcases h with ⟨e, _⟩ | ⟨g', cap', e, _, _, _, hc⟩
  · cases e
  · injection e with e1 e2 e3
    injection e1 with e1
    injection e1 with e1
    subst e1
    have hj : j < F.sz := by
      have := (List.getElem?_eq_some_iff.1 hv).1
      rwa [F.length] at this
    exact (hc i hi j hj).trans hv
/-- Its first m elements, with any room that is there. -/
theorem RowS.take {g n cap : Nat} (h : RowS F w (.slice (some ⟨g, 0, none⟩) n cap) l) (m c : Nat) (hm : m ≤ l.length) (hc : m ≤ c) (hc2 : c ≤ 9223372036854775807) : RowS F w (.slice (some ⟨g, 0, none⟩) m c) (l.take m) := by
  rcases h with ⟨e, _⟩ | ⟨g', cap', e, h1, h2, h3, h4⟩
  · cases e
  · injection e with e1 e2 e3
    injection e1 with e1
    injection e1 with e1
    subst e1
    have hl : (l.take m).length = m := by rw [List.length_take]; omega
    refine .inr ⟨g, c, by rw [hl], by rw [hl]; exact hc, hc2, h3, fun i hi j hj => ?_⟩
    rw [hl] at hi
    rw [h4 i (by omega) j hj, List.getElem_take]
end

/-! the records of one tenant -/
/-- Those ahead of the first of another tenant, and where it stands; else all, and their end. -/
def ownOf (t : Nat) : List Fd → Nat → List Fd × Nat
  | [], e => ([], e)
  | x :: r, e => if x.r.tenant = t then (x :: (ownOf t r e).1, (ownOf t r e).2) else ([], x.at_)
/-- What a segment's file tells. -/
def segF (t : Nat) (b : List Int) : List Fd × Nat := ownOf t (front b 0).1 (front b 0).2

theorem ownOf_all {t : Nat} {l : List Fd} {e : Nat} (h : ∀ x ∈ l, x.r.tenant = t) : ownOf t l e = (l, e) := by
  induction l with
  | nil => rfl
  | cons x r ih => rw [ownOf, if_pos (h x List.mem_cons_self), ih fun y hy => h y (List.mem_cons_of_mem _ hy)]
/-- The first of another tenant is number i. -/
theorem ownOf_at {t : Nat} : ∀ {l : List Fd} {e i : Nat} (hi : i < l.length), (∀ j (hj : j < i), (l[j]'(by omega)).r.tenant = t) → l[i].r.tenant ≠ t → ownOf t l e = (l.take i, l[i].at_)
  | x :: r, e, 0, hi, _, h2 => by rw [ownOf, if_neg (by simpa using h2)]; rfl
  | x :: r, e, i + 1, hi, h1, h2 => by
    have hx : x.r.tenant = t := h1 0 (by omega)
    rw [ownOf, if_pos hx, ownOf_at (i := i) (by simpa using hi) (fun j hj => h1 (j + 1) (by omega)) (by simpa using h2)]
    rfl
theorem ownOf_length (t : Nat) : ∀ (l : List Fd) (e : Nat), (ownOf t l e).1.length ≤ l.length
  | [], e => Nat.le_refl _
  | x :: r, e => by
    rw [ownOf]
    split
    · have := ownOf_length t r e; simp; exact this
    · simp
theorem ownOf_mem {t : Nat} : ∀ {l : List Fd} {e : Nat} {x : Fd}, x ∈ (ownOf t l e).1 → x ∈ l ∧ x.r.tenant = t
  | [], e, x, h => by cases h
  | y :: r, e, x, h => by
    rw [ownOf] at h
    split at h
    · rename_i hy
      rcases List.mem_cons.1 h with rfl | h
      · exact ⟨List.mem_cons_self, hy⟩
      · have := ownOf_mem h; exact ⟨List.mem_cons_of_mem _ this.1, this.2⟩
    · cases h
end Go.Proofs.YtdonblfidohncaaGreatDoor.scan
