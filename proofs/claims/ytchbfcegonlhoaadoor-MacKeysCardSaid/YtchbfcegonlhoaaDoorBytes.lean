/-
  BYTES IN MEMORY: a slice that leads to bytes. No program stands in it.
-/
import Derived.Test.YtchbfcegonlhoaaDoorShaCells
namespace Go.Proofs.YtchbfcegonlhoaaDoor.sha
open Go.RowKit

/-- A slice's address leads to the bytes l, and none of them lies in block g. -/
def Leads (w : World) (a : Option Addr) (l : List Int) : Prop :=
  l = [] ∨ ∃ b off, a = some ⟨b, off, none⟩ ∧ ∀ i, i < l.length → w.cell? ⟨b, off + i, none⟩ = some (.int .u8 (l.getD i 0))
/-- .. and not into block g. -/
def Past (g : Nat) (a : Option Addr) (l : List Int) : Prop := l = [] ∨ ∀ b off, a = some ⟨b, off, none⟩ → b ≠ g

theorem Byte.take {l : List Int} (h : Byte l) (n : Nat) : Byte (l.take n) := fun c hc => h c (List.mem_of_mem_take hc)
theorem Byte.drop {l : List Int} (h : Byte l) (n : Nat) : Byte (l.drop n) := fun c hc => h c (List.mem_of_mem_drop hc)
theorem Byte.append {l m : List Int} (h : Byte l) (k : Byte m) : Byte (l ++ m) := fun c hc => by
  rcases List.mem_append.1 hc with hc | hc
  · exact h c hc
  · exact k c hc
theorem Byte.nil : Byte [] := fun c hc => by cases hc
theorem Byte.zeros (n : Nat) : Byte (List.replicate n 0) := fun c hc => by rw [List.eq_of_mem_replicate hc]; omega

section
variable {w w' : World} {a : Option Addr} {l : List Int}
theorem Leads.nil (w : World) (a : Option Addr) : Leads w a [] := .inl rfl
theorem Leads.lt (h : Leads w a l) (hl : l ≠ []) : ∃ b off, a = some ⟨b, off, none⟩ ∧ b < w.heap.size := by
  rcases h with h | ⟨b, off, rfl, hc⟩
  · exact absurd h hl
  · exact ⟨b, off, rfl, block_lt_of_cell (hc 0 (List.length_pos_iff.2 hl))⟩
theorem Leads.keep {row : Option Nat} (h : Leads w a l) (hb : w.grownBy w' row) (hp : ∀ g, row = some g → Past g a l) : Leads w' a l := by
  rcases h with h | ⟨b, off, rfl, hc⟩
  · exact .inl h
  · by_cases hl : l = []
    · exact .inl hl
    · refine .inr ⟨b, off, rfl, fun i hi => ?_⟩
      refine hb.cell (hc i hi) fun he => ?_
      rcases hp b he.symm with h | h
      · exact hl h
      · exact h b off rfl rfl
theorem Leads.later (h : Leads w a l) (hb : Below w.heap.size w w') : Leads w' a l := by
  rcases h with h | ⟨b, off, rfl, hc⟩
  · exact .inl h
  · exact .inr ⟨b, off, rfl, fun i hi => (hb.cell (p := ⟨b, off + i, none⟩) (block_lt_of_cell (hc i hi))).trans (hc i hi)⟩
theorem Leads.take (h : Leads w a l) (n : Nat) : Leads w a (l.take n) := by
  rcases h with rfl | ⟨b, off, rfl, hc⟩
  · exact .inl (by simp)
  · refine .inr ⟨b, off, rfl, fun i hi => ?_⟩
    rw [List.length_take] at hi
    rw [hc i (by omega), List.getD_eq_getElem?_getD, List.getD_eq_getElem?_getD, List.getElem?_take_of_lt (by omega)]
theorem Leads.drop {b off : Nat} (h : Leads w (some ⟨b, off, none⟩) l) (n : Nat) : Leads w (some ⟨b, off + n, none⟩) (l.drop n) := by
  rcases h with rfl | ⟨b', off', e, hc⟩
  · exact .inl (by simp)
  · obtain ⟨rfl, rfl⟩ : b = b' ∧ off = off' := by simpa using e
    refine .inr ⟨b, off + n, rfl, fun i hi => ?_⟩
    rw [List.length_drop] at hi
    rw [Nat.add_assoc, hc (n + i) (by omega), List.getD_eq_getElem?_getD, List.getD_eq_getElem?_getD, List.getElem?_drop]
theorem Leads.of_whole {g o n : Nat} {t : TypeId} {cs : List Value} (h : Whole w g t cs) (hl : (cs.drop o).take n = u8s l) : Leads w (some ⟨g, o, none⟩) l := by
  refine .inr ⟨g, o, rfl, fun i hi => ?_⟩
  have hr := h.range o n
  rw [hl] at hr
  exact hr i _ (u8s_at l hi)
theorem Past.take {g : Nat} (h : Past g a l) (n : Nat) : Past g a (l.take n) := by
  rcases h with rfl | h
  · exact .inl (by simp)
  · exact .inr h
theorem Past.drop {g b off : Nat} (h : Past g (some ⟨b, off, none⟩) l) (n : Nat) : Past g (some ⟨b, off + n, none⟩) (l.drop n) := by
  rcases h with rfl | h
  · exact .inl (by simp)
  · exact .inr fun b' off' e => by
      obtain ⟨rfl, _⟩ : b = b' ∧ off + n = off' := by simpa using e
      exact h b off rfl
end

/-- Only block g has turned, and there are new ones. -/
theorem only_draws {a w : World} {row : Option Nat} (h : a.grownBy w row) (n : Nat) : a.grownBy (w.drewN n) row := ⟨h.os, h.tape, h.output, h.size, h.block⟩
theorem only_alloc {a w : World} {row : Option Nat} (h : a.grownBy w row) (o : Obj) : a.grownBy (w.alloc o) row :=
  ⟨h.os, h.tape, h.output, by have := h.size; simp; omega, fun i hi hne => (heap_alloc_old w o i (Nat.lt_of_lt_of_le hi h.size)).trans (h.block i hi hne)⟩
theorem only_set {a w : World} {g : Nat} (h : a.grownBy w (some g)) (i : Nat) (u : Value) : a.grownBy (w.setCell ⟨g, i, none⟩ u) (some g) :=
  ⟨h.os, h.tape, h.output, by simpa [World.setCell] using h.size, fun k hk hne => (heap_setCell_other w ⟨g, i, none⟩ k u (fun e => hne (by rw [e]))).trans (h.block k hk hne)⟩
theorem only_lay {a : World} {g : Nat} (vs : List Value) : ∀ {w : World} (o : Nat), a.grownBy w (some g) → a.grownBy (w.setCells g o vs) (some g) := by
  induction vs with
  | nil => intro w o h; simpa [World.setCells] using h
  | cons u r ih => intro w o h; exact ih (o + 1) (only_set h o u)
theorem only_below {a w w' : World} {row : Option Nat} (h : a.grownBy w row) (hb : Below w.heap.size w w') : a.grownBy w' row :=
  ⟨hb.os.trans h.os, hb.tape.trans h.tape, hb.output.trans h.output, Nat.le_trans h.size hb.size, fun i hi hne => (hb.block i (Nat.lt_of_lt_of_le hi h.size)).trans (h.block i hi hne)⟩
theorem only_trans {a b c : World} {row : Option Nat} (h : a.grownBy b row) (k : b.grownBy c row) : a.grownBy c row :=
  ⟨k.os.trans h.os, k.tape.trans h.tape, k.output.trans h.output, Nat.le_trans h.size k.size, fun i hi hne => (k.block i (Nat.lt_of_lt_of_le hi h.size) hne).trans (h.block i hi hne)⟩
theorem below_only {B g : Nat} {a w w' : World} (h : Below B a w) (k : w.grownBy w' (some g)) (hg : B ≤ g) (hB : B ≤ w.heap.size) : Below B a w' :=
  ⟨k.os.trans h.os, k.tape.trans h.tape, k.output.trans h.output, Nat.le_trans h.size k.size, fun i hi =>
    (k.block i (Nat.lt_of_lt_of_le hi hB) (fun e => by injection e with e; omega)).trans (h.block i hi)⟩
end Go.Proofs.YtchbfcegonlhoaaDoor.sha
