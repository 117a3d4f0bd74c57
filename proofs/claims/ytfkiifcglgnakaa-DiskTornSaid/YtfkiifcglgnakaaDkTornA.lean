/-
  WHAT "DiskTorn" NEEDS of its own rows: what is filled in, stores, cells; a disk held meanwhile.
-/
import Derived.Test.YtfkiifcglgnakaaDkTornM
import Derived.Test.YtfkiifcglgnakaaDkCells
namespace Go.Proofs.Ytfkiifcglgnakaa.disk
open Go.RowKit Go.Maps

/-- What is filled in, y bytes of n. -/
def oldL (y n : Nat) : List Int := (List.range n).map fun j => if j < y then ((j % 7 + 1 : Nat) : Int) else 0
theorem oldL_length (y n : Nat) : (oldL y n).length = n := by simp [oldL]
theorem oldL_zero (n : Nat) : oldL 0 n = List.replicate n 0 := by
  unfold oldL
  simp [List.map_const']
theorem oldL_set (y n : Nat) (_ : y < n) : (oldL y n).set y ((y % 7 + 1 : Nat) : Int) = oldL (y + 1) n := by
  apply List.ext_getElem (by simp [oldL])
  intro i h1 h2
  rw [List.getElem_set]
  simp only [oldL, List.getElem_map, List.getElem_range]
  by_cases e : y = i
  · subst e
    rw [if_pos rfl, if_pos (by omega)]
  · rw [if_neg e]
    by_cases h : i < y
    · rw [if_pos h, if_pos (by omega)]
    · rw [if_neg h, if_neg (by omega)]
theorem oldL_byte (y n : Nat) : Byte (oldL y n) := by
  intro c hc
  obtain ⟨j, _, rfl⟩ := List.mem_map.1 hc
  split <;> omega
/-- A store into a block of the law's own. -/
theorem Held.store {W : World} {X : Nat → Prop} {w : World} {p n : Nat} {S : St} (h : Held W X w p S n) {g : Nat} (hX : X g) (hg : W.heap.size ≤ g) (i : Nat) (v : Value) : Held W X (w.setCell ⟨g, i, none⟩ v) p S n := by
  have hgr : w.grownBy (w.setCell ⟨g, i, none⟩ v) (some g) := cell_grown
  have ht : Turn (fun k => k = g) w (w.setCell ⟨g, i, none⟩ v) := Turn.of_grown hgr rfl
  have hs : (w.setCell ⟨g, i, none⟩ v).heap.size = w.heap.size := by simp [World.setCell]
  refine ⟨(h.disk.turned ht fun k hk e => ?_).mono fun k _ hk => ⟨hk.1, by rw [hs]; exact hk.2.1, hk.2.2⟩, h.below.grown hgr h.below.size fun k e => by injection e with e; omega, fun k hk => by rw [hs]; exact h.user k hk⟩
  have e' : k = g := e
  subst e'
  exact hk.2.2 hX
/-- What was read is the law's own. -/
theorem Held.readMine {W : World} {X : Nat → Prop} {w w' : World} {p n n' : Nat} {S : St} {e : Ending} {x : Int × List Int × St} (h : Held W X w p S n) (hd : ReadOut (Free W.heap.size X w) w p x n' e w') :
    ∃ v, e = .returned (.tuple #[v, .int .i64 x.1]) ∧ Own w' v x.2.1 ∧ (∀ g, v.ownBlock = some g → w.heap.size ≤ g) ∧ Held W (fun k => X k ∨ (w.heap.size ≤ k ∧ k < w'.heap.size)) w' p x.2.2 n' ∧ Kept X w w' := by
  obtain ⟨v, h1, h2, h3, h4, h5⟩ := hd
  have hs := h5.size
  have hb := h.below.size
  refine ⟨v, h1, h2, h3, ⟨h4.mono fun k hk hr => ⟨hr.1, hk, fun e => ?_⟩, h.below.trans ⟨h5.os, h5.tape, h5.output, h5.size, fun k hk => h5.block k (by omega) fun e => by have := e.1; omega⟩, fun k hk => ?_⟩, fun k hk => h5.block k (h.user k hk) fun e => e.2.2 hk⟩
  · rcases e with e | e
    · exact hr.2.2 e
    · have := hr.2.1; omega
  · rcases hk with hk | hk
    · exact Nat.lt_of_lt_of_le (h.user k hk) hs
    · exact hk.2

theorem bools_at {w : World} {a : Option Addr} {n : Nat} {l : List Bool} (h : Bools w a n l) (k : Nat) (hk : k < n) : ∃ b off, a = some ⟨b, off, none⟩ ∧ w.cell? ⟨b, off + k, none⟩ = some (.bool (l.getD k false)) := by
  rcases h.cells with h0 | ⟨b, off, rfl, hc⟩
  · omega
  · exact ⟨b, off, rfl, hc k hk⟩

end Go.Proofs.Ytfkiifcglgnakaa.disk
