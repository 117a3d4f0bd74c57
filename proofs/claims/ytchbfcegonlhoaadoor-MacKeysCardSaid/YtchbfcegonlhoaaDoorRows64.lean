/-
  ROWS OF NUMBERS OF THE CALL's OWN ([]int, []uint64). No program stands in it.
-/
import Derived.Test.YtchbfcegonlhoaaDoorBytes
import Derived.Maps.AppendAt
import Derived.OwnWalk
import Derived.Laws.MakeOwn
import Derived.Deep.AppendLies
namespace Go.Proofs.YtchbfcegonlhoaaDoor.sha
open Go.RowKit

def ns (kd : IntKind) (l : List Int) : List Value := l.map (Value.int kd)
theorem ns_length (kd : IntKind) (l : List Int) : (ns kd l).length = l.length := by simp [ns]
theorem ns_at (kd : IntKind) (l : List Int) {i : Nat} (hi : i < l.length) : (ns kd l)[i]? = some (.int kd (l.getD i 0)) := by
  simp [ns, List.getD_eq_getElem?_getD, List.getElem?_eq_getElem hi]
theorem ns_snoc (kd : IntKind) (l : List Int) (c : Int) : ns kd (l ++ [c]) = ns kd l ++ [.int kd c] := by simp [ns]
theorem ns_append (kd : IntKind) (l m : List Int) : ns kd (l ++ m) = ns kd l ++ ns kd m := by simp [ns]
theorem ns_one (kd : IntKind) (l : List Int) : ∀ u ∈ ns kd l, u.oneCell' = true := by intro v hv; simp [ns] at hv; obtain ⟨x, _, rfl⟩ := hv; rfl
def OwnN (E : TypeId) (kd : IntKind) (w : World) (base : Nat) (v : Value) (l : List Int) : Prop := w.ownsRow base E 1 v l.length (ns kd l)

/-- A slice's address leads to these numbers. -/
def Holds (kd : IntKind) (w : World) (a : Option Addr) (l : List Int) : Prop :=
  l = [] ∨ ∃ b off, a = some ⟨b, off, none⟩ ∧ ∀ i, i < l.length → w.cell? ⟨b, off + i, none⟩ = some (.int kd (l.getD i 0))
theorem Holds.later {kd : IntKind} {w w' : World} {a : Option Addr} {l : List Int} (h : Holds kd w a l) (hb : Below w.heap.size w w') : Holds kd w' a l := by
  rcases h with h | ⟨b, off, rfl, hc⟩
  · exact .inl h
  · exact .inr ⟨b, off, rfl, fun i hi => (hb.cell (p := ⟨b, off + i, none⟩) (block_lt_of_cell (hc i hi))).trans (hc i hi)⟩

section
variable {E : TypeId} {kd : IntKind} {w w' : World} {base : Nat} {v : Value} {l : List Int}
theorem OwnN.none_ (E : TypeId) (kd : IntKind) (w : World) (base : Nat) : OwnN E kd w base (.slice none 0 0) [] := World.ownsRow_nil w base _ _
theorem OwnN.form (h : OwnN E kd w base v l) :
    ∃ a cap, v = .slice a l.length cap ∧ l.length ≤ cap ∧ cap ≤ 9223372036854775807 ∧ (a = none → l.length = 0 ∧ cap = 0) ∧ Holds kd w a l ∧ (a = none ∨ ∃ g, a = some ⟨g, 0, none⟩ ∧ base ≤ g ∧ g < w.heap.size ∧ v.ownBlock = some g) := by
  have hc := fun g hg => World.ownsRow.cells h (g := g) hg
  have hlt := World.ownsRow.lt h
  rcases h.2 with ⟨rfl, h0⟩ | ⟨g, cap, cur, rfl, _, _, h1, h2, _, _⟩
  · have hl : l = [] := List.eq_nil_of_length_eq_zero h0
    subst hl
    exact ⟨none, 0, rfl, by simp, by omega, fun _ => ⟨rfl, rfl⟩, .inl rfl, .inl rfl⟩
  · unfold maxLen at h2
    refine ⟨_, cap, rfl, h1, by omega, (fun e => by cases e), .inr ⟨g, 0, rfl, fun i hi => ?_⟩, .inr ⟨g, rfl, (hlt g rfl).1, (hlt g rfl).2, rfl⟩⟩
    have := hc g rfl i _ (ns_at kd l hi)
    rwa [Addr.add_mid] at this
theorem OwnN.keep {row : Option Nat} (h : OwnN E kd w base v l) (hg : w.grownBy w' row) (hne : v.ownBlock = none ∨ v.ownBlock ≠ row) : OwnN E kd w' base v l := World.ownsRow.kept h hg hne
theorem OwnN.later (h : OwnN E kd w base v l) (hb : Below w.heap.size w w') : OwnN E kd w' base v l :=
  h.keep (row := none) ⟨hb.os, hb.tape, hb.output, hb.size, fun i hi _ => hb.block i hi⟩ (by
    cases he : v.ownBlock with
    | none => exact .inl rfl
    | some g => exact .inr (by simp))
theorem OwnN.cell {g n cap : Nat} (h : OwnN E kd w base (.slice (some ⟨g, 0, none⟩) n cap) l) (hl : l.length = n) (j : Nat) (hj : j < n) : w.cell? ⟨g, j, none⟩ = some (.int kd (l.getD j 0)) := by
  unfold OwnN at h
  rw [hl] at h
  rw [World.ownsRow.cellAt h j (by omega), ns_at kd l (by omega)]
theorem OwnN.free {g n cap : Nat} (h : OwnN E kd w base (.slice (some ⟨g, 0, none⟩) n cap) l) (hl : l.length = n) (j : Nat) : w.frozen? ⟨g, j, none⟩ = false := by
  unfold OwnN at h
  rw [hl] at h
  exact World.ownsRow.frozenAt h j
theorem OwnN.put {g n cap : Nat} (h : OwnN E kd w base (.slice (some ⟨g, 0, none⟩) n cap) l) (hl : l.length = n) (j : Nat) (c : Int) :
    OwnN E kd (w.setCell ⟨g, j, none⟩ (.int kd c)) base (.slice (some ⟨g, 0, none⟩) n cap) (l.set j c) := by
  unfold OwnN at h ⊢
  rw [hl] at h
  rw [List.length_set, hl]
  have := (World.ownsRow.stored h j (.int kd c)).1
  rwa [show (ns kd l).set j (.int kd c) = ns kd (l.set j c) by simp [ns, List.map_set]] at this
theorem OwnN.draws (h : OwnN E kd w base v l) (n : Nat) : OwnN E kd (w.drewN n) base v l := h
theorem run_make_nums {P : Program} {S : TypeId} {by' : Nat} (hu : P.underlying S = some (.slice E)) (hinfo : (P.info? E).map (fun i => (i.zero, i.size, i.bytes)) = some (some (.int kd 0), 1, by')) (hb : by' ≤ 8) (w : World) (n : Nat) (hn : n ≤ 1000000) :
    ∃ w', (Instr.makeSlice S (.int .i64 (n : Int)) (.int .i64 (n : Int))).run P w = .ok (.slice (some ⟨w.heap.size, 0, none⟩) n n) w' ∧
      OwnN E kd w' w.heap.size (.slice (some ⟨w.heap.size, 0, none⟩) n n) (List.replicate n 0) ∧ Below w.heap.size w w' := by
  obtain ⟨i0, hi, hz0, hz1, hz2⟩ := info_parts hinfo
  have hle : by' * n ≤ 8 * n := Nat.mul_le_mul_right n hb
  obtain ⟨w', h1, h2, h3⟩ := run_make_full (P := P) w w.heap.size S E i0 (.int kd 0) 1 hu hi hz0 hz1 .i64 .i64 n (by rw [hz2]; omega) (by unfold maxLen; omega) (Nat.le_refl _)
  refine ⟨w', h1, ?_, (Below.refl _ _).grown h3 (Nat.le_refl _) (fun k hk => by cases hk)⟩
  unfold OwnN
  rw [List.length_replicate]
  have e : ns kd (List.replicate n 0) = (madeCells (Value.int kd 0).cells (n * 1)).toList := by
    rw [show (Value.int kd 0).cells = #[Value.int kd 0] from rfl, toList_madeCells_one]
    simp [ns]
  rw [e]; exact h2
theorem OwnN.alloc (h : OwnN E kd w base v l) (o : Obj) : OwnN E kd (w.alloc o) base v l := World.ownsRow.alloc h o
end
end Go.Proofs.YtchbfcegonlhoaaDoor.sha
