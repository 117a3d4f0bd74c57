/-
  BYTES AND BLOCKS IN MEMORY, for the package disk: lists of bytes as cells; a slice that leads to bytes; a world that has turned in some blocks alone. No program stands in it.
-/
import Derived.Test.YtpbffjpghnijkaaMem
import Derived.Maps.OwnSet
import Derived.Laws.CopyOwn
import Derived.Lib.Hide
namespace Go.Proofs.Ytpbffjpghnijkaa.disk
open Go.RowKit

def u8s (l : List Int) : List Value := l.map (Value.int .u8)
def Byte (l : List Int) : Prop := ∀ c ∈ l, 0 ≤ c ∧ c < 256
theorem Byte.at {l : List Int} (h : Byte l) {i : Nat} (hi : i < l.length) : 0 ≤ l.getD i 0 ∧ l.getD i 0 < 256 := by
  rw [List.getD_eq_getElem?_getD, List.getElem?_eq_getElem hi]; exact h _ (List.getElem_mem hi)
theorem u8s_at (l : List Int) {i : Nat} (hi : i < l.length) : (u8s l)[i]? = some (.int .u8 (l.getD i 0)) := by
  simp [u8s, List.getD_eq_getElem?_getD, List.getElem?_eq_getElem hi]
theorem u8s_length (l : List Int) : (u8s l).length = l.length := by simp [u8s]
theorem u8s_one (l : List Int) : ∀ v ∈ u8s l, v.oneCell' = true := by intro v hv; simp [u8s] at hv; obtain ⟨x, _, rfl⟩ := hv; rfl
theorem u8s_append (a b : List Int) : u8s (a ++ b) = u8s a ++ u8s b := by simp [u8s]
theorem Byte.take {l : List Int} (h : Byte l) (n : Nat) : Byte (l.take n) := fun c hc => h c (List.mem_of_mem_take hc)
theorem Byte.drop {l : List Int} (h : Byte l) (n : Nat) : Byte (l.drop n) := fun c hc => h c (List.mem_of_mem_drop hc)
theorem Byte.append {l m : List Int} (h : Byte l) (k : Byte m) : Byte (l ++ m) := fun c hc => by
  rcases List.mem_append.1 hc with hc | hc
  · exact h c hc
  · exact k c hc
theorem Byte.nil : Byte [] := fun c hc => by cases hc
theorem Byte.zeros (n : Nat) : Byte (List.replicate n 0) := fun c hc => by rw [List.eq_of_mem_replicate hc]; omega

/-- A slice's address leads to the bytes l. -/
def Leads (w : World) (a : Option Addr) (l : List Int) : Prop :=
  l = [] ∨ ∃ b off, a = some ⟨b, off, none⟩ ∧ ∀ i, i < l.length → w.cell? ⟨b, off + i, none⟩ = some (.int .u8 (l.getD i 0))
/-- .. and not into block g. -/
def Past (g : Nat) (a : Option Addr) (l : List Int) : Prop := l = [] ∨ ∀ b off, a = some ⟨b, off, none⟩ → b ≠ g

/-- w' is w but for the blocks of R, and new ones. -/
structure Turn (R : Nat → Prop) (w w' : World) : Prop where
  os : w'.os = w.os
  tape : w'.tape = w.tape
  output : w'.output = w.output
  size : w.heap.size ≤ w'.heap.size
  block : ∀ k, k < w.heap.size → ¬ R k → w'.heap[k]? = w.heap[k]?

section
variable {R R' : Nat → Prop} {w w' w'' : World}
theorem Turn.refl (R : Nat → Prop) (w : World) : Turn R w w := ⟨rfl, rfl, rfl, Nat.le_refl _, fun _ _ _ => rfl⟩
theorem Turn.mono (h : Turn R w w') (hR : ∀ k, k < w.heap.size → R k → R' k) : Turn R' w w' := ⟨h.os, h.tape, h.output, h.size, fun k hk hn => h.block k hk (fun e => hn (hR k hk e))⟩
theorem Turn.trans (h : Turn R w w') (k : Turn R' w' w'') (hR : ∀ k, k < w.heap.size → R' k → R k) : Turn R w w'' :=
  ⟨k.os.trans h.os, k.tape.trans h.tape, k.output.trans h.output, Nat.le_trans h.size k.size, fun i hi hn => (k.block i (Nat.lt_of_lt_of_le hi h.size) (fun e => hn (hR i hi e))).trans (h.block i hi hn)⟩
theorem Turn.then_ (h : Turn R w w') (k : Turn (fun k => R k ∨ w.heap.size ≤ k) w' w'') : Turn R w w'' :=
  h.trans k (fun i hi e => by rcases e with e | e; exact e; omega)
theorem Turn.of_below (h : Below w.heap.size w w') : Turn R w w' := ⟨h.os, h.tape, h.output, h.size, fun k hk _ => h.block k hk⟩
theorem Turn.of_grown {g : Nat} (h : w.grownBy w' (some g)) (hg : R g) : Turn R w w' := ⟨h.os, h.tape, h.output, h.size, fun k hk hn => h.block k hk (fun e => hn (by injection e with e; rw [e]; exact hg))⟩
theorem Turn.of_row {v : Value} (h : w.grownBy w' v.ownBlock) (hg : ∀ g, v.ownBlock = some g → R g) : Turn R w w' := ⟨h.os, h.tape, h.output, h.size, fun k hk hn => h.block k hk (fun e => hn (hg k e.symm))⟩
theorem Turn.of_none (h : w.grownBy w' none) : Turn R w w' := ⟨h.os, h.tape, h.output, h.size, fun k hk _ => h.block k hk (by simp)⟩
theorem Turn.below {B : Nat} (h : Turn R w w') (hR : ∀ k, R k → B ≤ k) (hB : B ≤ w.heap.size) : Below B w w' := ⟨h.os, h.tape, h.output, h.size, fun k hk => h.block k (by omega) (fun e => by have := hR k e; omega)⟩
theorem Turn.none_below (h : Turn (fun _ => False) w w') : Below w.heap.size w w' := h.below (fun _ e => e.elim) (Nat.le_refl _)
theorem Turn.alloc (h : Turn R w w') (o : Obj) : Turn R w (w'.alloc o) :=
  ⟨h.os, h.tape, h.output, by have := h.size; simp; omega, fun k hk hn => (heap_alloc_old w' o k (Nat.lt_of_lt_of_le hk h.size)).trans (h.block k hk hn)⟩
theorem Turn.draws (h : Turn R w w') (n : Nat) : Turn R w (w'.drewN n) := ⟨h.os, h.tape, h.output, h.size, h.block⟩
theorem Turn.setCell (h : Turn R w w') {g : Nat} (i : Nat) (u : Value) (hg : R g ∨ w.heap.size ≤ g) : Turn R w (w'.setCell ⟨g, i, none⟩ u) :=
  ⟨h.os, h.tape, h.output, by simpa [World.setCell] using h.size, fun k hk hn => (heap_setCell_other w' ⟨g, i, none⟩ k u (fun e => by
    rcases hg with hg | hg
    · exact hn (by rw [show k = g from e]; exact hg)
    · have : k = g := e
      omega)).trans (h.block k hk hn)⟩
theorem Turn.cell (h : Turn R w w') {b o : Nat} (hb : b < w.heap.size) (hR : ¬ R b) : w'.cell? ⟨b, o, none⟩ = w.cell? ⟨b, o, none⟩ := World.cell?_of_block (a := ⟨b, o, none⟩) (h.block b hb hR)
theorem Turn.frozen (h : Turn R w w') {b o : Nat} (hb : b < w.heap.size) (hR : ¬ R b) : w'.frozen? ⟨b, o, none⟩ = w.frozen? ⟨b, o, none⟩ := World.frozen?_of_block (a := ⟨b, o, none⟩) (h.block b hb hR)
end

/-! what stays where its block stays -/
section
variable {w w' : World}
theorem Whole.same {g : Nat} {t : TypeId} {l : List Value} (h : Whole w g t l) (e : w'.heap[g]? = w.heap[g]?) : Whole w' g t l := e.trans h
theorem row_same {base : Nat} {t : TypeId} {sz : Nat} {v : Value} {n : Nat} {xs : List Value} (h : w.ownsRow base t sz v n xs) (e : ∀ g, v.ownBlock = some g → w'.heap[g]? = w.heap[g]?) : w'.ownsRow base t sz v n xs := by
  refine ⟨h.1, ?_⟩
  rcases h.2 with hn | ⟨g, cap, cur, rfl, hb, hgg, rest⟩
  · exact .inl hn
  · exact .inr ⟨g, cap, cur, rfl, hb, (e g rfl).trans hgg, rest⟩
theorem map_same {H : Type} {P : Program} {k : TypeId} {R : Value → Option (DataW H × List MemPlace)} {b n : Nat} {D : DataW H} (h : w.ownsMap P k R b n D) (e : w'.heap[b]? = w.heap[b]?) : w'.ownsMap P k R b n D := by
  obtain ⟨es, clock, hb, r⟩ := h
  exact ⟨es, clock, e.trans hb, r⟩
/-- A block that is a map is no block of cells. -/
theorem map_ne_whole {H : Type} {P : Program} {k : TypeId} {R : Value → Option (DataW H × List MemPlace)} {b n g : Nat} {t : TypeId} {l : List Value} {D : DataW H} (h : w.ownsMap P k R b n D) (hw : Whole w g t l) : b ≠ g := by
  rintro rfl
  obtain ⟨es, clock, hb, _⟩ := h
  rw [Whole, hb] at hw
  cases hw
theorem map_ne_row {H : Type} {P : Program} {k : TypeId} {R : Value → Option (DataW H × List MemPlace)} {b n g : Nat} {D : DataW H} {base : Nat} {t : TypeId} {sz : Nat} {v : Value} {m : Nat} {xs : List Value} (h : w.ownsMap P k R b n D) (hw : w.ownsRow base t sz v m xs) (hg : v.ownBlock = some g) : b ≠ g := by
  rintro rfl
  obtain ⟨es, clock, hb, _⟩ := h
  rcases hw.2 with ⟨rfl, _⟩ | ⟨g', cap, cur, rfl, _, hgg, _⟩
  · simp [Value.ownBlock] at hg
  · simp [Value.ownBlock] at hg
    subst hg
    rw [hb] at hgg
    cases hgg
theorem Leads.nil (w : World) (a : Option Addr) : Leads w a [] := .inl rfl
theorem Leads.same {a : Option Addr} {l : List Int} (h : Leads w a l) (e : ∀ b off, a = some ⟨b, off, none⟩ → l ≠ [] → w'.heap[b]? = w.heap[b]?) : Leads w' a l := by
  by_cases hl : l = []
  · exact .inl hl
  · rcases h with h | ⟨b, off, rfl, hc⟩
    · exact absurd h hl
    · exact .inr ⟨b, off, rfl, fun i hi => (World.cell?_of_block (a := ⟨b, off + i, none⟩) (e b off rfl hl)).trans (hc i hi)⟩
theorem Leads.lt {a : Option Addr} {l : List Int} (h : Leads w a l) (hl : l ≠ []) : ∃ b off, a = some ⟨b, off, none⟩ ∧ b < w.heap.size := by
  rcases h with h | ⟨b, off, rfl, hc⟩
  · exact absurd h hl
  · exact ⟨b, off, rfl, block_lt_of_cell (hc 0 (List.length_pos_iff.2 hl))⟩
theorem Leads.later {a : Option Addr} {l : List Int} (h : Leads w a l) (hb : Below w.heap.size w w') : Leads w' a l := by
  rcases h with h | ⟨b, off, rfl, hc⟩
  · exact .inl h
  · exact .inr ⟨b, off, rfl, fun i hi => (hb.cell (p := ⟨b, off + i, none⟩) (block_lt_of_cell (hc i hi))).trans (hc i hi)⟩
theorem Leads.turned {R : Nat → Prop} {a : Option Addr} {l : List Int} (h : Leads w a l) (ht : Turn R w w') (hR : ∀ b off, a = some ⟨b, off, none⟩ → l ≠ [] → ¬ R b) : Leads w' a l :=
  h.same fun b off e hl => by
    obtain ⟨b', off', e', hb⟩ := h.lt hl
    rw [e] at e'
    injection e' with e'
    injection e' with e1
    subst e1
    exact ht.block b hb (hR b off e hl)
theorem Leads.take {a : Option Addr} {l : List Int} (h : Leads w a l) (n : Nat) : Leads w a (l.take n) := by
  rcases h with rfl | ⟨b, off, rfl, hc⟩
  · exact .inl (by simp)
  · refine .inr ⟨b, off, rfl, fun i hi => ?_⟩
    rw [List.length_take] at hi
    rw [hc i (by omega), List.getD_eq_getElem?_getD, List.getD_eq_getElem?_getD, List.getElem?_take_of_lt (by omega)]
theorem Leads.drop {b off : Nat} {l : List Int} (h : Leads w (some ⟨b, off, none⟩) l) (n : Nat) : Leads w (some ⟨b, off + n, none⟩) (l.drop n) := by
  rcases h with rfl | ⟨b', off', e, hc⟩
  · exact .inl (by simp)
  · obtain ⟨rfl, rfl⟩ : b = b' ∧ off = off' := by simpa using e
    refine .inr ⟨b, off + n, rfl, fun i hi => ?_⟩
    rw [List.length_drop] at hi
    rw [Nat.add_assoc, hc (n + i) (by omega), List.getD_eq_getElem?_getD, List.getD_eq_getElem?_getD, List.getElem?_drop]
theorem Past.take {g : Nat} {a : Option Addr} {l : List Int} (h : Past g a l) (n : Nat) : Past g a (l.take n) := by
  rcases h with rfl | h
  · exact .inl (by simp)
  · exact .inr h
end
end Go.Proofs.Ytpbffjpghnijkaa.disk
