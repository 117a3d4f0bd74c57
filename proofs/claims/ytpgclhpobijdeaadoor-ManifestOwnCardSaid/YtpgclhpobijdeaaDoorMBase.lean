/-
  JOINED: Mem DkBytes DkOwn DkLaid DkCells RowIn CrcMath CrcXor CrcWalks CrcShort NumMath Num.
-/
import Derived.Below
import Derived.Laws.OwnMore
import Derived.Deep.Draws
import Derived.Deep.MidRow
import Derived.Laws.Rows
import Derived.Laws.PanicsMore
import Derived.RegionTactic
import Derived.Maps.OwnSet
import Derived.Laws.CopyOwn
import Derived.Lib.Hide
import Derived.Test.YtpgclhpobijdeaaDoorRows
import Derived.Maps.AppendAt
import Derived.OwnWalk
import Derived.Laws.MakeOwn
import Derived.Lib.AppendZerosOnto
import Derived.WalkKit
import Derived.WalkSpells
import Derived.ProofKit
import Derived.OpenShut
import Derived.ChangeOld
import Derived.Deep.DeepHandedRow
import Derived.Deep.Slices
import Derived.ChangeArms
import Derived.Laws.BitsAllLaws
import Derived.WalkLawsBesides
import Derived.Outline
import Derived.LoopTactic
import Derived.Deep.QuietTactic
import Derived.BigQuiet
import Derived.Deep.DeepFit
import Derived.Lib.SlBytesConst
/-
  MEMORY, PLAINLY: a block that is known whole, as a list of its cells. No program stands in it.
-/







namespace Go.Proofs.YtpgclhpobijdeaaDoor
open Go.RowKit

/-- What was there stays where it was (the library has this under one name with two shapes, by what is imported). -/
theorem alloc_keeps (w : World) (o : Obj) (k : Nat) (h : k < w.heap.size) : (w.alloc o).heap[k]? = w.heap[k]? := by
  first | exact heap_alloc_old w o k h | exact heap_alloc_old w o h
/-- Block g holds just the cells l, of type t, none frozen. -/
def Whole (w : World) (g : Nat) (t : TypeId) (l : List Value) : Prop := w.heap[g]? = some (.cells l.toArray t (0, 0))

section
variable {w w' : World} {g : Nat} {t : TypeId} {l : List Value}
theorem Whole.lt (h : Whole w g t l) : g < w.heap.size := by
  refine Nat.lt_of_not_le fun hge => ?_
  have h' := h
  rw [Whole, Array.getElem?_eq_none hge] at h'
  cases h'
theorem Whole.at_ (h : Whole w g t l) (i : Nat) : w.cell? ⟨g, i, none⟩ = l[i]? := by
  rw [cell_of_row w g i l.toArray t (0, 0) h]; simp
theorem Whole.free (h : Whole w g t l) (i : Nat) : w.frozen? ⟨g, i, none⟩ = false := frozen_of_row w g i l.toArray t h
theorem Whole.made (w : World) (t : TypeId) (l : List Value) : Whole (w.alloc (.cells l.toArray t)) w.heap.size t l := heap_alloc_new w _
theorem Whole.made' (w : World) (t : TypeId) (cs : Array Value) : Whole (w.alloc (.cells cs t)) w.heap.size t cs.toList := heap_alloc_new w _
theorem Whole.new_ {cs : Array Value} (hg : g = w.heap.size) (hl : cs = l.toArray) : Whole (w.alloc (.cells cs t)) g t l := by
  subst hg; subst hl; exact heap_alloc_new w _
theorem Whole.draws (h : Whole w g t l) (n : Nat) : Whole (w.drewN n) g t l := h
theorem Whole.more (h : Whole w g t l) (o : Obj) : Whole (w.alloc o) g t l := (alloc_keeps w o g h.lt).trans h
theorem Whole.put (h : Whole w g t l) (i : Nat) (u : Value) : Whole (w.setCell ⟨g, i, none⟩ u) g t (l.set i u) := by
  have := heap_setCell_same w g i l.toArray t u h
  rw [Whole, this]; simp
theorem Whole.apart (h : Whole w g t l) {p : Addr} (hp : g ≠ p.block) (u : Value) : Whole (w.setCell p u) g t l := (heap_setCell_other w p g u hp).trans h
theorem Whole.keep {B : Nat} (h : Whole w g t l) (hb : Below B w w') (hg : g < B) : Whole w' g t l := (hb.block g hg).trans h
theorem Whole.kept (h : Whole w g t l) (hb : Below w.heap.size w w') : Whole w' g t l := h.keep hb h.lt
theorem Whole.grown {row : Option Nat} (h : Whole w g t l) (hb : w.grownBy w' row) (hg : some g ≠ row) : Whole w' g t l := (hb.block g h.lt hg).trans h
theorem Whole.range (h : Whole w g t l) (o n : Nat) : w.rangeAt g o ((l.drop o).take n) := fun j v hv => by
  rw [h.at_]
  rw [List.getElem?_take] at hv
  split at hv
  · rwa [List.getElem?_drop] at hv
  · cases hv
theorem Whole.there (h : Whole w g t l) (o n : Nat) (hn : o + n ≤ l.length) : w.there g o n := fun j hj => by
  rw [h.at_, List.getElem?_eq_getElem (by omega)]
  exact ⟨rfl, h.free _⟩
theorem below_draws {B : Nat} {a w : World} (h : Below B a w) (n : Nat) : Below B a (w.drewN n) := ⟨h.os, h.tape, h.output, h.size, h.block⟩
/-- Cells laid over others. -/
theorem set_cells (l : List Value) : ∀ (vs : List Value) (o : Nat), o + vs.length ≤ l.length → ∀ u r, vs = u :: r → (l.set o u).take (o + 1) ++ (r ++ (l.set o u).drop (o + 1 + r.length)) = l.take o ++ (vs ++ l.drop (o + vs.length)) := by
  intro vs o ho u r hv
  subst hv
  rw [List.length_cons] at ho
  rw [List.take_set, List.drop_set_of_lt (by omega), List.take_succ_eq_append_getElem (by omega), List.set_append_right _ _ (by rw [List.length_take]; omega),
    show o - (l.take o).length = 0 by rw [List.length_take]; omega, List.set_cons_zero, List.length_cons]
  rw [List.append_assoc, List.singleton_append, List.cons_append, show o + 1 + r.length = o + (r.length + 1) by omega]
theorem Whole.lay (vs : List Value) : ∀ {w : World} {g : Nat} {t : TypeId} {l : List Value} (o : Nat), Whole w g t l → o + vs.length ≤ l.length → Whole (w.setCells g o vs) g t (l.take o ++ (vs ++ l.drop (o + vs.length))) := by
  induction vs with
  | nil => intro w g t l o h _; simpa [World.setCells] using h
  | cons u r ih =>
    intro w g t l o h ho
    rw [List.length_cons] at ho
    have h2 := ih (o + 1) (h.put o u) (by rw [List.length_set]; omega)
    rw [set_cells l (u :: r) o (by rw [List.length_cons]; omega) u r rfl] at h2
    exact h2
theorem Whole.lay_apart (vs : List Value) : ∀ {w : World} {g : Nat} {t : TypeId} {l : List Value} (b o : Nat), Whole w g t l → g ≠ b → Whole (w.setCells b o vs) g t l := by
  induction vs with
  | nil => intro w g t l b o h _; simpa [World.setCells] using h
  | cons u r ih => intro w g t l b o h hb; exact ih b (o + 1) (h.apart (p := ⟨b, o, none⟩) hb u) hb
theorem below_lay (vs : List Value) : ∀ {B : Nat} {a w : World} (b o : Nat), Below B a w → B ≤ b → Below B a (w.setCells b o vs) := by
  induction vs with
  | nil => intro B a w b o h _; simpa [World.setCells] using h
  | cons u r ih => intro B a w b o h hb; exact ih b (o + 1) (h.setCell (p := ⟨b, o, none⟩) hb u) hb
end
/-- A store of a whole array or struct: the world behind it under one name. -/
theorem wpList_store_as {P : Program} {ops : Array Oper} {rest : List Oper} {op : Oper} {a : Act} {w : World} {Q : Exit → Act → World → Prop} (hgd : op.guard = none) (ty : TypeId) (x y : Operand) (ho : op.op = .store ty x y)
    (b o : Nat) (cells : Array Value) (hx : a.eval x = .pointer (some ⟨b, o, none⟩)) (hy : a.eval y = .agg cells)
    (ht : w.there b o cells.size) (hi : (P.info? ty).map (·.size) = some cells.size) (h1 : cells.all (·.oneCell') = true)
    (h : ∀ w2, w.setCells b o cells.toList = w2 → wpList P ops Q rest (a.put op.dst undef) w2) : wpList P ops Q (op :: rest) a w :=
  wpList_store_mid hgd ty x y ho b o cells hx hy ht hi h1 (h _ rfl)
/-- 'a[k]' of an array by value, its elements numbers. -/
theorem run_index_array {P : Program} {t e : TypeId} {n : Nat} {cs : Array Value} {ke : IntKind} (kd : IntKind) {k : Nat} {i : TypeInfo} {v : Value} (ht : P.underlying t = some (.array n e)) (he : P.underlying e = some (.int ke)) (hi : P.info? e = some i) (h1 : i.size = 1)
    (hk : k < n) (hv : cs[k]? = some v) (w : World) : (Instr.index t (.agg cs) (.int kd (k : Int))).run P w = .ok v w := by
  have hn : 0 ≤ (k : Int) ∧ (k : Int) < (n : Int) := by omega
  simp [Instr.index, run_underlying ht, asIntOf, go_sem, hk, sizeOf, typeInfo, hi, h1, isAgg, run_underlying he, hv]
/-! In a region that draws its order: an array or struct read whole, or stored whole, as one step. -/
section
variable {P : Program} {md : Region.Mode} {ops : Array Oper} {Q : Exit → Act → World → Prop} {fuel : Nat} {listed : Array Bool} {a : Act} {w : World} {rs : List Nat}
theorem ready_load {i : Nat} {o : Oper} (ho : ops[i]? = some o) (ty : TypeId) (x : Operand) (hop : o.op = .load ty x) (b off : Nat) (hx : a.eval x = .pointer (some ⟨b, off, none⟩)) (cs : List Value) (d : TypeDesc) (hc : w.rangeAt b off cs)
    (hu : P.underlying ty = some d) (hd : d.isRow = true) (hi : (P.info? ty).map (·.size) = some cs.length) (hw : Region.wanted o (yielded ops a.tmps) = true)
    (h : wpAny P md ops Q fuel (listed.setIfInBounds i true) (a.put o.dst (.agg cs.toArray)) w) (hs : AllReady P md ops Q fuel listed a w rs) : AllReady P md ops Q fuel listed a w (i :: rs) :=
  AllReady.cons ho (fun K hK => by rw [if_pos hw]; exact wp_load_mid ty x hop b off hx cs d hc hu hd hi (hK _ _ h)) hs
theorem ready_store {i : Nat} {o : Oper} (ho : ops[i]? = some o) (ty : TypeId) (x y : Operand) (hop : o.op = .store ty x y) (b off : Nat) (cells : Array Value) (hx : a.eval x = .pointer (some ⟨b, off, none⟩)) (hy : a.eval y = .agg cells)
    (ht : w.there b off cells.size) (hi : (P.info? ty).map (·.size) = some cells.size) (h1 : cells.all (·.oneCell') = true) (hw : Region.wanted o (yielded ops a.tmps) = true)
    (h : ∀ w2, w.setCells b off cells.toList = w2 → wpAny P md ops Q fuel (listed.setIfInBounds i true) (a.put o.dst undef) w2) (hs : AllReady P md ops Q fuel listed a w rs) : AllReady P md ops Q fuel listed a w (i :: rs) :=
  AllReady.cons ho (fun K hK => by rw [if_pos hw]; exact wp_store_mid ty x y hop b off cells hx hy ht hi h1 (hK _ _ (h _ rfl))) hs
end
end Go.Proofs.YtpgclhpobijdeaaDoor
/-
  BYTES AND BLOCKS IN MEMORY, for the package disk: lists of bytes as cells; a slice that leads to bytes; a world that has turned in some blocks alone. No program stands in it.
-/




namespace Go.Proofs.YtpgclhpobijdeaaDoor.disk
open Go.RowKit

def u8s (l : List Int) : List Value := l.map (Value.int .u8)
def Byte (l : List Int) : Prop := ∀ c ∈ l, 0 ≤ c ∧ c < 256
theorem Byte.at {l : List Int} (h : Byte l) {i : Nat} (hi : i < l.length) : 0 ≤ l.getD i 0 ∧ l.getD i 0 < 256 := by
  rw [List.getD_eq_getElem?_getD, List.getElem?_eq_getElem hi]; exact h _ (List.getElem_mem hi)
theorem u8s_at (l : List Int) {i : Nat} (hi : i < l.length) : (u8s l)[i]? = some (.int .u8 (l.getD i 0)) := by
  simp [u8s, List.getD_eq_getElem?_getD, List.getElem?_eq_getElem hi]
theorem u8s_length (l : List Int) : (u8s l).length = l.length := by simp [u8s]
theorem u8s_one (l : List Int) : ∀ v ∈ u8s l, v.oneCell' = true := by intro v hv; simp [u8s] at hv; obtain ⟨x, _, rfl⟩ := hv; rfl
theorem u8s_append (a b : List Int) : u8s (a ++ b) = u8s a ++ u8s b := by simp [u8s]
theorem Byte.take {l : List Int} (h : Byte l) (n : Nat) : Byte (l.take n) := fun c hc => h c (List.mem_of_mem_take hc)
theorem Byte.drop {l : List Int} (h : Byte l) (n : Nat) : Byte (l.drop n) := fun c hc => h c (List.mem_of_mem_drop hc)
theorem Byte.append {l m : List Int} (h : Byte l) (k : Byte m) : Byte (l ++ m) := fun c hc => by
  rcases List.mem_append.1 hc with hc | hc
  · exact h c hc
  · exact k c hc
theorem Byte.nil : Byte [] := fun c hc => by cases hc
theorem Byte.zeros (n : Nat) : Byte (List.replicate n 0) := fun c hc => by rw [List.eq_of_mem_replicate hc]; omega

/-- A slice's address leads to the bytes l. -/
def Leads (w : World) (a : Option Addr) (l : List Int) : Prop :=
  l = [] ∨ ∃ b off, a = some ⟨b, off, none⟩ ∧ ∀ i, i < l.length → w.cell? ⟨b, off + i, none⟩ = some (.int .u8 (l.getD i 0))
/-- .. and not into block g. -/
def Past (g : Nat) (a : Option Addr) (l : List Int) : Prop := l = [] ∨ ∀ b off, a = some ⟨b, off, none⟩ → b ≠ g

/-- w' is w but for the blocks of R, and new ones. -/
structure Turn (R : Nat → Prop) (w w' : World) : Prop where
  os : w'.os = w.os
  tape : w'.tape = w.tape
  output : w'.output = w.output
  size : w.heap.size ≤ w'.heap.size
  block : ∀ k, k < w.heap.size → ¬ R k → w'.heap[k]? = w.heap[k]?

section
variable {R R' : Nat → Prop} {w w' w'' : World}
theorem Turn.refl (R : Nat → Prop) (w : World) : Turn R w w := ⟨rfl, rfl, rfl, Nat.le_refl _, fun _ _ _ => rfl⟩
theorem Turn.mono (h : Turn R w w') (hR : ∀ k, k < w.heap.size → R k → R' k) : Turn R' w w' := ⟨h.os, h.tape, h.output, h.size, fun k hk hn => h.block k hk (fun e => hn (hR k hk e))⟩
theorem Turn.trans (h : Turn R w w') (k : Turn R' w' w'') (hR : ∀ k, k < w.heap.size → R' k → R k) : Turn R w w'' :=
  ⟨k.os.trans h.os, k.tape.trans h.tape, k.output.trans h.output, Nat.le_trans h.size k.size, fun i hi hn => (k.block i (Nat.lt_of_lt_of_le hi h.size) (fun e => hn (hR i hi e))).trans (h.block i hi hn)⟩
theorem Turn.then_ (h : Turn R w w') (k : Turn (fun k => R k ∨ w.heap.size ≤ k) w' w'') : Turn R w w'' :=
  h.trans k (fun i hi e => by rcases e with e | e; exact e; omega)
theorem Turn.of_below (h : Below w.heap.size w w') : Turn R w w' := ⟨h.os, h.tape, h.output, h.size, fun k hk _ => h.block k hk⟩
theorem Turn.of_grown {g : Nat} (h : w.grownBy w' (some g)) (hg : R g) : Turn R w w' := ⟨h.os, h.tape, h.output, h.size, fun k hk hn => h.block k hk (fun e => hn (by injection e with e; rw [e]; exact hg))⟩
theorem Turn.of_row {v : Value} (h : w.grownBy w' v.ownBlock) (hg : ∀ g, v.ownBlock = some g → R g) : Turn R w w' := ⟨h.os, h.tape, h.output, h.size, fun k hk hn => h.block k hk (fun e => hn (hg k e.symm))⟩
theorem Turn.of_none (h : w.grownBy w' none) : Turn R w w' := ⟨h.os, h.tape, h.output, h.size, fun k hk _ => h.block k hk (by simp)⟩
theorem Turn.below {B : Nat} (h : Turn R w w') (hR : ∀ k, R k → B ≤ k) (hB : B ≤ w.heap.size) : Below B w w' := ⟨h.os, h.tape, h.output, h.size, fun k hk => h.block k (by omega) (fun e => by have := hR k e; omega)⟩
theorem Turn.none_below (h : Turn (fun _ => False) w w') : Below w.heap.size w w' := h.below (fun _ e => e.elim) (Nat.le_refl _)
theorem Turn.alloc (h : Turn R w w') (o : Obj) : Turn R w (w'.alloc o) :=
  ⟨h.os, h.tape, h.output, by have := h.size; simp; omega, fun k hk hn => (alloc_keeps w' o k (Nat.lt_of_lt_of_le hk h.size)).trans (h.block k hk hn)⟩
theorem Turn.draws (h : Turn R w w') (n : Nat) : Turn R w (w'.drewN n) := ⟨h.os, h.tape, h.output, h.size, h.block⟩
theorem Turn.setCell (h : Turn R w w') {g : Nat} (i : Nat) (u : Value) (hg : R g ∨ w.heap.size ≤ g) : Turn R w (w'.setCell ⟨g, i, none⟩ u) :=
  ⟨h.os, h.tape, h.output, by simpa [World.setCell] using h.size, fun k hk hn => (heap_setCell_other w' ⟨g, i, none⟩ k u (fun e => by
    rcases hg with hg | hg
    · exact hn (by rw [show k = g from e]; exact hg)
    · have : k = g := e
      omega)).trans (h.block k hk hn)⟩
theorem Turn.cell (h : Turn R w w') {b o : Nat} (hb : b < w.heap.size) (hR : ¬ R b) : w'.cell? ⟨b, o, none⟩ = w.cell? ⟨b, o, none⟩ := World.cell?_of_block (a := ⟨b, o, none⟩) (h.block b hb hR)
theorem Turn.frozen (h : Turn R w w') {b o : Nat} (hb : b < w.heap.size) (hR : ¬ R b) : w'.frozen? ⟨b, o, none⟩ = w.frozen? ⟨b, o, none⟩ := World.frozen?_of_block (a := ⟨b, o, none⟩) (h.block b hb hR)
end

/-! what stays where its block stays -/
section
variable {w w' : World}
theorem Whole.same {g : Nat} {t : TypeId} {l : List Value} (h : Whole w g t l) (e : w'.heap[g]? = w.heap[g]?) : Whole w' g t l := e.trans h
theorem row_same {base : Nat} {t : TypeId} {sz : Nat} {v : Value} {n : Nat} {xs : List Value} (h : w.ownsRow base t sz v n xs) (e : ∀ g, v.ownBlock = some g → w'.heap[g]? = w.heap[g]?) : w'.ownsRow base t sz v n xs := by
  refine ⟨h.1, ?_⟩
  rcases h.2 with hn | ⟨g, cap, cur, rfl, hb, hgg, rest⟩
  · exact .inl hn
  · exact .inr ⟨g, cap, cur, rfl, hb, (e g rfl).trans hgg, rest⟩
theorem map_same {H : Type} {P : Program} {k : TypeId} {R : Value → Option (DataW H × List MemPlace)} {b n : Nat} {D : DataW H} (h : w.ownsMap P k R b n D) (e : w'.heap[b]? = w.heap[b]?) : w'.ownsMap P k R b n D := by
  obtain ⟨es, clock, hb, r⟩ := h
  exact ⟨es, clock, e.trans hb, r⟩
/-- A block that is a map is no block of cells. -/
theorem map_ne_whole {H : Type} {P : Program} {k : TypeId} {R : Value → Option (DataW H × List MemPlace)} {b n g : Nat} {t : TypeId} {l : List Value} {D : DataW H} (h : w.ownsMap P k R b n D) (hw : Whole w g t l) : b ≠ g := by
  rintro rfl
  obtain ⟨es, clock, hb, _⟩ := h
  rw [Whole, hb] at hw
  cases hw
theorem map_ne_row {H : Type} {P : Program} {k : TypeId} {R : Value → Option (DataW H × List MemPlace)} {b n g : Nat} {D : DataW H} {base : Nat} {t : TypeId} {sz : Nat} {v : Value} {m : Nat} {xs : List Value} (h : w.ownsMap P k R b n D) (hw : w.ownsRow base t sz v m xs) (hg : v.ownBlock = some g) : b ≠ g := by
  rintro rfl
  obtain ⟨es, clock, hb, _⟩ := h
  rcases hw.2 with ⟨rfl, _⟩ | ⟨g', cap, cur, rfl, _, hgg, _⟩
  · simp [Value.ownBlock] at hg
  · simp [Value.ownBlock] at hg
    subst hg
    rw [hb] at hgg
    cases hgg
theorem Leads.nil (w : World) (a : Option Addr) : Leads w a [] := .inl rfl
theorem Leads.same {a : Option Addr} {l : List Int} (h : Leads w a l) (e : ∀ b off, a = some ⟨b, off, none⟩ → l ≠ [] → w'.heap[b]? = w.heap[b]?) : Leads w' a l := by
  by_cases hl : l = []
  · exact .inl hl
  · rcases h with h | ⟨b, off, rfl, hc⟩
    · exact absurd h hl
    · exact .inr ⟨b, off, rfl, fun i hi => (World.cell?_of_block (a := ⟨b, off + i, none⟩) (e b off rfl hl)).trans (hc i hi)⟩
theorem Leads.lt {a : Option Addr} {l : List Int} (h : Leads w a l) (hl : l ≠ []) : ∃ b off, a = some ⟨b, off, none⟩ ∧ b < w.heap.size := by
  rcases h with h | ⟨b, off, rfl, hc⟩
  · exact absurd h hl
  · exact ⟨b, off, rfl, block_lt_of_cell (hc 0 (List.length_pos_iff.2 hl))⟩
theorem Leads.later {a : Option Addr} {l : List Int} (h : Leads w a l) (hb : Below w.heap.size w w') : Leads w' a l := by
  rcases h with h | ⟨b, off, rfl, hc⟩
  · exact .inl h
  · exact .inr ⟨b, off, rfl, fun i hi => (hb.cell (p := ⟨b, off + i, none⟩) (block_lt_of_cell (hc i hi))).trans (hc i hi)⟩
theorem Leads.turned {R : Nat → Prop} {a : Option Addr} {l : List Int} (h : Leads w a l) (ht : Turn R w w') (hR : ∀ b off, a = some ⟨b, off, none⟩ → l ≠ [] → ¬ R b) : Leads w' a l :=
  h.same fun b off e hl => by
    obtain ⟨b', off', e', hb⟩ := h.lt hl
    rw [e] at e'
    injection e' with e'
    injection e' with e1
    subst e1
    exact ht.block b hb (hR b off e hl)
theorem Leads.take {a : Option Addr} {l : List Int} (h : Leads w a l) (n : Nat) : Leads w a (l.take n) := by
  rcases h with rfl | ⟨b, off, rfl, hc⟩
  · exact .inl (by simp)
  · refine .inr ⟨b, off, rfl, fun i hi => ?_⟩
    rw [List.length_take] at hi
    rw [hc i (by omega), List.getD_eq_getElem?_getD, List.getD_eq_getElem?_getD, List.getElem?_take_of_lt (by omega)]
theorem Leads.drop {b off : Nat} {l : List Int} (h : Leads w (some ⟨b, off, none⟩) l) (n : Nat) : Leads w (some ⟨b, off + n, none⟩) (l.drop n) := by
  rcases h with rfl | ⟨b', off', e, hc⟩
  · exact .inl (by simp)
  · obtain ⟨rfl, rfl⟩ : b = b' ∧ off = off' := by simpa using e
    refine .inr ⟨b, off + n, rfl, fun i hi => ?_⟩
    rw [List.length_drop] at hi
    rw [Nat.add_assoc, hc (n + i) (by omega), List.getD_eq_getElem?_getD, List.getD_eq_getElem?_getD, List.getElem?_drop]
theorem Past.take {g : Nat} {a : Option Addr} {l : List Int} (h : Past g a l) (n : Nat) : Past g a (l.take n) := by
  rcases h with rfl | h
  · exact .inl (by simp)
  · exact .inr h
end
end Go.Proofs.YtpgclhpobijdeaaDoor.disk
/-
  ROWS OF BYTES OF THE DISK's OWN: made, grown by noughts, copied into, cloned.
-/









namespace Go.Proofs.YtpgclhpobijdeaaDoor.disk
open Go.RowKit

theorem byte_info : (Tryd.prog.info? 5).map (fun i => (i.zero, i.size, i.bytes)) = some (some (.int .u8 0), 1, 1) := by kernel_rfl
theorem byte_size : (Tryd.prog.info? 5).map (·.size) = some 1 := by kernel_rfl

/-- A row of bytes of one's own. -/
def Own (w : World) (v : Value) (l : List Int) : Prop := w.ownsRow 0 5 1 v l.length (u8s l)

theorem Own.none_ (w : World) : Own w (.slice none 0 0) [] := World.ownsRow_nil w 0 _ _
theorem Own.lt {w : World} {v : Value} {l : List Int} (h : Own w v l) {g : Nat} (hg : v.ownBlock = some g) : g < w.heap.size := (World.ownsRow.lt h g hg).2
theorem Own.form {w : World} {v : Value} {l : List Int} (h : Own w v l) :
    ∃ a cap, v = .slice a l.length cap ∧ l.length ≤ cap ∧ cap ≤ 9223372036854775807 ∧ (a = none → l.length = 0 ∧ cap = 0) ∧ Leads w a l ∧ (a = none ∨ ∃ g, a = some ⟨g, 0, none⟩ ∧ v.ownBlock = some g ∧ g < w.heap.size) := by
  have hc := fun g hg => World.ownsRow.cells h (g := g) hg
  have hlt := World.ownsRow.lt h
  rcases h.2 with ⟨rfl, h0⟩ | ⟨g, cap, cur, rfl, _, _, h1, h2, _, _⟩
  · have hl : l = [] := List.eq_nil_of_length_eq_zero h0
    subst hl
    exact ⟨none, 0, rfl, by simp, by omega, fun _ => ⟨rfl, rfl⟩, .inl rfl, .inl rfl⟩
  · unfold maxLen at h2
    refine ⟨_, cap, rfl, h1, by omega, (fun e => by cases e), .inr ⟨g, 0, rfl, fun i hi => ?_⟩, .inr ⟨g, rfl, rfl, (hlt g rfl).2⟩⟩
    have := hc g rfl i _ (u8s_at l hi)
    rwa [Addr.add_mid] at this
theorem Own.same {w w' : World} {v : Value} {l : List Int} (h : Own w v l) (e : ∀ g, v.ownBlock = some g → w'.heap[g]? = w.heap[g]?) : Own w' v l := row_same h e
theorem Own.turned {R : Nat → Prop} {w w' : World} {v : Value} {l : List Int} (h : Own w v l) (ht : Turn R w w') (hR : ∀ g, v.ownBlock = some g → ¬ R g) : Own w' v l :=
  h.same fun g hg => ht.block g (h.lt hg) (hR g hg)
theorem Own.later {w w' : World} {v : Value} {l : List Int} (h : Own w v l) (hb : Below w.heap.size w w') : Own w' v l := h.same fun g hg => hb.block g (h.lt hg)
theorem Own.cells {w : World} {g n cap : Nat} {l : List Int} (h : Own w (.slice (some ⟨g, 0, none⟩) n cap) l) (hl : l.length = n) : ∃ cur : Array Value, w.heap[g]? = some (.cells cur 5 (0, 0)) ∧ cur.size = cap ∧ n ≤ cap ∧ cap ≤ maxLen ∧ cur.toList.take n = u8s l := by
  rcases h.2 with ⟨e, _⟩ | ⟨g', cap', cur, e, _, hg, h1, h2, h3, h4⟩
  · cases e
  · injection e with e1 e2 e3
    injection e1 with e1
    injection e1 with e1
    subst e1
    subst e3
    subst hl
    exact ⟨cur, hg, by simpa using h3, h1, h2, by simpa using h4⟩
theorem Own.mk_ {w : World} {g cap : Nat} {l : List Int} {cur : Array Value} (hg : w.heap[g]? = some (.cells cur 5 (0, 0))) (hs : cur.size = cap) (hn : l.length ≤ cap) (hm : cap ≤ maxLen) (ht : cur.toList.take l.length = u8s l) : Own w (.slice (some ⟨g, 0, none⟩) l.length cap) l :=
  ⟨by rw [u8s_length, Nat.mul_one], .inr ⟨g, cap, cur, rfl, Nat.zero_le _, hg, hn, hm, by simpa using hs, by simpa using ht⟩⟩

/-- part laid over l from place at on, noughts between. -/
def laidL (l : List Int) (at_ : Nat) (part : List Int) : List Int :=
  if part = [] then l else splice (l ++ List.replicate (at_ + part.length - l.length) 0) at_ part
theorem laidL_nil (l : List Int) (at_ : Nat) : laidL l at_ [] = l := by simp [laidL]
theorem laidL_length (l : List Int) (at_ : Nat) (part : List Int) (hp : part ≠ []) : (laidL l at_ part).length = max l.length (at_ + part.length) := by
  rw [laidL, if_neg hp, length_splice]
  · simp; omega
  · simp; omega
theorem laidL_length_le (l : List Int) (at_ : Nat) (part : List Int) : (laidL l at_ part).length ≤ max l.length (at_ + part.length) := by
  by_cases hp : part = []
  · subst hp; rw [laidL_nil]; omega
  · rw [laidL_length _ _ _ hp]; omega
theorem Byte.splice {l m : List Int} (h : Byte l) (k : Byte m) (n : Nat) : Byte (splice l n m) := by
  unfold Go.splice
  exact (h.take n).append (k.append (h.drop _))
theorem Byte.laid {l m : List Int} (h : Byte l) (k : Byte m) (n : Nat) : Byte (laidL l n m) := by
  unfold laidL
  split
  · exact h
  · exact Byte.splice (h.append (Byte.zeros _)) k n

theorem zeros_list (n : Nat) : (Builtin.zeroCells #[Value.int .u8 0] n).toList = u8s (List.replicate n 0) := by
  apply List.ext_getElem
  · simp [Builtin.zeroCells, u8s]
  · intro i h1 h2
    simp [Builtin.zeroCells, u8s, Nat.mod_one]

theorem int_kind : Tryd.prog.underlying 3 = some (.int .i64) := Tryd.underlying3

theorem append_zeros {w : World} {v : Value} {l : List Int} (h : Own w v l) (n : Nat) (h0 : 0 < n) (hn : l.length + n ≤ 1000000000) :
    ∃ v' w', (Builtin.append_ #[44, 3] 44 #[v, .int .i64 (n : Int)]).run Tryd.prog w = .ok v' w' ∧ Own w' v' (l ++ List.replicate n 0) ∧ w.grownBy w' v.ownBlock ∧
      (∃ g cap, v' = .slice (some ⟨g, 0, none⟩) (l.length + n) cap ∧ (v.ownBlock = some g ∨ g = w.heap.size)) := by
  obtain ⟨i0, hi, hz0, hz1, hz2⟩ := info_parts byte_info
  have hzc : (Value.int .u8 0).cells = #[Value.int .u8 0] := rfl
  have hown := h
  unfold Own at hown
  have hlen : (u8s (l ++ List.replicate n 0)).length = l.length + n := by simp [u8s]
  -- what the growing arm leaves
  have grown : ∀ (old : Nat) (row : Option Nat),
      Own (w.drew.alloc (.cells ((u8s l).toArray ++ Builtin.zeroCells #[Value.int .u8 0] n ++ Builtin.zeroCells #[Value.int .u8 0] (grownCap w (l.length + n) old 5 - (l.length + n))) 5)) (.slice (some ⟨w.heap.size, 0, none⟩) (l.length + n) (grownCap w (l.length + n) old 5)) (l ++ List.replicate n 0) ∧
      w.grownBy (w.drew.alloc (.cells ((u8s l).toArray ++ Builtin.zeroCells #[Value.int .u8 0] n ++ Builtin.zeroCells #[Value.int .u8 0] (grownCap w (l.length + n) old 5 - (l.length + n))) 5)) row := by
    intro old row
    have hge := grownCap_ge w (l.length + n) old 5
    have hcm : grownCap w (l.length + n) old 5 ≤ maxLen := grownCap_le_maxLen w (l.length + n) old 5 (by unfold maxLen; omega)
    refine ⟨?_, ⟨rfl, rfl, rfl, by simp, fun k hk _ => heap_alloc_old w.drew _ hk⟩⟩
    unfold Own
    rw [List.length_append, List.length_replicate]
    refine ⟨by rw [hlen, Nat.mul_one], .inr ⟨w.heap.size, _, _, rfl, Nat.zero_le _, heap_alloc_new w.drew _, hge, hcm, ?_, ?_⟩⟩
    · simp only [Array.size_append, List.size_toArray, size_zeroCells, u8s_length, List.size_toArray, List.length_cons, List.length_nil]
      omega
    · simp only [Array.toList_append, zeros_list, Nat.mul_one]
      rw [show (u8s l).toArray.toList ++ u8s (List.replicate n 0) = u8s (l ++ List.replicate n 0) by simp [u8s], ← hlen]
      exact List.take_left
  rcases hown.2 with ⟨rfl, hl0⟩ | ⟨g, cap, cur, rfl, hbg, hg, hnc, hcm, hcs, htake⟩
  · obtain rfl : l = [] := List.eq_nil_of_length_eq_zero hl0
    have hr := Lib.run_append_nil_zeros (P := Tryd.prog) w 44 3 44 5 i0 (.int .u8 0) .i64 .i64 Tryd.underlying44 int_kind hi hz0 n h0 (by omega) (by simp at hn; omega) (by rw [hz2]; simp at hn; omega)
    have hgr := grown 0 (Value.ownBlock (.slice none 0 0))
    simp only [List.length_nil, Nat.zero_add] at hgr
    rw [hzc] at hr
    exact ⟨_, _, hr, by simpa [u8s] using hgr.1, by simpa [u8s] using hgr.2, w.heap.size, _, by rw [List.length_nil, Nat.zero_add], .inr rfl⟩
  · rw [Nat.mul_one] at hcs htake
    by_cases hroom : l.length + n ≤ cap
    · have hfit : l.length + (u8s (List.replicate n 0)).length ≤ cur.size := by rw [hcs, u8s_length, List.length_replicate]; exact hroom
      have hst := run_storeCells_at Tryd.prog g l.length 5 (u8s (List.replicate n 0)) 0 cur w hg (by simpa using hfit) (by intro v hv; simp [u8s] at hv; obtain ⟨_, rfl⟩ := hv; rfl)
      simp only [Nat.add_zero] at hst
      have hw : IntKind.i64.wrap (n : Int) = n := by rw [IntKind.wrap_i64]; omega
      have hneg : ¬ ((n : Int) < 0) := by omega
      have h48i : ¬ (281474976710656 < (n : Int)) := by omega
      have hn0 : n ≠ 0 := by omega
      have hr : (Builtin.append_ #[44, 3] 44 #[.slice (some ⟨g, 0, none⟩) l.length cap, .int .i64 (n : Int)]).run Tryd.prog w =
          .ok (.slice (some ⟨g, 0, none⟩) (l.length + n) cap) (w.setRow g (cur.toList.take l.length ++ u8s (List.replicate n 0) ++ cur.toList.drop (l.length + (u8s (List.replicate n 0)).length)).toArray) := by
        simp [Builtin.append_, run_underlying Tryd.underlying44, run_underlying int_kind, sizeOf, typeInfo, zeroValue, hi, hz0, hz1, hz2, asInt, asIntOf, hw, hneg, h48i, hroom, Addr.add_lit, hzc, hn0, zeros_list, hst]
      refine ⟨_, _, hr, ?_, ?_, g, cap, rfl, .inl rfl⟩
      · unfold Own
        rw [List.length_append, List.length_replicate]
        refine ⟨by rw [hlen, Nat.mul_one], .inr ⟨g, cap, _, rfl, hbg, setRow_heap w g cur _ _ _ hg, hroom, hcm, ?_, ?_⟩⟩
        · simp only [List.size_toArray, List.length_append, List.length_take, List.length_drop, Array.length_toList, u8s_length, List.length_replicate]
          omega
        · rw [htake, Nat.mul_one, show u8s l ++ u8s (List.replicate n 0) = u8s (l ++ List.replicate n 0) by simp [u8s], ← hlen]
          exact List.take_left
      · exact ⟨rfl, rfl, rfl, by simp, fun k _ hk => setRow_other w g k _ (fun e => hk (by simp [Value.ownBlock, e]))⟩
    · have holds : ∀ j u, (u8s l)[j]? = some u → w.cell? ((⟨g, 0, none⟩ : Addr).add j) = some u := World.ownsRow.cells hown (g := g) rfl
      have hfo := run_firstCells_some (P := Tryd.prog) w.drew i0.size l.length ⟨g, 0, none⟩ l.length cap (u8s l) (by rw [u8s_length, hz1, Nat.mul_one]) (by simpa using holds)
      have hr := Lib.run_append_grow_zeros (P := Tryd.prog) w 44 3 44 5 i0 (.int .u8 0) .i64 .i64 Tryd.underlying44 int_kind hi hz0 (some ⟨g, 0, none⟩) l.length cap (u8s l) hfo n h0 (by omega) (by omega) (by omega) (by rw [hz2]; omega) (growslice_fits (by omega) (by rw [hz2]; omega))
      have hgr := grown cap (Value.ownBlock (.slice (some ⟨g, 0, none⟩) l.length cap))
      rw [hzc] at hr
      exact ⟨_, _, hr, hgr.1, hgr.2, w.heap.size, _, rfl, .inr rfl⟩

/-- AT THE OPERATION: an append whose run is known. -/
theorem wpList_append_run {w w' : World} {v' : Value} {ops : Array Oper} {rest : List Oper} {o : Oper} {a : Act} {Q : Exit → Act → World → Prop} (T : TypeId) (s x : Operand) (v u : Value) (hgd : o.guard = none)
    (ho : o.op = .call { callee := .builtin .append, args := #[s, x], argTypes := #[44, T] }) (hty : o.type = 44) (hs : a.eval s = v) (hx : a.eval x = u)
    (hrun : (Builtin.append_ #[44, T] 44 #[v, u]).run Tryd.prog w = .ok v' w')
    (h : wpList Tryd.prog ops Q rest (a.put o.dst v') w') : wpList Tryd.prog ops Q (o :: rest) a w := by
  refine wpList_plain hgd fun K hK => ?_
  unfold Oper.wp execOp
  simp only [ho, hty, resolve, invoke, builtin, Sem.run_bind, Sem.run_pure, Result.andThen_ok, List.map_toArray, List.map_cons, List.map_nil, hs, hx, hrun]
  exact hK _ _ h

/-- Bytes appended to a row of one's own (a nil source too). -/
theorem append_row {w : World} {v : Value} {l : List Int} (h : Own w v l) (a : Option Addr) (m cap : Nat) (b : List Int) (hb : Leads w a b) (hm : b.length = m)
    (ha : a = none → cap = 0) (hn : l.length + m ≤ 1000000000) :
    ∃ v' w', (Builtin.append_ #[44, 44] 44 #[v, .slice a m cap]).run Tryd.prog w = .ok v' w' ∧ Own w' v' (l ++ b) ∧ w.grownBy w' v.ownBlock ∧ (v'.ownBlock = v.ownBlock ∨ v'.ownBlock = some w.heap.size) := by
  obtain ⟨i0, hi, hz0, hz1, hz2⟩ := info_parts byte_info
  cases a with
  | none =>
    have hb0 : b = [] := by
      rcases hb with h | ⟨_, _, e, _⟩
      · exact h
      · cases e
    subst hb0
    obtain rfl : m = 0 := by simpa using hm.symm
    obtain rfl := ha rfl
    exact ⟨v, w, run_append_owned_none w 0 _ _ _ i0 1 Tryd.underlying44 hi v l.length (u8s l) h, by simpa using h, World.grownBy.refl w _, .inl rfl⟩
  | some ad =>
    have hcells : ∀ j u, (u8s b)[j]? = some u → w.cell? (ad.add j) = some u := by
      intro j u hu
      rcases hb with rfl | ⟨g, off, he', hc⟩
      · simp [u8s] at hu
      · have hj : j < b.length := by
          have := (List.getElem?_eq_some_iff.1 hu).1
          rwa [u8s_length] at this
        rw [u8s_at b hj] at hu
        obtain rfl : ad = ⟨g, off, none⟩ := Option.some.inj he'
        rw [← hu, ← hc j hj, Addr.add_mid]
    obtain ⟨v', w', h1, h2, h3, _, h5⟩ := run_append_own_at (P := Tryd.prog) w 0 44 44 5 i0 (.int .u8 0) 1 1 Tryd.underlying44 hi hz0 hz1 hz2 rfl (by decide) v l.length (u8s l) h
      ad m cap (u8s b) (by rw [u8s_length, hm]; simp) hcells (by intro u hu; simp [u8s] at hu; obtain ⟨c, _, rfl⟩ := hu; rfl) (by unfold maxLen; omega) (by omega) (Nat.zero_le _)
    refine ⟨v', w', h1, ?_, h3, h5⟩
    unfold Own
    rw [List.length_append, hm]
    unfold u8s at h2 ⊢
    rw [List.map_append]; exact h2

theorem run_make_bytes (w : World) (n : Nat) (hn : n ≤ 1000000000) :
    ∃ w', (Instr.makeSlice 44 (.int .i64 (n : Int)) (.int .i64 (n : Int))).run Tryd.prog w = .ok (.slice (some ⟨w.heap.size, 0, none⟩) n n) w' ∧
      Own w' (.slice (some ⟨w.heap.size, 0, none⟩) n n) (List.replicate n 0) ∧ Below w.heap.size w w' := by
  obtain ⟨i0, hi, hz0, hz1, hz2⟩ := info_parts byte_info
  obtain ⟨w', h1, h2, h3⟩ := run_make_full (P := Tryd.prog) w w.heap.size 44 5 i0 (.int .u8 0) 1 Tryd.underlying44 hi hz0 hz1 .i64 .i64 n (by rw [hz2]; omega) (by unfold maxLen; omega) (Nat.le_refl _)
  refine ⟨w', h1, ?_, (Below.refl _ _).grown h3 (Nat.le_refl _) (fun k hk => by cases hk)⟩
  unfold Own
  rw [List.length_replicate]
  have e : u8s (List.replicate n 0) = (madeCells (Value.int .u8 0).cells (n * 1)).toList := by
    rw [show (Value.int .u8 0).cells = #[Value.int .u8 0] from rfl, toList_madeCells_one]
    simp [u8s]
  rw [e]
  refine ⟨h2.1, ?_⟩
  rcases h2.2 with h | ⟨g, cap, cur, e1, _, e3⟩
  · exact .inl h
  · exact .inr ⟨g, cap, cur, e1, Nat.zero_le _, e3⟩

/-- Bytes copied into a row of one's own. -/
theorem run_copy_own {w : World} {g n cap : Nat} {l : List Int} (h : Own w (.slice (some ⟨g, 0, none⟩) n cap) l) (hl : l.length = n) (at_ : Nat) (A : Option Addr) (m mcap : Nat) (part : List Int) (hp : Leads w A part) (hm : part.length = m) (hpos : 0 < m) (hfit : at_ + m ≤ n) (ty : TypeId) (dCap : Nat) :
    ∃ w', (Builtin.copy_ #[44, 44] ty #[.slice (some ⟨g, at_, none⟩) (n - at_) dCap, .slice A m mcap]).run Tryd.prog w = .ok (.int .i64 (m : Int)) w' ∧ Own w' (.slice (some ⟨g, 0, none⟩) n cap) (splice l at_ part) ∧ w.grownBy w' (some g) := by
  subst hm
  subst hl
  obtain ⟨b, o', rfl, hc⟩ : ∃ b off, A = some ⟨b, off, none⟩ ∧ ∀ i, i < part.length → w.cell? ⟨b, off + i, none⟩ = some (.int .u8 (part.getD i 0)) := by
    rcases hp with rfl | h
    · simp at hpos
    · exact h
  obtain ⟨cur, hg, hs, hn, hmx, ht⟩ := h.cells rfl
  have hsrc : ∀ j v, (u8s part)[j]? = some v → w.cell? ((⟨b, o', none⟩ : Addr).add j) = some v := by
    intro j v hv
    have hj : j < part.length := by have := (List.getElem?_eq_some_iff.1 hv).1; rwa [u8s_length] at this
    rw [u8s_at part hj] at hv
    rw [Addr.add_mid, hc j hj, hv]
  have hrun := run_copy_row (P := Tryd.prog) w 44 44 ty 5 g at_ (l.length - at_) dCap ⟨b, o', none⟩ part.length mcap cur 5 (u8s part) Tryd.underlying44 byte_size hg
    (by rw [u8s_length]; exact (Nat.min_eq_left (by omega)).symm) hsrc (by rw [u8s_length, hs]; omega) (u8s_one part)
  rw [u8s_length] at hrun
  refine ⟨_, hrun, ?_, ⟨rfl, rfl, rfl, by simp [World.setRow], fun k _ hk => setRow_other w g k _ (fun e => hk (by rw [e]))⟩⟩
  have hlen : (splice l at_ part).length = l.length := length_splice l at_ part hfit
  have k := Own.mk_ (w := w.setRow g (cur.toList.take at_ ++ (u8s part ++ cur.toList.drop (at_ + part.length))).toArray) (g := g) (cap := cap) (l := splice l at_ part) (setRow_heap w g _ _ 5 _ hg)
    (by simp [u8s_length]; omega) (by rw [hlen]; exact hn) hmx (by
      rw [hlen]
      have e1 : cur.toList = u8s l ++ cur.toList.drop l.length := by rw [← ht, List.take_append_drop]
      rw [List.toList_toArray]
      generalize cur.toList.drop l.length = junk at e1
      rw [e1, List.take_append_of_le_length (l₁ := u8s l) (by rw [u8s_length]; omega), List.drop_append_of_le_length (l₁ := u8s l) (by rw [u8s_length]; omega)]
      have e2 : (u8s l).take at_ ++ (u8s part ++ ((u8s l).drop (at_ + part.length) ++ junk)) = u8s (splice l at_ part) ++ junk := by
        simp [Go.splice, u8s]
      rw [e2]
      have e3 : (u8s (splice l at_ part)).length = l.length := by rw [u8s_length, hlen]
      rw [← e3]
      exact List.take_left)
  rw [hlen] at k
  rw [List.append_assoc]
  exact k
end Go.Proofs.YtpgclhpobijdeaaDoor.disk
/-
  CONTRACTS of bytes.Clone and disk.laid.
-/

namespace Go.Proofs.YtpgclhpobijdeaaDoor.disk
open Go.RowKit

theorem eql_nil (w : World) (a : Option Addr) (n c n' c' : Nat) : (binOp .eql 44 (.slice a n c) (.slice none n' c')).run Tryd.prog w = .ok (.bool a.isNone) w := Lib.run_eql_slice_nil w _ _ a n c n' c' Tryd.underlying44

theorem clone_nil (n c : Nat) (w : World) : Calls Tryd.prog 42 #[.slice none n c] w fun e w' => e = .returned (.slice none 0 0) ∧ w = w' := by
  have q := eql_nil
  go_enter Tryd.func42, Tryd.ntmps42
  go_wp2
  go_ret
  exact ⟨rfl, rfl⟩

set_option maxRecDepth 100000 in
set_option maxHeartbeats 1000000 in
theorem clone_some (ad : Addr) (n c : Nat) (l : List Int) (w : World) (hl : l.length = n) (hb : Leads w (some ad) l) (hn : n ≤ 100000000) :
    Calls Tryd.prog 42 #[.slice (some ad) n c] w fun e w' => ∃ v, e = .returned v ∧ Own w' v l ∧ (∀ g, v.ownBlock = some g → w.heap.size ≤ g) ∧ Below w.heap.size w w' := by
  have q := eql_nil
  have HB := Lib.hid hb
  have HL := Lib.hid hl
  clear hb hl
  have key : ∀ w1 : World, Below w.heap.size w w1 → ∃ v' w', (Builtin.append_ #[44, 44] 44 #[.slice (some ⟨w1.heap.size, 0, none⟩) 0 0, .slice (some ad) n c]).run Tryd.prog (w1.alloc (.cells #[] 5)) = .ok v' w' ∧
      Hid (Own w' v' l ∧ (∀ g, v'.ownBlock = some g → w1.heap.size ≤ g) ∧ Below w.heap.size w w') := by
    intro w1 h1
    have ho : Own (w1.alloc (.cells #[] 5)) (.slice (some ⟨w1.heap.size, 0, none⟩) 0 0) [] := World.ownsRow_made w1 #[] 0 (Nat.zero_le _) (Nat.zero_le _) rfl
    have h2 : Below w.heap.size w (w1.alloc (.cells #[] 5)) := h1.alloc h1.size _
    obtain ⟨v', w', r1, r2, r3, r4⟩ := append_row ho (some ad) n c l (HB.out.later h2) HL.out (fun e => by cases e) (by simp; omega)
    refine ⟨v', w', r1, show _ from ⟨by simpa using r2, ?_, h2.grown r3 ?_ ?_⟩⟩
    · intro g hg
      rcases r4 with r4 | r4
      · rw [r4] at hg; simp [Value.ownBlock] at hg; omega
      · rw [r4] at hg; simp at hg; omega
    · exact h2.size
    · intro k hk; simp [Value.ownBlock] at hk; have := h1.size; omega
  have K := Lib.hid key
  clear key hn
  go_enter Tryd.func42, Tryd.ntmps42
  obtain ⟨v', w', hrun, hk⟩ := K.out w (Below.refl _ _)
  have HR := Lib.hid hrun
  clear hrun
  go_wp2_with ((with_reducible show wpList _ _ _ _ _ _); refine wpList_append_run 44 (.tmp 5) (.tmp 6) (.slice (some ⟨w.heap.size, 0, none⟩) 0 0) (.slice (some ad) n c) rfl rfl rfl rfl rfl HR.out ?_)
  go_ret
  exact ⟨_, rfl, hk.out.1, hk.out.2.1, hk.out.2.2⟩

theorem byte_elem : Tryd.prog.elem 44 = 5 := by kernel_rfl
theorem byte_sizeOf (w : World) : (sizeOf 5).run Tryd.prog w = .ok 1 w := by kernel_rfl
theorem run_from (g off n cap p : Nat) (hp : p < n) (hn : n ≤ cap) (w : World) : (Instr.slice 44 (.slice (some ⟨g, off, none⟩) n cap) (some (.int .i64 (p : Int))) none none).run Tryd.prog w = .ok (.slice (some ⟨g, off + p, none⟩) (n - p) (cap - p)) w := by
  rw [run_slice_l w 44 _ n cap (by rw [byte_elem]; exact Tryd.underlying44) .i64 (p : Int) (by omega) (by omega), byte_elem, byte_sizeOf]
  have h1 : ¬ (cap = p) := by omega
  simp [Result.andThen, sliced, h1, Addr.add_mid]
/-- Where a slice begins that is cut at p. -/
def cutAt (a : Option Addr) (cap p : Nat) : Option Addr := if cap = p then a else a.map (·.add p)
theorem run_cut (a : Option Addr) (n cap p q : Nat) (hp : p ≤ q) (hq : q ≤ cap) (w : World) : (Instr.slice 44 (.slice a n cap) (some (.int .i64 (p : Int))) (some (.int .i64 (q : Int))) none).run Tryd.prog w = .ok (.slice (cutAt a cap p) (q - p) (cap - p)) w := by
  rw [run_slice_lh w 44 _ n cap (by rw [byte_elem]; exact Tryd.underlying44) .i64 .i64 (p : Int) (q : Int) (by omega) (by omega) (by omega), byte_elem, byte_sizeOf]
  simp [Result.andThen, sliced, cutAt]
theorem leads_cut {w : World} {a : Option Addr} {l : List Int} {cap : Nat} (h : Leads w a l) (p q : Nat) (hp : p ≤ q) (hq : q ≤ l.length) (hc : l.length ≤ cap) : Leads w (cutAt a cap p) ((l.drop p).take (q - p)) := by
  unfold cutAt
  by_cases hpq : p = q
  · subst hpq; rw [Nat.sub_self, List.take_zero]; exact Leads.nil _ _
  · rw [if_neg (by omega)]
    rcases h with rfl | ⟨b, off, rfl, hc'⟩
    · simp at hq; omega
    · simp only [Option.map_some, Addr.add_mid]
      exact Leads.take (Leads.drop (.inr ⟨b, off, rfl, hc'⟩) p) _

/-- What 'laid' answers with: the row behind it, and where it lies. -/
def LaidOut (w : World) (v : Value) (l : List Int) (e : Ending) (w' : World) : Prop :=
  ∃ v', e = .returned v' ∧ Own w' v' l ∧ w.grownBy w' v.ownBlock ∧ (v'.ownBlock = v.ownBlock ∨ ∃ g, v'.ownBlock = some g ∧ w.heap.size ≤ g)

theorem laid_none (v : Value) (l : List Int) (p : Int) (A : Option Addr) (mcap : Nat) (w : World) (hv : Own w v l) :
    Calls Tryd.prog 71 #[v, .int .i64 p, .slice A 0 mcap] w (LaidOut w v (laidL l 0 [])) := by
  obtain ⟨a, cap, rfl, _⟩ := hv.form
  have hL : LaidOut w (.slice a l.length cap) (laidL l 0 []) (.returned (.slice a l.length cap)) w := ⟨_, rfl, by rw [laidL_nil]; exact hv, World.grownBy.refl _ _, .inl rfl⟩
  have HL := Lib.hid hL
  clear hL hv
  go_enter Tryd.func71, Tryd.ntmps71
  go_wp2
  go_ret
  exact HL.out

set_option maxRecDepth 100000 in
set_option maxHeartbeats 1000000 in
theorem laid_within (v : Value) (l : List Int) (p : Nat) (A : Option Addr) (m mcap : Nat) (part : List Int) (w : World) (hv : Own w v l) (hp : Leads w A part) (hm : part.length = m) (h0 : 0 < m) (hfit : p + m ≤ l.length) (hl : l.length ≤ 100000000) :
    Calls Tryd.prog 71 #[v, .int .i64 (p : Int), .slice A m mcap] w (LaidOut w v (laidL l p part)) := by
  obtain ⟨a, cap, rfl, h1, h2, h3, h4, h5⟩ := hv.form
  obtain ⟨g, rfl, hg, hgl⟩ : ∃ g, a = some ⟨g, 0, none⟩ ∧ (Value.slice a l.length cap).ownBlock = some g ∧ g < w.heap.size := by
    rcases h5 with h5 | h5
    · have := (h3 h5).1; omega
    · exact h5
  obtain ⟨n, hn⟩ : ∃ n, l.length = n := ⟨_, rfl⟩
  rw [hn] at hv h1 hfit hl ⊢
  have hk : ∀ ty dCap, ∃ w', (Builtin.copy_ #[44, 44] ty #[.slice (some ⟨g, p, none⟩) (n - p) dCap, .slice A m mcap]).run Tryd.prog w = .ok (.int .i64 (m : Int)) w' ∧ Hid (LaidOut w (.slice (some ⟨g, 0, none⟩) n cap) (laidL l p part) (.returned (.slice (some ⟨g, 0, none⟩) n cap)) w') := by
    intro ty dCap
    obtain ⟨w', r1, r2, r3⟩ := run_copy_own hv hn p A m mcap part hp hm h0 hfit ty dCap
    refine ⟨w', r1, show _ from ⟨_, rfl, ?_, r3, .inl rfl⟩⟩
    have hne : part ≠ [] := by intro e; subst e; simp at hm; omega
    rw [laidL, if_neg hne, show p + part.length - l.length = 0 by omega, List.replicate_zero, List.append_nil]
    exact r2
  have K := Lib.hid hk
  have q := run_from g 0 n cap p (by omega) h1
  rw [Nat.zero_add] at q
  have c0 : ¬ m = 0 := by omega
  have c1 : ¬ (0 : Int) < (p : Int) + (m : Int) - (n : Int) := by omega
  have hpl : p ≤ 100000000 := by omega
  have hml : m ≤ 100000000 := by omega
  clear hk hv hp hm hn h2 h3 h4 h5 hg
  go_enter Tryd.func71, Tryd.ntmps71
  obtain ⟨w', hrun, hk⟩ := K.out 3 (cap - p)
  go_wp2
  go_ret
  exact hk.out

set_option maxRecDepth 100000 in
set_option maxHeartbeats 1000000 in
theorem laid_grown (v : Value) (l : List Int) (p : Nat) (A : Option Addr) (m mcap : Nat) (part : List Int) (w : World) (hv : Own w v l) (hp : Leads w A part) (hps : ∀ g, v.ownBlock = some g → Past g A part) (hm : part.length = m) (h0 : 0 < m) (hgr : l.length < p + m) (hl : l.length ≤ 100000000) (hpm : p + m ≤ 100000000) :
    Calls Tryd.prog 71 #[v, .int .i64 (p : Int), .slice A m mcap] w (LaidOut w v (laidL l p part)) := by
  obtain ⟨a, cap, e, h1, h2, h3, h4, h5⟩ := hv.form
  obtain ⟨n, hn⟩ : ∃ n, l.length = n := ⟨_, rfl⟩
  obtain ⟨v1, w1, r1, o1, g1, g, cap1, e1, hg1⟩ := append_zeros hv (p + m - n) (by omega) (by omega)
  rw [hn] at e e1 hgr hl
  have hN : n + (p + m - n) = p + m := by omega
  rw [hN] at e1
  subst e1
  have hlen : (l ++ List.replicate (p + m - n) 0).length = p + m := by rw [List.length_append, List.length_replicate, hn]; omega
  have hp1 : Leads w1 A part := hp.same fun b off eA hne => by
    obtain ⟨b', off', eA', hb⟩ := hp.lt hne
    rw [eA] at eA'
    obtain ⟨rfl, rfl⟩ : b = b' ∧ off = off' := by simpa using eA'
    refine g1.block b hb (fun hb' => ?_)
    rcases hps b hb'.symm with h | h
    · exact hne h
    · exact h b off eA rfl
  have hcap : p + m ≤ cap1 := (o1.cells hlen).elim fun cur h => h.2.2.1
  have hg2 : (Value.slice (some ⟨g, 0, none⟩) (p + m) cap1).ownBlock = some g := rfl
  have hk : ∃ w', (Builtin.copy_ #[44, 44] 3 #[.slice (some ⟨g, p, none⟩) (p + m - p) (cap1 - p), .slice A m mcap]).run Tryd.prog w1 = .ok (.int .i64 (m : Int)) w' ∧ Hid (LaidOut w v (laidL l p part) (.returned (.slice (some ⟨g, 0, none⟩) (p + m) cap1)) w') := by
    obtain ⟨w', r1', r2, r3⟩ := run_copy_own o1 hlen p A m mcap part hp1 hm h0 (by omega) 3 (cap1 - p)
    have hne : part ≠ [] := by intro e; subst e; simp at hm; omega
    refine ⟨w', r1', show _ from ⟨_, rfl, ?_, ?_, ?_⟩⟩
    · rw [laidL, if_neg hne, hm, hn]
      exact r2
    · rcases hg1 with hg1 | hg1
      · rw [hg1] at g1 ⊢
        exact g1.trans r3
      · refine ⟨r3.os.trans g1.os, r3.tape.trans g1.tape, r3.output.trans g1.output, Nat.le_trans g1.size r3.size, fun k hk hne' => ?_⟩
        rw [r3.block k (Nat.lt_of_lt_of_le hk g1.size) (fun e => by injection e with e; omega)]
        exact g1.block k hk hne'
    · rcases hg1 with hg1 | hg1
      · exact .inl (hg2.trans hg1.symm)
      · exact .inr ⟨g, hg2, by omega⟩
  obtain ⟨w2, r2, K⟩ := hk
  have q := run_from g 0 (p + m) cap1 p (by omega) hcap
  rw [Nat.zero_add] at q
  have c0 : ¬ m = 0 := by omega
  have c1 : (0 : Int) < (p : Int) + (m : Int) - (n : Int) := by omega
  have hpl : p ≤ 100000000 := by omega
  have hml : m ≤ 100000000 := by omega
  have ei : ((p + m - n : Nat) : Int) = (p : Int) + (m : Int) - (n : Int) := by omega
  rw [ei] at r1
  rw [Nat.add_sub_cancel_left] at r2 q
  subst e
  have R1 := Lib.hid r1
  clear r1 hv hp hm hn h2 h3 h4 h5 o1 g1 hg1 hlen hp1 hg2 hps ei hN
  go_enter Tryd.func71, Tryd.ntmps71
  go_wp2_with ((with_reducible show wpList _ _ _ _ _ _); refine wpList_append_run 3 (.tmp 21) (.tmp 22) _ _ rfl rfl rfl rfl rfl R1.out ?_)
  go_ret
  exact K.out

/-- 'laid', whatever its bytes. -/
theorem laid_any (v : Value) (l : List Int) (p : Nat) (A : Option Addr) (m mcap : Nat) (part : List Int) (w : World) (hv : Own w v l) (hp : Leads w A part) (hps : ∀ g, v.ownBlock = some g → Past g A part) (hm : part.length = m) (hl : l.length ≤ 100000000) (hpm : p + m ≤ 100000000) :
    Calls Tryd.prog 71 #[v, .int .i64 (p : Int), .slice A m mcap] w (LaidOut w v (laidL l p part)) := by
  by_cases h0 : m = 0
  · subst h0
    obtain rfl : part = [] := List.eq_nil_of_length_eq_zero hm
    have h := laid_none v l p A mcap w hv
    rw [laidL_nil] at h ⊢
    exact h
  · by_cases h1 : p + m ≤ l.length
    · exact laid_within v l p A m mcap part w hv hp hm (by omega) h1 hl
    · exact laid_grown v l p A m mcap part w hv hp hps hm (by omega) (by omega) hl hpm
end Go.Proofs.YtpgclhpobijdeaaDoor.disk
/-
  CELLS OF A ROW OF ONE'S OWN: read, stored, not frozen.
-/

namespace Go.Proofs.YtpgclhpobijdeaaDoor.disk
open Go.RowKit

theorem Own.set {w : World} {g n cap : Nat} {l : List Int} (h : Own w (.slice (some ⟨g, 0, none⟩) n cap) l) (hl : l.length = n) (j : Nat) (c : Int) :
    Own (w.setCell ⟨g, j, none⟩ (.int .u8 c)) (.slice (some ⟨g, 0, none⟩) n cap) (l.set j c) := by
  unfold Own at h ⊢
  rw [hl] at h
  rw [List.length_set, hl]
  have := (World.ownsRow.stored h j (.int .u8 c)).1
  rwa [show (u8s l).set j (.int .u8 c) = u8s (l.set j c) by simp [u8s, List.map_set]] at this
theorem Own.free {w : World} {g n cap : Nat} {l : List Int} (h : Own w (.slice (some ⟨g, 0, none⟩) n cap) l) (hl : l.length = n) (j : Nat) : w.frozen? ⟨g, j, none⟩ = false := by
  unfold Own at h
  rw [hl] at h
  exact World.ownsRow.frozenAt h j
theorem Own.cell {w : World} {g n cap : Nat} {l : List Int} (h : Own w (.slice (some ⟨g, 0, none⟩) n cap) l) (hl : l.length = n) (j : Nat) (hj : j < n) : w.cell? ⟨g, j, none⟩ = some (.int .u8 (l.getD j 0)) := by
  subst hl
  unfold Own at h
  have := World.ownsRow.cells h (g := g) rfl j _ (u8s_at l hj)
  rwa [Addr.add_mid, Nat.zero_add] at this
theorem own_at {w : World} {a : Option Addr} {m c : Nat} {l : List Int} (h : Own w (.slice a m c) l) (i : Nat) (hi : i < l.length) : ∃ g, a = some ⟨g, 0, none⟩ ∧ w.cell? ⟨g, i, none⟩ = some (.int .u8 (l.getD i 0)) := by
  obtain ⟨a', c', e, _, _, hn, _, hg⟩ := h.form
  simp at e
  obtain ⟨rfl, rfl, rfl⟩ := e
  rcases hg with rfl | ⟨g, rfl, _⟩
  · have := (hn rfl).1; omega
  · exact ⟨g, rfl, h.cell rfl i hi⟩
end Go.Proofs.YtpgclhpobijdeaaDoor.disk
/-
  WHAT ROWS SHARE: slices of bytes and of integers as a row reads them.
-/








namespace Go.Proofs.YtpgclhpobijdeaaDoor.disk
open Go.ChangeShapes Go.WideShapes Go.ChangeAt Go.RowKit Go.Deep

theorem own : ownKnob Tryd.prog.godebug = none := by kernel_rfl
theorem laidOut : laidOutB Tryd.prog = true := by kernel_rfl

/-- A slice of integers that came in: nil, or a row of 'cap' cells. -/
def IsRow (k : IntKind) (w : World) (a : Option Addr) (len cap : Nat) (zs : List Int) : Prop :=
  (a = none ∧ len = 0 ∧ cap = 0 ∧ zs = []) ∨
  ∃ x, a = some x ∧ len ≤ cap ∧ cap ≤ maxLen ∧ zs.length = cap ∧ (∀ i, i < zs.length → w.cell? (x.add i) = some (.int k (zs.getD i 0))) ∧ ∀ n ∈ zs, (Lit.int k n).wf = true

theorem IsRow.spot {k : IntKind} {w : World} {a : Option Addr} {len cap : Nat} {zs : List Int} (h : IsRow k w a len cap zs) :
    len ≤ cap ∧ cap ≤ 9223372036854775807 ∧ (a = none → len = 0 ∧ cap = 0) ∧ zs.length = cap ∧ (∀ n ∈ zs, (Lit.int k n).wf = true) ∧
    (cap = 0 ∨ ∃ b off, a = some ⟨b, off, none⟩ ∧ ∀ i, i < cap → w.cell? ⟨b, off + i, none⟩ = some (.int k (zs.getD i 0))) := by
  rcases h with ⟨rfl, rfl, rfl, rfl⟩ | ⟨x, rfl, hl, hm, hz, hcell, hwz⟩
  · refine ⟨by omega, by omega, fun _ => ⟨rfl, rfl⟩, rfl, ?_, .inl rfl⟩
    intro n hn; cases hn
  · unfold maxLen at hm
    refine ⟨hl, by omega, (fun e => by cases e), hz, hwz, ?_⟩
    rcases Nat.eq_zero_or_pos cap with h0 | h0
    · exact .inl h0
    · obtain ⟨b, off, spot⟩ := x
      have hc := hcell 0 (by omega)
      have hspot : spot = none := by simpa [Addr.add] using World.cell?_spot hc
      subst hspot
      refine .inr ⟨b, off, rfl, fun i hi => ?_⟩
      have hci := hcell i (by omega)
      by_cases hi0 : i = 0
      · subst hi0; simpa [Addr.add] using hci
      · simpa [Addr.add, hi0] using hci

theorem getD_take {l : List Int} {n i : Nat} (h : i < n) : (l.take n).getD i 0 = l.getD i 0 := by
  rw [List.getD_eq_getElem?_getD, List.getD_eq_getElem?_getD, List.getElem?_take_of_lt h]


/-- A slice of bytes that came in. -/
structure Row (w : World) (a : Option Addr) (len cap : Nat) (l : List Int) : Prop where
  length : l.length = len
  le : len ≤ cap
  most : cap ≤ 9223372036854775807
  nil : a = none → len = 0 ∧ cap = 0
  bytes : Leads w a l
  byte : Byte l
theorem Row.later {w w' : World} {a : Option Addr} {len cap : Nat} {l : List Int} (h : Row w a len cap l) (hb : Below w.heap.size w w') : Row w' a len cap l :=
  ⟨h.length, h.le, h.most, h.nil, h.bytes.later hb, h.byte⟩
theorem Row.short {w : World} {a : Option Addr} {len cap : Nat} {l : List Int} (h : Row w a len cap l) (n : Nat) : Row w a (min len n) cap (l.take n) :=
  ⟨by rw [List.length_take, h.length]; omega, by have := h.le; omega, h.most, fun e => by have := h.nil e; omega, h.bytes.take n, h.byte.take n⟩
/-- A slice of numbers that came in. -/
structure Nums (w : World) (a : Option Addr) (len : Nat) (l : List Int) : Prop where
  length : l.length = len
  most : len ≤ 9223372036854775807
  cells : len = 0 ∨ ∃ b off, a = some ⟨b, off, none⟩ ∧ ∀ i, i < len → w.cell? ⟨b, off + i, none⟩ = some (.int .i64 (l.getD i 0))
  small : ∀ i, i < len → -9223372036854775808 ≤ l.getD i 0 ∧ l.getD i 0 ≤ 9223372036854775807

theorem IsRow.row {w : World} {a : Option Addr} {len cap : Nat} {zs : List Int} (h : IsRow .u8 w a len cap zs) : Row w a len cap (zs.take len) := by
  obtain ⟨h1, h2, h3, h4, h5, h6⟩ := h.spot
  refine ⟨by rw [List.length_take]; omega, h1, h2, h3, ?_, ?_⟩
  · rcases h6 with h6 | ⟨b, off, rfl, hc⟩
    · exact .inl (by rw [show len = 0 by omega]; simp)
    · refine .inr ⟨b, off, rfl, fun i hi => ?_⟩
      rw [List.length_take] at hi
      rw [getD_take (by omega)]; exact hc i (by omega)
  · intro c hc
    have := h5 c (List.mem_of_mem_take hc)
    simp [Lit.wf, IntKind.min, IntKind.max, IntKind.signed, IntKind.bits] at this
    omega
theorem IsRow.nums {w : World} {a : Option Addr} {len cap : Nat} {zs : List Int} (h : IsRow .i64 w a len cap zs) : Nums w a len (zs.take len) := by
  obtain ⟨h1, h2, h3, h4, h5, h6⟩ := h.spot
  refine ⟨by rw [List.length_take]; omega, by omega, ?_, ?_⟩
  · rcases h6 with h6 | ⟨b, off, rfl, hc⟩
    · exact .inl (by omega)
    · refine .inr ⟨b, off, rfl, fun i hi => ?_⟩
      rw [getD_take (by omega)]; exact hc i (by omega)
  · intro i hi
    rw [getD_take hi, List.getD_eq_getElem?_getD, List.getElem?_eq_getElem (by omega)]
    have := h5 _ (List.getElem_mem (show i < zs.length by omega))
    simp [Lit.wf, IntKind.min, IntKind.max, IntKind.signed, IntKind.bits] at this
    simp
    omega

end Go.Proofs.YtpgclhpobijdeaaDoor.disk
/-
  PLAIN MATHEMATICS OF SUMS (P1.1): a sum's register as 32 bits, one step a bit; it is linear, and takes nothing but nought to nought. No program stands in it.
-/

namespace Go.Proofs.YtpgclhpobijdeaaDoor.crc

/-- Castagnoli's polynomial, turned. -/
def poly : BitVec 32 := 0x82f63b78#32
/-- One bit of a text. -/
def bit (x : BitVec 32) : BitVec 32 := (x >>> 1) ^^^ (if x.getLsbD 0 then poly else 0#32)
def bits4 (x : BitVec 32) : BitVec 32 := bit (bit (bit (bit x)))
def bits8 (x : BitVec 32) : BitVec 32 := bits4 (bits4 x)

theorem bit_xor (x y : BitVec 32) : bit (x ^^^ y) = bit x ^^^ bit y := by
  unfold bit
  rw [BitVec.ushiftRight_xor_distrib, BitVec.getLsbD_xor]
  cases x.getLsbD 0 <;> cases y.getLsbD 0 <;> simp
  · ac_rfl
  · ac_rfl
  · have : ∀ a b p : BitVec 32, a ^^^ b = a ^^^ p ^^^ (b ^^^ p) := by
      intro a b p
      have e : a ^^^ p ^^^ (b ^^^ p) = a ^^^ b ^^^ (p ^^^ p) := by ac_rfl
      rw [e]; simp
    exact this _ _ _
theorem bits4_xor (x y : BitVec 32) : bits4 (x ^^^ y) = bits4 x ^^^ bits4 y := by simp only [bits4, bit_xor]
theorem bits8_xor (x y : BitVec 32) : bits8 (x ^^^ y) = bits8 x ^^^ bits8 y := by simp only [bits8, bits4_xor]

theorem bit_zero {x : BitVec 32} (h : bit x = 0#32) : x = 0#32 := by
  unfold bit at h
  by_cases hx : x.getLsbD 0 = true
  · rw [if_pos hx] at h
    have := congrArg (fun v : BitVec 32 => v.getLsbD 31) h
    simp [poly] at this
  · rw [if_neg hx] at h
    simp at hx
    apply BitVec.eq_of_getLsbD_eq
    intro i hi
    cases i with
    | zero => simpa using hx
    | succ k =>
      have := congrArg (fun v : BitVec 32 => v.getLsbD k) h
      simp at this
      simp [Nat.add_comm] at this ⊢
      exact this
theorem bits8_zero {x : BitVec 32} (h : bits8 x = 0#32) : x = 0#32 :=
  bit_zero (bit_zero (bit_zero (bit_zero (bit_zero (bit_zero (bit_zero (bit_zero h)))))))
theorem bits8_nought : bits8 0#32 = 0#32 := by decide

theorem bit_even {x : BitVec 32} (h : x.getLsbD 0 = false) : bit x = x >>> 1 := by
  unfold bit; rw [h]; simp
theorem bits4_low {x : BitVec 32} (h0 : x.getLsbD 0 = false) (h1 : x.getLsbD 1 = false) (h2 : x.getLsbD 2 = false) (h3 : x.getLsbD 3 = false) : bits4 x = x >>> 4 := by
  unfold bits4
  rw [bit_even h0, bit_even (x := x >>> 1) (by simpa using h1), bit_even (x := x >>> 1 >>> 1) (by simpa [← BitVec.shiftRight_add] using h2),
    bit_even (x := x >>> 1 >>> 1 >>> 1) (by simpa [← BitVec.shiftRight_add] using h3)]
  simp [← BitVec.shiftRight_add]

/-- What each value of four bits does. -/
def table : List Int := [0, 274646895, 549293790, 820201905, 1098587580, 1361435347, 1640403810, 1905808397, 2197175160, 2460548119, 2722870694, 2987750089, 3280807620, 3553878443, 3811616794, 4084100981]

theorem table_four : ∀ i : Fin 16, BitVec.ofInt 32 (table.getD i.val 0) = bits4 (BitVec.ofNat 32 i.val) := by decide
theorem table_small : ∀ i : Fin 16, 0 ≤ table.getD i.val 0 ∧ table.getD i.val 0 < 4294967296 := by decide

theorem split4 (x : BitVec 32) : x = BitVec.ofNat 32 (x.toNat % 16) ^^^ ((x >>> 4) <<< 4) := by
  apply BitVec.eq_of_getLsbD_eq
  intro i hi
  have e : (16 : Nat) = 2 ^ 4 := rfl
  have ht : x.toNat.testBit i = x.getLsbD i := rfl
  rw [BitVec.getLsbD_xor, BitVec.getLsbD_ofNat, e, Nat.testBit_mod_two_pow, BitVec.getLsbD_shiftLeft, BitVec.getLsbD_ushiftRight, ht]
  by_cases h : i < 4
  · simp [h, hi]
  · have hk : 4 + (i - 4) = i := by omega
    rw [hk]; simp [h, hi]

theorem nibble (x : BitVec 32) : BitVec.ofInt 32 (table.getD (x.toNat % 16) 0) ^^^ (x >>> 4) = bits4 x := by
  have h := table_four ⟨x.toNat % 16, Nat.mod_lt _ (by decide)⟩
  simp only at h
  rw [h]
  conv => rhs; rw [split4 x, bits4_xor]
  rw [bits4_low (x := (x >>> 4) <<< 4) (by simp) (by simp) (by simp) (by simp)]
  congr 1
  apply BitVec.eq_of_getLsbD_eq
  intro i hi
  simp [BitVec.getLsbD_shiftLeft, BitVec.getLsbD_ushiftRight]
  intro hb
  have := BitVec.lt_of_getLsbD hb
  omega

/-- A byte is taken in. -/
def step (s : BitVec 32) (c : Int) : BitVec 32 := bits8 (s ^^^ BitVec.ofInt 32 c)
def run (s : BitVec 32) (l : List Int) : BitVec 32 := l.foldl step s
/-- What 'More' answers, and 'Sum'. -/
def more (s : BitVec 32) (l : List Int) : BitVec 32 := ~~~ run (~~~ s) l
def sum (l : List Int) : BitVec 32 := more 0#32 l

theorem more_append (s : BitVec 32) (a b : List Int) : more (more s a) b = more s (a ++ b) := by
  simp [more, run, List.foldl_append]
theorem more_sum (a b : List Int) : more (sum a) b = sum (a ++ b) := more_append _ _ _
theorem run_snoc (s : BitVec 32) (a : List Int) (c : Int) : run s (a ++ [c]) = step (run s a) c := by
  simp [run, List.foldl_append]

end Go.Proofs.YtpgclhpobijdeaaDoor.crc
/-
  PLAIN MATHEMATICS: the sum of texts that are put upon one another by exclusive or; a text of at most four bytes that is not all nought moves every sum.
-/

namespace Go.Proofs.YtpgclhpobijdeaaDoor.crc

def bx (x y : Int) : Int := bits .xor .u8 x y
theorem bx_byte {x y : Int} (hx : 0 ≤ x ∧ x < 256) (hy : 0 ≤ y ∧ y < 256) : 0 ≤ bx x y ∧ bx x y < 256 := by
  unfold bx
  rw [u8_xor x y hx.1 hx.2 hy.1 hy.2]
  have : x.toNat ^^^ y.toNat < 2 ^ 8 := Nat.xor_lt_two_pow (by omega) (by omega)
  omega
theorem bx_bv {x y : Int} (hx : 0 ≤ x ∧ x < 256) (hy : 0 ≤ y ∧ y < 256) : BitVec.ofInt 32 (bx x y) = BitVec.ofInt 32 x ^^^ BitVec.ofInt 32 y := by
  unfold bx
  rw [u8_xor x y hx.1 hx.2 hy.1 hy.2]
  obtain ⟨m, rfl⟩ := Int.eq_ofNat_of_zero_le hx.1
  obtain ⟨n, rfl⟩ := Int.eq_ofNat_of_zero_le hy.1
  simp only [BitVec.ofInt_natCast, Int.toNat_natCast]
  apply BitVec.eq_of_toNat_eq
  have : m ^^^ n < 2 ^ 8 := Nat.xor_lt_two_pow (by omega) (by omega)
  rw [BitVec.toNat_xor, BitVec.toNat_ofNat, BitVec.toNat_ofNat, BitVec.toNat_ofNat, Nat.mod_eq_of_lt (by omega), Nat.mod_eq_of_lt (by omega), Nat.mod_eq_of_lt (by omega)]

def Byte (l : List Int) : Prop := ∀ c ∈ l, 0 ≤ c ∧ c < 256
theorem Byte.at {l : List Int} (h : Byte l) {i : Nat} (hi : i < l.length) : 0 ≤ l.getD i 0 ∧ l.getD i 0 < 256 := by
  rw [List.getD_eq_getElem?_getD, List.getElem?_eq_getElem hi]; exact h _ (List.getElem_mem hi)
theorem Byte.tail {c : Int} {l : List Int} (h : Byte (c :: l)) : Byte l := fun d hd => h d (List.mem_cons_of_mem _ hd)
theorem Byte.head {c : Int} {l : List Int} (h : Byte (c :: l)) : 0 ≤ c ∧ c < 256 := h c List.mem_cons_self
theorem Byte.zip {a b : List Int} (ha : Byte a) (hb : Byte b) : Byte (List.zipWith bx a b) := by
  induction a generalizing b with
  | nil => intro c hc; simp at hc
  | cons x a ih =>
    cases b with
    | nil => intro c hc; simp at hc
    | cons y b =>
      intro c hc
      simp only [List.zipWith_cons_cons, List.mem_cons] at hc
      rcases hc with rfl | hc
      · exact bx_byte ha.head hb.head
      · exact ih ha.tail hb.tail c hc

theorem step_xor (s t : BitVec 32) {x y : Int} (hx : 0 ≤ x ∧ x < 256) (hy : 0 ≤ y ∧ y < 256) : step (s ^^^ t) (bx x y) = step s x ^^^ step t y := by
  unfold step
  rw [bx_bv hx hy, ← bits8_xor]
  congr 1; ac_rfl
theorem run_zip (a b : List Int) (s t : BitVec 32) (ha : Byte a) (hb : Byte b) (hl : a.length = b.length) : run (s ^^^ t) (List.zipWith bx a b) = run s a ^^^ run t b := by
  induction a generalizing b s t with
  | nil =>
    cases b with
    | nil => rfl
    | cons y b => simp at hl
  | cons x a ih =>
    cases b with
    | nil => simp at hl
    | cons y b =>
      simp only [List.zipWith_cons_cons, run, List.foldl_cons]
      rw [step_xor s t ha.head hb.head]
      exact ih b (step s x) (step t y) ha.tail hb.tail (by simpa using hl)
theorem not_three (p q r : BitVec 32) : ~~~ (p ^^^ q ^^^ r) = ~~~ p ^^^ ~~~ q ^^^ ~~~ r := by
  apply BitVec.eq_of_getLsbD_eq
  intro i hi
  simp only [BitVec.getLsbD_not, BitVec.getLsbD_xor, hi, decide_true, Bool.true_and]
  cases p.getLsbD i <;> cases q.getLsbD i <;> cases r.getLsbD i <;> rfl
/-- Three texts of one length. -/
theorem sum_three (a b c : List Int) (ha : Byte a) (hb : Byte b) (hc : Byte c) (h1 : a.length = b.length) (h2 : b.length = c.length) :
    sum (List.zipWith bx (List.zipWith bx a b) c) = sum a ^^^ sum b ^^^ sum c := by
  unfold sum more
  rw [← not_three]
  congr 1
  have e : ~~~ (0#32) = (~~~ 0#32 ^^^ ~~~ 0#32) ^^^ ~~~ 0#32 := by decide
  conv => lhs; rw [e]
  rw [run_zip _ _ _ _ (ha.zip hb) hc (by rw [List.length_zipWith]; omega), run_zip _ _ _ _ ha hb h1]

/-! A text of at most four bytes. -/
theorem low_bits {v : BitVec 32} (h : v.toNat < 2 ^ 24) : bits8 (v <<< 8) = v := by
  unfold bits8
  rw [bits4_low (x := v <<< 8) (by simp) (by simp) (by simp) (by simp)]
  have e : v <<< 8 >>> 4 = v <<< 4 := by
    apply BitVec.eq_of_toNat_eq
    rw [BitVec.toNat_ushiftRight, BitVec.toNat_shiftLeft, BitVec.toNat_shiftLeft, Nat.shiftLeft_eq, Nat.shiftLeft_eq, Nat.shiftRight_eq_div_pow]
    omega
  rw [e, bits4_low (x := v <<< 4) (by simp) (by simp) (by simp) (by simp)]
  apply BitVec.eq_of_toNat_eq
  rw [BitVec.toNat_ushiftRight, BitVec.toNat_shiftLeft, Nat.shiftLeft_eq, Nat.shiftRight_eq_div_pow]
  omega
theorem bits8_inj {x y : BitVec 32} (h : bits8 x = bits8 y) : x = y := by
  have h1 : bits8 (x ^^^ y) = 0#32 := by rw [bits8_xor, h]; simp
  have h2 := bits8_zero h1
  have h3 : x ^^^ y ^^^ y = y := by rw [h2]; simp
  rwa [BitVec.xor_assoc, BitVec.xor_self, BitVec.xor_zero] at h3
theorem toNat_byte {c : Int} (h : 0 ≤ c ∧ c < 256) : ((BitVec.ofInt 32 c).toNat : Int) = c := by
  obtain ⟨n, rfl⟩ := Int.eq_ofNat_of_zero_le h.1
  rw [BitVec.ofInt_natCast, BitVec.toNat_ofNat, Nat.mod_eq_of_lt (by omega)]

/-- By the text's end: what is left in the register is small only if all was nought. -/
theorem small_run : ∀ (k : Nat) (x : List Int) (v : BitVec 32), x.length = k → k ≤ 4 → Byte x → run 0#32 x = v → v.toNat < 2 ^ (8 * (4 - k)) → (∀ c ∈ x, c = 0) ∧ v = 0#32 := by
  intro k
  induction k with
  | zero =>
    intro x v hx _ _ hr _
    obtain rfl : x = [] := List.eq_nil_of_length_eq_zero hx
    exact ⟨by simp, hr.symm⟩
  | succ k ih =>
    intro x v hx hk hb hr hv
    obtain ⟨y, c, rfl⟩ : ∃ y c, x = y ++ [c] := by
      rcases List.eq_nil_or_concat x with rfl | ⟨y, c, rfl⟩
      · simp at hx
      · exact ⟨y, c, by simp⟩
    have hy : y.length = k := by simpa using hx
    have hbc : 0 ≤ c ∧ c < 256 := hb c (by simp)
    have hby : Byte y := fun d hd => hb d (by simp [hd])
    have hv24 : v.toNat < 2 ^ 24 := Nat.lt_of_lt_of_le hv (Nat.pow_le_pow_right (by decide) (by omega))
    rw [run_snoc] at hr
    unfold step at hr
    have h1 := bits8_inj (hr.trans (low_bits hv24).symm)
    have h2 : run 0#32 y = v <<< 8 ^^^ BitVec.ofInt 32 c := by
      rw [← h1, BitVec.xor_assoc, BitVec.xor_self, BitVec.xor_zero]
    have hc8 : (BitVec.ofInt 32 c).toNat < 2 ^ 8 := by have := toNat_byte hbc; omega
    have hsh : (v <<< 8).toNat = v.toNat * 256 := by
      rw [BitVec.toNat_shiftLeft, Nat.shiftLeft_eq]; omega
    have hlt : (v <<< 8 ^^^ BitVec.ofInt 32 c).toNat < 2 ^ (8 * (4 - k)) := by
      rw [BitVec.toNat_xor]
      apply Nat.xor_lt_two_pow
      · rw [hsh]
        have e : 2 ^ (8 * (4 - k)) = 2 ^ (8 * (4 - (k + 1))) * 256 := by
          rw [show 8 * (4 - k) = 8 * (4 - (k + 1)) + 8 by omega, Nat.pow_add]
        omega
      · exact Nat.lt_of_lt_of_le hc8 (Nat.pow_le_pow_right (by decide) (by omega))
    obtain ⟨h3, h4⟩ := ih y _ hy (by omega) hby h2 hlt
    have h5 : v <<< 8 = BitVec.ofInt 32 c := by
      have : v <<< 8 ^^^ BitVec.ofInt 32 c ^^^ BitVec.ofInt 32 c = BitVec.ofInt 32 c := by rw [h4]; simp
      rwa [BitVec.xor_assoc, BitVec.xor_self, BitVec.xor_zero] at this
    have h6 := congrArg BitVec.toNat h5
    rw [hsh] at h6
    have h7 := toNat_byte hbc
    refine ⟨fun d hd => ?_, ?_⟩
    · rcases List.mem_append.1 hd with hd | hd
      · exact h3 d hd
      · obtain rfl : d = c := by simpa using hd
        omega
    · apply BitVec.eq_of_toNat_eq
      simp; omega
theorem run_four {x : List Int} (hk : x.length ≤ 4) (hb : Byte x) (h : run 0#32 x = 0#32) : ∀ c ∈ x, c = 0 :=
  (small_run x.length x 0#32 rfl hk hb h (by simp [Nat.pow_pos])).1

def times8 : Nat → BitVec 32 → BitVec 32
  | 0, d => d
  | n + 1, d => times8 n (bits8 d)
theorem times8_zero (n : Nat) {d : BitVec 32} (h : times8 n d = 0#32) : d = 0#32 := by
  induction n generalizing d with
  | zero => exact h
  | succ n ih => exact bits8_zero (ih h)
theorem run_apart (r : List Int) (s d : BitVec 32) : run (s ^^^ d) r = run s r ^^^ times8 r.length d := by
  induction r generalizing s d with
  | nil => rfl
  | cons c r ih =>
    show run (step (s ^^^ d) c) r = run (step s c) r ^^^ times8 r.length (bits8 d)
    rw [← ih]
    congr 1
    unfold step
    rw [← bits8_xor]; congr 1; ac_rfl
/-- A burst of at most four bytes, not all of them nought, changes the sum. -/
theorem sum_burst (p q x r : List Int) (hq : Byte q) (hx : Byte x) (hl : q.length = x.length) (h4 : x.length ≤ 4) (hne : ∃ c ∈ x, c ≠ 0) :
    sum (p ++ q ++ r) ≠ sum (p ++ List.zipWith bx q x ++ r) := by
  intro h
  unfold sum more at h
  have h1 : run (~~~ 0#32) (p ++ q ++ r) = run (~~~ 0#32) (p ++ List.zipWith bx q x ++ r) := by
    have := congrArg (fun v : BitVec 32 => ~~~ v) h
    simpa using this
  simp only [run, List.foldl_append] at h1
  have e : List.foldl step (List.foldl step (~~~ 0#32) p) (List.zipWith bx q x) = run (List.foldl step (~~~ 0#32) p) q ^^^ run 0#32 x := by
    have := run_zip q x (List.foldl step (~~~ 0#32) p) 0#32 hq hx hl
    rwa [BitVec.xor_zero] at this
  rw [e] at h1
  have h2 := run_apart r (run (List.foldl step (~~~ 0#32) p) q) (run 0#32 x)
  unfold run at h2 h1
  rw [h2] at h1
  have h3 : times8 r.length (List.foldl step 0#32 x) = 0#32 := by
    have := congrArg (fun v => List.foldl step (List.foldl step (List.foldl step (~~~ 0#32) p) q) r ^^^ v) h1
    simpa [← BitVec.xor_assoc] using this.symm
  obtain ⟨c, hc, hc0⟩ := hne
  exact hc0 (run_four h4 hx (times8_zero _ h3) c hc)
end Go.Proofs.YtpgclhpobijdeaaDoor.crc
/-
  THE WALKS OF crc (P1.1): what each function of it answers.
-/









namespace Go.Proofs.YtpgclhpobijdeaaDoor.crc
open Go.RowKit

/-- The table's cells. -/
def Tab (w : World) : Prop := ∀ k, k < 16 → w.cell? ⟨0, k, none⟩ = some (.int .u32 (table.getD k 0))


theorem u32_xor_bv (x y : BitVec 32) : bits .xor .u32 (x.toNat : Int) (y.toNat : Int) = ((x ^^^ y).toNat : Int) := by
  rw [u32_xor_nat _ _ x.isLt y.isLt, BitVec.toNat_xor]
theorem u32_xor_byte (x : BitVec 32) (c : Int) (h : 0 ≤ c ∧ c < 256) : bits .xor .u32 (x.toNat : Int) c = ((x ^^^ BitVec.ofInt 32 c).toNat : Int) := by
  have e : c = ((BitVec.ofInt 32 c).toNat : Int) := by
    obtain ⟨n, rfl⟩ := Int.eq_ofNat_of_zero_le h.1
    rw [BitVec.ofInt_natCast, BitVec.toNat_ofNat, Nat.mod_eq_of_lt (by omega)]
  conv => lhs; rw [e]
  exact u32_xor_bv _ _
theorem u32_and15 (x : BitVec 32) : bits .and .u32 (x.toNat : Int) 15 = ((x.toNat % 16 : Nat) : Int) := by
  have := u32_and_nat x.toNat 15 x.isLt (by decide)
  rw [show ((15 : Nat) : Int) = 15 from rfl] at this
  rw [this]
  congr 1
  exact Nat.and_two_pow_sub_one_eq_mod x.toNat 4
theorem tab_at {w : World} (hT : Tab w) (x : BitVec 32) : ∃ T : BitVec 32, w.cell? ⟨0, x.toNat % 16, none⟩ = some (.int .u32 (T.toNat : Int)) ∧ T ^^^ (x >>> 4) = bits4 x := by
  have hk : x.toNat % 16 < 16 := Nat.mod_lt _ (by decide)
  refine ⟨BitVec.ofInt 32 (table.getD (x.toNat % 16) 0), ?_, nibble x⟩
  rw [hT _ hk]
  obtain ⟨h0, h1⟩ := table_small ⟨x.toNat % 16, hk⟩
  simp only at h0 h1
  obtain ⟨n, hn⟩ := Int.eq_ofNat_of_zero_le h0
  rw [hn] at h1 ⊢
  rw [BitVec.ofInt_natCast, BitVec.toNat_ofNat, Nat.mod_eq_of_lt (by omega)]

theorem u32_xor_sh (T x : BitVec 32) : bits .xor .u32 (T.toNat : Int) ((x.toNat : Int) / 16) = ((T ^^^ (x >>> 4)).toNat : Int) := by
  have e : (x.toNat : Int) / 16 = ((x >>> 4).toNat : Int) := by
    rw [BitVec.toNat_ushiftRight, Nat.shiftRight_eq_div_pow]; rfl
  exact (congrArg (bits .xor .u32 (T.toNat : Int)) e).trans (u32_xor_bv _ _)

theorem addByte_any (s : BitVec 32) (c : Int) (hc : 0 ≤ c ∧ c < 256) (w : World) (hT : Tab w) :
    Calls Tryd.prog 74 #[.int .u32 (s.toNat : Int), .int .u8 c] w fun e w' => e = .returned (.int .u32 ((step s c).toNat : Int)) ∧ w = w' := by
  have e1 := u32_xor_byte s c hc
  have HR : Hid (step s c = bits4 (bits4 (s ^^^ BitVec.ofInt 32 c))) := rfl
  generalize s ^^^ BitVec.ofInt 32 c = x at e1 HR
  obtain ⟨T1, c1, j1⟩ := tab_at hT x
  have e2 := u32_and15 x
  have e3 := u32_xor_sh T1 x
  rw [j1] at e3
  clear j1
  generalize bits4 x = y at e3 HR
  generalize hk1 : x.toNat % 16 = k1 at e2 c1
  have hk1' : k1 < 16 := by omega
  clear hk1
  obtain ⟨T2, c2, j2⟩ := tab_at hT y
  have e4 := u32_and15 y
  have e5 := u32_xor_sh T2 y
  rw [j2] at e5
  clear j2
  generalize bits4 y = z at e5 HR
  generalize hk2 : y.toNat % 16 = k2 at e4 c2
  have hk2' : k2 < 16 := by omega
  clear hk2
  go_enter Tryd.func74, Tryd.ntmps74
  go_wp2
  go_ret
  exact ⟨by rw [HR.out]; rfl, rfl⟩

/-- A list of bytes that a slice leads to: what may be read of it. -/
def Bytes (w : World) (a : Option Addr) (l : List Int) : Prop :=
  l = [] ∨ ∃ b off, a = some ⟨b, off, none⟩ ∧ ∀ i, i < l.length → w.cell? ⟨b, off + i, none⟩ = some (.int .u8 (l.getD i 0))
theorem not_u32 (x : BitVec 32) : bits .xor .u32 IntKind.u32.max (x.toNat : Int) = ((~~~ x).toNat : Int) := by
  have := u32_xor_bv (BitVec.allOnes 32) x
  rw [BitVec.allOnes_xor] at this
  exact this

theorem run_take (s : BitVec 32) (l : List Int) (k : Nat) (hk : k < l.length) : run s (l.take (k + 1)) = step (run s (l.take k)) (l.getD k 0) := by
  rw [List.take_succ_eq_append_getElem hk, run_snoc, List.getD_eq_getElem?_getD, List.getElem?_eq_getElem hk]; rfl

theorem ret_u32 {a b : BitVec 32} (h : a = b) : Ending.returned (.int .u32 (a.toNat : Int)) = .returned (.int .u32 (b.toNat : Int)) := by rw [h]

theorem more_any (s : BitVec 32) (a : Option Addr) (l : List Int) (cap : Nat) (w : World) (hT : Tab w) (hB : Bytes w a l) (hb : Byte l) (hl : l.length ≤ 9223372036854775807) :
    Calls Tryd.prog 68 #[.int .u32 (s.toNat : Int), .slice a l.length cap] w fun e w' => e = .returned (.int .u32 ((more s l).toNat : Int)) ∧ w = w' := by
  have e1 := not_u32 s
  have HM : Hid (more s l = ~~~ run (~~~ s) l) := rfl
  generalize ~~~ s = t at e1 HM
  rcases hB with rfl | ⟨b, off, rfl, hcell⟩
  · have e2 := not_u32 t
    have HM' : Hid (more s [] = ~~~ t) := HM.out
    clear HM
    generalize ~~~ t = q at e2 HM'
    go_enter Tryd.func68, Tryd.ntmps68
    go_wp2_with fail
    go_loop [0, 11] (fun s0 i => s0 = .int .u32 (t.toNat : Int) ∧ i = .int .i64 0) (fun _ i => 0 - (intOf i).toNat)
    case atStart => exact ⟨rfl, rfl⟩
    case round =>
      obtain ⟨rfl, rfl⟩ := hrel
      go_wp2
      go_ret
      exact ⟨by rw [HM'.out]; rfl, rfl⟩
  · generalize hn : l.length = n at hcell hl
    have HN := Lib.hid hn; clear hn
    have hat : ∀ k, k < n → 0 ≤ l.getD k 0 ∧ l.getD k 0 < 256 := fun k hk => hb.at (by rw [HN.out]; exact hk)
    have hst : ∀ k, k < n → run t (l.take (k + 1)) = step (run t (l.take k)) (l.getD k 0) := fun k hk => run_take t l k (by rw [HN.out]; exact hk)
    have hend : run t (l.take n) = run t l := by rw [← HN.out, List.take_length]
    have Hat := Lib.hid hat
    have Hst := Lib.hid hst
    have Hcell := Lib.hid hcell
    have Hend := Lib.hid hend
    clear hat hst hcell hend
    go_enter Tryd.func68, Tryd.ntmps68
    go_wp2_with fail
    go_loop [0, 11] (fun s0 i => ∃ k : Nat, k ≤ n ∧ i = .int .i64 k ∧ s0 = .int .u32 ((run t (l.take k)).toNat : Int)) (fun _ i => n - (intOf i).toNat)
    case atStart => exact ⟨0, Nat.zero_le _, rfl, rfl⟩
    case round =>
      obtain ⟨k, hk, rfl, rfl⟩ := hrel
      by_cases hlt : k < n
      · have hc := Hcell.out k hlt
        have hby := Hat.out k hlt
        have hs := Hst.out k hlt
        generalize l.getD k 0 = c at hc hby hs
        have HS := Lib.hid hs; clear hs
        generalize run t (l.take k) = r at HS
        go_wp2_with (go_at_call 74; refine (addByte_any r c hby w hT).mono ?_; rintro e w' ⟨rfl, rfl⟩)
        go_round
        case rel => exact ⟨k + 1, by omega, by go_num, by rw [HS.out]⟩
        case measure => simp [intOf]; omega
      · have hkn : k = n := by omega
        subst hkn
        have hE := Hend.out
        rw [hE]
        clear hE Hend Hst
        have e2 := not_u32 (run t l)
        generalize run t l = r at e2 HM
        generalize ~~~ r = q at e2 HM
        go_wp2
        go_ret
        exact ⟨by rw [HM.out]; rfl, rfl⟩

theorem sum_any (a : Option Addr) (l : List Int) (cap : Nat) (w : World) (hT : Tab w) (hB : Bytes w a l) (hb : Byte l) (hl : l.length ≤ 9223372036854775807) :
    Calls Tryd.prog 69 #[.slice a l.length cap] w fun e w' => e = .returned (.int .u32 ((sum l).toNat : Int)) ∧ w = w' := by
  have c := more_any 0#32 a l cap w hT hB hb hl
  rw [show (((0#32 : BitVec 32).toNat : Nat) : Int) = 0 from rfl, show more 0#32 l = sum l from rfl] at c
  generalize l.length = n at c
  have C := Lib.hid c; clear c
  go_enter Tryd.func69, Tryd.ntmps69
  go_wp2_with (go_at_call 68; refine C.out.mono ?_; rintro e w' ⟨rfl, rfl⟩)
  go_ret
  exact ⟨rfl, rfl⟩
end Go.Proofs.YtpgclhpobijdeaaDoor.crc
/-
  THE WALKS OF THE STATEMENTS' SMALL HELPERS: 'Short' and 'begun', and of the reference's sum.
-/





namespace Go.Proofs.YtpgclhpobijdeaaDoor.crc
open Go.RowKit

theorem Tab.later {w w' : World} (h : Tab w) (hb : Below w.heap.size w w') : Tab w' := by
  intro k hk
  have h0 := h k hk
  have hlt : 0 < w.heap.size := by
    rcases Nat.lt_or_ge 0 w.heap.size with h' | h'
    · exact h'
    · simp [World.cell?, Array.getElem?_eq_none h'] at h0
  rw [hb.cell (p := ⟨0, k, none⟩) hlt]; exact h0
theorem Bytes.later {w w' : World} {a : Option Addr} {l : List Int} (h : Bytes w a l) (hb : Below w.heap.size w w') : Bytes w' a l := by
  rcases h with h | ⟨b, off, rfl, hc⟩
  · exact .inl h
  · refine .inr ⟨b, off, rfl, fun i hi => ?_⟩
    have h0 := hc i hi
    have hlt : b < w.heap.size := by
      rcases Nat.lt_or_ge b w.heap.size with h' | h'
      · exact h'
      · simp [World.cell?, Array.getElem?_eq_none h'] at h0
    rw [hb.cell (p := ⟨b, off + i, none⟩) hlt]; exact h0

def nine : List Int := [49, 50, 51, 52, 53, 54, 55, 56, 57]
theorem nine_sum : sum nine = 3808858755#32 := by decide +kernel
theorem nine_byte : Byte nine := by intro c hc; simp [nine] at hc; omega
def nineObj : Obj := .cells #[.int .u8 49, .int .u8 50, .int .u8 51, .int .u8 52, .int .u8 53, .int .u8 54, .int .u8 55, .int .u8 56, .int .u8 57] 5 (9, 10)
theorem nine_at (w : World) : Bytes (w.alloc nineObj) (some ⟨w.heap.size, 0, none⟩) nine := by
  refine .inr ⟨_, _, rfl, fun i hi => ?_⟩
  have hi' : i < 9 := hi
  rw [Nat.zero_add]
  have h : ∀ j : Fin 9, (#[Value.int .u8 49, .int .u8 50, .int .u8 51, .int .u8 52, .int .u8 53, .int .u8 54, .int .u8 55, .int .u8 56, .int .u8 57] : Array Value)[j.val]? = some (.int .u8 (nine.getD j.val 0)) := by
    intro j
    match j with
    | 0 | 1 | 2 | 3 | 4 | 5 | 6 | 7 | 8 => rfl
  exact (World.cell?_alloc_mark w _ _ _ i).trans (h ⟨i, hi'⟩)

end Go.Proofs.YtpgclhpobijdeaaDoor.crc
/-
  PLAIN MATHEMATICS OF NUMBERS AS BYTES (P4.1): the lowest bytes of a number, the highest first; the number that bytes hold. No program stands in it.
-/

namespace Go.Proofs.YtpgclhpobijdeaaDoor.num

/-- The k lowest bytes of n, the highest first. -/
def be (n : Nat) : Nat → List Int
  | 0 => []
  | k + 1 => be (n / 256) k ++ [((n % 256 : Nat) : Int)]
theorem be_length : ∀ (k n : Nat), (be n k).length = k
  | 0, _ => rfl
  | k + 1, n => by rw [be, List.length_append, be_length k]; rfl
theorem be_byte : ∀ (k n : Nat), ∀ c ∈ be n k, 0 ≤ c ∧ c < 256
  | 0, _, _, h => by cases h
  | k + 1, n, c, h => by
    rw [be] at h
    rcases List.mem_append.1 h with h | h
    · exact be_byte k _ c h
    · have := List.mem_singleton.1 h; omega
theorem be_cons : ∀ (k n : Nat), be n (k + 1) = ((n / 256 ^ k % 256 : Nat) : Int) :: be n k
  | 0, n => by simp [be]
  | k + 1, n => by
    rw [be, be_cons k, be, List.cons_append, Nat.div_div_eq_div_mul, Nat.pow_succ, Nat.mul_comm 256]
theorem be_take (n : Nat) : ∀ (k j : Nat), j < k → (be n k).take (j + 1) = (be n k).take j ++ [((n / 256 ^ (k - 1 - j) % 256 : Nat) : Int)]
  | 0, _, h => by omega
  | k + 1, 0, _ => by rw [be_cons]; simp
  | k + 1, j + 1, h => by
    rw [be_cons, List.take_succ_cons, be_take n k j (by omega), List.take_succ_cons, List.cons_append, show k + 1 - 1 - (j + 1) = k - 1 - j by omega]
/-- The number that bytes hold. -/
def valN (a : Nat) (l : List Int) : Nat := l.foldl (fun a c => a * 256 + c.toNat) a
def val (l : List Int) : Nat := valN 0 l
theorem valN_snoc (a : Nat) (l : List Int) (c : Int) : valN a (l ++ [c]) = valN a l * 256 + c.toNat := by simp [valN]
theorem val_snoc (l : List Int) (c : Int) : val (l ++ [c]) = val l * 256 + c.toNat := valN_snoc 0 l c
theorem val_take (l : List Int) (k : Nat) (h : k < l.length) : val (l.take (k + 1)) = val (l.take k) * 256 + (l.getD k 0).toNat := by
  rw [List.take_succ_eq_append_getElem h, val_snoc, List.getD_eq_getElem?_getD, List.getElem?_eq_getElem h]; rfl
theorem val_lt : ∀ (k : Nat) (l : List Int), l.length = k → (∀ c ∈ l, 0 ≤ c ∧ c < 256) → val l < 256 ^ k := by
  intro k
  induction k with
  | zero =>
    intro l h _
    obtain rfl := List.eq_nil_of_length_eq_zero h
    decide
  | succ k ih =>
    intro l h hb
    have hne : l ≠ [] := by intro e; subst e; cases h
    rw [← List.dropLast_concat_getLast hne, val_snoc]
    have h1 := ih l.dropLast (by rw [List.length_dropLast, h]; rfl) fun c hc => hb c (List.dropLast_subset _ hc)
    have h2 := hb _ (List.getLast_mem hne)
    rw [Nat.pow_succ]
    omega
theorem val_be : ∀ (k n : Nat), n < 256 ^ k → val (be n k) = n
  | 0, n, h => by
    obtain rfl : n = 0 := by simpa using h
    rfl
  | k + 1, n, h => by
    rw [be, val_snoc, val_be k (n / 256) (by rw [Nat.pow_succ] at h; exact Nat.div_lt_of_lt_mul (by omega))]
    omega
theorem be_val : ∀ (k : Nat) (l : List Int), l.length = k → (∀ c ∈ l, 0 ≤ c ∧ c < 256) → be (val l) k = l := by
  intro k
  induction k with
  | zero =>
    intro l h _
    obtain rfl := List.eq_nil_of_length_eq_zero h
    rfl
  | succ k ih =>
    intro l h hb
    have hne : l ≠ [] := by intro e; subst e; cases h
    rw [← List.dropLast_concat_getLast hne]
    have h1 := ih l.dropLast (by rw [List.length_dropLast, h]; rfl) fun c hc => hb c (List.dropLast_subset _ hc)
    have h2 := hb _ (List.getLast_mem hne)
    rw [val_snoc, be]
    have e1 : (val l.dropLast * 256 + (l.getLast hne).toNat) / 256 = val l.dropLast := by omega
    have e2 : (((val l.dropLast * 256 + (l.getLast hne).toNat) % 256 : Nat) : Int) = l.getLast hne := by omega
    rw [e1, e2, h1]
/-- What Put has laid behind j rounds. -/
def under (n k j : Nat) : List Int := List.replicate (k - j) 0 ++ be n j
theorem under_length (n k j : Nat) (h : j ≤ k) : (under n k j).length = k := by rw [under, List.length_append, List.length_replicate, be_length]; omega
theorem under_zero (n k : Nat) : under n k 0 = List.replicate k 0 := by simp [under, be]
theorem under_all (n k : Nat) : under n k k = be n k := by simp [under]
theorem under_set (n k j : Nat) (h : j < k) : (under n k j).set (k - 1 - j) ((n / 256 ^ j % 256 : Nat) : Int) = under n k (j + 1) := by
  have e : k - j = (k - 1 - j) + 1 := by omega
  rw [under, e, List.replicate_succ', List.append_assoc, List.set_append_right _ _ (by rw [List.length_replicate]; exact Nat.le_refl _), List.length_replicate, Nat.sub_self]
  rw [under, be_cons, show k - (j + 1) = k - 1 - j by omega]
  rfl
end Go.Proofs.YtpgclhpobijdeaaDoor.num
/-
  CONTRACTS of num.Put, num.Get (P4.1) and of the reference's Put, Get.
-/








namespace Go.Proofs.YtpgclhpobijdeaaDoor.num
open Go.RowKit Go.Proofs.YtpgclhpobijdeaaDoor.disk

/-- A row of bytes that a call made. -/
def Made (w : World) (l : List Int) (e : Ending) (w' : World) : Prop := ∃ v, e = .returned v ∧ Own w' v l ∧ (∀ g, v.ownBlock = some g → w.heap.size ≤ g) ∧ Below w.heap.size w w'
theorem _root_.Go.Proofs.YtpgclhpobijdeaaDoor.disk.Leads.at_ {w : World} {a : Option Addr} {l : List Int} (h : Leads w a l) (h0 : 0 < l.length) : ∃ b off, a = some ⟨b, off, none⟩ ∧ ∀ i, i < l.length → w.cell? ⟨b, off + i, none⟩ = some (.int .u8 (l.getD i 0)) := by
  rcases h with rfl | h
  · cases h0
  · exact h
/-- A row laid down step by step. -/
structure Under (w : World) (n k j : Nat) (wr : World) : Prop where
  own : Own wr (.slice (some ⟨w.heap.size, 0, none⟩) k k) (under n k j)
  below : Below w.heap.size w wr

set_option maxHeartbeats 1000000 in
theorem put_any (n k : Nat) (hk : k ≤ 8) (w : World) : Calls Tryd.prog 50 #[.int .u64 (n : Int), .int .i64 (k : Int)] w (Made w (be n k)) := by
  obtain ⟨w1, r1, o1, b1⟩ := run_make_bytes w k (by omega)
  have U := Lib.hid (show Under w n k 0 w1 from ⟨by rw [under_zero]; exact o1, b1⟩)
  have hk0 : ¬ (k : Int) < 0 := by omega
  have hk8 : ¬ (8 : Int) < (k : Int) := by omega
  clear o1 b1
  go_enter Tryd.func50, Tryd.ntmps50
  go_wp2_with fail
  clear r1
  go_loopw [0, 6] (fun m i wr => ∃ j : Nat, j ≤ k ∧ m = .int .u64 ((n / 256 ^ j : Nat) : Int) ∧ i = .int .i64 ((k : Int) - 1 - (j : Int)) ∧ Under w n k j wr) (fun _ i _ => (intOf i + 1).toNat)
  case atStart => exact ⟨0, Nat.zero_le _, by simp, by simp, U.out⟩
  case round =>
    obtain ⟨j, hj, rfl, rfl, hU⟩ := hrel
    have HU := Lib.hid hU
    clear hU
    by_cases hlt : j < k
    · obtain ⟨i, hi⟩ : ∃ i : Nat, k - 1 - j = i := ⟨_, rfl⟩
      have ei : (k : Int) - 1 - (j : Int) = (i : Int) := by omega
      have c1 := HU.out.own.free (under_length n k j hj) i
      have c2 := HU.out.own.cell (under_length n k j hj) i (by omega)
      obtain ⟨m, hm⟩ : ∃ m, n / 256 ^ j = m := ⟨_, rfl⟩
      have hik : i < k := by omega
      have nxt : Under w n k (j + 1) (wr.setCell ⟨w.heap.size, i, none⟩ (.int .u8 ((m : Int) % 256))) := by
        refine ⟨?_, HU.out.below.setCell (Nat.le_refl _) _⟩
        have := HU.out.own.set (under_length n k j hj) i ((n / 256 ^ j % 256 : Nat) : Int)
        rw [← hi, under_set n k j hlt, hi, hm] at this
        rw [show (m : Int) % 256 = ((m % 256 : Nat) : Int) by omega]
        exact this
      have NX := Lib.hid nxt
      have hm2 : n / 256 ^ (j + 1) = m / 256 := by rw [Nat.pow_succ, ← Nat.div_div_eq_div_mul, hm]
      have HM2 := Lib.hid hm2
      rw [hm, ei]
      have hj1 : (i : Int) - 1 = (k : Int) - 1 - ((j + 1 : Nat) : Int) := by omega
      have HJ1 := Lib.hid hj1
      clear nxt hm hm2 hj1 ei hi
      go_wp2_with fail
      exact ⟨⟨j + 1, by omega, by rw [HM2.out]; rfl, by rw [HJ1.out], NX.out⟩, by simp [intOf]⟩
    · obtain rfl : j = k := by omega
      have o := HU.out.own
      rw [under_all] at o
      have fin : Made w (be n j) (.returned (.slice (some ⟨w.heap.size, 0, none⟩) j j)) wr := ⟨_, rfl, o, (fun g hg => by simp [Value.ownBlock] at hg; exact Nat.le_of_eq hg), HU.out.below⟩
      have F := Lib.hid fin
      clear fin o HU U
      go_wp2_with fail
      go_ret
      exact F.out

theorem leads_one (w : World) (c : Int) : Leads (w.alloc (.cells #[.int .u8 c] 5)) (some ⟨w.heap.size, 0, none⟩) [c] := by
  refine .inr ⟨w.heap.size, 0, rfl, fun i hi => ?_⟩
  obtain rfl : i = 0 := by simpa using hi
  rw [cell_of_row _ w.heap.size 0 _ _ _ (heap_alloc_new w _)]
  rfl
/-- The reference's Put. -/
structure Fore (w : World) (n k j : Nat) (v : Value) (wr : World) : Prop where
  own : Own wr v ((be n k).take j)
  new_ : ∀ g, v.ownBlock = some g → w.heap.size ≤ g
  below : Below w.heap.size w wr

theorem val_room {l : List Int} {k : Nat} (hb : Byte l) (hk : k < l.length) (h8 : l.length ≤ 8) : val (l.take k) < 72057594037927936 := by
  have h1 := val_lt k (l.take k) (by rw [List.length_take]; omega) (hb.take k)
  have h2 : 256 ^ k ≤ 256 ^ 7 := Nat.pow_le_pow_right (by decide) (by omega)
  have h3 : (256 : Nat) ^ 7 = 72057594037927936 := by decide
  omega
theorem get_or (m : Nat) (c : Int) (hm : m < 72057594037927936) (h0 : 0 ≤ c ∧ c < 256) : bits .or .u64 (IntKind.u64.wrap ((m : Int) * 256)) c = ((m * 256 + c.toNat : Nat) : Int) := by
  have e1 : IntKind.u64.wrap ((m : Int) * 256) = ((m * 256 : Nat) : Int) := by rw [IntKind.wrap_u64]; omega
  obtain ⟨d, rfl⟩ := Int.eq_ofNat_of_zero_le h0.1
  rw [e1, u64_or_nat _ _ (by omega) (by omega), Int.toNat_natCast]
  congr 1
  have := Nat.two_pow_add_eq_or_of_lt (i := 8) (b := d) (by omega) m
  rw [show 2 ^ 8 * m = m * 256 by omega] at this
  exact this.symm
theorem get_add (m : Nat) (c : Int) (hm : m < 72057594037927936) (h0 : 0 ≤ c ∧ c < 256) : IntKind.u64.wrap (IntKind.u64.wrap ((m : Int) * 256) + c) = ((m * 256 + c.toNat : Nat) : Int) := by
  rw [IntKind.wrap_u64, IntKind.wrap_u64]
  omega

theorem get_any (a : Option Addr) (l : List Int) (cap : Nat) (w : World) (hB : Leads w a l) (hb : Byte l) (hl : l.length ≤ 8) (hc : l.length ≤ cap) :
    Calls Tryd.prog 66 #[.slice a l.length cap] w fun e w' => e = .returned (.int .u64 ((val l : Nat) : Int)) ∧ w = w' := by
  generalize hn : l.length = n at hl hc
  have hn0 : (n : Int) ≤ 8 := by omega
  have hm : max (0 : Int) ((n : Int) - 8) = 0 := by omega
  have HN := Lib.hid hn
  have HM := Lib.hid hm
  have HB := Lib.hid hB
  have HY := Lib.hid hb
  clear hn hm hB hb
  go_enter Tryd.func66, Tryd.ntmps66
  go_wp2_with fail
  go_loop [3, 14] (fun s i => ∃ k : Nat, k ≤ n ∧ i = .int .i64 (k : Int) ∧ s = .int .u64 ((val (l.take k) : Nat) : Int)) (fun _ i => n - (intOf i).toNat)
  case atStart => exact ⟨0, Nat.zero_le _, rfl, rfl⟩
  case round =>
    obtain ⟨k, hk, rfl, rfl⟩ := hrel
    by_cases hlt : k < n
    · obtain ⟨g, off, rfl, hc⟩ := HB.out.at_ (by rw [HN.out]; omega)
      have hck := hc k (by rw [HN.out]; omega)
      have hby := HY.out.at (i := k) (by rw [HN.out]; omega)
      obtain ⟨c, hcc⟩ : ∃ c, l.getD k 0 = c := ⟨_, rfl⟩
      obtain ⟨m, hm⟩ : ∃ m, val (l.take k) = m := ⟨_, rfl⟩
      rw [hcc] at hck hby
      rw [hm]
      have hst := val_take l k (by rw [HN.out]; omega)
      rw [hm, hcc] at hst
      have HST := Lib.hid hst
      have HE := Lib.hid (get_or m c (by rw [← hm]; exact val_room HY.out (by rw [HN.out]; omega) (by rw [HN.out]; exact hl)) hby)
      clear hcc hm hc hst
      go_wp2_with fail
      exact ⟨⟨k + 1, by omega, by go_num, by rw [HE.out, HST.out]⟩, by simp [intOf]; omega⟩
    · obtain rfl : k = n := by omega
      have e : l.take k = l := by rw [← HN.out, List.take_length]
      rw [e]
      clear e
      go_wp2_with fail
      go_ret
      exact ⟨rfl, rfl⟩

end Go.Proofs.YtpgclhpobijdeaaDoor.num
