/-
  MEMORY, PLAINLY: a block that is known whole, as a list of its cells. No program stands in it.
-/
import Derived.Below
import Derived.Laws.OwnMore
import Derived.Deep.Draws
import Derived.Deep.MidRow
import Derived.Laws.Rows
import Derived.Laws.PanicsMore
import Derived.RegionTactic
namespace Go.Proofs.Ytpbffjpghnijkaa
open Go.RowKit

/-- Block g holds just the cells l, of type t, none frozen. -/
def Whole (w : World) (g : Nat) (t : TypeId) (l : List Value) : Prop := w.heap[g]? = some (.cells l.toArray t (0, 0))

section
variable {w w' : World} {g : Nat} {t : TypeId} {l : List Value}
theorem Whole.lt (h : Whole w g t l) : g < w.heap.size := by
  refine Nat.lt_of_not_le fun hge => ?_
  have h' := h
  rw [Whole, Array.getElem?_eq_none hge] at h'
  cases h'
theorem Whole.at_ (h : Whole w g t l) (i : Nat) : w.cell? ⟨g, i, none⟩ = l[i]? := by
  rw [cell_of_row w g i l.toArray t (0, 0) h]; simp
theorem Whole.free (h : Whole w g t l) (i : Nat) : w.frozen? ⟨g, i, none⟩ = false := frozen_of_row w g i l.toArray t h
theorem Whole.made (w : World) (t : TypeId) (l : List Value) : Whole (w.alloc (.cells l.toArray t)) w.heap.size t l := heap_alloc_new w _
theorem Whole.made' (w : World) (t : TypeId) (cs : Array Value) : Whole (w.alloc (.cells cs t)) w.heap.size t cs.toList := heap_alloc_new w _
theorem Whole.new_ {cs : Array Value} (hg : g = w.heap.size) (hl : cs = l.toArray) : Whole (w.alloc (.cells cs t)) g t l := by
  subst hg; subst hl; exact heap_alloc_new w _
theorem Whole.draws (h : Whole w g t l) (n : Nat) : Whole (w.drewN n) g t l := h
theorem Whole.more (h : Whole w g t l) (o : Obj) : Whole (w.alloc o) g t l := (heap_alloc_old w o g h.lt).trans h
theorem Whole.put (h : Whole w g t l) (i : Nat) (u : Value) : Whole (w.setCell ⟨g, i, none⟩ u) g t (l.set i u) := by
  have := heap_setCell_same w g i l.toArray t u h
  rw [Whole, this]; simp
theorem Whole.apart (h : Whole w g t l) {p : Addr} (hp : g ≠ p.block) (u : Value) : Whole (w.setCell p u) g t l := (heap_setCell_other w p g u hp).trans h
theorem Whole.keep {B : Nat} (h : Whole w g t l) (hb : Below B w w') (hg : g < B) : Whole w' g t l := (hb.block g hg).trans h
theorem Whole.kept (h : Whole w g t l) (hb : Below w.heap.size w w') : Whole w' g t l := h.keep hb h.lt
theorem Whole.grown {row : Option Nat} (h : Whole w g t l) (hb : w.grownBy w' row) (hg : some g ≠ row) : Whole w' g t l := (hb.block g h.lt hg).trans h
theorem Whole.range (h : Whole w g t l) (o n : Nat) : w.rangeAt g o ((l.drop o).take n) := fun j v hv => by
  rw [h.at_]
  rw [List.getElem?_take] at hv
  split at hv
  · rwa [List.getElem?_drop] at hv
  · cases hv
theorem Whole.there (h : Whole w g t l) (o n : Nat) (hn : o + n ≤ l.length) : w.there g o n := fun j hj => by
  rw [h.at_, List.getElem?_eq_getElem (by omega)]
  exact ⟨rfl, h.free _⟩
theorem below_draws {B : Nat} {a w : World} (h : Below B a w) (n : Nat) : Below B a (w.drewN n) := ⟨h.os, h.tape, h.output, h.size, h.block⟩
/-- Cells laid over others. -/
theorem set_cells (l : List Value) : ∀ (vs : List Value) (o : Nat), o + vs.length ≤ l.length → ∀ u r, vs = u :: r → (l.set o u).take (o + 1) ++ (r ++ (l.set o u).drop (o + 1 + r.length)) = l.take o ++ (vs ++ l.drop (o + vs.length)) := by
  intro vs o ho u r hv
  subst hv
  rw [List.length_cons] at ho
  rw [List.take_set, List.drop_set_of_lt (by omega), List.take_succ_eq_append_getElem (by omega), List.set_append_right _ _ (by rw [List.length_take]; omega),
    show o - (l.take o).length = 0 by rw [List.length_take]; omega, List.set_cons_zero, List.length_cons]
  rw [List.append_assoc, List.singleton_append, List.cons_append, show o + 1 + r.length = o + (r.length + 1) by omega]
theorem Whole.lay (vs : List Value) : ∀ {w : World} {g : Nat} {t : TypeId} {l : List Value} (o : Nat), Whole w g t l → o + vs.length ≤ l.length → Whole (w.setCells g o vs) g t (l.take o ++ (vs ++ l.drop (o + vs.length))) := by
  induction vs with
  | nil => intro w g t l o h _; simpa [World.setCells] using h
  | cons u r ih =>
    intro w g t l o h ho
    rw [List.length_cons] at ho
    have h2 := ih (o + 1) (h.put o u) (by rw [List.length_set]; omega)
    rw [set_cells l (u :: r) o (by rw [List.length_cons]; omega) u r rfl] at h2
    exact h2
theorem Whole.lay_apart (vs : List Value) : ∀ {w : World} {g : Nat} {t : TypeId} {l : List Value} (b o : Nat), Whole w g t l → g ≠ b → Whole (w.setCells b o vs) g t l := by
  induction vs with
  | nil => intro w g t l b o h _; simpa [World.setCells] using h
  | cons u r ih => intro w g t l b o h hb; exact ih b (o + 1) (h.apart (p := ⟨b, o, none⟩) hb u) hb
theorem below_lay (vs : List Value) : ∀ {B : Nat} {a w : World} (b o : Nat), Below B a w → B ≤ b → Below B a (w.setCells b o vs) := by
  induction vs with
  | nil => intro B a w b o h _; simpa [World.setCells] using h
  | cons u r ih => intro B a w b o h hb; exact ih b (o + 1) (h.setCell (p := ⟨b, o, none⟩) hb u) hb
end
/-- A store of a whole array or struct: the world behind it under one name. -/
theorem wpList_store_as {P : Program} {ops : Array Oper} {rest : List Oper} {op : Oper} {a : Act} {w : World} {Q : Exit → Act → World → Prop} (hgd : op.guard = none) (ty : TypeId) (x y : Operand) (ho : op.op = .store ty x y)
    (b o : Nat) (cells : Array Value) (hx : a.eval x = .pointer (some ⟨b, o, none⟩)) (hy : a.eval y = .agg cells)
    (ht : w.there b o cells.size) (hi : (P.info? ty).map (·.size) = some cells.size) (h1 : cells.all (·.oneCell') = true)
    (h : ∀ w2, w.setCells b o cells.toList = w2 → wpList P ops Q rest (a.put op.dst undef) w2) : wpList P ops Q (op :: rest) a w :=
  wpList_store_mid hgd ty x y ho b o cells hx hy ht hi h1 (h _ rfl)
/-- 'a[k]' of an array by value, its elements numbers. -/
theorem run_index_array {P : Program} {t e : TypeId} {n : Nat} {cs : Array Value} {ke : IntKind} (kd : IntKind) {k : Nat} {i : TypeInfo} {v : Value} (ht : P.underlying t = some (.array n e)) (he : P.underlying e = some (.int ke)) (hi : P.info? e = some i) (h1 : i.size = 1)
    (hk : k < n) (hv : cs[k]? = some v) (w : World) : (Instr.index t (.agg cs) (.int kd (k : Int))).run P w = .ok v w := by
  have hn : 0 ≤ (k : Int) ∧ (k : Int) < (n : Int) := by omega
  simp [Instr.index, run_underlying ht, asIntOf, go_sem, hk, sizeOf, typeInfo, hi, h1, isAgg, run_underlying he, hv]
/-! In a region that draws its order: an array or struct read whole, or stored whole, as one step. -/
section
variable {P : Program} {md : Region.Mode} {ops : Array Oper} {Q : Exit → Act → World → Prop} {fuel : Nat} {listed : Array Bool} {a : Act} {w : World} {rs : List Nat}
theorem ready_load {i : Nat} {o : Oper} (ho : ops[i]? = some o) (ty : TypeId) (x : Operand) (hop : o.op = .load ty x) (b off : Nat) (hx : a.eval x = .pointer (some ⟨b, off, none⟩)) (cs : List Value) (d : TypeDesc) (hc : w.rangeAt b off cs)
    (hu : P.underlying ty = some d) (hd : d.isRow = true) (hi : (P.info? ty).map (·.size) = some cs.length) (hw : Region.wanted o (yielded ops a.tmps) = true)
    (h : wpAny P md ops Q fuel (listed.setIfInBounds i true) (a.put o.dst (.agg cs.toArray)) w) (hs : AllReady P md ops Q fuel listed a w rs) : AllReady P md ops Q fuel listed a w (i :: rs) :=
  AllReady.cons ho (fun K hK => by rw [if_pos hw]; exact wp_load_mid ty x hop b off hx cs d hc hu hd hi (hK _ _ h)) hs
theorem ready_store {i : Nat} {o : Oper} (ho : ops[i]? = some o) (ty : TypeId) (x y : Operand) (hop : o.op = .store ty x y) (b off : Nat) (cells : Array Value) (hx : a.eval x = .pointer (some ⟨b, off, none⟩)) (hy : a.eval y = .agg cells)
    (ht : w.there b off cells.size) (hi : (P.info? ty).map (·.size) = some cells.size) (h1 : cells.all (·.oneCell') = true) (hw : Region.wanted o (yielded ops a.tmps) = true)
    (h : ∀ w2, w.setCells b off cells.toList = w2 → wpAny P md ops Q fuel (listed.setIfInBounds i true) (a.put o.dst undef) w2) (hs : AllReady P md ops Q fuel listed a w rs) : AllReady P md ops Q fuel listed a w (i :: rs) :=
  AllReady.cons ho (fun K hK => by rw [if_pos hw]; exact wp_store_mid ty x y hop b off cells hx hy ht hi h1 (hK _ _ (h _ rfl))) hs
end
end Go.Proofs.Ytpbffjpghnijkaa
