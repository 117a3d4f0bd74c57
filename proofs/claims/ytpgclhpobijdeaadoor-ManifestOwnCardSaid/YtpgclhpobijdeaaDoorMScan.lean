/-
  JOINED: ScRow.
-/
import Derived.Test.YtpgclhpobijdeaaDoorMRec
import Derived.Deep.RegionLaw
/-
  ROWS OF STRUCTS OF THE CALL's OWN: what is appended to one, its cells.
-/


namespace Go.Proofs.YtpgclhpobijdeaaDoor.scan
open Go.RowKit Go.Proofs.YtpgclhpobijdeaaDoor.disk Go.Proofs.YtpgclhpobijdeaaDoor.recd

/-- AT THE OPERATION: an append whose run is known, any types. -/
theorem wpList_append_of {w w' : World} {v' : Value} {ops : Array Oper} {rest : List Oper} {o : Oper} {a : Act} {Q : Exit → Act → World → Prop} (S T : TypeId) (s x : Operand) (v u : Value) (hgd : o.guard = none)
    (ho : o.op = .call { callee := .builtin .append, args := #[s, x], argTypes := #[S, T] }) (hty : o.type = S) (hs : a.eval s = v) (hx : a.eval x = u)
    (hrun : (Builtin.append_ #[S, T] S #[v, u]).run Tryd.prog w = .ok v' w')
    (h : wpList Tryd.prog ops Q rest (a.put o.dst v') w') : wpList Tryd.prog ops Q (o :: rest) a w := by
  refine wpList_plain hgd fun K hK => ?_
  unfold Oper.wp execOp
  simp only [ho, hty, resolve, invoke, builtin, Sem.run_bind, Sem.run_pure, Result.andThen_ok, List.map_toArray, List.map_cons, List.map_nil, hs, hx, hrun]
  exact hK _ _ h
theorem step_append_of {w w' : World} {v' : Value} {ops : Array Oper} {o : Oper} {a : Act} {K : Act → World → Prop} {Q : Exit → Act → World → Prop} {E : Prop} (S T : TypeId) (s x : Operand) (v u : Value) (hw : Region.wanted o (yielded ops a.tmps) = true)
    (ho : o.op = .call { callee := .builtin .append, args := #[s, x], argTypes := #[S, T] }) (hty : o.type = S) (hs : a.eval s = v) (hx : a.eval x = u)
    (hrun : (Builtin.append_ #[S, T] S #[v, u]).run Tryd.prog w = .ok v' w') (h : K (a.put o.dst v') w') : if Region.wanted o (yielded ops a.tmps) = true then Oper.wp Tryd.prog o a w K Q else E := by
  rw [if_pos hw]
  unfold Oper.wp execOp
  simp only [ho, hty, resolve, invoke, builtin, Sem.run_bind, Sem.run_pure, Result.andThen_ok, List.map_toArray, List.map_cons, List.map_nil, hs, hx, hrun]
  exact h

/-- A struct of cells: how an element's value lies in memory, 'sz' cells of one cell each. -/
structure Form (α : Type) where
  e : TypeId
  s : TypeId
  sz : Nat
  by_ : Nat
  cells : α → List Value
  zero : Value
  under : Tryd.prog.underlying s = some (.slice e)
  info : (Tryd.prog.info? e).map (fun i => (i.zero, i.size, i.bytes)) = some (some zero, sz, by_)
  zeros : zero.cells.size = sz
  some_ : 0 < sz
  small : by_ ≤ 1000
  length : ∀ x, (cells x).length = sz
  one : ∀ x, ∀ u ∈ cells x, u.oneCell' = true

section
variable {α : Type} (F : Form α)
def flat (l : List α) : List Value := l.flatMap F.cells
theorem flat_length (l : List α) : (flat F l).length = l.length * F.sz := by
  unfold flat
  induction l with
  | nil => simp
  | cons x l ih => rw [List.flatMap_cons, List.length_append, F.length, ih, List.length_cons, Nat.add_mul, Nat.one_mul, Nat.add_comm]
theorem flat_append (l m : List α) : flat F (l ++ m) = flat F l ++ flat F m := List.flatMap_append ..
theorem flat_one (x : α) : flat F [x] = F.cells x := by simp [flat]
/-- Element i lies at i times its size. -/
theorem flat_at : ∀ (l : List α) (i j : Nat) (hi : i < l.length), j < F.sz → (flat F l)[i * F.sz + j]? = (F.cells l[i])[j]?
  | x :: l, 0, j, _, hj => by
    show ((F.cells x) ++ flat F l)[0 * F.sz + j]? = _
    rw [List.getElem?_append_left (by rw [F.length]; omega), Nat.zero_mul, Nat.zero_add]
    rfl
  | x :: l, i + 1, j, hi, hj => by
    show ((F.cells x) ++ flat F l)[(i + 1) * F.sz + j]? = _
    rw [List.getElem?_append_right (by rw [F.length, Nat.add_mul]; omega), F.length, show (i + 1) * F.sz + j - F.sz = i * F.sz + j by rw [Nat.add_mul]; omega, flat_at l i j (by simpa using hi) hj]
    rfl
/-- A row of structs of the call's own. -/
def OwnS (w : World) (v : Value) (l : List α) : Prop := w.ownsRow 0 F.e F.sz v l.length (flat F l)
theorem OwnS.none_ (w : World) : OwnS F w (.slice none 0 0) ([] : List α) := World.ownsRow_nil w 0 _ _
variable {F}
theorem OwnS.lt {w : World} {v : Value} {l : List α} (h : OwnS F w v l) {g : Nat} (hg : v.ownBlock = some g) : g < w.heap.size := (World.ownsRow.lt h g hg).2
theorem OwnS.same {w w' : World} {v : Value} {l : List α} (h : OwnS F w v l) (e : ∀ g, v.ownBlock = some g → w'.heap[g]? = w.heap[g]?) : OwnS F w' v l := row_same h e
theorem OwnS.later {w w' : World} {v : Value} {l : List α} (h : OwnS F w v l) (hb : Below w.heap.size w w') : OwnS F w' v l := h.same fun g hg => hb.block g (h.lt hg)
/-- Its slice: nil, or a block of its own. -/
theorem OwnS.form {w : World} {v : Value} {l : List α} (h : OwnS F w v l) :
    (v = .slice none 0 0 ∧ l = []) ∨ ∃ g cap, v = .slice (some ⟨g, 0, none⟩) l.length cap ∧ l.length ≤ cap ∧ cap ≤ 9223372036854775807 ∧ g < w.heap.size ∧
      ∀ i (hi : i < l.length), ∀ j, j < F.sz → w.cell? ⟨g, i * F.sz + j, none⟩ = (F.cells l[i])[j]? := by
  have hc := fun g hg => World.ownsRow.cells h (g := g) hg
  have hlt := World.ownsRow.lt h
  rcases h.2 with ⟨rfl, h0⟩ | ⟨g, cap, cur, rfl, _, _, h1, h2, _, _⟩
  · exact .inl ⟨rfl, List.eq_nil_of_length_eq_zero h0⟩
  · unfold maxLen at h2
    refine .inr ⟨g, cap, rfl, h1, by omega, (hlt g rfl).2, fun i hi j hj => ?_⟩
    have e := flat_at F l i j hi hj
    have hj' : j < (F.cells l[i]).length := by rw [F.length]; exact hj
    rw [List.getElem?_eq_getElem hj'] at e ⊢
    have := hc g rfl _ _ e
    rwa [Addr.add_mid, Nat.zero_add] at this
/-- Its element i, read whole. -/
theorem OwnS.range {w : World} {g n cap : Nat} {l : List α} (h : OwnS F w (.slice (some ⟨g, 0, none⟩) n cap) l) (i : Nat) (hi : i < l.length) : w.rangeAt g (i * F.sz) (F.cells l[i]) := fun j v hv => by
  rcases h.form with ⟨e, _⟩ | ⟨g', cap', e, _, _, _, hc⟩
  · cases e
  · injection e with e1 e2 e3
    injection e1 with e1
    injection e1 with e1
    subst e1
    have hj : j < F.sz := by
      have := (List.getElem?_eq_some_iff.1 hv).1
      rwa [F.length] at this
    exact (hc i hi j hj).trans hv

/-- An element appended: it lies in a block of its own, made just now. -/
theorem OwnS.put {w : World} {v : Value} {l : List α} (h : OwnS F w v l) (x : α) (cap : Nat) (hn : l.length ≤ 1000000000) :
    ∃ v' w', (Builtin.append_ #[F.s, F.s] F.s #[v, .slice (some ⟨w.heap.size, 0, none⟩) 1 cap]).run Tryd.prog (w.alloc (.cells (F.cells x).toArray F.e)) = .ok v' w' ∧ OwnS F w' v' (l ++ [x]) ∧ (w.alloc (.cells (F.cells x).toArray F.e)).grownBy w' v.ownBlock ∧
      (v'.ownBlock = v.ownBlock ∨ v'.ownBlock = some (w.heap.size + 1)) := by
  obtain ⟨i0, hi, hz0, hz1, hz2⟩ := info_parts F.info
  have hb : Below w.heap.size w (w.alloc (.cells (F.cells x).toArray F.e)) := (Below.refl _ _).alloc (Nat.le_refl _) _
  have hs := F.small
  obtain ⟨v', w', h1, h2, h3, _, h5⟩ := run_append_own_at (P := Tryd.prog) (w.alloc (.cells (F.cells x).toArray F.e)) 0 F.s F.s F.e i0 F.zero F.sz F.by_ F.under hi hz0 hz1 hz2 F.zeros F.some_ v l.length (flat F l) (h.later hb)
    ⟨w.heap.size, 0, none⟩ 1 cap (F.cells x) (by rw [F.length, Nat.one_mul]) (by
      intro j u hu
      rw [Addr.add_mid, Nat.zero_add, cell_of_row _ w.heap.size j _ _ _ (heap_alloc_new w _)]
      simpa using hu) (F.one x) (by unfold maxLen; omega) (by
      have : (l.length + 1) * F.by_ ≤ 1000000001 * 1000 := Nat.mul_le_mul (by omega) hs
      omega) (Nat.zero_le _)
  refine ⟨v', w', h1, ?_, h3, ?_⟩
  · unfold OwnS
    rw [flat_append, flat_one, List.length_append]
    exact h2
  · rcases h5 with h5 | h5
    · exact .inl h5
    · exact .inr (h5.trans (by simp))

/-- A row of structs made behind w0. -/
structure GrowS (F : Form α) (w0 : World) (l : List α) (v : Value) (w : World) : Prop where
  own : OwnS F w v l
  new_ : ∀ g, v.ownBlock = some g → w0.heap.size ≤ g
  below : Below w0.heap.size w0 w
theorem GrowS.start (F : Form α) (w : World) : GrowS F w ([] : List α) (.slice none 0 0) w := ⟨OwnS.none_ F w, (fun g hg => by cases hg), Below.refl _ _⟩
theorem GrowS.later {w0 w w1 : World} {v : Value} {l : List α} (h : GrowS F w0 l v w) (hb : Below w.heap.size w w1) : GrowS F w0 l v w1 := ⟨h.own.later hb, h.new_, h.below.trans (hb.mono h.below.size)⟩
theorem GrowS.keep {w0 w w1 : World} {v : Value} {l : List α} (h : GrowS F w0 l v w) (hb : Below w0.heap.size w w1) (hk : ∀ g, v.ownBlock = some g → w1.heap[g]? = w.heap[g]?) : GrowS F w0 l v w1 := ⟨h.own.same hk, h.new_, h.below.trans hb⟩
theorem GrowS.put {w0 w : World} {v : Value} {l : List α} (h : GrowS F w0 l v w) (x : α) (g cap : Nat) (hg : g = w.heap.size) (hn : l.length ≤ 1000000000) :
    ∃ v' w', (Builtin.append_ #[F.s, F.s] F.s #[v, .slice (some ⟨g, 0, none⟩) 1 cap]).run Tryd.prog (w.alloc (.cells (F.cells x).toArray F.e)) = .ok v' w' ∧ GrowS F w0 (l ++ [x]) v' w' := by
  subst hg
  obtain ⟨v', w', h1, h2, h3, h4⟩ := h.own.put x cap hn
  have b1 : Below w0.heap.size w0 (w.alloc (.cells (F.cells x).toArray F.e)) := h.below.alloc h.below.size _
  refine ⟨v', w', h1, h2, fun g hg => ?_, b1.grown h3 b1.size h.new_⟩
  rcases h4 with h4 | h4
  · exact h.new_ g (by rw [← h4]; exact hg)
  · rw [h4] at hg
    injection hg with hg
    have := h.below.size
    omega
/-- What a call that makes such a row answers with. -/
def MadeS (F : Form α) (w : World) (l : List α) (e : Ending) (w' : World) : Prop := ∃ v, e = .returned v ∧ GrowS F w l v w'
/-- .. and a number. -/
def MadeF (F : Form α) (w : World) (x : List α × Nat) (e : Ending) (w' : World) : Prop := ∃ v, e = .returned (.tuple #[v, .int .i64 (x.2 : Int)]) ∧ GrowS F w x.1 v w'
end
end Go.Proofs.YtpgclhpobijdeaaDoor.scan
