/-
  JOINED: ScMath ScRow ScFind ScChain ScAll ScFront ScRAll ScRFront ScFound ScEq ScBegun ScRecs.
-/
import Derived.Test.YtdonblfidohncaaGreatDoorMRec
import Derived.Deep.RegionLaw
import Derived.Test.YtdonblfidohncaaGreatDoorMBase
import Derived.Test.YtdonblfidohncaaGreatDoorMRDec
import Derived.StillTailTactics
import Derived.Lib.SlBytesConst
/-
  PLAIN MATHEMATICS OF A SCAN (P7.1): which records stand among bytes, and which at their front. No program stands in it.
-/

namespace Go.Proofs.YtdonblfidohncaaGreatDoor.scan
open Go.Proofs.YtdonblfidohncaaGreatDoor.recd Go.Proofs.YtdonblfidohncaaGreatDoor.disk

/-- A record and its place. -/
structure Fd where
  at_ : Nat
  r : Rec
deriving DecidableEq

theorem dec_ok {l : List Int} (h : (dec l).2.2 = 0) : 39 ≤ (dec l).2.1 ∧ (dec l).2.1 ≤ l.length ∧ (dec l).2.1 = 39 + (dec l).1.body.size ∧ (dec l).1.body.size ≤ 1000 := by
  unfold dec at h ⊢
  split at h
  · cases h
  · rename_i h1
    rw [if_neg h1]
    split at h
    · cases h
    · rename_i h2
      rw [if_neg h2]
      split at h
      · cases h
      · rename_i h3
        rw [if_neg h3]
        split at h
        · cases h
        · rename_i h4
          rw [if_neg h4]
          split at h
          · cases h
          · rename_i h5
            rw [if_neg h5]
            refine ⟨by show 39 ≤ 39 + lenOf l; omega, by show 39 + lenOf l ≤ _; omega, ?_, ?_⟩
            · show 39 + lenOf l = 39 + (str (sub l 39 (39 + lenOf l))).size
              rw [str_size, sub_length _ _ _ (by omega)]
              omega
            · show (str (sub l 39 (39 + lenOf l))).size ≤ 1000
              rw [str_size, sub_length _ _ _ (by omega)]
              omega
theorem dec_short {l : List Int} (h : l.length = 0) : (dec l).2.2 ≠ 0 := fun e => by
  have := dec_ok e
  omega
theorem dec_body (l : List Int) : (dec l).1.body.size ≤ 1000 := by
  by_cases h : (dec l).2.2 = 0
  · exact (dec_ok h).2.2.2
  · unfold dec at h ⊢
    split
    · exact Nat.zero_le _
    · rename_i h1
      rw [if_neg h1] at h
      split
      · exact Nat.zero_le _
      · rename_i h2
        rw [if_neg h2] at h
        split
        · exact Nat.zero_le _
        · rename_i h3
          rw [if_neg h3] at h
          split
          · exact Nat.zero_le _
          · rename_i h4
            rw [if_neg h4] at h
            split
            · exact Nat.zero_le _
            · rename_i h5
              rw [if_neg h5] at h
              exact absurd rfl h

/-- What All finds from place 'p' on, in so many steps at most. -/
def allF (b : List Int) : Nat → Nat → List Fd
  | 0, _ => []
  | k + 1, p => if p < b.length then
      if (dec (b.drop p)).2.2 = 0 then ⟨p, (dec (b.drop p)).1⟩ :: allF b k (p + (dec (b.drop p)).2.1) else allF b k (p + 1)
    else []
theorem allF_more (b : List Int) : ∀ (k j p : Nat), b.length ≤ p + k → k ≤ j → allF b j p = allF b k p
  | 0, 0, p, _, _ => rfl
  | 0, j + 1, p, h, _ => by
    unfold allF
    rw [if_neg (by omega)]
  | k + 1, 0, p, _, h => by omega
  | k + 1, j + 1, p, h1, h2 => by
    unfold allF
    by_cases hp : p < b.length
    · rw [if_pos hp, if_pos hp]
      by_cases hd : (dec (b.drop p)).2.2 = 0
      · have := dec_ok hd
        rw [if_pos hd, if_pos hd, allF_more b k j _ (by omega) (by omega)]
      · rw [if_neg hd, if_neg hd, allF_more b k j _ (by omega) (by omega)]
    · rw [if_neg hp, if_neg hp]
/-- What All finds from place 'p' on. -/
def rest (b : List Int) (p : Nat) : List Fd := allF b (b.length - p) p
theorem rest_end {b : List Int} {p : Nat} (h : b.length ≤ p) : rest b p = [] := by
  unfold rest
  rw [show b.length - p = 0 by omega]
  rfl
theorem rest_ok {b : List Int} {p : Nat} (h : p < b.length) (hd : (dec (b.drop p)).2.2 = 0) : rest b p = ⟨p, (dec (b.drop p)).1⟩ :: rest b (p + (dec (b.drop p)).2.1) := by
  have := dec_ok hd
  unfold rest
  rw [show b.length - p = (b.length - p - 1) + 1 by omega, allF, if_pos h, if_pos hd, allF_more b (b.length - (p + (dec (b.drop p)).2.1)) _ _ (by omega) (by omega)]
theorem rest_no {b : List Int} {p : Nat} (h : p < b.length) (hd : (dec (b.drop p)).2.2 ≠ 0) : rest b p = rest b (p + 1) := by
  unfold rest
  rw [show b.length - p = (b.length - (p + 1)) + 1 by omega, allF, if_pos h, if_neg hd]

/-- What Front finds from place 'p' on, in so many steps at most, and where it ends. -/
def frontF (b : List Int) : Nat → Nat → List Fd × Nat
  | 0, p => ([], p)
  | k + 1, p => if (dec (b.drop p)).2.2 = 0 then (⟨p, (dec (b.drop p)).1⟩ :: (frontF b k (p + (dec (b.drop p)).2.1)).1, (frontF b k (p + (dec (b.drop p)).2.1)).2) else ([], p)
theorem frontF_more (b : List Int) : ∀ (k j p : Nat), b.length ≤ p + k → k ≤ j → frontF b j p = frontF b k p
  | 0, 0, p, _, _ => rfl
  | 0, j + 1, p, h, _ => by
    unfold frontF
    rw [if_neg (dec_short (by rw [List.length_drop]; omega))]
  | k + 1, 0, p, _, h => by omega
  | k + 1, j + 1, p, h1, h2 => by
    unfold frontF
    by_cases hd : (dec (b.drop p)).2.2 = 0
    · have := dec_ok hd
      rw [if_pos hd, if_pos hd, frontF_more b k j _ (by omega) (by omega)]
    · rw [if_neg hd, if_neg hd]
def front (b : List Int) (p : Nat) : List Fd × Nat := frontF b (b.length - p) p
theorem front_ok {b : List Int} {p : Nat} (hd : (dec (b.drop p)).2.2 = 0) : front b p = (⟨p, (dec (b.drop p)).1⟩ :: (front b (p + (dec (b.drop p)).2.1)).1, (front b (p + (dec (b.drop p)).2.1)).2) := by
  have := dec_ok hd
  rw [List.length_drop] at this
  unfold front
  rw [show b.length - p = (b.length - p - 1) + 1 by omega, frontF, if_pos hd, frontF_more b (b.length - (p + (dec (b.drop p)).2.1)) _ _ (by omega) (by omega)]
theorem front_no {b : List Int} {p : Nat} (hd : (dec (b.drop p)).2.2 ≠ 0) : front b p = ([], p) := by
  unfold front
  cases b.length - p with
  | zero => rfl
  | succ k => rw [frontF, if_neg hd]

/-- How far a list of finds reaches: each takes 39 bytes at least. -/
theorem allF_small (b : List Int) : ∀ (k p : Nat), (allF b k p).length ≤ b.length - p
  | 0, p => Nat.zero_le _
  | k + 1, p => by
    unfold allF
    split
    · rename_i hp
      split
      · rename_i hd
        have := dec_ok hd
        have := allF_small b k (p + (dec (b.drop p)).2.1)
        rw [List.length_cons]
        omega
      · have := allF_small b k (p + 1)
        omega
    · exact Nat.zero_le _
theorem rest_small (b : List Int) (p : Nat) : (rest b p).length ≤ b.length - p := allF_small b _ p
theorem frontF_small (b : List Int) : ∀ (k p : Nat), (frontF b k p).1.length ≤ b.length - p
  | 0, p => Nat.zero_le _
  | k + 1, p => by
    unfold frontF
    split
    · rename_i hd
      have := dec_ok hd
      rw [List.length_drop] at this
      have := frontF_small b k (p + (dec (b.drop p)).2.1)
      show (_ :: _).length ≤ _
      rw [List.length_cons]
      omega
    · exact Nat.zero_le _
theorem front_small (b : List Int) (p : Nat) : (front b p).1.length ≤ b.length - p := frontF_small b _ p
theorem allF_body (b : List Int) : ∀ (k p : Nat), ∀ x ∈ allF b k p, x.r.body.size ≤ 1000 ∧ x.at_ < b.length
  | 0, p, x, hx => by cases hx
  | k + 1, p, x, hx => by
    unfold allF at hx
    split at hx
    · rename_i hp
      split at hx
      · rcases List.mem_cons.1 hx with rfl | hx
        · exact ⟨dec_body _, hp⟩
        · exact allF_body b k _ x hx
      · exact allF_body b k _ x hx
    · cases hx
theorem rest_body {b : List Int} {p : Nat} {x : Fd} (hx : x ∈ rest b p) : x.r.body.size ≤ 1000 ∧ x.at_ < b.length := allF_body b _ p x hx
theorem frontF_body (b : List Int) : ∀ (k p : Nat), ∀ x ∈ (frontF b k p).1, x.r.body.size ≤ 1000 ∧ x.at_ < b.length
  | 0, p, x, hx => by cases hx
  | k + 1, p, x, hx => by
    unfold frontF at hx
    split at hx
    · rename_i hd
      have := dec_ok hd
      rw [List.length_drop] at this
      rcases List.mem_cons.1 hx with rfl | hx
      · exact ⟨dec_body _, by show p < b.length; omega⟩
      · exact frontF_body b k _ x hx
    · cases hx
theorem front_body {b : List Int} {p : Nat} {x : Fd} (hx : x ∈ (front b p).1) : x.r.body.size ≤ 1000 ∧ x.at_ < b.length := frontF_body b _ p x hx
theorem frontF_end (b : List Int) : ∀ (k p : Nat), p ≤ b.length → p ≤ (frontF b k p).2 ∧ (frontF b k p).2 ≤ b.length
  | 0, p, h => ⟨Nat.le_refl _, h⟩
  | k + 1, p, h => by
    unfold frontF
    split
    · rename_i hd
      have := dec_ok hd
      rw [List.length_drop] at this
      have := frontF_end b k (p + (dec (b.drop p)).2.1) (by omega)
      exact ⟨by show p ≤ (frontF b k (p + (dec (b.drop p)).2.1)).2; omega, this.2⟩
    · exact ⟨Nat.le_refl _, h⟩
theorem front_end {b : List Int} {p : Nat} (h : p ≤ b.length) : p ≤ (front b p).2 ∧ (front b p).2 ≤ b.length := frontF_end b _ p h
end Go.Proofs.YtdonblfidohncaaGreatDoor.scan
/-
  ROWS OF STRUCTS OF THE CALL's OWN: what is appended to one, its cells.
-/


namespace Go.Proofs.YtdonblfidohncaaGreatDoor.scan
open Go.RowKit Go.Proofs.YtdonblfidohncaaGreatDoor.disk Go.Proofs.YtdonblfidohncaaGreatDoor.recd

/-- AT THE OPERATION: an append whose run is known, any types. -/
theorem wpList_append_of {w w' : World} {v' : Value} {ops : Array Oper} {rest : List Oper} {o : Oper} {a : Act} {Q : Exit → Act → World → Prop} (S T : TypeId) (s x : Operand) (v u : Value) (hgd : o.guard = none)
    (ho : o.op = .call { callee := .builtin .append, args := #[s, x], argTypes := #[S, T] }) (hty : o.type = S) (hs : a.eval s = v) (hx : a.eval x = u)
    (hrun : (Builtin.append_ #[S, T] S #[v, u]).run Tryz.prog w = .ok v' w')
    (h : wpList Tryz.prog ops Q rest (a.put o.dst v') w') : wpList Tryz.prog ops Q (o :: rest) a w := by
  refine wpList_plain hgd fun K hK => ?_
  unfold Oper.wp execOp
  simp only [ho, hty, resolve, invoke, builtin, Sem.run_bind, Sem.run_pure, Result.andThen_ok, List.map_toArray, List.map_cons, List.map_nil, hs, hx, hrun]
  exact hK _ _ h
theorem step_append_of {w w' : World} {v' : Value} {ops : Array Oper} {o : Oper} {a : Act} {K : Act → World → Prop} {Q : Exit → Act → World → Prop} {E : Prop} (S T : TypeId) (s x : Operand) (v u : Value) (hw : Region.wanted o (yielded ops a.tmps) = true)
    (ho : o.op = .call { callee := .builtin .append, args := #[s, x], argTypes := #[S, T] }) (hty : o.type = S) (hs : a.eval s = v) (hx : a.eval x = u)
    (hrun : (Builtin.append_ #[S, T] S #[v, u]).run Tryz.prog w = .ok v' w') (h : K (a.put o.dst v') w') : if Region.wanted o (yielded ops a.tmps) = true then Oper.wp Tryz.prog o a w K Q else E := by
  rw [if_pos hw]
  unfold Oper.wp execOp
  simp only [ho, hty, resolve, invoke, builtin, Sem.run_bind, Sem.run_pure, Result.andThen_ok, List.map_toArray, List.map_cons, List.map_nil, hs, hx, hrun]
  exact h

/-- A struct of cells: how an element's value lies in memory, 'sz' cells of one cell each. -/
structure Form (α : Type) where
  e : TypeId
  s : TypeId
  sz : Nat
  by_ : Nat
  cells : α → List Value
  zero : Value
  under : Tryz.prog.underlying s = some (.slice e)
  info : (Tryz.prog.info? e).map (fun i => (i.zero, i.size, i.bytes)) = some (some zero, sz, by_)
  zeros : zero.cells.size = sz
  some_ : 0 < sz
  small : by_ ≤ 1000
  length : ∀ x, (cells x).length = sz
  one : ∀ x, ∀ u ∈ cells x, u.oneCell' = true

section
variable {α : Type} (F : Form α)
def flat (l : List α) : List Value := l.flatMap F.cells
theorem flat_length (l : List α) : (flat F l).length = l.length * F.sz := by
  unfold flat
  induction l with
  | nil => simp
  | cons x l ih => rw [List.flatMap_cons, List.length_append, F.length, ih, List.length_cons, Nat.add_mul, Nat.one_mul, Nat.add_comm]
theorem flat_append (l m : List α) : flat F (l ++ m) = flat F l ++ flat F m := List.flatMap_append ..
theorem flat_one (x : α) : flat F [x] = F.cells x := by simp [flat]
/-- Element i lies at i times its size. -/
theorem flat_at : ∀ (l : List α) (i j : Nat) (hi : i < l.length), j < F.sz → (flat F l)[i * F.sz + j]? = (F.cells l[i])[j]?
  | x :: l, 0, j, _, hj => by
    show ((F.cells x) ++ flat F l)[0 * F.sz + j]? = _
    rw [List.getElem?_append_left (by rw [F.length]; omega), Nat.zero_mul, Nat.zero_add]
    rfl
  | x :: l, i + 1, j, hi, hj => by
    show ((F.cells x) ++ flat F l)[(i + 1) * F.sz + j]? = _
    rw [List.getElem?_append_right (by rw [F.length, Nat.add_mul]; omega), F.length, show (i + 1) * F.sz + j - F.sz = i * F.sz + j by rw [Nat.add_mul]; omega, flat_at l i j (by simpa using hi) hj]
    rfl
/-- A row of structs of the call's own. -/
def OwnS (w : World) (v : Value) (l : List α) : Prop := w.ownsRow 0 F.e F.sz v l.length (flat F l)
theorem OwnS.none_ (w : World) : OwnS F w (.slice none 0 0) ([] : List α) := World.ownsRow_nil w 0 _ _
variable {F}
theorem OwnS.lt {w : World} {v : Value} {l : List α} (h : OwnS F w v l) {g : Nat} (hg : v.ownBlock = some g) : g < w.heap.size := (World.ownsRow.lt h g hg).2
theorem OwnS.same {w w' : World} {v : Value} {l : List α} (h : OwnS F w v l) (e : ∀ g, v.ownBlock = some g → w'.heap[g]? = w.heap[g]?) : OwnS F w' v l := row_same h e
theorem OwnS.later {w w' : World} {v : Value} {l : List α} (h : OwnS F w v l) (hb : Below w.heap.size w w') : OwnS F w' v l := h.same fun g hg => hb.block g (h.lt hg)
/-- Its slice: nil, or a block of its own. -/
theorem OwnS.form {w : World} {v : Value} {l : List α} (h : OwnS F w v l) :
    (v = .slice none 0 0 ∧ l = []) ∨ ∃ g cap, v = .slice (some ⟨g, 0, none⟩) l.length cap ∧ l.length ≤ cap ∧ cap ≤ 9223372036854775807 ∧ g < w.heap.size ∧
      ∀ i (hi : i < l.length), ∀ j, j < F.sz → w.cell? ⟨g, i * F.sz + j, none⟩ = (F.cells l[i])[j]? := by
  have hc := fun g hg => World.ownsRow.cells h (g := g) hg
  have hlt := World.ownsRow.lt h
  rcases h.2 with ⟨rfl, h0⟩ | ⟨g, cap, cur, rfl, _, _, h1, h2, _, _⟩
  · exact .inl ⟨rfl, List.eq_nil_of_length_eq_zero h0⟩
  · unfold maxLen at h2
    refine .inr ⟨g, cap, rfl, h1, by omega, (hlt g rfl).2, fun i hi j hj => ?_⟩
    have e := flat_at F l i j hi hj
    have hj' : j < (F.cells l[i]).length := by rw [F.length]; exact hj
    rw [List.getElem?_eq_getElem hj'] at e ⊢
    have := hc g rfl _ _ e
    rwa [Addr.add_mid, Nat.zero_add] at this
/-- Its element i, read whole. -/
theorem OwnS.range {w : World} {g n cap : Nat} {l : List α} (h : OwnS F w (.slice (some ⟨g, 0, none⟩) n cap) l) (i : Nat) (hi : i < l.length) : w.rangeAt g (i * F.sz) (F.cells l[i]) := fun j v hv => by
  rcases h.form with ⟨e, _⟩ | ⟨g', cap', e, _, _, _, hc⟩
  · cases e
  · injection e with e1 e2 e3
    injection e1 with e1
    injection e1 with e1
    subst e1
    have hj : j < F.sz := by
      have := (List.getElem?_eq_some_iff.1 hv).1
      rwa [F.length] at this
    exact (hc i hi j hj).trans hv

/-- An element appended: it lies in a block of its own, made just now. -/
theorem OwnS.put {w : World} {v : Value} {l : List α} (h : OwnS F w v l) (x : α) (cap : Nat) (hn : l.length ≤ 1000000000) :
    ∃ v' w', (Builtin.append_ #[F.s, F.s] F.s #[v, .slice (some ⟨w.heap.size, 0, none⟩) 1 cap]).run Tryz.prog (w.alloc (.cells (F.cells x).toArray F.e)) = .ok v' w' ∧ OwnS F w' v' (l ++ [x]) ∧ (w.alloc (.cells (F.cells x).toArray F.e)).grownBy w' v.ownBlock ∧
      (v'.ownBlock = v.ownBlock ∨ v'.ownBlock = some (w.heap.size + 1)) := by
  obtain ⟨i0, hi, hz0, hz1, hz2⟩ := info_parts F.info
  have hb : Below w.heap.size w (w.alloc (.cells (F.cells x).toArray F.e)) := (Below.refl _ _).alloc (Nat.le_refl _) _
  have hs := F.small
  obtain ⟨v', w', h1, h2, h3, _, h5⟩ := run_append_own_at (P := Tryz.prog) (w.alloc (.cells (F.cells x).toArray F.e)) 0 F.s F.s F.e i0 F.zero F.sz F.by_ F.under hi hz0 hz1 hz2 F.zeros F.some_ v l.length (flat F l) (h.later hb)
    ⟨w.heap.size, 0, none⟩ 1 cap (F.cells x) (by rw [F.length, Nat.one_mul]) (by
      intro j u hu
      rw [Addr.add_mid, Nat.zero_add, cell_of_row _ w.heap.size j _ _ _ (heap_alloc_new w _)]
      simpa using hu) (F.one x) (by unfold maxLen; omega) (by
      have : (l.length + 1) * F.by_ ≤ 1000000001 * 1000 := Nat.mul_le_mul (by omega) hs
      omega) (Nat.zero_le _)
  refine ⟨v', w', h1, ?_, h3, ?_⟩
  · unfold OwnS
    rw [flat_append, flat_one, List.length_append]
    exact h2
  · rcases h5 with h5 | h5
    · exact .inl h5
    · exact .inr (h5.trans (by simp))

/-- A row of structs made behind w0. -/
structure GrowS (F : Form α) (w0 : World) (l : List α) (v : Value) (w : World) : Prop where
  own : OwnS F w v l
  new_ : ∀ g, v.ownBlock = some g → w0.heap.size ≤ g
  below : Below w0.heap.size w0 w
theorem GrowS.start (F : Form α) (w : World) : GrowS F w ([] : List α) (.slice none 0 0) w := ⟨OwnS.none_ F w, (fun g hg => by cases hg), Below.refl _ _⟩
theorem GrowS.later {w0 w w1 : World} {v : Value} {l : List α} (h : GrowS F w0 l v w) (hb : Below w.heap.size w w1) : GrowS F w0 l v w1 := ⟨h.own.later hb, h.new_, h.below.trans (hb.mono h.below.size)⟩
theorem GrowS.keep {w0 w w1 : World} {v : Value} {l : List α} (h : GrowS F w0 l v w) (hb : Below w0.heap.size w w1) (hk : ∀ g, v.ownBlock = some g → w1.heap[g]? = w.heap[g]?) : GrowS F w0 l v w1 := ⟨h.own.same hk, h.new_, h.below.trans hb⟩
theorem GrowS.put {w0 w : World} {v : Value} {l : List α} (h : GrowS F w0 l v w) (x : α) (g cap : Nat) (hg : g = w.heap.size) (hn : l.length ≤ 1000000000) :
    ∃ v' w', (Builtin.append_ #[F.s, F.s] F.s #[v, .slice (some ⟨g, 0, none⟩) 1 cap]).run Tryz.prog (w.alloc (.cells (F.cells x).toArray F.e)) = .ok v' w' ∧ GrowS F w0 (l ++ [x]) v' w' := by
  subst hg
  obtain ⟨v', w', h1, h2, h3, h4⟩ := h.own.put x cap hn
  have b1 : Below w0.heap.size w0 (w.alloc (.cells (F.cells x).toArray F.e)) := h.below.alloc h.below.size _
  refine ⟨v', w', h1, h2, fun g hg => ?_, b1.grown h3 b1.size h.new_⟩
  rcases h4 with h4 | h4
  · exact h.new_ g (by rw [← h4]; exact hg)
  · rw [h4] at hg
    injection hg with hg
    have := h.below.size
    omega
/-- What a call that makes such a row answers with. -/
def MadeS (F : Form α) (w : World) (l : List α) (e : Ending) (w' : World) : Prop := ∃ v, e = .returned v ∧ GrowS F w l v w'
/-- .. and a number. -/
def MadeF (F : Form α) (w : World) (x : List α × Nat) (e : Ending) (w' : World) : Prop := ∃ v, e = .returned (.tuple #[v, .int .i64 (x.2 : Int)]) ∧ GrowS F w x.1 v w'
end
end Go.Proofs.YtdonblfidohncaaGreatDoor.scan
/-
  FINDS AS THEY LIE IN MEMORY: scan.Found, the reference's Found, api.Record; a slice of bytes from a place on.
-/




namespace Go.Proofs.YtdonblfidohncaaGreatDoor.scan
open Go.RowKit Go.Proofs.YtdonblfidohncaaGreatDoor.disk Go.Proofs.YtdonblfidohncaaGreatDoor.recd

def Fd.cells (x : Fd) : List Value := .int .i64 (x.at_ : Int) :: x.r.cells
def zrec : Value := .agg #[.int .i64 0, .int .u32 0, .int .u64 0, .int .u64 0, .int .u64 0, .string ⟨#[]⟩]
def zfd : Value := .agg #[.int .i64 0, .int .i64 0, .int .u32 0, .int .u64 0, .int .u64 0, .int .u64 0, .string ⟨#[]⟩]
theorem rec_one (r : Rec) : ∀ u ∈ r.cells, u.oneCell' = true := by
  intro u hu
  simp only [Rec.cells, List.mem_cons, List.not_mem_nil, or_false] at hu
  rcases hu with rfl | rfl | rfl | rfl | rfl | rfl <;> rfl
theorem fd_one (x : Fd) : ∀ u ∈ x.cells, u.oneCell' = true := by
  intro u hu
  rcases List.mem_cons.1 hu with rfl | hu
  · rfl
  · exact rec_one _ u hu
/-- A row of scan.Found, of the reference's Found, of records. -/
def fS : Form Fd := { e := 104, s := 49, sz := 7, by_ := 64, cells := Fd.cells, zero := zfd, under := Tryz.underlying49, info := by kernel_rfl, zeros := rfl, some_ := by decide, small := by decide, length := fun _ => rfl, one := fd_one }
def fR : Form Fd := { e := 42, s := 32, sz := 7, by_ := 64, cells := Fd.cells, zero := zfd, under := Tryz.underlying32, info := by kernel_rfl, zeros := rfl, some_ := by decide, small := by decide, length := fun _ => rfl, one := fd_one }

/-- A slice of bytes from place p on. -/
theorem run_tail (a : Option Addr) (n cap p : Nat) (hp : p ≤ n) (_ : n ≤ cap) (w : World) : (Instr.slice 57 (.slice a n cap) (some (.int .i64 (p : Int))) none none).run Tryz.prog w = .ok (.slice (cutAt a cap p) (n - p) (cap - p)) w := by
  rw [run_slice_l w 57 _ n cap (by rw [byte_elem]; exact Tryz.underlying57) .i64 (p : Int) (by omega) (by omega), byte_elem, byte_sizeOf]
  simp [Result.andThen, sliced, cutAt]
theorem leads_tail {w : World} {a : Option Addr} {l : List Int} {cap : Nat} (h : Leads w a l) (p : Nat) (hp : p ≤ l.length) (hc : l.length ≤ cap) : Leads w (cutAt a cap p) (l.drop p) := by
  have := leads_cut h p l.length hp (Nat.le_refl _) hc
  rwa [List.take_of_length_le (by rw [List.length_drop]; omega)] at this
end Go.Proofs.YtdonblfidohncaaGreatDoor.scan
/-
  PLAIN MATHEMATICS OF A SCAN: what is found is whole records, at rising places, none over another one. No program stands in it.
-/


namespace Go.Proofs.YtdonblfidohncaaGreatDoor.scan
open Go.Proofs.YtdonblfidohncaaGreatDoor.recd Go.Proofs.YtdonblfidohncaaGreatDoor.disk Go.Proofs.YtdonblfidohncaaGreatDoor.num

theorem dec_full {l : List Int} (hb : Byte l) (h : (dec l).2.2 = 0) : mayB (dec l).1 = true ∧ encL (dec l).1 = l.take (dec l).2.1 ∧ (dec l).1.tenant < 4294967296 := by
  unfold dec at h ⊢
  split at h
  · cases h
  · rename_i h1
    rw [if_neg h1]
    split at h
    · cases h
    · rename_i h2
      rw [if_neg h2]
      split at h
      · cases h
      · rename_i h3
        rw [if_neg h3]
        split at h
        · cases h
        · rename_i h4
          rw [if_neg h4]
          split at h
          · cases h
          · rename_i h5
            rw [if_neg h5]
            have hn : 39 + lenOf l ≤ l.length := by omega
            have h1' : begB l = true := by simpa using h1
            have h3' : numB (headOf l) = true ∧ lenOf l ≤ 1000 := by
              constructor
              · cases hx : numB (headOf l)
                · exact absurd (.inl hx) h3
                · rfl
              · have : ¬ 1000 < lenOf l := fun e => h3 (.inr e)
                omega
            refine ⟨full_may h3'.1 h3'.2 hn, (full_enc hb h1' hn).2 (by simpa using h5), ?_⟩
            show val (sub l 3 7) < 4294967296
            exact val_lt 4 (sub l 3 7) (sub_length l 3 7 (by omega)) (sub_byte hb 3 7)

/-- Whole records, at rising places from p on, none over another one. -/
def Chain (b : List Int) : Nat → List Fd → Prop
  | _, [] => True
  | p, x :: l => p ≤ x.at_ ∧ x.at_ + (39 + x.r.body.size) ≤ b.length ∧ mayB x.r = true ∧ x.r.tenant < 4294967296 ∧ encL x.r = (b.drop x.at_).take (39 + x.r.body.size) ∧ Chain b (x.at_ + (39 + x.r.body.size)) l
theorem Chain.down {b : List Int} {p q : Nat} (h : p ≤ q) : ∀ {l : List Fd}, Chain b q l → Chain b p l
  | [], _ => trivial
  | _ :: _, hc => ⟨Nat.le_trans h hc.1, hc.2⟩
theorem allF_chain {b : List Int} (hb : Byte b) : ∀ (k p : Nat), Chain b p (allF b k p)
  | 0, _ => trivial
  | k + 1, p => by
    unfold allF
    split
    · rename_i hp
      split
      · rename_i hd
        have ok := dec_ok hd
        have fu := dec_full (hb.drop p) hd
        rw [List.length_drop] at ok
        have ih := allF_chain hb k (p + (dec (b.drop p)).2.1)
        have e := ok.2.2.1
        obtain ⟨m, hm⟩ : ∃ m, (dec (b.drop p)).2.1 = m := ⟨_, rfl⟩
        rw [hm] at e ih ok fu ⊢
        subst e
        exact ⟨Nat.le_refl _, by show p + (39 + (dec (b.drop p)).1.body.size) ≤ _; omega, fu.1, fu.2.2, fu.2.1, ih⟩
      · exact (allF_chain hb k (p + 1)).down (Nat.le_succ p)
    · trivial
theorem rest_chain {b : List Int} (hb : Byte b) (p : Nat) : Chain b p (rest b p) := allF_chain hb _ p
theorem Chain.at_ {b : List Int} {p q : Nat} {l : List Fd} (h : Chain b p (l.drop q)) (hq : q < l.length) : p ≤ l[q].at_ ∧ l[q].at_ + (39 + l[q].r.body.size) ≤ b.length ∧ mayB l[q].r = true ∧ l[q].r.tenant < 4294967296 ∧ encL l[q].r = (b.drop l[q].at_).take (39 + l[q].r.body.size) ∧ Chain b (l[q].at_ + (39 + l[q].r.body.size)) (l.drop (q + 1)) := by
  rw [List.drop_eq_getElem_cons hq] at h
  exact h
end Go.Proofs.YtdonblfidohncaaGreatDoor.scan
/-
  CONTRACT of scan.All (P7.1). Written by wip/tools/scan.py.
-/

namespace Go.Proofs.YtdonblfidohncaaGreatDoor.scan
open Go.RowKit Go.Proofs.YtdonblfidohncaaGreatDoor.disk Go.Proofs.YtdonblfidohncaaGreatDoor.recd
end Go.Proofs.YtdonblfidohncaaGreatDoor.scan
/-
  CONTRACT of scan.Front (P7.1). Written by wip/tools/scan.py.
-/

namespace Go.Proofs.YtdonblfidohncaaGreatDoor.scan
open Go.RowKit Go.Proofs.YtdonblfidohncaaGreatDoor.disk Go.Proofs.YtdonblfidohncaaGreatDoor.recd
set_option linter.unusedVariables false

set_option maxRecDepth 100000 in
set_option maxHeartbeats 2000000 in
theorem Front_any (a : Option Addr) (n cap : Nat) (l : List Int) (w : World) (hT : crc.Tab w) (hl : Leads w a l) (hb : Byte l) (hn : l.length = n) (hc : n ≤ cap) (hm : n ≤ 1000000000) :
    Calls Tryz.prog 83 #[.slice a n cap] w (MadeF fS w (front l 0)) := by
  have HB := Lib.hid hb
  have HN := Lib.hid hn
  have HL := Lib.hid hl
  have HT := Lib.hid hT
  clear hb hn hl hT
  go_enter Tryz.func83, Tryz.ntmps83
  go_wp2_with fail
  go_loopw [4, 5] (fun v p wr => ∃ (fs : List Fd) (q : Nat), p = .int .i64 (q : Int) ∧ q ≤ n ∧ fs.length ≤ q ∧ (fs ++ (front l q).1 = (front l 0).1 ∧ (front l q).2 = (front l 0).2) ∧ GrowS fS w fs v wr) (fun _ p _ => ((n : Int) - intOf p).toNat)
  case atStart => exact ⟨[], 0, rfl, Nat.zero_le _, Nat.zero_le _, ⟨rfl, rfl⟩, GrowS.start fS w⟩
  case round =>
    obtain ⟨fs, q, rfl, hq, hfq, hr, hg⟩ := hrel
    by_cases hqn : q < n
    · have hqI : (q : Int) < (n : Int) := by omega
      have hsl : ∀ W, (Instr.slice 57 (.slice a n cap) (some (.int .i64 (q : Int))) none none).run Tryz.prog W = .ok (.slice (cutAt a cap q) (n - q) (cap - q)) W := fun W => run_tail a n cap q hq hc W
      have C := Decode_any (cutAt a cap q) (n - q) (cap - q) (l.drop q) wr (HT.out.later hg.below) (leads_tail (HL.out.later hg.below) q (by rw [HN.out]; exact hq) (by rw [HN.out]; exact hc)) (HB.out.drop q) (by rw [List.length_drop, HN.out]) (by omega) (by omega)
      by_cases hz : (dec (l.drop q)).2.2 = 0
      · have hok := dec_ok hz
        have hro := front_ok hz
        rw [List.length_drop, HN.out] at hok
        obtain ⟨⟨⟨k, t, e, o, s, b⟩, m, f⟩, hd⟩ : ∃ x, dec (l.drop q) = x := ⟨_, rfl⟩
        rw [hd] at C hz hok hro
        simp only at hz hok hro
        subst hz
        unfold DecOut decV Rec.val at C
        simp only at C
        have hm1 : 39 ≤ m := hok.1
        have hm2 : q + m ≤ n := by omega
        have HC := Lib.hid C
        have HG := Lib.hid hg
        have HR := Lib.hid hr
        have HRO := Lib.hid hro
        clear C hg hr hd hok hro
        go_wp2_with fail
        refine HC.out.mono ?_
        rintro en w1 ⟨rfl, b1⟩
        have G1 : GrowS fS w fs u4 (w1.alloc (.cells #[.int .i64 k, .int .u32 (t : Int), .int .u64 (e : Int), .int .u64 (o : Int), .int .u64 (s : Int), .string b] 40)) := (HG.out.later b1).later ((Below.refl _ _).alloc (Nat.le_refl _) _)
        obtain ⟨v', w2, r2, g2⟩ := G1.put ⟨q, ⟨k, t, e, o, s, b⟩⟩ (w1.heap.size + 1) 1 (by simp) (by omega)
        have R2 := Lib.hid r2
        have fin : ∃ (fs : List Fd) (q2 : Nat), Value.int .i64 ((q : Int) + (m : Int)) = .int .i64 (q2 : Int) ∧ q2 ≤ n ∧ fs.length ≤ q2 ∧ (fs ++ (front l q2).1 = (front l 0).1 ∧ (front l q2).2 = (front l 0).2) ∧ GrowS fS w fs v' w2 := ⟨_, q + m, by rw [Int.natCast_add], hm2, by rw [List.length_append]; simp; omega, ⟨by rw [← HR.out.1, HRO.out]; simp, by rw [← HR.out.2, HRO.out]⟩, g2⟩
        have FIN := Lib.hid fin
        clear r2 g2 G1 HG b1 HC HR HRO fin
        go_wp2_with ((with_reducible show wpList _ _ _ (⟨some 28, _, _, _, _, _⟩ :: _) _ _); refine wpList_append_of 49 49 (.tmp 23) (.tmp 27) _ _ rfl rfl rfl rfl rfl R2.out ?_)
        refine ⟨FIN.out, ?_⟩
        show ((n : Int) - ((q : Int) + (m : Int))).toNat < ((n : Int) - (q : Int)).toNat
        omega
      · have hro := front_no hz
        have HG := Lib.hid hg
        obtain ⟨⟨⟨k, t, e, o, s, b⟩, m, f⟩, hd⟩ : ∃ x, dec (l.drop q) = x := ⟨_, rfl⟩
        rw [hd] at C hz
        simp only at hz
        unfold DecOut decV Rec.val at C
        simp only at C
        have HC := Lib.hid C
        have hend : fs = (front l 0).1 ∧ q = (front l 0).2 := by
          rw [hro] at hr
          exact ⟨by rw [← hr.1, List.append_nil], hr.2⟩
        have HE := Lib.hid hend
        clear C hg hr hd hro hend
        go_wp2_with fail
        refine HC.out.mono ?_
        rintro en w1 ⟨rfl, b1⟩
        have G1 : GrowS fS w fs u4 (w1.alloc (.cells #[.int .i64 k, .int .u32 (t : Int), .int .u64 (e : Int), .int .u64 (o : Int), .int .u64 (s : Int), .string b] 40)) := (HG.out.later b1).later ((Below.refl _ _).alloc (Nat.le_refl _) _)
        have fin : MadeF fS w (front l 0) (.returned (.tuple #[u4, .int .i64 (q : Int)])) (w1.alloc (.cells #[.int .i64 k, .int .u32 (t : Int), .int .u64 (e : Int), .int .u64 (o : Int), .int .u64 (s : Int), .string b] 40)) := ⟨_, by rw [← HE.out.2], by rw [← HE.out.1]; exact G1⟩
        have FIN := Lib.hid fin
        clear G1 HG b1 HC HE fin
        go_wp2_with fail
        exact bodyPost_ret (v := .tuple #[u4, .int .i64 (q : Int)]) (by simp [results, Tryz.results83]) rfl FIN.out
    · have hz : (dec (l.drop q)).2.2 ≠ 0 := dec_short (by rw [List.length_drop, HN.out]; omega)
      have hend : fs = (front l 0).1 ∧ q = (front l 0).2 := by
        rw [front_no hz] at hr
        exact ⟨by rw [← hr.1, List.append_nil], hr.2⟩
      have fin : MadeF fS w (front l 0) (.returned (.tuple #[u4, .int .i64 (q : Int)])) wr := ⟨_, by rw [← hend.2], by rw [← hend.1]; exact hg⟩
      have FIN := Lib.hid fin
      clear hg hr hz hend fin
      have hqI : ¬ (q : Int) < (n : Int) := by omega
      go_wp2_with fail
      exact bodyPost_ret (v := .tuple #[u4, .int .i64 (q : Int)]) (by simp [results, Tryz.results83]) rfl FIN.out
end Go.Proofs.YtdonblfidohncaaGreatDoor.scan
/-
  CONTRACT of the reference's All (P7.1). Written by wip/tools/scan.py.
-/


namespace Go.Proofs.YtdonblfidohncaaGreatDoor.scan
open Go.RowKit Go.Proofs.YtdonblfidohncaaGreatDoor.disk Go.Proofs.YtdonblfidohncaaGreatDoor.recd
end Go.Proofs.YtdonblfidohncaaGreatDoor.scan
/-
  CONTRACT of the reference's Front (P7.1). Written by wip/tools/scan.py.
-/


namespace Go.Proofs.YtdonblfidohncaaGreatDoor.scan
open Go.RowKit Go.Proofs.YtdonblfidohncaaGreatDoor.disk Go.Proofs.YtdonblfidohncaaGreatDoor.recd
set_option linter.unusedVariables false

set_option maxRecDepth 100000 in
set_option maxHeartbeats 2000000 in
theorem RFront_any (a : Option Addr) (n cap : Nat) (l : List Int) (w : World) (hl : Leads w a l) (hb : Byte l) (hn : l.length = n) (hc : n ≤ cap) (hm : n ≤ 1000000000) :
    Calls Tryz.prog 46 #[.slice a n cap] w (MadeF fR w (front l 0)) := by
  have HB := Lib.hid hb
  have HN := Lib.hid hn
  have HL := Lib.hid hl
  clear hb hn hl
  go_enter Tryz.func46, Tryz.ntmps46
  go_wp2_with fail
  go_loopw [4, 5] (fun v p wr => ∃ (fs : List Fd) (q : Nat), p = .int .i64 (q : Int) ∧ q ≤ n ∧ fs.length ≤ q ∧ (fs ++ (front l q).1 = (front l 0).1 ∧ (front l q).2 = (front l 0).2) ∧ GrowS fR w fs v wr) (fun _ p _ => ((n : Int) - intOf p).toNat)
  case atStart => exact ⟨[], 0, rfl, Nat.zero_le _, Nat.zero_le _, ⟨rfl, rfl⟩, GrowS.start fR w⟩
  case round =>
    obtain ⟨fs, q, rfl, hq, hfq, hr, hg⟩ := hrel
    have hsl : ∀ W, (Instr.slice 57 (.slice a n cap) (some (.int .i64 (q : Int))) none none).run Tryz.prog W = .ok (.slice (cutAt a cap q) (n - q) (cap - q)) W := fun W => run_tail a n cap q hq hc W
    have C := RDecode_any (cutAt a cap q) (n - q) (cap - q) (l.drop q) wr (leads_tail (HL.out.later hg.below) q (by rw [HN.out]; exact hq) (by rw [HN.out]; exact hc)) (HB.out.drop q) (by rw [List.length_drop, HN.out]) (by omega) (by omega)
    by_cases hz : (dec (l.drop q)).2.2 = 0
    · have hok := dec_ok hz
      have hro := front_ok hz
      rw [List.length_drop, HN.out] at hok
      obtain ⟨⟨⟨k, t, e, o, s, b⟩, m, f⟩, hd⟩ : ∃ x, dec (l.drop q) = x := ⟨_, rfl⟩
      rw [hd] at C hz hok hro
      simp only at hz hok hro
      subst hz
      unfold DecOut decV Rec.val at C
      simp only at C
      have hm1 : 39 ≤ m := hok.1
      have hm2 : q + m ≤ n := by omega
      have HC := Lib.hid C
      have HG := Lib.hid hg
      have HR := Lib.hid hr
      have HRO := Lib.hid hro
      clear C hg hr hd hok hro
      go_wp2_with fail
      refine HC.out.mono ?_
      rintro en w1 ⟨rfl, b1⟩
      have G1 : GrowS fR w fs u4 (w1.alloc (.cells #[.int .i64 k, .int .u32 (t : Int), .int .u64 (e : Int), .int .u64 (o : Int), .int .u64 (s : Int), .string b] 40)) := (HG.out.later b1).later ((Below.refl _ _).alloc (Nat.le_refl _) _)
      obtain ⟨v', w2, r2, g2⟩ := G1.put ⟨q, ⟨k, t, e, o, s, b⟩⟩ (w1.heap.size + 1) 1 (by simp) (by omega)
      have R2 := Lib.hid r2
      have fin : ∃ (fs : List Fd) (q2 : Nat), Value.int .i64 ((q : Int) + (m : Int)) = .int .i64 (q2 : Int) ∧ q2 ≤ n ∧ fs.length ≤ q2 ∧ (fs ++ (front l q2).1 = (front l 0).1 ∧ (front l q2).2 = (front l 0).2) ∧ GrowS fR w fs v' w2 := ⟨_, q + m, by rw [Int.natCast_add], hm2, by rw [List.length_append]; simp; omega, ⟨by rw [← HR.out.1, HRO.out]; simp, by rw [← HR.out.2, HRO.out]⟩, g2⟩
      have FIN := Lib.hid fin
      clear r2 g2 G1 HG b1 HC HR HRO fin
      go_wp2_with ((with_reducible show wpList _ _ _ (⟨some 26, _, _, _, _, _⟩ :: _) _ _); refine wpList_append_of 32 32 (.tmp 21) (.tmp 25) _ _ rfl rfl rfl rfl rfl R2.out ?_)
      refine ⟨FIN.out, ?_⟩
      show ((n : Int) - ((q : Int) + (m : Int))).toNat < ((n : Int) - (q : Int)).toNat
      omega
    · have hro := front_no hz
      have HG := Lib.hid hg
      obtain ⟨⟨⟨k, t, e, o, s, b⟩, m, f⟩, hd⟩ : ∃ x, dec (l.drop q) = x := ⟨_, rfl⟩
      rw [hd] at C hz
      simp only at hz
      unfold DecOut decV Rec.val at C
      simp only at C
      have HC := Lib.hid C
      have hend : fs = (front l 0).1 ∧ q = (front l 0).2 := by
        rw [hro] at hr
        exact ⟨by rw [← hr.1, List.append_nil], hr.2⟩
      have HE := Lib.hid hend
      clear C hg hr hd hro hend
      go_wp2_with fail
      refine HC.out.mono ?_
      rintro en w1 ⟨rfl, b1⟩
      have G1 : GrowS fR w fs u4 (w1.alloc (.cells #[.int .i64 k, .int .u32 (t : Int), .int .u64 (e : Int), .int .u64 (o : Int), .int .u64 (s : Int), .string b] 40)) := (HG.out.later b1).later ((Below.refl _ _).alloc (Nat.le_refl _) _)
      have fin : MadeF fR w (front l 0) (.returned (.tuple #[u4, .int .i64 (q : Int)])) (w1.alloc (.cells #[.int .i64 k, .int .u32 (t : Int), .int .u64 (e : Int), .int .u64 (o : Int), .int .u64 (s : Int), .string b] 40)) := ⟨_, by rw [← HE.out.2], by rw [← HE.out.1]; exact G1⟩
      have FIN := Lib.hid fin
      clear G1 HG b1 HC HE fin
      go_wp2_with fail
      exact bodyPost_ret (v := .tuple #[u4, .int .i64 (q : Int)]) (by simp [results, Tryz.results46]) rfl FIN.out
end Go.Proofs.YtdonblfidohncaaGreatDoor.scan
/-
  CONTRACT of stillroomlaw7.Found: the finds, as the reference has them.
-/

namespace Go.Proofs.YtdonblfidohncaaGreatDoor.scan
open Go.RowKit Go.Proofs.YtdonblfidohncaaGreatDoor.disk Go.Proofs.YtdonblfidohncaaGreatDoor.recd
set_option linter.unusedVariables false

theorem fd_size : (Tryz.prog.info? 104).map (·.size) = some 7 := by kernel_rfl
theorem fdr_size : (Tryz.prog.info? 42).map (·.size) = some 7 := by kernel_rfl

set_option maxRecDepth 100000 in
set_option maxHeartbeats 2000000 in
theorem Found_any (v : Value) (fs : List Fd) (w : World) (hv : OwnS fS w v fs) (hn : fs.length ≤ 1000000000) :
    Calls Tryz.prog 17 #[v] w (MadeS fR w fs) := by
  obtain ⟨n, hfn⟩ : ∃ n, fs.length = n := ⟨_, rfl⟩
  obtain ⟨ao, cap, rfl, hle, hcm⟩ : ∃ ao cap, v = .slice ao n cap ∧ n ≤ cap ∧ cap ≤ 9223372036854775807 := by
    rcases hv.form with ⟨rfl, rfl⟩ | ⟨g, cap, rfl, h1, h2, _⟩
    · exact ⟨none, 0, by rw [← hfn]; rfl, by rw [← hfn]; exact Nat.zero_le _, by omega⟩
    · exact ⟨some ⟨g, 0, none⟩, cap, by rw [← hfn], by omega, h2⟩
  have HV := Lib.hid hv
  have HF := Lib.hid hfn
  rw [hfn] at hn
  clear hv hfn
  go_enter Tryz.func17, Tryz.ntmps17
  go_wp2_with fail
  go_loopw [3, 4] (fun u p wr => ∃ (q : Nat), p = .int .i64 (q : Int) ∧ q ≤ n ∧ GrowS fR w (fs.take q) u wr) (fun _ p _ => ((n : Int) - intOf p).toNat)
  case atStart => exact ⟨0, rfl, Nat.zero_le _, by rw [List.take_zero]; exact GrowS.start fR w⟩
  case round =>
    obtain ⟨q, rfl, hq, hg⟩ := hrel
    by_cases hqn : q < n
    · have hqI : (q : Int) < (n : Int) := by omega
      obtain ⟨g, rfl⟩ : ∃ g, ao = some ⟨g, 0, none⟩ := by
        rcases HV.out.form with ⟨e, rfl⟩ | ⟨g, cap, e, _⟩
        · have := HF.out; simp at this; omega
        · injection e with e1; exact ⟨g, e1⟩
      have hvr := HV.out.later hg.below
      have hql : q < fs.length := by rw [HF.out]; exact hqn
      have hrg := hvr.range q hql
      obtain ⟨⟨fa, ⟨k, t, e, o, s, b⟩⟩, hx⟩ : ∃ x, fs[q] = x := ⟨_, rfl⟩
      rw [hx] at hrg
      have c0 : wr.cell? ⟨g, q * 7, none⟩ = some (.int .i64 (fa : Int)) := hrg 0 _ rfl
      have c1 : wr.cell? ⟨g, q * 7 + 1, none⟩ = some (.int .i64 k) := hrg 1 _ rfl
      have c2 : wr.cell? ⟨g, q * 7 + 2, none⟩ = some (.int .u32 (t : Int)) := hrg 2 _ rfl
      have c3 : wr.cell? ⟨g, q * 7 + 3, none⟩ = some (.int .u64 (e : Int)) := hrg 3 _ rfl
      have c4 : wr.cell? ⟨g, q * 7 + 4, none⟩ = some (.int .u64 (o : Int)) := hrg 4 _ rfl
      have c5 : wr.cell? ⟨g, q * 7 + 5, none⟩ = some (.int .u64 (s : Int)) := hrg 5 _ rfl
      have c6 : wr.cell? ⟨g, q * 7 + 6, none⟩ = some (.string b) := hrg 6 _ rfl
      have hgd : GrowS fR w (fs.take q) u3 wr.drew := hg.later (below_draws (Below.refl _ _) 1)
      obtain ⟨v', w2, r2, g2⟩ := hgd.put ⟨fa, ⟨k, t, e, o, s, b⟩⟩ wr.heap.size 1 rfl (by rw [List.length_take]; omega)
      have e1 : fs.take q ++ [⟨fa, ⟨k, t, e, o, s, b⟩⟩] = fs.take (q + 1) := by rw [List.take_add_one, List.getElem?_eq_getElem hql, hx]; rfl
      rw [e1] at g2
      have fin : ∃ q2 : Nat, Value.int .i64 ((q : Int) + 1) = .int .i64 (q2 : Int) ∧ q2 ≤ n ∧ GrowS fR w (fs.take q2) v' w2 := ⟨q + 1, by rw [Int.natCast_add]; rfl, by omega, g2⟩
      have R2 := Lib.hid r2
      have FIN := Lib.hid fin
      clear r2 g2 hgd hg hvr hrg e1 fin hx hql HV HF
      go_wp2_with fail
      go_region_law (first
        | (refine step_append_of 32 32 (.tmp 11) (.tmp 23) _ _ rfl rfl rfl rfl rfl (by exact R2.out) ?_))
      all_goals
        go_wp2_with fail
        refine ⟨FIN.out, ?_⟩
        show ((n : Int) - ((q : Int) + 1)).toNat < ((n : Int) - (q : Int)).toNat
        omega
    · have e : fs.take q = fs := List.take_of_length_le (by rw [HF.out]; omega)
      rw [e] at hg
      have HG := Lib.hid hg
      clear hg e
      have hqI : ¬ (q : Int) < (n : Int) := by omega
      go_wp2_with fail
      go_ret
      exact ⟨_, rfl, HG.out⟩
end Go.Proofs.YtdonblfidohncaaGreatDoor.scan
/-
  CONTRACTS of the reference's Eq, EqAll: what is the same is told so.
-/


namespace Go.Proofs.YtdonblfidohncaaGreatDoor.scan
open Go.RowKit Go.Proofs.YtdonblfidohncaaGreatDoor.disk Go.Proofs.YtdonblfidohncaaGreatDoor.recd
set_option linter.unusedVariables false

theorem eq_same (r : Rec) (w : World) (hf : r.body.size ≤ maxLen) : Calls Tryz.prog 38 #[r.val, r.val] w fun e w' => e = .returned (.bool true) ∧ Below w.heap.size w w' := by
  obtain ⟨k, t, e, o, s, b⟩ := r
  unfold Rec.val
  simp only
  go_enter Tryz.func38, Tryz.ntmps38
  go_wp2
  go_ret
  exact ⟨rfl, ((Below.refl _ _).alloc (Nat.le_refl _) _).alloc (by simp) _⟩

/-- A find's cells in a row. -/
theorem fd_cells {w : World} {g n cap : Nat} {F : Form Fd} (hF : F.sz = 7) (hc : F.cells = Fd.cells) {fs : List Fd} (h : OwnS F w (.slice (some ⟨g, 0, none⟩) n cap) fs) (q : Nat) (hq : q < fs.length) (fa : Nat) (k : Int) (t e o s : Nat) (b : ByteArray) (hx : fs[q] = ⟨fa, ⟨k, t, e, o, s, b⟩⟩) :
    w.cell? ⟨g, q * 7, none⟩ = some (.int .i64 (fa : Int)) ∧ w.cell? ⟨g, q * 7 + 1, none⟩ = some (.int .i64 k) ∧ w.cell? ⟨g, q * 7 + 2, none⟩ = some (.int .u32 (t : Int)) ∧ w.cell? ⟨g, q * 7 + 3, none⟩ = some (.int .u64 (e : Int)) ∧ w.cell? ⟨g, q * 7 + 4, none⟩ = some (.int .u64 (o : Int)) ∧ w.cell? ⟨g, q * 7 + 5, none⟩ = some (.int .u64 (s : Int)) ∧ w.cell? ⟨g, q * 7 + 6, none⟩ = some (.string b) := by
  have hrg := h.range q hq
  rw [hx, hF, hc] at hrg
  exact ⟨hrg 0 _ rfl, hrg 1 _ rfl, hrg 2 _ rfl, hrg 3 _ rfl, hrg 4 _ rfl, hrg 5 _ rfl, hrg 6 _ rfl⟩

set_option maxRecDepth 100000 in
set_option maxHeartbeats 2000000 in
theorem EqAll_any (v u : Value) (fs : List Fd) (w : World) (hv : OwnS fR w v fs) (hu : OwnS fR w u fs) (hb : ∀ x ∈ fs, x.r.body.size ≤ 1000) :
    Calls Tryz.prog 19 #[v, u] w fun e w' => e = .returned (.bool true) ∧ Below w.heap.size w w' := by
  obtain ⟨n, hfn⟩ : ∃ n, fs.length = n := ⟨_, rfl⟩
  have key : ∀ v, OwnS fR w v fs → ∃ ao cap, v = .slice ao n cap ∧ n ≤ cap ∧ cap ≤ 9223372036854775807 := by
    intro v hv
    rcases hv.form with ⟨rfl, rfl⟩ | ⟨g, cap, rfl, h1, h2, _⟩
    · exact ⟨none, 0, by rw [← hfn]; rfl, by rw [← hfn]; exact Nat.zero_le _, by omega⟩
    · exact ⟨some ⟨g, 0, none⟩, cap, by rw [← hfn], by omega, h2⟩
  obtain ⟨ao, cap, rfl, hle, hcm⟩ := key v hv
  obtain ⟨bo, dap, rfl, hle2, hcm2⟩ := key u hu
  have hn : n ≤ 9223372036854775807 := by omega
  have HV := Lib.hid hv
  have HU := Lib.hid hu
  have HF := Lib.hid hfn
  have HB := Lib.hid hb
  clear hv hu hfn hb key
  go_enter Tryz.func19, Tryz.ntmps19
  go_wp2_with fail
  go_loopw [5] (fun p wr => ∃ (q : Nat), p = .int .i64 (q : Int) ∧ q ≤ n ∧ Below w.heap.size w wr) (fun p _ => ((n : Int) - intOf p).toNat)
  case atStart => exact ⟨0, rfl, Nat.zero_le _, Below.refl _ _⟩
  case round =>
    obtain ⟨q, rfl, hq, hg⟩ := hrel
    by_cases hqn : q < n
    · have hqI : (q : Int) < (n : Int) := by omega
      have hql : q < fs.length := by rw [HF.out]; exact hqn
      have nz : ∀ (v : Option Addr) (c : Nat), OwnS fR w (.slice v n c) fs → ∃ g, v = some ⟨g, 0, none⟩ := by
        intro v c h
        rcases h.form with ⟨e, rfl⟩ | ⟨g, cap, e, _⟩
        · simp at hql
        · injection e with e1; exact ⟨g, e1⟩
      obtain ⟨g, rfl⟩ := nz _ _ HV.out
      obtain ⟨d, rfl⟩ := nz _ _ HU.out
      obtain ⟨⟨fa, ⟨k, t, e, o, s, b⟩⟩, hx⟩ : ∃ x, fs[q] = x := ⟨_, rfl⟩
      obtain ⟨c0, c1, c2, c3, c4, c5, c6⟩ := fd_cells rfl rfl (HV.out.later hg) q hql fa k t e o s b hx
      obtain ⟨d0, d1, d2, d3, d4, d5, d6⟩ := fd_cells rfl rfl (HU.out.later hg) q hql fa k t e o s b hx
      have hbs : b.size ≤ 1000 := by have := HB.out _ (List.getElem_mem hql); rw [hx] at this; exact this
      have cq := (fun W => eq_same ⟨k, t, e, o, s, b⟩ W (by show b.size ≤ _; unfold maxLen; omega))
      unfold Rec.val at cq
      simp only at cq
      have CQ := Lib.hid cq
      have HG := Lib.hid hg
      clear cq hg nz hx hql HV HU HF HB
      go_wp2_with fail
      go_still_tail 22, (by kernel_rfl)
      have hgd := below_draws HG.out 1
      change wpList _ _ _ _ _ (wr.drewN 1)
      obtain ⟨w2, hw2⟩ : ∃ w2, wr.drewN 1 = w2 := ⟨_, rfl⟩
      rw [hw2] at hgd ⊢
      have HG2 := Lib.hid hgd
      clear hgd hw2 c0 c1 c2 c3 c4 c5 c6 d0 d1 d2 d3 d4 d5 d6 HG
      go_wp2_with fail
      refine (CQ.out _).mono ?_
      rintro en w3 ⟨rfl, b3⟩
      have B3 := Lib.hid (HG2.out.trans (b3.mono HG2.out.size))
      clear b3 HG2 CQ
      go_wp2_with fail
      refine ⟨⟨q + 1, by rw [Int.natCast_add]; rfl, by omega, B3.out⟩, ?_⟩
      show ((n : Int) - ((q : Int) + 1)).toNat < ((n : Int) - (q : Int)).toNat
      omega
    · have HG := Lib.hid hg
      clear hg
      have hqI : ¬ (q : Int) < (n : Int) := by omega
      go_wp2_with fail
      go_ret
      exact ⟨rfl, HG.out⟩
end Go.Proofs.YtdonblfidohncaaGreatDoor.scan
/-
  THE WALK OF 'stillroomlaw7.begun': one record among others.
-/




namespace Go.Proofs.YtdonblfidohncaaGreatDoor.scan
open Go.RowKit Go.Proofs.YtdonblfidohncaaGreatDoor.disk Go.Proofs.YtdonblfidohncaaGreatDoor.recd Go.Proofs.YtdonblfidohncaaGreatDoor.num
set_option linter.unusedVariables false

/-- Bytes appended to a slice that is full: a new row of the call's own. -/
theorem append_full {w : World} (b : Addr) (xs : List Int) (n : Nat) (hn : xs.length = n) (hb : Leads w (some b) xs) (a : Addr) (ys : List Int) (m cap : Nat) (hm : ys.length = m) (ha : Leads w (some a) ys) (h0 : 0 < m) (hs : n + m ≤ 1000000) :
    ∃ c w', (Builtin.append_ #[57, 57] 57 #[.slice (some b) n n, .slice (some a) m cap]).run Tryz.prog w = .ok (.slice (some ⟨w.heap.size, 0, none⟩) (n + m) c) w' ∧ Own w' (.slice (some ⟨w.heap.size, 0, none⟩) (n + m) c) (xs ++ ys) ∧ Below w.heap.size w w' ∧ n + m ≤ c := by
  subst hn
  subst hm
  obtain ⟨i0, hi, hz0, hz1, hz2⟩ := info_parts byte_info
  have cells : ∀ (p : Addr) (l : List Int), Leads w (some p) l → ∀ j u, (u8s l)[j]? = some u → w.cell? (p.add j) = some u := by
    intro p l hl j u hu
    rcases hl with rfl | ⟨g, off, he', hc⟩
    · simp [u8s] at hu
    · have hj : j < l.length := by
        have := (List.getElem?_eq_some_iff.1 hu).1
        rwa [u8s_length] at this
      rw [u8s_at l hj] at hu
      obtain rfl : p = ⟨g, off, none⟩ := Option.some.inj he'
      rw [← hu, ← hc j hj, Addr.add_mid]
  have hge := grownCap_ge w (xs.length + ys.length) xs.length 5
  have hcm : grownCap w (xs.length + ys.length) xs.length 5 ≤ maxLen := grownCap_le_maxLen w (xs.length + ys.length) xs.length 5 (by unfold maxLen; omega)
  have hr := run_append_grow (P := Tryz.prog) w 57 57 5 i0 (.int .u8 0) Tryz.underlying57 hi hz0 b xs.length xs.length (u8s xs) (by rw [u8s_length, hz1, Nat.mul_one]) (cells b xs hb) a ys.length cap (u8s ys) (by rw [u8s_length, hz1, Nat.mul_one]) (cells a ys ha) (by omega) (by omega) (growslice_fits (by omega) (by rw [hz2]; omega))
  have hzc : (Value.int .u8 0).cells = #[Value.int .u8 0] := rfl
  rw [hzc] at hr
  refine ⟨_, _, hr, ?_, ((below_draws (Below.refl _ _) 1).alloc (Nat.le_refl _) _), hge⟩
  unfold Own
  rw [List.length_append]
  refine ⟨by rw [u8s_length, List.length_append, Nat.mul_one], .inr ⟨w.heap.size, _, _, rfl, Nat.zero_le _, heap_alloc_new w.drew _, hge, hcm, ?_, ?_⟩⟩
  · simp only [Array.size_append, List.size_toArray, size_zeroCells, u8s_length, List.length_cons, List.length_nil]
    omega
  · simp only [Array.toList_append, Nat.mul_one]
    have hl : (u8s (xs ++ ys)).length = xs.length + ys.length := by rw [u8s_length, List.length_append]
    rw [show (u8s xs).toArray.toList ++ (u8s ys).toArray.toList = u8s (xs ++ ys) by simp [u8s], ← hl]
    exact List.take_left
theorem leads_new (w : World) (l : List Int) (fr : Nat × Nat) : Leads (w.alloc (.cells (u8s l).toArray 5 fr)) (some ⟨w.heap.size, 0, none⟩) l := by
  refine .inr ⟨_, 0, rfl, fun i hi => ?_⟩
  have h : (w.alloc (.cells (u8s l).toArray 5 fr)).heap[w.heap.size]? = some (.cells (u8s l).toArray 5 fr) := heap_alloc_new w _
  rw [cell_of_row _ w.heap.size (0 + i) (u8s l).toArray 5 fr h, List.getElem?_toArray, Nat.zero_add]
  exact u8s_at l hi

def junk : List Int := [106, 117, 110, 107, 83]
def begR : Rec := ⟨2, 0, 0, 0, 0, ⟨#[120]⟩⟩
theorem begR_may : mayB begR = true := by decide
theorem beg_rest : rest (junk ++ encL begR) 0 = [⟨5, begR⟩] := by decide +kernel
theorem beg_front : front (junk ++ encL begR) 0 = ([], 0) := by decide +kernel
theorem junk_byte : Byte junk := by unfold Byte junk; decide

end Go.Proofs.YtdonblfidohncaaGreatDoor.scan
/-
  SLICES OF RECORDS AND OF SLICES OF BYTES as a row reads them; CONTRACT of stillroomlaw6.Good: records that may be.
-/




namespace Go.Proofs.YtdonblfidohncaaGreatDoor.scan
open Go.RowKit Go.Proofs.YtdonblfidohncaaGreatDoor.disk Go.Proofs.YtdonblfidohncaaGreatDoor.recd Go.Proofs.YtdonblfidohncaaGreatDoor.num
set_option linter.unusedVariables false

def fRec : Form Rec := { e := 40, s := 33, sz := 6, by_ := 56, cells := Rec.cells, zero := zrec, under := Tryz.underlying33, info := by kernel_rfl, zeros := rfl, some_ := by decide, small := by decide, length := fun _ => rfl, one := rec_one }

instance : Inhabited Rec := ⟨zeroRec⟩
/-- A slice of records that came in. -/
structure RecRow (w : World) (a : Option Addr) (len cap : Nat) (rs : Nat → Rec) : Prop where
  most : len ≤ 9223372036854775807
  cells : len = 0 ∨ ∃ b off, a = some ⟨b, off, none⟩ ∧ ∀ i, i < len → ∀ j v, ((rs i).cells)[j]? = some v → w.cell? ⟨b, off + i * 6 + j, none⟩ = some v
  fit : ∀ i, i < len → (rs i).Fit
theorem RecRow.later {w w' : World} {a : Option Addr} {len cap : Nat} {rs : Nat → Rec} (h : RecRow w a len cap rs) (hb : Below w.heap.size w w') : RecRow w' a len cap rs := by
  refine ⟨h.most, ?_, h.fit⟩
  rcases h.cells with h0 | ⟨b, off, e, hc⟩
  · exact .inl h0
  · refine .inr ⟨b, off, e, fun i hi j v hv => ?_⟩
    have := hc i hi j v hv
    exact (hb.cell (p := ⟨b, off + i * 6 + j, none⟩) (block_lt_of_cell this)).trans this

/-- What Good keeps: records that may be, none long. -/
def GoodR (r : Rec) : Prop := mayB r = true ∧ r.tenant < 4294967296 ∧ r.body.size ≤ 200
def GoodOut (w : World) (n : Nat) (e : Ending) (w' : World) : Prop := ∃ gs, MadeS fRec w gs e w' ∧ gs.length ≤ n ∧ ∀ r ∈ gs, GoodR r

theorem whole6 {W : World} {p : Nat} {v0 v1 v2 v3 v4 v5 : Value} (h : Whole W p 40 [v0, v1, v2, v3, v4, v5]) :
    W.cell? ⟨p, 0, none⟩ = some v0 ∧ W.cell? ⟨p, 1, none⟩ = some v1 ∧ W.cell? ⟨p, 2, none⟩ = some v2 ∧ W.cell? ⟨p, 3, none⟩ = some v3 ∧ W.cell? ⟨p, 4, none⟩ = some v4 ∧ W.cell? ⟨p, 5, none⟩ = some v5 :=
  ⟨h.at_ 0, h.at_ 1, h.at_ 2, h.at_ 3, h.at_ 4, h.at_ 5⟩

set_option maxRecDepth 100000 in
set_option maxHeartbeats 2000000 in
theorem Good_any (a : Option Addr) (len cap : Nat) (rs : Nat → Rec) (w : World) (hr : RecRow w a len cap rs) (n : Nat) (hn : n ≤ 100) :
    Calls Tryz.prog 33 #[.slice a len cap, .int .i64 (n : Int)] w (GoodOut w n) := by
  have HR := Lib.hid hr
  have hlm := hr.most
  clear hr
  go_enter Tryz.func33, Tryz.ntmps33
  go_wp2_with fail
  go_loopw [5, 6, 7] (fun v i _ wr => ∃ (gs : List Rec) (q : Nat), i = .int .i64 (q : Int) ∧ q ≤ len ∧ gs.length ≤ n ∧ (∀ r ∈ gs, GoodR r) ∧ GrowS fRec w gs v wr) (fun _ i _ _ => ((len : Int) - intOf i).toNat)
  case atStart => exact ⟨[], 0, rfl, Nat.zero_le _, Nat.zero_le _, (fun r hr => by cases hr), GrowS.start fRec w⟩
  case round =>
    obtain ⟨gs, q, rfl, hq, hgn, hgood, hg⟩ := hrel
    obtain ⟨av, cv, rfl⟩ : ∃ a c, u5 = .slice a gs.length c := by
      rcases hg.own.form with ⟨e, e2⟩ | ⟨g, cap, e, _⟩
      · subst e2; exact ⟨_, _, e⟩
      · exact ⟨_, _, e⟩
    obtain ⟨m, hm⟩ : ∃ m, gs.length = m := ⟨_, rfl⟩
    rw [hm] at hgn hg
    by_cases hql : q < len
    · have hqI : (q : Int) < (len : Int) := by omega
      by_cases hmn : m < n
      · have hmI : (m : Int) < (n : Int) := by omega
        obtain ⟨b, off, rfl, hcells⟩ : ∃ b off, a = some ⟨b, off, none⟩ ∧ ∀ i, i < len → ∀ j v, ((rs i).cells)[j]? = some v → wr.cell? ⟨b, off + i * 6 + j, none⟩ = some v := by
          rcases (HR.out.later hg.below).cells with h | h
          · omega
          · exact h
        have hfit := HR.out.fit q hql
        have hc := hcells q hql
        have CC := fun W => cutRec_any (rs q) 200 (by decide) hfit W
        have hcf : (cutR (rs q) 200).Fit := ⟨hfit.kind, hfit.tenant, by have := cutS_size (rs q).body 200; show (cutS (rs q).body 200).size ≤ maxLen; unfold maxLen; omega⟩
        have hgr : mayB (cutR (rs q) 200) = true → GoodR (cutR (rs q) 200) := fun h => ⟨h, hfit.tenant, by have := cutS_size (rs q).body 200; show (cutS (rs q).body 200).size ≤ 200; omega⟩
        obtain ⟨x, hx⟩ : ∃ x, rs q = x := ⟨_, rfl⟩
        obtain ⟨y, hy⟩ : ∃ y, cutR (rs q) 200 = y := ⟨_, rfl⟩
        rw [hy] at CC hcf hgr
        rw [hx] at hc CC
        clear hx hy hcells hfit
        have CM := fun W => rMay_any y W hcf
        obtain ⟨k, t, e, o, s, bd⟩ := x
        have c0 : wr.cell? ⟨b, off + q * 6, none⟩ = some (.int .i64 k) := hc 0 _ rfl
        have c1 : wr.cell? ⟨b, off + q * 6 + 1, none⟩ = some (.int .u32 (t : Int)) := hc 1 _ rfl
        have c2 : wr.cell? ⟨b, off + q * 6 + 2, none⟩ = some (.int .u64 (e : Int)) := hc 2 _ rfl
        have c3 : wr.cell? ⟨b, off + q * 6 + 3, none⟩ = some (.int .u64 (o : Int)) := hc 3 _ rfl
        have c4 : wr.cell? ⟨b, off + q * 6 + 4, none⟩ = some (.int .u64 (s : Int)) := hc 4 _ rfl
        have c5 : wr.cell? ⟨b, off + q * 6 + 5, none⟩ = some (.string bd) := hc 5 _ rfl
        obtain ⟨k2, t2, e2, o2, s2, b2⟩ := y
        unfold Rec.val at CC CM
        simp only at CC CM
        have HCC := Lib.hid CC
        have HCM := Lib.hid CM
        have HG := Lib.hid hg
        have HGR := Lib.hid hgr
        have HGD := Lib.hid hgood
        have HM := Lib.hid hm
        rw [hm]
        clear CC CM hg hgr hgood hc hcf hm
        go_wp2_with fail
        refine (HCC.out _).mono ?_
        rintro en w1 ⟨rfl, b1⟩
        clear c0 c1 c2 c3 c4 c5
        obtain ⟨p, hp⟩ : ∃ p, w1.heap.size = p := ⟨_, rfl⟩
        have wh : Whole (w1.alloc (.cells #[.int .i64 k2, .int .u32 (t2 : Int), .int .u64 (e2 : Int), .int .u64 (o2 : Int), .int .u64 (s2 : Int), .string b2] 40)) p 40 [.int .i64 k2, .int .u32 (t2 : Int), .int .u64 (e2 : Int), .int .u64 (o2 : Int), .int .u64 (s2 : Int), .string b2] := Whole.new_ hp.symm rfl
        have G1 := (HG.out.later b1).later (w1 := w1.alloc (.cells #[.int .i64 k2, .int .u32 (t2 : Int), .int .u64 (e2 : Int), .int .u64 (o2 : Int), .int .u64 (s2 : Int), .string b2] 40)) ((Below.refl _ _).alloc (Nat.le_refl _) _)
        have WH := Lib.hid wh
        have HP := Lib.hid hp
        have HG1 := Lib.hid G1
        clear b1 wh HG HCC G1
        go_wp2_with fail
        refine (HCM.out _).mono ?_
        rintro en w2 ⟨rfl, b2'⟩
        obtain ⟨z0, z1, z2, z3, z4, z5⟩ := whole6 (WH.out.kept b2')
        have G2 := HG1.out.later b2'
        obtain ⟨mb, hmb⟩ : ∃ mb, mayB ⟨k2, t2, e2, o2, s2, b2⟩ = mb := ⟨_, rfl⟩
        rw [hmb] at HGR ⊢
        cases mb with
        | true =>
          obtain ⟨v', w3, r3, g3⟩ := G2.put ⟨k2, t2, e2, o2, s2, b2⟩ w2.heap.size 1 rfl (by rw [HM.out]; omega)
          have fin : ∃ (gs : List Rec) (q2 : Nat), Value.int .i64 ((q : Int) + 1) = .int .i64 (q2 : Int) ∧ q2 ≤ len ∧ gs.length ≤ n ∧ (∀ r ∈ gs, GoodR r) ∧ GrowS fRec w gs v' w3 := by
            refine ⟨_, q + 1, by rw [Int.natCast_add]; rfl, by omega, by rw [List.length_append, HM.out]; simp; omega, ?_, g3⟩
            intro r hr
            rcases List.mem_append.1 hr with hr | hr
            · exact HGD.out r hr
            · rw [List.mem_singleton.1 hr]; exact HGR.out rfl
          have R3 := Lib.hid r3
          have FIN := Lib.hid fin
          clear r3 g3 fin G2 HG1 WH b2' HGD HGR HCM hmb
          go_wp2_with ((with_reducible show wpList _ _ _ (⟨some 30, _, _, _, _, _⟩ :: _) _ _); refine wpList_append_of 33 33 (.tmp 27) (.tmp 29) _ _ rfl rfl rfl rfl rfl R3.out ?_)
          refine ⟨FIN.out, ?_⟩
          show ((len : Int) - ((q : Int) + 1)).toNat < ((len : Int) - (q : Int)).toNat
          omega
        | false =>
          have fin : ∃ (gs : List Rec) (q2 : Nat), Value.int .i64 ((q : Int) + 1) = .int .i64 (q2 : Int) ∧ q2 ≤ len ∧ gs.length ≤ n ∧ (∀ r ∈ gs, GoodR r) ∧ GrowS fRec w gs (.slice av m cv) w2 := ⟨gs, q + 1, by rw [Int.natCast_add]; rfl, by omega, by rw [HM.out]; omega, HGD.out, G2⟩
          have FIN := Lib.hid fin
          clear fin G2 HG1 WH b2' HGD HGR HCM hmb z0 z1 z2 z3 z4 z5
          go_wp2_with fail
          refine ⟨FIN.out, ?_⟩
          show ((len : Int) - ((q : Int) + 1)).toNat < ((len : Int) - (q : Int)).toNat
          omega
      · have hmI : ¬ (m : Int) < (n : Int) := by omega
        have fin : GoodOut w n (.returned (.slice av m cv)) wr := ⟨gs, ⟨_, rfl, hg⟩, by omega, hgood⟩
        have FIN := Lib.hid fin
        clear fin hg hgood
        rw [hm]
        clear hm
        go_wp2_with fail
        go_ret
        exact FIN.out
    · have hqI : ¬ (q : Int) < (len : Int) := by omega
      have fin : GoodOut w n (.returned (.slice av m cv)) wr := ⟨gs, ⟨_, rfl, hg⟩, by omega, hgood⟩
      have FIN := Lib.hid fin
      clear fin hg hgood
      rw [hm]
      clear hm
      go_wp2_with fail
      go_ret
      exact FIN.out
end Go.Proofs.YtdonblfidohncaaGreatDoor.scan
