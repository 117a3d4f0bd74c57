/-
  CELLS OF ROWS OF TENANTS AND OF SEGMENTS of the call's own: made, stored; what parse has read so far.
-/
import Derived.Test.YtpgclhpobijdeaaDoorMnNext
import Derived.Laws.OwnMore
namespace Go.Proofs.YtpgclhpobijdeaaDoor.man
open Go.RowKit Go.Proofs.YtpgclhpobijdeaaDoor.disk Go.Proofs.YtpgclhpobijdeaaDoor.recd Go.Proofs.YtpgclhpobijdeaaDoor.num Go.Proofs.YtpgclhpobijdeaaDoor.scan
set_option linter.unusedVariables false

/-- Tenants' cells in block g. -/
def OwnR (w : World) (g n : Nat) (xs : List Value) : Prop := w.ownsRow 0 34 6 (.slice (some ⟨g, 0, none⟩) n n) n xs
section
variable {w w' : World} {g n : Nat} {xs : List Value}
theorem OwnR.put (h : OwnR w g n xs) (j : Nat) (u : Value) : OwnR (w.setCell ⟨g, j, none⟩ u) g n (xs.set j u) := (World.ownsRow.stored h j u).1
theorem OwnR.cell (h : OwnR w g n xs) (j : Nat) (hj : j < n * 6) : w.cell? ⟨g, j, none⟩ = xs[j]? := World.ownsRow.cellAt h j hj
theorem OwnR.free (h : OwnR w g n xs) (j : Nat) : w.frozen? ⟨g, j, none⟩ = false := World.ownsRow.frozenAt h j
theorem OwnR.same (h : OwnR w g n xs) (e : w'.heap[g]? = w.heap[g]?) : OwnR w' g n xs := row_same h fun g' hg => by
  injection hg with hg
  have hg : g = g' := hg
  subst hg
  exact e
theorem OwnR.some_ (h : OwnR w g n xs) (j : Nat) (hj : j < n * 6) : ∃ v, w.cell? ⟨g, j, none⟩ = some v := by
  rw [h.cell j hj, List.getElem?_eq_getElem (by rw [h.1]; exact hj)]
  exact ⟨_, rfl⟩
theorem OwnR.lt (h : OwnR w g n xs) : g < w.heap.size := (World.ownsRow.lt h g rfl).2
end
theorem OwnR.of {w : World} {g : Nat} {l : List TS} (h : OwnS fTen w (.slice (some ⟨g, 0, none⟩) l.length l.length) l) : OwnR w g l.length (flat fTen l) := h
theorem OwnR.to {w : World} {g n : Nat} {l : List TS} (h : OwnR w g n (flat fTen l)) (hn : l.length = n) : OwnS fTen w (.slice (some ⟨g, 0, none⟩) n n) l := by subst hn; exact h
/-- One tenant's six cells laid. -/
theorem flat_lay (done zs : List TS) (y x : TS) (i : Nat) (hi : done.length = i) :
    ((((((flat fTen (done ++ y :: zs)).set (i * 6) (.int .u32 (x.t.id : Int))).set (i * 6 + 1) (.int .u64 (x.t.epoch : Int))).set (i * 6 + 2) (.int .i64 x.t.quota)).set (i * 6 + 3) (.int .u64 (x.t.nobj : Int))).set (i * 6 + 4) (.int .i64 x.t.nseg)).set (i * 6 + 5) (.slice x.a x.n x.cap) = flat fTen (done ++ x :: zs) := by
  have hl : (flat fTen done).length = i * 6 := by rw [flat_length, hi]; rfl
  have e : ∀ z : TS, flat fTen (done ++ z :: zs) = flat fTen done ++ (z.cells ++ flat fTen zs) := fun z => by rw [flat_append]; rfl
  rw [e y, e x]
  have s : ∀ (l : List Value) (j : Nat) (u : Value), (flat fTen done ++ l).set (i * 6 + j) u = flat fTen done ++ l.set j u := fun l j u => by
    rw [List.set_append_right _ _ (by omega), hl, Nat.add_sub_cancel_left]
  have s0 : ∀ (l : List Value) (u : Value), (flat fTen done ++ l).set (i * 6) u = flat fTen done ++ l.set 0 u := fun l u => s l 0 u
  rw [s0, s, s, s, s, s]
  rfl
theorem made_tens (n : Nat) (hn : n ≤ 6) : (madeCells zten.cells (n * 6)).toList = flat fTen (List.replicate n zeroTS) := by
  rcases n with _ | _ | _ | _ | _ | _ | _ | n
  all_goals first | omega | (simp [madeCells, List.range_succ, zten, Value.cells, flat, fTen, TS.cells, zeroTS, zeroTen, List.replicate]; done) | skip
theorem run_make_tens (w : World) (n : Nat) (hn : n ≤ 6) : ∃ w', (Instr.makeSlice 38 (.int .u64 (n : Int)) (.int .u64 (n : Int))).run Tryd.prog w = .ok (.slice (some ⟨w.heap.size, 0, none⟩) n n) w' ∧ OwnR w' w.heap.size n (flat fTen (List.replicate n zeroTS)) ∧ Below w.heap.size w w' := by
  obtain ⟨i0, hi, hz0, hz1, hz2⟩ := info_parts fTen.info
  obtain ⟨w', h1, h2, h3⟩ := run_make_full (P := Tryd.prog) w 0 38 34 i0 zten 6 Tryd.underlying38 hi hz0 hz1 .u64 .u64 n (by rw [hz2]; show 64 * n ≤ _; omega) (by unfold maxLen; omega) (Nat.zero_le _)
  refine ⟨w', h1, ?_, (Below.refl _ _).grown h3 (Nat.le_refl _) (fun k hk => by cases hk)⟩
  rw [made_tens n hn] at h2
  exact h2
theorem seg_flat : ∀ l : List Int, flat fSeg l = l.map (Value.int .i64)
  | [] => rfl
  | x :: l => by
    show [Value.int .i64 x] ++ flat fSeg l = _
    rw [seg_flat l]; rfl
/-- Segments in block h, all of it. -/
def Segs (w : World) (h c : Nat) (l : List Int) : Prop := w.ownsRow 0 2 1 (.slice (some ⟨h, 0, none⟩) c c) c (l.map (Value.int .i64))
section
variable {w w' : World} {h c : Nat} {l : List Int}
theorem Segs.own (s : Segs w h c l) (hc : l.length = c) : OwnS fSeg w (.slice (some ⟨h, 0, none⟩) c c) l := by
  subst hc
  unfold OwnS
  rw [seg_flat]
  exact s
theorem Segs.put (s : Segs w h c l) (j : Nat) (x : Int) : Segs (w.setCell ⟨h, j, none⟩ (.int .i64 x)) h c (l.set j x) := by
  have := (World.ownsRow.stored s j (.int .i64 x)).1
  unfold Segs
  rwa [List.map_set]
theorem Segs.cell (s : Segs w h c l) (j : Nat) (hj : j < c) : w.cell? ⟨h, j, none⟩ = (l.map (Value.int .i64))[j]? := World.ownsRow.cellAt s j (by omega)
theorem Segs.free (s : Segs w h c l) (j : Nat) : w.frozen? ⟨h, j, none⟩ = false := World.ownsRow.frozenAt s j
theorem Segs.same (s : Segs w h c l) (e : w'.heap[h]? = w.heap[h]?) : Segs w' h c l := row_same s fun g' hg => by
  injection hg with hg
  have hg : h = g' := hg
  subst hg
  exact e
theorem Segs.some_ (s : Segs w h c l) (j : Nat) (hj : j < c) : ∃ v, w.cell? ⟨h, j, none⟩ = some v := by
  have e : (l.map (Value.int .i64)).length = c * 1 := s.1
  rw [s.cell j hj, List.getElem?_eq_getElem (by omega)]
  exact ⟨_, rfl⟩
theorem Segs.lt (s : Segs w h c l) : h < w.heap.size := (World.ownsRow.lt s h rfl).2
end
theorem run_make_segs (w : World) (n : Nat) (hn : n ≤ 60) : ∃ w', (Instr.makeSlice 22 (.int .u64 (n : Int)) (.int .u64 (n : Int))).run Tryd.prog w = .ok (.slice (some ⟨w.heap.size, 0, none⟩) n n) w' ∧ Segs w' w.heap.size n (List.replicate n 0) ∧ Below w.heap.size w w' := by
  obtain ⟨i0, hi, hz0, hz1, hz2⟩ := info_parts fSeg.info
  obtain ⟨w', h1, h2, h3⟩ := run_make_full (P := Tryd.prog) w 0 22 2 i0 (.int .i64 0) 1 Tryd.underlying22 hi hz0 hz1 .u64 .u64 n (by rw [hz2]; show 8 * n ≤ _; omega) (by unfold maxLen; omega) (Nat.zero_le _)
  refine ⟨w', h1, ?_, (Below.refl _ _).grown h3 (Nat.le_refl _) (fun k hk => by cases hk)⟩
  unfold Segs
  rw [List.map_replicate]
  rwa [show (Value.int .i64 0).cells = #[Value.int .i64 0] from rfl, Nat.mul_one, toList_madeCells_one] at h2

/-- What is behind so many tenants. -/
def restT : Nat → List Int → List Int
  | 0, b => b
  | n + 1, b => restT n (b.drop (36 + 6 * cnt b))
theorem restT_succ : ∀ (n : Nat) (b : List Int), restT (n + 1) b = (restT n b).drop (36 + 6 * cnt (restT n b))
  | 0, _ => rfl
  | n + 1, b => by rw [restT, restT_succ n]; rfl
theorem tensOf_succ : ∀ (n : Nat) (b : List Int), tensOf (n + 1) b = tensOf n b ++ [tenOf (restT n b)]
  | 0, _ => rfl
  | n + 1, b => by rw [tensOf, tensOf_succ n]; rfl
theorem segsOf_succ : ∀ (n : Nat) (b : List Int), segsOf (n + 1) b = segsOf n b ++ [(rd (b.drop (6 * n)) : Int)]
  | 0, _ => rfl
  | n + 1, b => by rw [segsOf, segsOf_succ n, List.drop_drop]; show _ :: (_ ++ [_]) = (_ :: _) ++ [_]; rw [show 6 + 6 * n = 6 * (n + 1) by omega]; rfl
theorem seg_lay {c j : Nat} (h : j < c) (b : List Int) : (segsOf j b ++ List.replicate (c - j) 0).set j (rd (b.drop (6 * j)) : Int) = segsOf (j + 1) b ++ List.replicate (c - (j + 1)) 0 := by
  rw [List.set_append_right _ _ (by rw [segsOf_length]; exact Nat.le_refl _), segsOf_length, Nat.sub_self, show c - j = (c - (j + 1)) + 1 by omega, List.replicate_succ, List.set_cons_zero, segsOf_succ]
  simp
/-- Tenants that were read: each with a row of segments of its own, behind block g. -/
def Fresh (w : World) (g : Nat) (xs : List TS) : Prop := ∀ x ∈ xs, ∃ h, x.a = some ⟨h, 0, none⟩ ∧ g < h ∧ x.t.segs.length = x.n ∧ x.cap = x.n ∧ Segs w h x.n x.t.segs ∧ x.t.Fit
theorem Fresh.turned {R : Nat → Prop} {w w' : World} {g : Nat} {xs : List TS} (f : Fresh w g xs) (ht : Turn R w w') (hR : ∀ k, g < k → k < w.heap.size → ¬ R k) : Fresh w' g xs := fun x hx => by
  obtain ⟨h, h1, h2, h3, h4, h5, h6⟩ := f x hx
  exact ⟨h, h1, h2, h3, h4, h5.same (ht.block h h5.lt (hR h h2 h5.lt)), h6⟩
theorem Fresh.tens {w : World} {g : Nat} {xs : List TS} (f : Fresh w g xs) : Tens w xs := fun x hx => by
  obtain ⟨h, h1, h2, h3, h4, h5, h6⟩ := f x hx
  refine ⟨h6, ?_⟩
  obtain ⟨a, cap, e, hs, _⟩ := SegsAt.of_own (h5.own h3)
  injection e with e1 e2 e3
  rw [h1, h4, e1]
  rw [h3, ← e3] at hs
  exact hs
/-- What a call that tells tenants answers with. -/
def MadeT (w : World) (ts : List Ten) (e : Ending) (w' : World) : Prop := ∃ (g n : Nat) (xs : List TS), e = .returned (.slice (some ⟨g, 0, none⟩) n n) ∧ tens xs = ts ∧ xs.length = n ∧ OwnR w' g n (flat fTen xs) ∧ Fresh w' g xs ∧ w.heap.size ≤ g ∧ Below w.heap.size w w'
end Go.Proofs.YtpgclhpobijdeaaDoor.man
