/-
  ROWS OF BYTES OF THE CALL's OWN: made, appended to, stored into.
-/
import Derived.Test.YtchbfcegonlhoaaDoorRows
import Derived.Test.YtchbfcegonlhoaaDoorBytes
import Derived.Maps.AppendAt
import Derived.OwnWalk
import Derived.Laws.MakeOwn
import Derived.Deep.RegionLaw
import Derived.Deep.AppendLies
import Derived.WalkKit
namespace Go.Proofs.YtchbfcegonlhoaaDoor.sha
open Go.RowKit

/-- A row of bytes of the call's own, from block 'base' on. -/
def Own (w : World) (base : Nat) (v : Value) (l : List Int) : Prop := w.ownsRow base 5 1 v l.length (u8s l)

theorem Own.none_ (w : World) (base : Nat) : Own w base (.slice none 0 0) [] := World.ownsRow_nil w base _ _
theorem Own.form {w : World} {base : Nat} {v : Value} {l : List Int} (h : Own w base v l) :
    ∃ a cap, v = .slice a l.length cap ∧ l.length ≤ cap ∧ cap ≤ 9223372036854775807 ∧ (a = none → l.length = 0 ∧ cap = 0) ∧ Leads w a l ∧ (∀ g, Past g a l ∨ (base ≤ g ∧ v.ownBlock = some g)) ∧ (a = none ∨ ∃ g, a = some ⟨g, 0, none⟩) := by
  have hc := fun g hg => World.ownsRow.cells h (g := g) hg
  have hlt := World.ownsRow.lt h
  rcases h.2 with ⟨rfl, h0⟩ | ⟨g, cap, cur, rfl, _, _, h1, h2, _, _⟩
  · have hl : l = [] := List.eq_nil_of_length_eq_zero h0
    subst hl
    exact ⟨none, 0, rfl, by simp, by omega, fun _ => ⟨rfl, rfl⟩, .inl rfl, fun _ => .inl (.inl rfl), .inl rfl⟩
  · unfold maxLen at h2
    refine ⟨_, cap, rfl, h1, by omega, (fun e => by cases e), .inr ⟨g, 0, rfl, fun i hi => ?_⟩, fun g' => ?_, .inr ⟨g, rfl⟩⟩
    · have := hc g rfl i _ (u8s_at l hi)
      rwa [Addr.add_mid] at this
    · by_cases hg : g = g'
      · subst hg; exact .inr ⟨(hlt g rfl).1, rfl⟩
      · exact .inl (.inr fun b off e => by injection e with e; injection e with e; omega)

theorem byte_info : (Tryd.prog.info? 5).map (fun i => (i.zero, i.size, i.bytes)) = some (some (.int .u8 0), 1, 1) := by kernel_rfl

theorem append_row {w : World} {base : Nat} {v : Value} {l : List Int} (h : Own w base v l) (a : Option Addr) (m cap : Nat) (b : List Int) (hb : Leads w a b) (hm : b.length = m)
    (ha : a = none → cap = 0) (hn : l.length + m ≤ 1000000) (hbase : base ≤ w.heap.size) :
    ∃ v' w', (Builtin.append_ #[22, 22] 22 #[v, .slice a m cap]).run Tryd.prog w = .ok v' w' ∧ Own w' base v' (l ++ b) ∧ Below base w w' ∧ w.grownBy w' v.ownBlock ∧ (v'.ownBlock = v.ownBlock ∨ v'.ownBlock = some w.heap.size) := by
  obtain ⟨i0, hi, hz0, hz1, hz2⟩ := info_parts byte_info
  have hbel : ∀ w', w.grownBy w' v.ownBlock → Below base w w' := fun w' hg => (Below.refl _ _).grown hg hbase (fun k hk => (World.ownsRow.lt h k hk).1)
  cases a with
  | none =>
    have hb0 : b = [] := by
      rcases hb with h | ⟨_, _, e, _⟩
      · exact h
      · cases e
    subst hb0
    obtain rfl : m = 0 := by simpa using hm.symm
    obtain rfl := ha rfl
    exact ⟨v, w, run_append_owned_none w base _ _ _ i0 1 Tryd.underlying22 hi v l.length (u8s l) h, by simpa using h, Below.refl _ _, World.grownBy.refl w _, .inl rfl⟩
  | some ad =>
    have hcells : ∀ j u, (u8s b)[j]? = some u → w.cell? (ad.add j) = some u := by
      intro j u hu
      rcases hb with rfl | ⟨g, off, he', hc⟩
      · simp [u8s] at hu
      · have hj : j < b.length := by
          have := (List.getElem?_eq_some_iff.1 hu).1
          rwa [u8s_length] at this
        rw [u8s_at b hj] at hu
        obtain rfl : ad = ⟨g, off, none⟩ := Option.some.inj he'
        rw [← hu, ← hc j hj, Addr.add_mid]
    obtain ⟨v', w', h1, h2, h3, _, h5⟩ := run_append_own_at (P := Tryd.prog) w base 22 22 5 i0 (.int .u8 0) 1 1 Tryd.underlying22 hi hz0 hz1 hz2 rfl (by decide) v l.length (u8s l) h
      ad m cap (u8s b) (by rw [u8s_length, hm]; simp) hcells (by intro u hu; simp [u8s] at hu; obtain ⟨c, _, rfl⟩ := hu; rfl) (by unfold maxLen; omega) (by omega) hbase
    refine ⟨v', w', h1, ?_, hbel w' h3, h3, h5⟩
    unfold Own
    rw [List.length_append, hm]
    unfold u8s at h2 ⊢
    rw [List.map_append]; exact h2

/-- AT THE OPERATION: an append whose run is known. -/
theorem wpList_append_run {w w' : World} {v' : Value} {ops : Array Oper} {rest : List Oper} {o : Oper} {a : Act} {Q : Exit → Act → World → Prop} (s x : Operand) (v u : Value) (hgd : o.guard = none)
    (ho : o.op = .call { callee := .builtin .append, args := #[s, x], argTypes := #[22, 22] }) (hty : o.type = 22) (hs : a.eval s = v) (hx : a.eval x = u)
    (hrun : (Builtin.append_ #[22, 22] 22 #[v, u]).run Tryd.prog w = .ok v' w')
    (h : wpList Tryd.prog ops Q rest (a.put o.dst v') w') : wpList Tryd.prog ops Q (o :: rest) a w := by
  refine wpList_plain hgd fun K hK => ?_
  unfold Oper.wp execOp
  simp only [ho, hty, resolve, invoke, builtin, Sem.run_bind, Sem.run_pure, Result.andThen_ok, List.map_toArray, List.map_cons, List.map_nil, hs, hx, hrun]
  exact hK _ _ h

theorem run_make_bytes (w : World) (n : Nat) (hn : n ≤ 1000000) :
    ∃ w', (Instr.makeSlice 22 (.int .i64 (n : Int)) (.int .i64 (n : Int))).run Tryd.prog w = .ok (.slice (some ⟨w.heap.size, 0, none⟩) n n) w' ∧
      Own w' w.heap.size (.slice (some ⟨w.heap.size, 0, none⟩) n n) (List.replicate n 0) ∧ Below w.heap.size w w' := by
  obtain ⟨i0, hi, hz0, hz1, hz2⟩ := info_parts byte_info
  obtain ⟨w', h1, h2, h3⟩ := run_make_full (P := Tryd.prog) w w.heap.size 22 5 i0 (.int .u8 0) 1 Tryd.underlying22 hi hz0 hz1 .i64 .i64 n (by rw [hz2]; omega) (by unfold maxLen; omega) (Nat.le_refl _)
  refine ⟨w', h1, ?_, (Below.refl _ _).grown h3 (Nat.le_refl _) (fun k hk => by cases hk)⟩
  unfold Own
  rw [List.length_replicate]
  have e : u8s (List.replicate n 0) = (madeCells (Value.int .u8 0).cells (n * 1)).toList := by
    rw [show (Value.int .u8 0).cells = #[Value.int .u8 0] from rfl, toList_madeCells_one]
    simp [u8s]
  rw [e]; exact h2

theorem run_min (w : World) (a b : Nat) : (Builtin.min_ #[3, 3] 3 #[.int .i64 (a : Int), .int .i64 (b : Int)]).run Tryd.prog w = .ok (.int .i64 ((min a b : Nat) : Int)) w := by
  have e : ((min a b : Nat) : Int) = if (b : Int) < (a : Int) then (b : Int) else (a : Int) := by split <;> omega
  rw [e]
  by_cases h : (b : Int) < (a : Int) <;> simp [Builtin.min_, Builtin.min2, h]
/-- AT THE OPERATION: the lesser of two numbers that are not below nought. -/
theorem wpList_min_run {w : World} (m n : Nat) {ops : Array Oper} {rest : List Oper} {o : Oper} {a : Act} {Q : Exit → Act → World → Prop} (s x : Operand) (hgd : o.guard = none)
    (ho : o.op = .call { callee := .builtin .min, args := #[s, x], argTypes := #[3, 3] }) (hty : o.type = 3) (hs : a.eval s = .int .i64 (m : Int)) (hx : a.eval x = .int .i64 (n : Int))
    (h : wpList Tryd.prog ops Q rest (a.put o.dst (.int .i64 ((min m n : Nat) : Int))) w) : wpList Tryd.prog ops Q (o :: rest) a w := by
  refine wpList_plain hgd fun K hK => ?_
  unfold Oper.wp execOp
  simp only [ho, hty, resolve, invoke, builtin, Sem.run_bind, Sem.run_pure, Result.andThen_ok, List.map_toArray, List.map_cons, List.map_nil, hs, hx, run_min]
  exact hK _ _ h

theorem Own.set {w : World} {base g n cap : Nat} {l : List Int} (h : Own w base (.slice (some ⟨g, 0, none⟩) n cap) l) (hl : l.length = n) (j : Nat) (c : Int) :
    Own (w.setCell ⟨g, j, none⟩ (.int .u8 c)) base (.slice (some ⟨g, 0, none⟩) n cap) (l.set j c) := by
  unfold Own at h ⊢
  rw [hl] at h
  rw [List.length_set, hl]
  have := (World.ownsRow.stored h j (.int .u8 c)).1
  rwa [show (u8s l).set j (.int .u8 c) = u8s (l.set j c) by simp [u8s, List.map_set]] at this
theorem Own.cell {w : World} {base g n cap : Nat} {l : List Int} (h : Own w base (.slice (some ⟨g, 0, none⟩) n cap) l) (hl : l.length = n) (j : Nat) (hj : j < n) :
    w.cell? ⟨g, j, none⟩ = some (.int .u8 (l.getD j 0)) := by
  unfold Own at h
  rw [hl] at h
  rw [World.ownsRow.cellAt h j (by omega), u8s_at l (by omega)]
theorem Own.free {w : World} {base g n cap : Nat} {l : List Int} (h : Own w base (.slice (some ⟨g, 0, none⟩) n cap) l) (hl : l.length = n) (j : Nat) : w.frozen? ⟨g, j, none⟩ = false := by
  unfold Own at h
  rw [hl] at h
  exact World.ownsRow.frozenAt h j
theorem Own.keep {w w' : World} {base : Nat} {v : Value} {l : List Int} {row : Option Nat} (h : Own w base v l) (hg : w.grownBy w' row) (hne : v.ownBlock = none ∨ v.ownBlock ≠ row) : Own w' base v l := World.ownsRow.kept h hg hne
end Go.Proofs.YtchbfcegonlhoaaDoor.sha
