/-
  BYTES THAT ARE APPENDED TO A ROW OF THE CALL's OWN, from a slice that came in, nil or not.
-/
import Derived.Test.YtobkjkgpmkppfaaDoorCrcMany
import Derived.Maps.AppendAt
import Derived.OwnWalk
namespace Go.Proofs.YtobkjkgpmkppfaaDoor.crc
open Go.RowKit

def u8s (l : List Int) : List Value := l.map (Value.int .u8)
theorem u8s_length (l : List Int) : (u8s l).length = l.length := by simp [u8s]
theorem u8s_append (a b : List Int) : u8s (a ++ b) = u8s a ++ u8s b := by simp [u8s]
theorem u8s_at (l : List Int) (i : Nat) (hi : i < l.length) : (u8s l)[i]? = some (.int .u8 (l.getD i 0)) := by
  simp [u8s, List.getD_eq_getElem?_getD, List.getElem?_eq_getElem hi]

/-- A row of bytes of the call's own, from block 'base' on. -/
def Own (w : World) (base : Nat) (v : Value) (l : List Int) : Prop := w.ownsRow base 5 1 v l.length (u8s l)

theorem Own.none_ (w : World) (base : Nat) : Own w base (.slice none 0 0) [] := World.ownsRow_nil w base _ _
theorem Own.form {w : World} {base : Nat} {v : Value} {l : List Int} (h : Own w base v l) :
    ∃ a cap, v = .slice a l.length cap ∧ l.length ≤ cap ∧ cap ≤ 9223372036854775807 ∧ (a = none → l.length = 0 ∧ cap = 0) ∧ Bytes w a l := by
  have hc := fun g hg => World.ownsRow.cells h (g := g) hg
  rcases h.2 with ⟨rfl, h0⟩ | ⟨g, cap, cur, rfl, _, _, h1, h2, _, _⟩
  · have hl : l = [] := List.eq_nil_of_length_eq_zero h0
    subst hl
    exact ⟨none, 0, rfl, by simp, by omega, fun _ => ⟨rfl, rfl⟩, .inl rfl⟩
  · unfold maxLen at h2
    refine ⟨_, cap, rfl, h1, by omega, (fun e => by cases e), .inr ⟨g, 0, rfl, fun i hi => ?_⟩⟩
    have := hc g rfl i _ (u8s_at l i hi)
    by_cases hi0 : i = 0
    · subst hi0; simpa [Addr.add] using this
    · simpa [Addr.add, hi0] using this

theorem byte_info : (Tryd.prog.info? 5).map (fun i => (i.zero, i.size, i.bytes)) = some (some (.int .u8 0), 1, 1) := by kernel_rfl

theorem append_row {w : World} {base : Nat} {v : Value} {l : List Int} (h : Own w base v l) (a : Option Addr) (m cap : Nat) (b : List Int) (hb : Bytes w a b) (hm : b.length = m)
    (ha : a = none → cap = 0) (hn : l.length + m ≤ 1000000) (hbase : base ≤ w.heap.size) :
    ∃ v' w', (Builtin.append_ #[22, 22] 22 #[v, .slice a m cap]).run Tryd.prog w = .ok v' w' ∧ Own w' base v' (l ++ b) ∧ Below base w w' ∧ (v'.ownBlock = v.ownBlock ∨ v'.ownBlock = some w.heap.size) := by
  obtain ⟨i0, hi, hz0, hz1, hz2⟩ := info_parts byte_info
  have hcells : ∀ (ad : Addr), a = some ad → ∀ j u, (u8s b)[j]? = some u → w.cell? (ad.add j) = some u := by
    intro ad he j u hu
    rcases hb with rfl | ⟨g, off, he', hc⟩
    · simp [u8s] at hu
    · have hj : j < b.length := by
        have := (List.getElem?_eq_some_iff.1 hu).1
        simpa [u8s] using this
      rw [u8s_at b j hj] at hu
      obtain rfl : ad = ⟨g, off, none⟩ := by rw [he] at he'; exact Option.some.inj he'
      rw [← hu, ← hc j hj]
      by_cases hi0 : j = 0
      · subst hi0; simp [Addr.add]
      · simp [Addr.add, hi0]
  have hbel : ∀ w', w.grownBy w' v.ownBlock → Below base w w' := fun w' hg => (Below.refl _ _).grown hg hbase (fun k hk => (World.ownsRow.lt h k hk).1)
  cases a with
  | none =>
    have hb0 : b = [] := by
      rcases hb with h | ⟨_, _, e, _⟩
      · exact h
      · cases e
    subst hb0
    obtain rfl : m = 0 := by simpa using hm.symm
    obtain rfl := ha rfl
    exact ⟨v, w, run_append_owned_none w base _ _ _ i0 1 Tryd.underlying22 hi v l.length (u8s l) h, by simpa using h, Below.refl _ _, .inl rfl⟩
  | some ad =>
    obtain ⟨v', w', h1, h2, h3, _, h5⟩ := run_append_own_at (P := Tryd.prog) w base 22 22 5 i0 (.int .u8 0) 1 1 Tryd.underlying22 hi hz0 hz1 hz2 rfl (by decide) v l.length (u8s l) h
      ad m cap (u8s b) (by rw [u8s_length, hm]; simp) (hcells ad rfl) (by intro u hu; simp [u8s] at hu; obtain ⟨c, _, rfl⟩ := hu; rfl) (by unfold maxLen; omega) (by omega) hbase
    refine ⟨v', w', h1, ?_, hbel w' h3, h5⟩
    unfold Own
    rw [List.length_append, u8s_append, hm]; exact h2

/-- AT THE OPERATION: an append whose run is known. -/
theorem wpList_append_run {w w' : World} {v' : Value} {ops : Array Oper} {rest : List Oper} {o : Oper} {a : Act} {Q : Exit → Act → World → Prop} (s x : Operand) (v u : Value) (hgd : o.guard = none)
    (ho : o.op = .call { callee := .builtin .append, args := #[s, x], argTypes := #[22, 22] }) (hty : o.type = 22) (hs : a.eval s = v) (hx : a.eval x = u)
    (hrun : (Builtin.append_ #[22, 22] 22 #[v, u]).run Tryd.prog w = .ok v' w')
    (h : wpList Tryd.prog ops Q rest (a.put o.dst v') w') : wpList Tryd.prog ops Q (o :: rest) a w := by
  refine wpList_plain hgd fun K hK => ?_
  unfold Oper.wp execOp
  simp only [ho, hty, resolve, invoke, builtin, Sem.run_bind, Sem.run_pure, Result.andThen_ok, List.map_toArray, List.map_cons, List.map_nil, hs, hx, hrun]
  exact hK _ _ h
end Go.Proofs.YtobkjkgpmkppfaaDoor.crc
