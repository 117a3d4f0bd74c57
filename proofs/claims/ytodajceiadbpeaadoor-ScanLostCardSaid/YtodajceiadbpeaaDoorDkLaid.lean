/-
  CONTRACTS of bytes.Clone and disk.laid.
-/
import Derived.Test.YtodajceiadbpeaaDoorDkOwn
namespace Go.Proofs.YtodajceiadbpeaaDoor.disk
open Go.RowKit

theorem eql_nil (w : World) (a : Option Addr) (n c n' c' : Nat) : (binOp .eql 26 (.slice a n c) (.slice none n' c')).run Tryd.prog w = .ok (.bool a.isNone) w := Lib.run_eql_slice_nil w _ _ a n c n' c' Tryd.underlying26

theorem byte_elem : Tryd.prog.elem 26 = 5 := by kernel_rfl
theorem byte_sizeOf (w : World) : (sizeOf 5).run Tryd.prog w = .ok 1 w := by kernel_rfl
theorem run_from (g off n cap p : Nat) (hp : p < n) (hn : n ≤ cap) (w : World) : (Instr.slice 26 (.slice (some ⟨g, off, none⟩) n cap) (some (.int .i64 (p : Int))) none none).run Tryd.prog w = .ok (.slice (some ⟨g, off + p, none⟩) (n - p) (cap - p)) w := by
  rw [run_slice_l w 26 _ n cap (by rw [byte_elem]; exact Tryd.underlying26) .i64 (p : Int) (by omega) (by omega), byte_elem, byte_sizeOf]
  have h1 : ¬ (cap = p) := by omega
  simp [Result.andThen, sliced, h1, Addr.add_mid]
/-- Where a slice begins that is cut at p. -/
def cutAt (a : Option Addr) (cap p : Nat) : Option Addr := if cap = p then a else a.map (·.add p)
theorem run_cut (a : Option Addr) (n cap p q : Nat) (hp : p ≤ q) (hq : q ≤ cap) (w : World) : (Instr.slice 26 (.slice a n cap) (some (.int .i64 (p : Int))) (some (.int .i64 (q : Int))) none).run Tryd.prog w = .ok (.slice (cutAt a cap p) (q - p) (cap - p)) w := by
  rw [run_slice_lh w 26 _ n cap (by rw [byte_elem]; exact Tryd.underlying26) .i64 .i64 (p : Int) (q : Int) (by omega) (by omega) (by omega), byte_elem, byte_sizeOf]
  simp [Result.andThen, sliced, cutAt]
theorem leads_cut {w : World} {a : Option Addr} {l : List Int} {cap : Nat} (h : Leads w a l) (p q : Nat) (hp : p ≤ q) (hq : q ≤ l.length) (hc : l.length ≤ cap) : Leads w (cutAt a cap p) ((l.drop p).take (q - p)) := by
  unfold cutAt
  by_cases hpq : p = q
  · subst hpq; rw [Nat.sub_self, List.take_zero]; exact Leads.nil _ _
  · rw [if_neg (by omega)]
    rcases h with rfl | ⟨b, off, rfl, hc'⟩
    · simp at hq; omega
    · simp only [Option.map_some, Addr.add_mid]
      exact Leads.take (Leads.drop (.inr ⟨b, off, rfl, hc'⟩) p) _

/-- What 'laid' answers with: the row behind it, and where it lies. -/
def LaidOut (w : World) (v : Value) (l : List Int) (e : Ending) (w' : World) : Prop :=
  ∃ v', e = .returned v' ∧ Own w' v' l ∧ w.grownBy w' v.ownBlock ∧ (v'.ownBlock = v.ownBlock ∨ ∃ g, v'.ownBlock = some g ∧ w.heap.size ≤ g)

end Go.Proofs.YtodajceiadbpeaaDoor.disk
