/-
  WHAT THE ROWS OF disk SHARE: slices of bools as a row reads them.
-/
import Derived.Test.YtpbffjpghnijkaaDkBegun
import Derived.Test.YtpbffjpghnijkaaRowIn
import Derived.ProofKit
import Derived.OpenShut
import Derived.ChangeOld
import Derived.Deep.DeepHandedRow
import Derived.Deep.Slices
import Derived.ChangeArms
namespace Go.Proofs.Ytpbffjpghnijkaa.disk
open Go.ChangeShapes Go.WideShapes Go.ChangeAt Go.RowKit Go.Deep

theorem cellsBool : Try.prog.cellsOf 4 = 1 := by kernel_rfl
/-- A slice of bools that came in. -/
structure BRow (w : World) (a : Option Addr) (len cap : Nat) (l : List Bool) : Prop where
  bools : Bools w a len l
  le : len ≤ cap
  most : cap ≤ 9223372036854775807
  nil : a = none → len = 0 ∧ cap = 0
theorem open_bools {H : Type} {enc : TypeId × Value → H} {w : World} {base : Nat} {held : Bool} {a : Option Addr} {len cap fuel : Nat} {cs : List Value} {x : DataW H × List MemPlace} (hcs : cs = [.slice a len cap]) (h : DataW.trod enc Try.prog w base (fun _ => true) held fuel 23 cs = some x) :
    ∃ l, BRow w a len cap l := by
  rcases open_slice1 Try.underlying23 cellsBool h with ⟨e, _⟩ | ⟨a', len', cap', m, n, V, D, Pl, e, _, hl, hm, hmm, _, hx⟩
  · rw [hcs] at e
    simp at e
    obtain ⟨rfl, rfl, rfl⟩ := e
    exact ⟨[], ⟨rfl, by omega, .inl rfl⟩, by omega, by omega, fun _ => ⟨rfl, rfl⟩⟩
  · rw [hcs] at e
    simp at e
    obtain ⟨rfl, rfl, rfl⟩ := e
    rw [if_pos rfl] at hmm
    subst hmm
    have hb : ∀ i, i < m → ∃ b, V i = .bool b := fun i hi => by
      obtain ⟨b, e, _⟩ := DataW.trod_bool Try.underlying4 (hx i hi).2
      exact ⟨b, by simpa using e⟩
    unfold maxLen at hm
    refine ⟨(List.range len).map fun i => match V i with | .bool b => b | _ => false, ⟨by simp, by omega, ?_⟩, hl, by omega, fun e => by cases e⟩
    rcases Nat.eq_zero_or_pos len with h0 | h0
    · exact .inl h0
    · obtain ⟨b, off, spot⟩ := a'
      have hc := (hx 0 (by omega)).1
      have hspot : spot = none := by simpa [Addr.add] using World.cell?_spot hc
      subst hspot
      refine .inr ⟨b, off, rfl, fun i hi => ?_⟩
      obtain ⟨bv, hbv⟩ := hb i (by omega)
      have hci := (hx i (by omega)).1
      rw [hbv] at hci
      have e1 : ((List.range len).map fun i => match V i with | .bool b => b | _ => false).getD i false = bv := by
        rw [List.getD_eq_getElem?_getD, List.getElem?_map, List.getElem?_range hi]
        simp [hbv]
      rw [e1]
      by_cases hi0 : i = 0
      · subst hi0; simpa [Addr.add] using hci
      · simpa [Addr.add, hi0] using hci
theorem BRow.later {w w' : World} {a : Option Addr} {len cap : Nat} {l : List Bool} (h : BRow w a len cap l) (hb : Below w.heap.size w w') : BRow w' a len cap l :=
  ⟨h.bools.turned (R := fun _ => False) (Turn.of_below hb) (fun _ _ _ _ e => e), h.le, h.most, h.nil⟩
end Go.Proofs.Ytpbffjpghnijkaa.disk
