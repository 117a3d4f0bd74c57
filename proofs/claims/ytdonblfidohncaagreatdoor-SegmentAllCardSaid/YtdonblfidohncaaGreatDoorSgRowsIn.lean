/-
  SLICES OF SLICES OF RECORDS as a row reads them.
-/
import Derived.Test.YtdonblfidohncaaGreatDoorScRowsIn
namespace Go.Proofs.YtdonblfidohncaaGreatDoor.scan
open Go.RowKit Go.Maps Go.Deep Go.ChangeShapes Go.WideShapes Go.ChangeAt Go.Proofs.YtdonblfidohncaaGreatDoor.disk Go.Proofs.YtdonblfidohncaaGreatDoor.recd

theorem cellsRecs : Tryz.prog.cellsOf 33 = 1 := by kernel_rfl
/-- What a group is: its address, length, capacity and records. -/
structure Batch where
  a : Option Addr
  len : Nat
  cap : Nat
  rs : Nat → Rec
instance : Inhabited Batch := ⟨⟨none, 0, 0, fun _ => zeroRec⟩⟩
/-- A slice of slices of records that came in. -/
structure RRRow (w : World) (a : Option Addr) (len cap : Nat) (ps : Nat → Batch) : Prop where
  most : len ≤ 9223372036854775807
  cells : len = 0 ∨ ∃ b off, a = some ⟨b, off, none⟩ ∧ ∀ i, i < len → w.cell? ⟨b, off + i, none⟩ = some (.slice (ps i).a (ps i).len (ps i).cap)
  rows : ∀ i, i < len → RecRow w (ps i).a (ps i).len (ps i).cap (ps i).rs
theorem RRRow.later {w w' : World} {a : Option Addr} {len cap : Nat} {ps : Nat → Batch} (h : RRRow w a len cap ps) (hb : Below w.heap.size w w') : RRRow w' a len cap ps := by
  refine ⟨h.most, ?_, fun i hi => (h.rows i hi).later hb⟩
  rcases h.cells with h0 | ⟨b, off, e, hc⟩
  · exact .inl h0
  · exact .inr ⟨b, off, e, fun i hi => (hb.cell (p := ⟨b, off + i, none⟩) (block_lt_of_cell (hc i hi))).trans (hc i hi)⟩
theorem open_row_recs {H : Type} {enc : TypeId × Value → H} {w : World} {base n : Nat} {held : Bool} {v : Value} {x : DataW H × List MemPlace} (h : DataW.trod enc Tryz.prog w base (fun _ => true) held n 33 [v] = some x) :
    ∃ p : Batch, v = .slice p.a p.len p.cap ∧ RecRow w p.a p.len p.cap p.rs := by
  rcases open_slice Tryz.underlying33 h with ⟨e, _⟩ | ⟨a', len', cap', m, n, D, Pl, e, _⟩
  · simp at e
    subst e
    obtain ⟨rs, hr⟩ := open_recs rfl h
    exact ⟨⟨none, 0, 0, rs⟩, rfl, hr⟩
  · simp at e
    subst e
    obtain ⟨rs, hr⟩ := open_recs rfl h
    exact ⟨⟨some a', len', cap', rs⟩, rfl, hr⟩
theorem open_rrecs {H : Type} {enc : TypeId × Value → H} {w : World} {base : Nat} {held : Bool} {a : Option Addr} {len cap fuel : Nat} {cs : List Value} {x : DataW H × List MemPlace} (hcs : cs = [.slice a len cap]) (h : DataW.trod enc Tryz.prog w base (fun _ => true) held fuel 23 cs = some x) :
    ∃ ps, RRRow w a len cap ps := by
  rcases open_slice1 Tryz.underlying23 cellsRecs h with ⟨e, _⟩ | ⟨a', len', cap', m, n, V, D, Pl, e, _, hl, hm, hmm, _, hx⟩
  · rw [hcs] at e
    simp at e
    obtain ⟨rfl, rfl, rfl⟩ := e
    exact ⟨fun _ => default, ⟨by omega, .inl rfl, fun i hi => by omega⟩⟩
  · rw [hcs] at e
    simp at e
    obtain ⟨rfl, rfl, rfl⟩ := e
    rw [if_pos rfl] at hmm
    subst hmm
    obtain ⟨ps, hps⟩ := choose_lt (α := Batch) (n := m) (p := fun i q => V i = .slice q.a q.len q.cap ∧ RecRow w q.a q.len q.cap q.rs) (fun i hi => open_row_recs (hx i hi).2)
    unfold maxLen at hm
    refine ⟨ps, ⟨by omega, ?_, fun i hi => (hps i (by omega)).2⟩⟩
    rcases Nat.eq_zero_or_pos len with h0 | h0
    · exact .inl h0
    · obtain ⟨b, off, spot⟩ := a'
      have hc := (hx 0 (by omega)).1
      have hspot : spot = none := by simpa [Addr.add] using World.cell?_spot hc
      subst hspot
      refine .inr ⟨b, off, rfl, fun i hi => ?_⟩
      have hci := (hx i (by omega)).1
      rw [(hps i (by omega)).1] at hci
      by_cases hi0 : i = 0
      · subst hi0; simpa [Addr.add] using hci
      · simpa [Addr.add, hi0] using hci
end Go.Proofs.YtdonblfidohncaaGreatDoor.scan
