/-
  SLICES OF SLICES OF BYTES and of records as a row reads them.
-/
import Derived.Test.YtdonblfidohncaaGreatDoorMScan
import Derived.Test.YtdonblfidohncaaGreatDoorRcFrame
namespace Go.Proofs.YtdonblfidohncaaGreatDoor.scan
open Go.RowKit Go.Maps Go.Deep Go.ChangeShapes Go.WideShapes Go.ChangeAt Go.Proofs.YtdonblfidohncaaGreatDoor.disk Go.Proofs.YtdonblfidohncaaGreatDoor.recd

theorem cellsBytes : Tryz.prog.cellsOf 57 = 1 := by kernel_rfl
/-- What a part is: its address, length, capacity and bytes. -/
structure Piece where
  a : Option Addr
  len : Nat
  cap : Nat
  l : List Int
instance : Inhabited Piece := ⟨⟨none, 0, 0, []⟩⟩
/-- A slice of slices of bytes that came in. -/
structure RRow (w : World) (a : Option Addr) (len cap : Nat) (ps : Nat → Piece) : Prop where
  most : len ≤ 9223372036854775807
  cells : len = 0 ∨ ∃ b off, a = some ⟨b, off, none⟩ ∧ ∀ i, i < len → w.cell? ⟨b, off + i, none⟩ = some (.slice (ps i).a (ps i).len (ps i).cap)
  rows : ∀ i, i < len → Row w (ps i).a (ps i).len (ps i).cap (ps i).l
theorem RRow.later {w w' : World} {a : Option Addr} {len cap : Nat} {ps : Nat → Piece} (h : RRow w a len cap ps) (hb : Below w.heap.size w w') : RRow w' a len cap ps := by
  refine ⟨h.most, ?_, fun i hi => (h.rows i hi).later hb⟩
  rcases h.cells with h0 | ⟨b, off, e, hc⟩
  · exact .inl h0
  · exact .inr ⟨b, off, e, fun i hi => (hb.cell (p := ⟨b, off + i, none⟩) (block_lt_of_cell (hc i hi))).trans (hc i hi)⟩
theorem open_row_u8 {H : Type} {enc : TypeId × Value → H} {w : World} {base n : Nat} {held : Bool} {v : Value} {x : DataW H × List MemPlace} (h : DataW.trod enc Tryz.prog w base (fun _ => true) held n 57 [v] = some x) :
    ∃ p : Piece, v = .slice p.a p.len p.cap ∧ Row w p.a p.len p.cap p.l := by
  rcases open_ints Tryz.underlying57 Tryz.underlying5 (by kernel_rfl) h with ⟨hcs, _⟩ | ⟨y, l, c, zs, hcs, _, hl, hm, hz, _, hcell, hwz⟩
  · simp at hcs
    exact ⟨⟨none, 0, 0, []⟩, hcs, IsRow.row (zs := []) (.inl ⟨rfl, rfl, rfl, rfl⟩)⟩
  · simp at hcs
    exact ⟨⟨some y, l, c, zs.take l⟩, hcs, IsRow.row (.inr ⟨_, rfl, hl, hm, by simpa using hz, hcell, hwz⟩)⟩
theorem open_rows {H : Type} {enc : TypeId × Value → H} {w : World} {base : Nat} {held : Bool} {a : Option Addr} {len cap fuel : Nat} {cs : List Value} {x : DataW H × List MemPlace} (hcs : cs = [.slice a len cap]) (h : DataW.trod enc Tryz.prog w base (fun _ => true) held fuel 53 cs = some x) :
    ∃ ps, RRow w a len cap ps := by
  rcases open_slice1 Tryz.underlying53 cellsBytes h with ⟨e, _⟩ | ⟨a', len', cap', m, n, V, D, Pl, e, _, hl, hm, hmm, _, hx⟩
  · rw [hcs] at e
    simp at e
    obtain ⟨rfl, rfl, rfl⟩ := e
    exact ⟨fun _ => ⟨none, 0, 0, []⟩, ⟨by omega, .inl rfl, fun i hi => by omega⟩⟩
  · rw [hcs] at e
    simp at e
    obtain ⟨rfl, rfl, rfl⟩ := e
    rw [if_pos rfl] at hmm
    subst hmm
    obtain ⟨ps, hps⟩ := choose_lt (α := Piece) (n := m) (p := fun i q => V i = .slice q.a q.len q.cap ∧ Row w q.a q.len q.cap q.l) (fun i hi => open_row_u8 (hx i hi).2)
    unfold maxLen at hm
    refine ⟨ps, ⟨by omega, ?_, fun i hi => (hps i (by omega)).2⟩⟩
    rcases Nat.eq_zero_or_pos len with h0 | h0
    · exact .inl h0
    · obtain ⟨b, off, spot⟩ := a'
      have hc := (hx 0 (by omega)).1
      have hspot : spot = none := by simpa [Addr.add] using World.cell?_spot hc
      subst hspot
      refine .inr ⟨b, off, rfl, fun i hi => ?_⟩
      have hci := (hx i (by omega)).1
      rw [(hps i (by omega)).1] at hci
      by_cases hi0 : i = 0
      · subst hi0; simpa [Addr.add] using hci
      · simpa [Addr.add, hi0] using hci

set_option maxRecDepth 100000 in
/-- A record's cells, as a row reads them. -/
theorem open_rec_cells {H : Type} {enc : TypeId × Value → H} {w : World} {base n : Nat} {spare : Nat → Bool} {held : Bool} {cs : List Value} {x : DataW H × List MemPlace} (hl : cs.length = 6)
    (h : DataW.trod enc Tryz.prog w base spare held n 40 cs = some x) : ∃ r : Rec, cs = r.cells ∧ r.Fit := by
  match cs, hl with
  | [c0, c1, c2, c3, c4, c5], _ =>
    obtain ⟨xs, n, _, hx, _, hlen, hg⟩ := DataW.trod_struct Tryz.underlying40 h
    match xs, hlen with
    | [y0, y1, y2, y3, y4, y5], _ =>
      have one : ∀ (t : TypeId), Tryz.prog.cellsOf t = 1 → Tryz.prog.cellsOf t = 1 := fun _ h => h
      have h0 : DataW.trod enc Tryz.prog w base spare held n 3 [c0] = some y0 := by
        have e : Tryz.prog.cellsOf 3 = 1 := by kernel_rfl
        have := hg 0 _ rfl
        simpa [e, Value.cells] using this
      have h1 : DataW.trod enc Tryz.prog w base spare held n 22 [c1] = some y1 := by
        have e : Tryz.prog.cellsOf 22 = 1 := by kernel_rfl
        have := hg 1 _ rfl
        simpa [e, Value.cells] using this
      have h2 : DataW.trod enc Tryz.prog w base spare held n 38 [c2] = some y2 := by
        have e : Tryz.prog.cellsOf 38 = 1 := by kernel_rfl
        have := hg 2 _ rfl
        simpa [e, Value.cells] using this
      have h3 : DataW.trod enc Tryz.prog w base spare held n 38 [c3] = some y3 := by
        have e : Tryz.prog.cellsOf 38 = 1 := by kernel_rfl
        have := hg 3 _ rfl
        simpa [e, Value.cells] using this
      have h4 : DataW.trod enc Tryz.prog w base spare held n 38 [c4] = some y4 := by
        have e : Tryz.prog.cellsOf 38 = 1 := by kernel_rfl
        have := hg 4 _ rfl
        simpa [e, Value.cells] using this
      have h5 : DataW.trod enc Tryz.prog w base spare held n 9 [c5] = some y5 := by
        have e : Tryz.prog.cellsOf 9 = 1 := by kernel_rfl
        have := hg 5 _ rfl
        simpa [e, Value.cells] using this
      obtain ⟨n0, e0, _, b0⟩ := DataW.trod_int Tryz.underlying3 h0
      injection e0 with e0
      subst e0
      obtain ⟨n1, e1, _, b1⟩ := DataW.trod_int Tryz.underlying22 h1
      injection e1 with e1
      subst e1
      obtain ⟨n2, e2, _, b2⟩ := DataW.trod_int Tryz.underlying38 h2
      injection e2 with e2
      subst e2
      obtain ⟨n3, e3, _, b3⟩ := DataW.trod_int Tryz.underlying38 h3
      injection e3 with e3
      subst e3
      obtain ⟨n4, e4, _, b4⟩ := DataW.trod_int Tryz.underlying38 h4
      injection e4 with e4
      subst e4
      obtain ⟨sb, e5, _, b5⟩ := DataW.trod_string Tryz.underlying9 h5
      injection e5 with e5
      subst e5
      obtain ⟨t1, rfl⟩ := Int.eq_ofNat_of_zero_le (bounds_u32 b1).1
      obtain ⟨t2, rfl⟩ := Int.eq_ofNat_of_zero_le (nat_u64 b2)
      obtain ⟨t3, rfl⟩ := Int.eq_ofNat_of_zero_le (nat_u64 b3)
      obtain ⟨t4, rfl⟩ := Int.eq_ofNat_of_zero_le (nat_u64 b4)
      exact ⟨⟨n0, t1, t2, t3, t4, sb⟩, rfl, ⟨bounds_i64 b0, by have := (bounds_u32 b1).2; show t1 < 4294967296; omega, b5⟩⟩
theorem open_recs {H : Type} {enc : TypeId × Value → H} {w : World} {base : Nat} {held : Bool} {a : Option Addr} {len cap fuel : Nat} {cs : List Value} {x : DataW H × List MemPlace} (hcs : cs = [.slice a len cap]) (h : DataW.trod enc Tryz.prog w base (fun _ => true) held fuel 33 cs = some x) :
    ∃ rs, RecRow w a len cap rs := by
  rcases open_slice Tryz.underlying33 h with ⟨e, _⟩ | ⟨a', len', cap', m, n, D, Pl, e, _, hl, hm, hmm, _, hx⟩
  · rw [hcs] at e
    simp at e
    obtain ⟨rfl, rfl, rfl⟩ := e
    exact ⟨fun _ => zeroRec, ⟨by omega, .inl rfl, fun i hi => by omega⟩⟩
  · rw [hcs] at e
    simp at e
    obtain ⟨rfl, rfl, rfl⟩ := e
    rw [if_pos rfl] at hmm
    subst hmm
    rw [recCells] at hx
    obtain ⟨rs, hrs⟩ := choose_lt (α := Rec) (n := m) (p := fun i r => (∀ j, j < 6 → w.cell? ((a'.add (i * 6)).add j) = r.cells[j]?) ∧ r.Fit) (fun i hi => by
      obtain ⟨cs', h1, h2⟩ := hx i hi
      obtain ⟨_, hlen, hc⟩ := World.cells?_some h1
      obtain ⟨r, rfl, hf⟩ := open_rec_cells hlen h2
      exact ⟨r, hc, hf⟩)
    unfold maxLen at hm
    refine ⟨rs, ⟨by omega, ?_, fun i hi => (hrs i (by omega)).2⟩⟩
    rcases Nat.eq_zero_or_pos len with h0 | h0
    · exact .inl h0
    · obtain ⟨b, off, spot⟩ := a'
      have hc : w.cell? (((⟨b, off, spot⟩ : Addr).add (0 * 6)).add 0) = some (.int .i64 (rs 0).kind) := (hrs 0 (by omega)).1 0 (by omega)
      have hspot : spot = none := by simpa [Addr.add] using World.cell?_spot hc
      subst hspot
      refine .inr ⟨b, off, rfl, fun i hi j v hv => ?_⟩
      have hj : j < 6 := by
        have := (List.getElem?_eq_some_iff.1 hv).1
        simpa [Rec.cells] using this
      have hci := (hrs i (by omega)).1 j hj
      rw [Addr.add_mid, Addr.add_mid] at hci
      rw [hci, hv]
end Go.Proofs.YtdonblfidohncaaGreatDoor.scan
