/-
  AN OPERATION's ROW as a law reads it; CONTRACT of (*disk.FS).Names (for DiskTwice).
-/
import Derived.Test.YtpbffjpghnijkaaDkCut
import Derived.Test.YtpbffjpghnijkaaDkAgain
namespace Go.Proofs.Ytpbffjpghnijkaa.disk
open Go.RowKit Go.Maps Go.Deep Go.ChangeShapes Go.WideShapes Go.ChangeAt
set_option linter.unusedVariables false

theorem lnames_any {R : Nat → Prop} (w : World) (p : Nat) (S : St) (n : Nat) (h : Disk R w p S n) (hn : n ≤ 100000000) :
    Calls Try.prog 26 #[.pointer (some ⟨p, 0, none⟩)] w (NamesOut w S.now) := by
  obtain ⟨C, mn, ms, wv, h⟩ := h
  have cN := Lib.hid (names_any w mn S.now h.now (by have := h.ok.now; omega))
  have c1 : w.cell? ⟨p, 1, none⟩ = some (.map (some mn)) := (h.cells.at_ 1).trans rfl
  clear h hn
  go_enter Try.func26, Try.ntmps26
  go_wp2_with fail
  refine cN.out.mono ?_
  rintro e w' hno
  obtain ⟨v, rfl, h1, h2, h3⟩ := hno
  have fin : NamesOut w S.now (.returned v) w' := ⟨v, rfl, h1, h2, h3⟩
  have FIN := Lib.hid fin
  clear h1 h2 h3 fin cN c1
  go_wp2_with fail
  go_ret
  exact FIN.out

/-- An operation. -/
structure OpA where
  kd : Int
  n : Int
  m : Int
  nm : ByteArray
  tt : ByteArray
  b : Piece
  k : Piece
instance : Inhabited OpA := ⟨⟨0, 0, 0, ⟨#[]⟩, ⟨#[]⟩, ⟨none, 0, 0, []⟩, ⟨none, 0, 0, []⟩⟩⟩
def OpA.cells (o : OpA) : List Value := [.int .i64 o.kd, .int .i64 o.n, .int .i64 o.m, .string o.nm, .string o.tt, .slice o.b.a o.b.len o.b.cap, .slice o.k.a o.k.len o.k.cap]
structure OpA.Fit (w : World) (o : OpA) : Prop where
  num : -9223372036854775808 ≤ o.n ∧ o.n ≤ 9223372036854775807
  nm : o.nm.size ≤ maxLen
  tt : o.tt.size ≤ maxLen
  row : Row w o.b.a o.b.len o.b.cap o.b.l
  keep : o.k.len ≤ o.k.cap
  nil : o.k.a = none → o.k.len = 0 ∧ o.k.cap = 0
/-- A slice of operations that came in. -/
structure OpRow (w : World) (a : Option Addr) (len cap : Nat) (os : Nat → OpA) : Prop where
  most : len ≤ 9223372036854775807
  cells : len = 0 ∨ ∃ b off, a = some ⟨b, off, none⟩ ∧ ∀ i, i < len → ∀ j v, (os i).cells[j]? = some v → w.cell? ⟨b, off + i * 7 + j, none⟩ = some v
  fit : ∀ i, i < len → (os i).Fit w
theorem OpRow.later {w w' : World} {a : Option Addr} {len cap : Nat} {os : Nat → OpA} (h : OpRow w a len cap os) (hb : Below w.heap.size w w') : OpRow w' a len cap os := by
  refine ⟨h.most, ?_, fun i hi => ?_⟩
  · rcases h.cells with h0 | ⟨b, off, e, hc⟩
    · exact .inl h0
    · refine .inr ⟨b, off, e, fun i hi j v hv => ?_⟩
      have := hc i hi j v hv
      exact (hb.cell (p := ⟨b, off + i * 7 + j, none⟩) (block_lt_of_cell this)).trans this
  · have := h.fit i hi
    exact ⟨this.num, this.nm, this.tt, this.row.later hb, this.keep, this.nil⟩
theorem opCells : Try.prog.cellsOf 50 = 7 := by kernel_rfl
theorem open_op {H : Type} {enc : TypeId × Value → H} {w : World} {base n : Nat} {held : Bool} {cs : List Value} {x : DataW H × List MemPlace} (hl : cs.length = 7)
    (h : DataW.trod enc Try.prog w base (fun _ => true) held n 50 cs = some x) : ∃ o : OpA, cs = o.cells ∧ o.Fit w := by
  match cs, hl with
  | [c0, c1, c2, c3, c4, c5, c6], _ =>
    obtain ⟨xs, n, _, hx, _, hlen, hg⟩ := DataW.trod_struct Try.underlying50 h
    match xs, hlen with
    | [y0, y1, y2, y3, y4, y5, y6], _ =>
      have eI : Try.prog.cellsOf 3 = 1 := by kernel_rfl
      have eS : Try.prog.cellsOf 9 = 1 := by kernel_rfl
      have eB : Try.prog.cellsOf 22 = 1 := by kernel_rfl
      have eK : Try.prog.cellsOf 23 = 1 := by kernel_rfl
      have h0 : DataW.trod enc Try.prog w base (fun _ => true) held n 3 [c0] = some y0 := by
        have := hg 0 _ rfl
        simpa [eI, Value.cells] using this
      have h1 : DataW.trod enc Try.prog w base (fun _ => true) held n 3 [c1] = some y1 := by
        have := hg 1 _ rfl
        simpa [eI, Value.cells] using this
      have h2 : DataW.trod enc Try.prog w base (fun _ => true) held n 3 [c2] = some y2 := by
        have := hg 2 _ rfl
        simpa [eI, Value.cells] using this
      have h3 : DataW.trod enc Try.prog w base (fun _ => true) held n 9 [c3] = some y3 := by
        have := hg 3 _ rfl
        simpa [eS, Value.cells] using this
      have h4 : DataW.trod enc Try.prog w base (fun _ => true) held n 9 [c4] = some y4 := by
        have := hg 4 _ rfl
        simpa [eS, Value.cells] using this
      have h5 : DataW.trod enc Try.prog w base (fun _ => true) held n 22 [c5] = some y5 := by
        have := hg 5 _ rfl
        simpa [eB, Value.cells] using this
      have h6 : DataW.trod enc Try.prog w base (fun _ => true) held n 23 [c6] = some y6 := by
        have := hg 6 _ rfl
        simpa [eK, Value.cells] using this
      obtain ⟨n0, e0, _, b0⟩ := DataW.trod_int Try.underlying3 h0
      injection e0 with e0
      subst e0
      obtain ⟨n1, e1, _, b1⟩ := DataW.trod_int Try.underlying3 h1
      injection e1 with e1
      subst e1
      obtain ⟨n2, e2, _, b2⟩ := DataW.trod_int Try.underlying3 h2
      injection e2 with e2
      subst e2
      obtain ⟨s3, e3, _, b3⟩ := DataW.trod_string Try.underlying9 h3
      injection e3 with e3
      subst e3
      obtain ⟨s4, e4, _, b4⟩ := DataW.trod_string Try.underlying9 h4
      injection e4 with e4
      subst e4
      obtain ⟨p, rfl, hp⟩ := open_row_u8 h5
      have hk : ∃ k : Piece, c6 = .slice k.a k.len k.cap ∧ k.len ≤ k.cap ∧ (k.a = none → k.len = 0 ∧ k.cap = 0) := by
        rcases open_slice1 Try.underlying23 cellsBool h6 with ⟨e, _⟩ | ⟨a', len', cap', m, n, V, D, Pl, e, _, hl, hm, hmm, _, hx⟩
        · simp at e
          exact ⟨⟨none, 0, 0, []⟩, e, Nat.le_refl _, fun _ => ⟨rfl, rfl⟩⟩
        · simp at e
          exact ⟨⟨some a', len', cap', []⟩, e, hl, fun e => by cases e⟩
      obtain ⟨k, rfl, hk1, hk2⟩ := hk
      exact ⟨⟨n0, n1, n2, s3, s4, p, k⟩, rfl, ⟨bounds_i64 b1, b3, b4, hp, hk1, hk2⟩⟩
theorem open_ops {H : Type} {enc : TypeId × Value → H} {w : World} {base : Nat} {held : Bool} {a : Option Addr} {len cap fuel : Nat} {cs : List Value} {x : DataW H × List MemPlace} (hcs : cs = [.slice a len cap]) (h : DataW.trod enc Try.prog w base (fun _ => true) held fuel 48 cs = some x) :
    ∃ os, OpRow w a len cap os := by
  rcases open_slice Try.underlying48 h with ⟨e, _⟩ | ⟨a', len', cap', m, n, D, Pl, e, _, hl, hm, hmm, _, hx⟩
  · rw [hcs] at e
    simp at e
    obtain ⟨rfl, rfl, rfl⟩ := e
    exact ⟨fun _ => default, ⟨by omega, .inl rfl, fun i hi => by omega⟩⟩
  · rw [hcs] at e
    simp at e
    obtain ⟨rfl, rfl, rfl⟩ := e
    rw [if_pos rfl] at hmm
    subst hmm
    rw [opCells] at hx
    obtain ⟨os, hos⟩ := choose_lt (α := OpA) (n := m) (p := fun i r => (∀ j, j < 7 → w.cell? ((a'.add (i * 7)).add j) = r.cells[j]?) ∧ r.Fit w) (fun i hi => by
      obtain ⟨cs', h1, h2⟩ := hx i hi
      obtain ⟨_, hlen, hc⟩ := World.cells?_some h1
      obtain ⟨r, rfl, hf⟩ := open_op hlen h2
      exact ⟨r, hc, hf⟩)
    unfold maxLen at hm
    refine ⟨os, ⟨by omega, ?_, fun i hi => (hos i (by omega)).2⟩⟩
    rcases Nat.eq_zero_or_pos len with h0 | h0
    · exact .inl h0
    · obtain ⟨b, off, spot⟩ := a'
      have hc : w.cell? (((⟨b, off, spot⟩ : Addr).add (0 * 7)).add 0) = some (.int .i64 (os 0).kd) := (hos 0 (by omega)).1 0 (by omega)
      have hspot : spot = none := by simpa [Addr.add] using World.cell?_spot hc
      subst hspot
      refine .inr ⟨b, off, rfl, fun i hi j v hv => ?_⟩
      have hj : j < 7 := by
        have := (List.getElem?_eq_some_iff.1 hv).1
        simpa [OpA.cells] using this
      have hci := (hos i (by omega)).1 j hj
      rw [Addr.add_mid, Addr.add_mid] at hci
      rw [hci, hv]
end Go.Proofs.Ytpbffjpghnijkaa.disk
