/-
  SLICES OF SLICES OF BYTES as a row reads them; Short; a file that grows at its end.
-/
import Derived.Test.YtpbffjpghnijkaaDkSwitch
import Derived.Test.YtpbffjpghnijkaaDkReads
namespace Go.Proofs.Ytpbffjpghnijkaa.disk
open Go.RowKit Go.Maps Go.Deep Go.ChangeShapes Go.WideShapes Go.ChangeAt

theorem short_any (a : Option Addr) (len cap n : Nat) (w : World) (hlc : len ≤ cap) (ha : a = none → len = 0 ∧ cap = 0) (hn : n ≤ 1000) :
    Calls Try.prog 11 #[.slice a len cap, .int .i64 n] w fun e w' => e = .returned (.slice a (min len n) cap) ∧ w = w' := by
  by_cases h : n < len
  · rw [show min len n = n by omega]
    cases a with
    | none => have := ha rfl; omega
    | some x =>
      clear ha
      have h1 : (n : Int) < (len : Int) := by omega
      go_enter Try.func11, Try.ntmps11
      go_wp2
      go_ret
      exact ⟨rfl, rfl⟩
  · rw [show min len n = len by omega]
    have h1 : ¬ (n : Int) < (len : Int) := by omega
    clear ha
    go_enter Try.func11, Try.ntmps11
    go_wp2
    go_ret
    exact ⟨rfl, rfl⟩

theorem cellsBytes : Try.prog.cellsOf 22 = 1 := by kernel_rfl
/-- What a part is: its address, length, capacity and bytes. -/
structure Piece where
  a : Option Addr
  len : Nat
  cap : Nat
  l : List Int
instance : Inhabited Piece := ⟨⟨none, 0, 0, []⟩⟩
/-- A slice of slices of bytes that came in. -/
structure RRow (w : World) (a : Option Addr) (len cap : Nat) (ps : Nat → Piece) : Prop where
  most : len ≤ 9223372036854775807
  cells : len = 0 ∨ ∃ b off, a = some ⟨b, off, none⟩ ∧ ∀ i, i < len → w.cell? ⟨b, off + i, none⟩ = some (.slice (ps i).a (ps i).len (ps i).cap)
  rows : ∀ i, i < len → Row w (ps i).a (ps i).len (ps i).cap (ps i).l
theorem open_row_u8 {H : Type} {enc : TypeId × Value → H} {w : World} {base n : Nat} {held : Bool} {v : Value} {x : DataW H × List MemPlace} (h : DataW.trod enc Try.prog w base (fun _ => true) held n 22 [v] = some x) :
    ∃ p : Piece, v = .slice p.a p.len p.cap ∧ Row w p.a p.len p.cap p.l := by
  rcases open_ints Try.underlying22 Try.underlying5 (by kernel_rfl) h with ⟨hcs, _⟩ | ⟨y, l, c, zs, hcs, _, hl, hm, hz, _, hcell, hwz⟩
  · simp at hcs
    exact ⟨⟨none, 0, 0, []⟩, hcs, IsRow.row (zs := []) (.inl ⟨rfl, rfl, rfl, rfl⟩)⟩
  · simp at hcs
    exact ⟨⟨some y, l, c, zs.take l⟩, hcs, IsRow.row (.inr ⟨_, rfl, hl, hm, by simpa using hz, hcell, hwz⟩)⟩
theorem open_rows {H : Type} {enc : TypeId × Value → H} {w : World} {base : Nat} {held : Bool} {a : Option Addr} {len cap fuel : Nat} {cs : List Value} {x : DataW H × List MemPlace} (hcs : cs = [.slice a len cap]) (h : DataW.trod enc Try.prog w base (fun _ => true) held fuel 46 cs = some x) :
    ∃ ps, RRow w a len cap ps := by
  rcases open_slice1 Try.underlying46 cellsBytes h with ⟨e, _⟩ | ⟨a', len', cap', m, n, V, D, Pl, e, _, hl, hm, hmm, _, hx⟩
  · rw [hcs] at e
    simp at e
    obtain ⟨rfl, rfl, rfl⟩ := e
    exact ⟨fun _ => ⟨none, 0, 0, []⟩, ⟨by omega, .inl rfl, fun i hi => by omega⟩⟩
  · rw [hcs] at e
    simp at e
    obtain ⟨rfl, rfl, rfl⟩ := e
    rw [if_pos rfl] at hmm
    subst hmm
    obtain ⟨ps, hps⟩ := choose_lt (α := Piece) (n := m) (p := fun i q => V i = .slice q.a q.len q.cap ∧ Row w q.a q.len q.cap q.l) (fun i hi => open_row_u8 (hx i hi).2)
    unfold maxLen at hm
    refine ⟨ps, ⟨by omega, ?_, fun i hi => (hps i (by omega)).2⟩⟩
    rcases Nat.eq_zero_or_pos len with h0 | h0
    · exact .inl h0
    · obtain ⟨b, off, spot⟩ := a'
      have hc := (hx 0 (by omega)).1
      have hspot : spot = none := by simpa [Addr.add] using World.cell?_spot hc
      subst hspot
      refine .inr ⟨b, off, rfl, fun i hi => ?_⟩
      have hci := (hx i (by omega)).1
      rw [(hps i (by omega)).1] at hci
      by_cases hi0 : i = 0
      · subst hi0; simpa [Addr.add] using hci
      · simpa [Addr.add, hi0] using hci

/-! a file that grows at its end -/
theorem laidL_end (l part : List Int) : laidL l l.length part = l ++ part := by
  by_cases h : part = []
  · subst h; rw [laidL_nil, List.append_nil]
  · rw [laidL, if_neg h, show l.length + part.length - l.length = part.length by omega]
    unfold splice
    rw [List.take_left' rfl, List.drop_eq_nil_of_le (by simp), List.append_nil]
theorem FileA.write_end (A : FileA) (part : List Int) : (A.write A.now.length part).now = A.now ++ part := by
  unfold FileA.write
  by_cases h : part = []
  · rw [if_pos h, h, List.append_nil]
  · rw [if_neg h]
    exact laidL_end _ _
theorem str_size (l : List Int) : (str l).size = l.length := by simp [str, ByteArray.size]
theorem str_append (l r : List Int) : str l ++ str r = str (l ++ r) := by
  apply ByteArray.ext
  simp [str]
end Go.Proofs.Ytpbffjpghnijkaa.disk
