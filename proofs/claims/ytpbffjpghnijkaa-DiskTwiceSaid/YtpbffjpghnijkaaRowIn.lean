/-
  WHAT ROWS SHARE: slices of bytes and of integers as a row reads them.
-/
import Derived.Test.YtpbffjpghnijkaaDkOwn
import Derived.Test.YtpbffjpghnijkaaRows
import Derived.ProofKit
import Derived.OpenShut
import Derived.ChangeOld
import Derived.Deep.DeepHandedRow
import Derived.Deep.Slices
import Derived.ChangeArms
namespace Go.Proofs.Ytpbffjpghnijkaa.disk
open Go.ChangeShapes Go.WideShapes Go.ChangeAt Go.RowKit Go.Deep

theorem own : ownKnob Try.prog.godebug = none := by kernel_rfl
theorem laidOut : laidOutB Try.prog = true := by kernel_rfl

/-- A slice of integers that came in: nil, or a row of 'cap' cells. -/
def IsRow (k : IntKind) (w : World) (a : Option Addr) (len cap : Nat) (zs : List Int) : Prop :=
  (a = none ∧ len = 0 ∧ cap = 0 ∧ zs = []) ∨
  ∃ x, a = some x ∧ len ≤ cap ∧ cap ≤ maxLen ∧ zs.length = cap ∧ (∀ i, i < zs.length → w.cell? (x.add i) = some (.int k (zs.getD i 0))) ∧ ∀ n ∈ zs, (Lit.int k n).wf = true

theorem IsRow.spot {k : IntKind} {w : World} {a : Option Addr} {len cap : Nat} {zs : List Int} (h : IsRow k w a len cap zs) :
    len ≤ cap ∧ cap ≤ 9223372036854775807 ∧ (a = none → len = 0 ∧ cap = 0) ∧ zs.length = cap ∧ (∀ n ∈ zs, (Lit.int k n).wf = true) ∧
    (cap = 0 ∨ ∃ b off, a = some ⟨b, off, none⟩ ∧ ∀ i, i < cap → w.cell? ⟨b, off + i, none⟩ = some (.int k (zs.getD i 0))) := by
  rcases h with ⟨rfl, rfl, rfl, rfl⟩ | ⟨x, rfl, hl, hm, hz, hcell, hwz⟩
  · refine ⟨by omega, by omega, fun _ => ⟨rfl, rfl⟩, rfl, ?_, .inl rfl⟩
    intro n hn; cases hn
  · unfold maxLen at hm
    refine ⟨hl, by omega, (fun e => by cases e), hz, hwz, ?_⟩
    rcases Nat.eq_zero_or_pos cap with h0 | h0
    · exact .inl h0
    · obtain ⟨b, off, spot⟩ := x
      have hc := hcell 0 (by omega)
      have hspot : spot = none := by simpa [Addr.add] using World.cell?_spot hc
      subst hspot
      refine .inr ⟨b, off, rfl, fun i hi => ?_⟩
      have hci := hcell i (by omega)
      by_cases hi0 : i = 0
      · subst hi0; simpa [Addr.add] using hci
      · simpa [Addr.add, hi0] using hci

theorem getD_take {l : List Int} {n i : Nat} (h : i < n) : (l.take n).getD i 0 = l.getD i 0 := by
  rw [List.getD_eq_getElem?_getD, List.getD_eq_getElem?_getD, List.getElem?_take_of_lt h]


/-- A slice of bytes that came in. -/
structure Row (w : World) (a : Option Addr) (len cap : Nat) (l : List Int) : Prop where
  length : l.length = len
  le : len ≤ cap
  most : cap ≤ 9223372036854775807
  nil : a = none → len = 0 ∧ cap = 0
  bytes : Leads w a l
  byte : Byte l
theorem Row.later {w w' : World} {a : Option Addr} {len cap : Nat} {l : List Int} (h : Row w a len cap l) (hb : Below w.heap.size w w') : Row w' a len cap l :=
  ⟨h.length, h.le, h.most, h.nil, h.bytes.later hb, h.byte⟩
theorem Row.short {w : World} {a : Option Addr} {len cap : Nat} {l : List Int} (h : Row w a len cap l) (n : Nat) : Row w a (min len n) cap (l.take n) :=
  ⟨by rw [List.length_take, h.length]; omega, by have := h.le; omega, h.most, fun e => by have := h.nil e; omega, h.bytes.take n, h.byte.take n⟩
/-- A slice of numbers that came in. -/
structure Nums (w : World) (a : Option Addr) (len : Nat) (l : List Int) : Prop where
  length : l.length = len
  most : len ≤ 9223372036854775807
  cells : len = 0 ∨ ∃ b off, a = some ⟨b, off, none⟩ ∧ ∀ i, i < len → w.cell? ⟨b, off + i, none⟩ = some (.int .i64 (l.getD i 0))
  small : ∀ i, i < len → -9223372036854775808 ≤ l.getD i 0 ∧ l.getD i 0 ≤ 9223372036854775807

theorem IsRow.row {w : World} {a : Option Addr} {len cap : Nat} {zs : List Int} (h : IsRow .u8 w a len cap zs) : Row w a len cap (zs.take len) := by
  obtain ⟨h1, h2, h3, h4, h5, h6⟩ := h.spot
  refine ⟨by rw [List.length_take]; omega, h1, h2, h3, ?_, ?_⟩
  · rcases h6 with h6 | ⟨b, off, rfl, hc⟩
    · exact .inl (by rw [show len = 0 by omega]; simp)
    · refine .inr ⟨b, off, rfl, fun i hi => ?_⟩
      rw [List.length_take] at hi
      rw [getD_take (by omega)]; exact hc i (by omega)
  · intro c hc
    have := h5 c (List.mem_of_mem_take hc)
    simp [Lit.wf, IntKind.min, IntKind.max, IntKind.signed, IntKind.bits] at this
    omega
theorem IsRow.nums {w : World} {a : Option Addr} {len cap : Nat} {zs : List Int} (h : IsRow .i64 w a len cap zs) : Nums w a len (zs.take len) := by
  obtain ⟨h1, h2, h3, h4, h5, h6⟩ := h.spot
  refine ⟨by rw [List.length_take]; omega, by omega, ?_, ?_⟩
  · rcases h6 with h6 | ⟨b, off, rfl, hc⟩
    · exact .inl (by omega)
    · refine .inr ⟨b, off, rfl, fun i hi => ?_⟩
      rw [getD_take (by omega)]; exact hc i (by omega)
  · intro i hi
    rw [getD_take hi, List.getD_eq_getElem?_getD, List.getElem?_eq_getElem (by omega)]
    have := h5 _ (List.getElem_mem (show i < zs.length by omega))
    simp [Lit.wf, IntKind.min, IntKind.max, IntKind.signed, IntKind.bits] at this
    simp
    omega

end Go.Proofs.Ytpbffjpghnijkaa.disk
