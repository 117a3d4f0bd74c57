/-
  FOR 'ShaTwo' and its like: hashes beside one another, a piece of a slice that came in.
-/
import Derived.Test.YtchbfcegonlhoaaDoorShaBegun
import Derived.Test.YtchbfcegonlhoaaDoorArrEq
import Derived.Test.YtchbfcegonlhoaaDoorShaFrame
namespace Go.Proofs.YtchbfcegonlhoaaDoor.sha
open Go.RowKit

theorem IsHash.lt {w : World} {g : Nat} {t : List Int} (h : IsHash w g t) : g < w.heap.size := by obtain ⟨_, _, _, h⟩ := h; exact h.lt
theorem IsHash.kept {w w' : World} {g : Nat} {t : List Int} (h : IsHash w g t) (hb : Below w.heap.size w w') : IsHash w' g t := by
  obtain ⟨j, a, b, c⟩ := h; exact ⟨j, a, b, c.kept hb⟩
theorem IsHash.apart {w w' : World} {g g' : Nat} {t : List Int} (h : IsHash w g t) (hb : w.grownBy w' (some g')) (hg : g ≠ g') : IsHash w' g t := by
  obtain ⟨j, a, b, c⟩ := h; exact ⟨j, a, b, c.grown hb (by simpa using hg)⟩
theorem take_next (l : List Int) (k : Nat) (h : k < l.length) : l.take (k + 1) = l.take k ++ [l.getD k 0] := by
  rw [List.take_succ_eq_append_getElem h, List.getD_eq_getElem?_getD, List.getElem?_eq_getElem h]; rfl
theorem take_same (l : List Int) (k : Nat) (h : l.length ≤ k) : l.take k = l.take (k + 1) := by
  rw [List.take_of_length_le h, List.take_of_length_le (by omega)]
theorem Byte.one {l : List Int} (h : Byte l) {k : Nat} (hk : k < l.length) : Byte [l.getD k 0] := by
  intro c hc; rw [List.mem_singleton] at hc; subst hc; exact h.at hk
theorem Row.piece {w wr : World} {a : Option Addr} {len cap : Nat} {l : List Int} (h : Row w a len cap l) (hb : Below w.heap.size w wr) (k : Nat) (hk : k < len) (g : Nat) (hg : w.heap.size ≤ g) :
    ∃ b off, a = some ⟨b, off, none⟩ ∧ Leads wr (some ⟨b, off + k, none⟩) [l.getD k 0] ∧ Past g (some ⟨b, off + k, none⟩) [l.getD k 0] := by
  have hl := h.length
  rcases h.bytes with h0 | ⟨b, off, rfl, hc⟩
  · rw [h0] at hl; simp at hl; omega
  · refine ⟨b, off, rfl, .inr ⟨b, off + k, rfl, fun i hi => ?_⟩, .inr fun b' off' e => ?_⟩
    · have hi0 : i = 0 := by simpa using hi
      subst hi0
      have hck := hc k (by omega)
      rw [Nat.add_zero, hb.cell (p := ⟨b, off + k, none⟩) (block_lt_of_cell hck), hck]; rfl
    · have hck := block_lt_of_cell (hc k (by omega))
      injection e with e; injection e with e1 e2
      have : b < w.heap.size := hck
      omega

end Go.Proofs.YtchbfcegonlhoaaDoor.sha
