/-
  FOR THE WALK OF the reference's "below": rows that lie apart, fresh ones, and what the comparison says.
-/
import Derived.Test.YtchbfcegonlhoaaDoorRefTimes
import Derived.Deep.Onto
namespace Go.Proofs.YtchbfcegonlhoaaDoor.sha
open Go.RowKit

def lenOfN : Value → Nat
  | .slice _ n _ => n
  | _ => 0
def Apart (x y : Value) : Prop := ∀ g, x.ownBlock = some g → y.ownBlock = some g → False
theorem Apart.symm {x y : Value} (h : Apart x y) : Apart y x := fun g h1 h2 => h g h2 h1

section
variable {E : TypeId} {kd : IntKind} {w w' : World} {base : Nat} {v : Value} {l : List Int}
theorem OwnN.low (h : OwnN E kd w base v l) {b' : Nat} (hb : b' ≤ base) : OwnN E kd w b' v l := World.ownsRow.mono h hb
theorem OwnN.fresh (E : TypeId) (kd : IntKind) (w : World) (base : Nat) (c : Int) (hb : base ≤ w.heap.size) :
    OwnN E kd (w.alloc (.cells #[.int kd c] E)) base (.slice (some ⟨w.heap.size, 0, none⟩) 1 1) [c] := by
  unfold OwnN World.ownsRow
  refine ⟨by simp [ns], .inr ⟨w.heap.size, 1, _, rfl, hb, heap_alloc_new w _, by simp, by unfold maxLen; omega, by simp, by simp [ns]⟩⟩
theorem OwnN.len (h : OwnN E kd w base v l) : lenOfN v = l.length := by
  rcases h.2 with ⟨rfl, h0⟩ | ⟨g, cap, cur, rfl, _⟩
  · rw [h0]; rfl
  · rfl
theorem OwnN.shape (h : OwnN E kd w base v l) {n : Nat} (hn : l.length = n) :
    ∃ a cap, v = .slice a n cap ∧ n ≤ cap ∧ (a = none → n = 0 ∧ cap = 0) ∧ Holds kd w a l := by
  obtain ⟨a, cap, hv, h1, _, h2, h3, _⟩ := h.form
  subst hn
  exact ⟨a, cap, hv, h1, h2, h3⟩
theorem OwnN.block (h : OwnN E kd w base v l) {n : Nat} (hn : l.length = n) (h0 : 0 < n) : ∃ g cap, v = .slice (some ⟨g, 0, none⟩) n cap ∧ base ≤ g ∧ g < w.heap.size := by
  subst hn
  exact World.ownsRow.form h h0
theorem OwnN.apart (h : OwnN E kd w base v l) {x : Value} (hx : Apart x v) (hg : w.grownBy w' x.ownBlock) : OwnN E kd w' base v l :=
  h.keep hg (by
    cases he : v.ownBlock with
    | none => exact .inl rfl
    | some g => exact .inr (fun e => hx g e.symm he))
theorem OwnN.apart_low (h : OwnN E kd w base v l) {x : Value} (hx : ∀ g, x.ownBlock = some g → g < base) : Apart x v := fun g h1 h2 => by
  have := (World.ownsRow.lt h g h2).1
  have := hx g h1
  omega
theorem OwnN.owns (h : OwnN E kd w base v l) {n : Nat} (hn : l.length = n) : w.ownsRow base E 1 v n (ns kd l) := by subst hn; exact h
end

theorem apart_new {E : TypeId} {kd : IntKind} {w : World} {base : Nat} {y v : Value} {l : List Int} (hy : OwnN E kd w base y l) (hap : Apart v y) {g n c : Nat} (h : v.ownBlock = some g ∨ g = w.heap.size + 1) : Apart (.slice (some ⟨g, 0, none⟩) n c) y := by
  intro g' h1 h2
  have e : g = g' := by simpa [Value.ownBlock] using h1
  subst e
  rcases h with h | h
  · exact hap g h h2
  · have := (World.ownsRow.lt hy g h2).2
    omega

theorem fits_iff (n k m : Nat) : fits n k m = decide ((m : Int) ^ k ≤ (n : Int) * 65536 ^ (2 * k)) := by
  unfold fits
  rw [decide_eq_decide, ← Int.ofNat_le]
  have e : ((2 ^ (32 * k) : Nat) : Int) = 65536 ^ (2 * k) := by
    rw [Int.natCast_pow, show 32 * k = 16 * (2 * k) by omega, Int.pow_mul]; rfl
  rw [Int.natCast_mul, e, Int.natCast_pow]
theorem val_pad (l : List Int) : val (l ++ [0]) = val l := by rw [val_snoc, Int.zero_mul, Int.add_zero]
theorem Dig.pad {l : List Int} (h : Dig l) : Dig (l ++ [0]) := h.append (Dig.zeros 1)
theorem Dig.front {l : List Int} (h : Dig l) : Dig (0 :: l) := Dig.append (Dig.zeros 1) h
theorem val_front (l : List Int) (n : Int) (j : Nat) (h : val l = n * 65536 ^ j) : val (0 :: l) = n * 65536 ^ (j + 1) := by
  rw [val, h, Int.pow_succ, Int.zero_add, Int.mul_comm 65536, Int.mul_assoc]
theorem len_pos {l : List Int} (h : val l ≠ 0) : 0 < l.length := by
  cases l with
  | nil => exact absurd rfl h
  | cons c r => simp
theorem drop_same {x y : List Int} {j : Nat} (hx : j < x.length) (hy : j < y.length) (h : x.drop (j + 1) = y.drop (j + 1)) (e : x.getD j 0 = y.getD j 0) : x.drop j = y.drop j := by
  rw [List.drop_eq_getElem_cons hx, List.drop_eq_getElem_cons hy, h]
  rw [List.getD_eq_getElem?_getD, List.getElem?_eq_getElem hx, List.getD_eq_getElem?_getD, List.getElem?_eq_getElem hy] at e
  simp only [Option.getD_some] at e
  rw [e]
end Go.Proofs.YtchbfcegonlhoaaDoor.sha
