/-
  FOR 'MacKeys': a nought behind a key; a copy of a key with a nought behind it, the steps in either order.
-/
import Derived.Test.YtchbfcegonlhoaaDoorMacSteps
import Derived.Test.YtchbfcegonlhoaaDoorRefMac
namespace Go.Proofs.YtchbfcegonlhoaaDoor.sha
open Go.RowKit

theorem tagOf_nought {K : List Int} (h : K.length < 64) (b : List Int) : tagOf (K ++ [0]) b = tagOf K b := by
  have e : block (K ++ [0]) = block K := by
    rw [block_short (by rw [List.length_append]; simp; omega), block_short (by omega), onto, onto, List.length_append, List.append_assoc]
    congr 1
    show 0 :: List.replicate (64 - (K.length + 1)) 0 = List.replicate (64 - K.length) 0
    rw [← List.replicate_succ]
    congr 1
    omega
  unfold tagOf
  rw [e]

theorem leads_zero (w : World) : Leads (w.alloc (.cells #[.int .u8 0] 5)) (some ⟨w.heap.size, 0, none⟩) [0] := Leads.of_whole (o := 0) (n := 1) (Whole.new_ (l := u8s [0]) rfl rfl) rfl
theorem below_zero (w : World) : Below w.heap.size w (w.alloc (.cells #[.int .u8 0] 5)) := (Below.refl _ _).alloc (Nat.le_refl _) _

theorem own_row {w : World} {base : Nat} {v : Value} {l : List Int} {m : Nat} (h : Own w base v l) (hl : l.length = m) (hy : Byte l) : ∃ A c, v = .slice A m c ∧ Row w A m c l := by
  subst hl
  obtain ⟨A, c, rfl, f1, f2, f3, f4, _, _⟩ := h.form
  exact ⟨A, c, rfl, rfl, f1, f2, f3, f4, hy⟩

/-- The copy first, the nought then. -/
theorem nought_a {w : World} (g n : Nat) (K : List Int) (hR : Row w (some ⟨g, 0, none⟩) n n K) (hn : n ≤ 1000) :
    ∃ v5 w5 A7 c7 w7, (Builtin.append_ #[22, 22] 22 #[.slice none 0 0, .slice (some ⟨g, 0, none⟩) n n]).run Tryd.prog w = .ok v5 w5 ∧
      (Builtin.append_ #[22, 22] 22 #[v5, .slice (some ⟨w5.heap.size, 0, none⟩) 1 1]).run Tryd.prog (w5.alloc (.cells #[.int .u8 0] 5)) = .ok (.slice A7 (n + 1) c7) w7 ∧
      Row w7 A7 (n + 1) c7 (K ++ [0]) ∧ Below w.heap.size w w5 ∧ Below w.heap.size w (w5.alloc (.cells #[.int .u8 0] 5)) ∧ Below w.heap.size w w7 := by
  obtain ⟨v5, w5, run5, own5, bel5, _, _⟩ := append_row (Own.none_ w w.heap.size) (some ⟨g, 0, none⟩) n n K hR.bytes hR.length (fun e => by cases e) (by simp; omega) (Nat.le_refl _)
  rw [List.nil_append] at own5
  have b6 := bel5.trans ((below_zero w5).mono bel5.size)
  obtain ⟨v7, w7, run7, own7, bel7, _, _⟩ := append_row (own5.later (below_zero w5)) (some ⟨w5.heap.size, 0, none⟩) 1 1 [0] (leads_zero w5) rfl (fun e => by cases e) (by rw [hR.length]; omega) b6.size
  obtain ⟨A7, c7, rfl, row7⟩ := own_row own7 (m := n + 1) (by rw [List.length_append, hR.length]; rfl) (hR.byte.append (by intro c hc; simp at hc; omega))
  exact ⟨v5, w5, A7, c7, w7, run5, run7, row7, bel5, b6, b6.trans bel7⟩

/-- The nought first, the copy then. -/
theorem nought_b {w : World} (g n : Nat) (K : List Int) (hR : Row w (some ⟨g, 0, none⟩) n n K) (hn : n ≤ 1000) :
    ∃ v5 w5 A7 c7 w7, (Builtin.append_ #[22, 22] 22 #[.slice none 0 0, .slice (some ⟨g, 0, none⟩) n n]).run Tryd.prog (w.alloc (.cells #[.int .u8 0] 5)) = .ok v5 w5 ∧
      (Builtin.append_ #[22, 22] 22 #[v5, .slice (some ⟨w.heap.size, 0, none⟩) 1 1]).run Tryd.prog w5 = .ok (.slice A7 (n + 1) c7) w7 ∧
      Row w7 A7 (n + 1) c7 (K ++ [0]) ∧ Below w.heap.size w (w.alloc (.cells #[.int .u8 0] 5)) ∧ Below w.heap.size w w5 ∧ Below w.heap.size w w7 := by
  have b0 := below_zero w
  have l0 := leads_zero w
  have r0 := hR.later b0
  have e : (w.alloc (.cells #[.int .u8 0] 5)).heap.size = w.heap.size + 1 := by simp
  obtain ⟨v5, w5, run5, own5, bel5, _, _⟩ := append_row (Own.none_ (w.alloc (.cells #[.int .u8 0] 5)) (w.heap.size + 1)) (some ⟨g, 0, none⟩) n n K r0.bytes r0.length (fun e => by cases e) (by simp; omega) (by omega)
  rw [List.nil_append] at own5
  rw [← e] at bel5 own5
  obtain ⟨v7, w7, run7, own7, bel7, _, _⟩ := append_row own5 (some ⟨w.heap.size, 0, none⟩) 1 1 [0] (l0.later bel5) rfl (fun e => by cases e) (by rw [hR.length]; omega) bel5.size
  obtain ⟨A7, c7, rfl, row7⟩ := own_row own7 (m := n + 1) (by rw [List.length_append, hR.length]; rfl) (hR.byte.append (by intro c hc; simp at hc; omega))
  have b5 := b0.trans (bel5.mono (by omega))
  exact ⟨v5, w5, A7, c7, w7, run5, run7, row7, b0, b5, b5.trans (bel7.mono (by omega))⟩
end Go.Proofs.YtchbfcegonlhoaaDoor.sha
