/-
  BYTES APPENDED TO A SLICE THAT IS FULL: a new row of the call's own.
-/
import Derived.Test.YtchbfcegonlhoaaDoorOwn
namespace Go.Proofs.YtchbfcegonlhoaaDoor.sha
open Go.RowKit
theorem append_full {w : World} (b : Addr) (xs : List Int) (n : Nat) (hn : xs.length = n) (hb : Leads w (some b) xs) (a : Addr) (ys : List Int) (m cap : Nat) (hm : ys.length = m) (ha : Leads w (some a) ys) (h0 : 0 < m) (hs : n + m ≤ 1000000) :
    ∃ c w', (Builtin.append_ #[22, 22] 22 #[.slice (some b) n n, .slice (some a) m cap]).run Tryd.prog w = .ok (.slice (some ⟨w.heap.size, 0, none⟩) (n + m) c) w' ∧ Own w' w.heap.size (.slice (some ⟨w.heap.size, 0, none⟩) (n + m) c) (xs ++ ys) ∧ Below w.heap.size w w' := by
  subst hn
  subst hm
  obtain ⟨i0, hi, hz0, hz1, hz2⟩ := info_parts byte_info
  have cells : ∀ (p : Addr) (l : List Int), Leads w (some p) l → ∀ j u, (u8s l)[j]? = some u → w.cell? (p.add j) = some u := by
    intro p l hl j u hu
    rcases hl with rfl | ⟨g, off, he', hc⟩
    · simp [u8s] at hu
    · have hj : j < l.length := by
        have := (List.getElem?_eq_some_iff.1 hu).1
        rwa [u8s_length] at this
      rw [u8s_at l hj] at hu
      obtain rfl : p = ⟨g, off, none⟩ := Option.some.inj he'
      rw [← hu, ← hc j hj, Addr.add_mid]
  have hge := grownCap_ge w (xs.length + ys.length) xs.length 5
  have hcm : grownCap w (xs.length + ys.length) xs.length 5 ≤ maxLen := grownCap_le_maxLen w (xs.length + ys.length) xs.length 5 (by unfold maxLen; omega)
  have hr := run_append_grow (P := Tryd.prog) w 22 22 5 i0 (.int .u8 0) Tryd.underlying22 hi hz0 b xs.length xs.length (u8s xs) (by rw [u8s_length, hz1, Nat.mul_one]) (cells b xs hb) a ys.length cap (u8s ys) (by rw [u8s_length, hz1, Nat.mul_one]) (cells a ys ha) (by omega) (by omega) (growslice_fits (by omega) (by rw [hz2]; omega))
  have hzc : (Value.int .u8 0).cells = #[Value.int .u8 0] := rfl
  rw [hzc] at hr
  refine ⟨_, _, hr, ?_, ((below_draws (Below.refl _ _) 1).alloc (Nat.le_refl _) _)⟩
  unfold Own
  rw [List.length_append]
  refine ⟨by rw [u8s_length, List.length_append, Nat.mul_one], .inr ⟨w.heap.size, _, _, rfl, Nat.le_refl _, heap_alloc_new w.drew _, hge, hcm, ?_, ?_⟩⟩
  · simp only [Array.size_append, List.size_toArray, size_zeroCells, u8s_length, List.length_cons, List.length_nil]
    omega
  · simp only [Array.toList_append, Nat.mul_one]
    have hl : (u8s (xs ++ ys)).length = xs.length + ys.length := by rw [u8s_length, List.length_append]
    rw [show (u8s xs).toArray.toList ++ (u8s ys).toArray.toList = u8s (xs ++ ys) by simp [u8s], ← hl]
    exact List.take_left
end Go.Proofs.YtchbfcegonlhoaaDoor.sha
