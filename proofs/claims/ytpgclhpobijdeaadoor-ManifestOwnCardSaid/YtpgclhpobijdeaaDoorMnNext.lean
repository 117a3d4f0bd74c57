/-
  CONTRACT of (*manifest.reader).next.
-/
import Derived.Test.YtpgclhpobijdeaaDoorMnPut
namespace Go.Proofs.YtpgclhpobijdeaaDoor.man
open Go.RowKit Go.Proofs.YtpgclhpobijdeaaDoor.disk Go.Proofs.YtpgclhpobijdeaaDoor.recd Go.Proofs.YtpgclhpobijdeaaDoor.num Go.Proofs.YtpgclhpobijdeaaDoor.scan
set_option linter.unusedVariables false

/-- Bytes that are still to be read. -/
structure Rdr (w : World) (r : Nat) (b : List Int) : Prop where
  byte : Byte b
  box : ∃ a n cap, Whole w r 95 [.slice a n cap] ∧ Leads w a b ∧ b.length = n ∧ n ≤ cap ∧ cap ≤ 9223372036854775807 ∧ (a = none → n = 0 ∧ cap = 0) ∧ (a = none ∨ ∃ g off, a = some ⟨g, off, none⟩ ∧ g < r)
theorem Rdr.turned {R : Nat → Prop} {w w' : World} {r : Nat} {b : List Int} (h : Rdr w r b) (ht : Turn R w w') (hr : ∀ k, k ≤ r → ¬ R k) : Rdr w' r b := by
  obtain ⟨a, n, cap, h1, h2, h3, h4, h5, h6, h7⟩ := h.box
  exact ⟨h.byte, a, n, cap, Whole.same h1 (ht.block r h1.lt (hr r (Nat.le_refl _))), h2.turned ht fun g off e _ => hr g (by
    rcases h7 with h7 | ⟨g', off', e', hlt⟩
    · rw [h7] at e; cases e
    · rw [e'] at e; injection e with e; injection e with e; omega), h3, h4, h5, h6, h7⟩
def NextOut (w : World) (r : Nat) (b : List Int) (e : Ending) (w' : World) : Prop := e = .returned (.int .u64 ((rd b : Nat) : Int)) ∧ Turn (fun k => k = r) w w' ∧ Rdr w' r (b.drop 6) ∧ w'.heap.size = w.heap.size
set_option maxRecDepth 100000 in
theorem rdNext_any (w : World) (r : Nat) (b : List Int) (h : Rdr w r b) : Calls Tryd.prog 52 #[.pointer (some ⟨r, 0, none⟩)] w (NextOut w r b) := by
  obtain ⟨a, n, cap, h1, h2, h3, h4, h5, h6, h7⟩ := h.box
  have hb := h.byte
  obtain ⟨m, hm⟩ : ∃ m, min 6 n = m := ⟨_, rfl⟩
  have hm6 : m ≤ 6 := by omega
  have hmn : m ≤ n := by omega
  have htk : b.take 6 = b.take m := by
    rcases Nat.le_total 6 n with hh | hh
    · rw [show m = 6 by omega]
    · rw [List.take_of_length_le (by omega), List.take_of_length_le (by omega)]
  have hdr : b.drop 6 = b.drop m := by
    rcases Nat.le_total 6 n with hh | hh
    · rw [show m = 6 by omega]
    · rw [List.drop_of_length_le (by omega), List.drop_of_length_le (by omega)]
  have hmin : ∀ V, (Builtin.min_ #[3, 3] 3 #[.int .i64 6, .int .i64 (n : Int)]).run Tryd.prog V = .ok (.int .i64 (m : Int)) V := fun V => by rw [← hm]; rw [Lib.run_min_ints]; congr 2; omega
  have hmI : (m : Int) ≤ 6 := by omega
  have hmnI : (m : Int) ≤ (n : Int) := by omega
  have hmcI : (m : Int) ≤ (cap : Int) := by omega
  have hncI : (n : Int) ≤ (cap : Int) := by omega
  have hcI : (cap : Int) ≤ 9223372036854775807 := by omega
  have hmc : m ≤ cap := by omega
  have c0 := h1.at_ 0
  simp only [List.getElem?_cons_zero] at c0
  have f0 := h1.free 0
  have CG := Lib.hid (show Calls Tryd.prog 66 #[.slice a m cap] w fun e w' => e = .returned (.int .u64 ((rd b : Nat) : Int)) ∧ w = w' by
    have := get_any a (b.take m) cap w (h2.take m) (hb.take m) (by rw [List.length_take]; omega) (by rw [List.length_take]; omega)
    rw [rd, htk]
    rwa [List.length_take, h3, Nat.min_eq_left hmn] at this)
  have FIN : ∀ a', (a' = none → n - m = 0 ∧ cap - m = 0) → Leads w a' (b.drop m) → (a' = none ∨ ∃ g off, a' = some ⟨g, off, none⟩ ∧ g < r) → NextOut w r b (.returned (.int .u64 ((rd b : Nat) : Int))) (w.setCell ⟨r, 0, none⟩ (.slice a' (n - m) (cap - m))) := fun a' ha' hl' hg' => by
    have tn : Turn (fun k => k = r) w (w.setCell ⟨r, 0, none⟩ (.slice a' (n - m) (cap - m))) := (Turn.refl _ _).setCell 0 _ (.inl rfl)
    refine ⟨rfl, tn, ⟨hb.drop 6, a', n - m, cap - m, h1.put 0 _, ?_, by rw [List.length_drop, h3]; omega, by omega, by omega, ha', hg'⟩, by simp⟩
    rw [hdr]
    exact hl'.turned tn fun g off e _ hgr => by
      rcases hg' with hg' | ⟨g', off', e', hlt⟩
      · rw [hg'] at e; cases e
      · rw [e'] at e; injection e with e; injection e with e; omega
  have HF := Lib.hid FIN
  rcases h7 with rfl | ⟨g, off, rfl, hgr⟩
  · obtain ⟨rfl, rfl⟩ := h6 rfl
    obtain rfl : m = 0 := by omega
    have b0 : b = [] := List.eq_nil_of_length_eq_zero h3
    have G := Lib.hid (HF.out none (fun _ => ⟨rfl, rfl⟩) (.inl (by rw [b0]; rfl)) (.inl rfl))
    clear h h1 h2 h3 h4 h5 hb htk hdr FIN HF hm hm6 hmn hmI hmnI hmcI hncI hcI hmc b0 h6
    go_enter Tryd.func52, Tryd.ntmps52
    go_wp2_with fail
    refine CG.out.mono ?_
    rintro e w' ⟨rfl, rfl⟩
    go_wp2_with fail
    go_ret
    exact G.out
  · by_cases hcm : cap = m
    · obtain rfl : n = cap := by omega
      subst hcm
      have G := Lib.hid (HF.out (some ⟨g, off, none⟩) (fun e => by cases e) (.inl (List.drop_of_length_le (by omega))) (.inr ⟨g, off, rfl, hgr⟩))
      clear h h1 h2 h3 h4 h5 hb htk hdr FIN HF hm hm6 hmn h6
      go_enter Tryd.func52, Tryd.ntmps52
      go_wp2_with fail
      refine CG.out.mono ?_
      rintro e w' ⟨rfl, rfl⟩
      go_wp2_with fail
      go_ret
      have := G.out
      rw [Nat.sub_self] at this
      exact this
    · have G := Lib.hid (HF.out (some ⟨g, off + m, none⟩) (fun e => by cases e) (h2.drop m) (.inr ⟨g, off + m, rfl, hgr⟩))
      clear h h1 h2 h3 h4 h5 hb htk hdr FIN HF hm hm6 hmn h6
      go_enter Tryd.func52, Tryd.ntmps52
      go_wp2_with fail
      refine CG.out.mono ?_
      rintro e w' ⟨rfl, rfl⟩
      go_wp2_with fail
      go_ret
      exact G.out
end Go.Proofs.YtpgclhpobijdeaaDoor.man
