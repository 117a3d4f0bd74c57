/-
  THE WALK OF 'stillroomlaw7.begun': one record among others.
-/
import Derived.Test.YtodajceiadbpeaaDoorScAll
import Derived.Test.YtodajceiadbpeaaDoorScFront
import Derived.Test.YtodajceiadbpeaaDoorRcREnc
import Derived.Lib.SlBytesConst
namespace Go.Proofs.YtodajceiadbpeaaDoor.scan
open Go.RowKit Go.Proofs.YtodajceiadbpeaaDoor.disk Go.Proofs.YtodajceiadbpeaaDoor.recd Go.Proofs.YtodajceiadbpeaaDoor.num
set_option linter.unusedVariables false

/-- Bytes appended to a slice that is full: a new row of the call's own. -/
theorem append_full {w : World} (b : Addr) (xs : List Int) (n : Nat) (hn : xs.length = n) (hb : Leads w (some b) xs) (a : Addr) (ys : List Int) (m cap : Nat) (hm : ys.length = m) (ha : Leads w (some a) ys) (h0 : 0 < m) (hs : n + m ≤ 1000000) :
    ∃ c w', (Builtin.append_ #[26, 26] 26 #[.slice (some b) n n, .slice (some a) m cap]).run Tryd.prog w = .ok (.slice (some ⟨w.heap.size, 0, none⟩) (n + m) c) w' ∧ Own w' (.slice (some ⟨w.heap.size, 0, none⟩) (n + m) c) (xs ++ ys) ∧ Below w.heap.size w w' ∧ n + m ≤ c := by
  subst hn
  subst hm
  obtain ⟨i0, hi, hz0, hz1, hz2⟩ := info_parts byte_info
  have cells : ∀ (p : Addr) (l : List Int), Leads w (some p) l → ∀ j u, (u8s l)[j]? = some u → w.cell? (p.add j) = some u := by
    intro p l hl j u hu
    rcases hl with rfl | ⟨g, off, he', hc⟩
    · simp [u8s] at hu
    · have hj : j < l.length := by
        have := (List.getElem?_eq_some_iff.1 hu).1
        rwa [u8s_length] at this
      rw [u8s_at l hj] at hu
      obtain rfl : p = ⟨g, off, none⟩ := Option.some.inj he'
      rw [← hu, ← hc j hj, Addr.add_mid]
  have hge := grownCap_ge w (xs.length + ys.length) xs.length 5
  have hcm : grownCap w (xs.length + ys.length) xs.length 5 ≤ maxLen := grownCap_le_maxLen w (xs.length + ys.length) xs.length 5 (by unfold maxLen; omega)
  have hr := run_append_grow (P := Tryd.prog) w 26 26 5 i0 (.int .u8 0) Tryd.underlying26 hi hz0 b xs.length xs.length (u8s xs) (by rw [u8s_length, hz1, Nat.mul_one]) (cells b xs hb) a ys.length cap (u8s ys) (by rw [u8s_length, hz1, Nat.mul_one]) (cells a ys ha) (by omega) (by omega) (growslice_fits (by omega) (by rw [hz2]; omega))
  have hzc : (Value.int .u8 0).cells = #[Value.int .u8 0] := rfl
  rw [hzc] at hr
  refine ⟨_, _, hr, ?_, ((below_draws (Below.refl _ _) 1).alloc (Nat.le_refl _) _), hge⟩
  unfold Own
  rw [List.length_append]
  refine ⟨by rw [u8s_length, List.length_append, Nat.mul_one], .inr ⟨w.heap.size, _, _, rfl, Nat.zero_le _, heap_alloc_new w.drew _, hge, hcm, ?_, ?_⟩⟩
  · simp only [Array.size_append, List.size_toArray, size_zeroCells, u8s_length, List.length_cons, List.length_nil]
    omega
  · simp only [Array.toList_append, Nat.mul_one]
    have hl : (u8s (xs ++ ys)).length = xs.length + ys.length := by rw [u8s_length, List.length_append]
    rw [show (u8s xs).toArray.toList ++ (u8s ys).toArray.toList = u8s (xs ++ ys) by simp [u8s], ← hl]
    exact List.take_left
theorem leads_new (w : World) (l : List Int) (fr : Nat × Nat) : Leads (w.alloc (.cells (u8s l).toArray 5 fr)) (some ⟨w.heap.size, 0, none⟩) l := by
  refine .inr ⟨_, 0, rfl, fun i hi => ?_⟩
  have h : (w.alloc (.cells (u8s l).toArray 5 fr)).heap[w.heap.size]? = some (.cells (u8s l).toArray 5 fr) := heap_alloc_new w _
  rw [cell_of_row _ w.heap.size (0 + i) (u8s l).toArray 5 fr h, List.getElem?_toArray, Nat.zero_add]
  exact u8s_at l hi

def junk : List Int := [106, 117, 110, 107, 83]
def begR : Rec := ⟨2, 0, 0, 0, 0, ⟨#[120]⟩⟩
theorem begR_may : mayB begR = true := by decide
theorem beg_rest : rest (junk ++ encL begR) 0 = [⟨5, begR⟩] := by decide +kernel
theorem beg_front : front (junk ++ encL begR) 0 = ([], 0) := by decide +kernel
theorem junk_byte : Byte junk := by unfold Byte junk; decide

set_option maxRecDepth 100000 in
set_option maxHeartbeats 2000000 in
theorem begun_any (w : World) (hT : crc.Tab w) : Calls Tryd.prog 7 #[] w fun e w' => e = .returned (.bool true) ∧ Below w.heap.size w w' := by
  have C : Hid (∀ W, Calls Tryd.prog 10 #[.agg #[.int .i64 2, .int .u32 0, .int .u64 0, .int .u64 0, .int .u64 0, .string ⟨#[120]⟩]] W (Made W (enc begR))) := fun W => REncode_any begR W ⟨by decide, by decide, by decide⟩
  have HT := Lib.hid hT
  have kc := fun (w : World) (C : Array Value) (n c : Nat) => Lib.run_convert_bytes_const (P := Tryd.prog) w 26 5 C n c Tryd.underlying26 Tryd.underlying5
  clear hT
  go_enter Tryd.func7, Tryd.ntmps7
  go_wp2_with fail
  have b0 : Below w.heap.size w (w.alloc (.cells #[.int .u8 106, .int .u8 117, .int .u8 110, .int .u8 107, .int .u8 83] 5 (5, 6))) := (Below.refl _ _).alloc (Nat.le_refl _) _
  have l0 : Leads (w.alloc (.cells #[.int .u8 106, .int .u8 117, .int .u8 110, .int .u8 107, .int .u8 83] 5 (5, 6))) (some ⟨w.heap.size, 0, none⟩) junk := leads_new w junk (5, 6)
  refine (C.out _).mono ?_
  rintro en w1 hm
  rw [enc, if_pos begR_may] at hm
  obtain ⟨v, rfl, o1, _, b1⟩ := hm
  have hl : (encL begR).length = 40 := encL_length begR
  obtain ⟨a, cap, ev, hc, _, hnil, l1, _⟩ := o1.form
  rw [hl] at ev hc hnil
  subst ev
  obtain ⟨ad, rfl⟩ : ∃ ad, a = some ad := by
    cases a with
    | none => have := hnil rfl; omega
    | some ad => exact ⟨ad, rfl⟩
  obtain ⟨c2, w2, r2, o2, b2, hc2⟩ := append_full ⟨w.heap.size, 0, none⟩ junk 5 rfl (l0.later b1) ad (encL begR) 40 cap hl l1 (by decide) (by decide)
  have hr := beg_rest
  have hf := beg_front
  have hby := junk_byte.append (encL_byte begR)
  have hln : (junk ++ encL begR).length = 45 := by rw [List.length_append, hl]; rfl
  obtain ⟨L, hL⟩ : ∃ L, junk ++ encL begR = L := ⟨_, rfl⟩
  rw [hL] at hr hf hby hln o2
  have hl2 : Leads w2 (some ⟨w1.heap.size, 0, none⟩) L := by
    obtain ⟨a', c', e, -, -, -, hl, -⟩ := o2.form
    injection e with e1 e2 e3
    subst e1
    exact hl
  have B2 := Lib.hid (b0.trans ((b1.trans (b2.mono b1.size)).mono b0.size))
  have R2 := Lib.hid r2
  have HL2 := Lib.hid hl2
  have HR := Lib.hid hr
  have HFR := Lib.hid hf
  have HBY := Lib.hid hby
  have HLN := Lib.hid hln
  clear b0 l0 o1 b1 hl hnil l1 r2 o2 b2 hr hf hby hln hL hl2 C kc
  go_wp2_with ((with_reducible show wpList _ _ _ (⟨some 9, _, _, _, _, _⟩ :: _) _ _); refine wpList_append_run 26 (.tmp 6) (.tmp 8) _ _ rfl rfl rfl rfl rfl R2.out ?_)
  have ca := All_any (some ⟨w1.heap.size, 0, none⟩) 45 c2 L w2 (HT.out.later B2.out) HL2.out HBY.out HLN.out hc2 (by decide)
  rw [HR.out] at ca
  refine ca.mono ?_
  rintro en w3 ⟨v3, rfl, g3⟩
  have cf := Front_any (some ⟨w1.heap.size, 0, none⟩) 45 c2 L w3 (HT.out.later (B2.out.trans (g3.below.mono B2.out.size))) (HL2.out.later g3.below) HBY.out HLN.out hc2 (by decide)
  rw [HFR.out] at cf
  have HCF := Lib.hid cf
  obtain ⟨g, c3, rfl, hc3, hm3, hg3, cells3⟩ : ∃ g cap, v3 = .slice (some ⟨g, 0, none⟩) 1 cap ∧ 1 ≤ cap ∧ cap ≤ 9223372036854775807 ∧ g < w3.heap.size ∧ ∀ i (hi : i < [(⟨5, begR⟩ : Fd)].length), ∀ j, j < fS.sz → w3.cell? ⟨g, i * fS.sz + j, none⟩ = (fS.cells [(⟨5, begR⟩ : Fd)][i])[j]? := by
    rcases g3.own.form with ⟨_, e⟩ | ⟨g, cap, e, h1, h2, h3, h4⟩
    · cases e
    · exact ⟨g, cap, e, h1, h2, h3, h4⟩
  have d0 : w3.cell? ⟨g, 0, none⟩ = some (.int .i64 5) := cells3 0 (by decide) 0 (by decide)
  have d6 : w3.cell? ⟨g, 6, none⟩ = some (.string ⟨#[120]⟩) := cells3 0 (by decide) 6 (by decide)
  have B3 := Lib.hid (B2.out.trans (g3.below.mono B2.out.size))
  have D0 := Lib.hid d0
  have D6 := Lib.hid d6
  have HG3 := Lib.hid hg3
  clear ca cf g3 cells3 d0 d6 hg3 HL2 HR HFR HBY HLN R2 B2
  go_wp2_with fail
  refine HCF.out.mono ?_
  rintro en w4 ⟨v4, rfl, g4⟩
  obtain ⟨a4, c4, rfl⟩ : ∃ a c, v4 = .slice a 0 c := by
    rcases g4.own.form with ⟨e, _⟩ | ⟨g, cap, e, _⟩
    · exact ⟨_, _, e⟩
    · exact ⟨_, _, e⟩
  have b4 := g4.below
  have e0 : w4.cell? ⟨g, 0, none⟩ = some (.int .i64 5) := (b4.cell (p := ⟨g, 0, none⟩) HG3.out).trans D0.out
  have e6 : w4.cell? ⟨g, 6, none⟩ = some (.string ⟨#[120]⟩) := (b4.cell (p := ⟨g, 6, none⟩) HG3.out).trans D6.out
  have B4 := Lib.hid (B3.out.trans (b4.mono B3.out.size))
  clear g4 b4 D0 D6 HG3 B3 HCF HT
  go_wp2_with fail
  go_ret
  exact ⟨rfl, B4.out⟩
end Go.Proofs.YtodajceiadbpeaaDoor.scan
