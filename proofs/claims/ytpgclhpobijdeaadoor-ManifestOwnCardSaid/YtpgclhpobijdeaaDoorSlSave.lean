/-
  CONTRACT of slots.(*File).Save (P9.1).
-/
import Derived.Test.YtpgclhpobijdeaaDoorSlDec
import Derived.Deep.RegionHeld3
namespace Go.Proofs.YtpgclhpobijdeaaDoor.slots
open Go.RowKit Go.Proofs.YtpgclhpobijdeaaDoor.disk Go.Proofs.YtpgclhpobijdeaaDoor.recd Go.Proofs.YtpgclhpobijdeaaDoor.num
set_option linter.unusedVariables false

theorem Held.turned {W : World} {X T : Nat → Prop} {w w' : World} {p n : Nat} {S : St} (h : Held W X w p S n) (ht : Turn T w w') (hT : ∀ k, T k → X k ∧ W.heap.size ≤ k) : Held W X w' p S n :=
  ⟨(h.disk.turned ht fun k hr hk => hr.2.2 (hT k hk).1).mono fun k hk hr => ⟨hr.1, hk, hr.2.2⟩, h.below.trans (ht.below (fun k hk => (hT k hk).2) h.below.size), fun k hk => Nat.lt_of_lt_of_le (h.user k hk) ht.size⟩
theorem Held.into {W : World} {X Y : Nat → Prop} {w : World} {p n : Nat} {S : St} (h : Held W X w p S n) (hXY : ∀ k, Y k → X k) : Held W Y w p S n := h.fewer hXY

/-- The blocks of a law's open file, and E. -/
def Hold (s : Nat) (tv : Value) (E : Nat → Prop) (k : Nat) : Prop := (k = s ∨ tv.ownBlock = some k) ∨ E k
/-- A text too long. -/
theorem save_large {w : World} {s p : Nat} {nm : ByteArray} {tv : Value} {x : List Int} {t k tr : Nat} (a : Option Addr) (m cap : Nat) (hm : 4080 < m) (hm2 : m ≤ 9223372036854775807) :
    Calls Tryd.prog 27 #[.pointer (some ⟨s, 0, none⟩), .slice a m cap] w fun e w' => e = .returned (.int .i64 9) ∧ w = w' := by
  have i1 : (4080 : Int) < (m : Int) := by omega
  go_enter Tryd.func27, Tryd.ntmps27
  go_wp2_with fail
  go_ret
  exact ⟨rfl, rfl⟩

/-- bytes.Clone of bytes that are read. -/
theorem clone_lead (w : World) (a : Option Addr) (m cap : Nat) (l : List Int) (hl : Leads w a l) (hm : l.length = m) (hn : m ≤ 100000000) :
    Calls Tryd.prog 42 #[.slice a m cap] w fun e w' => ∃ v', e = .returned v' ∧ Own w' v' l ∧ (∀ g, v'.ownBlock = some g → w.heap.size ≤ g) ∧ Below w.heap.size w w' := by
  subst hm
  cases a with
  | none =>
    obtain rfl : l = [] := by
      rcases hl with h | ⟨b, off, e, _⟩
      · exact h
      · cases e
    refine (disk.clone_nil _ _ w).mono ?_
    rintro e w' ⟨rfl, rfl⟩
    exact ⟨_, rfl, Own.none_ _, (fun g hg => by cases hg), Below.refl _ _⟩
  | some ad => exact disk.clone_some ad l.length cap l w rfl hl hn

theorem save_fin {W : World} {E : Nat → Prop} {w w7 w8 : World} {s p n : Nat} {S2 : St} {nm : ByteArray} {tv v8 : Value} {x l : List Int} {t k u j : Nat} (H7 : Held W (Hold s tv E) w7 p S2 n) (S8 : SlAt w8 s p nm tv x t k u) (O8 : Own w8 v8 l) (N8 : ∀ g, v8.ownBlock = some g → w7.heap.size ≤ g)
    (B8 : Below w7.heap.size w7 w8) (KE7 : Kept E w w7) (hE : ¬ E s) (hW : W.heap.size ≤ s) (hb : Byte l) (hl : l.length ≤ 4080) (hj : j ≤ 1) (hu : u < 18446744073709551616) :
    SlAt (((w8.setCell ⟨s, 2, none⟩ v8).setCell ⟨s, 3, none⟩ (.int .u64 (u : Int))).setCell ⟨s, 4, none⟩ (.int .i64 (j : Int))) s p nm v8 l u j u ∧ Held W (Hold s v8 E) (((w8.setCell ⟨s, 2, none⟩ v8).setCell ⟨s, 3, none⟩ (.int .u64 (u : Int))).setCell ⟨s, 4, none⟩ (.int .i64 (j : Int))) p S2 n ∧
      Kept E w (((w8.setCell ⟨s, 2, none⟩ v8).setCell ⟨s, 3, none⟩ (.int .u64 (u : Int))).setCell ⟨s, 4, none⟩ (.int .i64 (j : Int))) ∧ ∀ g, v8.ownBlock = some g → ¬ E g := by
  have hc := ((S8.cells.put 2 v8).put 3 (.int .u64 (u : Int))).put 4 (.int .i64 (j : Int))
  have ht : Turn (fun b => b = s) w8 (((w8.setCell ⟨s, 2, none⟩ v8).setCell ⟨s, 3, none⟩ (.int .u64 (u : Int))).setCell ⟨s, 4, none⟩ (.int .i64 (j : Int))) :=
    (((Turn.refl (fun b => b = s) w8).setCell (g := s) 2 _ (.inl rfl)).setCell (g := s) 3 _ (.inl rfl)).setCell (g := s) 4 _ (.inl rfl)
  generalize ((w8.setCell ⟨s, 2, none⟩ v8).setCell ⟨s, 3, none⟩ (.int .u64 (u : Int))).setCell ⟨s, 4, none⟩ (.int .i64 (j : Int)) = w9 at hc ht
  have hs7 : s < w7.heap.size := H7.user s (.inl (.inl rfl))
  refine ⟨⟨hc, O8.turned ht fun g hg e => ?_, hb, S8.name, hl, hj, Nat.le_refl _, hu⟩, ?_, fun b h => ?_, fun g hg h => ?_⟩
  · have := N8 g hg
    omega
  · have h8 := H7.mine B8
    have h9 := Held.turned h8 ht fun b h => ⟨.inl (.inl (.inl h)), by rw [h]; exact hW⟩
    refine h9.fewer fun b h => ?_
    rcases h with (h | h) | h
    · exact .inl (.inl (.inl h))
    · exact .inr ⟨N8 b h, O8.lt h⟩
    · exact .inl (.inr h)
  · have hb7 := H7.user b (.inr h)
    exact ((ht.block b (Nat.lt_of_lt_of_le hb7 B8.size) fun e => hE (e ▸ h)).trans (B8.block b hb7)).trans (KE7 b h)
  · have := N8 g hg
    have := H7.user g (.inr h)
    omega

/-- What Save leaves. -/
def SaveOut (W : World) (E : Nat → Prop) (w : World) (s p : Nat) (nm : ByteArray) (tv : Value) (x : List Int) (t k tr : Nat) (S : St) (n : Nat) (l : List Int) (e : Ending) (w' : World) : Prop :=
  ∃ (c : Int) (S' : St) (tv' : Value) (x' : List Int) (t' k' : Nat), e = .returned (.int .i64 c) ∧ SlAt w' s p nm tv' x' t' k' (tr + 1) ∧ Held W (Hold s tv' E) w' p S' (n + 4) ∧ Kept E w w' ∧ (∀ g, tv'.ownBlock = some g → ¬ E g) ∧
    (((S.write nm.data.toList (((1 - k) * 4096 : Nat) : Int) (slotE (tr + 1) l)).1 ≠ 0 ∧ c = (S.write nm.data.toList (((1 - k) * 4096 : Nat) : Int) (slotE (tr + 1) l)).1 ∧ S' = (S.write nm.data.toList (((1 - k) * 4096 : Nat) : Int) (slotE (tr + 1) l)).2 ∧ tv' = tv ∧ x' = x ∧ t' = t ∧ k' = k) ∨
    ((S.write nm.data.toList (((1 - k) * 4096 : Nat) : Int) (slotE (tr + 1) l)).1 = 0 ∧ c = ((S.write nm.data.toList (((1 - k) * 4096 : Nat) : Int) (slotE (tr + 1) l)).2.sync nm.data.toList).1 ∧ S' = ((S.write nm.data.toList (((1 - k) * 4096 : Nat) : Int) (slotE (tr + 1) l)).2.sync nm.data.toList).2 ∧
      ((c ≠ 0 ∧ tv' = tv ∧ x' = x ∧ t' = t ∧ k' = k) ∨ (c = 0 ∧ x' = l ∧ t' = tr + 1 ∧ k' = 1 - k))))

set_option maxRecDepth 100000 in
set_option maxHeartbeats 1000000 in
theorem save_any {W : World} {E : Nat → Prop} {w : World} {s p n : Nat} {S : St} {nm : ByteArray} {tv : Value} {x : List Int} {t k tr : Nat} (h : Held W (Hold s tv E) w p S n) (hn : n ≤ 1000000) (hT : crc.Tab W) (hs : SlAt w s p nm tv x t k tr) (hE : ¬ E s) (hE2 : ∀ g, tv.ownBlock = some g → ¬ E g) (hW : W.heap.size ≤ s)
    (a : Option Addr) (m cap : Nat) (l : List Int) (hl : Leads w a l) (hb : Byte l) (hm : l.length = m) (hm2 : m ≤ 4080) (hmc : m ≤ cap) (ha : a = none → cap = 0) (hX : ∀ g off, a = some ⟨g, off, none⟩ → l ≠ [] → E g ∨ g < W.heap.size) (htr : tr < 1099511627776) :
    Calls Tryd.prog 27 #[.pointer (some ⟨s, 0, none⟩), .slice a m cap] w (SaveOut W E w s p nm tv x t k tr S n l) := by
  have i1 : ¬ (4080 : Int) < (m : Int) := by omega
  have i2 : ¬ (1099511627776 : Int) ≤ (tr : Int) := by omega
  unfold SaveOut
  obtain ⟨u, hu⟩ : ∃ u, tr + 1 = u := ⟨_, rfl⟩
  rw [hu]
  have e3 : IntKind.u64.wrap ((tr : Int) + 1) = (u : Int) := by rw [IntKind.wrap_u64]; omega
  have htr2 := hs.turn
  obtain ⟨j, hj⟩ : ∃ j, 1 - k = j := ⟨_, rfl⟩
  obtain ⟨q, hq⟩ : ∃ q, j * 4096 = q := ⟨_, rfl⟩
  rw [hj, hq]
  obtain ⟨en, hen⟩ : ∃ en, slotE u l = en := ⟨_, rfl⟩
  have hel : en.length = 16 + m := by rw [← hen, slotE_length, hm]
  have heb : Byte en := by rw [← hen]; exact slotE_byte u hb
  rw [hen]
  obtain ⟨c1, S1, hr1⟩ : ∃ c1 S1, S.write nm.data.toList (q : Int) en = (c1, S1) := ⟨_, _, rfl⟩
  rw [hr1]
  dsimp only
  obtain ⟨c2, S2, hr2⟩ : ∃ c2 S2, S1.sync nm.data.toList = (c2, S2) := ⟨_, _, rfl⟩
  rw [hr2]
  dsimp only
  have hk1 := hs.k1
  have e4 : IntKind.i64.wrap (1 - (k : Int)) = (j : Int) := by rw [IntKind.wrap_i64]; omega
  have e5 : IntKind.i64.wrap ((j : Int) * 4096) = (q : Int) := by rw [IntKind.wrap_i64]; omega
  have c5 := hs.c5
  have f5 := hs.cells.free 5
  -- behind the store
  obtain ⟨w1, hw1⟩ : ∃ w1, w.setCell ⟨s, 5, none⟩ (.int .u64 (u : Int)) = w1 := ⟨_, rfl⟩
  have t1 : Turn (fun b => b = s) w w1 := hw1 ▸ (Turn.refl _ w).setCell 5 _ (.inl rfl)
  have h1 : Held W (Hold s tv E) w1 p S n := Held.turned h t1 fun b hb => ⟨.inl (.inl hb), by rw [hb]; exact hW⟩
  have s1 : SlAt w1 s p nm tv x t k u := by
    refine ⟨by rw [← hw1]; exact hs.cells.put 5 _, hs.text.turned t1 fun g hg e => hs.ne hg e, hs.byte, hs.name, hs.small, hs.k1, by have := hs.turn; omega, by omega⟩
  have k1 : Kept E w w1 := fun b hb => t1.block b (h.user b (.inr hb)) fun e => hE (e ▸ hb)
  have l1 : Leads w1 a l := hl.turned t1 fun b off e hne hb => by
    rcases hX b off e hne with h2 | h2
    · exact hE (hb ▸ h2)
    · omega
  have CE : ∀ z, Hid (Calls Tryd.prog 41 #[.int .u64 (u : Int), .slice a m cap] (w1.drewN z) (Made (w1.drewN z) en)) := fun z => by
    rw [← hen]
    exact encode_any (w1.drewN z) (hT.later (below_draws h1.below z)) u a m cap l (l1.later (below_draws (Below.refl _ _) z)) hb hm (by omega) ha
  have HH1 := Lib.hid h1
  have HS1 := Lib.hid s1
  have HK1 := Lib.hid k1
  have HL1 := Lib.hid l1
  have HHU := Lib.hid h.user
  have HB := Lib.hid hb
  have HM := Lib.hid hm
  have HJ := Lib.hid hj
  have HU := Lib.hid hu
  have HX := Lib.hid hX
  have HE2 := Lib.hid hE2
  have HR1 := Lib.hid hr1
  have HR2 := Lib.hid hr2
  have HEL := Lib.hid hel
  have HEB := Lib.hid heb
  have HQ := Lib.hid hq
  have HT := Lib.hid hT
  have d0 : w1.drew.cell? ⟨s, 0, none⟩ = some (.pointer (some ⟨p, 0, none⟩)) := s1.c0
  have d1 : w1.drew.cell? ⟨s, 1, none⟩ = some (.string nm) := s1.c1
  have d4 : w1.cell? ⟨s, 4, none⟩ = some (.int .i64 (k : Int)) := s1.c4
  have d5 : w1.drew.cell? ⟨s, 5, none⟩ = some (.int .u64 (u : Int)) := s1.c5
  clear h hT hs hl hb hm ha hX t1 h1 s1 k1 l1 hj hq hE2 hu htr2 hk1 hr1 hr2 hel heb hen
  go_enter Tryd.func27, Tryd.ntmps27
  go_upto_region 8 with fail
  clear hw1 c5 f5
  go_wp2_with fail
  go_region_held3 (fun W => W.cell? ⟨s, 0, none⟩ = some (.pointer (some ⟨p, 0, none⟩)) ∧ W.cell? ⟨s, 1, none⟩ = some (.string nm) ∧ W.cell? ⟨s, 5, none⟩ = some (.int .u64 (u : Int))) (first | exact ⟨d0, d1, d5⟩ | exact ⟨d0', d1', d5'⟩ | exact ⟨d0'', d1'', d5''⟩)
    (first
      | (go_at_call 41
         refine (CE 1).out.mono ?_
         rintro e w5 ⟨v5, rfl, o5, n5, b5⟩
         obtain ⟨a5, cp5, rfl, _, _, _, g5, _⟩ := o5.form
         rw [HEL.out] at n5 o5 ⊢
         have b15 : Below w1.heap.size w1 w5 := (below_draws (Below.refl w1.heap.size w1) 1).trans (show Below w1.heap.size (w1.drewN 1) w5 from b5)
         have s5 := HS1.out.later b15
         have d0' : w5.cell? ⟨s, 0, none⟩ = some (.pointer (some ⟨p, 0, none⟩)) := s5.c0
         have d1' : w5.cell? ⟨s, 1, none⟩ = some (.string nm) := s5.c1
         have d5' : w5.cell? ⟨s, 5, none⟩ = some (.int .u64 (u : Int)) := s5.c5
         have h5 := HH1.out.mine b15
         have CW := Lib.hid (Held.write h5 g5 (c := cp5) HEL.out HEB.out (by rw [HEL.out]; omega) (fun b off e hne => .inl (.inr ⟨n5 b (by subst e; rfl), o5.lt (by subst e; rfl)⟩)) (by omega) nm HS1.out.name (q : Int))
         rw [HR1.out] at CW
         dsimp only at CW
         have S5 := Lib.hid s5
         have B15 := Lib.hid b15
         clear o5 n5 b5 g5 b15 s5 h5)
      | (go_at_call 48
         refine CW.out.mono ?_
         rintro e w6 ⟨rfl, h6, k6⟩
         have s6 : SlAt w6 s p nm tv x t k u := S5.out.kept (X := fun b => Hold s tv E b ∨ _) (.inl (.inl (.inl rfl))) (fun g hg => .inl (.inl (.inr hg))) k6
         have d0'' : w6.cell? ⟨s, 0, none⟩ = some (.pointer (some ⟨p, 0, none⟩)) := s6.c0
         have d1'' : w6.cell? ⟨s, 1, none⟩ = some (.string nm) := s6.c1
         have d5'' : w6.cell? ⟨s, 5, none⟩ = some (.int .u64 (u : Int)) := s6.c5
         have H6 := Lib.hid h6
         have K6 := Lib.hid k6
         have S6 := Lib.hid s6
         clear h6 k6 s6))
  all_goals
    have h6 := H6.out.fewer (Y := Hold s tv E) fun b hb => .inl hb
    have ke6 : Kept E w w6 := fun b hb => ((K6.out b (.inl (.inr hb))).trans (B15.out.block b (HH1.out.user b (.inr hb)))).trans (HK1.out b hb)
    have C6 := held_sync (h6.later (below_draws (Below.refl w6.heap.size w6) 1)) (by omega) nm HS1.out.name
    rw [HR2.out] at C6
    dsimp only at C6
    have CS := Lib.hid C6
    have G6 := Lib.hid h6
    have KE6 := Lib.hid ke6
    clear h6 ke6 C6 d0 d1 d5 d0' d1' d5' CE CW
    by_cases hc1 : c1 = 0
    · have hI : (c1 != 0) = false := by rw [hc1]; rfl
      have HC1 := Lib.hid hc1
      have g0 : w6.drew.cell? ⟨s, 0, none⟩ = some (.pointer (some ⟨p, 0, none⟩)) := S6.out.c0
      have g1 : w6.drew.cell? ⟨s, 1, none⟩ = some (.string nm) := S6.out.c1
      clear hc1 d0'' d1'' d5''
      go_wp2_with fail
      go_region_held3 (fun W => W.cell? ⟨s, 0, none⟩ = some (.pointer (some ⟨p, 0, none⟩)) ∧ W.cell? ⟨s, 1, none⟩ = some (.string nm)) (first | exact ⟨g0, g1⟩ | exact ⟨g0', g1'⟩)
        (first
          | (go_at_call 49
             refine CS.out.mono ?_
             rintro e w7 ⟨rfl, h7, k7⟩
             have s7 : SlAt w7 s p nm tv x t k u := (S6.out.later (below_draws (Below.refl w6.heap.size w6) 1)).kept (X := Hold s tv E) (.inl (.inl rfl)) (fun g hg => .inl (.inr hg)) k7
             have g0' : w7.cell? ⟨s, 0, none⟩ = some (.pointer (some ⟨p, 0, none⟩)) := s7.c0
             have g1' : w7.cell? ⟨s, 1, none⟩ = some (.string nm) := s7.c1
             have H7 := Lib.hid h7
             have K7 := Lib.hid k7
             have S7 := Lib.hid s7
             clear h7 k7 s7))
      all_goals
        have ke7 : Kept E w w7 := fun b hb => (K7.out b (.inr hb)).trans (KE6.out b hb)
        have KE7 := Lib.hid ke7
        clear ke7 g0 g1 g0' g1' CS G6 S6 H6 K6 KE6
        by_cases hc2 : c2 = 0
        · have hI2 : (c2 != 0) = false := by rw [hc2]; rfl
          have HC2 := Lib.hid hc2
          have l7 : Leads w7.drew a l := (HL1.out.same (w' := w7) fun b off e hne => by
            rcases HX.out b off e hne with h2 | h2
            · exact (KE7.out b h2).trans (HK1.out b h2).symm
            · exact (H7.out.below.block b h2).trans (HH1.out.below.block b h2).symm).later (below_draws (Below.refl w7.heap.size w7) 1)
          have C7 := Lib.hid (clone_lead w7.drew a m cap l l7 HM.out (by omega))
          have x2 : w7.drew.frozen? ⟨s, 2, none⟩ = false := S7.out.cells.free 2
          have x3 : w7.drew.frozen? ⟨s, 3, none⟩ = false := S7.out.cells.free 3
          have x4 : w7.drew.frozen? ⟨s, 4, none⟩ = false := S7.out.cells.free 4
          have b5 : w7.drew.cell? ⟨s, 5, none⟩ = some (.int .u64 (u : Int)) := S7.out.c5
          clear hc2 l7
          go_wp2_with fail
          clear d4 e3 e4 e5 i1 i2 hI hI2
          go_region_law (go_simp; go_at_call 42; refine C7.out.mono ?_; rintro e w8 ⟨v8, rfl, o8, n8, b8⟩; obtain ⟨a8, cp8, rfl, _, _, _, _, _⟩ := o8.form; have s8 : SlAt w8 s p nm tv x t k u := (S7.out.later (below_draws (Below.refl w7.heap.size w7) 1)).later b8; have b5' : w8.cell? ⟨s, 5, none⟩ = some (.int .u64 (u : Int)) := s8.c5; have x2' := s8.cells.free 2; have y2' := s8.c2; have y3' := s8.c3; have y4' := s8.c4; have x3' := s8.cells.free 3; have x4' := s8.cells.free 4; have O8 := Lib.hid o8; have N8 := Lib.hid n8; have B8 := Lib.hid b8; have S8 := Lib.hid s8; clear o8 n8 b8 s8)
          all_goals
            have fin := save_fin H7.out S8.out O8.out (fun g hg => N8.out g hg) ((below_draws (Below.refl w7.heap.size w7) 1).trans (show Below w7.heap.size (w7.drewN 1) w8 from B8.out)) KE7.out hE hW HB.out (by rw [HM.out]; exact hm2) (j := j) (by have := HJ.out; omega) (by have := HU.out; omega)
            have FIN := Lib.hid fin
            clear fin b5 b5' x2 x3 x4 x2' x3' x4' y2' y3' y4' C7 S8 O8 N8 B8
            go_wp2_with fail
            go_ret
            exact ⟨0, S2, _, l, u, j, rfl, FIN.out.1, FIN.out.2.1, FIN.out.2.2.1, FIN.out.2.2.2, .inr ⟨HC1.out, HC2.out.symm, rfl, .inr ⟨rfl, rfl, rfl, rfl⟩⟩⟩
        · have hI2 : (c2 != 0) = true := by rw [bne_iff_ne]; exact hc2
          have HC2 := Lib.hid hc2
          clear hc2
          go_wp2_with fail
          go_ret
          exact ⟨c2, S2, tv, x, t, k, rfl, S7.out, H7.out, KE7.out, HE2.out, .inr ⟨HC1.out, rfl, rfl, .inl ⟨HC2.out, rfl, rfl, rfl, rfl⟩⟩⟩
    · have hI : (c1 != 0) = true := by rw [bne_iff_ne]; exact hc1
      have HC1 := Lib.hid hc1
      have FIN := Lib.hid (show SlAt w6 s p nm tv x t k u ∧ Held W (Hold s tv E) w6 p S1 (n + 4) from ⟨S6.out, ⟨G6.out.disk.more (by omega), G6.out.below, G6.out.user⟩⟩)
      clear hc1 d0'' d1'' d5'' CS
      go_wp2_with fail
      go_ret
      exact ⟨c1, S1, tv, x, t, k, rfl, FIN.out.1, FIN.out.2, KE6.out, HE2.out, .inl ⟨HC1.out, rfl, rfl, rfl, rfl, rfl, rfl⟩⟩
end Go.Proofs.YtpgclhpobijdeaaDoor.slots
