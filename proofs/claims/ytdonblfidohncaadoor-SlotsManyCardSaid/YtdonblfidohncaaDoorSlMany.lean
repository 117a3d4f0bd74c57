/-
  THE WALK OF 'stillroomlaw9.SlotsMany' (P9.1).
-/
import Derived.Test.YtdonblfidohncaaDoorSlBeg
import Derived.Deep.DeepCutAuto
import Derived.Deep.RegionLaw
namespace Go.Proofs.YtdonblfidohncaaDoor.slots
open Go.RowKit Go.Proofs.YtdonblfidohncaaDoor.disk Go.Proofs.YtdonblfidohncaaDoor.recd Go.Proofs.YtdonblfidohncaaDoor.num
set_option linter.unusedVariables false

/-- The loop under way: i texts are saved. -/
structure Lots (W : World) (s p b i : Nat) (wr : World) : Prop where
  some_ : ∃ tv x k S A, Slot W (fun _ => False) wr s p aB tv x (i + 1) k (i + 1) S (9 + 5 * i) b A (-1) ∧ Strict A k (i + 1)

set_option maxRecDepth 100000 in
set_option maxHeartbeats 30000000 in
theorem slotsmany (w : World) (hT : crc.Tab w) {n : Int} (hn : -9223372036854775808 ≤ n ∧ n ≤ 9223372036854775807) : Calls Tryd.prog 7 #[.int .i64 n] w fun e w' => e = .returned (.bool true) ∧ Below w.heap.size w w' := by
  have HT := Lib.hid hT
  have CB := Lib.hid (begun9 w hT)
  clear hT
  go_enter Tryd.func7, Tryd.ntmps7
  go_wp2_with fail
  refine CB.out.mono ?_
  rintro e w1 ⟨rfl, b1⟩
  have B1 := Lib.hid b1
  clear b1 CB
  by_cases h0 : n < 0
  · go_wp2_with fail
    go_ret
    exact ⟨rfl, B1.out⟩
  by_cases h50 : 50 < n
  · have h0' : ¬ n < 0 := by omega
    go_wp2_with fail
    go_ret
    exact ⟨rfl, B1.out⟩
  obtain ⟨m, rfl⟩ : ∃ m : Nat, n = (m : Int) := ⟨n.toNat, by omega⟩
  have i1 : ¬ (m : Int) < 0 := h0
  have i2 : ¬ (50 : Int) < (m : Int) := h50
  have hm : m ≤ 50 := by omega
  clear h0 h50 hn
  go_wp2_with fail
  refine (new_any w1 100000).mono ?_
  rintro e w2 ho
  obtain ⟨p, rfl, h2, _⟩ := held_new (W := w) (X := fun _ => False) (fun _ e => e.elim) B1.out ho
  have C2 := Lib.hid ((make_any w2 p (-1) h2 HT.out none 0 0 [] (.inl rfl) (fun c hc => by cases hc) rfl (by omega) (fun _ => rfl) (fun g off e _ => by cases e)).mono fun e w' => make_one (by decide) (fun c hc => by cases hc))
  clear ho h2
  go_wp2_with fail
  refine C2.out.mono ?_
  rintro e w3 ⟨_, s, tv, b, S', A, rfl, sl3, st3, _⟩
  have ST : Hid (Lots w s p b 0 w3) := ⟨⟨tv, [], 0, S', A, sl3, st3⟩⟩
  clear sl3 st3 C2
  go_wp2_with fail
  go_loopw [7] (fun i wr => ∃ (q : Nat), i = .int .i64 (q : Int) ∧ q ≤ m ∧ Lots w s p b q wr) (fun i _ => ((m : Int) - intOf i).toNat)
  case atStart => exact ⟨0, rfl, by omega, ST.out⟩
  case round =>
    obtain ⟨q, rfl, hq, hR⟩ := hrel
    by_cases hqm : q < m
    · have hqI : (q : Int) < (m : Int) := by omega
      obtain ⟨⟨tv, x, k, S, A, sl, st⟩⟩ := hR
      have e1 : IntKind.u8.wrap (q : Int) = (q : Int) := by rw [IntKind.wrap_u8]; omega
      have e2 : IntKind.i64.wrap ((q : Int) + 2) = ((q + 2 : Nat) : Int) := by rw [IntKind.wrap_i64]; omega
      have e3 : IntKind.u64.wrap ((q + 2 : Nat) : Int) = ((q + 2 : Nat) : Int) := by rw [IntKind.wrap_u64]; omega
      have SL := Lib.hid sl
      have hby : Byte [(q : Int)] := fun c hc => by rw [List.mem_singleton] at hc; omega
      obtain ⟨l4, b4⟩ := text_new wr #[.int .u8 (q : Int)] (0, 0) [(q : Int)] rfl
      have hlt4 := new_lt wr (.cells #[.int .u8 (q : Int)] 5 (0, 0))
      have C3 := Lib.hid (save_slot (sl.mine b4) (by omega) HT.out (some ⟨wr.heap.size, 0, none⟩) 1 1 [(q : Int)] l4 hby rfl (by omega) (by omega) (fun e => by cases e) (fun g off e _ => .inl (.inr (by injection e with e; injection e with e; subst e; exact ⟨Nat.le_refl _, hlt4⟩))) (by omega))
      have HBY := Lib.hid hby
      clear sl st l4 b4 hlt4 hby
      go_wp2_with fail
      refine C3.out.mono ?_
      rintro e w5 ⟨_, c, tv', x', t', k', S2, A2, f2, rfl, sl5, hc⟩
      rcases hc with ⟨h0, _⟩ | ⟨_, h0, _⟩ | ⟨_, _, rfl, hA2, rfl, rfl, rfl, rfl, st5⟩
      · cases h0
      · cases h0
      have sl5 := sl5.fewer (E' := fun _ => False) fun j e => e.elim
      have CT := Lib.hid (turn_any sl5.at_)
      have HCZ := Lib.hid (size_slot sl5)
      have CO := Lib.hid (open_slot sl5.held sl5.lone sl5.keeps st5 (by omega) (by omega) HT.out)
      have SL5 := Lib.hid sl5
      have ST5 := Lib.hid st5
      clear sl5 st5 C3
      go_wp2_with fail
      refine CT.out.mono ?_
      rintro e w6 ⟨rfl, rfl⟩
      go_wp2_with fail
      refine HCZ.out.mono ?_
      rintro e w6 ⟨rfl, rfl⟩
      go_upto_region 15 with fail
      go_cut [8, 9] (fun ov ev wx => ∃ s6 tv6 S6, ov = .pointer (some ⟨s6, 0, none⟩) ∧ ev = .int .i64 0 ∧ Slot w (Hold s tv' fun _ => False) wx s6 p aB tv6 [(q : Int)] (q + 1 + 1) (1 - k) (q + 1 + 1) S6 (9 + 5 * q + 4 + 1) b A2 (-1) ∧ Kept (Hold s tv' fun _ => False) w5 wx)
      case first =>
        go_wp2_with fail
        refine CO.out.mono ?_
        rintro e w6 ⟨s6, tv6, S6, rfl, sl6, k6⟩
        have SL6 := Lib.hid sl6
        have K6 := Lib.hid k6
        clear sl6 k6 CO
        go_wp2_with fail
        go_meet
        exact ⟨_, _, _, rfl, rfl, SL6.out, K6.out⟩
      obtain ⟨s6, tv6, S6, rfl, rfl, sl6, k6⟩ := hcut
      obtain ⟨w6, hw6⟩ : ∃ w6, w6 = wc := ⟨_, rfl⟩
      rw [← hw6] at sl6 k6 ⊢
      clear hw6
      have hn6 : Slot w (fun _ => False) w6 s p aB tv' [(q : Int)] (q + 1 + 1) (1 - k) (q + 1 + 1) S6 (9 + 5 * (q + 1)) b A2 (-1) :=
        ⟨SL5.out.at_.kept (X := Hold s tv' fun _ => False) (.inl (.inl rfl)) (fun g hg => .inl (.inr hg)) k6, Held.more' (sl6.held.fewer fun j hj => .inr hj) (by omega), sl6.lone, sl6.keeps, SL5.out.fresh, SL5.out.free, SL5.out.late⟩
      have N6 := Lib.hid hn6
      have CT6 : Hid (∀ W, Below w6.heap.size w6 W → Calls Tryd.prog 15 #[.pointer (some ⟨s6, 0, none⟩)] W (Made W [(q : Int)])) := fun W hb => text_any (sl6.at_.later hb)
      have CU6 : Hid (∀ W, Below w6.heap.size w6 W → Calls Tryd.prog 16 #[.pointer (some ⟨s6, 0, none⟩)] W fun e w' => e = .returned (.int .u64 ((q + 2 : Nat) : Int)) ∧ W = w') := fun W hb => turn_any (sl6.at_.later hb)
      obtain ⟨sq, hsq⟩ : ∃ sq, disk.str [(q : Int)] = sq := ⟨_, rfl⟩
      have RB : Hid (∀ W : World, (convert 33 9 (.slice (some ⟨W.heap.size, 0, none⟩) 1 1)).run Tryd.prog (W.alloc (.cells #[.int .u8 (q : Int)] 5)) = .ok (.string sq) (W.alloc (.cells #[.int .u8 (q : Int)] 5))) := fun W => by
        rw [← hsq]
        exact disk.run_str (text_new W #[.int .u8 (q : Int)] (0, 0) [(q : Int)] rfl).1 HBY.out 1
      have HSQ := Lib.hid hsq
      clear sl6 k6 hn6 HCZ CT hA2 hsq
      go_upto_region 16 with fail
      go_cut [75] (fun x wx => x = .bool false ∧ Below w6.heap.size w6 wx)
      case first =>
        have e4 : IntKind.u64.wrap ((q : Int) + 2) = (q : Int) + 2 := by rw [IntKind.wrap_u64]; omega
        clear i1 i2 N6 SL5 ST5 HT B1 hq hm hqm hqI
        have rb1 : (convert 33 9 (.slice (some ⟨w6.heap.size, 0, none⟩) 1 1)).run Tryd.prog (w6.drew.alloc (.cells #[.int .u8 (q : Int)] 5)) = .ok (.string sq) (w6.drew.alloc (.cells #[.int .u8 (q : Int)] 5)) := RB.out w6.drew
        have b6 : Below w6.heap.size w6 w6.drew := below_draws (Below.refl w6.heap.size w6) 1
        have ba : Below w6.heap.size w6 (w6.alloc (.cells #[.int .u8 (q : Int)] 5)) := (Below.refl w6.heap.size w6).alloc (Nat.le_refl _) _
        have b6' : Below w6.heap.size w6 (w6.alloc (.cells #[.int .u8 (q : Int)] 5)).drew := below_draws ba 1
        have lb1 : Leads (w6.alloc (.cells #[.int .u8 (q : Int)] 5)).drew (some ⟨w6.heap.size, 0, none⟩) [(q : Int)] := (text_new w6 #[.int .u8 (q : Int)] (0, 0) [(q : Int)] rfl).1.later (below_draws (Below.refl _ _) 1)
        have rb2 : (convert 33 9 (.slice (some ⟨w6.heap.size, 0, none⟩) 1 1)).run Tryd.prog (w6.alloc (.cells #[.int .u8 (q : Int)] 5)).drew = .ok (.string sq) (w6.alloc (.cells #[.int .u8 (q : Int)] 5)).drew := by rw [← HSQ.out]; exact disk.run_str lb1 HBY.out 1
        clear ba rb1
        go_region_law (first
          | (go_simp
             go_at_call 15
             refine (CT6.out _ (by first | exact b6 | exact b6')).mono ?_
             rintro e w7 ⟨v7, rfl, o7, n7, b7⟩
             obtain ⟨a7, cp7, rfl, _, _, _, l7, _⟩ := o7.form
             have rs7 : (convert 33 9 (.slice a7 1 cp7)).run Tryd.prog w7 = .ok (.string sq) w7 := by rw [← HSQ.out]; exact disk.run_str l7 HBY.out cp7
             have rs7' : (convert 33 9 (.slice a7 1 cp7)).run Tryd.prog (w7.alloc (.cells #[.int .u8 (q : Int)] 5)) = .ok (.string sq) (w7.alloc (.cells #[.int .u8 (q : Int)] 5)) := by rw [← HSQ.out]; exact disk.run_str (l7.later ((Below.refl w7.heap.size w7).alloc (Nat.le_refl _) (.cells #[.int .u8 (q : Int)] 5))) HBY.out cp7
             have rb7 := RB.out w7
             try have rc7 : (convert 33 9 (.slice (some ⟨w6.heap.size, 0, none⟩) 1 1)).run Tryd.prog w7 = .ok (.string sq) w7 := by rw [← HSQ.out]; exact disk.run_str (lb1.later b7) HBY.out 1
             have c7 : Below w6.heap.size w6 w7 := by first | exact b6.trans (b7.mono b6.size) | exact b6'.trans (b7.mono b6'.size)
             have c7' := c7.alloc c7.size (.cells #[.int .u8 (q : Int)] 5)
             clear o7 n7 b7 l7)
          | (go_simp
             go_at_call 16
             refine (CU6.out _ (by first | exact c7 | exact c7')).mono ?_
             rintro e w8 ⟨rfl, rfl⟩))
        all_goals
          go_wp2_with fail
          go_meet
          first | exact ⟨rfl, c7'⟩ | exact ⟨rfl, c7⟩
      case rest =>
        obtain ⟨rfl, c7⟩ := hcut
        have NX := Lib.hid (N6.out.later c7)
        clear c7
        go_wp2_with fail
        go_roundw
        case rel => exact ⟨q + 1, by rw [Int.natCast_add]; rfl, by omega, ⟨⟨_, _, _, _, _, NX.out, ST5.out⟩⟩⟩
        case measure => simp [intOf]; omega
    · have hqI : ¬ (q : Int) < (m : Int) := by omega
      obtain ⟨⟨tv, x, k, S, A, sl, st⟩⟩ := hR
      have HB := Lib.hid sl.held.below
      clear sl st
      go_wp2_with fail
      go_ret
      exact ⟨rfl, HB.out⟩
end Go.Proofs.YtdonblfidohncaaDoor.slots
