/-
  CONTRACT of stillroomlaw10.begun: one tenant.
-/
import Derived.Test.YtpgclhpobijdeaaDoorMnOpen
namespace Go.Proofs.YtpgclhpobijdeaaDoor.man
open Go.RowKit Go.Proofs.YtpgclhpobijdeaaDoor.disk Go.Proofs.YtpgclhpobijdeaaDoor.recd Go.Proofs.YtpgclhpobijdeaaDoor.num Go.Proofs.YtpgclhpobijdeaaDoor.scan Go.Proofs.YtpgclhpobijdeaaDoor.slots
set_option linter.unusedVariables false

/-- A Put on a disk that does not fail. -/
theorem put_case_ok {A : FileA} {L : List Ten} {t k tr : Nat} {x : Ten} {c : Int} {A' : FileA} {f' : Int} {L' : List Ten} {t' k' tr' : Nat} (h : PutCase A (-1) L t k tr x c A' f' L' t' k' tr') (hm : mayB (putT L x) = true) :
    c = 0 ∧ A' = ⟨A'.now, A'.now, []⟩ ∧ f' = -1 ∧ L' = putT L x ∧ t' = tr + 1 ∧ tr' = tr + 1 ∧ k' = 1 - k ∧ Strict A' k' t' := by
  rcases h with ⟨h, _⟩ | ⟨_, h, _⟩ | ⟨_, h2, h⟩
  · have := mayB_len hm; omega
  · rw [hm] at h; cases h
  · rcases h with ⟨h, _⟩ | ⟨_, h, _⟩ | ⟨_, _, h3, h4, h5, h6, h7, h8, h9⟩
    · cases h
    · cases h
    · refine ⟨h3, by rw [h4], h5, h6, h7, h2, h8, h9⟩
theorem two_ones (w : World) (h1 h2 : Nat) (s1 : SegsAt w (some ⟨h1, 0, none⟩) 2 2 [1, 2]) (s2 : SegsAt w (some ⟨h2, 0, none⟩) 2 2 [1, 2]) :
    ∃ xs : List TS, flat fTen xs = [.int .u32 1, .int .u64 1, .int .i64 5000, .int .u64 1, .int .i64 3, .slice (some ⟨h1, 0, none⟩) 2 2, .int .u32 1, .int .u64 1, .int .i64 5000, .int .u64 1, .int .i64 3, .slice (some ⟨h2, 0, none⟩) 2 2] ∧ xs.length = 2 ∧ Tens w xs ∧ tens xs = [oneT 1, oneT 1] :=
  ⟨[⟨oneT 1, some ⟨h1, 0, none⟩, 2, 2⟩, ⟨oneT 1, some ⟨h2, 0, none⟩, 2, 2⟩], rfl, rfl, fun x hx => by
    rcases List.mem_cons.1 hx with rfl | hx
    · exact ⟨oneT_fit (by omega), s1⟩
    · rw [List.mem_singleton.1 hx]; exact ⟨oneT_fit (by omega), s2⟩, rfl⟩

set_option maxRecDepth 100000 in
set_option maxHeartbeats 2000000 in
theorem manBegun (w : World) (hT : crc.Tab w) : Calls Tryd.prog 7 #[] w fun e w' => e = .returned (.bool true) ∧ Below w.heap.size w w' := by
  have HT := Lib.hid hT
  clear hT
  go_enter Tryd.func7, Tryd.ntmps7
  go_wp2_with fail
  refine (new_any w 100000).mono ?_
  rintro e w1 ho
  obtain ⟨p, rfl, h1, _⟩ := held_new (W := w) (X := fun _ => False) (fun _ e => e.elim) (Below.refl _ _) ho
  have C1 := Lib.hid (manCreate_any w1 p (show Held w (fun _ => False) w1 p (slots.start (-1)) 0 from h1) HT.out)
  clear ho h1
  go_wp2_with fail
  refine C1.out.mono ?_
  rintro e w2 ⟨_, m, s, tv, b, S', A, rfl, ms, st, hA⟩
  have MS := Lib.hid ms
  have ST := Lib.hid st
  have HA := Lib.hid hA
  clear ms st hA C1
  go_wp2_with fail
  refine (one_any w2 5).mono ?_
  rintro e w3 ⟨h3, rfl, s3, _, _, b3⟩
  have C3 : Hid (Calls Tryd.prog 10 #[.pointer (some ⟨m, 0, none⟩), .agg #[.int .u32 5, .int .u64 1, .int .i64 5000, .int .u64 1, .int .i64 3, .slice (some ⟨h3, 0, none⟩) 2 2]] w3 (PutOut w (fun _ => False) w3 m s p [] 1 0 1 9 b A (-1) (oneT 5))) := Lib.hid (put_ten (MS.out.later b3) (by omega) HT.out (by omega) ⟨oneT 5, some ⟨h3, 0, none⟩, 2, 2⟩ ⟨oneT_fit (by omega), s3⟩)
  clear s3 b3
  unfold TS.val oneT
  simp only
  go_wp2_with fail
  refine C3.out.mono ?_
  rintro e w4 ⟨_, c, tv', L', t', k', tr', S2, A2, f2, rfl, m4, hc⟩
  obtain ⟨rfl, hA2, rfl, rfl, rfl, rfl, rfl, st4⟩ := put_case_ok hc (by decide)
  have C4 := Lib.hid (manOpen_any (L := putT [] (oneT 5)) m4.slot.held m4.slot.lone m4.slot.keeps st4 (by omega) (by omega) HT.out m4.may m4.fit)
  have M4 := Lib.hid m4
  clear hA2 m4 hc st4 C3
  go_wp2_with fail
  refine C4.out.mono ?_
  rintro e w5 ⟨k5, m5, s5, tv5, S5, rfl, ms5⟩
  have A5 : Hid (ManAt w5 m s p (putT [] (oneT 5)) tv' (1 + 1) (1 - 0) (1 + 1)) := Lib.hid (M4.out.at_.kept (.inr (.inr rfl)) (.inl (.inl rfl)) (fun g hg => .inl (.inr hg)) k5)
  have CG := Lib.hid (get_any ms5.at_ 5)
  have B5 := Lib.hid ms5.slot.held.below
  clear k5 ms5 C4
  go_wp2_with fail
  refine CG.out.mono ?_
  rintro e w6 ⟨b6, ⟨_, hno⟩ | ⟨x, hx, rfl, hmem, _, hxa, _, hxn, hxc, sx, _⟩⟩
  · exact absurd rfl (hno (oneT 5) (List.mem_singleton.2 rfl))
  have hxt : x.t = oneT 5 := List.mem_singleton.1 hmem
  obtain ⟨xt, xa, xn, xc⟩ := x
  simp only at hxt hxa hxn hxc
  subst hxt
  obtain rfl : xn = 2 := by rw [← hxn]; rfl
  subst hxc
  subst hxa
  have B6 : Hid (Below w.heap.size w w6) := Lib.hid (B5.out.trans (b6.mono B5.out.size))
  have A6 := Lib.hid (A5.out.later b6)
  clear b6 hmem hxn sx A5 CG
  unfold TS.val oneT
  simp only
  have ba : Below w6.heap.size w6 (w6.alloc (.cells #[.int .u32 5, .int .u64 1, .int .i64 5000, .int .u64 1, .int .i64 3, .slice (some ⟨hx, 0, none⟩) 2 2] 34)) := (Below.refl _ _).alloc (Nat.le_refl _) _
  have CA := Lib.hid (all_any (A6.out.later ba))
  have B7 := Lib.hid (B6.out.trans (ba.mono B6.out.size))
  clear ba A6
  go_wp2_with fail
  refine CA.out.mono ?_
  rintro e w8 ⟨g8, n8, xs8, rfl, ht8, ho8, _, b8⟩
  obtain rfl : n8 = 1 := by rw [← ho8.length, ← tens_length, ht8]; rfl
  have B8 := Lib.hid (B7.out.trans (b8.mono B7.out.size))
  have CM := manMay_any none 0 0 [] w8 (TRow.nil_ w8)
  rw [show mayB (tens []) = true from rfl] at CM
  have CM' := Lib.hid CM
  clear ht8 ho8 b8 CA CM
  go_wp2_with fail
  refine CM'.out.mono ?_
  rintro e w9 ⟨rfl, b9⟩
  have B9 := Lib.hid (B8.out.trans (b9.mono B8.out.size))
  clear b9 CM'
  go_wp2_with fail
  refine (one_any w9 1).mono ?_
  rintro e w10 ⟨h10, rfl, s10, _, _, b10⟩
  have B10 := Lib.hid (B9.out.trans (b10.mono B9.out.size))
  have S10 := Lib.hid s10
  clear s10 b10
  unfold TS.val oneT
  simp only
  go_wp2_with fail
  refine (one_any w10 1).mono ?_
  rintro e w11 ⟨h11, rfl, s11, _, _, b11⟩
  have B11 := Lib.hid (B10.out.trans (b11.mono B10.out.size))
  unfold TS.val oneT
  simp only
  have bb : Below w11.heap.size w11 (w11.alloc (.cells #[.int .u32 1, .int .u64 1, .int .i64 5000, .int .u64 1, .int .i64 3, .slice (some ⟨h10, 0, none⟩) 2 2, .int .u32 1, .int .u64 1, .int .i64 5000, .int .u64 1, .int .i64 3, .slice (some ⟨h11, 0, none⟩) 2 2] 34)) := (Below.refl _ _).alloc (Nat.le_refl _) _
  obtain ⟨xs, hf, hl, hts, htn⟩ := two_ones _ h10 h11 ((S10.out.later b11).later bb) (s11.later bb)
  have CE := Lib.hid (manEncode_no (some ⟨w11.heap.size, 0, none⟩) 2 2 xs _ (TRow.of_whole (sp := []) (Whole.new_ rfl (by rw [List.append_nil, hf])) hl (Nat.le_refl _) (by omega) hts) (by rw [htn]; decide))
  have B12 := Lib.hid (B11.out.trans (bb.mono B11.out.size))
  clear s11 b11 bb hf hl hts htn
  go_wp2_with fail
  refine CE.out.mono ?_
  rintro e w13 ⟨rfl, b13⟩
  have B13 := Lib.hid (B12.out.trans (b13.mono B12.out.size))
  clear b13 CE
  go_wp2_with fail
  go_ret
  exact ⟨rfl, B13.out⟩
end Go.Proofs.YtpgclhpobijdeaaDoor.man
