/-
  CONTRACT of (*segment.Seg).Append (P8.1).
-/
import Derived.Test.YtdonblfidohncaaGreatDoorSgMay
import Derived.Test.YtdonblfidohncaaGreatDoorScPair
import Derived.Test.YtdonblfidohncaaGreatDoorMRec
import Derived.Laws.MakeOwn
namespace Go.Proofs.YtdonblfidohncaaGreatDoor.scan
open Go.RowKit Go.Proofs.YtdonblfidohncaaGreatDoor.disk Go.Proofs.YtdonblfidohncaaGreatDoor.recd Go.Proofs.YtdonblfidohncaaGreatDoor.num
set_option linter.unusedVariables false

/-- Records one behind the other. -/
def encs (l : List Rec) : List Int := l.flatMap enc
/-- Their places, from one on. -/
def placesF (N : Nat) : List Rec → List Nat
  | [] => []
  | r :: l => N :: placesF (N + (enc r).length) l
def recsTo (rs : Nat → Rec) (q : Nat) : List Rec := (List.range q).map rs
theorem recsTo_snoc (rs : Nat → Rec) (q : Nat) : recsTo rs (q + 1) = recsTo rs q ++ [rs q] := by simp [recsTo, List.range_succ]
theorem recsTo_length (rs : Nat → Rec) (q : Nat) : (recsTo rs q).length = q := by simp [recsTo]
theorem encs_snoc (l : List Rec) (r : Rec) : encs (l ++ [r]) = encs l ++ enc r := by simp [encs]
theorem encs_cons (l : List Rec) (r : Rec) : encs (r :: l) = enc r ++ encs l := by simp [encs]
theorem placesF_snoc (N : Nat) : ∀ (l : List Rec) (r : Rec), placesF N (l ++ [r]) = placesF N l ++ [N + (encs l).length]
  | [], r => by simp [placesF, encs]
  | x :: l, r => by
    rw [List.cons_append, placesF, placesF_snoc _ l r, placesF, encs_cons, List.length_append, Nat.add_assoc]
    rfl
theorem placesF_length (N : Nat) : ∀ l : List Rec, (placesF N l).length = l.length
  | [] => rfl
  | x :: l => by rw [placesF, List.length_cons, placesF_length _ l, List.length_cons]
theorem enc_len (r : Rec) : (enc r).length ≤ 1039 := by
  unfold enc
  split
  · rename_i h
    rw [encL_length]
    unfold mayB at h
    simp at h
    omega
  · exact Nat.zero_le _
theorem enc_byte' (r : Rec) : Byte (enc r) := by
  unfold enc
  split
  · exact encL_byte r
  · intro c hc; cases hc
theorem encs_len : ∀ l : List Rec, (encs l).length ≤ l.length * 1039
  | [] => Nat.zero_le _
  | r :: l => by
    have h1 := enc_len r
    have h2 := encs_len l
    rw [encs_cons, List.length_append, List.length_cons]
    omega
theorem encs_byte : ∀ l : List Rec, Byte (encs l)
  | [] => by intro c hc; cases hc
  | r :: l => by rw [encs_cons]; exact (enc_byte' r).append (encs_byte l)

theorem run_make_nums (w : World) (c : Nat) (hc : c ≤ 1000000000) : ∃ w', (Instr.makeSlice 35 (.int .i64 0) (.int .i64 (c : Int))).run Tryz.prog w = .ok (.slice (some ⟨w.heap.size, 0, none⟩) 0 c) w' ∧ GrowS fInt w [] (.slice (some ⟨w.heap.size, 0, none⟩) 0 c) w' := by
  obtain ⟨i0, hi, hz0, hz1, hz2⟩ := info_parts fInt.info
  obtain ⟨w', h1, h2, h3⟩ := run_make_own (P := Tryz.prog) w w.heap.size 35 3 i0 (.int .i64 0) 1 Tryz.underlying35 hi hz0 hz1 .i64 .i64 c (by rw [hz2]; show 8 * c ≤ _; omega) (by unfold maxLen; omega) (Nat.le_refl _)
  refine ⟨w', h1, ⟨⟨h2.1, ?_⟩, fun g hg => (World.ownsRow.lt h2 g hg).1, (Below.refl _ _).grown h3 (Nat.le_refl _) (fun k hk => by cases hk)⟩⟩
  rcases h2.2 with e | ⟨g, cap, cur, e1, _, e3⟩
  · exact .inl e
  · exact .inr ⟨g, cap, cur, e1, Nat.zero_le _, e3⟩

/-- A number is appended to the others: it lies in a block of its own, made just now. -/
theorem Pair.putE2 {w0 w : World} {l : List Int} {es : List Nat} {bv ev : Value} (h : Pair w0 l es bv ev w) (x : Nat) (g cap : Nat) (hg : g = w.heap.size) (hn : es.length ≤ 1000000000) :
    ∃ v' w', (Builtin.append_ #[35, 35] 35 #[ev, .slice (some ⟨g, 0, none⟩) 1 cap]).run Tryz.prog (w.alloc (.cells #[.int .i64 (x : Int)] 3)) = .ok v' w' ∧ Pair w0 l (es ++ [x]) bv v' w' ∧ (w.alloc (.cells #[.int .i64 (x : Int)] 3)).grownBy w' ev.ownBlock := by
  subst hg
  obtain ⟨v', w', h1, h2, h3, h4⟩ := h.ends.own.put x cap hn
  have b1 : Below w0.heap.size w0 (w.alloc (.cells #[.int .i64 (x : Int)] 3)) := h.grow.below.alloc h.grow.below.size _
  have k1 := h.later (w1 := w.alloc (.cells #[.int .i64 (x : Int)] 3)) ((Below.refl _ _).alloc (Nat.le_refl _) _)
  have b2 : Below w0.heap.size w0 w' := b1.grown h3 b1.size h.ends.new_
  have sz : (w.alloc (.cells #[.int .i64 (x : Int)] 3)).heap.size = w.heap.size + 1 := by simp
  refine ⟨v', w', h1, ⟨⟨k1.grow.own.same fun g hgg => h3.block g (k1.grow.own.lt hgg) (fun e => h.apart g hgg e.symm), k1.grow.new_, b2⟩, ⟨h2, fun g hg => ?_, b2⟩, fun g hg' he => ?_⟩, h3⟩
  · rcases h4 with h4 | h4
    · exact h.ends.new_ g (by rw [← h4]; exact hg)
    · rw [h4] at hg
      injection hg with hg
      have := h.grow.below.size
      omega
  · rcases h4 with h4 | h4
    · exact h.apart g hg' (by rw [← h4]; exact he)
    · rw [h4] at he
      injection he with he
      have := h.grow.own.lt hg'
      omega

/-- What Append leaves. -/
def AppOut (W : World) (X : Nat → Prop) (w : World) (p : Nat) (x : Int × St) (n' : Nat) (places : List Nat) (e : Ending) (w' : World) : Prop :=
  (x.1 = 0 ∧ ∃ v, e = .returned (.tuple #[v, .int .i64 0]) ∧ OwnS fInt w' v places ∧ (∀ g, v.ownBlock = some g → w.heap.size ≤ g) ∧ Held W (fun k => X k ∨ v.ownBlock = some k) w' p x.2 n' ∧ Kept X w w') ∨
  (x.1 ≠ 0 ∧ e = .returned (.tuple #[.slice none 0 0, .int .i64 x.1]) ∧ Held W X w' p x.2 n' ∧ Kept X w w')

theorem append_nil (w : World) (v : Value) : Calls Tryz.prog 10 #[.pointer none, v] w fun e w' => e = .returned (.tuple #[.slice none 0 0, .int .i64 10]) ∧ w = w' := by
  go_enter Tryz.func10, Tryz.ntmps10
  go_wp2
  go_ret2
  exact ⟨rfl, rfl⟩
set_option maxRecDepth 100000 in
set_option maxHeartbeats 1000000 in
/-- Records that may not stand here. -/
theorem append_form (w : World) (s p : Nat) (nm : ByteArray) (t : Nat) (wh : Bool) (hs : SegAt w s p nm t wh) (a : Option Addr) (len cap : Nat) (rs : Nat → Rec) (hr : RecRow w a len cap rs) (hno : ¬ AllOf t len rs) :
    Calls Tryz.prog 10 #[.pointer (some ⟨s, 0, none⟩), .slice a len cap] w fun e w' => e = .returned (.tuple #[.slice none 0 0, .int .i64 5]) ∧ Below w.heap.size w w' := by
  have CM := Lib.hid (segmay_any w s p nm t wh hs a len cap rs hr false ⟨(fun h => by cases h), fun h => absurd h hno⟩)
  clear hs hr hno
  go_enter Tryz.func10, Tryz.ntmps10
  go_wp2_with fail
  refine CM.out.mono ?_
  rintro e w1 ⟨rfl, b1⟩
  have B1 := Lib.hid b1
  clear b1 CM
  go_wp2_with fail
  go_ret2
  exact ⟨rfl, B1.out⟩
set_option maxRecDepth 100000 in
set_option maxHeartbeats 1000000 in
/-- A segment that was not whole. -/
theorem append_corrupt (w : World) (s p : Nat) (nm : ByteArray) (t : Nat) (hs : SegAt w s p nm t false) (a : Option Addr) (len cap : Nat) (rs : Nat → Rec) (hr : RecRow w a len cap rs) (hyes : AllOf t len rs) :
    Calls Tryz.prog 10 #[.pointer (some ⟨s, 0, none⟩), .slice a len cap] w fun e w' => e = .returned (.tuple #[.slice none 0 0, .int .i64 4]) ∧ Below w.heap.size w w' := by
  have CM := Lib.hid (segmay_any w s p nm t false hs a len cap rs hr true ⟨fun _ => hyes, fun _ => rfl⟩)
  have HS := Lib.hid hs
  clear hs hr hyes
  go_enter Tryz.func10, Tryz.ntmps10
  go_wp2_with fail
  refine CM.out.mono ?_
  rintro e w1 ⟨rfl, b1⟩
  have c3 := (HS.out.later b1).c3
  have B1 := Lib.hid b1
  clear b1 CM
  go_wp2_with fail
  go_ret2
  exact ⟨rfl, B1.out⟩

set_option maxRecDepth 100000 in
set_option maxHeartbeats 4000000 in
theorem append_any {W : World} {X : Nat → Prop} (w : World) (p : Nat) (S : St) (n : Nat) (h : Held W X w p S n) (hn : n ≤ 1000000) (hT : crc.Tab W) (s : Nat) (nm : ByteArray) (t : Nat) (hs : SegAt w s p nm t true) (hX : X s) (b : Nat) (hb : dlook nm.data.toList S.now = some b)
    (a : Option Addr) (len cap : Nat) (rs : Nat → Rec) (hr : RecRow w a len cap rs) (hyes : AllOf t len rs) (hlen : len ≤ 90000) :
    Calls Tryz.prog 10 #[.pointer (some ⟨s, 0, none⟩), .slice a len cap] w (AppOut W X w p (S.write nm.data.toList ((S.file b).now.length : Int) (encs (recsTo rs len))) (n + 2) (placesF (S.file b).now.length (recsTo rs len))) := by
  have hfit := h.disk.fit (h.disk.ok.inow _ (dlook_mem hb))
  have hmo := hfit.most
  have hsz : S.size nm.data.toList = ((S.file b).now.length : Int) := by rw [St.size]; simp only [hb]
  have CM := Lib.hid (segmay_any w s p nm t true hs a len cap rs hr true ⟨fun _ => hyes, fun _ => rfl⟩)
  have CS : ∀ w1, Below w.heap.size w w1 → Hid (Calls Tryz.prog 12 #[.pointer (some ⟨s, 0, none⟩)] w1 fun e w' => e = .returned (.int .i64 ((S.file b).now.length : Int)) ∧ ∃ m, w1.drewN m = w') := fun w1 b1 => by
    have := segsize_any w1 p S n (h.later b1).disk s nm t true (hs.later b1)
    rw [hsz] at this
    exact this
  obtain ⟨N, hN⟩ : ∃ N, (S.file b).now.length = N := ⟨_, rfl⟩
  rw [hN] at hmo CS ⊢
  have H := Lib.hid h
  have HT := Lib.hid hT
  have HS := Lib.hid hs
  have HR := Lib.hid hr
  have hlm := hr.most
  have hnm := hs.name
  clear h hT hs hr hyes hfit hsz hb hN
  go_enter Tryz.func10, Tryz.ntmps10
  go_wp2_with fail
  refine CM.out.mono ?_
  rintro e w1 ⟨rfl, b1⟩
  have c3 := (HS.out.later b1).c3
  have B1 := Lib.hid b1
  have C1 := CS w1 b1
  clear b1 CM
  go_wp2_with fail
  refine C1.out.mono ?_
  rintro e w2 ⟨rfl, q2, rfl⟩
  have B2 := Lib.hid (below_draws B1.out q2)
  generalize w1.drewN q2 = w2 at B2 ⊢
  obtain ⟨w3, hmk, g3⟩ := run_make_nums w2 len (by omega)
  have P3 : Pair w2 (encs (recsTo rs 0)) (placesF N (recsTo rs 0)) (.slice none 0 0) (.slice (some ⟨w2.heap.size, 0, none⟩) 0 len) w3 := ⟨⟨Own.none_ _, (fun g hg => by cases hg), g3.below⟩, g3, fun g hg => by cases hg⟩
  have P := Lib.hid P3
  clear C1 CS c3 g3 P3
  go_wp2_with fail
  go_loopw [7, 8, 30] (fun ev bv i wr => ∃ (q : Nat), i = .int .i64 (q : Int) ∧ q ≤ len ∧ Pair w2 (encs (recsTo rs q)) (placesF N (recsTo rs q)) bv ev wr) (fun _ _ i _ => ((len : Int) - intOf i).toNat)
  case atStart => exact ⟨0, rfl, Nat.zero_le _, P.out⟩
  case round =>
    obtain ⟨q, rfl, hq, hP⟩ := hrel
    have hel := encs_len (recsTo rs q)
    rw [recsTo_length] at hel
    obtain ⟨av, cv, rfl, hcv, hk1, hk2, hk3, hk4⟩ := hP.grow.own.form
    clear hk1 hk2 hk3 hk4
    obtain ⟨m, hm⟩ : ∃ m, (encs (recsTo rs q)).length = m := ⟨_, rfl⟩
    rw [hm] at hcv hel
    have HM := Lib.hid hm
    by_cases hql : q < len
    · have hqI : (q : Int) < (len : Int) := by omega
      have hbw := B2.out.trans (hP.grow.below.mono B2.out.size)
      have hfit := HR.out.fit q hql
      have CE := fun W (hW : Below w2.heap.size w2 W) => Encode_any (rs q) W (crc.Tab.later HT.out (H.out.below.trans ((B2.out.trans (hW.mono B2.out.size)).mono H.out.below.size))) hfit
      have hev : ∀ g, u7.ownBlock = some g → g < wr.heap.size := fun g hg => hP.ends.own.lt hg
      have hpl : (placesF N (recsTo rs q)).length ≤ 1000000000 := by rw [placesF_length, recsTo_length]; omega
      have sE : encs (recsTo rs q) ++ enc (rs q) = encs (recsTo rs (q + 1)) := by rw [recsTo_snoc, encs_snoc]
      have sP : placesF N (recsTo rs q) ++ [N + m] = placesF N (recsTo rs (q + 1)) := by rw [recsTo_snoc, placesF_snoc, HM.out]
      have hel1 := enc_len (rs q)
      obtain ⟨x, hx⟩ : ∃ x, rs q = x := ⟨_, rfl⟩
      rw [hx] at CE hel1 sE
      obtain ⟨L1, hL1⟩ : ∃ L1, enc x = L1 := ⟨_, rfl⟩
      rw [hL1] at CE hel1 sE
      obtain ⟨k, tt, ep, o, sq, bd⟩ := x
      obtain ⟨br, off, rfl, c0, c1, c2, c3, c4, c5⟩ := (HR.out.later hbw).at_ q hql k tt ep o sq bd hx
      obtain ⟨wa, hwa⟩ : ∃ wa, wr.alloc (.cells #[.int .i64 k, .int .u32 (tt : Int), .int .u64 (ep : Int), .int .u64 (o : Int), .int .u64 (sq : Int), .string bd] 40) = wa := ⟨_, rfl⟩
      have bwa : Below wr.heap.size wr wa := by rw [← hwa]; exact (Below.refl _ _).alloc (Nat.le_refl _) _
      have wh : Whole wa wr.heap.size 40 [.int .i64 k, .int .u32 (tt : Int), .int .u64 (ep : Int), .int .u64 (o : Int), .int .u64 (sq : Int), .string bd] := by rw [← hwa]; exact Whole.made' wr _ _
      have hwz : wa.heap.size = wr.heap.size + 1 := by rw [← hwa]; simp
      have Pa := hP.later bwa
      obtain ⟨ev5, w5, r5, p5, g5⟩ := Pa.putE2 (N + m) wa.heap.size 1 rfl hpl
      rw [Int.natCast_add] at r5 g5
      have wh5 : Whole w5 wr.heap.size 40 [.int .i64 k, .int .u32 (tt : Int), .int .u64 (ep : Int), .int .u64 (o : Int), .int .u64 (sq : Int), .string bd] := (wh.more _).grown g5 fun e => by have := hev _ e.symm; omega
      have CE5 := CE w5 p5.grow.below
      unfold Rec.val at CE5
      simp only at CE5
      obtain ⟨y0, y1, y2, y3, y4, y5⟩ := whole6 wh5
      have P5 := Lib.hid p5
      have R5 := Lib.hid r5
      have HC := Lib.hid CE5
      have HSE := Lib.hid sE
      have HSP := Lib.hid sP
      have HL1 := Lib.hid hL1
      have HWA := Lib.hid hwa
      rw [hm]
      clear hP hfit CE CE5 hev hpl sE sP hL1 hwa bwa wh hwz Pa p5 r5 g5 wh5 hm hbw hx P hmk
      go_upto_region 13 with fail
      rw [HWA.out]
      clear c0 c1 c2 c3 c4 c5
      go_wp2_with ((with_reducible show wpList _ _ _ (⟨some 40, _, _, _, _, _⟩ :: _) _ _); refine wpList_append_of 35 35 (.tmp 34) (.tmp 39) _ _ rfl rfl rfl rfl rfl R5.out ?_)
      clear R5
      refine HC.out.mono ?_
      intro en w6 hm6
      obtain ⟨a6, cap6, v6, w7, rfl, r7, p7⟩ := P5.out.putB L1.length rfl hm6 (by rw [HM.out]; omega)
      rw [HSE.out, HSP.out] at p7
      rw [HM.out] at r7
      have R7 := Lib.hid r7
      have P7 := Lib.hid p7
      clear hm6 r7 p7 P5 HC
      go_wp2_with ((with_reducible show wpList _ _ _ (⟨some 44, _, _, _, _, _⟩ :: _) _ _); refine wpList_append_of 57 57 (.tmp 41) (.tmp 43) _ _ rfl rfl rfl rfl rfl R7.out ?_)
      refine ⟨⟨q + 1, by rw [Int.natCast_add]; rfl, by omega, P7.out⟩, ?_⟩
      show ((len : Int) - ((q : Int) + 1)).toNat < ((len : Int) - (q : Int)).toNat
      omega
    · have hqI : ¬ (q : Int) < (len : Int) := by omega
      obtain rfl : q = len := by omega
      obtain ⟨A, hA⟩ : ∃ A, encs (recsTo rs q) = A := ⟨_, rfl⟩
      obtain ⟨PL, hPL⟩ : ∃ PL, placesF N (recsTo rs q) = PL := ⟨_, rfl⟩
      have hAb := encs_byte (recsTo rs q)
      rw [hA] at hP hAb hm
      rw [hPL] at hP
      rw [hA, hm]
      have bw : Below w.heap.size w wr := B2.out.trans (hP.grow.below.mono B2.out.size)
      have hown := hP.grow.own
      have hl : Leads wr av A := by
        obtain ⟨a', c', e, _, _, _, hl, _⟩ := hown.form
        injection e with e1 e2 e3
        rw [e1]; exact hl
      have HM1 := (H.out.mine bw).fewer (Y := fun k => X k ∨ (w.heap.size ≤ k ∧ k < wr.heap.size)) fun k hk => hk
      have hs2 := B2.out.size
      have s0 := HS.out.later bw
      have d0 := s0.c0
      have d1 := s0.c1
      have CW : ∀ z, Hid (Calls Tryz.prog 36 #[.pointer (some ⟨p, 0, none⟩), .string nm, .int .i64 (N : Int), .slice av m cv] (wr.drewN z) fun e w' => e = .returned (.int .i64 (S.write nm.data.toList (N : Int) A).1) ∧ Held W (fun k => X k ∨ (w.heap.size ≤ k ∧ k < wr.heap.size)) w' p (S.write nm.data.toList (N : Int) A).2 (n + 2) ∧ Kept (fun k => X k ∨ (w.heap.size ≤ k ∧ k < wr.heap.size)) wr w') := fun z =>
        Held.write (HM1.later (draws_below wr z)) hl hm hAb (by rw [hm]; omega) (fun bb off e hne => .inl (.inr (by
          obtain ⟨a', c', e2, _, _, hnone, _, hblk⟩ := hown.form
          injection e2 with e3 e4 e5
          subst e3
          rcases hblk with h0 | ⟨g, h1, h2, h3⟩
          · rw [h0] at e; cases e
          · rw [h1] at e
            injection e with e
            injection e with e
            subst e
            have := hP.grow.new_ g h2
            exact ⟨by omega, h3⟩))) (by omega) nm hnm (N : Int)
      obtain ⟨r, S2, hW⟩ : ∃ r S2, S.write nm.data.toList (N : Int) A = (r, S2) := ⟨_, _, rfl⟩
      rw [hW] at CW
      simp only at CW
      have fin0 : ∀ w', r = 0 → Held W (fun k => X k ∨ (w.heap.size ≤ k ∧ k < wr.heap.size)) w' p S2 (n + 2) → Kept (fun k => X k ∨ (w.heap.size ≤ k ∧ k < wr.heap.size)) wr w' →
          AppOut W X w p (S.write nm.data.toList (N : Int) (encs (recsTo rs q))) (n + 2) (placesF N (recsTo rs q)) (.returned (.tuple #[u7, .int .i64 0])) w' := by
        intro w' hr h' k'
        rw [hA, hPL, hW]
        have hnew : ∀ g, u7.ownBlock = some g → w.heap.size ≤ g ∧ g < wr.heap.size := fun g hg => ⟨by have := hP.ends.new_ g hg; omega, hP.ends.own.lt hg⟩
        refine .inl ⟨hr, u7, rfl, hP.ends.own.same fun g hg => k' g (.inr (hnew g hg)), fun g hg => (hnew g hg).1, h'.fewer fun k hk => ?_, fun k hk => (k' k (.inl hk)).trans (bw.block k (H.out.user k hk))⟩
        rcases hk with hk | hk
        · exact .inl hk
        · exact .inr (hnew k hk)
      have fin1 : ∀ w', r ≠ 0 → Held W (fun k => X k ∨ (w.heap.size ≤ k ∧ k < wr.heap.size)) w' p S2 (n + 2) → Kept (fun k => X k ∨ (w.heap.size ≤ k ∧ k < wr.heap.size)) wr w' →
          AppOut W X w p (S.write nm.data.toList (N : Int) (encs (recsTo rs q))) (n + 2) (placesF N (recsTo rs q)) (.returned (.tuple #[.slice none 0 0, .int .i64 r])) w' := by
        intro w' hr h' k'
        rw [hA, hPL, hW]
        exact .inr ⟨hr, rfl, h'.fewer fun k hk => .inl hk, fun k hk => (k' k (.inl hk)).trans (bw.block k (H.out.user k hk))⟩
      have F0 := Lib.hid fin0
      have F1 := Lib.hid fin1
      clear fin0 fin1 hP hA hPL hAb hm HM hown hl HM1 s0 hW P hmk bw
      go_wp2_with fail
      go_still_tail 10, (by kernel_rfl)
      change wpList _ _ _ _ _ (wr.drewN 1)
      have C1 := CW 1
      generalize wr.drewN 1 = w6 at C1 ⊢
      clear CW d0 d1
      go_wp2_with fail
      refine C1.out.mono ?_
      rintro e w7 ⟨rfl, h7, k7⟩
      have H7 := Lib.hid h7
      have K7 := Lib.hid k7
      clear h7 k7 C1
      by_cases hr0 : r = 0
      · subst hr0
        go_wp2_with fail
        go_ret2
        exact F0.out _ (by trivial) H7.out K7.out
      · have hrn : (r == 0) = false := by rw [beq_eq_false_iff_ne]; exact hr0
        have hrm : (r != 0) = true := by rw [bne_iff_ne]; exact hr0
        have HR0 := Lib.hid hr0
        clear hr0
        go_wp2_with fail
        go_ret2
        exact F1.out _ HR0.out H7.out K7.out
end Go.Proofs.YtdonblfidohncaaGreatDoor.scan
