/-
  CONTRACT of slots.Open (P9.1).
-/
import Derived.Test.YtpgclhpobijdeaaDoorSlMake
namespace Go.Proofs.YtpgclhpobijdeaaDoor.slots
open Go.RowKit Go.Proofs.YtpgclhpobijdeaaDoor.disk Go.Proofs.YtpgclhpobijdeaaDoor.recd Go.Proofs.YtpgclhpobijdeaaDoor.num
set_option linter.unusedVariables false

theorem open_none {W : World} {X : Nat → Prop} (w : World) (p : Nat) (S : St) (n : Nat) (h : Held W X w p S n) (nm : ByteArray) (hnm : nm.size ≤ maxLen) (hb : dlook nm.data.toList S.now = none) :
    Calls Tryd.prog 34 #[.pointer (some ⟨p, 0, none⟩), .string nm] w fun e w' => e = .returned (.tuple #[.pointer none, .int .i64 1]) ∧ w = w' := by
  have C1 := held_size h nm hnm
  have hsz : S.size nm.data.toList = -1 := by rw [St.size]; simp only [hb]
  rw [hsz] at C1
  have HC1 := Lib.hid C1
  clear C1 h hb hsz
  go_enter Tryd.func34, Tryd.ntmps34
  go_wp2_with fail
  refine HC1.out.mono ?_
  rintro e w1 ⟨rfl, rfl⟩
  go_wp2_with fail
  go_ret2
  exact ⟨rfl, rfl⟩
theorem open_short {W : World} {X : Nat → Prop} (w : World) (p : Nat) (S : St) (n : Nat) (h : Held W X w p S n) (nm : ByteArray) (hnm : nm.size ≤ maxLen) (b : Nat) (hb : dlook nm.data.toList S.now = some b) (hl : (S.file b).now.length ≠ 8192) :
    Calls Tryd.prog 34 #[.pointer (some ⟨p, 0, none⟩), .string nm] w fun e w' => e = .returned (.tuple #[.pointer none, .int .i64 4]) ∧ w = w' := by
  have C1 := held_size h nm hnm
  have hsz : S.size nm.data.toList = ((S.file b).now.length : Nat) := by rw [St.size]; simp only [hb]
  rw [hsz] at C1
  generalize (S.file b).now.length = q at C1 hl
  have i1 : ¬ (q : Int) < 0 := by omega
  have i2 : ((q : Int) != 8192) = true := by rw [bne_iff_ne]; omega
  have HC1 := Lib.hid C1
  clear C1 h hb hsz hl
  go_enter Tryd.func34, Tryd.ntmps34
  go_wp2_with fail
  refine HC1.out.mono ?_
  rintro e w1 ⟨rfl, rfl⟩
  go_wp2_with fail
  go_ret2
  exact ⟨rfl, rfl⟩

/-- The best slot so far. -/
abbrev Best := Option (Nat × List Int × Nat)
def better (c : Best) (d : Option (Nat × List Int)) (k : Nat) : Best :=
  match d with
  | none => c
  | some a => match c with
    | none => some (a.1, a.2, k)
    | some y => if y.1 < a.1 then some (a.1, a.2, k) else c
def bestTo (L : List Int) : Nat → Best
  | 0 => none
  | q + 1 => better (bestTo L q) (slotD ((L.drop (q * 4096)).take 4096)) q
theorem bestTo_two {L : List Int} (hl : L.length = 8192) : bestTo L 2 = openD L := by
  have e1 : (L.drop (0 * 4096)).take 4096 = L.take 4096 := by rw [Nat.zero_mul, List.drop_zero]
  have e2 : (L.drop (1 * 4096)).take 4096 = L.drop 4096 := by rw [Nat.one_mul]; exact List.take_of_length_le (by rw [List.length_drop]; omega)
  unfold openD bestTo bestTo bestTo
  rw [e1, e2]
  unfold better
  cases slotD (L.take 4096) <;> cases slotD (L.drop 4096) <;> rfl
/-- The cells of the file that is found. -/
def bestCells (p : Nat) (nm : ByteArray) (g cap : Nat) : Best → List Value
  | none => [.pointer (some ⟨p, 0, none⟩), .string nm, .slice none 0 0, .int .u64 0, .int .i64 0, .int .u64 0]
  | some (t, x, k) => [.pointer (some ⟨p, 0, none⟩), .string nm, .slice (some ⟨g, k * 4096 + 16, none⟩) x.length (cap - k * 4096 - 16), .int .u64 (t : Int), .int .i64 (k : Int), .int .u64 0]
/-- The loop under way: q slots are read. -/
structure Opening (w1 : World) (s p : Nat) (nm : ByteArray) (g cap : Nat) (L : List Int) (q : Nat) (wh : Value) (wr : World) : Prop where
  cells : Whole wr s 86 (bestCells p nm g cap (bestTo L q))
  whole : wh = .bool (bestTo L q).isSome
  row : Own wr (.slice (some ⟨g, 0, none⟩) 8192 cap) L
  turn : Turn (fun b => b = s) w1 wr

theorem at_part {w : World} {g : Nat} {L : List Int} (h : At w g 0 L) (p n : Nat) : At w g p ((L.drop p).take n) := fun i hi => by
  rw [List.length_take, List.length_drop] at hi
  have h2 := h (p + i) (by omega)
  rw [Nat.zero_add] at h2
  rw [h2, List.getD_eq_getElem?_getD, List.getD_eq_getElem?_getD, List.getElem?_take_of_lt (by omega), List.getElem?_drop]
theorem own_at' {w : World} {g n cap : Nat} {L : List Int} (h : Own w (.slice (some ⟨g, 0, none⟩) n cap) L) : At w g 0 L := by
  rcases (Own.leads h).2 with h0 | ⟨b, off, e, h1⟩
  · subst h0; exact fun i hi => by simp at hi
  · injection e with e
    injection e with e1 e2
    subst e1 e2
    exact h1
theorem slotD_text {l : List Int} (hl : 4096 ≤ l.length) {t : Nat} {x : List Int} (h : slotD l = some (t, x)) : recd.sub l 16 (16 + x.length) = x := by
  unfold slotD at h
  split at h
  · cases h
  · rename_i h1
    split at h
    · cases h
    · injection h with h
      injection h with h3 h4
      have hx : x.length = val (recd.sub l 8 12) := by rw [← h4, sub_length _ _ _ (by omega)]; omega
      rw [hx, h4]
theorem openD_some {L : List Int} {t : Nat} {x : List Int} {k : Nat} (h : openD L = some (t, x, k)) : k ≤ 1 ∧ slotD (slotAt L k) = some (t, x) := by
  unfold openD at h
  cases h1 : slotD (L.take 4096) <;> cases h2 : slotD (L.drop 4096) <;> rw [h1, h2] at h <;> simp only at h
  · cases h
  · injection h with h; injection h with h3 h4; injection h4 with h4 h5; subst h3 h4 h5; exact ⟨Nat.le_refl _, h2⟩
  · injection h with h; injection h with h3 h4; injection h4 with h4 h5; subst h3 h4 h5; exact ⟨Nat.zero_le _, h1⟩
  · split at h
    · injection h with h; injection h with h3 h4; injection h4 with h4 h5; subst h3 h4 h5; exact ⟨Nat.le_refl _, h2⟩
    · injection h with h; injection h with h3 h4; injection h4 with h4 h5; subst h3 h4 h5; exact ⟨Nat.zero_le _, h1⟩
theorem slotAt_part {L : List Int} (hl : L.length = 8192) {k : Nat} (hk : k ≤ 1) : (L.drop (k * 4096)).take 4096 = slotAt L k := by
  unfold slotAt
  split
  · rename_i h; subst h; rw [Nat.zero_mul, List.drop_zero]
  · obtain rfl : k = 1 := by omega
    rw [Nat.one_mul]
    exact List.take_of_length_le (by rw [List.length_drop]; omega)
theorem open_fin {W : World} {E : Nat → Prop} {w wr w5 : World} {s p n : Nat} {S : St} {nm : ByteArray} {v0 v5 : Value} {x : List Int} {t k : Nat} (H9 : Held W (fun b => E b ∨ b = s) wr p S n) (hc : Whole wr s 86 [.pointer (some ⟨p, 0, none⟩), .string nm, v0, .int .u64 (t : Int), .int .i64 (k : Int), .int .u64 0]) (O5 : Own w5 v5 x) (N5 : ∀ g, v5.ownBlock = some g → wr.heap.size ≤ g)
    (B5 : Below wr.heap.size wr w5) (KE : Kept E w wr) (hE : ¬ E s) (hW : W.heap.size ≤ s) (hb : Byte x) (hl : x.length ≤ 4080) (hk : k ≤ 1) (ht2 : t < 18446744073709551616) (hnm : nm.size ≤ maxLen) :
    SlAt ((w5.setCell ⟨s, 2, none⟩ v5).setCell ⟨s, 5, none⟩ (.int .u64 (t : Int))) s p nm v5 x t k t ∧ Held W (Hold s v5 E) ((w5.setCell ⟨s, 2, none⟩ v5).setCell ⟨s, 5, none⟩ (.int .u64 (t : Int))) p S n ∧
      Kept E w ((w5.setCell ⟨s, 2, none⟩ v5).setCell ⟨s, 5, none⟩ (.int .u64 (t : Int))) ∧ ∀ g, v5.ownBlock = some g → ¬ E g := by
  have hc2 := (((Whole.kept hc B5).put 2 v5).put 5 (.int .u64 (t : Int)))
  have ht : Turn (fun b => b = s) w5 ((w5.setCell ⟨s, 2, none⟩ v5).setCell ⟨s, 5, none⟩ (.int .u64 (t : Int))) :=
    ((Turn.refl (fun b => b = s) w5).setCell (g := s) 2 _ (.inl rfl)).setCell (g := s) 5 _ (.inl rfl)
  generalize (w5.setCell ⟨s, 2, none⟩ v5).setCell ⟨s, 5, none⟩ (.int .u64 (t : Int)) = w9 at hc2 ht
  have hs7 : s < wr.heap.size := H9.user s (.inr rfl)
  refine ⟨⟨hc2, O5.turned ht fun g hg e => ?_, hb, hnm, hl, hk, Nat.le_refl _, ht2⟩, ?_, fun b h => ?_, fun g hg h => ?_⟩
  · have := N5 g hg
    omega
  · have h8 := H9.mine B5
    have h9 := Held.turned h8 ht fun b h => ⟨.inl (.inr h), by rw [h]; exact hW⟩
    refine h9.fewer fun b h => ?_
    rcases h with (h | h) | h
    · exact .inl (.inr h)
    · exact .inr ⟨N5 b h, O5.lt h⟩
    · exact .inl (.inl h)
  · have hb7 := H9.user b (.inl h)
    exact ((ht.block b (Nat.lt_of_lt_of_le hb7 B5.size) fun e => hE (e ▸ h)).trans (B5.block b hb7)).trans (KE b h)
  · have := N5 g hg
    have := H9.user g (.inl h)
    omega
def OpenOut (W : World) (E : Nat → Prop) (w : World) (p : Nat) (nm : ByteArray) (S : St) (n : Nat) (o : Best) (e : Ending) (w' : World) : Prop :=
  match o with
  | none => e = .returned (.tuple #[.pointer none, .int .i64 4]) ∧ Held W E w' p { S with reads := S.reads + 8192 } (n + 1) ∧ Kept E w w'
  | some (t, x, k) => ∃ s tv, e = .returned (.tuple #[.pointer (some ⟨s, 0, none⟩), .int .i64 0]) ∧ SlAt w' s p nm tv x t k t ∧ Held W (Hold s tv E) w' p { S with reads := S.reads + 8192 } (n + 1) ∧ Kept E w w' ∧ (∀ g, tv.ownBlock = some g → ¬ E g) ∧ ¬ E s ∧ W.heap.size ≤ s

set_option maxRecDepth 100000 in
set_option maxHeartbeats 1000000 in
theorem open_any {W : World} {E : Nat → Prop} (w : World) (p : Nat) (S : St) (n : Nat) (h : Held W E w p S n) (hn : n ≤ 10000000) (hT : crc.Tab W) (nm : ByteArray) (hnm : nm.size ≤ maxLen) (b : Nat) (hb : dlook nm.data.toList S.now = some b) (L : List Int) (hL : (S.file b).now = L) (hl : L.length = 8192) :
    Calls Tryd.prog 34 #[.pointer (some ⟨p, 0, none⟩), .string nm] w (OpenOut W E w p nm S n (openD L)) := by
  have hby : Byte L := by rw [← hL]; exact (h.disk.fit (h.disk.ok.inow _ (dlook_mem hb))).bnow
  have C1 := held_size h nm hnm
  have hsz : S.size nm.data.toList = 8192 := by
    rw [St.size]
    simp only [hb]
    rw [hL]
    omega
  rw [hsz] at C1
  have CR := (read_good w p S n h.disk nm hnm 0 8192 b hb (by rw [hL, hl]; omega) (by omega)).mono fun e w' ho => h.read ho
  rw [hL, List.drop_zero, List.take_of_length_le (by omega)] at CR
  have HC1 := Lib.hid C1
  have HCR := Lib.hid CR
  have HL := Lib.hid hl
  have HY := Lib.hid hby
  have HT := Lib.hid hT
  have H := Lib.hid h
  clear C1 CR h hb hsz hL hl hby hT
  go_enter Tryd.func34, Tryd.ntmps34
  go_wp2_with fail
  refine HC1.out.mono ?_
  rintro e w1 ⟨rfl, rfl⟩
  go_wp2_with fail
  refine HCR.out.mono ?_
  rintro e w2 ⟨v, rfl, o2, n2, h2, k2⟩
  obtain ⟨a2, cap, rfl, hc1, hc2, hno, _, hab⟩ := o2.form
  rw [HL.out] at hc1 hno o2 n2 ⊢
  obtain ⟨g, rfl⟩ : ∃ g, a2 = some ⟨g, 0, none⟩ := by
    rcases hab with h0 | ⟨g, h1, _⟩
    · have := (hno h0).1; omega
    · exact ⟨g, h1⟩
  have H2 := Lib.hid h2
  have K2 := Lib.hid k2
  have N2 := Lib.hid n2
  have O2 := Lib.hid o2
  clear h2 k2 n2 o2 hab hno HC1 HCR
  have ST : ∀ cells : Array Value, cells.toList = bestCells p nm g cap none → Hid (Opening (w2.alloc (.cells cells 86)) w2.heap.size p nm g cap L 0 (.bool false) (w2.alloc (.cells cells 86))) := fun cells hcells =>
    ⟨Whole.new_ rfl (by rw [show bestTo L 0 = none from rfl, ← hcells]), rfl, O2.out.later ((Below.refl _ _).alloc (Nat.le_refl _) _), Turn.refl _ _⟩
  go_wp2_with fail
  have st := ST _ rfl
  have b3 : Below w2.heap.size w2 (w2.alloc (.cells #[.pointer (some ⟨p, 0, none⟩), .string nm, .slice none 0 0, .int .u64 0, .int .i64 0, .int .u64 0] 86)) := (Below.refl _ _).alloc (Nat.le_refl _) _
  obtain ⟨w3, hw3⟩ : ∃ w3, w2.alloc (.cells #[.pointer (some ⟨p, 0, none⟩), .string nm, .slice none 0 0, .int .u64 0, .int .i64 0, .int .u64 0] 86) = w3 := ⟨_, rfl⟩
  obtain ⟨s, hs⟩ : ∃ s, w2.heap.size = s := ⟨_, rfl⟩
  rw [hw3] at b3
  rw [hs] at b3
  rw [hs] at st
  have st2 : Hid (Opening w3 s p nm g cap L 0 (.bool false) w3) := by rw [← hw3]; exact st
  rw [hw3, hs]
  have HS := Lib.hid hs
  have B3 := Lib.hid b3
  have M3 : Hid (Held W (fun b => E b ∨ b = s) w3 p { S with reads := S.reads + 8192 } (n + 1)) := by
    refine (H2.out.mine (by rw [hs]; exact b3)).fewer fun b hb => ?_
    rcases hb with hb | hb
    · exact .inl hb
    · have := st2.out.cells.lt
      exact .inr ⟨by omega, by omega⟩
  have W3 : Hid (Below W.heap.size W w3) := by
    rw [← hw3]
    exact H2.out.below.alloc H2.out.below.size _
  clear st ST hw3 hs b3
  go_loopw [10, 32] (fun wh i wr => ∃ (q : Nat), i = .int .i64 (q : Int) ∧ q ≤ 2 ∧ Opening w3 s p nm g cap L q wh wr) (fun _ i _ => (2 - intOf i).toNat)
  case atStart => exact ⟨0, rfl, by omega, st2.out⟩
  case round =>
    obtain ⟨q, rfl, hq, hR⟩ := hrel
    by_cases hq2 : q < 2
    · have hqI : (q : Int) < 2 := by omega
      have i1 : IntKind.i64.wrap ((q : Int) * 4096) = ((q * 4096 : Nat) : Int) := by rw [IntKind.wrap_i64]; omega
      have s1 : ∀ W, (Instr.slice 44 (.slice (some ⟨g, 0, none⟩) 8192 cap) (some (.int .i64 ((q * 4096 : Nat) : Int))) none none).run Tryd.prog W = .ok (.slice (some ⟨g, q * 4096, none⟩) (8192 - q * 4096) (cap - q * 4096)) W := fun W => by
        have := run_tail8 g 0 8192 cap (q * 4096) (by omega) (by omega) W
        rw [Nat.zero_add] at this
        exact this
      have s2 : ∀ W, (Instr.slice 44 (.slice (some ⟨g, q * 4096, none⟩) (8192 - q * 4096) (cap - q * 4096)) none (some (.int .i64 4096)) none).run Tryd.prog W = .ok (.slice (some ⟨g, q * 4096, none⟩) 4096 (cap - q * 4096)) W := recd.run_front g (q * 4096) (8192 - q * 4096) (cap - q * 4096) 4096 (by omega)
      have hB : Below W.heap.size W wr := W3.out.trans (hR.turn.below (fun k hk => by rw [hk, ← HS.out]; exact H2.out.below.size) W3.out.size)
      obtain ⟨l', hl'⟩ : ∃ l', (L.drop (q * 4096)).take 4096 = l' := ⟨_, rfl⟩
      have CD := decode_any wr (HT.out.later hB) g (q * 4096) (cap - q * 4096) l' (by rw [← hl']; exact at_part (own_at' hR.row) _ _) (by rw [← hl']; exact (HY.out.drop _).take _) (by rw [← hl', List.length_take, List.length_drop, HL.out]; omega) (by omega) (by omega)
      have hbt : bestTo L (q + 1) = better (bestTo L q) (slotD l') q := by rw [← hl']; rfl
      have hwv := hR.whole
      have HCD := Lib.hid CD
      have HBT := Lib.hid hbt
      have HR := Lib.hid hR
      clear hB CD hbt hl'
      have c3 := hR.cells.at_ 3
      have c2 := hR.cells.at_ 2
      have c4 := hR.cells.at_ 4
      have f2 := hR.cells.free 2
      have f3 := hR.cells.free 3
      have f4 := hR.cells.free 4
      obtain ⟨best, hbest⟩ : ∃ o, bestTo L q = o := ⟨_, rfl⟩
      rw [hbest] at HBT hwv c3 c2 c4
      obtain ⟨d, hd⟩ : ∃ d, slotD l' = d := ⟨_, rfl⟩
      rw [hd] at HCD HBT
      subst hwv
      have HBE := Lib.hid hbest
      clear hR hd hbest
      have s1' := s1
      go_wp2_with fail
      refine HCD.out.mono ?_
      rintro e w4 ⟨rfl, z, rfl⟩
      cases d with
      | none =>
        have FIN : Hid (Opening w3 s p nm g cap L (q + 1) (.bool best.isSome) (wr.drewN z)) := by
          refine ⟨?_, ?_, HR.out.row.later (below_draws (Below.refl _ _) z), HR.out.turn.draws z⟩
          · rw [HBT.out, show better best none q = best from rfl, ← HBE.out]
            exact HR.out.cells.draws z
          · rw [HBT.out]; rfl
        clear c3 c2 c4 f2 f3 f4 HCD s1 s2 s1'
        unfold decV
        go_wp2_with fail
        refine ⟨⟨q + 1, by rw [Int.natCast_add]; rfl, by omega, FIN.out⟩, ?_⟩
        show ((2 : Int) - ((q : Int) + 1)).toNat < ((2 : Int) - (q : Int)).toNat
        omega
      | some a =>
        obtain ⟨t, x⟩ := a
        unfold decV
        have NEW : better best (some (t, x)) q = some (t, x, q) → Hid (∀ w5, w5 = (((wr.drewN z).setCell ⟨s, 2, none⟩ (.slice (some ⟨g, q * 4096 + 16, none⟩) x.length (cap - q * 4096 - 16))).setCell ⟨s, 3, none⟩ (.int .u64 (t : Int))).setCell ⟨s, 4, none⟩ (.int .i64 (q : Int)) → Opening w3 s p nm g cap L (q + 1) (.bool true) w5) := by
          intro hbet w5 hw5
          subst hw5
          have hwc := (((HR.out.cells.draws z).put 2 (.slice (some ⟨g, q * 4096 + 16, none⟩) x.length (cap - q * 4096 - 16))).put 3 (.int .u64 (t : Int))).put 4 (.int .i64 (q : Int))
          have ht : Turn (fun b => b = s) wr ((((wr.drewN z).setCell ⟨s, 2, none⟩ (.slice (some ⟨g, q * 4096 + 16, none⟩) x.length (cap - q * 4096 - 16))).setCell ⟨s, 3, none⟩ (.int .u64 (t : Int))).setCell ⟨s, 4, none⟩ (.int .i64 (q : Int))) :=
            ((((Turn.refl (fun b => b = s) wr).draws z).setCell (g := s) 2 _ (.inl rfl)).setCell (g := s) 3 _ (.inl rfl)).setCell (g := s) 4 _ (.inl rfl)
          have hgs : g ≠ s := by
            have h1 := O2.out.lt (g := g) rfl
            have h2 := HS.out
            omega
          refine ⟨?_, ?_, HR.out.row.turned ht fun g' hg' e => hgs ?_, HR.out.turn.trans ht fun k _ hk => hk⟩
          · rw [HBT.out, hbet]
            have e : bestTo L q = best := HBE.out
            rw [e] at hwc
            cases best <;> exact hwc
          · rw [HBT.out, hbet]; rfl
          · have h9 : some g = some g' := hg'
            injection h9 with h9
            omega
        cases best with
        | none =>
          have FIN := NEW rfl
          replace c2 : wr.cell? ⟨s, 2, none⟩ = some (.slice none 0 0) := c2
          replace c3 : wr.cell? ⟨s, 3, none⟩ = some (.int .u64 0) := c3
          replace c4 : wr.cell? ⟨s, 4, none⟩ = some (.int .i64 0) := c4
          clear HCD s1 s2 s1' NEW
          go_wp2_with fail
          refine ⟨⟨q + 1, by rw [Int.natCast_add]; rfl, by omega, FIN.out _ rfl⟩, ?_⟩
          show ((2 : Int) - ((q : Int) + 1)).toNat < ((2 : Int) - (q : Int)).toNat
          omega
        | some y =>
          obtain ⟨t0, x0, k0⟩ := y
          replace c2 : wr.cell? ⟨s, 2, none⟩ = some (.slice (some ⟨g, k0 * 4096 + 16, none⟩) x0.length (cap - k0 * 4096 - 16)) := c2
          replace c3 : wr.cell? ⟨s, 3, none⟩ = some (.int .u64 (t0 : Int)) := c3
          replace c4 : wr.cell? ⟨s, 4, none⟩ = some (.int .i64 (k0 : Int)) := c4
          by_cases hgt : t0 < t
          · have hI : (t0 : Int) < (t : Int) := by omega
            have FIN := NEW (by show (if t0 < t then _ else _) = _; rw [if_pos hgt])
            clear HCD s1 s2 s1' NEW hgt
            go_wp2_with fail
            refine ⟨⟨q + 1, by rw [Int.natCast_add]; rfl, by omega, FIN.out _ rfl⟩, ?_⟩
            show ((2 : Int) - ((q : Int) + 1)).toNat < ((2 : Int) - (q : Int)).toNat
            omega
          · have hI : ¬ (t0 : Int) < (t : Int) := by omega
            have FIN : Hid (Opening w3 s p nm g cap L (q + 1) (.bool true) (wr.drewN z)) := by
              have hb2 : better (some (t0, x0, k0)) (some (t, x)) q = some (t0, x0, k0) := by show (if t0 < t then _ else _) = _; rw [if_neg hgt]
              refine ⟨?_, ?_, HR.out.row.later (below_draws (Below.refl _ _) z), HR.out.turn.draws z⟩
              · rw [HBT.out, hb2, ← HBE.out]
                exact HR.out.cells.draws z
              · rw [HBT.out, hb2]; rfl
            clear HCD s1 s2 s1' NEW hgt
            go_wp2_with fail
            refine ⟨⟨q + 1, by rw [Int.natCast_add]; rfl, by omega, FIN.out⟩, ?_⟩
            show ((2 : Int) - ((q : Int) + 1)).toNat < ((2 : Int) - (q : Int)).toNat
            omega
    · obtain rfl : q = 2 := by omega
      have hwv := hR.whole
      have hbt := bestTo_two HL.out
      have hc := hR.cells
      rw [hbt] at hwv hc
      have hWs : W.heap.size ≤ s := by rw [← HS.out]; exact H2.out.below.size
      have hEs : ¬ E s := fun e => by have := H2.out.user s e; have := HS.out; omega
      have h9 := Held.turned M3.out hR.turn fun b hb => ⟨.inr hb, by rw [hb]; exact hWs⟩
      have ke9 : Kept E w wr := fun b hb => by
        have hb2 := H2.out.user b hb
        have hs' := HS.out
        have e1 := hR.turn.block b (by have := B3.out.size; omega) (fun e => by omega)
        have e2 := B3.out.block b (by omega)
        exact (e1.trans e2).trans (K2.out b hb)
      have H9 := Lib.hid h9
      have KE9 := Lib.hid ke9
      have HWS := Lib.hid hWs
      have HES := Lib.hid hEs
      cases ho : openD L with
      | none =>
        rw [ho] at hwv
        subst hwv
        have FIN : Hid (OpenOut W E w p nm S n none (.returned (.tuple #[.pointer none, .int .i64 4])) wr) := ⟨rfl, H9.out.fewer fun b hb => .inl hb, KE9.out⟩
        have HO := Lib.hid ho
        clear h9 ke9 hR hbt hc hWs hEs ho
        go_wp2_with fail
        go_ret2
        rw [HO.out]
        exact FIN.out
      | some y =>
        obtain ⟨t, x, k⟩ := y
        rw [ho] at hwv hc
        obtain ⟨hk1, hsd⟩ := openD_some ho
        have hsl : 4096 ≤ (slotAt L k).length := by
          unfold slotAt
          split
          · rw [List.length_take, HL.out]; omega
          · rw [List.length_drop, HL.out]; omega
        have hsby : Byte (slotAt L k) := by
          unfold slotAt
          split
          · exact HY.out.take _
          · exact HY.out.drop _
        obtain ⟨_, hx1, hx2, hx3⟩ := slotD_some hsby hsl hsd
        have hld : Leads wr (some ⟨g, k * 4096 + 16, none⟩) x := by
          have h1 := at_leads (at_part (own_at' hR.row) (k * 4096) 4096) 16 (16 + x.length) (by omega) (by rw [slotAt_part HL.out hk1]; omega)
          rw [slotAt_part HL.out hk1, slotD_text hsl hsd] at h1
          exact h1
        subst hwv
        have CC := Lib.hid (clone_lead wr (some ⟨g, k * 4096 + 16, none⟩) x.length (cap - k * 4096 - 16) x hld rfl (by omega))
        have hwc : Whole wr s 86 [.pointer (some ⟨p, 0, none⟩), .string nm, .slice (some ⟨g, k * 4096 + 16, none⟩) x.length (cap - k * 4096 - 16), .int .u64 (t : Int), .int .i64 (k : Int), .int .u64 0] := hc
        have HWC := Lib.hid hwc
        have c2 : wr.cell? ⟨s, 2, none⟩ = some (.slice (some ⟨g, k * 4096 + 16, none⟩) x.length (cap - k * 4096 - 16)) := hwc.at_ 2
        have HX3 := Lib.hid hx3
        have HO := Lib.hid ho
        clear h9 ke9 hR hbt hc hWs hEs hld hsby hsl hsd hwc ho hx3
        go_wp2_with fail
        refine CC.out.mono ?_
        rintro e w5 ⟨v5, rfl, o5, n5, b5⟩
        obtain ⟨a5, cp5, hv5, _, _, _, _, _⟩ := o5.form
        have fin := open_fin H9.out HWC.out o5 n5 b5 KE9.out HES.out HWS.out HX3.out hx1 hk1 hx2 hnm
        have w5c := Whole.kept HWC.out b5
        have c2' : w5.cell? ⟨s, 2, none⟩ = some (.slice (some ⟨g, k * 4096 + 16, none⟩) x.length (cap - k * 4096 - 16)) := w5c.at_ 2
        have c3' : w5.cell? ⟨s, 3, none⟩ = some (.int .u64 (t : Int)) := w5c.at_ 3
        have c5' : w5.cell? ⟨s, 5, none⟩ = some (.int .u64 0) := w5c.at_ 5
        have f2' := w5c.free 2
        have f5' := w5c.free 5
        have FIN := Lib.hid fin
        subst hv5
        clear fin o5 n5 b5 c2 CC w5c
        go_wp2_with fail
        go_ret2
        rw [HO.out]
        exact ⟨s, _, rfl, FIN.out.1, FIN.out.2.1, FIN.out.2.2.1, FIN.out.2.2.2, HES.out, HWS.out⟩
end Go.Proofs.YtpgclhpobijdeaaDoor.slots
