/-
  THE WALK OF 'stillroomlaw10.ManifestOwn' (P10.2).
-/
import Derived.Test.YtpgclhpobijdeaaDoorMnBegun
import Derived.Test.YtpgclhpobijdeaaDoorMnManyM
import Derived.Test.YtpgclhpobijdeaaDoorMBase
namespace Go.Proofs.YtpgclhpobijdeaaDoor.man
open Go.RowKit Go.Proofs.YtpgclhpobijdeaaDoor.disk Go.Proofs.YtpgclhpobijdeaaDoor.recd Go.Proofs.YtpgclhpobijdeaaDoor.num Go.Proofs.YtpgclhpobijdeaaDoor.scan Go.Proofs.YtpgclhpobijdeaaDoor.slots
set_option linter.unusedVariables false

theorem segsB_snoc {n : Int} : ∀ {l : List Int} {z x : Int}, segsB n z l = true → (∀ y ∈ l, y < x) → z < x → x < n → segsB n z (l ++ [x]) = true
  | [], z, x, _, _, h1, h2 => by simp [segsB, h1, h2]
  | y :: l, z, x, h, hl, h1, h2 => by
    simp only [segsB, List.cons_append, Bool.and_eq_true, decide_eq_true_eq] at h ⊢
    exact ⟨h.1, segsB_snoc h.2 (fun u hu => hl u (List.mem_cons_of_mem _ hu)) (hl y (List.mem_cons_self ..)) h2⟩
def boxV (v : Value) : List Value := [.int .u32 4, .int .u64 1, .int .i64 5000, .int .u64 1, .int .i64 1073741824, v]
/-- The law's tenant, as its segments grow. -/
structure OwnI (w4 : World) (pt i : Nat) (last : Int) (L : List Int) (v : Value) (wr : World) : Prop where
  box : Whole wr pt 34 (boxV v)
  row : OwnS fSeg wr v L
  new_ : ∀ g, v.ownBlock = some g → w4.heap.size ≤ g ∧ g ≠ pt
  below : Below w4.heap.size w4 wr
  late : w4.heap.size ≤ pt
  len : L.length = i
  le : ∀ y ∈ L, y ≤ last
  last0 : 0 ≤ last ∧ last ≤ 50 * i
  segs : segsB 1073741824 0 L = true
theorem OwnI.step {w4 wr : World} {pt i : Nat} {last : Int} {L : List Int} {v : Value} (h : OwnI w4 pt i last L v wr) (hi : i < 30) (x : Int) (hx : last < x ∧ x ≤ last + 50) :
    ∃ v' w', (Builtin.append_ #[22, 22] 22 #[v, .slice (some ⟨wr.heap.size, 0, none⟩) 1 1]).run Tryd.prog (wr.alloc (.cells #[.int .i64 x] 2)) = .ok v' w' ∧ Whole w' pt 34 (boxV v) ∧ OwnI w4 pt (i + 1) x (L ++ [x]) v' (w'.setCell ⟨pt, 5, none⟩ v') := by
  obtain ⟨v', w', h1, h2, h3, h4⟩ := h.row.put x 1 (by have := h.len; omega)
  have hpt := h.box.lt
  have hs : (wr.alloc (.cells #[.int .i64 x] 2)).heap.size = wr.heap.size + 1 := by simp
  have wb : Whole (wr.alloc (.cells #[.int .i64 x] 2)) pt 34 (boxV v) := h.box.more _
  have wb2 : Whole w' pt 34 (boxV v) := Whole.same wb (h3.block pt (by rw [show (wr.alloc (.cells (fSeg.cells x).toArray fSeg.e)).heap.size = wr.heap.size + 1 by simp]; omega) (fun e => (h.new_ pt e.symm).2 rfl))
  have hbs := h.below.size
  have hn' : ∀ g, v'.ownBlock = some g → w4.heap.size ≤ g ∧ g ≠ pt := fun g hg => by
    rcases h4 with h4 | h4
    · exact h.new_ g (by rw [← h4]; exact hg)
    · rw [h4] at hg; injection hg with hg; omega
  have b1 : Below w4.heap.size w4 (wr.alloc (.cells (fSeg.cells x).toArray fSeg.e)) := h.below.alloc hbs _
  have b2 : Below w4.heap.size w4 w' := b1.grown h3 b1.size fun g hg => (h.new_ g hg).1
  have t3 : Turn (fun k => k = pt) w' (w'.setCell ⟨pt, 5, none⟩ v') := (Turn.refl (fun k => k = pt) _).setCell 5 v' (.inl rfl)
  refine ⟨v', w', h1, wb2, ⟨wb2.put 5 v', h2.same fun g hg => t3.block g (h2.lt hg) (hn' g hg).2, hn', below_turn b2 t3 (by intro k hk; have := h.late; omega), h.late, by rw [List.length_append, h.len]; rfl, fun y hy => ?_, ⟨by have := h.last0; omega, by have := h.last0; omega⟩, segsB_snoc h.segs (fun y hy => by have := h.le y hy; omega) (by have := h.last0; omega) (by have := h.last0; omega)⟩⟩
  rcases List.mem_append.1 hy with hy | hy
  · have := h.le y hy; omega
  · rw [List.mem_singleton.1 hy]; exact Int.le_refl _
/-- Segments copied. -/
theorem seg_copy {w : World} {v : Value} {L : List Int} (h : OwnS fSeg w v L) (hl : L.length ≤ 1000) :
    ∃ v' w', (Builtin.append_ #[22, 22] 22 #[.slice none 0 0, v]).run Tryd.prog w = .ok v' w' ∧ OwnS fSeg w' v' L ∧ Below w.heap.size w w' ∧ (∀ g, v'.ownBlock = some g → w.heap.size ≤ g) := by
  obtain ⟨i0, hi, hz0, hz1, hz2⟩ := info_parts fSeg.info
  rcases h.form with ⟨rfl, rfl⟩ | ⟨g, cap, rfl, h1, h2, h3, h4⟩
  · exact ⟨_, w, run_append_owned_none w 0 _ _ _ i0 1 Tryd.underlying22 hi (.slice none 0 0) 0 [] (World.ownsRow_nil w 0 _ _), OwnS.none_ fSeg w, Below.refl _ _, fun g hg => by cases hg⟩
  · obtain ⟨v', w', r1, r2, r3, _, r5⟩ := run_append_own_at (P := Tryd.prog) w w.heap.size 22 22 2 i0 (.int .i64 0) 1 8 Tryd.underlying22 hi hz0 hz1 hz2 rfl (by decide) (.slice none 0 0) 0 [] (World.ownsRow_nil w _ _ _)
      ⟨g, 0, none⟩ L.length cap (L.map (Value.int .i64)) (by simp) (fun j u hu => by
        have hj : j < L.length := by have := (List.getElem?_eq_some_iff.1 hu).1; simpa using this
        have := h4 j hj 0 (by decide)
        rw [show (fSeg.sz : Nat) = 1 from rfl, Nat.mul_one, Nat.add_zero] at this
        rw [Addr.add_mid, Nat.zero_add, this, ← hu]
        simp [hj]
        rfl) (by intro u hu; obtain ⟨c, _, rfl⟩ := List.mem_map.1 hu; rfl) (by unfold maxLen; omega) (by omega) (Nat.le_refl _)
    refine ⟨v', w', r1, ?_, (Below.refl _ _).grown r3 (Nat.le_refl _) (fun k hk => by cases hk), fun g' hg' => (World.ownsRow.lt r2 g' hg').1⟩
    unfold OwnS
    rw [seg_flat]
    rw [List.nil_append, Nat.zero_add] at r2
    refine ⟨r2.1, ?_⟩
    rcases r2.2 with e | ⟨g', cap', cur, e1, _, e3⟩
    · exact .inl e
    · exact .inr ⟨g', cap', cur, e1, Nat.zero_le _, e3⟩
/-- What the law adds to the last segment. -/
theorem mod50 (s : Int) : (-49 ≤ Int.tmod s 50 ∧ Int.tmod s 50 ≤ 49) ∧ (0 ≤ Int.tmod (Int.tmod s 50 + 50) 50 ∧ Int.tmod (Int.tmod s 50 + 50) 50 ≤ 49) := by
  have h1 : -49 ≤ Int.tmod s 50 ∧ Int.tmod s 50 ≤ 49 := by
    rcases Int.le_total 0 s with h | h
    · rw [Int.tmod_eq_emod_of_nonneg h]; omega
    · have : Int.tmod s 50 = -(Int.tmod (-s) 50) := by rw [Int.neg_tmod]; omega
      rw [this, Int.tmod_eq_emod_of_nonneg (by omega)]; omega
  refine ⟨h1, ?_⟩
  rw [Int.tmod_eq_emod_of_nonneg (by omega)]
  omega
theorem ManAt.turned {R : Nat → Prop} {w w' : World} {m s p : Nat} {L : List Ten} {tv : Value} {t k tr : Nat} (h : ManAt w m s p L tv t k tr) (ht : Turn R w w') (h1 : ¬ R m) (h2 : ¬ R s) (h3 : ∀ g, tv.ownBlock = some g → ¬ R g) : ManAt w' m s p L tv t k tr :=
  ⟨Whole.same h.cell (ht.block m h.cell.lt h1), h.file.same (ht.block s h.file.cells.lt h2) fun g hg => ht.block g (h.file.text.lt hg) (h3 g hg), h.may, h.fit⟩
/-- What the law still needs: its manifest, and the segments it wants. -/
structure OwnK (w wr : World) (m s p : Nat) (Lt : List Ten) (tv : Value) (t k tr : Nat) (wa : Option Addr) (ln wc : Nat) (L : List Int) : Prop where
  below : Below w.heap.size w wr
  man : ManAt wr m s p Lt tv t k tr
  want : SegsAt wr wa ln wc L
section
variable {w wr w' : World} {m s p : Nat} {Lt : List Ten} {tv : Value} {t k tr : Nat} {wa : Option Addr} {ln wc : Nat} {L : List Int}
theorem OwnK.later (h : OwnK w wr m s p Lt tv t k tr wa ln wc L) (hb : Below wr.heap.size wr w') : OwnK w w' m s p Lt tv t k tr wa ln wc L := ⟨h.below.trans (hb.mono h.below.size), h.man.later hb, h.want.later hb⟩
theorem OwnK.turned {g : Nat} (h : OwnK w wr m s p Lt tv t k tr wa ln wc L) (ht : Turn (fun k => k = g) wr w') (h0 : w.heap.size ≤ g) (h1 : m ≠ g) (h2 : s ≠ g) (h3 : tv.ownBlock ≠ some g) (h4 : ∀ b off, wa = some ⟨b, off, none⟩ → ln ≠ 0 → b ≠ g) : OwnK w w' m s p Lt tv t k tr wa ln wc L := by
  refine ⟨below_turn h.below ht (by intro k hk; omega), h.man.turned ht h1 h2 (fun g' hg' e => h3 (by rw [hg', e])), ?_⟩
  have hw := h.want
  refine ⟨hw.length, hw.le, hw.most, hw.nil, ?_⟩
  rcases hw.cells with h5 | ⟨b, off, e, hc⟩
  · exact .inl h5
  · by_cases h6 : ln = 0
    · exact .inl h6
    · exact .inr ⟨b, off, e, fun i hi => (ht.cell (block_lt_of_cell (hc i hi)) (h4 b off e h6)).trans (hc i hi)⟩
end
theorem own_cell {w : World} {g n c : Nat} {l : List Int} (h : OwnS fSeg w (.slice (some ⟨g, 0, none⟩) n c) l) (hl : l.length = n) {i : Nat} (hi : i < n) : w.cell? ⟨g, i, none⟩ = some (.int .i64 (l.getD i 0)) ∧ w.frozen? ⟨g, i, none⟩ = false ∧ ∀ x, OwnS fSeg (w.setCell ⟨g, i, none⟩ (.int .i64 x)) (.slice (some ⟨g, 0, none⟩) n c) (l.set i x) := by
  subst hl
  unfold OwnS at h
  rw [seg_flat] at h
  refine ⟨?_, World.ownsRow.frozenAt h i, fun x => ?_⟩
  · rw [World.ownsRow.cellAt h i (by show i < _ * 1; omega)]
    simp [hi, List.getD_eq_getElem?_getD]
  · unfold OwnS
    rw [seg_flat, List.length_set, List.map_set]
    exact (World.ownsRow.stored h i (.int .i64 x)).1
theorem one_four (w : World) : Calls Tryd.prog 11 #[.int .u32 4] w fun e w' => ∃ h, e = .returned (.agg #[.int .u32 4, .int .u64 1, .int .i64 5000, .int .u64 1, .int .i64 3, .slice (some ⟨h, 0, none⟩) 2 2]) ∧ Below w.heap.size w w' :=
  (one_any w 4).mono fun e w' ⟨h, he, _, _, _, hb⟩ => ⟨h, he, hb⟩
set_option maxRecDepth 100000 in
set_option maxHeartbeats 2000000 in
theorem manifestown (w : World) (hT : crc.Tab w) {qa : Option Addr} {qn qc : Nat} {ql : List Int} (hq : Nums w qa qn ql) :
    Calls Tryd.prog 4 #[.slice qa qn qc] w fun e w' => e = .returned (.bool true) ∧ Below w.heap.size w w' := by
  have HT := Lib.hid hT
  have HQ := Lib.hid hq
  have hqn := hq.most
  have CB := Lib.hid (manBegun w hT)
  clear hT hq
  go_enter Tryd.func4, Tryd.ntmps4
  go_wp2_with fail
  refine CB.out.mono ?_
  rintro e w1 ⟨rfl, b1⟩
  have B1 := Lib.hid b1
  clear b1 CB
  go_wp2_with fail
  refine (new_any w1 100000).mono ?_
  rintro e w2 ho
  obtain ⟨p, rfl, h2, _⟩ := held_new (W := w) (X := fun _ => False) (fun _ e => e.elim) B1.out ho
  have C2 := Lib.hid (manCreate_any w2 p (show Held w (fun _ => False) w2 p (slots.start (-1)) 0 from h2) HT.out)
  clear ho h2
  go_wp2_with fail
  refine C2.out.mono ?_
  rintro e w3 ⟨_, m, s, tv, b, S', A, rfl, ms, _, _⟩
  have MS := Lib.hid ms
  have B3 := Lib.hid ms.slot.held.below
  clear ms C2
  by_cases h30 : (30 : Int) < (qn : Int)
  · go_wp2_with fail
    go_ret
    exact ⟨rfl, B3.out⟩
  · have hd30 : decide ((30 : Int) < (qn : Int)) = false := decide_eq_false h30
    go_wp2_with fail
    refine (one_four w3).mono ?_
    rintro e w4 ⟨h4, rfl, b4⟩
    have MS4 := Lib.hid (MS.out.later b4)
    have B4 := Lib.hid (B3.out.trans (b4.mono B3.out.size))
    clear b4
    obtain ⟨pt, hpt⟩ : ∃ pt, w4.heap.size = pt := ⟨_, rfl⟩
    have HPT := Lib.hid hpt
    go_upto_region 9 with fail
    obtain ⟨wa, hwa⟩ : ∃ wa, w4.alloc (.cells #[.int .u32 4, .int .u64 1, .int .i64 5000, .int .u64 1, .int .i64 3, .slice (some ⟨h4, 0, none⟩) 2 2] 34) = wa := ⟨_, rfl⟩
    rw [hwa]
    have ba : Below w4.heap.size w4 wa := by rw [← hwa]; exact (Below.refl _ _).alloc (Nat.le_refl _) _
    have wh : Whole wa pt 34 [.int .u32 4, .int .u64 1, .int .i64 5000, .int .u64 1, .int .i64 3, .slice (some ⟨h4, 0, none⟩) 2 2] := by rw [← hwa]; exact Whole.new_ hpt.symm rfl
    obtain ⟨y0, y1, y2, y3, y4, y5⟩ := ten6 wh
    have f4 := wh.free 4
    have f5 := wh.free 5
    have WH := Lib.hid wh
    have BA := Lib.hid ba
    clear hwa ba wh hpt
    go_upto_region 11 with fail
    obtain ⟨w5, hw5⟩ : ∃ w5, (wa.setCell ⟨pt, 4, none⟩ (.int .i64 1073741824)).setCell ⟨pt, 5, none⟩ (.slice none 0 0) = w5 := ⟨_, rfl⟩
    rw [hw5]
    have O0 : Hid (OwnI w4 pt 0 0 [] (.slice none 0 0) w5) := Lib.hid (by
      have hp := HPT.out
      refine ⟨by rw [← hw5]; exact (WH.out.put 4 (.int .i64 1073741824)).put 5 (.slice none 0 0), OwnS.none_ fSeg _, (fun g hg => by cases hg), ?_, by omega, rfl, (fun y hy => by cases hy), by omega, rfl⟩
      rw [← hw5]
      exact (BA.out.setCell (p := ⟨pt, 4, none⟩) (by rw [hp]; exact Nat.le_refl _) _).setCell (p := ⟨pt, 5, none⟩) (by rw [hp]; exact Nat.le_refl _) _)
    clear y0 y1 y2 y3 y4 y5 f4 f5 hw5 WH BA
    go_wp2_with fail
    go_loopw [8, 9] (fun u i wr => ∃ (j : Nat) (last : Int), j ≤ qn ∧ u = .int .i64 last ∧ i = .int .i64 (j : Int) ∧ Hid (∃ L v, OwnI w4 pt j last L v wr)) (fun _ i _ => ((qn : Int) - intOf i).toNat)
    case atStart => exact ⟨0, 0, Nat.zero_le _, rfl, rfl, Lib.hid ⟨[], _, O0.out⟩⟩
    case round =>
      clear O0
      obtain ⟨j, last, hj, rfl, rfl, hI⟩ := hrel
      by_cases hlt : j < qn
      · have hltI : (j : Int) < (qn : Int) := by omega
        obtain ⟨L, v, hO⟩ := hI.out
        obtain ⟨qb, qo, rfl, hqc⟩ : ∃ b off, qa = some ⟨b, off, none⟩ ∧ ∀ i, i < qn → w.cell? ⟨b, off + i, none⟩ = some (.int .i64 (ql.getD i 0)) := by
          rcases HQ.out.cells with h | h
          · omega
          · exact h
        have hq0 := ((B4.out.trans (hO.below.mono B4.out.size)).cell (p := ⟨qb, qo + j, none⟩) (block_lt_of_cell (hqc j hlt))).trans (hqc j hlt)
        obtain ⟨q, hqe⟩ : ∃ q, ql.getD j 0 = q := ⟨_, rfl⟩
        rw [hqe] at hq0
        obtain ⟨⟨m1, m2⟩, m3, m4⟩ := mod50 q
        obtain ⟨a, ha⟩ : ∃ a, Int.tmod q 50 = a := ⟨_, rfl⟩
        rw [ha] at m1 m2 m3 m4
        obtain ⟨c, hc⟩ : ∃ c, Int.tmod (a + 50) 50 = c := ⟨_, rfl⟩
        rw [hc] at m3 m4
        have hl0 := hO.last0
        obtain ⟨x, hx⟩ : ∃ x, last + (1 + c) = x := ⟨_, rfl⟩
        obtain ⟨v', w', r', wb', hN⟩ := hO.step (by omega) x (by omega)
        obtain ⟨va', vc', rfl, _, _⟩ := SegsAt.of_own hN.row
        obtain ⟨ln, hln⟩ : ∃ ln, (L ++ [x]).length = ln := ⟨_, rfl⟩
        rw [hln] at r' hN
        have R := Lib.hid r'
        have F : Hid (∃ L v, OwnI w4 pt (j + 1) x L v (w'.setCell ⟨pt, 5, none⟩ (.slice va' ln vc'))) := Lib.hid ⟨_, _, hN⟩
        have z5 : wr.cell? ⟨pt, 5, none⟩ = some v := hO.box.at_ 5
        have y5 : w'.cell? ⟨pt, 5, none⟩ = some v := wb'.at_ 5
        have f5 := wb'.free 5
        have hl1 : last + (1 + c) ≤ 5000 := by omega
        clear hO hqc hqe r' wb' hN hI hln
        go_wp2_with ((with_reducible show wpList _ _ _ (⟨some 58, _, _, _, _, _⟩ :: _) _ _); refine scan.wpList_append_of 22 22 (.tmp 55) (.tmp 57) _ _ rfl rfl rfl rfl rfl R.out ?_)
        refine ⟨⟨j + 1, x, by omega, by first | rfl | rw [hx], by rw [Int.natCast_add]; rfl, F⟩, ?_⟩
        show ((qn : Int) - ((j : Int) + 1)).toNat < ((qn : Int) - (j : Int)).toNat
        omega
      · obtain rfl : j = qn := by omega
        obtain ⟨L, v, hO⟩ := hI.out
        obtain ⟨va, vc, rfl, hsa, hva⟩ := SegsAt.of_own hO.row
        have hll := hO.len
        obtain ⟨T, hTe⟩ : ∃ T : Ten, (⟨4, 1, 5000, 1, 1073741824, L⟩ : Ten) = T := ⟨_, rfl⟩
        have hfit : T.Fit := by
          rw [← hTe]
          refine ⟨by show 4 < _; omega, by show 1 < _; omega, by show _ ≤ (5000 : Int) ∧ (5000 : Int) ≤ _; omega, by show 1 < _; omega, by show _ ≤ (1073741824 : Int) ∧ (1073741824 : Int) ≤ _; omega, fun y hy => ?_⟩
          have := segsB_mem hO.segs y hy
          omega
        have hmay : mayB (putT [] T) = true := by
          rw [← hTe]
          simp [putT, mayB, riseB, oneB, headB, hO.segs]
          omega
        have hms := (MS4.out.later hO.below)
        have hE : MSlot w (fun k => w4.heap.size ≤ k ∧ k < wr.heap.size) wr m s p [] tv 1 0 1 S' 9 b A (-1) := (MS4.out.mine hO.below).fewer fun k hk => .inr hk
        have CP : Hid (Calls Tryd.prog 10 #[.pointer (some ⟨m, 0, none⟩), .agg #[.int .u32 4, .int .u64 1, .int .i64 5000, .int .u64 1, .int .i64 1073741824, .slice va L.length vc]] wr (PutOut w (fun k => w4.heap.size ≤ k ∧ k < wr.heap.size) wr m s p [] 1 0 1 9 b A (-1) T)) := by
          have := put_ten hE (by omega) HT.out (by omega) ⟨T, va, L.length, vc⟩ ⟨hfit, by rw [← hTe]; exact hsa⟩
          rw [← hTe] at this ⊢
          exact Lib.hid this
        obtain ⟨z0, z1, z2, z3, z4, z5⟩ := ten6 (by have := hO.box; unfold boxV at this; exact this)
        have HO := Lib.hid hO
        have HMAY := Lib.hid hmay
        have HTE := Lib.hid hTe
        have HVA := Lib.hid hva
        have HLL := Lib.hid hll
        have BW := Lib.hid hE.slot.held.below
        obtain ⟨ln, hln⟩ : ∃ ln, L.length = ln := ⟨_, rfl⟩
        have HLN := Lib.hid hln
        rw [hln] at CP z5
        have hln30 : ln ≤ 30 := by omega
        clear hO hfit hmay hms hE hsa hva hll hTe hln hI
        go_wp2_with fail
        refine CP.out.mono ?_
        rintro e w6 ⟨k6, cc, tv', L', t', k', tr', S2, A2, f2, rfl, ms6, hc⟩
        obtain ⟨rfl, _, rfl, rfl, _, _, _, _⟩ := put_case_ok hc HMAY.out
        have hpt6 : w4.heap.size ≤ pt ∧ pt < wr.heap.size := ⟨HO.out.late, HO.out.box.lt⟩
        have box6 : Whole w6 pt 34 (boxV (.slice va L.length vc)) := Whole.same HO.out.box (k6 pt hpt6)
        have row6 : OwnS fSeg w6 (.slice va L.length vc) L := HO.out.row.same fun g hg => k6 g ⟨(HO.out.new_ g hg).1, HO.out.row.lt hg⟩
        obtain ⟨v7, w7, r7, o7, b7, n7⟩ := seg_copy row6 (by have := HLN.out; omega)
        obtain ⟨wa7, wc7, rfl, hs7, _⟩ := SegsAt.of_own o7
        have M6 := Lib.hid ms6.at_
        have FR := Lib.hid (show (∀ g, tv'.ownBlock = some g → ¬ (w4.heap.size ≤ g ∧ g < wr.heap.size)) ∧ ¬ (w4.heap.size ≤ s ∧ s < wr.heap.size) ∧ ¬ (w4.heap.size ≤ m ∧ m < wr.heap.size) from ⟨fun g hg h => ms6.slot.fresh g hg (.inl h), fun h => ms6.slot.free (.inl h), fun h => by have := MS4.out.cell.lt; omega⟩)
        have B6 := Lib.hid ms6.slot.held.below
        have R7 := Lib.hid r7
        rw [HLN.out] at box6 row6 hs7 o7
        obtain ⟨x0, x1, x2, x3, x4, x5⟩ := ten6 (by have := box6; unfold boxV at this; exact this)
        have BOX6 := Lib.hid box6
        have ROW6 := Lib.hid row6
        have HS7 := Lib.hid hs7
        have B7 := Lib.hid b7
        have N7 := Lib.hid n7
        have O7 := Lib.hid o7
        rw [HLN.out] at R7 N7
        clear k6 ms6 hc box6 row6 hs7 b7 n7 r7 o7 z0 z1 z2 z3 z4 z5 CP
        go_upto_region 20 with ((with_reducible show wpList _ _ _ (⟨some 66, _, _, _, _, _⟩ :: _) _ _); refine scan.wpList_append_of 22 22 (.const (.slice none 0 0)) (.tmp 65) _ _ rfl rfl rfl rfl rfl R7.out ?_)
        have K7 : Hid (OwnK w w7 m s p (putT [] T) tv' t' k' tr' wa7 ln wc7 L) := Lib.hid ⟨B6.out.trans (B7.out.mono B6.out.size), M6.out.later B7.out, by have := HS7.out; exact this⟩
        have GV : Hid (∀ g, va = some ⟨g, 0, none⟩ → w.heap.size ≤ g ∧ m ≠ g ∧ s ≠ g ∧ tv'.ownBlock ≠ some g ∧ g ≠ pt ∧ ∀ b off, wa7 = some ⟨b, off, none⟩ → b ≠ g) := Lib.hid fun g hg => by
          have hgo : (Value.slice va L.length vc).ownBlock = some g := by rw [hg]; rfl
          have h1 := HO.out.new_ g hgo
          have h2 := HO.out.row.lt hgo
          have h3 := B4.out.size
          obtain ⟨f1, f2, f3⟩ := FR.out
          refine ⟨by omega, fun e => f3 (by omega), fun e => f2 (by omega), fun e => f1 g e ⟨by omega, h2⟩, h1.2, fun b off e eb => ?_⟩
          have h5 := N7.out b (by rw [e]; rfl)
          have h6 := ROW6.out.lt (g := g) (by rw [hg]; rfl)
          omega
        have J0 : Hid (Whole w7 pt 34 (boxV (.slice va ln vc)) ∧ ∃ L', L'.length = ln ∧ OwnS fSeg w7 (.slice va ln vc) L') := Lib.hid ⟨BOX6.out.kept B7.out, L, HLN.out, ROW6.out.later B7.out⟩
        have hpw : w.heap.size ≤ pt := by have := HO.out.late; have := B4.out.size; omega
        have HVA2 : Hid (va = none ∨ ∃ g, va = some ⟨g, 0, none⟩) := Lib.hid (by rcases HVA.out with h | ⟨g, h, _⟩; exact .inl h; exact .inr ⟨g, h⟩)
        have HNIL : Hid (va = none → ln = 0) := Lib.hid fun e => by
          have := HO.out.row.form
          rcases this with ⟨_, h⟩ | ⟨g, cap, h, _⟩
          · rw [← HLN.out, h]; rfl
          · rw [e] at h; cases h
        clear R7 BOX6 ROW6 HS7 B7 N7 O7 M6 FR B6 HO HVA HMAY MS4 MS x0 x1 x2 x3 x4 x5 hpt6
        go_wp2_with fail
        go_loopw [11] (fun u wr => ∃ i : Nat, i ≤ ln ∧ u = .int .i64 (i : Int) ∧ Hid (OwnK w wr m s p (putT [] T) tv' t' k' tr' wa7 ln wc7 L) ∧ Hid (Whole wr pt 34 (boxV (.slice va ln vc)) ∧ ∃ L', L'.length = ln ∧ OwnS fSeg wr (.slice va ln vc) L')) (fun u _ => ln - (intOf u).toNat)
        case atStart => exact ⟨0, Nat.zero_le _, rfl, K7, J0⟩
        case round =>
          clear K7 J0
          obtain ⟨i, hi, rfl, hK, hJ⟩ := hrel
          obtain ⟨x0, x1, x2, x3, x4, x5⟩ := ten6 (by have := hJ.out.1; unfold boxV at this; exact this)
          by_cases hil : i < ln
          · have hilI : (i : Int) < (ln : Int) := by omega
            obtain ⟨gv, rfl⟩ : ∃ g, va = some ⟨g, 0, none⟩ := by
              rcases HVA2.out with h | h
              · have := HNIL.out h; omega
              · exact h
            obtain ⟨g0, g1, g2, g3, g4, g5⟩ := GV.out gv rfl
            obtain ⟨hb, L', hl', ho'⟩ := hJ.out
            obtain ⟨c1, c2, c3⟩ := own_cell ho' hl' hil
            obtain ⟨w8, hw8⟩ : ∃ w8, wr.setCell ⟨gv, i, none⟩ (.int .i64 (-1)) = w8 := ⟨_, rfl⟩
            have t8 : Turn (fun k => k = gv) wr w8 := by rw [← hw8]; exact (Turn.refl (fun k => k = gv) _).setCell i (.int .i64 (-1)) (.inl rfl)
            have K8 : Hid (OwnK w w8 m s p (putT [] T) tv' t' k' tr' wa7 ln wc7 L) := Lib.hid (hK.out.turned t8 g0 g1 g2 g3 fun b off e _ => g5 b off e)
            have J8 : Hid (Whole w8 pt 34 (boxV (.slice (some ⟨gv, 0, none⟩) ln vc)) ∧ ∃ L', L'.length = ln ∧ OwnS fSeg w8 (.slice (some ⟨gv, 0, none⟩) ln vc) L') := Lib.hid ⟨Whole.same hb (t8.block pt hb.lt (fun e => g4 e.symm)), L'.set i (-1), by rw [List.length_set]; exact hl', by rw [← hw8]; exact c3 (-1)⟩
            have HW8 := Lib.hid hw8
            clear hb ho' c3 t8 hw8 hK hJ hl' g0 g1 g2 g3 g4 g5
            go_wp2_with fail
            rw [HW8.out]
            refine ⟨⟨i + 1, by omega, by rw [Int.natCast_add]; rfl, K8, J8⟩, ?_⟩
            show ln - ((i : Int) + 1).toNat < ln - (i : Int).toNat
            omega
          · obtain rfl : i = ln := by omega
            have CG := Lib.hid (get_any hK.out.man 4)
            have KK := Lib.hid hK.out
            have PW : Hid (∀ b off, wa7 = some ⟨b, off, none⟩ → i ≠ 0 → b < wr.heap.size) := Lib.hid fun b off e h0 => by
              rcases hK.out.want.cells with h | ⟨b', off', e', hc⟩
              · exact absurd h h0
              · rw [e'] at e
                injection e with e
                injection e with e
                have := block_lt_of_cell (hc 0 (by omega))
                have : b' < wr.heap.size := this
                omega
            clear hK hJ GV HNIL HVA2
            go_wp2_with fail
            refine CG.out.mono ?_
            rintro e w8 ⟨b8, ⟨_, hno⟩ | ⟨x, hx, rfl, hmem, _, hxa, hxl, hxn, hxc, sx, _⟩⟩
            · exact absurd (show T.id = 4 by rw [← HTE.out]) (hno T (List.mem_singleton.2 rfl))
            have hxt : x.t = T := List.mem_singleton.1 hmem
            obtain ⟨xt, xa, xn, xc⟩ := x
            simp only at hxt hxa hxn hxc sx
            subst hxt
            obtain rfl : xn = i := by rw [← hxn, ← HTE.out]; exact HLN.out
            subst hxc
            subst hxa
            have K8 := Lib.hid (KK.out.later b8)
            have SX : Hid (Segs w8 hx xc L) := Lib.hid (by rw [← HTE.out] at sx; exact sx)
            have SEP : Hid (w.heap.size ≤ hx ∧ m ≠ hx ∧ s ≠ hx ∧ tv'.ownBlock ≠ some hx ∧ ∀ b off, wa7 = some ⟨b, off, none⟩ → xc ≠ 0 → b ≠ hx) := Lib.hid (by
              have hk := KK.out
              have h1 := hk.below.size
              refine ⟨by omega, fun e => by have := hk.man.cell.lt; omega, fun e => by have := hk.man.file.cells.lt; omega, fun e => by have := hk.man.file.text.lt e; omega, fun b off e h0 => by have := PW.out b off e h0; omega⟩)
            clear b8 hmem hxn sx CG KK PW hxl x0 x1 x2 x3 x4 x5
            have hT4 : TS.val ⟨xt, some ⟨hx, 0, none⟩, xc, xc⟩ = .agg #[.int .u32 4, .int .u64 1, .int .i64 5000, .int .u64 1, .int .i64 1073741824, .slice (some ⟨hx, 0, none⟩) xc xc] := by rw [← HTE.out]; rfl
            rw [hT4]
            clear hT4
            obtain ⟨px, hpx⟩ : ∃ px, w8.heap.size = px := ⟨_, rfl⟩
            go_upto_region 25 with fail
            obtain ⟨w9, hw9⟩ : ∃ w9, w8.alloc (.cells #[.int .u32 4, .int .u64 1, .int .i64 5000, .int .u64 1, .int .i64 1073741824, .slice (some ⟨hx, 0, none⟩) xc xc] 34) = w9 := ⟨_, rfl⟩
            rw [hw9]
            have b9 : Below w8.heap.size w8 w9 := by rw [← hw9]; exact (Below.refl _ _).alloc (Nat.le_refl _) _
            have K9 := Lib.hid (K8.out.later b9)
            have X9 : Hid (Whole w9 px 34 (boxV (.slice (some ⟨hx, 0, none⟩) xc xc)) ∧ Segs w9 hx xc (List.replicate 0 (-2) ++ L.drop 0) ∧ px ≠ hx) := Lib.hid (by
              have s8 := SX.out
              refine ⟨by rw [← hw9]; exact Whole.new_ hpx.symm rfl, by simpa using s8.same (b9.block hx s8.lt), fun e => by have := s8.lt; omega⟩)
            clear hw9 b9 SX K8 hpx
            go_wp2_with fail
            go_loopw [14] (fun u wr => ∃ j : Nat, j ≤ xc ∧ u = .int .i64 (j : Int) ∧ Hid (OwnK w wr m s p (putT [] xt) tv' t' k' tr' wa7 xc wc7 L) ∧ Hid (Whole wr px 34 (boxV (.slice (some ⟨hx, 0, none⟩) xc xc)) ∧ Segs wr hx xc (List.replicate j (-2) ++ L.drop j) ∧ px ≠ hx)) (fun u _ => xc - (intOf u).toNat)
            case atStart => exact ⟨0, Nat.zero_le _, rfl, K9, X9⟩
            case round =>
              clear K9 X9
              obtain ⟨j, hj, rfl, hK, hJ⟩ := hrel
              obtain ⟨x0, x1, x2, x3, x4, x5⟩ := ten6 (by have := hJ.out.1; unfold boxV at this; exact this)
              by_cases hjl : j < xc
              · have hjlI : (j : Int) < (xc : Int) := by omega
                obtain ⟨hb, sg, hpn⟩ := hJ.out
                have hLl : L.length = xc := HLN.out
                obtain ⟨q, hq⟩ : ∃ q, L.getD j 0 = q := ⟨_, rfl⟩
                have c1 : wr.cell? ⟨hx, j, none⟩ = some (.int .i64 q) := by
                  rw [sg.cell j hjl, List.getElem?_map, List.getElem?_append_right (by rw [List.length_replicate]; exact Nat.le_refl _), List.length_replicate, Nat.sub_self, List.getElem?_drop, Nat.add_zero, ← hq, List.getD_eq_getElem?_getD, List.getElem?_eq_getElem (by omega)]
                  rfl
                obtain ⟨wb, wo, rfl, wc⟩ : ∃ b off, wa7 = some ⟨b, off, none⟩ ∧ ∀ j, j < xc → wr.cell? ⟨b, off + j, none⟩ = some (.int .i64 (L.getD j 0)) := by
                  rcases hK.out.want.cells with h | h
                  · omega
                  · exact h
                have c2 := wc j hjl
                rw [hq] at c2
                have a1 := Aft.cell c1
                have a2 := Aft.cell c2
                have a5 := Aft.cell x5
                have SG := Lib.hid sg
                have HB := Lib.hid hb
                have HPN := Lib.hid hpn
                have HLL2 := Lib.hid hLl
                clear c1 c2 wc sg hb hJ hq hLl x0 x1 x2 x3 x4
                go_upto_region 28 with fail
                refine wp_region_aft (by kernel_rfl) (by kernel_rfl) ?_
                repeat ((with_reducible refine wpQuiet_step (fun K hK => ?_)); go_simp; refine hK _ ?_; clear hK K)
                refine wpQuiet_nil ?_
                intro _ hw'
                obtain ⟨pq, hw''⟩ := hw'
                subst hw''
                obtain ⟨w10, hw10⟩ : ∃ w10, pq.W = w10 := ⟨_, rfl⟩
                have sg10 : Segs w10 hx xc (List.replicate j (-2) ++ L.drop j) := by rw [← hw10]; exact SG.out.same (pq.h.block hx SG.out.lt)
                have hb10 : Whole w10 px 34 (boxV (.slice (some ⟨hx, 0, none⟩) xc xc)) := by rw [← hw10]; exact HB.out.kept pq.h
                have K10 : Hid (OwnK w w10 m s p (putT [] xt) tv' t' k' tr' (some ⟨wb, wo, none⟩) xc wc7 L) := Lib.hid (by rw [← hw10]; exact hK.out.later pq.h)
                rw [hw10]
                clear hw10 a1 a2 a5 hK SG HB x5
                obtain ⟨y, c1⟩ := sg10.some_ j hjl
                have f1 := sg10.free j
                have x5 : w10.cell? ⟨px, 5, none⟩ = some (.slice (some ⟨hx, 0, none⟩) xc xc) := hb10.at_ 5
                obtain ⟨w11, hw11⟩ : ∃ w11, w10.setCell ⟨hx, j, none⟩ (.int .i64 (-2)) = w11 := ⟨_, rfl⟩
                have t11 : Turn (fun k => k = hx) w10 w11 := by rw [← hw11]; exact (Turn.refl (fun k => k = hx) _).setCell j (.int .i64 (-2)) (.inl rfl)
                obtain ⟨p1, p2, p3, p4, p5⟩ := SEP.out
                have K11 : Hid (OwnK w w11 m s p (putT [] xt) tv' t' k' tr' (some ⟨wb, wo, none⟩) xc wc7 L) := Lib.hid (K10.out.turned t11 p1 p2 p3 p4 p5)
                have X11 : Hid (Whole w11 px 34 (boxV (.slice (some ⟨hx, 0, none⟩) xc xc)) ∧ Segs w11 hx xc (List.replicate (j + 1) (-2) ++ L.drop (j + 1)) ∧ px ≠ hx) := Lib.hid (by
                  have hll := HLL2.out
                  refine ⟨Whole.same hb10 (t11.block px hb10.lt HPN.out), ?_, HPN.out⟩
                  have := sg10.put j (-2)
                  rw [hw11] at this
                  have e : (List.replicate j (-2 : Int) ++ L.drop j).set j (-2) = List.replicate (j + 1) (-2) ++ L.drop (j + 1) := by
                    rw [List.set_append_right _ _ (by rw [List.length_replicate]; exact Nat.le_refl _), List.length_replicate, Nat.sub_self, List.drop_eq_getElem_cons (by omega), List.set_cons_zero, List.replicate_succ']
                    simp
                  rwa [e] at this)
                have HW11 := Lib.hid hw11
                clear sg10 hb10 t11 hw11 p1 p2 p3 p4 p5 K10
                go_wp2_with fail
                rw [HW11.out]
                refine ⟨⟨j + 1, by omega, by rw [Int.natCast_add]; rfl, K11, X11⟩, ?_⟩
                show xc - ((j : Int) + 1).toNat < xc - (j : Int).toNat
                omega
              · obtain rfl : j = xc := by omega
                have CA := Lib.hid (all_any hK.out.man)
                have KK := Lib.hid hK.out
                clear hK hJ x0 x1 x2 x3 x4
                go_wp2_with fail
                refine CA.out.mono ?_
                rintro e w12 ⟨g, n12, xs, rfl, ht, ho, _, b12⟩
                obtain rfl : n12 = 1 := by rw [← ho.length, ← tens_length, ht]; rfl
                obtain ⟨y, rfl⟩ : ∃ y, xs = [y] := by
                  have hl := ho.length
                  match xs, hl with
                  | [y], _ => exact ⟨y, rfl⟩
                have hyt : y.t = xt := by
                  have : [y.t] = [xt] := ht
                  injection this
                have hyl : y.t.segs = L := by rw [hyt, ← HTE.out]
                have hLl : L.length = j := HLN.out
                have X12 : Hid (Below w.heap.size w w12 ∧ TRow w12 (some ⟨g, 0, none⟩) 1 1 [y] ∧ SegsAt w12 wa7 j wc7 L) := Lib.hid (by
                  have k12 := KK.out.later b12
                  exact ⟨k12.below, ho.trow, k12.want⟩)
                have YN : Hid (∀ W, TRow W (some ⟨g, 0, none⟩) 1 1 [y] → ∃ h, y.a = some ⟨h, 0, none⟩ ∧ y.n = j ∧ y.cap = j ∧ W.cell? ⟨g, 5, none⟩ = some (.slice (some ⟨h, 0, none⟩) j j) ∧ SegsAt W (some ⟨h, 0, none⟩) j j L) := Lib.hid fun W hW => by
                  obtain ⟨h, a1, _, a3, a4, _, _⟩ := ho.fresh y (List.mem_singleton.2 rfl)
                  have hn : y.n = j := by rw [← a3, hyl, hLl]
                  obtain ⟨b, o, x, e, hx0, _, _, hs, _, _, _, _, _, c5⟩ := hW.at_ (i := 0) (by omega)
                  injection e with e
                  injection e with e1 e2
                  subst e1 e2
                  rw [List.getElem?_cons_zero] at hx0
                  injection hx0 with hx0
                  subst hx0
                  rw [a1, hn, a4, hn] at c5 hs
                  rw [hyl] at hs
                  exact ⟨h, a1, hn, by rw [a4, hn], by simpa using c5, hs⟩
                obtain ⟨hg, ya, yn, yc, cg, sg⟩ := YN.out w12 X12.out.2.1
                clear ht ho b12 CA KK hyt hyl x5 sg
                go_wp2_with fail
                go_loopw [16] (fun u wr => ∃ i : Nat, i ≤ j ∧ u = .int .i64 (i : Int) ∧ Hid (Below w.heap.size w wr ∧ TRow wr (some ⟨g, 0, none⟩) 1 1 [y] ∧ SegsAt wr wa7 j wc7 L)) (fun u _ => j - (intOf u).toNat)
                case atStart => exact ⟨0, Nat.zero_le _, rfl, X12⟩
                case round =>
                  clear X12 cg
                  obtain ⟨i, hi, rfl, hX⟩ := hrel
                  by_cases hil : i < j
                  · have hilI : (i : Int) < (j : Int) := by omega
                    obtain ⟨h, ya', _, _, cg, sg⟩ := YN.out wr hX.out.2.1
                    obtain ⟨wb, wo, rfl, wc⟩ : ∃ b off, wa7 = some ⟨b, off, none⟩ ∧ ∀ i, i < j → wr.cell? ⟨b, off + i, none⟩ = some (.int .i64 (L.getD i 0)) := by
                      rcases hX.out.2.2.cells with h | h
                      · omega
                      · exact h
                    have c2 := wc i hil
                    obtain ⟨sb, so, e, sc⟩ : ∃ b off, some (⟨h, 0, none⟩ : Addr) = some ⟨b, off, none⟩ ∧ ∀ i, i < j → wr.cell? ⟨b, off + i, none⟩ = some (.int .i64 (L.getD i 0)) := by
                      rcases sg.cells with h | h
                      · omega
                      · exact h
                    injection e with e
                    injection e with e1 e2
                    subst e1 e2
                    have c1 := sc i hil
                    rw [Nat.zero_add] at c1
                    obtain ⟨q, hq⟩ : ∃ q, L.getD i 0 = q := ⟨_, rfl⟩
                    rw [hq] at c1 c2
                    have a1 := Aft.cell c1
                    have a2 := Aft.cell c2
                    have a5 := Aft.cell cg
                    clear c1 c2 wc sc sg hq cg
                    go_upto_region 37 with fail
                    refine wp_region_aft (by kernel_rfl) (by kernel_rfl) ?_
                    repeat ((with_reducible refine wpQuiet_step (fun K hK => ?_)); go_simp; refine hK _ ?_; clear hK K)
                    refine wpQuiet_nil ?_
                    intro _ hw'
                    obtain ⟨pq, hw''⟩ := hw'
                    subst hw''
                    have F : Hid (Below w.heap.size w pq.W ∧ TRow pq.W (some ⟨g, 0, none⟩) 1 1 [y] ∧ SegsAt pq.W (some ⟨wb, wo, none⟩) j wc7 L) := Lib.hid ⟨hX.out.1.trans (pq.h.mono hX.out.1.size), hX.out.2.1.later pq.h, hX.out.2.2.later pq.h⟩
                    clear a1 a2 a5 hX
                    go_wp2_with fail
                    refine ⟨⟨i + 1, by omega, by rw [Int.natCast_add]; rfl, F⟩, ?_⟩
                    show j - ((i : Int) + 1).toNat < j - (i : Int).toNat
                    omega
                  · have hilI : ¬ (i : Int) < (j : Int) := by omega
                    have F := Lib.hid hX.out.1
                    clear hX
                    go_wp2_with fail
                    go_ret
                    exact ⟨rfl, F.out⟩
end Go.Proofs.YtpgclhpobijdeaaDoor.man
