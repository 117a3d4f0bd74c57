/-
  A MANIFEST ON A DISK that a law holds; CONTRACT of its Put.
-/
import Derived.Test.YtpgclhpobijdeaaDoorMnMan
namespace Go.Proofs.YtpgclhpobijdeaaDoor.man
open Go.RowKit Go.Proofs.YtpgclhpobijdeaaDoor.disk Go.Proofs.YtpgclhpobijdeaaDoor.recd Go.Proofs.YtpgclhpobijdeaaDoor.num Go.Proofs.YtpgclhpobijdeaaDoor.scan Go.Proofs.YtpgclhpobijdeaaDoor.slots
set_option linter.unusedVariables false

/-- A tenant in its place, or beside the others. -/
def putT : List Ten → Ten → List Ten
  | [], t => [t]
  | u :: l, t => if u.id < t.id then u :: putT l t else if u.id = t.id then t :: l else t :: u :: l
theorem putT_true : ∀ {L : List Ten} {t : Ten} {i : Nat}, FindAt L t.id i true → L.set i t = putT L t
  | [], t, i, h => by obtain ⟨u, hu, _⟩ := h.found rfl; simp at hu
  | u :: l, t, 0, h => by
    obtain ⟨v, hv, he⟩ := h.found rfl
    rw [List.getElem?_cons_zero] at hv
    injection hv with hv
    subst hv
    rw [putT, if_neg (by omega), if_pos he]
    rfl
  | u :: l, t, i + 1, h => by
    have hu := h.before 0 u (by omega) rfl
    rw [putT, if_pos hu, List.set_cons_succ, putT_true (L := l) (i := i)]
    refine ⟨by have := h.le; simp at this; omega, fun j v hj hv => h.before (j + 1) v (by omega) hv, fun j v hj hv => h.behind (j + 1) v (by omega) hv, fun _ => ?_, fun e => by cases e⟩
    obtain ⟨v, hv, he⟩ := h.found rfl
    exact ⟨v, hv, he⟩
theorem putT_false : ∀ {L : List Ten} {t : Ten} {i : Nat}, FindAt L t.id i false → L.take i ++ t :: L.drop i = putT L t
  | [], t, i, h => by simp [putT]
  | u :: l, t, 0, h => by
    have h1 := h.behind 0 u (Nat.le_refl _) rfl
    have h2 := h.none_ rfl u (List.mem_cons_self ..)
    rw [putT, if_neg (by omega), if_neg h2]
    rfl
  | u :: l, t, i + 1, h => by
    have hu := h.before 0 u (by omega) rfl
    rw [putT, if_pos hu, List.take_succ_cons, List.drop_succ_cons, List.cons_append, putT_false (L := l) (i := i)]
    exact ⟨by have := h.le; simp at this; omega, fun j v hj hv => h.before (j + 1) v (by omega) hv, fun j v hj hv => h.behind (j + 1) v (by omega) hv, (fun e => by cases e), fun _ v hv => h.none_ rfl v (List.mem_cons_of_mem _ hv)⟩
theorem putT_fit : ∀ {L : List Ten} {t : Ten}, (∀ u ∈ L, u.Fit) → t.Fit → ∀ u ∈ putT L t, u.Fit
  | [], t, _, ht, u, hu => by rw [List.mem_singleton.1 hu]; exact ht
  | v :: l, t, hl, ht, u, hu => by
    unfold putT at hu
    split at hu
    · rcases List.mem_cons.1 hu with rfl | hu
      · exact hl _ (List.mem_cons_self ..)
      · exact putT_fit (fun x hx => hl x (List.mem_cons_of_mem _ hx)) ht u hu
    · split at hu
      · rcases List.mem_cons.1 hu with rfl | hu
        · exact ht
        · exact hl _ (List.mem_cons_of_mem _ hu)
      · rcases List.mem_cons.1 hu with rfl | hu
        · exact ht
        · exact hl _ hu
/-- A manifest that is open, on its disk. -/
structure MSlot (W : World) (E : Nat → Prop) (w : World) (m s p : Nat) (L : List Ten) (tv : Value) (t k tr : Nat) (S : St) (n b : Nat) (A : FileA) (f : Int) : Prop where
  cell : Whole w m 62 [.pointer (some ⟨s, 0, none⟩)]
  slot : Slot W (fun j => E j ∨ j = m) w s p aB tv (enc L) t k tr S n b A f
  may : mayB L = true
  fit : ∀ t ∈ L, t.Fit
  late : W.heap.size ≤ m
section
variable {W : World} {E : Nat → Prop} {w w' : World} {m s p : Nat} {L : List Ten} {tv : Value} {t k tr : Nat} {S : St} {n b : Nat} {A : FileA} {f : Int}
theorem MSlot.at_ (h : MSlot W E w m s p L tv t k tr S n b A f) : ManAt w m s p L tv t k tr := ⟨h.cell, h.slot.at_, h.may, h.fit⟩
theorem MSlot.later (h : MSlot W E w m s p L tv t k tr S n b A f) (hb : Below w.heap.size w w') : MSlot W E w' m s p L tv t k tr S n b A f := ⟨h.cell.kept hb, h.slot.later hb, h.may, h.fit, h.late⟩
theorem MSlot.more (h : MSlot W E w m s p L tv t k tr S n b A f) {n' : Nat} (hn : n ≤ n') : MSlot W E w m s p L tv t k tr S n' b A f := ⟨h.cell, { h.slot with held := slots.Held.more' h.slot.held hn }, h.may, h.fit, h.late⟩
theorem MSlot.fewer {E' : Nat → Prop} (h : MSlot W E w m s p L tv t k tr S n b A f) (hE : ∀ j, E' j → E j) : MSlot W E' w m s p L tv t k tr S n b A f := ⟨h.cell, h.slot.fewer fun j hj => hj.imp_left (hE j), h.may, h.fit, h.late⟩
/-- New blocks of the law's own. -/
theorem MSlot.mine (h : MSlot W E w m s p L tv t k tr S n b A f) (hb : Below w.heap.size w w') : MSlot W (fun j => E j ∨ (w.heap.size ≤ j ∧ j < w'.heap.size)) w' m s p L tv t k tr S n b A f :=
  ⟨h.cell.kept hb, (h.slot.mine hb).fewer fun j hj => by
    rcases hj with (hj | hj) | hj
    · exact .inl (.inl hj)
    · exact .inr hj
    · exact .inl (.inr hj), h.may, h.fit, h.late⟩
theorem MSlot.user (h : MSlot W E w m s p L tv t k tr S n b A f) {j : Nat} (hj : E j) : j < w.heap.size := h.slot.held.user j (.inr (.inl hj))
end
/-- The ways of a Put. -/
def PutCase (A : FileA) (f : Int) (L : List Ten) (t k tr : Nat) (x : Ten) (c : Int) (A' : FileA) (f' : Int) (L' : List Ten) (t' k' tr' : Nat) : Prop :=
  (6 < (putT L x).length ∧ c = 2 ∧ A' = A ∧ f' = f ∧ L' = L ∧ t' = t ∧ k' = k ∧ tr' = tr) ∨
  ((putT L x).length ≤ 6 ∧ mayB (putT L x) = false ∧ c = 5 ∧ A' = A ∧ f' = f ∧ L' = L ∧ t' = t ∧ k' = k ∧ tr' = tr) ∨
  (mayB (putT L x) = true ∧ tr' = tr + 1 ∧
    ((f = 0 ∧ c = 3 ∧ A' = A ∧ f' = -1 ∧ L' = L ∧ t' = t ∧ k' = k) ∨
     (f ≠ 0 ∧ less f = 0 ∧ c = 3 ∧ A'.now = saved A.now k tr (enc (putT L x)) ∧ A'.old = A.old ∧ f' = -1 ∧ L' = L ∧ t' = t ∧ k' = k) ∨
     (f ≠ 0 ∧ less f ≠ 0 ∧ c = 0 ∧ A' = ⟨saved A.now k tr (enc (putT L x)), saved A.now k tr (enc (putT L x)), []⟩ ∧ f' = less (less f) ∧ L' = putT L x ∧ t' = tr + 1 ∧ k' = 1 - k ∧ Strict A' k' t')))
def PutOut (W : World) (E : Nat → Prop) (w : World) (m s p : Nat) (L : List Ten) (t k tr n b : Nat) (A : FileA) (f : Int) (x : Ten) (e : Ending) (w' : World) : Prop :=
  Kept E w w' ∧ ∃ (c : Int) (tv' : Value) (L' : List Ten) (t' k' tr' : Nat) (S' : St) (A' : FileA) (f' : Int), e = .returned (.int .i64 c) ∧ MSlot W E w' m s p L' tv' t' k' tr' S' (n + 4) b A' f' ∧ PutCase A f L t k tr x c A' f' L' t' k' tr'
theorem TOwn.whole {w : World} {g n : Nat} {xs : List TS} (h : TOwn w g n xs) : Whole w g 34 (flat fTen xs) := by
  rcases h.row.2 with ⟨e, h0⟩ | ⟨g', cap, cur, e, _, hg, h1, h2, h3, h4⟩
  · cases e
  · injection e with e1 e2 e3
    injection e1 with e1
    injection e1 with e1
    subst e1 e3
    unfold Whole
    rw [hg]
    have e : cur.toList = flat fTen xs := by rw [← h4, List.take_of_length_le (by rw [Array.length_toList]; omega)]
    rw [← e]
theorem flat_put (xs : List TS) (x : TS) (i : Nat) (hl : i < xs.length) : (flat fTen xs).take (i * 6) ++ (x.cells ++ (flat fTen xs).drop (i * 6 + x.cells.length)) = flat fTen (xs.set i x) := by
  have e2 : (flat fTen (xs.take i)).length = i * 6 := by rw [ften_len, List.length_take, Nat.min_eq_left (Nat.le_of_lt hl)]
  have e3 : flat fTen xs = flat fTen (xs.take i) ++ (xs[i].cells ++ flat fTen (xs.drop (i + 1))) := by
    have e1 : xs = xs.take i ++ xs[i] :: xs.drop (i + 1) := by rw [← List.drop_eq_getElem_cons hl, List.take_append_drop]
    calc flat fTen xs = flat fTen (xs.take i ++ xs[i] :: xs.drop (i + 1)) := by rw [← e1]
      _ = _ := by rw [flat_append]; rfl
  have hc : x.cells.length = 6 := rfl
  have hc2 : xs[i].cells.length = 6 := rfl
  rw [List.set_eq_take_append_cons_drop, if_pos hl, flat_append, e3, hc]
  rw [List.take_append_of_le_length (by omega), List.take_of_length_le (l := flat fTen (xs.take i)) (by omega), List.drop_append, List.drop_of_length_le (l := flat fTen (xs.take i)) (by omega), e2, List.nil_append, Nat.add_sub_cancel_left, List.drop_append, List.drop_of_length_le (l := xs[i].cells) (by omega), hc2, Nat.sub_self, List.drop_zero, List.nil_append]
  rfl
set_option maxRecDepth 100000 in
set_option maxHeartbeats 1000000 in
theorem put_ten {W : World} {E : Nat → Prop} {w : World} {m s p : Nat} {L : List Ten} {tv : Value} {t k tr : Nat} {S : St} {n b : Nat} {A : FileA} {f : Int} (h : MSlot W E w m s p L tv t k tr S n b A f) (hn : n ≤ 1000000) (hT : crc.Tab W) (htr : tr < 1099511627776) (x : TS) (hx : x.t.Fit ∧ SegsAt w x.a x.n x.cap x.t.segs) :
    Calls Tryd.prog 10 #[.pointer (some ⟨m, 0, none⟩), x.val] w (PutOut W E w m s p L t k tr n b A f x.t) := by
  obtain ⟨bx, hbx⟩ : ∃ bx, w.heap.size = bx := ⟨_, rfl⟩
  obtain ⟨wa, hwa⟩ : ∃ wa, w.alloc (.cells x.cells.toArray 34) = wa := ⟨_, rfl⟩
  have ba : Below w.heap.size w wa := by rw [← hwa]; exact (Below.refl _ _).alloc (Nat.le_refl _) _
  have wh : Whole wa bx 34 x.cells := by rw [← hwa]; exact Whole.new_ hbx.symm rfl
  have CA := Lib.hid (all_any (h.at_.later ba))
  have HM := Lib.hid h.may
  have HF := Lib.hid h.fit
  have HH := Lib.hid h
  have HX := Lib.hid hx
  have XC : Hid (x.cells = x.cells) := rfl
  obtain ⟨y, hy⟩ : ∃ y, x = y := ⟨_, rfl⟩
  have HY := Lib.hid hy
  rw [hy] at hwa wh
  rw [show x.val = y.val by rw [hy]]
  obtain ⟨⟨id, ep, qu, nx, ns, sg⟩, sa, sn, sc⟩ := y
  unfold TS.cells at hwa wh
  unfold TS.val
  simp only at hwa wh ⊢
  have WA := Lib.hid hwa
  have BA := Lib.hid ba
  have WH := Lib.hid wh
  have HBX := Lib.hid hbx
  have hidx : x.t.id = id := by rw [hy]
  have HID := Lib.hid hidx
  clear h hx hwa ba wh hy hbx hidx
  go_enter Tryd.func10, Tryd.ntmps10
  go_upto_region 1 with fail
  rw [WA.out]
  have hbx := HBX.out
  go_wp2_with fail
  refine CA.out.mono ?_
  rintro en w1 ⟨g, n1, xs, rfl, ht, ho, hg, b1⟩
  have CF := Lib.hid (find_any _ n1 n1 xs id w1 ho.trow (by rw [ht]; exact HM.out))
  have HT := Lib.hid ht
  have HO := Lib.hid ho
  have B1 := Lib.hid (BA.out.trans (b1.mono BA.out.size))
  have W1 := Lib.hid (WH.out.kept b1)
  have HG : Hid (w.heap.size < g) := Lib.hid (by have := WH.out.lt; omega)
  obtain ⟨z0, z1, z2, z3, z4, z5⟩ := ten6 W1.out
  clear ht ho b1 hg CA WH hbx
  go_wp2_with fail
  refine CF.out.mono ?_
  rintro en w2 ⟨i, fd, rfl, hf, b2⟩
  have HFD : Hid (FindAt L x.t.id i fd) := Lib.hid (by rw [HID.out, ← HT.out]; exact hf)
  have B2 : Hid (Below w.heap.size w w2) := Lib.hid (B1.out.trans (b2.mono B1.out.size))
  have W2 := Lib.hid (W1.out.kept b2)
  have O2 := Lib.hid (HO.out.later b2)
  have HX2 : Hid (x.t.Fit ∧ SegsAt w2 x.a x.n x.cap x.t.segs) := Lib.hid ⟨HX.out.1, HX.out.2.later B2.out⟩
  obtain ⟨y0, y1, y2, y3, y4, y5⟩ := ten6 W2.out
  have hgl : Hid (n1 ≤ 6) := Lib.hid (by have := mayB_len HM.out; rw [← HT.out, tens_length, O2.out.length] at this; exact this)
  clear hf b2 CF W1 B1 HO z0 z1 z2 z3 z4 z5
  cases fd with
  | true =>
    obtain ⟨t0, ht0, _⟩ := HFD.out.found rfl
    have hin : i < n1 := by
      have := (List.getElem?_eq_some_iff.1 ht0).1
      rw [← HT.out, tens_length, O2.out.length] at this
      exact this
    have hinI : (i : Int) < (n1 : Int) := by omega
    have hlx := O2.out.length
    have HLX := Lib.hid hlx
    clear ht0 hlx
    go_upto_region 8 with ((with_reducible show wpList _ _ _ (⟨none, .store 34 _ _, _, _, _, _⟩ :: _) _ _); refine wpList_store_as rfl 34 (.tmp 24) (.tmp 23) rfl g (i * 6) #[.int .u32 (id : Int), .int .u64 (ep : Int), .int .i64 qu, .int .u64 (nx : Int), .int .i64 ns, .slice sa sn sc] rfl rfl (Whole.there O2.out.whole (i * 6) 6 (by rw [ften_len]; have := HLX.out; omega)) tenInfo (by simp [Value.oneCell']) ?_; intro w3 hw3; have HW3 := Lib.hid hw3; clear hw3)
    simp only [Act.put]
    have R3 : Hid (TRow w3 (some ⟨g, 0, none⟩) n1 n1 (xs.set i x) ∧ Below w.heap.size w w3 ∧ tens (xs.set i x) = putT L x.t ∧ n1 ≤ 7) := by
      have b3 : Below w.heap.size w w3 := by rw [← HW3.out]; exact below_lay _ _ _ B2.out (by have := HG.out; omega)
      have t3 : Turn (fun k => k = g) w2 w3 := by
        rw [← HW3.out]
        simp only [World.setCells]
        exact ((((((Turn.refl (fun k => k = g) _).setCell (i * 6) _ (.inl rfl)).setCell (i * 6 + 1) _ (.inl rfl)).setCell (i * 6 + 1 + 1) _ (.inl rfl)).setCell (i * 6 + 1 + 1 + 1) _ (.inl rfl)).setCell (i * 6 + 1 + 1 + 1 + 1) _ (.inl rfl)).setCell (i * 6 + 1 + 1 + 1 + 1 + 1) _ (.inl rfl)
      have hl : i < xs.length := by have := HLX.out; omega
      refine Lib.hid ⟨TRow.of_whole (sp := []) ?_ (by rw [List.length_set]; exact HLX.out) (Nat.le_refl _) (by have := hgl.out; omega) ?_, b3, ?_, by have := hgl.out; omega⟩
      · rw [List.append_nil, ← HW3.out]
        have wl := Whole.lay x.cells (i * 6) O2.out.whole (by rw [ften_len]; show i * 6 + 6 ≤ _; have := HLX.out; omega)
        have e := flat_put xs x i hl
        rw [e] at wl
        have hc : x.cells = [.int .u32 (id : Int), .int .u64 (ep : Int), .int .i64 qu, .int .u64 (nx : Int), .int .i64 ns, .slice sa sn sc] := by rw [HY.out]; rfl
        rw [hc] at wl
        exact wl
      · intro u hu
        rcases List.mem_or_eq_of_mem_set hu with hu | rfl
        · obtain ⟨hh, a1, a2, a3, a4, a5, a6⟩ := O2.out.fresh u hu
          have f3 : Fresh w3 g [u] := fun u' hu' => by
            rw [List.mem_singleton.1 hu']
            exact ⟨hh, a1, a2, a3, a4, a5.same (t3.block hh a5.lt (by omega)), a6⟩
          exact f3.tens u (List.mem_singleton.2 rfl)
        · exact ⟨HX.out.1, HX.out.2.later b3⟩
      · rw [tens, List.map_set]
        exact (show (tens xs).set i x.t = _ by rw [HT.out]; exact putT_true HFD.out)
    obtain ⟨a3, ys, ha3, hys⟩ : ∃ a ys, some (⟨g, 0, none⟩ : Addr) = a ∧ xs.set i x = ys := ⟨_, _, rfl, rfl⟩
    rw [ha3, hys] at R3
    rw [ha3]
    have R4 : Hid (TRow w3 a3 n1 n1 ys ∧ Below w.heap.size w w3 ∧ tens ys = putT L x.t ∧ n1 ≤ 7) := R3
    clear R3 O2 W2 HFD y0 y1 y2 y3 y4 y5 HG HW3 ha3 hys HT hinI hin
    have hln : (putT L x.t).length = n1 := by rw [← R4.out.2.2.1, tens_length]; exact R4.out.1.length
    have hn7 : n1 ≤ 7 := R4.out.2.2.2
    have KE : Hid (Kept E w w3) := Lib.hid fun j hj => R4.out.2.1.block j (HH.out.user hj)
    by_cases h6 : (6 : Int) < (n1 : Int)
    · have F : Hid (PutOut W E w m s p L t k tr n b A f x.t (.returned (.int .i64 2)) w3) := Lib.hid ⟨KE.out, 2, tv, L, t, k, tr, S, A, f, rfl, (HH.out.later R4.out.2.1).more (by omega), .inl ⟨by omega, rfl, rfl, rfl, rfl, rfl, rfl, rfl⟩⟩
      clear R4
      go_wp2_with fail
      go_ret
      exact F.out
    · cases hmb : mayB (putT L x.t) with
      | false =>
        have CE := Lib.hid (manEncode_no a3 n1 n1 ys w3 R4.out.1 (by rw [R4.out.2.2.1]; exact hmb))
        have F : Hid (∀ w4, Below w3.heap.size w3 w4 → PutOut W E w m s p L t k tr n b A f x.t (.returned (.int .i64 5)) w4) := Lib.hid fun w4 b4 => ⟨fun j hj => (b4.block j (by have := HH.out.user hj; have := R4.out.2.1.size; omega)).trans (KE.out j hj), 5, tv, L, t, k, tr, S, A, f, rfl, (HH.out.later (R4.out.2.1.trans (b4.mono R4.out.2.1.size))).more (by omega), .inr (.inl ⟨by omega, hmb, rfl, rfl, rfl, rfl, rfl, rfl, rfl⟩)⟩
        clear R4 hmb hln
        go_wp2_with fail
        refine CE.out.mono ?_
        rintro en w4 ⟨rfl, b4⟩
        have hnil : ∀ W, (binOp .eql 44 (.slice none 0 0) (.slice none 0 0)).run Tryd.prog W = .ok (.bool true) W := fun W => Lib.run_eql_slice_nil W _ 5 _ _ _ _ _ Tryd.underlying44
        have F4 := Lib.hid (F.out w4 b4)
        clear F b4
        go_wp2_with fail
        go_ret
        exact F4.out
      | true =>
        have hce := manEncode_any a3 n1 n1 ys w3 R4.out.1
        rw [R4.out.2.2.1, encO, if_pos hmb] at hce
        have CE := Lib.hid hce
        have HMB := Lib.hid hmb
        have R5 : Hid (Below w.heap.size w w3) := Lib.hid R4.out.2.1
        clear hce R4 hmb hln
        go_wp2_with fail
        refine CE.out.mono ?_
        rintro en w4 ⟨v4, rfl, o4, g4, b4⟩
        obtain ⟨a4, c4, rfl, _, _, hz4, l4, ha4⟩ := o4.form
        have hel : 10 ≤ (enc (putT L x.t)).length := by simp only [enc, List.length_append, be_length, markL, List.length_cons, List.length_nil]; omega
        have heu := enc_length HMB.out
        obtain ⟨g4', rfl, hgo, hgl4⟩ : ∃ g, a4 = some ⟨g, 0, none⟩ ∧ (Value.slice a4 (enc (putT L x.t)).length c4).ownBlock = some g ∧ g < w4.heap.size := by
          rcases ha4 with rfl | ha4
          · have := (hz4 rfl).1; omega
          · exact ha4
        have b04 : Below w.heap.size w w4 := R5.out.trans (b4.mono R5.out.size)
        have hg4 := g4 g4' hgo
        have h4 := HH.out.slot.mine b04
        have CS := save_slot h4 hn hT (some ⟨g4', 0, none⟩) (enc (putT L x.t)).length c4 (enc (putT L x.t)) l4 (enc_byte _) rfl (by omega) (by omega) (fun e => by cases e) (fun gg off e _ => .inl (.inr (by injection e with e; injection e with e; subst e; exact ⟨by have := R5.out.size; omega, hgl4⟩))) htr
        have c40 := (HH.out.cell.kept b04).at_ 0
        simp only [List.getElem?_cons_zero] at c40
        obtain ⟨le, hle⟩ : ∃ le, (enc (putT L x.t)).length = le := ⟨_, rfl⟩
        rw [hle] at CS ⊢
        have C5 := Lib.hid CS
        have hnil : ∀ W, (binOp .eql 44 (.slice (some ⟨g4', 0, none⟩) le c4) (.slice none 0 0)).run Tryd.prog W = .ok (.bool false) W := fun W => Lib.run_eql_slice_nil W _ 5 _ _ _ _ _ Tryd.underlying44
        have B04 := Lib.hid b04
        clear CS h4 o4 g4 b4 l4 ha4 hz4 hgo hgl4 hg4 hel heu hle b04 CE
        go_wp2_with fail
        refine C5.out.mono ?_
        rintro en w5 ⟨k5, c, tv', x', t', k', S', A', f', rfl, sl, sc5⟩
        have hk5 : Kept E w w5 := fun j hj => (k5 j (.inl (.inl hj))).trans (B04.out.block j (HH.out.user hj))
        have cell5 : Whole w5 m 62 [.pointer (some ⟨s, 0, none⟩)] := Whole.same (HH.out.cell.kept B04.out) (k5 m (.inl (.inr rfl)))
        have sl5 := sl.fewer (E' := fun j => E j ∨ j = m) fun j hj => .inl hj
        have fit' := putT_fit HF.out HX.out.1
        have F : Hid (PutOut W E w m s p L t k tr n b A f x.t (.returned (.int .i64 c)) w5) := by
          rcases sc5 with ⟨q1, q2, rfl, rfl, rfl, rfl, rfl⟩ | ⟨q1, q2, q3, q4, q5, rfl, rfl, rfl, rfl⟩ | ⟨q1, q2, q3, q4, rfl, rfl, rfl, rfl, q5⟩
          · exact Lib.hid ⟨hk5, c, tv', L, _, _, tr + 1, S', _, _, rfl, ⟨cell5, sl5, HM.out, HF.out, HH.out.late⟩, .inr (.inr ⟨HMB.out, rfl, .inl ⟨q1, q2, rfl, rfl, rfl, rfl, rfl⟩⟩)⟩
          · exact Lib.hid ⟨hk5, c, tv', L, _, _, tr + 1, S', A', _, rfl, ⟨cell5, sl5, HM.out, HF.out, HH.out.late⟩, .inr (.inr ⟨HMB.out, rfl, .inr (.inl ⟨q1, q2, q3, q4, q5, rfl, rfl, rfl, rfl⟩)⟩)⟩
          · exact Lib.hid ⟨hk5, c, tv', putT L x.t, _, _, tr + 1, S', A', _, rfl, ⟨cell5, sl5, HMB.out, fit', HH.out.late⟩, .inr (.inr ⟨HMB.out, rfl, .inr (.inr ⟨q1, q2, q3, q4, rfl, rfl, rfl, rfl, q5⟩)⟩)⟩
        clear sc5 sl sl5 cell5 hk5 k5 fit' C5
        go_wp2_with fail
        go_ret
        exact F.out
  | false =>
    have CI := Lib.hid (insert_any (w2.alloc (.cells x.cells.toArray 34)) g n1 w2.heap.size i xs x (O2.out.trow.later ((Below.refl _ _).alloc (Nat.le_refl _) _)) (Whole.new_ rfl rfl) (by have := hgl.out; omega) (by have := HFD.out.le; rw [← HT.out, tens_length, O2.out.length] at this; exact this) ⟨HX2.out.1, HX2.out.2.later ((Below.refl _ _).alloc (Nat.le_refl _) _)⟩)
    have hc : x.cells = [.int .u32 (id : Int), .int .u64 (ep : Int), .int .i64 qu, .int .u64 (nx : Int), .int .i64 ns, .slice sa sn sc] := by rw [HY.out]; rfl
    rw [hc] at CI
    clear hc
    go_wp2_with fail
    refine CI.out.mono ?_
    rintro en w3 ⟨g3, c3, rfl, r3, b3⟩
    have R4 : Hid (TRow w3 (some ⟨g3, 0, none⟩) (n1 + 1) c3 (xs.take i ++ x :: xs.drop i) ∧ Below w.heap.size w w3 ∧ tens (xs.take i ++ x :: xs.drop i) = putT L x.t ∧ n1 + 1 ≤ 7) := by
      have b2a : Below w.heap.size w (w2.alloc (.cells x.cells.toArray 34)) := B2.out.alloc B2.out.size _
      have hc : x.cells = [.int .u32 (id : Int), .int .u64 (ep : Int), .int .i64 qu, .int .u64 (nx : Int), .int .i64 ns, .slice sa sn sc] := by rw [HY.out]; rfl
      rw [hc] at b2a
      refine Lib.hid ⟨r3, b2a.trans (b3.mono b2a.size), ?_, by have := hgl.out; omega⟩
      rw [tens, List.map_append, List.map_cons, List.map_take, List.map_drop]
      exact (show (tens xs).take i ++ x.t :: (tens xs).drop i = _ by rw [HT.out]; exact putT_false HFD.out)
    obtain ⟨a3, ys, n3, ha3, hn3, hys⟩ : ∃ a ys n, some (⟨g3, 0, none⟩ : Addr) = a ∧ n1 + 1 = n ∧ xs.take i ++ x :: xs.drop i = ys := ⟨_, _, _, rfl, rfl, rfl⟩
    rw [ha3, hn3, hys] at R4
    rw [ha3, hn3]
    clear r3 b3 O2 W2 HFD y0 y1 y2 y3 y4 y5 HG ha3 hys HT CI hn3
    have hln : (putT L x.t).length = n3 := by rw [← R4.out.2.2.1, tens_length]; exact R4.out.1.length
    have hn7 : n3 ≤ 7 := R4.out.2.2.2
    have KE : Hid (Kept E w w3) := Lib.hid fun j hj => R4.out.2.1.block j (HH.out.user hj)
    by_cases h6 : (6 : Int) < (n3 : Int)
    · have F : Hid (PutOut W E w m s p L t k tr n b A f x.t (.returned (.int .i64 2)) w3) := Lib.hid ⟨KE.out, 2, tv, L, t, k, tr, S, A, f, rfl, (HH.out.later R4.out.2.1).more (by omega), .inl ⟨by omega, rfl, rfl, rfl, rfl, rfl, rfl, rfl⟩⟩
      clear R4
      go_wp2_with fail
      go_ret
      exact F.out
    · cases hmb : mayB (putT L x.t) with
      | false =>
        have CE := Lib.hid (manEncode_no a3 n3 c3 ys w3 R4.out.1 (by rw [R4.out.2.2.1]; exact hmb))
        have F : Hid (∀ w4, Below w3.heap.size w3 w4 → PutOut W E w m s p L t k tr n b A f x.t (.returned (.int .i64 5)) w4) := Lib.hid fun w4 b4 => ⟨fun j hj => (b4.block j (by have := HH.out.user hj; have := R4.out.2.1.size; omega)).trans (KE.out j hj), 5, tv, L, t, k, tr, S, A, f, rfl, (HH.out.later (R4.out.2.1.trans (b4.mono R4.out.2.1.size))).more (by omega), .inr (.inl ⟨by omega, hmb, rfl, rfl, rfl, rfl, rfl, rfl, rfl⟩)⟩
        clear R4 hmb hln
        go_wp2_with fail
        refine CE.out.mono ?_
        rintro en w4 ⟨rfl, b4⟩
        have hnil : ∀ W, (binOp .eql 44 (.slice none 0 0) (.slice none 0 0)).run Tryd.prog W = .ok (.bool true) W := fun W => Lib.run_eql_slice_nil W _ 5 _ _ _ _ _ Tryd.underlying44
        have F4 := Lib.hid (F.out w4 b4)
        clear F b4
        go_wp2_with fail
        go_ret
        exact F4.out
      | true =>
        have hce := manEncode_any a3 n3 c3 ys w3 R4.out.1
        rw [R4.out.2.2.1, encO, if_pos hmb] at hce
        have CE := Lib.hid hce
        have HMB := Lib.hid hmb
        have R5 : Hid (Below w.heap.size w w3) := Lib.hid R4.out.2.1
        clear hce R4 hmb hln
        go_wp2_with fail
        refine CE.out.mono ?_
        rintro en w4 ⟨v4, rfl, o4, g4, b4⟩
        obtain ⟨a4, c4, rfl, _, _, hz4, l4, ha4⟩ := o4.form
        have hel : 10 ≤ (enc (putT L x.t)).length := by simp only [enc, List.length_append, be_length, markL, List.length_cons, List.length_nil]; omega
        have heu := enc_length HMB.out
        obtain ⟨g4', rfl, hgo, hgl4⟩ : ∃ g, a4 = some ⟨g, 0, none⟩ ∧ (Value.slice a4 (enc (putT L x.t)).length c4).ownBlock = some g ∧ g < w4.heap.size := by
          rcases ha4 with rfl | ha4
          · have := (hz4 rfl).1; omega
          · exact ha4
        have b04 : Below w.heap.size w w4 := R5.out.trans (b4.mono R5.out.size)
        have hg4 := g4 g4' hgo
        have h4 := HH.out.slot.mine b04
        have CS := save_slot h4 hn hT (some ⟨g4', 0, none⟩) (enc (putT L x.t)).length c4 (enc (putT L x.t)) l4 (enc_byte _) rfl (by omega) (by omega) (fun e => by cases e) (fun gg off e _ => .inl (.inr (by injection e with e; injection e with e; subst e; exact ⟨by have := R5.out.size; omega, hgl4⟩))) htr
        have c40 := (HH.out.cell.kept b04).at_ 0
        simp only [List.getElem?_cons_zero] at c40
        obtain ⟨le, hle⟩ : ∃ le, (enc (putT L x.t)).length = le := ⟨_, rfl⟩
        rw [hle] at CS ⊢
        have C5 := Lib.hid CS
        have hnil : ∀ W, (binOp .eql 44 (.slice (some ⟨g4', 0, none⟩) le c4) (.slice none 0 0)).run Tryd.prog W = .ok (.bool false) W := fun W => Lib.run_eql_slice_nil W _ 5 _ _ _ _ _ Tryd.underlying44
        have B04 := Lib.hid b04
        clear CS h4 o4 g4 b4 l4 ha4 hz4 hgo hgl4 hg4 hel heu hle b04 CE
        go_wp2_with fail
        refine C5.out.mono ?_
        rintro en w5 ⟨k5, c, tv', x', t', k', S', A', f', rfl, sl, sc5⟩
        have hk5 : Kept E w w5 := fun j hj => (k5 j (.inl (.inl hj))).trans (B04.out.block j (HH.out.user hj))
        have cell5 : Whole w5 m 62 [.pointer (some ⟨s, 0, none⟩)] := Whole.same (HH.out.cell.kept B04.out) (k5 m (.inl (.inr rfl)))
        have sl5 := sl.fewer (E' := fun j => E j ∨ j = m) fun j hj => .inl hj
        have fit' := putT_fit HF.out HX.out.1
        have F : Hid (PutOut W E w m s p L t k tr n b A f x.t (.returned (.int .i64 c)) w5) := by
          rcases sc5 with ⟨q1, q2, rfl, rfl, rfl, rfl, rfl⟩ | ⟨q1, q2, q3, q4, q5, rfl, rfl, rfl, rfl⟩ | ⟨q1, q2, q3, q4, rfl, rfl, rfl, rfl, q5⟩
          · exact Lib.hid ⟨hk5, c, tv', L, _, _, tr + 1, S', _, _, rfl, ⟨cell5, sl5, HM.out, HF.out, HH.out.late⟩, .inr (.inr ⟨HMB.out, rfl, .inl ⟨q1, q2, rfl, rfl, rfl, rfl, rfl⟩⟩)⟩
          · exact Lib.hid ⟨hk5, c, tv', L, _, _, tr + 1, S', A', _, rfl, ⟨cell5, sl5, HM.out, HF.out, HH.out.late⟩, .inr (.inr ⟨HMB.out, rfl, .inr (.inl ⟨q1, q2, q3, q4, q5, rfl, rfl, rfl, rfl⟩)⟩)⟩
          · exact Lib.hid ⟨hk5, c, tv', putT L x.t, _, _, tr + 1, S', A', _, rfl, ⟨cell5, sl5, HMB.out, fit', HH.out.late⟩, .inr (.inr ⟨HMB.out, rfl, .inr (.inr ⟨q1, q2, q3, q4, rfl, rfl, rfl, rfl, q5⟩)⟩)⟩
        clear sc5 sl sl5 cell5 hk5 k5 fit' C5
        go_wp2_with fail
        go_ret
        exact F.out
theorem put_nil (w : World) (x : TS) : Calls Tryd.prog 10 #[.pointer none, x.val] w fun e w' => e = .returned (.int .i64 10) ∧ Below w.heap.size w w' := by
  obtain ⟨⟨id, ep, qu, nx, ns, sg⟩, sa, sn, sc⟩ := x
  unfold TS.val
  simp only
  have B : Hid (Below w.heap.size w (w.alloc (.cells #[.int .u32 (id : Int), .int .u64 (ep : Int), .int .i64 qu, .int .u64 (nx : Int), .int .i64 ns, .slice sa sn sc] 34))) := Lib.hid ((Below.refl _ _).alloc (Nat.le_refl _) _)
  go_enter Tryd.func10, Tryd.ntmps10
  go_wp2_with fail
  go_ret
  exact ⟨rfl, B.out⟩
end Go.Proofs.YtpgclhpobijdeaaDoor.man
