/-
  CONTRACT of slices.Insert at tenants: one tenant into a row that is full.
-/
import Derived.Test.YtpgclhpobijdeaaDoorMnDec
import Derived.Lib.AppendZerosOnto
import Derived.Laws.CopyRow
import Derived.Laws.CopyOwn
import Derived.StillTailTactics
namespace Go.Proofs.YtpgclhpobijdeaaDoor.man
open Go.RowKit Go.Proofs.YtpgclhpobijdeaaDoor.disk Go.Proofs.YtpgclhpobijdeaaDoor.recd Go.Proofs.YtpgclhpobijdeaaDoor.num Go.Proofs.YtpgclhpobijdeaaDoor.scan
set_option linter.unusedVariables false

theorem flat_le {l : List TS} : ∀ v ∈ flat fTen l, v.oneCell' = true := fun v hv => by
  obtain ⟨x, _, h⟩ := List.mem_flatMap.1 hv
  exact ten_one x v h
theorem ften_len (l : List TS) : (flat fTen l).length = l.length * 6 := flat_length fTen l
/-- Tenants in the front of a block. -/
theorem TRow.of_whole {w : World} {h n cap : Nat} {l : List TS} {sp : List Value} (hw : Whole w h 34 (flat fTen l ++ sp)) (hn : l.length = n) (hc : n ≤ cap) (hm : cap ≤ 9223372036854775807) (ht : Tens w l) : TRow w (some ⟨h, 0, none⟩) n cap l := by
  refine ⟨hn, hc, hm, (fun e => by cases e), .inr ⟨h, 0, rfl, fun i x hx j v hv => ?_⟩, ht⟩
  obtain ⟨hi, rfl⟩ := List.getElem?_eq_some_iff.1 hx
  have hj : j < 6 := by have := (List.getElem?_eq_some_iff.1 hv).1; simpa [TS.cells] using this
  have e := flat_at fTen l i j hi hj
  rw [Nat.zero_add, hw.at_, List.getElem?_append_left (by rw [ften_len]; omega)]
  exact e.trans hv
theorem tcells {w : World} {b off n cap : Nat} {l : List TS} (h : TRow w (some ⟨b, off, none⟩) n cap l) : ∀ j v, (flat fTen l)[j]? = some v → w.cell? ((⟨b, off, none⟩ : Addr).add j) = some v := fun j v hv => by
  have hlen := ften_len l
  have hj : j < l.length * 6 := by have := (List.getElem?_eq_some_iff.1 hv).1; omega
  have hi : j / 6 < l.length := by omega
  rcases h.cells with h0 | ⟨b', off', e, hc⟩
  · have := h.length; omega
  · injection e with e
    injection e with e1 e2
    subst e1 e2
    have hf := flat_at fTen l (j / 6) (j % 6) hi (by show j % 6 < 6; omega)
    rw [show j / 6 * fTen.sz + j % 6 = j by show j / 6 * 6 + j % 6 = j; omega, hv] at hf
    have := hc (j / 6) _ (List.getElem?_eq_getElem hi) (j % 6) v hf.symm
    rw [Addr.add_mid, show off + j = off + j / 6 * 6 + j % 6 by omega]
    exact this
theorem run_copy_tens (w : World) (h o dl dc : Nat) (a : Addr) (sl sc : Nat) (L cs : List Value) (hw : Whole w h 34 L) (m : Nat) (hm : min sl dl = m) (hn : cs.length = m * 6) (hsrc : ∀ j v, cs[j]? = some v → w.cell? (a.add j) = some v) (hfit : o + cs.length ≤ L.length) (h1 : ∀ v ∈ cs, v.oneCell' = true) :
    ∃ w', (Builtin.copy_ #[38, 38] 3 #[.slice (some ⟨h, o, none⟩) dl dc, .slice (some a) sl sc]).run Tryd.prog w = .ok (.int .i64 (m : Int)) w' ∧ Whole w' h 34 (L.take o ++ cs ++ L.drop (o + cs.length)) ∧ Turn (fun k => k = h) w w' ∧ w'.heap.size = w.heap.size := by
  have hl := run_loadCells_list (P := Tryd.prog) w a cs hsrc
  have hst := run_storeCells_at Tryd.prog h o 34 cs 0 L.toArray w hw (by simpa using hfit) h1
  obtain ⟨i0, hi, hz0, hz1, hz2⟩ := info_parts fTen.info
  have hi' : Tryd.prog.info? 34 = some i0 := hi
  have hz1' : i0.size = 6 := hz1
  refine ⟨w.setRow h ((L.toArray.toList.take o ++ cs ++ L.toArray.toList.drop (o + cs.length)).toArray), ?_, ?_, ⟨rfl, rfl, rfl, by simp, fun k _ hk => setRow_other w h k _ hk⟩, by simp⟩
  · have hmm : Nat.min sl dl = m := hm
    simp [Builtin.copy_, run_underlying Tryd.underlying38, Builtin.lenOf, Builtin.firstCells, sizeOf, typeInfo, hi', hz1', hmm, ← hn, hl, hst, goInt]
  · exact setRow_heap w h _ _ 34 _ hw
/-- AT THE OPERATION: a copy whose run is known. -/
theorem wpList_copy_of {w w' : World} {v' : Value} {ops : Array Oper} {rest : List Oper} {o : Oper} {a : Act} {Q : Exit → Act → World → Prop} (s x : Operand) (v u : Value) (hgd : o.guard = none)
    (ho : o.op = .call { callee := .builtin .copy, args := #[s, x], argTypes := #[38, 38] }) (hty : o.type = 3) (hs : a.eval s = v) (hx : a.eval x = u)
    (hrun : (Builtin.copy_ #[38, 38] 3 #[v, u]).run Tryd.prog w = .ok v' w')
    (h : wpList Tryd.prog ops Q rest (a.put o.dst v') w') : wpList Tryd.prog ops Q (o :: rest) a w := by
  refine wpList_plain hgd fun K hK => ?_
  unfold Oper.wp execOp
  simp only [ho, hty, resolve, invoke, builtin, Sem.run_bind, Sem.run_pure, Result.andThen_ok, List.map_toArray, List.map_cons, List.map_nil, hs, hx, hrun]
  exact hK _ _ h
def InsOut (w : World) (n : Nat) (l : List TS) (e : Ending) (w' : World) : Prop := ∃ g cap, e = .returned (.slice (some ⟨g, 0, none⟩) n cap) ∧ TRow w' (some ⟨g, 0, none⟩) n cap l ∧ Below w.heap.size w w'
theorem zeros_len (k : Nat) : (Builtin.zeroCells zten.cells k).toList.length = k * 6 := by
  rw [Array.length_toList, size_zeroCells]
  rfl
set_option maxRecDepth 100000 in
set_option maxHeartbeats 2000000 in
theorem insert_any (w : World) (g n gv i : Nat) (xs : List TS) (x : TS) (h : TRow w (some ⟨g, 0, none⟩) n n xs) (hv : Whole w gv 34 x.cells) (hn : n ≤ 100) (hi : i ≤ n) (hf : x.t.Fit ∧ SegsAt w x.a x.n x.cap x.t.segs) :
    Calls Tryd.prog 26 #[.slice (some ⟨g, 0, none⟩) n n, .int .i64 (i : Int), .slice (some ⟨gv, 0, none⟩) 1 1] w (InsOut w (n + 1) (xs.take i ++ x :: xs.drop i)) := by
  obtain ⟨i0, hi0, hz0, hz1, hz2⟩ := info_parts fTen.info
  have hz1' : i0.size = 6 := hz1
  have hz2' : i0.bytes = 64 := hz2
  have hl := h.length
  have hvc : ∀ j v, x.cells[j]? = some v → w.cell? ((⟨gv, 0, none⟩ : Addr).add j) = some v := fun j v hj => by rw [Addr.add_mid, Nat.zero_add, hv.at_]; exact hj
  have hxl : x.cells.length = 1 * 6 := rfl
  have htn : Tens w (xs.take i ++ x :: xs.drop i) := fun y hy => by
    rcases List.mem_append.1 hy with hy | hy
    · exact h.tens y (List.mem_of_mem_take hy)
    · rcases List.mem_cons.1 hy with rfl | hy
      · exact hf
      · exact h.tens y (List.mem_of_mem_drop hy)
  by_cases hin : i = n
  · subst hin
    have hr := run_append_grow (P := Tryd.prog) w 38 38 34 i0 zten Tryd.underlying38 hi0 hz0 ⟨g, 0, none⟩ i i (flat fTen xs) (by rw [ften_len, hz1', hl]) (tcells h) ⟨gv, 0, none⟩ 1 1 x.cells (by rw [hz1']; rfl) hvc (by omega) (by omega) (growslice_fits (by omega) (by rw [hz2']; omega))
    obtain ⟨c, hc⟩ : ∃ c, grownCap w (i + 1) i 34 = c := ⟨_, rfl⟩
    have hge : i + 1 ≤ c := by rw [← hc]; exact grownCap_ge w (i + 1) i 34
    have hcm : c ≤ 9223372036854775807 := by rw [← hc]; exact grownCap_le_maxLen w (i + 1) i 34 (by unfold maxLen; omega)
    rw [hc] at hr
    have F : Hid (InsOut w (i + 1) (xs.take i ++ x :: xs.drop i) (.returned (.slice (some ⟨w.heap.size, 0, none⟩) (i + 1) c)) (w.drew.alloc (.cells ((flat fTen xs).toArray ++ x.cells.toArray ++ Builtin.zeroCells zten.cells (c - (i + 1))) 34))) := Lib.hid (by
      have bl : Below w.heap.size w (w.drew.alloc (.cells ((flat fTen xs).toArray ++ x.cells.toArray ++ Builtin.zeroCells zten.cells (c - (i + 1))) 34)) := (below_draws (Below.refl _ _) 1).alloc (Nat.le_refl _) _
      refine ⟨w.heap.size, c, rfl, TRow.of_whole (sp := (Builtin.zeroCells zten.cells (c - (i + 1))).toList) ?_ (by rw [List.length_append, List.length_cons, List.length_take, List.length_drop]; omega) hge hcm (htn.later bl), bl⟩
      have e := heap_alloc_new w.drew (.cells ((flat fTen xs).toArray ++ x.cells.toArray ++ Builtin.zeroCells zten.cells (c - (i + 1))) 34)
      unfold Whole
      refine e.trans ?_
      rw [List.take_of_length_le (by omega), List.drop_of_length_le (by omega), flat_append, flat_one]
      congr 2
      apply Array.ext'
      simp [fTen])
    clear h hv hf htn hvc
    obtain ⟨wz, hwz⟩ : ∃ wz, w.drew.alloc (.cells ((flat fTen xs).toArray ++ x.cells.toArray ++ Builtin.zeroCells zten.cells (c - (i + 1))) 34) = wz := ⟨_, rfl⟩
    rw [hwz] at hr F
    have HR := Lib.hid hr
    clear hr hwz hc
    go_enter Tryd.func26, Tryd.ntmps26
    go_wp2_with ((with_reducible show wpList _ _ _ (⟨some 25, _, _, _, _, _⟩ :: _) _ _); refine scan.wpList_append_of 38 38 (.tmp 23) (.tmp 24) _ _ rfl rfl rfl rfl rfl HR.out ?_)
    go_ret
    exact F.out
  · have hlt : i < n := by omega
    have hltI : (i : Int) < (n : Int) := by omega
    obtain ⟨k, hk⟩ : ∃ k, n + 1 - i = k := ⟨_, rfl⟩
    have hk1 : i + k = n + 1 := by omega
    have hkI : (n : Int) + 1 - (i : Int) = (k : Int) := by omega
    have hhold := run_firstCells_some (P := Tryd.prog) w.drew i0.size i ⟨g, 0, none⟩ i n (flat fTen (xs.take i)) (by rw [ften_len, hz1', List.length_take]; omega) (fun j v hj => tcells (h.take i (by omega)) j v hj)
    have hr := Lib.run_append_grow_zeros (P := Tryd.prog) w 38 3 38 34 i0 zten .i64 .i64 Tryd.underlying38 Tryd.underlying3 hi0 hz0 (some ⟨g, 0, none⟩) i n (flat fTen (xs.take i)) hhold k (by omega) (by omega) (by omega) (by omega) (by rw [hz2']; omega) (growslice_fits (by omega) (by rw [hz2']; omega))
    rw [hk1] at hr
    obtain ⟨c, hc⟩ : ∃ c, grownCap w (n + 1) n 34 = c := ⟨_, rfl⟩
    have hge : n + 1 ≤ c := by rw [← hc]; exact grownCap_ge w (n + 1) n 34
    have hcm : c ≤ 9223372036854775807 := by rw [← hc]; exact grownCap_le_maxLen w (n + 1) n 34 (by unfold maxLen; omega)
    rw [hc] at hr
    obtain ⟨w1, hw1⟩ : ∃ w1, w.drew.alloc (.cells ((flat fTen (xs.take i)).toArray ++ Builtin.zeroCells zten.cells k ++ Builtin.zeroCells zten.cells (c - (n + 1))) 34) = w1 := ⟨_, rfl⟩
    have b1 : Below w.heap.size w w1 := by rw [← hw1]; exact (below_draws (Below.refl _ _) 1).alloc (Nat.le_refl _) _
    obtain ⟨hb, hhb⟩ : ∃ hb, w.heap.size = hb := ⟨_, rfl⟩
    obtain ⟨Z, hZ⟩ : ∃ Z, (Builtin.zeroCells zten.cells k).toList ++ (Builtin.zeroCells zten.cells (c - (n + 1))).toList = Z := ⟨_, rfl⟩
    have hZl : Z.length = k * 6 + (c - (n + 1)) * 6 := by rw [← hZ, List.length_append, zeros_len, zeros_len]
    have W1 : Whole w1 hb 34 (flat fTen (xs.take i) ++ Z) := by
      rw [← hw1, ← hhb]
      refine (heap_alloc_new w.drew _).trans ?_
      congr 2
      apply Array.ext'
      rw [← hZ]
      simp
    rw [hw1, hhb] at hr
    have hfl : (flat fTen (xs.take i)).length = i * 6 := by rw [ften_len, List.length_take]; congr 1; omega
    obtain ⟨w2, r2, W2, t2, s2⟩ := run_copy_tens w1 hb (i * 6) k (c - i) ⟨gv, 0, none⟩ 1 1 _ x.cells W1 1 (by omega) rfl (fun j v hj => by rw [Addr.add_mid, Nat.zero_add, (hv.kept b1).at_]; exact hj) (by rw [List.length_append, hfl, hZl, hxl]; omega) (ten_one x)
    have W2' : Whole w2 hb 34 (flat fTen (xs.take i ++ [x]) ++ Z.drop 6) := by
      have e : (flat fTen (xs.take i) ++ Z).take (i * 6) ++ x.cells ++ (flat fTen (xs.take i) ++ Z).drop (i * 6 + x.cells.length) = flat fTen (xs.take i ++ [x]) ++ Z.drop 6 := by
        rw [List.take_append_of_le_length (by omega), List.take_of_length_le (by omega), List.drop_append, List.drop_of_length_le (by omega), hfl, hxl, List.nil_append, flat_append, flat_one]
        congr 2
        omega
      rwa [e] at W2
    have hfl2 : (flat fTen (xs.take i ++ [x])).length = (i + 1) * 6 := by rw [ften_len, List.length_append, List.length_take]; congr 1; simp; omega
    have hdl : (flat fTen (xs.drop i)).length = (n - i) * 6 := by rw [ften_len, List.length_drop, hl]
    have hsrc : ∀ j v, (flat fTen (xs.drop i))[j]? = some v → w2.cell? ((⟨g, i * 6, none⟩ : Addr).add j) = some v := fun j v hj => by
      have e : flat fTen xs = flat fTen (xs.take i) ++ flat fTen (xs.drop i) := by rw [← flat_append, List.take_append_drop]
      have hc := tcells (h.later b1) (i * 6 + j) v (by rw [e, List.getElem?_append_right (by omega), hfl, Nat.add_sub_cancel_left]; exact hj)
      rw [Addr.add_mid, Nat.zero_add] at hc
      rw [Addr.add_mid, t2.cell (block_lt_of_cell hc) ?_]
      · exact hc
      · obtain ⟨b0, o0, y0, e0, _, _, _, _, c0, _⟩ := h.at_ (i := 0) (by omega)
        injection e0 with e0
        injection e0 with e0 _
        have := block_lt_of_cell c0
        have : b0 < w.heap.size := this
        show ¬ g = hb
        omega
    obtain ⟨w3, r3, W3, t3, s3⟩ := run_copy_tens w2.drew hb ((i + 1) * 6) (n - i) (c - (i + 1)) ⟨g, i * 6, none⟩ (n - i) (n - i) _ (flat fTen (xs.drop i)) (W2'.draws 1) (n - i) (Nat.min_self _) hdl hsrc (by rw [List.length_append, hfl2, List.length_drop, hZl, hdl]; omega) flat_le
    have b3 : Below w.heap.size w w3 := below_turn (below_draws (below_turn b1 t2 (by intro k hk; omega)) 1) t3 (by intro k hk; omega)
    have F : Hid (InsOut w (n + 1) (xs.take i ++ x :: xs.drop i) (.returned (.slice (some ⟨hb, 0, none⟩) (n + 1) c)) w3) := Lib.hid (by
      refine ⟨hb, c, rfl, TRow.of_whole (sp := (Z.drop 6).drop ((n - i) * 6)) ?_ (by rw [List.length_append, List.length_cons, List.length_take, List.length_drop]; omega) hge hcm (htn.later b3), b3⟩
      have e : (flat fTen (xs.take i ++ [x]) ++ Z.drop 6).take ((i + 1) * 6) ++ flat fTen (xs.drop i) ++ (flat fTen (xs.take i ++ [x]) ++ Z.drop 6).drop ((i + 1) * 6 + (flat fTen (xs.drop i)).length) = flat fTen (xs.take i ++ x :: xs.drop i) ++ (Z.drop 6).drop ((n - i) * 6) := by
        rw [List.take_append_of_le_length (by omega), List.take_of_length_le (by omega), List.drop_append, List.drop_of_length_le (l := flat fTen (xs.take i ++ [x])) (by omega), hfl2, hdl, List.nil_append, ← flat_append, List.append_assoc, List.singleton_append]
        congr 2
        omega
      rwa [e] at W3)
    have HR1 := Lib.hid hr
    have HR2 := Lib.hid r2
    have hnc : ¬ c = i := by omega
    have hnc2 : ¬ c = i + 1 := by omega
    have hni : ¬ n = i := by omega
    have e4 : (i : Int) + 1 ≤ (n : Int) + 1 := by omega
    have e5 : (n : Int) + 1 ≤ (c : Int) := by omega
    have e6 : IntKind.i64.wrap ((i : Int) + 1) = ((i + 1 : Nat) : Int) := by rw [IntKind.wrap_i64]; omega
    have e7 : n + 1 - (i + 1) = n - i := by omega
    have e8 : (0 : Int) ≤ (i : Int) + 1 := by omega
    have HR3 := Lib.hid r3
    clear h hv hf htn hvc W1 W2 W2' W3 t2 t3 s2 s3 b1 b3 hr r2 r3 hsrc hdl hfl hfl2 hZl hZ hw1 hc hhold hhb
    go_enter Tryd.func26, Tryd.ntmps26
    go_wp2_with (first
      | ((with_reducible show wpList _ _ _ (⟨some 40, _, _, _, _, _⟩ :: _) _ _); refine scan.wpList_append_of 38 3 (.tmp 34) (.tmp 39) _ _ rfl rfl rfl rfl rfl HR1.out ?_)
      | ((with_reducible show wpList _ _ _ (⟨some 45, _, _, _, _, _⟩ :: _) _ _); refine wpList_copy_of (.tmp 43) (.tmp 44) _ _ rfl rfl rfl rfl rfl HR2.out ?_))
    go_still_tail 8, (by kernel_rfl)
    change wpList _ _ _ _ _ (w2.drewN 1)
    have HR4 : Hid ((Builtin.copy_ #[38, 38] 3 #[.slice (some ⟨hb, (i + 1) * 6, none⟩) (n - i) (c - (i + 1)), .slice (some ⟨g, i * 6, none⟩) (n - i) (n - i)]).run Tryd.prog (w2.drewN 1) = .ok (.int .i64 ((n - i : Nat) : Int)) w3) := HR3
    refine wpList_copy_of (.tmp 50) (.tmp 53) _ _ rfl rfl rfl rfl rfl HR4.out ?_
    go_wp2_with fail
    go_ret
    exact F.out
end Go.Proofs.YtpgclhpobijdeaaDoor.man
