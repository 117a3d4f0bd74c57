/-
  A MANIFEST THAT IS OPEN, in memory; CONTRACTS of its All and Get.
-/
import Derived.Test.YtpgclhpobijdeaaDoorMnFind
import Derived.Test.YtpgclhpobijdeaaDoorMnInsert
import Derived.Test.YtpgclhpobijdeaaDoorSlBegun
namespace Go.Proofs.YtpgclhpobijdeaaDoor.man
open Go.RowKit Go.Proofs.YtpgclhpobijdeaaDoor.disk Go.Proofs.YtpgclhpobijdeaaDoor.recd Go.Proofs.YtpgclhpobijdeaaDoor.num Go.Proofs.YtpgclhpobijdeaaDoor.scan Go.Proofs.YtpgclhpobijdeaaDoor.slots
set_option linter.unusedVariables false

/-- What a manifest has. -/
structure ManAt (w : World) (m s p : Nat) (L : List Ten) (tv : Value) (t k tr : Nat) : Prop where
  cell : Whole w m 62 [.pointer (some ⟨s, 0, none⟩)]
  file : SlAt w s p aB tv (enc L) t k tr
  may : mayB L = true
  fit : ∀ t ∈ L, t.Fit
section
variable {w w' : World} {m s p : Nat} {L : List Ten} {tv : Value} {t k tr : Nat}
theorem ManAt.later (h : ManAt w m s p L tv t k tr) (hb : Below w.heap.size w w') : ManAt w' m s p L tv t k tr := ⟨h.cell.kept hb, h.file.later hb, h.may, h.fit⟩
theorem ManAt.kept {X : Nat → Prop} (h : ManAt w m s p L tv t k tr) (h1 : X m) (h2 : X s) (h3 : ∀ g, tv.ownBlock = some g → X g) (hk : Kept X w w') : ManAt w' m s p L tv t k tr := ⟨Whole.same h.cell (hk m h1), h.file.kept h2 h3 hk, h.may, h.fit⟩
theorem bytes_own {w : World} {v : Value} {b : List Int} (h : Own w v b) (hb : Byte b) : ∃ a cap, v = .slice a b.length cap ∧ Bytes w a b.length cap b := by
  obtain ⟨a, cap, e, h1, h2, h3, h4, h5⟩ := h.form
  refine ⟨a, cap, e, ⟨h4, hb, rfl, h1, h2, h3, ?_⟩⟩
  rcases h5 with h5 | ⟨g, h5, _, hg⟩
  · exact .inl h5
  · exact .inr ⟨g, 0, h5, hg⟩
/-- What a call that tells the tenants answers with. -/
def AllOut (w : World) (L : List Ten) (e : Ending) (w' : World) : Prop := ∃ (g n : Nat) (xs : List TS), e = .returned (.slice (some ⟨g, 0, none⟩) n n) ∧ tens xs = L ∧ TOwn w' g n xs ∧ w.heap.size ≤ g ∧ Below w.heap.size w w'
set_option maxRecDepth 100000 in
theorem all_any (h : ManAt w m s p L tv t k tr) : Calls Tryd.prog 13 #[.pointer (some ⟨m, 0, none⟩)] w (AllOut w L) := by
  have c0 := h.cell.at_ 0
  simp only [List.getElem?_cons_zero] at c0
  have CT := Lib.hid (text_any h.file)
  have HM := Lib.hid h.may
  have HF := Lib.hid h.fit
  clear h
  go_enter Tryd.func13, Tryd.ntmps13
  go_wp2_with fail
  refine CT.out.mono ?_
  rintro en w1 ⟨v, rfl, o1, _, b1⟩
  obtain ⟨a, cap, rfl, hb⟩ := bytes_own o1 (enc_byte L)
  have CD := Lib.hid (manDecode_any a _ cap (enc L) w1 hb)
  have B1 := Lib.hid b1
  obtain ⟨len, hlen⟩ : ∃ len, (enc L).length = len := ⟨_, rfl⟩
  rw [hlen] at CD ⊢
  clear o1 hb b1 CT hlen
  go_wp2_with fail
  refine CD.out.mono ?_
  rintro en w2 ⟨b2, ⟨hn, _⟩ | ⟨g, n, xs, rfl, hs, ho, hg⟩⟩
  · rw [decT_enc HF.out HM.out] at hn; cases hn
  · rw [decT_enc HF.out HM.out] at hs
    injection hs with hs
    have F : Hid (AllOut w L (.returned (.slice (some ⟨g, 0, none⟩) n n)) w2) := Lib.hid ⟨g, n, xs, rfl, hs.symm, ho, by have := B1.out.size; omega, B1.out.trans (b2.mono B1.out.size)⟩
    clear b2 hs ho hg CD
    go_wp2_with fail
    go_ret
    exact F.out
theorem all_nil (w : World) : Calls Tryd.prog 13 #[.pointer none] w fun e w' => e = .returned (.slice none 0 0) ∧ w = w' := by
  go_enter Tryd.func13, Tryd.ntmps13
  go_wp2_with fail
  go_ret
  exact ⟨rfl, rfl⟩
end
theorem tenInfo : (Tryd.prog.info? 34).map (·.size) = some 6 := by kernel_rfl
theorem run_load_ten {w : World} {bz : Nat} {cs : List Value} (hw : Whole w bz 34 cs) (hl : cs.length = 6) : (loadVar 34 ⟨bz, 0, none⟩).run Tryd.prog w = .ok (.agg cs.toArray) w := by
  have h := hw.range 0 6
  rw [List.drop_zero, ← hl, List.take_length] at h
  exact run_loadVar_mid w bz 0 34 cs _ h Tryd.underlying34 rfl (by rw [hl]; exact tenInfo)
theorem get_ret {a : Act} {w9 : World} {bz : Nat} {cs : List Value} {e : Value} {R : Ending → World → Prop} (h2 : a.tmps.getD 4 undef = .pointer (some ⟨bz, 0, none⟩)) (h3 : a.tmps.getD 5 undef = e) (hd : a.defers = [])
    (hw : Whole w9 bz 34 cs) (hl : cs.length = 6) (hR : R (.returned (.tuple #[.agg cs.toArray, e])) w9) : bodyPost Tryd.prog Tryd.f12 R .ret a w9 := by
  have hld := run_load_ten hw hl
  have k2 : a.tmps[4]?.getD undef = .pointer (some ⟨bz, 0, none⟩) := by simpa using h2
  have k3 : a.tmps[5]?.getD undef = e := by simpa using h3
  exact bodyPost_ret (v := .tuple #[.agg cs.toArray, e]) (by simp [results, Tryd.results12, k2, k3, asAddr, hld]) hd hR
/-- What Get answers with. -/
def GetOut (w : World) (L : List Ten) (id : Nat) (e : Ending) (w' : World) : Prop := Below w.heap.size w w' ∧
  ((e = .returned (.tuple #[zten, .bool false]) ∧ ∀ t ∈ L, t.id ≠ id) ∨
   ∃ (x : TS) (h : Nat), e = .returned (.tuple #[x.val, .bool true]) ∧ x.t ∈ L ∧ x.t.id = id ∧ x.a = some ⟨h, 0, none⟩ ∧ w.heap.size ≤ h ∧ x.t.segs.length = x.n ∧ x.cap = x.n ∧ Segs w' h x.n x.t.segs ∧ x.t.Fit)
set_option maxRecDepth 100000 in
set_option maxHeartbeats 1000000 in
theorem get_any {w : World} {m s p : Nat} {L : List Ten} {tv : Value} {t k tr : Nat} (h : ManAt w m s p L tv t k tr) (id : Nat) : Calls Tryd.prog 12 #[.pointer (some ⟨m, 0, none⟩), .int .u32 (id : Int)] w (GetOut w L id) := by
  obtain ⟨bz, hbz⟩ : ∃ bz, w.heap.size = bz := ⟨_, rfl⟩
  obtain ⟨wa, hwa⟩ : ∃ wa, w.alloc (.cells #[.int .u32 0, .int .u64 0, .int .i64 0, .int .u64 0, .int .i64 0, .slice none 0 0] 34) = wa := ⟨_, rfl⟩
  have ba : Below w.heap.size w wa := by rw [← hwa]; exact (Below.refl _ _).alloc (Nat.le_refl _) _
  have wh : Whole wa bz 34 [.int .u32 0, .int .u64 0, .int .i64 0, .int .u64 0, .int .i64 0, .slice none 0 0] := by rw [← hwa]; exact Whole.new_ hbz.symm rfl
  have CA := Lib.hid (all_any (h.later ba))
  have HM := Lib.hid h.may
  have WA := Lib.hid hwa
  have BA := Lib.hid ba
  have WH := Lib.hid wh
  have HBZ := Lib.hid hbz
  clear h hwa ba wh
  go_enter Tryd.func12, Tryd.ntmps12
  go_upto_region 1 with fail
  rw [WA.out]
  clear hbz
  go_wp2_with fail
  refine CA.out.mono ?_
  rintro en w1 ⟨g, n, xs, rfl, ht, ho, hg, b1⟩
  have CF := Lib.hid (find_any _ n n xs id w1 ho.trow (by rw [ht]; exact HM.out))
  have HT := Lib.hid ht
  have HO := Lib.hid ho
  have B1 := Lib.hid (BA.out.trans (b1.mono BA.out.size))
  have W1 := Lib.hid (WH.out.kept b1)
  have HG : Hid (w.heap.size < g) := Lib.hid (by have := WH.out.lt; have := HBZ.out; omega)
  clear ht ho b1 hg CA WH
  go_wp2_with fail
  refine CF.out.mono ?_
  rintro en w2 ⟨i, f, rfl, hf, b2⟩
  have HF := Lib.hid hf
  have B2 : Hid (Below w.heap.size w w2) := Lib.hid (B1.out.trans (b2.mono B1.out.size))
  have W2 := Lib.hid (W1.out.kept b2)
  have O2 := Lib.hid (HO.out.later b2)
  have hbw : w.heap.size ≤ bz := by have := HBZ.out; omega
  clear hf b2 CF W1 B1
  cases f with
  | false =>
    go_wp2_with ((with_reducible show wpList _ _ _ (⟨none, .store 34 _ _, _, _, _, _⟩ :: _) _ _); refine wpList_store_as rfl 34 (.tmp 4) (.tmp 19) rfl bz 0 #[.int .u32 0, .int .u64 0, .int .i64 0, .int .u64 0, .int .i64 0, .slice none 0 0] rfl rfl (Whole.there W2.out 0 6 (Nat.le_refl 6)) tenInfo (by simp [Value.oneCell']) ?_; intro w3 hw3; have HW3 := Lib.hid hw3; clear hw3)
    have wf : Whole w3 bz 34 [.int .u32 0, .int .u64 0, .int .i64 0, .int .u64 0, .int .i64 0, .slice none 0 0] := by
      rw [← HW3.out]
      exact Whole.lay [.int .u32 0, .int .u64 0, .int .i64 0, .int .u64 0, .int .i64 0, .slice none 0 0] 0 W2.out (by simp)
    have b3 : Below w.heap.size w w3 := by
      rw [← HW3.out]
      exact below_lay _ _ _ B2.out hbw
    exact get_ret rfl rfl rfl wf rfl ⟨b3, .inl ⟨rfl, by rw [← HT.out]; exact HF.out.none_ rfl⟩⟩
  | true =>
    have hil := HF.out.found rfl
    obtain ⟨t0, ht0, hid⟩ := hil
    have hin : i < n := by
      have := (List.getElem?_eq_some_iff.1 ht0).1
      rw [tens_length, O2.out.length] at this
      exact this
    have hinI : (i : Int) < (n : Int) := by omega
    obtain ⟨b0, o0, x, e0, hx, hxm, _, _, c0, c1, c2, c3, c4, c5⟩ := O2.out.trow.at_ hin
    injection e0 with e0
    injection e0 with e1 e2
    subst e1 e2
    have hxt : x.t = t0 := by
      have := tens_at hx
      rw [ht0] at this
      injection this with this
      exact this.symm
    obtain ⟨hh, a1, a2, a3, a4, a5, a6⟩ := O2.out.fresh x hxm
    rw [Nat.zero_add] at c0 c1 c2 c3 c4 c5
    have R : Hid (∀ w3, Turn (fun k => k = bz) w2 w3 → GetOut w L id (.returned (.tuple #[x.val, .bool true])) w3) := Lib.hid fun w3 t3 => by
      refine ⟨below_turn B2.out t3 (by intro k hk; omega), .inr ⟨x, hh, rfl, ?_, by rw [hxt]; exact hid, a1, by have := HG.out; omega, a3, a4, a5.same (t3.block hh a5.lt (by have := W2.out.lt; have := HG.out; have := HBZ.out; omega)), a6⟩⟩
      rw [← HT.out]
      exact List.mem_map.2 ⟨x, hxm, rfl⟩
    obtain ⟨⟨id', ep, qu, nx, ns, sg⟩, sa, sn, sc⟩ := x
    unfold TS.val at R
    simp only at R c0 c1 c2 c3 c4 c5
    clear hx hxm hxt ht0 hid a1 a2 a3 a4 a5 a6
    go_wp2_with ((with_reducible show wpList _ _ _ (⟨none, .store 34 _ _, _, _, _, _⟩ :: _) _ _); refine wpList_store_as rfl 34 (.tmp 4) (.tmp 23) rfl bz 0 #[.int .u32 (id' : Int), .int .u64 (ep : Int), .int .i64 qu, .int .u64 (nx : Int), .int .i64 ns, .slice sa sn sc] rfl rfl (Whole.there W2.out 0 6 (Nat.le_refl 6)) tenInfo (by simp [Value.oneCell']) ?_; intro w3 hw3; have HW3 := Lib.hid hw3; clear hw3)
    have wf : Whole w3 bz 34 [.int .u32 (id' : Int), .int .u64 (ep : Int), .int .i64 qu, .int .u64 (nx : Int), .int .i64 ns, .slice sa sn sc] := by
      rw [← HW3.out]
      exact Whole.lay [.int .u32 (id' : Int), .int .u64 (ep : Int), .int .i64 qu, .int .u64 (nx : Int), .int .i64 ns, .slice sa sn sc] 0 W2.out (by simp)
    have t3 : Turn (fun k => k = bz) w2 w3 := by
      rw [← HW3.out]
      simp only [World.setCells]
      exact ((((((Turn.refl (fun k => k = bz) _).setCell 0 _ (.inl rfl)).setCell 1 _ (.inl rfl)).setCell 2 _ (.inl rfl)).setCell 3 _ (.inl rfl)).setCell 4 _ (.inl rfl)).setCell 5 _ (.inl rfl)
    exact get_ret rfl rfl rfl wf rfl (R.out w3 t3)
theorem TRow.nil_ (w : World) : TRow w none 0 0 [] := ⟨rfl, Nat.le_refl _, by omega, fun _ => ⟨rfl, rfl⟩, .inl rfl, fun x hx => by cases hx⟩
set_option maxRecDepth 100000 in
theorem get_nil (w : World) (id : Nat) : Calls Tryd.prog 12 #[.pointer none, .int .u32 (id : Int)] w (GetOut w [] id) := by
  obtain ⟨bz, hbz⟩ : ∃ bz, w.heap.size = bz := ⟨_, rfl⟩
  obtain ⟨wa, hwa⟩ : ∃ wa, w.alloc (.cells #[.int .u32 0, .int .u64 0, .int .i64 0, .int .u64 0, .int .i64 0, .slice none 0 0] 34) = wa := ⟨_, rfl⟩
  have ba : Below w.heap.size w wa := by rw [← hwa]; exact (Below.refl _ _).alloc (Nat.le_refl _) _
  have wh : Whole wa bz 34 [.int .u32 0, .int .u64 0, .int .i64 0, .int .u64 0, .int .i64 0, .slice none 0 0] := by rw [← hwa]; exact Whole.new_ hbz.symm rfl
  have CF := Lib.hid (find_any none 0 0 [] id wa (TRow.nil_ wa) (by decide))
  have WA := Lib.hid hwa
  have BA := Lib.hid ba
  have WH := Lib.hid wh
  have HBZ := Lib.hid hbz
  clear hwa ba wh
  go_enter Tryd.func12, Tryd.ntmps12
  go_upto_region 1 with fail
  rw [WA.out]
  clear hbz
  go_wp2_with fail
  refine (all_nil _).mono ?_
  rintro en w1 ⟨rfl, rfl⟩
  go_wp2_with fail
  refine CF.out.mono ?_
  rintro en w2 ⟨i, f, rfl, hf, b2⟩
  have B2 : Hid (Below w.heap.size w w2) := Lib.hid (BA.out.trans (b2.mono BA.out.size))
  have W2 := Lib.hid (WH.out.kept b2)
  have hbw : w.heap.size ≤ bz := by have := HBZ.out; omega
  cases f with
  | true =>
    obtain ⟨t0, ht0, _⟩ := hf.found rfl
    simp [tens] at ht0
  | false =>
    clear hf b2 CF
    go_wp2_with ((with_reducible show wpList _ _ _ (⟨none, .store 34 _ _, _, _, _, _⟩ :: _) _ _); refine wpList_store_as rfl 34 (.tmp 4) (.tmp 19) rfl bz 0 #[.int .u32 0, .int .u64 0, .int .i64 0, .int .u64 0, .int .i64 0, .slice none 0 0] rfl rfl (Whole.there W2.out 0 6 (Nat.le_refl 6)) tenInfo (by simp [Value.oneCell']) ?_; intro w3 hw3; have HW3 := Lib.hid hw3; clear hw3)
    have wf : Whole w3 bz 34 [.int .u32 0, .int .u64 0, .int .i64 0, .int .u64 0, .int .i64 0, .slice none 0 0] := by
      rw [← HW3.out]
      exact Whole.lay [.int .u32 0, .int .u64 0, .int .i64 0, .int .u64 0, .int .i64 0, .slice none 0 0] 0 W2.out (by simp)
    have b3 : Below w.heap.size w w3 := by
      rw [← HW3.out]
      exact below_lay _ _ _ B2.out hbw
    exact get_ret rfl rfl rfl wf rfl ⟨b3, .inl ⟨rfl, fun t ht => by cases ht⟩⟩
end Go.Proofs.YtpgclhpobijdeaaDoor.man
