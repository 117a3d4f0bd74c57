/-
  CONTRACTS of disk.New and (*disk.FS).Create.
-/
import Derived.Test.YtpbffjpghnijkaaDkChange
import Derived.Lib.MinMax
namespace Go.Proofs.Ytpbffjpghnijkaa.disk
open Go.RowKit Go.Maps

/-- A new file among the disk's. -/
def St.adopted (S : St) (b : Nat) (A : FileA) : St := { S with files := b :: S.files, file := fun x => if x = b then A else S.file x }

theorem Ch.Fine.more {c : Ch} {l l' : List Nat} (h : c.Fine l) (hl : ∀ b ∈ l, b ∈ l') : c.Fine l' := { h with file := fun b hb => hl b (h.file b hb) }
theorem St.Ok.adopted {S : St} {n : Nat} (h : S.Ok n) (b : Nat) (A : FileA) : (S.adopted b A).Ok n :=
  { h with inow := fun p hp => List.mem_cons_of_mem _ (h.inow p hp), isynced := fun p hp => List.mem_cons_of_mem _ (h.isynced p hp), iwait := fun c hc => (h.iwait c hc).more fun _ hx => List.mem_cons_of_mem _ hx }

theorem Disk.adopt {R F : Nat → Prop} {w w0 : World} {p b n : Nat} {S : St} {A : FileA} (h : Disk R w0 p S n) (hb : Below w0.heap.size w0 w) (hf : IsFile F w b A) (hF : ∀ k, F k → w0.heap.size ≤ k) :
    Disk (fun k => R k ∨ w0.heap.size ≤ k) w p (S.adopted b A) n ∧ b ∉ S.files ∧ b ≠ p := by
  obtain ⟨C, mn, ms, wv, h0⟩ := h
  have h := h0.same (w' := w) hb.size fun x k hk => hb.block k (h0.low x k hk).2
  have hap : ∀ x k, C x k → F k → False := fun x k hk hf => by have := (h0.low x k hk).2; have := hF k hf; omega
  have hnb : b ∉ S.files := fun e => hap b b ((h.file b e).in_) hf.in_
  have hpb : b ≠ p := fun e => hap p p h.inp (e ▸ hf.in_)
  refine ⟨⟨fun x k => C x k ∨ (x = b ∧ F k ∧ k < w.heap.size), mn, ms, wv, ⟨h.cells, h.now, h.synced, h.two, h.wait, ?_, .inl h.inp, .inl h.inn, .inl h.ins, fun g hg => ⟨.inl (h.inw g hg).1, (h.inw g hg).2⟩, ?_, ?_, ?_, h.ok.adopted b A⟩⟩, hnb, hpb⟩
  · intro y hy
    show IsFile _ w y (if y = b then A else S.file y)
    by_cases e : y = b
    · rw [if_pos e]
      subst e
      exact hf.mono fun k hk hfk => .inr ⟨rfl, hfk, hk⟩
    · rw [if_neg e]
      have hy' : y ∈ S.files := by
        rcases List.mem_cons.1 hy with h1 | h1
        · exact absurd h1 e
        · exact h1
      exact (h.file y hy').mono fun k _ hk => .inl hk
  · intro e
    rcases List.mem_cons.1 e with e | e
    · exact hpb e.symm
    · exact h.notp e
  · rintro x y k (hx | ⟨rfl, hx, _⟩) (hy | ⟨rfl, hy, _⟩)
    · exact h.apart _ _ _ hx hy
    · exact (hap _ _ hx hy).elim
    · exact (hap _ _ hy hx).elim
    · rfl
  · rintro x k (hx | ⟨_, hx, hk⟩)
    · exact ⟨.inl (h.low x k hx).1, (h.low x k hx).2⟩
    · exact ⟨.inr (hF k hx), hk⟩

/-! New -/
def within (room : Int) : Int := min (max room 0) 4194304
theorem run_max0 (w : World) (a : Int) : (Builtin.max_ #[3, 3] 3 #[.int .i64 a, .int .i64 0]).run Try.prog w = .ok (.int .i64 (max a 0)) w := by
  have e : max a 0 = if a < 0 then (0 : Int) else a := by split <;> omega
  rw [e]
  by_cases h : a < 0 <;> simp [Builtin.max_, Builtin.max2, h]
theorem run_minD (w : World) (a : Int) : (Builtin.min_ #[3, 3] 3 #[.int .i64 a, .int .i64 4194304]).run Try.prog w = .ok (.int .i64 (min a 4194304)) w := by
  have e : min a 4194304 = if (4194304 : Int) < a then (4194304 : Int) else a := by split <;> omega
  rw [e]
  by_cases h : (4194304 : Int) < a <;> simp [Builtin.min_, Builtin.min2, h]

set_option maxRecDepth 100000 in
theorem within_any (w : World) (room : Int) : Calls Try.prog 30 #[.int .i64 room] w fun e w' => e = .returned (.int .i64 (within room)) ∧ w = w' := by
  have h1 := fun w => run_max0 w room
  have h2 := fun w => run_minD w (max room 0)
  have HO := Lib.hid (show Ending.returned (.int .i64 (min (max room 0) 4194304)) = .returned (.int .i64 (within room)) from rfl)
  go_enter Try.func30, Try.ntmps30
  go_wp2
  go_ret
  exact ⟨HO.out, rfl⟩

/-- A new disk. -/
def St.new (room : Int) : St := ⟨within room, [], [], [], -1, 0, 0, [], fun _ => ⟨[], [], []⟩⟩
theorem within_bounds (room : Int) : 0 ≤ within room ∧ within room ≤ 4194304 := by unfold within; omega
theorem St.new_ok (room : Int) : (St.new room).Ok 0 :=
  ⟨within_bounds room, ⟨by show (-1 : Int) ≤ -1; omega, by show (-1 : Int) ≤ _; omega⟩, ⟨Int.le_refl _, Int.le_refl _⟩, ⟨Int.le_refl _, by show (0 : Int) ≤ _; omega⟩, Nat.le_refl _, Nat.le_refl _, Nat.le_refl _, (fun _ h => by cases h), (fun _ h => by cases h), (fun _ h => by cases h), rfl, (fun _ h => by cases h)⟩

/-- What 'New' answers with. -/
def NewOut (w : World) (room : Int) (e : Ending) (w' : World) : Prop :=
  ∃ p, e = .returned (.pointer (some ⟨p, 0, none⟩)) ∧ Disk (fun k => w.heap.size ≤ k) w' p (St.new room) 0 ∧ Below w.heap.size w w'

set_option maxRecDepth 100000 in
set_option maxHeartbeats 1000000 in
theorem new_any (w : World) (room : Int) : Calls Try.prog 12 #[.int .i64 room] w (NewOut w room) := by
  have hmm := @run_makeMap Try.prog
  have cW := Lib.hid (within_any w room)
  have HR := Lib.hid (within_bounds room)
  obtain ⟨r, hr⟩ : ∃ r, within room = r := ⟨_, rfl⟩
  rw [hr] at cW
  have HRM := Lib.hid hr
  clear hr
  go_enter Try.func12, Try.ntmps12
  go_wp2_with fail
  refine cW.out.mono ?_
  rintro e w1 ⟨rfl, rfl⟩
  go_wp2_with fail
  go_ret
  have b1 : Below w.heap.size w (((w.alloc (.map #[] 0)).alloc (.map #[] 0)).alloc (.cells #[.int .i64 r, .map (some w.heap.size), .map (some (w.heap.size + 1)), .slice none 0 0, .int .i64 (-1), .int .i64 0, .int .i64 0] 58)) := (((Below.refl _ _).alloc (Nat.le_refl _) _).alloc (by simp) _).alloc (by simp; omega) _
  have m2 : (w.alloc (.map #[] 0)).heap.size = w.heap.size + 1 := by simp
  have d1 : IsDir (((w.alloc (.map #[] 0)).alloc (.map #[] 0)).alloc (.cells #[.int .i64 r, .map (some w.heap.size), .map (some (w.heap.size + 1)), .slice none 0 0, .int .i64 (-1), .int .i64 0, .int .i64 0] 58)) w.heap.size [] := ⟨0, ((World.ownsMap_made w Try.prog 9 fileElem).alloc _).alloc _⟩
  have d2 : IsDir (((w.alloc (.map #[] 0)).alloc (.map #[] 0)).alloc (.cells #[.int .i64 r, .map (some w.heap.size), .map (some (w.heap.size + 1)), .slice none 0 0, .int .i64 (-1), .int .i64 0, .int .i64 0] 58)) (w.heap.size + 1) [] := by
    have := (World.ownsMap_made (w.alloc (.map #[] 0)) Try.prog 9 fileElem).alloc (.cells #[.int .i64 r, .map (some w.heap.size), .map (some (w.heap.size + 1)), .slice none 0 0, .int .i64 (-1), .int .i64 0, .int .i64 0] 58)
    rw [m2] at this
    exact ⟨0, this⟩
  have ws : Whole (((w.alloc (.map #[] 0)).alloc (.map #[] 0)).alloc (.cells #[.int .i64 r, .map (some w.heap.size), .map (some (w.heap.size + 1)), .slice none 0 0, .int .i64 (-1), .int .i64 0, .int .i64 0] 58)) (w.heap.size + 2) 58 (fsCells (St.new room) w.heap.size (w.heap.size + 1) (.slice none 0 0)) := by
    rw [fsCells, St.new, HRM.out]
    exact Whole.new_ (by simp) rfl
  have hsz : (((w.alloc (.map #[] 0)).alloc (.map #[] 0)).alloc (.cells #[.int .i64 r, .map (some w.heap.size), .map (some (w.heap.size + 1)), .slice none 0 0, .int .i64 (-1), .int .i64 0, .int .i64 0] 58)).heap.size = w.heap.size + 3 := by simp
  refine ⟨w.heap.size + 2, rfl, ⟨fun o k => o = w.heap.size + 2 ∧ w.heap.size ≤ k ∧ k < w.heap.size + 3, w.heap.size, w.heap.size + 1, .slice none 0 0, ⟨ws, d1, d2, by omega, World.ownsRow_nil _ _ _ _, (fun _ h => by cases h), ⟨rfl, by omega, by omega⟩, ⟨rfl, by omega, by omega⟩, ⟨rfl, by omega, by omega⟩, (fun _ h => by cases h), (fun h => by cases h), fun x y k hx hy => hx.1.trans hy.1.symm, fun x k hk => ⟨hk.2.1, by rw [hsz]; exact hk.2.2⟩, St.new_ok room⟩⟩, b1⟩

/-! Create -/
/-- What 'Create' answers and makes; b: the new file's block. -/
def St.create (S : St) (nm : Nm) (b : Nat) : Int × St :=
  if S.fail = 0 then (3, S.begin) else
    if isNameB nm = false then (5, S.begin) else
      if dlook nm S.now = none ∧ 400 ≤ S.now.length then (2, S.begin) else
        (0, (S.begin.adopted b ⟨[], [], []⟩).changed ⟨some b, [], nm⟩)

/-- What a call leaves and answers, a new file's block among it. -/
def CreateOut (R : Nat → Prop) (w : World) (p : Nat) (S : St) (n : Nat) (nm : Nm) (e : Ending) (w' : World) : Prop :=
  ∃ b, b ∉ S.files ∧ b ≠ p ∧ w.heap.size ≤ b ∧ DiskOut R w p (S.create nm b).2 (n + 2) (.int .i64 (S.create nm b).1) e w'

theorem fresh_block {R : Nat → Prop} {w : World} {p n : Nat} {S : St} (h : Disk R w p S n) : ∃ b, b ∉ S.files ∧ b ≠ p ∧ w.heap.size ≤ b := by
  obtain ⟨C, mn, ms, wv, h⟩ := h
  refine ⟨w.heap.size, fun e => ?_, ?_, Nat.le_refl _⟩
  · have := (h.file _ e).lt; omega
  · have := h.cells.lt; omega

/-- 'len' of a directory. -/
theorem IsDir.len {w : World} {m : Nat} {d : Dir} (h : IsDir w m d) (ty : TypeId) : (Builtin.len_ #[55] ty #[.map (some m)]).run Try.prog w = .ok (.int .i64 (d.length : Int)) w := by
  have := h.owns.len dirType ty
  rwa [dirD_size] at this

theorem create_nil (w : World) (s : ByteArray) : Calls Try.prog 13 #[.pointer none, .string s] w fun e w' => e = .returned (.int .i64 1) ∧ w = w' := by
  go_enter Try.func13, Try.ntmps13
  go_wp2_with fail
  refine (begin_nil w).mono ?_
  rintro e w1 ⟨rfl, rfl⟩
  go_wp2
  go_ret
  exact ⟨rfl, rfl⟩

set_option maxRecDepth 100000 in
set_option maxHeartbeats 2000000 in
theorem create_any {R : Nat → Prop} (w : World) (p : Nat) (S : St) (n : Nat) (h : Disk R w p S n) (hn : n ≤ 100000000) (s : ByteArray) (hs : s.size ≤ maxLen) :
    Calls Try.prog 13 #[.pointer (some ⟨p, 0, none⟩), .string s] w (CreateOut R w p S n s.data.toList) := by
  have cB := Lib.hid (begin_any w p S n h (by omega))
  obtain ⟨b0, hb1, hb2, hb3⟩ := fresh_block h
  obtain ⟨nm, hnm⟩ : ∃ nm, s.data.toList = nm := ⟨_, rfl⟩
  have cN := Lib.hid (fun w1 => isName_any w1 s hs)
  rw [hnm] at cN ⊢
  have HNM := Lib.hid hnm
  have HS := Lib.hid hs
  by_cases h0 : S.fail = 0
  · have hv : ∀ b, S.create nm b = (3, S.begin) := fun b => by rw [St.create, if_pos h0]
    have HV := Lib.hid hv
    rw [if_pos h0] at cB
    have HB := Lib.hid (show b0 ∉ S.files ∧ b0 ≠ p ∧ w.heap.size ≤ b0 from ⟨hb1, hb2, hb3⟩)
    clear hv h hb1 hb2 hb3 hnm hs h0
    go_enter Try.func13, Try.ntmps13
    go_wp2_with fail
    refine cB.out.mono ?_
    rintro e w1 ⟨rfl, d1, t1⟩
    have D1 := Lib.hid d1
    have T1 := Lib.hid t1
    clear d1 t1
    go_wp2
    go_ret
    refine ⟨b0, HB.out.1, HB.out.2.1, HB.out.2.2, ?_⟩
    rw [HV.out]
    exact ⟨rfl, D1.out.more (by omega), T1.out⟩
  · rw [if_neg h0] at cB
    cases hin : isNameB nm
    · have hv : ∀ b, S.create nm b = (5, S.begin) := fun b => by rw [St.create, if_neg h0, if_pos hin]
      have HV := Lib.hid hv
      rw [hin] at cN
      have HB := Lib.hid (show b0 ∉ S.files ∧ b0 ≠ p ∧ w.heap.size ≤ b0 from ⟨hb1, hb2, hb3⟩)
      clear hv h hb1 hb2 hb3 hnm hs h0 hin
      go_enter Try.func13, Try.ntmps13
      go_wp2_with fail
      refine cB.out.mono ?_
      rintro e w1 ⟨rfl, d1, t1⟩
      have D1 := Lib.hid d1
      have T1 := Lib.hid t1
      clear d1 t1
      go_wp2_with fail
      refine (cN.out w1).mono ?_
      rintro e w2 ⟨rfl, rfl⟩
      go_wp2
      go_ret
      refine ⟨b0, HB.out.1, HB.out.2.1, HB.out.2.2, ?_⟩
      rw [HV.out]
      exact ⟨rfl, D1.out.more (by omega), T1.out⟩
    · rw [hin] at cN
      by_cases hfull : dlook nm S.now = none ∧ 400 ≤ S.now.length
      · have hv : ∀ b, S.create nm b = (2, S.begin) := fun b => by rw [St.create, if_neg h0, if_neg (by rw [hin]; simp), if_pos hfull]
        have HV := Lib.hid hv
        have HB := Lib.hid (show b0 ∉ S.files ∧ b0 ≠ p ∧ w.heap.size ≤ b0 from ⟨hb1, hb2, hb3⟩)
        have HF := Lib.hid hfull
        have hlen : (400 : Int) ≤ (S.now.length : Int) := by have := hfull.2; omega
        clear hv h hb1 hb2 hb3 hnm hs h0 hin hfull
        go_enter Try.func13, Try.ntmps13
        go_wp2_with fail
        refine cB.out.mono ?_
        rintro e w1 ⟨rfl, d1, t1⟩
        have D1 := Lib.hid d1
        have T1 := Lib.hid t1
        obtain ⟨C, mn, ms, wv, d1⟩ := d1
        have hlk := d1.now.look s HS.out
        have hln := d1.now.len 3
        have hc1 := d1.c1
        rw [HNM.out, show dlook nm S.begin.now = none from HF.out.1, ptrOf] at hlk
        rw [show S.begin.now = S.now from rfl] at hln
        clear d1 t1
        go_wp2_with fail
        refine (cN.out w1).mono ?_
        rintro e w2 ⟨rfl, rfl⟩
        go_wp2_with fail
        go_ret
        refine ⟨b0, HB.out.1, HB.out.2.1, HB.out.2.2, ?_⟩
        rw [HV.out]
        exact ⟨rfl, D1.out.more (by omega), T1.out⟩
      · have hv : ∀ b, S.create nm b = (0, (S.begin.adopted b ⟨[], [], []⟩).changed ⟨some b, [], nm⟩) := fun b => by rw [St.create, if_neg h0, if_neg (by rw [hin]; simp), if_neg hfull]
        have HV := Lib.hid hv
        have HI := Lib.hid hin
        clear hv h hb1 hb2 hb3 hnm hs h0 hin
        cases hd : dlook nm S.now with
        | none =>
          have hlen : ¬ (400 : Int) ≤ (S.now.length : Int) := fun e => hfull ⟨hd, by omega⟩
          have HD := Lib.hid hd
          clear hd hfull
          go_enter Try.func13, Try.ntmps13
          go_wp2_with fail
          refine cB.out.mono ?_
          rintro e w1 ⟨rfl, d1, t1⟩
          have D1 := Lib.hid d1
          have T1 := Lib.hid t1
          obtain ⟨C, mn, ms, wv, d1⟩ := d1
          have hlk := d1.now.look s HS.out
          have hln := d1.now.len 3
          have hc1 := d1.c1
          rw [HNM.out, show dlook nm S.begin.now = none from HD.out, ptrOf] at hlk
          rw [show S.begin.now = S.now from rfl] at hln
          clear d1 t1
          go_wp2_with fail
          refine (cN.out w1).mono ?_
          rintro e w2 ⟨rfl, rfl⟩
          go_wp2_with fail
          refine (newFile_any (C := fun _ => False) w1 (.slice none 0 0) [] (Own.none_ w1) (fun g hg => by cases hg) (Nat.zero_le _) Byte.nil).mono ?_
          rintro e w2 ⟨b, rfl, hb, hf, b2⟩
          obtain ⟨dA, hbf, hbp⟩ := D1.out.adopt b2 hf (fun k hk => by rcases hk with hk | hk; exact hk.elim; exact hk)
          have hfine : Ch.Fine ⟨some b, [], nm⟩ (S.begin.adopted b ⟨[], [], []⟩).files := ⟨fun x hx => by injection hx with hx; subst hx; exact List.mem_cons_self, fun _ => isNameB_nonempty HI.out, Nat.zero_le _, by have := HS.out; rw [← HNM.out]; simpa using this⟩
          have cC := Lib.hid (change_any w2 p _ (n + 1) dA ⟨some b, [], nm⟩ hfine (fun e => by cases e) ⟨#[]⟩ s rfl HNM.out (by omega))
          have B2 := Lib.hid b2
          have HBB := Lib.hid (show b ∉ S.files ∧ b ≠ p ∧ w.heap.size ≤ b from ⟨hbf, hbp, Nat.le_trans T1.out.size hb⟩)
          clear b2 hf dA hfine hbf hbp hb hlk hln hc1
          go_wp2_with fail
          refine cC.out.mono ?_
          rintro e w3 ⟨rfl, d3, t3⟩
          have D3 := Lib.hid d3
          have T3 := Lib.hid t3
          clear d3 t3
          go_wp2_with fail
          go_ret
          refine ⟨b, HBB.out.1, HBB.out.2.1, HBB.out.2.2, ?_⟩
          rw [HV.out]
          have hs1 := T1.out.size
          have hs2 := B2.out.size
          refine ⟨rfl, D3.out.mono fun k _ hk => ?_, ?_⟩
          · rcases hk with ((hk | hk) | hk) | hk
            · exact .inl hk
            · exact .inr hk
            · exact .inr (Nat.le_trans hs1 hk)
            · exact .inr (by omega)
          · have t12 : Turn R w w2 := T1.out.trans (Turn.of_below (R := fun _ => False) B2.out) fun _ _ e => e.elim
            exact t12.trans T3.out fun k hk e => by
              rcases e with (e | e) | e
              · exact e
              · omega
              · omega
        | some bo =>
          have HD := Lib.hid hd
          clear hd hfull
          go_enter Try.func13, Try.ntmps13
          go_wp2_with fail
          refine cB.out.mono ?_
          rintro e w1 ⟨rfl, d1, t1⟩
          have D1 := Lib.hid d1
          have T1 := Lib.hid t1
          obtain ⟨C, mn, ms, wv, d1⟩ := d1
          have hlk := d1.now.look s HS.out
          have hln := d1.now.len 3
          have hc1 := d1.c1
          rw [HNM.out, show dlook nm S.begin.now = some bo from HD.out, ptrOf] at hlk
          rw [show S.begin.now = S.now from rfl] at hln
          clear d1 t1
          go_wp2_with fail
          refine (cN.out w1).mono ?_
          rintro e w2 ⟨rfl, rfl⟩
          go_wp2_with fail
          refine (newFile_any (C := fun _ => False) w1 (.slice none 0 0) [] (Own.none_ w1) (fun g hg => by cases hg) (Nat.zero_le _) Byte.nil).mono ?_
          rintro e w2 ⟨b, rfl, hb, hf, b2⟩
          obtain ⟨dA, hbf, hbp⟩ := D1.out.adopt b2 hf (fun k hk => by rcases hk with hk | hk; exact hk.elim; exact hk)
          have hfine : Ch.Fine ⟨some b, [], nm⟩ (S.begin.adopted b ⟨[], [], []⟩).files := ⟨fun x hx => by injection hx with hx; subst hx; exact List.mem_cons_self, fun _ => isNameB_nonempty HI.out, Nat.zero_le _, by have := HS.out; rw [← HNM.out]; simpa using this⟩
          have cC := Lib.hid (change_any w2 p _ (n + 1) dA ⟨some b, [], nm⟩ hfine (fun e => by cases e) ⟨#[]⟩ s rfl HNM.out (by omega))
          have B2 := Lib.hid b2
          have HBB := Lib.hid (show b ∉ S.files ∧ b ≠ p ∧ w.heap.size ≤ b from ⟨hbf, hbp, Nat.le_trans T1.out.size hb⟩)
          clear b2 hf dA hfine hbf hbp hb hlk hln hc1
          go_wp2_with fail
          refine cC.out.mono ?_
          rintro e w3 ⟨rfl, d3, t3⟩
          have D3 := Lib.hid d3
          have T3 := Lib.hid t3
          clear d3 t3
          go_wp2_with fail
          go_ret
          refine ⟨b, HBB.out.1, HBB.out.2.1, HBB.out.2.2, ?_⟩
          rw [HV.out]
          have hs1 := T1.out.size
          have hs2 := B2.out.size
          refine ⟨rfl, D3.out.mono fun k _ hk => ?_, ?_⟩
          · rcases hk with ((hk | hk) | hk) | hk
            · exact .inl hk
            · exact .inr hk
            · exact .inr (Nat.le_trans hs1 hk)
            · exact .inr (by omega)
          · have t12 : Turn R w w2 := T1.out.trans (Turn.of_below (R := fun _ => False) B2.out) fun _ _ e => e.elim
            exact t12.trans T3.out fun k hk e => by
              rcases e with (e | e) | e
              · exact e
              · omega
              · omega
end Go.Proofs.Ytpbffjpghnijkaa.disk
