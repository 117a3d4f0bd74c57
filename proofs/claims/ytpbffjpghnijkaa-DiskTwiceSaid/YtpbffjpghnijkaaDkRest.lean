/-
  CONTRACTS of (*disk.FS)'s SyncDir, Rename, Fail, Names, and of the calls of no disk.
-/
import Derived.Test.YtpbffjpghnijkaaDkCrashA
import Derived.Test.YtpbffjpghnijkaaDkWrites
namespace Go.Proofs.Ytpbffjpghnijkaa.disk
open Go.RowKit Go.Maps

/-! no disk -/
theorem syncdir_nil (w : World) : Calls Try.prog 16 #[.pointer none] w fun e w' => e = .returned (.int .i64 1) ∧ w = w' := by
  go_enter Try.func16, Try.ntmps16
  go_wp2_with fail
  refine (begin_nil w).mono ?_
  rintro e w1 ⟨rfl, rfl⟩
  go_wp2
  go_ret
  exact ⟨rfl, rfl⟩
theorem rename_nil (w : World) (s t : ByteArray) : Calls Try.prog 24 #[.pointer none, .string s, .string t] w fun e w' => e = .returned (.int .i64 1) ∧ w = w' := by
  go_enter Try.func24, Try.ntmps24
  go_wp2_with fail
  refine (begin_nil w).mono ?_
  rintro e w1 ⟨rfl, rfl⟩
  go_wp2
  go_ret
  exact ⟨rfl, rfl⟩
theorem remove_nil (w : World) (s : ByteArray) : Calls Try.prog 25 #[.pointer none, .string s] w fun e w' => e = .returned (.int .i64 1) ∧ w = w' := by
  go_enter Try.func25, Try.ntmps25
  go_wp2_with fail
  refine (begin_nil w).mono ?_
  rintro e w1 ⟨rfl, rfl⟩
  go_wp2
  go_ret
  exact ⟨rfl, rfl⟩
theorem fail_nil (w : World) (n : Int) : Calls Try.prog 22 #[.pointer none, .int .i64 n] w fun e w' => e = .returned (.tuple #[]) ∧ w = w' := by
  go_enter Try.func22, Try.ntmps22
  go_wp2
  refine bodyPost_ret (results_none rfl _ _ _) rfl ?_
  exact ⟨rfl, rfl⟩
theorem room_nil (w : World) (n : Int) : Calls Try.prog 23 #[.pointer none, .int .i64 n] w fun e w' => e = .returned (.tuple #[]) ∧ w = w' := by
  go_enter Try.func23, Try.ntmps23
  go_wp2
  refine bodyPost_ret (results_none rfl _ _ _) rfl ?_
  exact ⟨rfl, rfl⟩
theorem lnames_nil (w : World) : Calls Try.prog 26 #[.pointer none] w fun e w' => e = .returned (.slice none 0 0) ∧ w = w' := by
  go_enter Try.func26, Try.ntmps26
  go_wp2
  go_ret
  exact ⟨rfl, rfl⟩
theorem crash_nil (w : World) (m : Int) (kv : Value) (torn : Int) : Calls Try.prog 19 #[.pointer none, .int .i64 m, kv, .int .i64 torn] w fun e w' => e = .returned (.pointer none) ∧ w = w' := by
  go_enter Try.func19, Try.ntmps19
  go_wp2
  go_ret
  exact ⟨rfl, rfl⟩

/-! Fail -/
/-- The call that is to fail. -/
def St.failing (S : St) (n : Int) : St := { S with fail := max n (-1) }
theorem run_maxm (w : World) (a : Int) : (Builtin.max_ #[3, 3] 3 #[.int .i64 a, .int .i64 (-1)]).run Try.prog w = .ok (.int .i64 (max a (-1))) w := by
  have e : max a (-1) = if a < -1 then (-1 : Int) else a := by split <;> omega
  rw [e]
  by_cases h : a < -1 <;> simp [Builtin.max_, Builtin.max2, h]
set_option maxRecDepth 100000 in
set_option maxHeartbeats 1000000 in
theorem fail_any {R : Nat → Prop} (w : World) (p : Nat) (S : St) (n : Nat) (h : Disk R w p S n) (m : Int) (hm : m ≤ 9223372036854775807) :
    Calls Try.prog 22 #[.pointer (some ⟨p, 0, none⟩), .int .i64 m] w (DiskOut R w p (S.failing m) n (.tuple #[])) := by
  obtain ⟨C, mn, ms, wv, h⟩ := h
  have c4 := h.c4
  have f4 := h.cells.free 4
  have hmx := fun w => run_maxm w m
  have hok := h.ok
  have fin : DiskOut R w p (S.failing m) n (.tuple #[]) (.returned (.tuple #[])) (w.setCell ⟨p, 4, none⟩ (.int .i64 (max m (-1)))) := by
    have g : w.grownBy (w.setCell ⟨p, 4, none⟩ (.int .i64 (max m (-1)))) (some p) := ⟨rfl, rfl, rfl, by simp [World.setCell], fun x _ hx => heap_setCell_other w ⟨p, 4, none⟩ x _ fun e => hx (by rw [e])⟩
    refine ⟨rfl, ⟨C, mn, ms, wv, (h.cells_turned (S' := S.failing m) (n' := n) (h.cells.put 4 _) g rfl rfl rfl rfl rfl { hok with fail := ?_ }).mono fun k _ hk => .inl hk⟩, Turn.of_grown g (h.low p p h.inp).1⟩
    show -1 ≤ max m (-1) ∧ max m (-1) ≤ _
    omega
  have FIN := Lib.hid fin
  clear h hok fin
  go_enter Try.func22, Try.ntmps22
  go_wp2
  go_end0
  exact FIN.out

/-! SyncDir -/
def St.dirSynced (S : St) : St := { S with synced := S.now, wait := [] }
/-- What 'SyncDir' answers and makes. -/
def St.syncDir (S : St) : Int × St := if S.fail = 0 then (3, S.begin) else (0, S.begin.dirSynced)

theorem DiskAt.dir_synced {C : Nat → Nat → Prop} {R : Nat → Prop} {w w5 w6 : World} {p : Nat} {S : St} {n : Nat} {mn ms : Nat} {wv : Value} (h : DiskAt C R w p S n mn ms wv) (b5 : Below w.heap.size w w5) (d5 : IsDir w5 w.heap.size S.now)
    (g6 : w5.grownBy w6 (some p)) (hc : Whole w6 p 58 (fsCells S.dirSynced mn w.heap.size (.slice none 0 0))) : Disk (fun k => R k ∨ w.heap.size ≤ k) w6 p S.dirSynced n ∧ Turn R w w6 := by
  have h5 := h.same b5.size fun x k hk => b5.block k (h.low x k hk).2
  have eb : ∀ k, k < w5.heap.size → k ≠ p → w6.heap[k]? = w5.heap[k]? := fun k hk hne => g6.block k hk fun e => hne (by injection e)
  have hmp : mn ≠ p := map_ne_whole h.now.owns h.cells
  have hpl := h.cells.lt
  have hok := h.ok
  refine ⟨⟨fun x k => C x k ∨ (x = p ∧ k = w.heap.size), mn, w.heap.size, .slice none 0 0, ⟨hc, h5.now.same (eb mn h5.now.lt hmp), d5.same (eb w.heap.size d5.lt (by omega)), (by have := h.now.lt; omega), World.ownsRow_nil _ _ _ _, ?_, .inl h.inp, .inl h.inn, .inr ⟨rfl, rfl⟩, (fun g hg => by cases hg), h.notp, ?_, ?_, ?_⟩⟩, ?_⟩
  · intro b hb
    exact ((h5.file b hb).same fun k hk hck => eb k hk fun e => by
      subst e
      exact h.notp (h.apart _ _ _ hck h.inp ▸ hb)).mono fun k _ hk => .inl hk
  · rintro x y k (hx | ⟨rfl, rfl⟩) (hy | ⟨rfl, hy⟩)
    · exact h.apart _ _ _ hx hy
    · have := (h.low x k hx).2; omega
    · have := (h.low y _ hy).2; omega
    · rfl
  · rintro x k (hx | ⟨_, rfl⟩)
    · exact ⟨.inl (h.low x k hx).1, Nat.lt_of_lt_of_le (h5.low x k hx).2 g6.size⟩
    · exact ⟨.inr (Nat.le_refl _), Nat.lt_of_lt_of_le d5.lt g6.size⟩
  · exact { hok with synced := hok.now, wait := Nat.zero_le _, isynced := hok.inow, iwait := (fun c hc => by cases hc), replays := rfl }
  · exact (Turn.of_below b5).trans (Turn.of_grown (R := fun k => k = p) g6 rfl) fun k _ e => by
      have e' : k = p := e
      subst e'
      exact (h.low _ _ h.inp).1

set_option maxRecDepth 100000 in
set_option maxHeartbeats 1000000 in
theorem syncdir_any {R : Nat → Prop} (w : World) (p : Nat) (S : St) (n : Nat) (h : Disk R w p S n) (hn : n ≤ 100000000) :
    Calls Try.prog 16 #[.pointer (some ⟨p, 0, none⟩)] w (CallOut R w p S.syncDir (n + 1)) := by
  have cB := Lib.hid (begin_any w p S n h (by omega))
  by_cases h0 : S.fail = 0
  · have hv : S.syncDir = (3, S.begin) := by rw [St.syncDir, if_pos h0]
    have HV := Lib.hid hv
    rw [if_pos h0] at cB
    clear hv h h0
    go_enter Try.func16, Try.ntmps16
    go_wp2_with fail
    refine cB.out.mono ?_
    rintro e w1 ⟨rfl, d1, t1⟩
    have D1 := Lib.hid d1
    have T1 := Lib.hid t1
    clear d1 t1
    go_wp2
    go_ret
    rw [HV.out]
    exact ⟨rfl, D1.out, T1.out⟩
  · have hv : S.syncDir = (0, S.begin.dirSynced) := by rw [St.syncDir, if_neg h0]
    have HV := Lib.hid hv
    rw [if_neg h0] at cB
    clear hv h h0
    go_enter Try.func16, Try.ntmps16
    go_wp2_with fail
    refine cB.out.mono ?_
    rintro e w1 ⟨rfl, d1, t1⟩
    have T1 := Lib.hid t1
    obtain ⟨C, mn, ms, wv, d1⟩ := d1
    have hc1 := d1.c1
    have D1 := Lib.hid d1
    have hpl := d1.cells.lt
    have cN := Lib.hid (clone_dir w1 mn S.begin.now d1.now)
    clear d1 t1
    go_wp2_with fail
    refine cN.out.mono ?_
    rintro e w5 ⟨rfl, d5, b5⟩
    have hc5 := D1.out.cells.kept b5
    have f25 := hc5.free 2
    have c25 : w5.cell? ⟨p, 2, none⟩ = some (.map (some ms)) := (hc5.at_ 2).trans rfl
    have hc6 := hc5.put 2 (.map (some w1.heap.size))
    have f36 := hc6.free 3
    have c36 : (w5.setCell ⟨p, 2, none⟩ (.map (some w1.heap.size))).cell? ⟨p, 3, none⟩ = some wv := (hc6.at_ 3).trans rfl
    have FIN := Lib.hid (D1.out.dir_synced b5 d5 (w6 := (w5.setCell ⟨p, 2, none⟩ (.map (some w1.heap.size))).setCell ⟨p, 3, none⟩ (.slice none 0 0))
      (World.grownBy.trans (b := w5.setCell ⟨p, 2, none⟩ (.map (some w1.heap.size))) ⟨rfl, rfl, rfl, by simp [World.setCell], fun x _ hx => heap_setCell_other w5 ⟨p, 2, none⟩ x _ fun e => hx (by rw [e])⟩ ⟨rfl, rfl, rfl, by simp [World.setCell], fun x _ hx => heap_setCell_other _ ⟨p, 3, none⟩ x _ fun e => hx (by rw [e])⟩) (hc6.put 3 _))
    clear d5 b5 hc5 hc6 hc1
    go_wp2
    go_ret
    rw [HV.out]
    obtain ⟨d6, t6⟩ := FIN.out
    obtain ⟨d7, t7⟩ := turn_step T1.out d6 t6
    exact ⟨rfl, d7, t7⟩

/-! Rename -/
set_option maxRecDepth 100000 in
set_option maxHeartbeats 1000000 in
/-- A name that is, to one that may be. -/
theorem rename_any {R : Nat → Prop} (w : World) (p : Nat) (S : St) (n : Nat) (h : Disk R w p S n) (hn : n ≤ 100000000) (s t : ByteArray) (hs : s.size ≤ maxLen) (ht : t.size ≤ maxLen) (h0 : S.fail ≠ 0) (b : Nat) (hb : dlook s.data.toList S.now = some b) (hg : isNameB t.data.toList = true) :
    Calls Try.prog 24 #[.pointer (some ⟨p, 0, none⟩), .string s, .string t] w (CallOut R w p (0, S.begin.changed ⟨none, s.data.toList, t.data.toList⟩) (n + 2)) := by
  have cB := Lib.hid (begin_any w p S n h (by omega))
  rw [if_neg h0] at cB
  have cN := Lib.hid (fun w1 => isName_any w1 t ht)
  rw [hg] at cN
  have HS := Lib.hid hs
  have HT := Lib.hid ht
  have HB := Lib.hid hb
  clear h h0 hb hg hs ht
  go_enter Try.func24, Try.ntmps24
  go_wp2_with fail
  refine cB.out.mono ?_
  rintro e w1 ⟨rfl, d1, t1⟩
  have D1 := Lib.hid d1
  have T1 := Lib.hid t1
  obtain ⟨C, mn, ms, wv, d1⟩ := d1
  have hlk := d1.now.look s HS.out
  have hc1 := d1.c1
  rw [show dlook s.data.toList S.begin.now = some b from HB.out, ptrOf] at hlk
  clear d1 t1
  go_wp2_with fail
  refine (cN.out w1).mono ?_
  rintro e w2 ⟨rfl, rfl⟩
  have hfine : Ch.Fine ⟨none, s.data.toList, t.data.toList⟩ S.begin.files := ⟨fun x hx => (by cases hx), fun e => absurd rfl e, (by have := HS.out; simpa using this), (by have := HT.out; simpa using this)⟩
  have cC := Lib.hid (change_any w1 p _ (n + 1) D1.out ⟨none, s.data.toList, t.data.toList⟩ hfine (fun _ => by rw [show S.begin.now = S.now from rfl, HB.out]; simp) s t rfl rfl (by omega))
  clear hfine hlk hc1
  go_wp2_with fail
  refine cC.out.mono ?_
  rintro e w3 ⟨rfl, d3, t3⟩
  obtain ⟨d4, t4⟩ := turn_step T1.out d3 t3
  have D4 := Lib.hid d4
  have T4 := Lib.hid t4
  clear d3 t3 d4 t4
  go_wp2_with fail
  go_ret
  exact ⟨rfl, D4.out, T4.out⟩
end Go.Proofs.Ytpbffjpghnijkaa.disk
