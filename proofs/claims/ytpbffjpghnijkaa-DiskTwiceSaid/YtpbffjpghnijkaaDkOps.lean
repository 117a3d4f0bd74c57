/-
  CONTRACTS of (*disk.FS).Write and Sync.
-/
import Derived.Test.YtpbffjpghnijkaaDkUsed
namespace Go.Proofs.Ytpbffjpghnijkaa.disk
open Go.RowKit Go.Maps

/-- A file's bytes turned. -/
def St.set (S : St) (b : Nat) (A : FileA) : St := { S with file := fun x => if x = b then A else S.file x }
theorem St.Ok.set {S : St} {n : Nat} (h : S.Ok n) (b : Nat) (A : FileA) : (S.set b A).Ok n := { h with }

theorem DiskAt.file_turned {C : Nat → Nat → Prop} {R : Nat → Prop} {w w' : World} {p : Nat} {S : St} {n : Nat} {mn ms : Nat} {wv : Value} (h : DiskAt C R w p S n mn ms wv) {b : Nat} (hb : b ∈ S.files) {A : FileA}
    (hf : IsFile (fun k => C b k ∨ w.heap.size ≤ k) w' b A) (t : Turn (C b) w w') : Disk (fun k => R k ∨ w.heap.size ≤ k) w' p (S.set b A) n ∧ Turn R w w' := by
  have hbp : b ≠ p := fun e => h.notp (e ▸ hb)
  have eo : ∀ x k, x ≠ b → C x k → w'.heap[k]? = w.heap[k]? := fun x k hx hk => t.block k (h.low x k hk).2 fun e => hx (h.apart _ _ _ hk e)
  have hpb : p ≠ b := fun e => hbp e.symm
  have hs := t.size
  refine ⟨⟨fun x k => C x k ∨ (x = b ∧ w.heap.size ≤ k ∧ k < w'.heap.size), mn, ms, wv, ⟨Whole.same h.cells (eo p p hpb h.inp), h.now.same (eo p mn hpb h.inn), h.synced.same (eo p ms hpb h.ins), h.two, row_same h.wait fun g hg => eo p g hpb (h.inw g hg).1, ?_, .inl h.inp, .inl h.inn, .inl h.ins, fun g hg => ⟨.inl (h.inw g hg).1, (h.inw g hg).2⟩, h.notp, ?_, ?_, h.ok.set b A⟩⟩, t.mono fun k _ hk => (h.low b k hk).1⟩
  · intro y hy
    show IsFile _ w' y (if y = b then A else S.file y)
    by_cases e : y = b
    · rw [if_pos e]
      subst e
      exact hf.mono fun k hk hfk => by
        rcases hfk with hfk | hfk
        · exact .inl hfk
        · exact .inr ⟨rfl, hfk, hk⟩
    · rw [if_neg e]
      exact ((h.file y hy).same fun k _ hk => eo y k e hk).mono fun k _ hk => .inl hk
  · rintro x y k (hx | ⟨rfl, hx, _⟩) (hy | ⟨rfl, hy, _⟩)
    · exact h.apart _ _ _ hx hy
    · have := (h.low x k hx).2; omega
    · have := (h.low y k hy).2; omega
    · rfl
  · rintro x k (hx | ⟨_, hx, hk⟩)
    · exact ⟨.inl (h.low x k hx).1, by have := (h.low x k hx).2; omega⟩
    · exact ⟨.inr hx, hk⟩

theorem sum_mem : ∀ (l : List Nat) (x : Nat), x ∈ l → x ≤ l.sum
  | [], _, h => by cases h
  | y :: r, x, h => by
    rw [List.sum_cons]
    rcases List.mem_cons.1 h with rfl | h
    · omega
    · have := sum_mem r x h; omega
theorem used_ge {S : St} {nm : Nm} {b : Nat} (h : dlook nm S.now = some b) : (S.file b).now.length ≤ S.used := by
  have hm := dlook_mem h
  unfold St.used sumOf
  exact sum_mem _ _ (List.mem_map.2 ⟨(nm, b), hm, rfl⟩)

/-- What 'Write' answers and makes. -/
def St.write (S : St) (nm : Nm) (at_ : Int) (part : List Int) : Int × St :=
  if S.fail = 0 then (3, S.begin) else
    match dlook nm S.now with
    | none => (1, S.begin)
    | some b =>
      if at_ < 0 ∨ ((S.file b).now.length : Int) < at_ then (6, S.begin) else
        if 0 < at_ + part.length - (S.file b).now.length ∧ S.room < S.used + (at_ + part.length - (S.file b).now.length) then (2, S.begin) else
          (0, S.begin.set b ((S.file b).write at_.toNat part))

/-- What 'Sync' answers and makes. -/
def St.sync (S : St) (nm : Nm) : Int × St :=
  if S.fail = 0 then (3, S.begin) else
    match dlook nm S.now with
    | none => (1, S.begin)
    | some b => (0, S.begin.set b ⟨(S.file b).now, (S.file b).now, []⟩)

/-- What a call leaves and answers. -/
def CallOut (R : Nat → Prop) (w : World) (p : Nat) (r : Int × St) (n : Nat) (e : Ending) (w' : World) : Prop := DiskOut R w p r.2 n (.int .i64 r.1) e w'

theorem turn_step {R : Nat → Prop} {w w1 w2 : World} {p n : Nat} {S : St} (t1 : Turn R w w1) (d2 : Disk (fun k => (R k ∨ w.heap.size ≤ k) ∨ w1.heap.size ≤ k) w2 p S n) (t2 : Turn (fun k => R k ∨ w.heap.size ≤ k) w1 w2) :
    Disk (fun k => R k ∨ w.heap.size ≤ k) w2 p S n ∧ Turn R w w2 := by
  have hs := t1.size
  exact ⟨d2.mono fun k _ hk => by rcases hk with hk | hk; exact hk; exact .inr (by omega), t1.trans t2 fun k hk e => by rcases e with e | e; exact e; omega⟩

theorem sync_nil (w : World) (s : ByteArray) : Calls Try.prog 15 #[.pointer none, .string s] w fun e w' => e = .returned (.int .i64 1) ∧ w = w' := by
  go_enter Try.func15, Try.ntmps15
  go_wp2_with fail
  refine (begin_nil w).mono ?_
  rintro e w1 ⟨rfl, rfl⟩
  go_wp2
  go_ret
  exact ⟨rfl, rfl⟩

set_option maxRecDepth 100000 in
set_option maxHeartbeats 2000000 in
theorem syncs_any {R : Nat → Prop} (w : World) (p : Nat) (S : St) (n : Nat) (h : Disk R w p S n) (hn : n ≤ 100000000) (s : ByteArray) (hs : s.size ≤ maxLen) :
    Calls Try.prog 15 #[.pointer (some ⟨p, 0, none⟩), .string s] w (CallOut R w p (S.sync s.data.toList) (n + 2)) := by
  have cB := Lib.hid (begin_any w p S n h (by omega))
  have HS := Lib.hid hs
  obtain ⟨nm, hnm⟩ : ∃ nm, s.data.toList = nm := ⟨_, rfl⟩
  rw [hnm]
  have HNM := Lib.hid hnm
  by_cases h0 : S.fail = 0
  · have hv : S.sync nm = (3, S.begin) := by rw [St.sync, if_pos h0]
    have HV := Lib.hid hv
    rw [if_pos h0] at cB
    clear hv h hnm hs h0
    go_enter Try.func15, Try.ntmps15
    go_wp2_with fail
    refine cB.out.mono ?_
    rintro e w1 ⟨rfl, d1, t1⟩
    have D1 := Lib.hid d1
    have T1 := Lib.hid t1
    clear d1 t1
    go_wp2
    go_ret
    rw [HV.out]
    exact ⟨rfl, D1.out.more (by omega), T1.out⟩
  · rw [if_neg h0] at cB
    cases hd : dlook nm S.now with
    | none =>
      have hv : S.sync nm = (1, S.begin) := by rw [St.sync, if_neg h0]; simp only [hd]
      have HV := Lib.hid hv
      have HD := Lib.hid hd
      clear hv h hnm hs h0 hd
      go_enter Try.func15, Try.ntmps15
      go_wp2_with fail
      refine cB.out.mono ?_
      rintro e w1 ⟨rfl, d1, t1⟩
      have D1 := Lib.hid d1
      have T1 := Lib.hid t1
      obtain ⟨C, mn, ms, wv, d1⟩ := d1
      have hlk := d1.now.look s HS.out
      have hc1 := d1.c1
      rw [HNM.out, show dlook nm S.begin.now = none from HD.out, ptrOf] at hlk
      clear d1 t1
      go_wp2
      go_ret
      rw [HV.out]
      exact ⟨rfl, D1.out.more (by omega), T1.out⟩
    | some b =>
      have hv : S.sync nm = (0, S.begin.set b ⟨(S.file b).now, (S.file b).now, []⟩) := by rw [St.sync, if_neg h0]; simp only [hd]
      have HV := Lib.hid hv
      have HD := Lib.hid hd
      clear hv h hnm hs h0 hd
      go_enter Try.func15, Try.ntmps15
      go_wp2_with fail
      refine cB.out.mono ?_
      rintro e w1 ⟨rfl, d1, t1⟩
      have T1 := Lib.hid t1
      obtain ⟨C, mn, ms, wv, d1⟩ := d1
      have hlk := d1.now.look s HS.out
      have hc1 := d1.c1
      have hbf : b ∈ S.begin.files := d1.ok.inow _ (dlook_mem HD.out)
      rw [HNM.out, show dlook nm S.begin.now = some b from HD.out, ptrOf] at hlk
      have D1 := Lib.hid d1
      have HBF := Lib.hid hbf
      have cS := Lib.hid (sync_any w1 b (S.begin.file b) (d1.file b hbf))
      clear d1 t1 hbf
      go_wp2_with fail
      refine cS.out.mono ?_
      rintro e w2 ⟨rfl, f2, t2⟩
      obtain ⟨d3, t3⟩ := D1.out.file_turned HBF.out f2 t2
      obtain ⟨d4, t4⟩ := turn_step T1.out d3 t3
      have D4 := Lib.hid (d4.more (show n + 1 ≤ n + 2 by omega))
      have T4 := Lib.hid t4
      clear f2 t2 d3 t3 d4 t4 hlk hc1
      go_wp2
      go_ret
      rw [HV.out]
      exact ⟨rfl, D4.out, T4.out⟩
end Go.Proofs.Ytpbffjpghnijkaa.disk
