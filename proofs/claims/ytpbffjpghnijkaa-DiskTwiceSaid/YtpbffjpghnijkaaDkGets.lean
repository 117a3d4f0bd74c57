/-
  CONTRACTS of (*disk.FS).named, Size, Read, Calls, Reads, Fail.
-/
import Derived.Test.YtpbffjpghnijkaaDkWrites
namespace Go.Proofs.Ytpbffjpghnijkaa.disk
open Go.RowKit Go.Maps

theorem named_nil (w : World) (s : ByteArray) : Calls Try.prog 38 #[.pointer none, .string s] w fun e w' => e = .returned (.pointer none) ∧ w = w' := by
  go_enter Try.func38, Try.ntmps38
  go_wp2
  go_ret
  exact ⟨rfl, rfl⟩
theorem named_any {R : Nat → Prop} (w : World) (p : Nat) (S : St) (n : Nat) (h : Disk R w p S n) (s : ByteArray) (hs : s.size ≤ maxLen) :
    Calls Try.prog 38 #[.pointer (some ⟨p, 0, none⟩), .string s] w fun e w' => e = .returned (ptrOf (dlook s.data.toList S.now)) ∧ w = w' := by
  obtain ⟨C, mn, ms, wv, h⟩ := h
  have hlk := h.now.look s hs
  have hc1 := h.c1
  clear h
  cases hd : dlook s.data.toList S.now
  all_goals
    rw [hd, ptrOf] at hlk
    have HD := Lib.hid hd
    clear hd
    go_enter Try.func38, Try.ntmps38
    go_wp2
    go_ret
    exact ⟨rfl, rfl⟩

/-- What 'Size' answers. -/
def St.size (S : St) (nm : Nm) : Int := match dlook nm S.now with | some b => (S.file b).now.length | none => -1

theorem size_nil (w : World) (s : ByteArray) : Calls Try.prog 18 #[.pointer none, .string s] w fun e w' => e = .returned (.int .i64 (-1)) ∧ w = w' := by
  go_enter Try.func18, Try.ntmps18
  go_wp2_with fail
  refine (named_nil w s).mono ?_
  rintro e w1 ⟨rfl, rfl⟩
  go_wp2
  go_ret
  exact ⟨rfl, rfl⟩
theorem size_any {R : Nat → Prop} (w : World) (p : Nat) (S : St) (n : Nat) (h : Disk R w p S n) (s : ByteArray) (hs : s.size ≤ maxLen) :
    Calls Try.prog 18 #[.pointer (some ⟨p, 0, none⟩), .string s] w fun e w' => e = .returned (.int .i64 (S.size s.data.toList)) ∧ w = w' := by
  have cN := Lib.hid (named_any w p S n h s hs)
  cases hd : dlook s.data.toList S.now with
  | none =>
    rw [hd] at cN
    have hv : S.size s.data.toList = -1 := by rw [St.size]; simp only [hd]
    rw [hv]
    clear hv hd h
    go_enter Try.func18, Try.ntmps18
    go_wp2_with fail
    refine cN.out.mono ?_
    rintro e w1 ⟨rfl, rfl⟩
    rw [ptrOf]
    go_wp2
    go_ret
    exact ⟨rfl, rfl⟩
  | some b =>
    rw [hd] at cN
    have hv : S.size s.data.toList = (S.file b).now.length := by rw [St.size]; simp only [hd]
    rw [hv]
    obtain ⟨C, mn, ms, wv, h⟩ := h
    obtain ⟨vn, vs, dm, hf⟩ := h.file b (h.ok.inow _ (dlook_mem hd))
    obtain ⟨av, cv, ev, _⟩ := hf.now.form
    subst ev
    have hf0 := hf.cell0
    clear hv hd h hf
    go_enter Try.func18, Try.ntmps18
    go_wp2_with fail
    refine cN.out.mono ?_
    rintro e w1 ⟨rfl, rfl⟩
    rw [ptrOf]
    go_wp2
    go_ret
    exact ⟨rfl, rfl⟩

theorem calls_nil (w : World) : Calls Try.prog 21 #[.pointer none] w fun e w' => e = .returned (.int .i64 0) ∧ w = w' := by
  go_enter Try.func21, Try.ntmps21
  go_wp2
  go_ret
  exact ⟨rfl, rfl⟩
theorem calls_any {R : Nat → Prop} (w : World) (p : Nat) (S : St) (n : Nat) (h : Disk R w p S n) : Calls Try.prog 21 #[.pointer (some ⟨p, 0, none⟩)] w fun e w' => e = .returned (.int .i64 S.calls) ∧ w = w' := by
  obtain ⟨C, mn, ms, wv, h⟩ := h
  have hc := h.c5
  clear h
  go_enter Try.func21, Try.ntmps21
  go_wp2
  go_ret
  exact ⟨rfl, rfl⟩
theorem reads_nil (w : World) : Calls Try.prog 20 #[.pointer none] w fun e w' => e = .returned (.int .i64 0) ∧ w = w' := by
  go_enter Try.func20, Try.ntmps20
  go_wp2
  go_ret
  exact ⟨rfl, rfl⟩
theorem reads_any {R : Nat → Prop} (w : World) (p : Nat) (S : St) (n : Nat) (h : Disk R w p S n) : Calls Try.prog 20 #[.pointer (some ⟨p, 0, none⟩)] w fun e w' => e = .returned (.int .i64 S.reads) ∧ w = w' := by
  obtain ⟨C, mn, ms, wv, h⟩ := h
  have hc := h.c6
  clear h
  go_enter Try.func20, Try.ntmps20
  go_wp2
  go_ret
  exact ⟨rfl, rfl⟩

theorem cell_grown {w : World} {p i : Nat} {v : Value} : w.grownBy (w.setCell ⟨p, i, none⟩ v) (some p) := ⟨rfl, rfl, rfl, by simp [World.setCell], fun x _ hx => heap_setCell_other w ⟨p, i, none⟩ x _ fun e => hx (by rw [e])⟩

/-- What 'Read' answers and makes. -/
def St.read (S : St) (nm : Nm) (at_ k : Int) : Int × List Int × St :=
  match dlook nm S.now with
  | none => (1, [], S)
  | some b => if at_ < 0 ∨ k < 0 ∨ ((S.file b).now.length : Int) < at_ ∨ ((S.file b).now.length : Int) - at_ < k then (6, [], S) else (0, ((S.file b).now.drop at_.toNat).take k.toNat, { S with reads := S.reads + k })
/-- What 'Read' leaves: a new row, the disk in the same blocks. -/
def ReadOut (R : Nat → Prop) (w : World) (p : Nat) (r : Int × List Int × St) (n : Nat) (e : Ending) (w' : World) : Prop :=
  ∃ v, e = .returned (.tuple #[v, .int .i64 r.1]) ∧ Own w' v r.2.1 ∧ (∀ g, v.ownBlock = some g → w.heap.size ≤ g) ∧ Disk R w' p r.2.2 n ∧ Turn R w w'

theorem St.Ok.read {S : St} {n : Nat} (h : S.Ok n) {k : Int} (h0 : 0 ≤ k) (hk : k ≤ 4194304) : St.Ok { S with reads := S.reads + k } (n + 1) := by
  have h1 := h.more (Nat.le_succ n)
  refine { h1 with reads := ?_ }
  show 0 ≤ S.reads + k ∧ S.reads + k ≤ ((n + 1 : Nat) : Int) * 4194304
  have := h.reads
  omega

theorem read_nil (w : World) (s : ByteArray) (at_ k : Int) : Calls Try.prog 17 #[.pointer none, .string s, .int .i64 at_, .int .i64 k] w fun e w' => e = .returned (.tuple #[.slice none 0 0, .int .i64 1]) ∧ w = w' := by
  go_enter Try.func17, Try.ntmps17
  go_wp2_with fail
  refine (named_nil w s).mono ?_
  rintro e w1 ⟨rfl, rfl⟩
  go_wp2
  go_ret2
  exact ⟨rfl, rfl⟩

set_option maxRecDepth 100000 in
set_option maxHeartbeats 1000000 in
theorem read_bad {R : Nat → Prop} (w : World) (p : Nat) (S : St) (n : Nat) (h : Disk R w p S n) (s : ByteArray) (hs : s.size ≤ maxLen) (at_ k : Int) (b : Nat) (hd : dlook s.data.toList S.now = some b) (hr : at_ < 0 ∨ k < 0 ∨ ((S.file b).now.length : Int) < at_ ∨ ((S.file b).now.length : Int) - at_ < k) :
    Calls Try.prog 17 #[.pointer (some ⟨p, 0, none⟩), .string s, .int .i64 at_, .int .i64 k] w fun e w' => e = .returned (.tuple #[.slice none 0 0, .int .i64 6]) ∧ w = w' := by
  have cN := Lib.hid (named_any w p S n h s hs)
  rw [hd] at cN
  obtain ⟨C, mn, ms, wv, h⟩ := h
  obtain ⟨vn, vs, dm, hf⟩ := h.file b (h.ok.inow _ (dlook_mem hd))
  have hmo := hf.fit.most
  obtain ⟨av, cv, ev, _⟩ := hf.now.form
  subst ev
  have hf0 := hf.cell0
  obtain ⟨N, hN⟩ : ∃ N, (S.file b).now.length = N := ⟨_, rfl⟩
  rw [hN] at hr hf0 hmo
  clear hd h hf hN
  by_cases h1 : at_ < 0
  · clear hr
    go_enter Try.func17, Try.ntmps17
    go_wp2_with fail
    refine cN.out.mono ?_
    rintro e w1 ⟨rfl, rfl⟩
    rw [ptrOf]
    go_wp2
    go_ret2
    exact ⟨rfl, rfl⟩
  · by_cases h2 : k < 0
    · clear hr
      go_enter Try.func17, Try.ntmps17
      go_wp2_with fail
      refine cN.out.mono ?_
      rintro e w1 ⟨rfl, rfl⟩
      rw [ptrOf]
      go_wp2
      go_ret2
      exact ⟨rfl, rfl⟩
    · by_cases h3 : (N : Int) < at_
      · clear hr
        go_enter Try.func17, Try.ntmps17
        go_wp2_with fail
        refine cN.out.mono ?_
        rintro e w1 ⟨rfl, rfl⟩
        rw [ptrOf]
        go_wp2
        go_ret2
        exact ⟨rfl, rfl⟩
      · have h4 : (N : Int) - at_ < k := by omega
        clear hr
        go_enter Try.func17, Try.ntmps17
        go_wp2_with fail
        refine cN.out.mono ?_
        rintro e w1 ⟨rfl, rfl⟩
        rw [ptrOf]
        go_wp2
        go_ret2
        exact ⟨rfl, rfl⟩
end Go.Proofs.Ytpbffjpghnijkaa.disk
