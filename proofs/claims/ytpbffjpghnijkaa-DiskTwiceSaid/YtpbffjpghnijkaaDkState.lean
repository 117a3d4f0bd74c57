/-
  A DISK: what it holds, told plainly, and in memory.
-/
import Derived.Test.YtpbffjpghnijkaaDkName
import Derived.Test.YtpbffjpghnijkaaDkLeave
namespace Go.Proofs.Ytpbffjpghnijkaa.disk
open Go.RowKit Go.Maps

/-- A disk. Files go by their blocks. -/
structure St where
  room : Int
  now : Dir
  synced : Dir
  wait : List Ch
  fail : Int
  calls : Int
  reads : Int
  files : List Nat
  file : Nat → FileA

/-- The changes that wait make e of d. -/
def Replays : Dir → List Ch → Dir → Prop
  | d, [], e => d = e
  | d, c :: r, e => c.Ok d ∧ Replays (c.apply d) r e
theorem Replays.snoc {c : Ch} {e : Dir} : ∀ {l : List Ch} {d : Dir}, Replays d l e → c.Ok e → Replays d (l ++ [c]) (c.apply e)
  | [], d, h, hc => by
    have h' : d = e := h
    subst h'
    exact ⟨hc, rfl⟩
  | _ :: _, _, h, hc => ⟨h.1, Replays.snoc h.2 hc⟩

/-- What a change may be: of files of the disk, by names. -/
structure Ch.Fine (c : Ch) (files : List Nat) : Prop where
  file : ∀ b, c.made = some b → b ∈ files
  to : c.made ≠ none → c.to ≠ []
  lfrm : c.frm.length ≤ maxLen
  lto : c.to.length ≤ maxLen

/-- What holds of every disk; n: how much it may have seen. -/
structure St.Ok (S : St) (n : Nat) : Prop where
  room : 0 ≤ S.room ∧ S.room ≤ 4194304
  fail : -1 ≤ S.fail ∧ S.fail ≤ 9223372036854775807
  calls : 0 ≤ S.calls ∧ S.calls ≤ n
  reads : 0 ≤ S.reads ∧ S.reads ≤ (n : Int) * 4194304
  now : S.now.length ≤ n
  synced : S.synced.length ≤ n
  wait : S.wait.length ≤ n
  inow : ∀ p ∈ S.now, p.2 ∈ S.files
  isynced : ∀ p ∈ S.synced, p.2 ∈ S.files
  iwait : ∀ c ∈ S.wait, c.Fine S.files
  replays : Replays S.synced S.wait S.now
  lnow : ∀ p ∈ S.now, p.1.length ≤ maxLen

/-- How the changes that wait lie in memory. -/
def waitCells (l : List Ch) : List Value := l.flatMap fun c => [ptrOf c.made, encStr c.frm, encStr c.to]
theorem waitCells_length (l : List Ch) : (waitCells l).length = l.length * 3 := by
  induction l with
  | nil => rfl
  | cons c r ih => rw [waitCells, List.flatMap_cons, List.length_append] ; rw [waitCells] at ih; rw [ih]; simp; omega
theorem waitCells_snoc (l : List Ch) (c : Ch) : waitCells (l ++ [c]) = waitCells l ++ [ptrOf c.made, encStr c.frm, encStr c.to] := by simp [waitCells]

/-- The struct's cells. -/
def fsCells (S : St) (mn ms : Nat) (wv : Value) : List Value := [.int .i64 S.room, .map (some mn), .map (some ms), wv, .int .i64 S.fail, .int .i64 S.calls, .int .i64 S.reads]

/-- The disk at block p, what it holds in memory laid open; C: whose which block is. -/
structure DiskAt (C : Nat → Nat → Prop) (R : Nat → Prop) (w : World) (p : Nat) (S : St) (n : Nat) (mn ms : Nat) (wv : Value) : Prop where
  cells : Whole w p 58 (fsCells S mn ms wv)
  now : IsDir w mn S.now
  synced : IsDir w ms S.synced
  two : mn ≠ ms
  wait : w.ownsRow 0 64 3 wv S.wait.length (waitCells S.wait)
  file : ∀ b, b ∈ S.files → IsFile (C b) w b (S.file b)
  inp : C p p
  inn : C p mn
  ins : C p ms
  inw : ∀ g, wv.ownBlock = some g → C p g ∧ g ≠ p
  notp : p ∉ S.files
  apart : ∀ x y k, C x k → C y k → x = y
  low : ∀ x k, C x k → R k ∧ k < w.heap.size
  ok : S.Ok n
/-- The disk at block p: all its blocks are of R. -/
def Disk (R : Nat → Prop) (w : World) (p : Nat) (S : St) (n : Nat) : Prop := ∃ C mn ms wv, DiskAt C R w p S n mn ms wv

section
variable {C : Nat → Nat → Prop} {R R' : Nat → Prop} {w w' : World} {p : Nat} {S : St} {n n' : Nat} {mn ms : Nat} {wv : Value}
theorem DiskAt.mono (h : DiskAt C R w p S n mn ms wv) (hR : ∀ k, k < w.heap.size → R k → R' k) : DiskAt C R' w p S n mn ms wv :=
  { h with low := fun x k hk => ⟨hR k (h.low x k hk).2 (h.low x k hk).1, (h.low x k hk).2⟩ }
theorem St.Ok.more (h : S.Ok n) (hn : n ≤ n') : S.Ok n' :=
  { h with calls := ⟨h.calls.1, by have := h.calls.2; omega⟩, reads := ⟨h.reads.1, by have := h.reads.2; omega⟩, now := Nat.le_trans h.now hn, synced := Nat.le_trans h.synced hn, wait := Nat.le_trans h.wait hn }
theorem DiskAt.more (h : DiskAt C R w p S n mn ms wv) (hn : n ≤ n') : DiskAt C R w p S n' mn ms wv := { h with ok := h.ok.more hn }
theorem DiskAt.same (h : DiskAt C R w p S n mn ms wv) (hs : w.heap.size ≤ w'.heap.size) (e : ∀ x k, C x k → w'.heap[k]? = w.heap[k]?) : DiskAt C R w' p S n mn ms wv :=
  { h with
    cells := Whole.same h.cells (e p p h.inp)
    now := h.now.same (e p mn h.inn)
    synced := h.synced.same (e p ms h.ins)
    wait := row_same h.wait fun g hg => e p g (h.inw g hg).1
    file := fun b hb => (h.file b hb).same fun k _ hk => e b k hk
    low := fun x k hk => ⟨(h.low x k hk).1, Nat.lt_of_lt_of_le (h.low x k hk).2 hs⟩ }
theorem Disk.mono (h : Disk R w p S n) (hR : ∀ k, k < w.heap.size → R k → R' k) : Disk R' w p S n := by
  obtain ⟨C, mn, ms, wv, h⟩ := h; exact ⟨C, mn, ms, wv, h.mono hR⟩
theorem Disk.more (h : Disk R w p S n) (hn : n ≤ n') : Disk R w p S n' := by
  obtain ⟨C, mn, ms, wv, h⟩ := h; exact ⟨C, mn, ms, wv, h.more hn⟩
theorem Disk.later (h : Disk R w p S n) (hb : Below w.heap.size w w') : Disk R w' p S n := by
  obtain ⟨C, mn, ms, wv, h⟩ := h; exact ⟨C, mn, ms, wv, h.same hb.size fun x k hk => hb.block k (h.low x k hk).2⟩
theorem Disk.turned {T : Nat → Prop} (h : Disk R w p S n) (ht : Turn T w w') (hT : ∀ k, R k → ¬ T k) : Disk R w' p S n := by
  obtain ⟨C, mn, ms, wv, h⟩ := h; exact ⟨C, mn, ms, wv, h.same ht.size fun x k hk => ht.block k (h.low x k hk).2 (hT k (h.low x k hk).1)⟩
theorem Disk.lt (h : Disk R w p S n) : p < w.heap.size := by obtain ⟨C, mn, ms, wv, h⟩ := h; exact h.cells.lt
theorem Disk.in_ (h : Disk R w p S n) : R p := by obtain ⟨C, mn, ms, wv, h⟩ := h; exact (h.low p p h.inp).1
theorem Disk.ok (h : Disk R w p S n) : S.Ok n := by obtain ⟨C, mn, ms, wv, h⟩ := h; exact h.ok
theorem Disk.fit (h : Disk R w p S n) {b : Nat} (hb : b ∈ S.files) : (S.file b).Fit := by obtain ⟨C, mn, ms, wv, h⟩ := h; exact (h.file b hb).fit

/-- Only the struct's own cells have turned: the numbers of S. -/
theorem DiskAt.cells_turned {S' : St} {n' : Nat} (h : DiskAt C R w p S n mn ms wv) (hc : Whole w' p 58 (fsCells S' mn ms wv)) (hg : w.grownBy w' (some p))
    (e1 : S'.now = S.now) (e2 : S'.synced = S.synced) (e3 : S'.wait = S.wait) (e4 : S'.files = S.files) (e5 : S'.file = S.file) (hok : S'.Ok n') : DiskAt C R w' p S' n' mn ms wv := by
  have eb : ∀ k, k < w.heap.size → k ≠ p → w'.heap[k]? = w.heap[k]? := fun k hk hne => hg.block k hk fun e => hne (by injection e)
  have hpf : ∀ b k, b ∈ S.files → C b k → k ≠ p := fun b k hb hk e => by
    subst e
    exact h.notp (h.apart _ _ _ hk h.inp ▸ hb)
  refine ⟨hc, ?_, ?_, h.two, ?_, ?_, h.inp, h.inn, h.ins, h.inw, by rw [e4]; exact h.notp, h.apart, fun x k hk => ⟨(h.low x k hk).1, Nat.lt_of_lt_of_le (h.low x k hk).2 hg.size⟩, hok⟩
  · rw [e1]; exact h.now.same (eb mn h.now.lt (map_ne_whole h.now.owns h.cells))
  · rw [e2]; exact h.synced.same (eb ms h.synced.lt (map_ne_whole h.synced.owns h.cells))
  · rw [e3]; exact row_same h.wait fun g hg => eb g (World.ownsRow.lt h.wait g hg).2 (h.inw g hg).2
  · intro b hb
    rw [e4] at hb
    rw [e5]
    exact (h.file b hb).same fun k hk hck => eb k hk (hpf b k hb hck)
end

theorem encStr_data (s : ByteArray) : encStr s.data.toList = .string s := by
  show Value.string ⟨s.data.toList.toArray⟩ = .string s
  simp

/-! the numbers of the struct -/
section
variable {C : Nat → Nat → Prop} {R : Nat → Prop} {w : World} {p : Nat} {S : St} {n : Nat} {mn ms : Nat} {wv : Value}
theorem DiskAt.c0 (h : DiskAt C R w p S n mn ms wv) : w.cell? ⟨p, 0, none⟩ = some (.int .i64 S.room) := (h.cells.at_ 0).trans rfl
theorem DiskAt.c1 (h : DiskAt C R w p S n mn ms wv) : w.cell? ⟨p, 1, none⟩ = some (.map (some mn)) := (h.cells.at_ 1).trans rfl
theorem DiskAt.c2 (h : DiskAt C R w p S n mn ms wv) : w.cell? ⟨p, 2, none⟩ = some (.map (some ms)) := (h.cells.at_ 2).trans rfl
theorem DiskAt.c3 (h : DiskAt C R w p S n mn ms wv) : w.cell? ⟨p, 3, none⟩ = some wv := (h.cells.at_ 3).trans rfl
theorem DiskAt.c4 (h : DiskAt C R w p S n mn ms wv) : w.cell? ⟨p, 4, none⟩ = some (.int .i64 S.fail) := (h.cells.at_ 4).trans rfl
theorem DiskAt.c5 (h : DiskAt C R w p S n mn ms wv) : w.cell? ⟨p, 5, none⟩ = some (.int .i64 S.calls) := (h.cells.at_ 5).trans rfl
theorem DiskAt.c6 (h : DiskAt C R w p S n mn ms wv) : w.cell? ⟨p, 6, none⟩ = some (.int .i64 S.reads) := (h.cells.at_ 6).trans rfl
end

/-- What a call leaves and answers: a disk in the same blocks and in new ones; nothing else has turned. -/
def DiskOut (R : Nat → Prop) (w : World) (p : Nat) (S : St) (n : Nat) (v : Value) (e : Ending) (w' : World) : Prop :=
  e = .returned v ∧ Disk (fun k => R k ∨ w.heap.size ≤ k) w' p S n ∧ Turn R w w'

/-! begin -/
/-- What a changing call does first: it counts; does it fail? -/
def St.begin (S : St) : St := { S with calls := S.calls + 1, fail := if S.fail = -1 then -1 else S.fail - 1 }
def St.fails (S : St) : Prop := S.fail = 0
theorem St.Ok.begin {S : St} {n : Nat} (h : S.Ok n) : S.begin.Ok (n + 1) := by
  have h1 := h.more (Nat.le_succ n)
  refine { h1 with calls := ?_, fail := ?_ }
  · show -1 ≤ (if S.fail = -1 then (-1 : Int) else S.fail - 1) ∧ (if S.fail = -1 then (-1 : Int) else S.fail - 1) ≤ _
    have := h.fail
    split <;> omega
  · show 0 ≤ S.calls + 1 ∧ S.calls + 1 ≤ ((n + 1 : Nat) : Int)
    have := h.calls; omega

theorem begin_nil (w : World) : Calls Try.prog 31 #[.pointer none] w fun e w' => e = .returned (.int .i64 1) ∧ w = w' := by
  go_enter Try.func31, Try.ntmps31
  go_wp2
  go_ret
  exact ⟨rfl, rfl⟩

set_option maxRecDepth 100000 in
set_option maxHeartbeats 1000000 in
theorem begin_any {R : Nat → Prop} (w : World) (p : Nat) (S : St) (n : Nat) (h : Disk R w p S n) (hn : n ≤ 1000000000) :
    Calls Try.prog 31 #[.pointer (some ⟨p, 0, none⟩)] w (DiskOut R w p S.begin (n + 1) (.int .i64 (if S.fail = 0 then 3 else 0))) := by
  obtain ⟨C, mn, ms, wv, h⟩ := h
  have c4 := h.c4
  have c5 := h.c5
  have f4 := h.cells.free 4
  have f5 := h.cells.free 5
  have hfl := h.ok.fail
  have hca := h.ok.calls
  obtain ⟨hca1, hca2⟩ := hca
  obtain ⟨hfl1, hfl2⟩ := hfl
  have g0 : ∀ (v : Value), w.grownBy (w.setCell ⟨p, 5, none⟩ v) (some p) := fun v => ⟨rfl, rfl, rfl, by simp [World.setCell], fun x _ hx => heap_setCell_other w ⟨p, 5, none⟩ x _ fun e => hx (by rw [e])⟩
  have g1 : ∀ (v u : Value), w.grownBy ((w.setCell ⟨p, 5, none⟩ v).setCell ⟨p, 4, none⟩ u) (some p) := fun v u => (g0 v).trans ⟨rfl, rfl, rfl, by simp [World.setCell], fun x _ hx => heap_setCell_other _ ⟨p, 4, none⟩ x _ fun e => hx (by rw [e])⟩
  have fin : ∀ (w' : World), w.grownBy w' (some p) → Whole w' p 58 (fsCells S.begin mn ms wv) → ∀ v, DiskOut R w p S.begin (n + 1) v (.returned v) w' := fun w' hg hw v =>
    ⟨rfl, ⟨C, mn, ms, wv, (h.cells_turned hw hg rfl rfl rfl rfl rfl h.ok.begin).mono fun k _ hk => .inl hk⟩, Turn.of_grown hg (h.low p p h.inp).1⟩
  have FIN := Lib.hid fin
  have HC := Lib.hid h.cells
  have G0 := Lib.hid g0
  have G1 := Lib.hid g1
  by_cases hm : S.fail = -1
  · have hb : S.begin = { S with calls := S.calls + 1, fail := -1 } := by rw [St.begin, if_pos hm]
    have HM := Lib.hid hm
    have HB := Lib.hid hb
    have hif : (if S.fail = 0 then (3 : Int) else 0) = 0 := by rw [if_neg (by omega)]
    rw [hif]
    have heq : (S.fail == -1) = true := by rw [beq_iff_eq]; exact hm
    clear h fin g0 g1 hm hb hif
    go_enter Try.func31, Try.ntmps31
    go_wp2
    go_ret
    refine FIN.out _ (G0.out _) ?_ _
    rw [HB.out]
    have := HC.out.put 5 (.int .i64 (S.calls + 1))
    rw [fsCells, HM.out] at this
    exact this
  · have heq : (S.fail == -1) = false := by rw [beq_eq_false_iff_ne]; exact hm
    have hb : S.begin = { S with calls := S.calls + 1, fail := S.fail - 1 } := by rw [St.begin, if_neg hm]
    have HB := Lib.hid hb
    have hfl3 : 0 ≤ S.fail := by omega
    by_cases h0 : S.fail = 0
    · have H0 := Lib.hid h0
      have heq2 : (S.fail - 1 == -1) = true := by rw [beq_iff_eq]; omega
      rw [if_pos h0]
      clear h fin g0 g1 hm hb h0
      go_enter Try.func31, Try.ntmps31
      go_wp2
      go_ret
      refine FIN.out _ (G1.out _ _) ?_ _
      rw [HB.out]
      exact (HC.out.put 5 (.int .i64 (S.calls + 1))).put 4 _
    · have heq2 : (S.fail - 1 == -1) = false := by rw [beq_eq_false_iff_ne]; omega
      rw [if_neg h0]
      clear h fin g0 g1 hm hb h0
      go_enter Try.func31, Try.ntmps31
      go_wp2
      go_ret
      refine FIN.out _ (G1.out _ _) ?_ _
      rw [HB.out]
      exact (HC.out.put 5 (.int .i64 (S.calls + 1))).put 4 _
end Go.Proofs.Ytpbffjpghnijkaa.disk
