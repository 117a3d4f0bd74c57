/-
  JOINED: DkCrash DkCrashA DkRest DkOne DkBegun DkFrame DkReads DkSwitch DkRows DkAgain.
-/
import Derived.Test.YtpgclhpobijdeaaDoorMDkB
import Derived.Lib.SlBytesConst
import Derived.Laws.IdiomStrings
import Derived.Test.YtpgclhpobijdeaaDoorMBase
import Derived.ProofKit
import Derived.OpenShut
import Derived.ChangeOld
import Derived.Deep.DeepHandedRow
import Derived.Deep.Slices
import Derived.ChangeArms
/-
  CONTRACT of (*disk.FS).Crash: its first loop.
-/

namespace Go.Proofs.YtpgclhpobijdeaaDoor.disk
open Go.RowKit Go.Maps

/-- The directory that a crash leaves. -/
def St.leftDir (S : St) (m : Nat) : Dir := (S.wait.take m).foldl (fun d c => c.apply d) S.synced

theorem Replays.take : ∀ {l : List Ch} {d e : Dir}, Replays d l e → ∀ m, Replays d (l.take m) ((l.take m).foldl (fun d c => c.apply d) d)
  | [], _, _, _, m => by simp [Replays]
  | c :: r, d, e, h, 0 => by simp [Replays]
  | c :: r, d, e, h, m + 1 => by
    rw [List.take_succ_cons, List.foldl_cons]
    exact ⟨h.1, Replays.take h.2 m⟩
theorem Replays.ok_at : ∀ {l : List Ch} {d e : Dir}, Replays d l e → ∀ (m : Nat) (c : Ch), l[m]? = some c → c.Ok ((l.take m).foldl (fun d c => c.apply d) d)
  | [], _, _, _, m, c, h => by simp at h
  | c :: r, d, e, h, 0, c', hc => by
    have : c = c' := by simpa using hc
    subst this
    exact h.1
  | c :: r, d, e, h, m + 1, c', hc => by
    rw [List.take_succ_cons, List.foldl_cons]
    exact Replays.ok_at h.2 m c' (by simpa using hc)
theorem leftDir_succ (S : St) {m : Nat} {c : Ch} (h : S.wait[m]? = some c) : S.leftDir (m + 1) = c.apply (S.leftDir m) := by
  unfold St.leftDir
  rw [List.take_add_one, h, Option.toList_some, List.foldl_append]; rfl
theorem leftDir_length (S : St) : ∀ m, (S.leftDir m).length ≤ S.synced.length + m
  | 0 => by simp [St.leftDir]
  | m + 1 => by
    have ih := leftDir_length S m
    cases h : S.wait[m]? with
    | some c => rw [leftDir_succ S h]; have := c.apply_length (S.leftDir m); omega
    | none =>
      have : S.leftDir (m + 1) = S.leftDir m := by
        unfold St.leftDir
        rw [List.take_add_one, h, Option.toList_none, List.append_nil]
      rw [this]; omega
theorem leftDir_mem (S : St) {n : Nat} (h : S.Ok n) : ∀ m, ∀ p ∈ S.leftDir m, p.2 ∈ S.files
  | 0 => by simpa [St.leftDir] using h.isynced
  | m + 1 => by
    have ih := leftDir_mem S h m
    cases hc : S.wait[m]? with
    | some c => rw [leftDir_succ S hc]; exact Ch.apply_mem (h.iwait c (List.mem_of_getElem? hc)) ih
    | none =>
      have : S.leftDir (m + 1) = S.leftDir m := by
        unfold St.leftDir
        rw [List.take_add_one, hc, Option.toList_none, List.append_nil]
      rw [this]; exact ih

theorem waitCells_at : ∀ (l : List Ch) (i : Nat) (c : Ch), l[i]? = some c → ((waitCells l).drop (i * 3)).take 3 = [ptrOf c.made, encStr c.frm, encStr c.to]
  | [], i, c, h => by simp at h
  | x :: r, 0, c, h => by
    have : x = c := by simpa using h
    subst this
    simp [waitCells]
  | x :: r, i + 1, c, h => by
    have ih := waitCells_at r i c (by simpa using h)
    have e : waitCells (x :: r) = [ptrOf x.made, encStr x.frm, encStr x.to] ++ waitCells r := rfl
    rw [e, show (i + 1) * 3 = 3 + i * 3 by omega, ← List.drop_drop]
    exact ih

theorem ch_elem : Tryd.prog.elem 55 = 80 := by kernel_rfl
theorem ch_sizeOf (w : World) : (sizeOf 80).run Tryd.prog w = .ok 3 w := by kernel_rfl
theorem run_front (g n cap hi : Nat) (hh : hi ≤ cap) (w : World) : (Instr.slice 55 (.slice (some ⟨g, 0, none⟩) n cap) none (some (.int .i64 (hi : Int))) none).run Tryd.prog w = .ok (.slice (some ⟨g, 0, none⟩) hi cap) w := by
  rw [run_slice_h w 55 _ n cap (by rw [ch_elem]; exact Tryd.underlying55) .i64 (hi : Int) (by omega) (by omega), ch_elem, ch_sizeOf]
  by_cases h : cap = 0 <;> simp [Result.andThen, sliced, h, Addr.add_mid]
theorem run_front_nil (w : World) : (Instr.slice 55 (.slice none 0 0) none (some (.int .i64 0)) none).run Tryd.prog w = .ok (.slice none 0 0) w := by
  rw [run_slice_h w 55 _ 0 0 (by rw [ch_elem]; exact Tryd.underlying55) .i64 0 (by omega) (by omega), ch_elem, ch_sizeOf]
  simp [Result.andThen, sliced]

/-- The row's address, or none where nothing waits. -/
theorem wait_form {w : World} {wv : Value} {l : List Ch} (h : w.ownsRow 0 80 3 wv l.length (waitCells l)) (hi : Nat) (hh : hi ≤ l.length) :
    ∃ aw cw, wv = .slice aw l.length cw ∧ l.length ≤ cw ∧ cw ≤ 9223372036854775807 ∧ (∀ w, (Instr.slice 55 (.slice aw l.length cw) none (some (.int .i64 (hi : Int))) none).run Tryd.prog w = .ok (.slice aw hi cw) w) ∧
      (hi = 0 ∨ ∃ g, aw = some ⟨g, 0, none⟩ ∧ g < w.heap.size ∧ ∀ i c, l[i]? = some c → w.rangeAt g (i * 3) [ptrOf c.made, encStr c.frm, encStr c.to]) := by
  rcases h.2 with ⟨rfl, h0⟩ | ⟨g, cap, cur, rfl, _, hg, h1, h2, h3, h4⟩
  · have hl0 : l.length = 0 := h0
    have h00 : hi = 0 := by omega
    subst h00
    exact ⟨none, 0, by rw [hl0], by omega, by omega, fun w => by rw [hl0]; exact run_front_nil w, .inl rfl⟩
  · unfold maxLen at h2
    refine ⟨_, cap, rfl, h1, by omega, fun w => run_front g l.length cap hi (by omega) w, .inr ⟨g, rfl, (Array.getElem?_eq_some_iff.1 hg).1, fun i c hc => ?_⟩⟩
    intro j v hv
    have hi' : i < l.length := (List.getElem?_eq_some_iff.1 hc).1
    have hj : j < 3 := (List.getElem?_eq_some_iff.1 hv).1
    rw [cell_of_row w g (i * 3 + j) cur _ (0, 0) hg]
    rw [← waitCells_at l i c hc, List.getElem?_take_of_lt hj, List.getElem?_drop, ← h4, List.getElem?_take_of_lt (by omega)] at hv
    rw [← hv]
    simp

/-! what a crash leaves of the files -/
def crashL (file : Nat → FileA) (keep : List Bool) (torn : Int) : Nat → Dir → List (Nm × List Int)
  | _, [] => []
  | k, (nm, b) :: r => (nm, leaveL (file b) keep torn k (file b).dirty (file b).old) :: crashL file keep torn (k + (file b).dirty.length) r
def dirtySum (file : Nat → FileA) (d : Dir) : Nat := sumOf (fun b => (file b).dirty.length) d
theorem crashL_snoc (file : Nat → FileA) (keep : List Bool) (torn : Int) (nm : Nm) (b : Nat) : ∀ (d : Dir) (k : Nat), crashL file keep torn k (d ++ [(nm, b)]) = crashL file keep torn k d ++ [(nm, leaveL (file b) keep torn (k + dirtySum file d) (file b).dirty (file b).old)]
  | [], k => by simp [crashL, dirtySum, sumOf]
  | (m, c) :: r, k => by
    have e : dirtySum file ((m, c) :: r) = (file c).dirty.length + dirtySum file r := rfl
    rw [List.cons_append, crashL, crashL, crashL_snoc file keep torn nm b r, e, List.cons_append, Nat.add_assoc]
theorem crashL_names (file : Nat → FileA) (keep : List Bool) (torn : Int) : ∀ (d : Dir) (k : Nat), (crashL file keep torn k d).map (·.1) = d.map (·.1)
  | [], _ => rfl
  | (m, c) :: r, k => by rw [crashL, List.map_cons, List.map_cons, crashL_names file keep torn r]
theorem dirtySum_snoc (file : Nat → FileA) (d : Dir) (nm : Nm) (b : Nat) : dirtySum file (d ++ [(nm, b)]) = dirtySum file d + (file b).dirty.length := by
  simp [dirtySum, sumOf]
theorem dput_last (nm : Nm) (b : Nat) : ∀ d : Dir, (∀ q ∈ d, bytesBefore q.1 nm = true) → dput nm b d = d ++ [(nm, b)] := by
  intro d hd
  have hne : ddel nm d = d := by
    unfold ddel
    rw [List.filter_eq_self]
    intro q hq
    have : ¬ q.1 = nm := fun e => by have := hd q hq; rw [e, WideAt.bytes_irrefl] at this; cases this
    simpa using this
  rw [dput, hne]
  clear hne
  induction d with
  | nil => rfl
  | cons y r ih =>
    have hy := hd y (by simp)
    have hn : ¬ bytesBefore nm y.1 = true := fun e => by
      have := WideShapes.bytes_trans _ _ _ hy e
      rw [WideAt.bytes_irrefl] at this; cases this
    unfold dins
    rw [if_neg hn, ih fun q hq => hd q (by simp [hq])]
    rfl

/-- A disk being built by a crash: all but its synced directory. -/
structure Building (C : Nat → Nat → Prop) (W0 : Nat) (w : World) (p : Nat) (S : St) (mn ms : Nat) (wv : Value) : Prop where
  cells : Whole w p 57 (fsCells S mn ms wv)
  now : IsDir w mn S.now
  wait : w.ownsRow 0 80 3 wv 0 []
  file : ∀ b, b ∈ S.files → IsFile (C b) w b (S.file b)
  inp : C p p
  inn : C p mn
  inw : ∀ g, wv.ownBlock = some g → C p g ∧ g ≠ p
  notp : p ∉ S.files
  apart : ∀ x y k, C x k → C y k → x = y
  low : ∀ x k, C x k → W0 ≤ k ∧ k < w.heap.size
  inow : ∀ q ∈ S.now, q.2 ∈ S.files

theorem Building.same {C : Nat → Nat → Prop} {W0 : Nat} {w w' : World} {p : Nat} {S : St} {mn ms : Nat} {wv : Value} (h : Building C W0 w p S mn ms wv) (hs : w.heap.size ≤ w'.heap.size) (e : ∀ x k, C x k → w'.heap[k]? = w.heap[k]?) : Building C W0 w' p S mn ms wv :=
  { h with
    cells := Whole.same h.cells (e p p h.inp)
    now := h.now.same (e p mn h.inn)
    wait := row_same h.wait fun g hg => e p g (h.inw g hg).1
    file := fun b hb => (h.file b hb).same fun k _ hk => e b k hk
    low := fun x k hk => ⟨(h.low x k hk).1, Nat.lt_of_lt_of_le (h.low x k hk).2 hs⟩ }

/-- A file more: its blocks are new. -/
theorem Building.more {C : Nat → Nat → Prop} {W0 : Nat} {w w' : World} {p : Nat} {S : St} {mn ms : Nat} {wv : Value} (h : Building C W0 w p S mn ms wv) {F : Nat → Prop} {b : Nat} {A : FileA} {nm : Nm} (hf : IsFile F w' b A) (hF : ∀ x k, C x k → ¬ F k) (hF0 : ∀ k, F k → W0 ≤ k)
    (hg : w.grownBy w' (some mn)) (hd : IsDir w' mn (dput nm b S.now)) (hmp : mn ≠ p) (hmf : ∀ y k, y ∈ S.files → C y k → k ≠ mn) (hwm : ∀ g, wv.ownBlock = some g → g ≠ mn) :
    Building (fun x k => C x k ∨ (x = b ∧ F k ∧ k < w'.heap.size)) W0 w' p { S with now := dput nm b S.now, files := b :: S.files, file := fun x => if x = b then A else S.file x } mn ms wv ∧ b ∉ S.files := by
  have hnb : b ∉ S.files := fun e => hF b b ((h.file b e).in_) hf.in_
  have hpb : b ≠ p := fun e => hF p p h.inp (e ▸ hf.in_)
  have eb : ∀ k, k < w.heap.size → k ≠ mn → w'.heap[k]? = w.heap[k]? := fun k hk hne => hg.block k hk fun e => hne (by injection e)
  refine ⟨⟨Whole.same h.cells (eb p h.cells.lt fun e => hmp e.symm), hd, row_same h.wait fun g hgg => eb g (World.ownsRow.lt h.wait g hgg).2 (hwm g hgg), ?_, .inl h.inp, .inl h.inn, fun g hgg => ⟨.inl (h.inw g hgg).1, (h.inw g hgg).2⟩, ?_, ?_, ?_, ?_⟩, hnb⟩
  · intro y hy
    show IsFile _ w' y (if y = b then A else S.file y)
    by_cases e : y = b
    · rw [if_pos e]
      subst e
      exact hf.mono fun k hk hfk => .inr ⟨rfl, hfk, hk⟩
    · rw [if_neg e]
      have hy' : y ∈ S.files := by
        rcases List.mem_cons.1 hy with h1 | h1
        · exact absurd h1 e
        · exact h1
      exact ((h.file y hy').same fun k hk hck => eb k hk (hmf y k hy' hck)).mono fun k _ hk => .inl hk
  · intro e
    rcases List.mem_cons.1 e with e | e
    · exact hpb e.symm
    · exact h.notp e
  · rintro x y k (hx | ⟨rfl, hx, _⟩) (hy | ⟨rfl, hy, _⟩)
    · exact h.apart _ _ _ hx hy
    · exact (hF _ _ hx hy).elim
    · exact (hF _ _ hy hx).elim
    · rfl
  · rintro x k (hx | ⟨_, hx, hk⟩)
    · exact ⟨(h.low x k hx).1, Nat.lt_of_lt_of_le (h.low x k hx).2 hg.size⟩
    · exact ⟨hF0 k hx, hk⟩
  · intro q hq
    rcases mem_dput hq with rfl | hq
    · exact List.mem_cons_self
    · exact List.mem_cons_of_mem _ (h.inow q hq)

/-- What the built disk holds: of the files of d, in order, what the crash left. -/
def Built (S' : St) (file : Nat → FileA) (keep : List Bool) (torn : Int) (d : Dir) : Prop :=
  S'.now.map (fun q => (q.1, S'.file q.2)) = (crashL file keep torn 0 d).map fun q => (q.1, ⟨q.2, q.2, []⟩)
theorem Built.names {S' : St} {file : Nat → FileA} {keep : List Bool} {torn : Int} {d : Dir} (h : Built S' file keep torn d) : S'.now.map (·.1) = d.map (·.1) := by
  have e := congrArg (List.map fun q : Nm × FileA => q.1) h
  rw [List.map_map, List.map_map] at e
  rw [← crashL_names file keep torn d 0]
  exact e
theorem Built.snoc {S' : St} {file : Nat → FileA} {keep : List Bool} {torn : Int} {d : Dir} (h : Built S' file keep torn d) (hin : ∀ q ∈ S'.now, q.2 ∈ S'.files) {nm : Nm} {b b' : Nat} (hb : b' ∉ S'.files) (hlast : ∀ q ∈ S'.now, bytesBefore q.1 nm = true) :
    Built { S' with now := dput nm b' S'.now, files := b' :: S'.files, file := fun x => if x = b' then ⟨leaveL (file b) keep torn (dirtySum file d) (file b).dirty (file b).old, leaveL (file b) keep torn (dirtySum file d) (file b).dirty (file b).old, []⟩ else S'.file x } file keep torn (d ++ [(nm, b)]) := by
  unfold Built at h ⊢
  rw [dput_last nm b' S'.now hlast, crashL_snoc, List.map_append, List.map_append, ← h, Nat.zero_add]
  congr 1
  · apply List.map_congr_left
    intro q hq
    have : ¬ q.2 = b' := fun e => hb (e ▸ hin q hq)
    simp only [if_neg this]
  · simp

theorem dlook_of_mem {nm : Nm} {b : Nat} : ∀ {d : Dir}, d.Pairwise (fun p q => p.1 ≠ q.1) → (nm, b) ∈ d → dlook nm d = some b
  | [], _, h => by cases h
  | y :: r, hp, h => by
    obtain ⟨h1, h2⟩ := List.pairwise_cons.1 hp
    unfold dlook
    rcases List.mem_cons.1 h with rfl | h
    · simp
    · have hy : ¬ y.1 = nm := h1 (nm, b) h
      have := dlook_of_mem h2 h
      unfold dlook at this
      simp [hy, this]
theorem IsDir.names_le {w : World} {m : Nat} {d : Dir} (h : IsDir w m d) {q : Nm × Nat} (hq : q ∈ d) : q.1.length ≤ maxLen := by
  refine strKeys_le h.owns Tryd.underlying9 q.1 ?_
  rw [dirD_keys]
  exact List.mem_map.2 ⟨q, hq, rfl⟩
theorem dirtySum_le {S : St} (d : Dir) (h : ∀ q ∈ d, (S.file q.2).Fit) : dirtySum S.file d ≤ d.length * 65536 := sumOf_le _ _ d fun q hq => (h q hq).few
end Go.Proofs.YtpgclhpobijdeaaDoor.disk
/-
  CONTRACT of (*disk.FS).Crash.
-/

namespace Go.Proofs.YtpgclhpobijdeaaDoor.disk
open Go.RowKit Go.Maps

/-- The names in memory. -/
theorem names_row {w : World} {base : Nat} {v : Value} {d : Dir} (h : w.ownsRow base 9 1 v d.length (d.map fun p => encStr p.1)) :
    ∃ a cap, v = .slice a d.length cap ∧ d.length ≤ cap ∧ cap ≤ 9223372036854775807 ∧ ((a = none ∧ d = []) ∨ ∃ g, a = some ⟨g, 0, none⟩ ∧ v.ownBlock = some g ∧ g < w.heap.size ∧ base ≤ g ∧ ∀ i q, d[i]? = some q → w.cell? ⟨g, i, none⟩ = some (encStr q.1)) := by
  have hlt := World.ownsRow.lt h
  have hc := fun g hg => World.ownsRow.cells h (g := g) hg
  rcases h.2 with ⟨rfl, h0⟩ | ⟨g, cap, cur, rfl, hb, _, h1, h2, _, _⟩
  · have : d = [] := List.eq_nil_of_length_eq_zero h0
    exact ⟨none, 0, by rw [h0], by omega, by omega, .inl ⟨rfl, this⟩⟩
  · unfold maxLen at h2
    refine ⟨_, cap, rfl, h1, by omega, .inr ⟨g, rfl, rfl, (hlt g rfl).2, hb, fun i q hq => ?_⟩⟩
    have := hc g rfl i (encStr q.1) (by rw [List.getElem?_map, hq]; rfl)
    rwa [Addr.add_mid, Nat.zero_add] at this

theorem apply_bs (w : World) (m : Nat) (d : Dir) (h : IsDir w m d) (c : Ch) (hok : c.Ok d) (hto : c.made ≠ none → c.to ≠ []) (hsf : c.frm.length ≤ maxLen) (hst : c.to.length ≤ maxLen) (hn : d.length ≤ 1000000000) :
    Calls Tryd.prog 56 #[.agg #[.pointer (adOf c.made), .string ⟨c.frm.toArray⟩, .string ⟨c.to.toArray⟩], .map (some m)] w (ApplyOut w m (c.apply d)) := by
  have h1 := apply_any w m d h c hok hto ⟨c.frm.toArray⟩ ⟨c.to.toArray⟩ rfl rfl (by simpa [ByteArray.size] using hsf) (by simpa [ByteArray.size] using hst) hn
  rw [chCells, ptrOf_ad] at h1
  exact h1

theorem Below.of_grown' {B : Nat} {w w' : World} {row : Option Nat} (hg : w.grownBy w' row) (hB : B ≤ w.heap.size) (hr : ∀ k, row = some k → B ≤ k) : Below B w w' := (Below.refl B w).grown hg hB hr

/-- The built disk is whole once its synced directory is laid. -/
theorem Building.done {C : Nat → Nat → Prop} {W0 : Nat} {wr w5 w6 : World} {p mn ms mx N : Nat} {S : St} {wv : Value} (h : Building C W0 wr p S mn ms wv) (b5 : Below wr.heap.size wr w5) (d5 : IsDir w5 mx S.now) (hx : wr.heap.size ≤ mx) (hmp : mn ≠ p) (hw : S.wait = [])
    (g6 : w5.grownBy w6 (some p)) (hc : Whole w6 p 57 (fsCells S mn mx wv)) (hroom : 0 ≤ S.room ∧ S.room ≤ 4194304) (hf : S.fail = -1) (hca : S.calls = 0) (hr : S.reads = 0) (hN : S.now.length ≤ N) :
    Disk (fun k => W0 ≤ k) w6 p { S with synced := S.now } N := by
  have h5 := h.same b5.size fun x k hk => b5.block k (h.low x k hk).2
  have eb : ∀ k, k < w5.heap.size → k ≠ p → w6.heap[k]? = w5.heap[k]? := fun k hk hne => g6.block k hk fun e => hne (by injection e)
  have hW0 : W0 ≤ wr.heap.size := Nat.le_of_lt (Nat.lt_of_le_of_lt (h.low p p h.inp).1 (h.low p p h.inp).2)
  have hnew : ∀ x k, C x k → k ≠ mx := fun x k hk e => by have := (h.low x k hk).2; omega
  have hlen : ∀ q ∈ S.now, q.1.length ≤ maxLen := fun q hq => h.now.names_le hq
  have hwait : w6.ownsRow 0 80 3 wv S.wait.length (waitCells S.wait) := by
    rw [hw]
    exact row_same h5.wait fun g hg => eb g (World.ownsRow.lt h5.wait g hg).2 (h5.inw g hg).2
  refine ⟨fun x k => C x k ∨ (x = p ∧ k = mx), mn, mx, wv, ⟨hc, h5.now.same (eb mn h5.now.lt hmp), d5.same (eb mx d5.lt fun e => hnew p p h.inp e.symm), hnew p mn h.inn, hwait, ?_, .inl h.inp, .inl h.inn, .inr ⟨rfl, rfl⟩, fun g hg => ⟨.inl (h.inw g hg).1, (h.inw g hg).2⟩, h.notp, ?_, ?_, ?_⟩⟩
  · intro b hb
    exact ((h5.file b hb).same fun k hk hck => eb k hk fun e => by
      subst e
      exact h.notp (h.apart _ _ _ hck h.inp ▸ hb)).mono fun k _ hk => .inl hk
  · rintro x y k (hx | ⟨rfl, rfl⟩) (hy | ⟨rfl, hy⟩)
    · exact h.apart _ _ _ hx hy
    · exact (hnew _ _ hx hy).elim
    · exact (hnew _ _ hy rfl).elim
    · rfl
  · rintro x k (hx | ⟨_, rfl⟩)
    · exact ⟨(h.low x k hx).1, Nat.lt_of_lt_of_le (h5.low x k hx).2 g6.size⟩
    · exact ⟨Nat.le_trans hW0 hx, Nat.lt_of_lt_of_le d5.lt g6.size⟩
  · refine ⟨hroom, ⟨by show (-1 : Int) ≤ S.fail; omega, by show S.fail ≤ _; omega⟩, ⟨by show 0 ≤ S.calls; omega, by show S.calls ≤ _; omega⟩, ⟨by show 0 ≤ S.reads; omega, by show S.reads ≤ _; omega⟩, hN, hN, ?_, h.inow, h.inow, ?_, ?_, hlen⟩
    · show S.wait.length ≤ N
      rw [hw]; exact Nat.zero_le _
    · intro c hc'
      have : c ∈ S.wait := hc'
      rw [hw] at this; cases this
    · show Replays S.now S.wait S.now
      rw [hw]; rfl

/-- What 'Crash' answers with: a new disk, of what is left. -/
def CrashOut (w : World) (S : St) (n : Nat) (m : Int) (keep : List Bool) (torn : Int) (e : Ending) (w' : World) : Prop :=
  ∃ p' S', e = .returned (.pointer (some ⟨p', 0, none⟩)) ∧ Disk (fun k => w.heap.size ≤ k) w' p' S' (2 * n) ∧ Below w.heap.size w w' ∧
    (S'.room = S.room ∧ S'.fail = -1 ∧ S'.calls = 0 ∧ S'.reads = 0 ∧ S'.wait = [] ∧ S'.synced = S'.now) ∧ Built S' S.file keep torn (S.leftDir (min m.toNat S.wait.length))

/-- The first loop under way: m changes are made. -/
structure Replaying (w : World) (S : St) (ml m : Nat) (wr : World) : Prop where
  dir : IsDir wr ml (S.leftDir m)
  below : Below w.heap.size w wr

end Go.Proofs.YtpgclhpobijdeaaDoor.disk
/-
  CONTRACTS of (*disk.FS)'s SyncDir, Rename, Fail, Names, and of the calls of no disk.
-/


namespace Go.Proofs.YtpgclhpobijdeaaDoor.disk
open Go.RowKit Go.Maps

/-! no disk -/
theorem syncdir_nil (w : World) : Calls Tryd.prog 59 #[.pointer none] w fun e w' => e = .returned (.int .i64 1) ∧ w = w' := by
  go_enter Tryd.func59, Tryd.ntmps59
  go_wp2_with fail
  refine (begin_nil w).mono ?_
  rintro e w1 ⟨rfl, rfl⟩
  go_wp2
  go_ret
  exact ⟨rfl, rfl⟩
theorem rename_nil (w : World) (s t : ByteArray) : Calls Tryd.prog 58 #[.pointer none, .string s, .string t] w fun e w' => e = .returned (.int .i64 1) ∧ w = w' := by
  go_enter Tryd.func58, Tryd.ntmps58
  go_wp2_with fail
  refine (begin_nil w).mono ?_
  rintro e w1 ⟨rfl, rfl⟩
  go_wp2
  go_ret
  exact ⟨rfl, rfl⟩
/-! Fail -/
/-- The call that is to fail. -/
def St.failing (S : St) (n : Int) : St := { S with fail := max n (-1) }
theorem run_maxm (w : World) (a : Int) : (Builtin.max_ #[3, 3] 3 #[.int .i64 a, .int .i64 (-1)]).run Tryd.prog w = .ok (.int .i64 (max a (-1))) w := by
  have e : max a (-1) = if a < -1 then (-1 : Int) else a := by split <;> omega
  rw [e]
  by_cases h : a < -1 <;> simp [Builtin.max_, Builtin.max2, h]
/-! SyncDir -/
def St.dirSynced (S : St) : St := { S with synced := S.now, wait := [] }
/-- What 'SyncDir' answers and makes. -/
def St.syncDir (S : St) : Int × St := if S.fail = 0 then (3, S.begin) else (0, S.begin.dirSynced)

theorem DiskAt.dir_synced {C : Nat → Nat → Prop} {R : Nat → Prop} {w w5 w6 : World} {p : Nat} {S : St} {n : Nat} {mn ms : Nat} {wv : Value} (h : DiskAt C R w p S n mn ms wv) (b5 : Below w.heap.size w w5) (d5 : IsDir w5 w.heap.size S.now)
    (g6 : w5.grownBy w6 (some p)) (hc : Whole w6 p 57 (fsCells S.dirSynced mn w.heap.size (.slice none 0 0))) : Disk (fun k => R k ∨ w.heap.size ≤ k) w6 p S.dirSynced n ∧ Turn R w w6 := by
  have h5 := h.same b5.size fun x k hk => b5.block k (h.low x k hk).2
  have eb : ∀ k, k < w5.heap.size → k ≠ p → w6.heap[k]? = w5.heap[k]? := fun k hk hne => g6.block k hk fun e => hne (by injection e)
  have hmp : mn ≠ p := map_ne_whole h.now.owns h.cells
  have hpl := h.cells.lt
  have hok := h.ok
  refine ⟨⟨fun x k => C x k ∨ (x = p ∧ k = w.heap.size), mn, w.heap.size, .slice none 0 0, ⟨hc, h5.now.same (eb mn h5.now.lt hmp), d5.same (eb w.heap.size d5.lt (by omega)), (by have := h.now.lt; omega), World.ownsRow_nil _ _ _ _, ?_, .inl h.inp, .inl h.inn, .inr ⟨rfl, rfl⟩, (fun g hg => by cases hg), h.notp, ?_, ?_, ?_⟩⟩, ?_⟩
  · intro b hb
    exact ((h5.file b hb).same fun k hk hck => eb k hk fun e => by
      subst e
      exact h.notp (h.apart _ _ _ hck h.inp ▸ hb)).mono fun k _ hk => .inl hk
  · rintro x y k (hx | ⟨rfl, rfl⟩) (hy | ⟨rfl, hy⟩)
    · exact h.apart _ _ _ hx hy
    · have := (h.low x k hx).2; omega
    · have := (h.low y _ hy).2; omega
    · rfl
  · rintro x k (hx | ⟨_, rfl⟩)
    · exact ⟨.inl (h.low x k hx).1, Nat.lt_of_lt_of_le (h5.low x k hx).2 g6.size⟩
    · exact ⟨.inr (Nat.le_refl _), Nat.lt_of_lt_of_le d5.lt g6.size⟩
  · exact { hok with synced := hok.now, wait := Nat.zero_le _, isynced := hok.inow, iwait := (fun c hc => by cases hc), replays := rfl }
  · exact (Turn.of_below b5).trans (Turn.of_grown (R := fun k => k = p) g6 rfl) fun k _ e => by
      have e' : k = p := e
      subst e'
      exact (h.low _ _ h.inp).1

set_option maxRecDepth 100000 in
set_option maxHeartbeats 1000000 in
theorem syncdir_any {R : Nat → Prop} (w : World) (p : Nat) (S : St) (n : Nat) (h : Disk R w p S n) (hn : n ≤ 100000000) :
    Calls Tryd.prog 59 #[.pointer (some ⟨p, 0, none⟩)] w (CallOut R w p S.syncDir (n + 1)) := by
  have cB := Lib.hid (begin_any w p S n h (by omega))
  by_cases h0 : S.fail = 0
  · have hv : S.syncDir = (3, S.begin) := by rw [St.syncDir, if_pos h0]
    have HV := Lib.hid hv
    rw [if_pos h0] at cB
    clear hv h h0
    go_enter Tryd.func59, Tryd.ntmps59
    go_wp2_with fail
    refine cB.out.mono ?_
    rintro e w1 ⟨rfl, d1, t1⟩
    have D1 := Lib.hid d1
    have T1 := Lib.hid t1
    clear d1 t1
    go_wp2
    go_ret
    rw [HV.out]
    exact ⟨rfl, D1.out, T1.out⟩
  · have hv : S.syncDir = (0, S.begin.dirSynced) := by rw [St.syncDir, if_neg h0]
    have HV := Lib.hid hv
    rw [if_neg h0] at cB
    clear hv h h0
    go_enter Tryd.func59, Tryd.ntmps59
    go_wp2_with fail
    refine cB.out.mono ?_
    rintro e w1 ⟨rfl, d1, t1⟩
    have T1 := Lib.hid t1
    obtain ⟨C, mn, ms, wv, d1⟩ := d1
    have hc1 := d1.c1
    have D1 := Lib.hid d1
    have hpl := d1.cells.lt
    have cN := Lib.hid (clone_dir w1 mn S.begin.now d1.now)
    clear d1 t1
    go_wp2_with fail
    refine cN.out.mono ?_
    rintro e w5 ⟨rfl, d5, b5⟩
    have hc5 := D1.out.cells.kept b5
    have f25 := hc5.free 2
    have c25 : w5.cell? ⟨p, 2, none⟩ = some (.map (some ms)) := (hc5.at_ 2).trans rfl
    have hc6 := hc5.put 2 (.map (some w1.heap.size))
    have f36 := hc6.free 3
    have c36 : (w5.setCell ⟨p, 2, none⟩ (.map (some w1.heap.size))).cell? ⟨p, 3, none⟩ = some wv := (hc6.at_ 3).trans rfl
    have FIN := Lib.hid (D1.out.dir_synced b5 d5 (w6 := (w5.setCell ⟨p, 2, none⟩ (.map (some w1.heap.size))).setCell ⟨p, 3, none⟩ (.slice none 0 0))
      (World.grownBy.trans (b := w5.setCell ⟨p, 2, none⟩ (.map (some w1.heap.size))) ⟨rfl, rfl, rfl, by simp [World.setCell], fun x _ hx => heap_setCell_other w5 ⟨p, 2, none⟩ x _ fun e => hx (by rw [e])⟩ ⟨rfl, rfl, rfl, by simp [World.setCell], fun x _ hx => heap_setCell_other _ ⟨p, 3, none⟩ x _ fun e => hx (by rw [e])⟩) (hc6.put 3 _))
    clear d5 b5 hc5 hc6 hc1
    go_wp2
    go_ret
    rw [HV.out]
    obtain ⟨d6, t6⟩ := FIN.out
    obtain ⟨d7, t7⟩ := turn_step T1.out d6 t6
    exact ⟨rfl, d7, t7⟩

/-! Rename -/
set_option maxRecDepth 100000 in
set_option maxHeartbeats 1000000 in
/-- A name that is, to one that may be. -/
theorem rename_any {R : Nat → Prop} (w : World) (p : Nat) (S : St) (n : Nat) (h : Disk R w p S n) (hn : n ≤ 100000000) (s t : ByteArray) (hs : s.size ≤ maxLen) (ht : t.size ≤ maxLen) (h0 : S.fail ≠ 0) (b : Nat) (hb : dlook s.data.toList S.now = some b) (hg : isNameB t.data.toList = true) :
    Calls Tryd.prog 58 #[.pointer (some ⟨p, 0, none⟩), .string s, .string t] w (CallOut R w p (0, S.begin.changed ⟨none, s.data.toList, t.data.toList⟩) (n + 2)) := by
  have cB := Lib.hid (begin_any w p S n h (by omega))
  rw [if_neg h0] at cB
  have cN := Lib.hid (fun w1 => isName_any w1 t ht)
  rw [hg] at cN
  have HS := Lib.hid hs
  have HT := Lib.hid ht
  have HB := Lib.hid hb
  clear h h0 hb hg hs ht
  go_enter Tryd.func58, Tryd.ntmps58
  go_wp2_with fail
  refine cB.out.mono ?_
  rintro e w1 ⟨rfl, d1, t1⟩
  have D1 := Lib.hid d1
  have T1 := Lib.hid t1
  obtain ⟨C, mn, ms, wv, d1⟩ := d1
  have hlk := d1.now.look s HS.out
  have hc1 := d1.c1
  rw [show dlook s.data.toList S.begin.now = some b from HB.out, ptrOf] at hlk
  clear d1 t1
  go_wp2_with fail
  refine (cN.out w1).mono ?_
  rintro e w2 ⟨rfl, rfl⟩
  have hfine : Ch.Fine ⟨none, s.data.toList, t.data.toList⟩ S.begin.files := ⟨fun x hx => (by cases hx), fun e => absurd rfl e, (by have := HS.out; simpa using this), (by have := HT.out; simpa using this)⟩
  have cC := Lib.hid (change_any w1 p _ (n + 1) D1.out ⟨none, s.data.toList, t.data.toList⟩ hfine (fun _ => by rw [show S.begin.now = S.now from rfl, HB.out]; simp) s t rfl rfl (by omega))
  clear hfine hlk hc1
  go_wp2_with fail
  refine cC.out.mono ?_
  rintro e w3 ⟨rfl, d3, t3⟩
  obtain ⟨d4, t4⟩ := turn_step T1.out d3 t3
  have D4 := Lib.hid d4
  have T4 := Lib.hid t4
  clear d3 t3 d4 t4
  go_wp2_with fail
  go_ret
  exact ⟨rfl, D4.out, T4.out⟩
end Go.Proofs.YtpgclhpobijdeaaDoor.disk
/-
  A DISK OF ONE FILE: what the calls make of it, plainly; how a law holds a disk.
-/


namespace Go.Proofs.YtpgclhpobijdeaaDoor.disk
open Go.RowKit Go.Maps

/-- A disk of one file of that name, at block b. -/
def One (room : Int) (nm : Nm) (b : Nat) (A : FileA) (synced : Dir) (wait : List Ch) (fail calls reads : Int) : St :=
  ⟨room, [(nm, b)], synced, wait, fail, calls, reads, [b], fun x => if x = b then A else ⟨[], [], []⟩⟩
/-- How many calls until the one that fails, a call later. -/
def less (f : Int) : Int := if f = -1 then -1 else f - 1

section
variable {room : Int} {nm : Nm} {b : Nat} {A : FileA} {sy : Dir} {wa : List Ch} {f c r : Int}
theorem One.fail : (One room nm b A sy wa f c r).fail = f := rfl
theorem One.look : dlook nm (One room nm b A sy wa f c r).now = some b := by simp [One, dlook]
theorem One.file : (One room nm b A sy wa f c r).file b = A := by simp [One]
theorem One.begin : (One room nm b A sy wa f c r).begin = One room nm b A sy wa (less f) (c + 1) r := rfl
theorem One.set (A' : FileA) : (One room nm b A sy wa f c r).set b A' = One room nm b A' sy wa f c r := by
  unfold One St.set
  congr 1
  funext x
  by_cases h : x = b <;> simp [h]
theorem One.used : (One room nm b A sy wa f c r).used = A.now.length := by simp [One, St.used, sumOf]
theorem One.dirty : (One room nm b A sy wa f c r).dirty = A.dirty.length := by simp [One, St.dirty, sumOf]
theorem One.size : (One room nm b A sy wa f c r).size nm = A.now.length := by
  unfold St.size
  rw [One.look]
  simp only [One.file]
theorem One.reads (k : Int) : { One room nm b A sy wa f c r with reads := (One room nm b A sy wa f c r).reads + k } = One room nm b A sy wa f c (r + k) := rfl
theorem One.create (h : isNameB nm = true) : (St.new room).create nm b = (0, One (within room) nm b ⟨[], [], []⟩ [] [⟨some b, [], nm⟩] (-1) 1 0) := by
  have hne := isNameB_nonempty h
  unfold St.create
  rw [if_neg (by show ¬ ((-1 : Int) = 0); omega), if_neg (by rw [h]; simp), if_neg (by show ¬ (_ ∧ 400 ≤ 0); omega)]
  congr 1
  unfold St.changed St.adopted St.begin St.new One
  congr 1
  show Ch.apply ⟨some b, [], nm⟩ [] = [(nm, b)]
  unfold Ch.apply
  rw [if_neg hne]
  rfl
theorem One.write (at_ : Nat) (part : List Int) (h0 : f ≠ 0) (h1 : at_ ≤ A.now.length) (h2 : ((at_ + part.length : Nat) : Int) ≤ room) :
    (One room nm b A sy wa f c r).write nm (at_ : Int) part = (0, One room nm b (A.write at_ part) sy wa (less f) (c + 1) r) := by
  unfold St.write
  rw [One.fail, if_neg h0]
  simp only [One.look, One.file, One.used, One.begin, One.set, Int.toNat_natCast]
  rw [if_neg (by omega), if_neg]
  rintro ⟨h3, h4⟩
  have h4' : room < (A.now.length : Int) + ((at_ : Int) + part.length - A.now.length) := h4
  omega
theorem One.write_fails (at_ : Int) (part : List Int) : (One room nm b A sy wa 0 c r).write nm at_ part = (3, One room nm b A sy wa (-1) (c + 1) r) := by
  unfold St.write
  rw [One.fail, if_pos rfl, One.begin]
  rfl
theorem One.sync (h0 : f ≠ 0) : (One room nm b A sy wa f c r).sync nm = (0, One room nm b ⟨A.now, A.now, []⟩ sy wa (less f) (c + 1) r) := by
  unfold St.sync
  rw [One.fail, if_neg h0]
  simp only [One.look, One.file, One.begin, One.set]
theorem One.syncDir (h0 : f ≠ 0) : (One room nm b A sy wa f c r).syncDir = (0, One room nm b A [(nm, b)] [] (less f) (c + 1) r) := by
  unfold St.syncDir
  rw [One.fail, if_neg h0]
  rfl
theorem One.left_none (m : Nat) : (One room nm b A sy [] f c r).leftDir m = sy := by simp [St.leftDir, One]
theorem One.left_zero : (One room nm b A sy wa f c r).leftDir 0 = sy := by simp [St.leftDir, One]
theorem One.left_made (h : isNameB nm = true) (m : Nat) : (One room nm b A [] [⟨some b, [], nm⟩] f c r).leftDir (m + 1) = [(nm, b)] := by
  have hne := isNameB_nonempty h
  have : (One room nm b A [] [⟨some b, [], nm⟩] f c r).leftDir (m + 1) = Ch.apply ⟨some b, [], nm⟩ [] := by simp [St.leftDir, One]
  rw [this]
  unfold Ch.apply
  rw [if_neg hne]
  rfl
end

/-- What a crash leaves of one file. -/
def leftL (A : FileA) (keep : List Bool) (torn : Int) : List Int := leaveL A keep torn 0 A.dirty A.old
theorem Built.one {S' : St} {file : Nat → FileA} {keep : List Bool} {torn : Int} {nm : Nm} {b : Nat} (h : Built S' file keep torn [(nm, b)]) :
    ∃ b', S'.now = [(nm, b')] ∧ dlook nm S'.now = some b' ∧ S'.file b' = ⟨leftL (file b) keep torn, leftL (file b) keep torn, []⟩ := by
  unfold Built crashL at h
  simp only [crashL, List.map_cons, List.map_nil] at h
  cases hn : S'.now with
  | nil => rw [hn] at h; simp at h
  | cons q t =>
    rw [hn] at h
    cases t with
    | cons q' t' => simp at h
    | nil =>
      obtain ⟨n', b'⟩ := q
      simp only [List.map_cons, List.map_nil, List.cons.injEq, Prod.mk.injEq, and_true] at h
      obtain ⟨rfl, h2⟩ := h
      exact ⟨b', rfl, by simp [dlook], h2⟩
theorem Built.none {S' : St} {file : Nat → FileA} {keep : List Bool} {torn : Int} (h : Built S' file keep torn []) : S'.now = [] := by
  unfold Built crashL at h
  simpa using h

/-! how a law holds a disk -/
/-- The blocks that a disk may have: from lo on, none of X. -/
def Free (lo : Nat) (X : Nat → Prop) (w : World) (k : Nat) : Prop := lo ≤ k ∧ k < w.heap.size ∧ ¬ X k
/-- .. and a disk in them. -/
structure Held (W : World) (X : Nat → Prop) (w : World) (p : Nat) (S : St) (n : Nat) : Prop where
  disk : Disk (Free W.heap.size X w) w p S n
  below : Below W.heap.size W w
  user : ∀ k, X k → k < w.heap.size
section
variable {W : World} {X : Nat → Prop} {w w' : World} {p : Nat} {S S' : St} {n n' : Nat}
/-- What a call of the disk leaves as it was. -/
def Kept (X : Nat → Prop) (w w' : World) : Prop := ∀ k, X k → w'.heap[k]? = w.heap[k]?
theorem Held.call (h : Held W X w p S n) (hd : Disk (fun k => Free W.heap.size X w k ∨ w.heap.size ≤ k) w' p S' n') (ht : Turn (Free W.heap.size X w) w w') : Held W X w' p S' n' ∧ Kept X w w' := by
  have hs := ht.size
  have hb := h.below.size
  refine ⟨⟨hd.mono fun k hk hr => ?_, h.below.trans ⟨ht.os, ht.tape, ht.output, ht.size, fun k hk => ht.block k (by omega) fun e => by have := e.1; omega⟩, fun k hk => Nat.lt_of_lt_of_le (h.user k hk) hs⟩, fun k hk => ht.block k (h.user k hk) fun e => e.2.2 hk⟩
  rcases hr with hr | hr
  · exact ⟨hr.1, hk, hr.2.2⟩
  · exact ⟨by omega, hk, fun e => by have := h.user k e; omega⟩
theorem Held.out {v : Value} {e : Ending} (h : Held W X w p S n) (hd : DiskOut (Free W.heap.size X w) w p S' n' v e w') : e = .returned v ∧ Held W X w' p S' n' ∧ Kept X w w' := ⟨hd.1, h.call hd.2.1 hd.2.2⟩
theorem Held.read {e : Ending} {x : Int × List Int × St} (h : Held W X w p S n) (hd : ReadOut (Free W.heap.size X w) w p x n' e w') :
    ∃ v, e = .returned (.tuple #[v, .int .i64 x.1]) ∧ Own w' v x.2.1 ∧ (∀ g, v.ownBlock = some g → w.heap.size ≤ g) ∧ Held W X w' p x.2.2 n' ∧ Kept X w w' := by
  obtain ⟨v, h1, h2, h3, h4, h5⟩ := hd
  exact ⟨v, h1, h2, h3, h.call (h4.mono fun k _ hk => .inl hk) h5⟩
/-- New blocks of the law's own. -/
theorem Held.mine (h : Held W X w p S n) (hb : Below w.heap.size w w') : Held W (fun k => X k ∨ (w.heap.size ≤ k ∧ k < w'.heap.size)) w' p S n := by
  have hbs := h.below.size
  refine ⟨(h.disk.mono fun k hk hr => ?_).later hb, h.below.trans (hb.mono hbs), fun k hk => ?_⟩
  · exact ⟨hr.1, Nat.lt_of_lt_of_le hk hb.size, fun e => by
      rcases e with e | e
      · exact hr.2.2 e
      · omega⟩
  · rcases hk with hk | hk
    · exact Nat.lt_of_lt_of_le (h.user k hk) hb.size
    · exact hk.2
/-- Fewer are the law's own. -/
theorem Held.fewer {Y : Nat → Prop} (h : Held W X w p S n) (hY : ∀ k, Y k → X k) : Held W Y w p S n :=
  ⟨h.disk.mono fun _ _ hr => ⟨hr.1, hr.2.1, fun e => hr.2.2 (hY _ e)⟩, h.below, fun k hk => h.user k (hY k hk)⟩
theorem Held.below_out (h : Held W X w p S n) {w' : World} (hb : Below w.heap.size w w') : Below W.heap.size W w' := h.below.trans (hb.mono h.below.size)
/-- A disk that is made. -/
theorem held_new {room : Int} {e : Ending} (hw : ∀ k, X k → k < w.heap.size) (hb : Below W.heap.size W w) (h : NewOut w room e w') : ∃ p, e = .returned (.pointer (some ⟨p, 0, none⟩)) ∧ Held W X w' p (St.new room) 0 ∧ Kept X w w' := by
  obtain ⟨p, h1, h2, h3⟩ := h
  exact ⟨p, h1, ⟨h2.mono fun k hk hr => ⟨Nat.le_trans hb.size hr, hk, fun e => by have := hw k e; omega⟩, hb.trans (h3.mono hb.size), fun k hk => Nat.lt_of_lt_of_le (hw k hk) h3.size⟩, fun k hk => h3.block k (hw k hk)⟩
end
end Go.Proofs.YtpgclhpobijdeaaDoor.disk
/-
  CONTRACT of stillroomlaw5.begun.
-/



namespace Go.Proofs.YtpgclhpobijdeaaDoor.disk
open Go.RowKit Go.Maps

theorem leads_cells {w : World} {g : Nat} {t : TypeId} {fr : Nat × Nat} {l : List Int} (h : w.heap[g]? = some (.cells (u8s l).toArray t fr)) : Leads w (some ⟨g, 0, none⟩) l := by
  refine .inr ⟨g, 0, rfl, fun i hi => ?_⟩
  rw [Nat.zero_add, cell_of_row w g i _ _ fr h]
  simp [u8s, List.getElem?_map, List.getElem?_eq_getElem hi, List.getD_eq_getElem?_getD]
/-- Bytes that a law lays. -/
theorem given_cells {R : Nat → Prop} {w : World} {g : Nat} {t : TypeId} {fr : Nat × Nat} {l : List Int} (h : w.heap[g]? = some (.cells (u8s l).toArray t fr)) (hb : Byte l) (hR : ¬ R g) (hm : l.length ≤ 100000000) : Given R w (some ⟨g, 0, none⟩) l.length l :=
  ⟨leads_cells h, rfl, hb, fun b off e _ => by
    obtain ⟨rfl, _⟩ : g = b ∧ 0 = off := by simpa using e
    exact hR, hm⟩
theorem Held.past {W : World} {X : Nat → Prop} {w : World} {p n : Nat} {S : St} (_ : Held W X w p S n) : ¬ Free W.heap.size X w w.heap.size := fun e => Nat.lt_irrefl _ e.2.1
/-- A text of Go's, laid, and written. -/
theorem Held.text {W : World} {X : Nat → Prop} {w : World} {p n : Nat} {S : St} (h : Held W X w p S n) (l : List Int) (t : TypeId) (fr : Nat × Nat) (hb : Byte l) (hm : l.length ≤ 100000000) (hn : n ≤ 10000000) (s : ByteArray) (hs : s.size ≤ maxLen) (at_ : Int) (c : Nat) :
    Calls Tryd.prog 48 #[.pointer (some ⟨p, 0, none⟩), .string s, .int .i64 at_, .slice (some ⟨w.heap.size, 0, none⟩) l.length c] (w.alloc (.cells (u8s l).toArray t fr)) fun e w' => e = .returned (.int .i64 (S.write s.data.toList at_ l).1) ∧ Held W X w' p (S.write s.data.toList at_ l).2 (n + 2) ∧ Kept X w w' := by
  have b1 : Below w.heap.size w (w.alloc (.cells (u8s l).toArray t fr)) := (Below.refl _ _).alloc (Nat.le_refl _) _
  have h1 := h.mine b1
  have hg : Given (Free W.heap.size (fun k => X k ∨ (w.heap.size ≤ k ∧ k < (w.alloc (.cells (u8s l).toArray t fr)).heap.size)) (w.alloc (.cells (u8s l).toArray t fr))) (w.alloc (.cells (u8s l).toArray t fr)) (some ⟨w.heap.size, 0, none⟩) l.length l :=
    given_cells (t := t) (fr := fr) (heap_alloc_new w _) hb (fun e => e.2.2 (.inr ⟨Nat.le_refl _, by simp⟩)) hm
  refine (writes_any _ p S n h1.disk hn s hs at_ _ l.length c l hg).mono ?_
  intro e w' ho
  obtain ⟨e1, h2, k2⟩ := h1.out ho
  exact ⟨e1, h2.fewer fun k hk => .inl hk, fun k hk => (k2 k (.inl hk)).trans (b1.block k (h.user k hk))⟩

/-- A text of bytes. -/
def str (l : List Int) : ByteArray := ⟨(l.map fun c => UInt8.ofNat c.toNat).toArray⟩
theorem run_str {w : World} {a : Option Addr} {l : List Int} (h : Leads w a l) (hb : Byte l) (c : Nat) : (convert 44 9 (.slice a l.length c)).run Tryd.prog w = .ok (.string (str l)) w := by
  rcases h with rfl | ⟨b, off, rfl, hc⟩
  · cases a with
    | none =>
      rw [run_convert_bytes_string w _ _ 5 _ _ c Tryd.underlying44 Tryd.underlying5 Tryd.underlying9]
      simp [Conv.bytesToString, str]
      rfl
    | some a => exact run_convert_bytes_back w 44 9 5 a c [] Tryd.underlying44 Tryd.underlying5 Tryd.underlying9 fun j hj => by cases hj
  · have := run_convert_bytes_back w 44 9 5 ⟨b, off, none⟩ c (l.map fun c => UInt8.ofNat c.toNat) Tryd.underlying44 Tryd.underlying5 Tryd.underlying9 fun j hj => by
      rw [List.length_map] at hj
      have hc' := hc j hj
      have hbj := hb.at hj
      rw [Addr.add_mid, hc']
      rw [List.getD_eq_getElem?_getD, List.getElem?_eq_getElem hj, Option.getD_some] at hbj ⊢
      rw [List.getElem_map]
      have e : ((UInt8.ofNat l[j].toNat).toNat : Int) = l[j] := by
        rw [UInt8.toNat_ofNat']
        omega
      rw [e]
    rw [List.length_map] at this
    exact this

/-- The disk later on, when none of its blocks has turned. -/
theorem Held.later {W : World} {X : Nat → Prop} {w w' : World} {p n : Nat} {S : St} (h : Held W X w p S n) (hb : Below w.heap.size w w') : Held W X w' p S n := (h.mine hb).fewer fun _ hk => .inl hk
theorem bools_cells {w : World} {g : Nat} {t : TypeId} {fr : Nat × Nat} {l : List Bool} (h : w.heap[g]? = some (.cells (l.map Value.bool).toArray t fr)) (hm : l.length ≤ 9223372036854775807) : Bools w (some ⟨g, 0, none⟩) l.length l :=
  ⟨rfl, hm, .inr ⟨g, 0, rfl, fun i hi => by
    rw [Nat.zero_add, cell_of_row w g i _ _ fr h]
    simp [List.getElem?_map, List.getElem?_eq_getElem hi, List.getD_eq_getElem?_getD]⟩⟩
theorem bools_nil (w : World) : Bools w none 0 [] := ⟨rfl, by omega, .inl rfl⟩

instance (l : List Int) : Decidable (Byte l) := inferInstanceAs (Decidable (∀ c ∈ l, 0 ≤ c ∧ c < 256))
def aName : Nm := [97]
theorem aData : (⟨#[97]⟩ : ByteArray).data.toList = aName := rfl
theorem aGood : isNameB aName = true := by decide

end Go.Proofs.YtpgclhpobijdeaaDoor.disk
/-
  WHAT THE ROWS OF disk SHARE: slices of bools as a row reads them.
-/








namespace Go.Proofs.YtpgclhpobijdeaaDoor.disk
open Go.ChangeShapes Go.WideShapes Go.ChangeAt Go.RowKit Go.Deep

theorem cellsBool : Tryd.prog.cellsOf 4 = 1 := by kernel_rfl
/-- A slice of bools that came in. -/
structure BRow (w : World) (a : Option Addr) (len cap : Nat) (l : List Bool) : Prop where
  bools : Bools w a len l
  le : len ≤ cap
  most : cap ≤ 9223372036854775807
  nil : a = none → len = 0 ∧ cap = 0
theorem BRow.later {w w' : World} {a : Option Addr} {len cap : Nat} {l : List Bool} (h : BRow w a len cap l) (hb : Below w.heap.size w w') : BRow w' a len cap l :=
  ⟨h.bools.turned (R := fun _ => False) (Turn.of_below hb) (fun _ _ _ _ e => e), h.le, h.most, h.nil⟩
end Go.Proofs.YtpgclhpobijdeaaDoor.disk
/-
  THE WALK OF "DiskReads".
-/

namespace Go.Proofs.YtpgclhpobijdeaaDoor.disk
open Go.RowKit Go.Maps

/-- Bytes of the law's own, written. -/
theorem Held.write {W : World} {X : Nat → Prop} {w : World} {p n : Nat} {S : St} (h : Held W X w p S n) {a : Option Addr} {m c : Nat} {l : List Int} (hl : Leads w a l) (hm : l.length = m) (hb : Byte l) (hs : l.length ≤ 100000000) (hX : ∀ b off, a = some ⟨b, off, none⟩ → l ≠ [] → X b ∨ b < W.heap.size) (hn : n ≤ 10000000) (s : ByteArray) (hss : s.size ≤ maxLen) (at_ : Int) :
    Calls Tryd.prog 48 #[.pointer (some ⟨p, 0, none⟩), .string s, .int .i64 at_, .slice a m c] w fun e w' => e = .returned (.int .i64 (S.write s.data.toList at_ l).1) ∧ Held W X w' p (S.write s.data.toList at_ l).2 (n + 2) ∧ Kept X w w' := by
  subst hm
  refine (writes_any w p S n h.disk hn s hss at_ a l.length c l ⟨hl, rfl, hb, fun b off e hne hf => ?_, hs⟩).mono fun e w' ho => h.out ho
  rcases hX b off e hne with h1 | h1
  · exact hf.2.2 h1
  · have := hf.1; omega

theorem Own.leads {w : World} {a : Option Addr} {m c : Nat} {l : List Int} (h : Own w (.slice a m c) l) : m = l.length ∧ Leads w a l := by
  obtain ⟨a', c', e, _, _, _, hl, _⟩ := h.form
  simp at e
  obtain ⟨rfl, rfl, rfl⟩ := e
  exact ⟨rfl, hl⟩
theorem Held.keepAll {W : World} {X : Nat → Prop} {w : World} {p n : Nat} {S : St} (h : Held W X w p S n) : Held W (fun _ => False) w p S n := h.fewer fun _ e => e.elim

/-- The loop under way: tot bytes are read. -/
structure Reading (W : World) (b p y : Nat) (A : FileA) (tot : Nat) (wr : World) : Prop where
  held : Held W (fun _ => False) wr p (One (within 5000) aName b A [] [⟨some b, [], aName⟩] (-1) 2 (tot : Int)) (4 + y)
  le : tot ≤ y * 1000

end Go.Proofs.YtpgclhpobijdeaaDoor.disk
/-
  THE WALK OF "DiskSwitch".
-/

namespace Go.Proofs.YtpgclhpobijdeaaDoor.disk
open Go.RowKit Go.Maps

def curN : Nm := [99, 117, 114]
def newN : Nm := [110, 101, 119]
theorem curData : (⟨#[99, 117, 114]⟩ : ByteArray).data.toList = curN := rfl
theorem newData : (⟨#[110, 101, 119]⟩ : ByteArray).data.toList = newN := rfl
theorem curGood : isNameB curN = true := by decide
theorem newGood : isNameB newN = true := by decide

/-- A disk of the files at b1 and b2. -/
def Two (b1 b2 : Nat) (A B : FileA) (now sy : Dir) (wa : List Ch) (c : Int) : St :=
  ⟨2000, now, sy, wa, -1, c, 0, [b2, b1], fun x => if x = b2 then B else if x = b1 then A else ⟨[], [], []⟩⟩
section
variable {b1 b2 : Nat} {A B : FileA} {c : Int}
theorem Two.create : (One 2000 curN b1 A [(curN, b1)] [] (-1) c 0).create newN b2 = (0, Two b1 b2 A ⟨[], [], []⟩ [(curN, b1), (newN, b2)] [(curN, b1)] [⟨some b2, [], newN⟩] (c + 1)) := by
  unfold St.create
  rw [One.fail, if_neg (by omega), if_neg (by rw [newGood]; simp), if_neg (by show ¬ (_ ∧ 400 ≤ 1); omega)]
  rfl
theorem Two.file2 {now sy : Dir} {wa : List Ch} : (Two b1 b2 A B now sy wa c).file b2 = B := by simp [Two]
theorem Two.file1 {now sy : Dir} {wa : List Ch} (h : b1 ≠ b2) : (Two b1 b2 A B now sy wa c).file b1 = A := by simp [Two, h]
theorem Two.set {now sy : Dir} {wa : List Ch} (B' : FileA) : (Two b1 b2 A B now sy wa c).set b2 B' = Two b1 b2 A B' now sy wa c := by
  unfold Two St.set
  congr 1
  funext x
  by_cases h : x = b2 <;> simp [h]
theorem Two.begin {now sy : Dir} {wa : List Ch} : (Two b1 b2 A B now sy wa c).begin = Two b1 b2 A B now sy wa (c + 1) := rfl
theorem Two.fail {now sy : Dir} {wa : List Ch} : (Two b1 b2 A B now sy wa c).fail = -1 := rfl
theorem Two.look {sy : Dir} {wa : List Ch} : dlook newN (Two b1 b2 A B [(curN, b1), (newN, b2)] sy wa c).now = some b2 := by
  show dlook newN [(curN, b1), (newN, b2)] = some b2
  rfl
theorem Two.write {sy : Dir} {wa : List Ch} (hAB : b1 ≠ b2) (part : List Int) (hp : part.length ≤ 100) (hA : A.now.length ≤ 100) (hB : B.now = []) :
    (Two b1 b2 A B [(curN, b1), (newN, b2)] sy wa c).write newN ((0 : Nat) : Int) part = (0, Two b1 b2 A (B.write 0 part) [(curN, b1), (newN, b2)] sy wa (c + 1)) := by
  have hu : (Two b1 b2 A B [(curN, b1), (newN, b2)] sy wa c).used = A.now.length := by
    show sumOf (fun b => ((Two b1 b2 A B [(curN, b1), (newN, b2)] sy wa c).file b).now.length) [(curN, b1), (newN, b2)] = _
    simp [sumOf, Two.file1 hAB, Two.file2, hB]
  unfold St.write
  rw [Two.fail, if_neg (by omega)]
  simp only [Two.look, Two.file2, hu, Two.begin, Two.set, hB]
  rw [if_neg (by simp), if_neg]
  · rfl
  rintro ⟨h3, h4⟩
  have h4' : (2000 : Int) < (A.now.length : Int) + (((0 : Nat) : Int) + part.length - (([] : List Int).length : Nat)) := h4
  simp at h4'
  omega
theorem Two.sync {sy : Dir} {wa : List Ch} : (Two b1 b2 A B [(curN, b1), (newN, b2)] sy wa c).sync newN = (0, Two b1 b2 A ⟨B.now, B.now, []⟩ [(curN, b1), (newN, b2)] sy wa (c + 1)) := by
  unfold St.sync
  rw [Two.fail, if_neg (by omega)]
  simp only [Two.look, Two.file2, Two.begin, Two.set]
theorem Two.rename {sy : Dir} {wa : List Ch} : (Two b1 b2 A B [(curN, b1), (newN, b2)] sy wa c).begin.changed ⟨none, newN, curN⟩ = Two b1 b2 A B [(curN, b2)] sy (wa ++ [⟨none, newN, curN⟩]) (c + 1) := by
  unfold St.changed Two St.begin
  rfl
/-- What a crash leaves of the directory. -/
theorem Two.left0 {now : Dir} {wa : List Ch} : (Two b1 b2 A B now [(curN, b1)] wa c).leftDir 0 = [(curN, b1)] := by simp [St.leftDir, Two]
theorem Two.left1 {now : Dir} {x : Ch} : (Two b1 b2 A B now [(curN, b1)] [⟨some b2, [], newN⟩, x] c).leftDir 1 = [(curN, b1), (newN, b2)] := rfl
theorem Two.left2 {now : Dir} : (Two b1 b2 A B now [(curN, b1)] [⟨some b2, [], newN⟩, ⟨none, newN, curN⟩] c).leftDir 2 = [(curN, b2)] := rfl
end
theorem Built.first {S' : St} {file : Nat → FileA} {keep : List Bool} {torn : Int} {nm : Nm} {b : Nat} {r : Dir} (h : Built S' file keep torn ((nm, b) :: r)) :
    ∃ b', dlook nm S'.now = some b' ∧ S'.file b' = ⟨leftL (file b) keep torn, leftL (file b) keep torn, []⟩ := by
  unfold Built crashL at h
  simp only [List.map_cons] at h
  cases hn : S'.now with
  | nil => rw [hn] at h; simp at h
  | cons q t =>
    rw [hn] at h
    obtain ⟨n', b'⟩ := q
    simp only [List.map_cons, List.cons.injEq, Prod.mk.injEq] at h
    obtain ⟨⟨rfl, h2⟩, _⟩ := h
    exact ⟨b', by simp [dlook], h2⟩

theorem bool_sizeOf (w : World) : (sizeOf 4).run Tryd.prog w = .ok 1 w := by kernel_rfl
end Go.Proofs.YtpgclhpobijdeaaDoor.disk
/-
  SLICES OF SLICES OF BYTES as a row reads them; Short; a file that grows at its end.
-/


namespace Go.Proofs.YtpgclhpobijdeaaDoor.disk
open Go.RowKit Go.Maps Go.Deep Go.ChangeShapes Go.WideShapes Go.ChangeAt

theorem cellsBytes : Tryd.prog.cellsOf 44 = 1 := by kernel_rfl
/-- What a part is: its address, length, capacity and bytes. -/
structure Piece where
  a : Option Addr
  len : Nat
  cap : Nat
  l : List Int
instance : Inhabited Piece := ⟨⟨none, 0, 0, []⟩⟩
/-- A slice of slices of bytes that came in. -/
structure RRow (w : World) (a : Option Addr) (len cap : Nat) (ps : Nat → Piece) : Prop where
  most : len ≤ 9223372036854775807
  cells : len = 0 ∨ ∃ b off, a = some ⟨b, off, none⟩ ∧ ∀ i, i < len → w.cell? ⟨b, off + i, none⟩ = some (.slice (ps i).a (ps i).len (ps i).cap)
  rows : ∀ i, i < len → Row w (ps i).a (ps i).len (ps i).cap (ps i).l
theorem open_row_u8 {H : Type} {enc : TypeId × Value → H} {w : World} {base n : Nat} {held : Bool} {v : Value} {x : DataW H × List MemPlace} (h : DataW.trod enc Tryd.prog w base (fun _ => true) held n 44 [v] = some x) :
    ∃ p : Piece, v = .slice p.a p.len p.cap ∧ Row w p.a p.len p.cap p.l := by
  rcases open_ints Tryd.underlying44 Tryd.underlying5 (by kernel_rfl) h with ⟨hcs, _⟩ | ⟨y, l, c, zs, hcs, _, hl, hm, hz, _, hcell, hwz⟩
  · simp at hcs
    exact ⟨⟨none, 0, 0, []⟩, hcs, IsRow.row (zs := []) (.inl ⟨rfl, rfl, rfl, rfl⟩)⟩
  · simp at hcs
    exact ⟨⟨some y, l, c, zs.take l⟩, hcs, IsRow.row (.inr ⟨_, rfl, hl, hm, by simpa using hz, hcell, hwz⟩)⟩
/-! a file that grows at its end -/
theorem laidL_end (l part : List Int) : laidL l l.length part = l ++ part := by
  by_cases h : part = []
  · subst h; rw [laidL_nil, List.append_nil]
  · rw [laidL, if_neg h, show l.length + part.length - l.length = part.length by omega]
    unfold splice
    rw [List.take_left' rfl, List.drop_eq_nil_of_le (by simp), List.append_nil]
theorem FileA.write_end (A : FileA) (part : List Int) : (A.write A.now.length part).now = A.now ++ part := by
  unfold FileA.write
  by_cases h : part = []
  · rw [if_pos h, h, List.append_nil]
  · rw [if_neg h]
    exact laidL_end _ _
theorem str_size (l : List Int) : (str l).size = l.length := by simp [str, ByteArray.size]
theorem str_append (l r : List Int) : str l ++ str r = str (l ++ r) := by
  apply ByteArray.ext
  simp [str]
end Go.Proofs.YtpgclhpobijdeaaDoor.disk
/-
  A CRASH OF A CRASH KEEPS ALL: the plain mathematics (for DiskTwice).
-/

namespace Go.Proofs.YtpgclhpobijdeaaDoor.disk
set_option linter.unusedVariables false

/-- What a crash built is clean. -/
theorem Built.clean {S' : St} {file : Nat → FileA} {keep : List Bool} {torn : Int} {d : Dir} (h : Built S' file keep torn d) (q : Nm × Nat) (hq : q ∈ S'.now) : S'.file q.2 = ⟨(S'.file q.2).now, (S'.file q.2).now, []⟩ := by
  unfold Built at h
  have hm : (q.1, S'.file q.2) ∈ S'.now.map (fun q => (q.1, S'.file q.2)) := List.mem_map_of_mem hq
  rw [h] at hm
  obtain ⟨x, _, hx⟩ := List.mem_map.1 hm
  injection hx with h1 h2
  rw [← h2]
theorem crashL_clean {file : Nat → FileA} (keep : List Bool) (torn : Int) : ∀ (d : Dir) (k : Nat), (∀ q ∈ d, (file q.2).dirty = []) → crashL file keep torn k d = d.map fun q => (q.1, (file q.2).old)
  | [], k, _ => rfl
  | (nm, b) :: r, k, h => by
    have e : (file b).dirty = [] := h (nm, b) (by simp)
    rw [crashL, crashL_clean keep torn r _ fun q hq => h q (List.mem_cons_of_mem _ hq), List.map_cons, e, leaveL]
/-- The second crash leaves what the first left: name by name, file by file. -/
theorem Built.again {S1 S2 : St} {file : Nat → FileA} {keep keep2 : List Bool} {torn torn2 : Int} {d : Dir} (h1 : Built S1 file keep torn d) (h2 : Built S2 S1.file keep2 torn2 S1.now) :
    S2.now.map (fun q => (q.1, S2.file q.2)) = S1.now.map fun q => (q.1, S1.file q.2) := by
  unfold Built at h2
  rw [h2, crashL_clean keep2 torn2 S1.now 0 fun q hq => by rw [h1.clean q hq], List.map_map]
  refine List.map_congr_left fun q hq => ?_
  have e := h1.clean q hq
  show (q.1, (⟨(S1.file q.2).old, (S1.file q.2).old, []⟩ : FileA)) = (q.1, S1.file q.2)
  rw [e]
theorem Built.same_at {S1 S2 : St} (h : S2.now.map (fun q => (q.1, S2.file q.2)) = S1.now.map fun q => (q.1, S1.file q.2)) : S2.now.length = S1.now.length ∧ ∀ (i : Nat) (p q : Nm × Nat), S1.now[i]? = some p → S2.now[i]? = some q → p.1 = q.1 ∧ S1.file p.2 = S2.file q.2 := by
  refine ⟨by have e := congrArg List.length h; simpa using e, fun i p q hp hq => ?_⟩
  have e := congrArg (fun l => l[i]?) h
  simp only [List.getElem?_map, hp, hq, Option.map_some] at e
  injection e with e
  injection e with e1 e2
  exact ⟨e1.symm, e2.symm⟩
/-- With no change waiting, a crash begins from the directory as it is. -/
theorem St.leftDir_none {S : St} (hw : S.wait = []) (hs : S.synced = S.now) (m : Nat) : S.leftDir m = S.now := by
  unfold St.leftDir
  rw [hw, List.take_nil, hs]
  rfl
/-- A disk that a crash built has no dirty sector. -/
theorem Built.dirty_none {S' : St} {file : Nat → FileA} {keep : List Bool} {torn : Int} {d : Dir} (h : Built S' file keep torn d) : S'.dirty = 0 := by
  have hz : ∀ e : Dir, (∀ q ∈ e, (S'.file q.2).dirty = []) → sumOf (fun b => (S'.file b).dirty.length) e = 0 := by
    intro e
    induction e with
    | nil => intro _; rfl
    | cons y r ih =>
      intro hq
      have h0 := ih fun q hm => hq q (List.mem_cons_of_mem _ hm)
      have h1 := hq y (by simp)
      simp only [sumOf, List.map_cons, List.sum_cons] at h0 ⊢
      rw [h0, h1]
      rfl
  exact hz _ fun q hq => by rw [h.clean q hq]
end Go.Proofs.YtpgclhpobijdeaaDoor.disk
