/-
  CONTRACT of (*disk.FS).Crash: its first loop.
-/
import Derived.Test.YtpbffjpghnijkaaDkRead
namespace Go.Proofs.Ytpbffjpghnijkaa.disk
open Go.RowKit Go.Maps

/-- The directory that a crash leaves. -/
def St.leftDir (S : St) (m : Nat) : Dir := (S.wait.take m).foldl (fun d c => c.apply d) S.synced

theorem Replays.take : ∀ {l : List Ch} {d e : Dir}, Replays d l e → ∀ m, Replays d (l.take m) ((l.take m).foldl (fun d c => c.apply d) d)
  | [], _, _, _, m => by simp [Replays]
  | c :: r, d, e, h, 0 => by simp [Replays]
  | c :: r, d, e, h, m + 1 => by
    rw [List.take_succ_cons, List.foldl_cons]
    exact ⟨h.1, Replays.take h.2 m⟩
theorem Replays.ok_at : ∀ {l : List Ch} {d e : Dir}, Replays d l e → ∀ (m : Nat) (c : Ch), l[m]? = some c → c.Ok ((l.take m).foldl (fun d c => c.apply d) d)
  | [], _, _, _, m, c, h => by simp at h
  | c :: r, d, e, h, 0, c', hc => by
    have : c = c' := by simpa using hc
    subst this
    exact h.1
  | c :: r, d, e, h, m + 1, c', hc => by
    rw [List.take_succ_cons, List.foldl_cons]
    exact Replays.ok_at h.2 m c' (by simpa using hc)
theorem leftDir_succ (S : St) {m : Nat} {c : Ch} (h : S.wait[m]? = some c) : S.leftDir (m + 1) = c.apply (S.leftDir m) := by
  unfold St.leftDir
  rw [List.take_add_one, h, Option.toList_some, List.foldl_append]; rfl
theorem leftDir_length (S : St) : ∀ m, (S.leftDir m).length ≤ S.synced.length + m
  | 0 => by simp [St.leftDir]
  | m + 1 => by
    have ih := leftDir_length S m
    cases h : S.wait[m]? with
    | some c => rw [leftDir_succ S h]; have := c.apply_length (S.leftDir m); omega
    | none =>
      have : S.leftDir (m + 1) = S.leftDir m := by
        unfold St.leftDir
        rw [List.take_add_one, h, Option.toList_none, List.append_nil]
      rw [this]; omega
theorem leftDir_mem (S : St) {n : Nat} (h : S.Ok n) : ∀ m, ∀ p ∈ S.leftDir m, p.2 ∈ S.files
  | 0 => by simpa [St.leftDir] using h.isynced
  | m + 1 => by
    have ih := leftDir_mem S h m
    cases hc : S.wait[m]? with
    | some c => rw [leftDir_succ S hc]; exact Ch.apply_mem (h.iwait c (List.mem_of_getElem? hc)) ih
    | none =>
      have : S.leftDir (m + 1) = S.leftDir m := by
        unfold St.leftDir
        rw [List.take_add_one, hc, Option.toList_none, List.append_nil]
      rw [this]; exact ih

theorem waitCells_at : ∀ (l : List Ch) (i : Nat) (c : Ch), l[i]? = some c → ((waitCells l).drop (i * 3)).take 3 = [ptrOf c.made, encStr c.frm, encStr c.to]
  | [], i, c, h => by simp at h
  | x :: r, 0, c, h => by
    have : x = c := by simpa using h
    subst this
    simp [waitCells]
  | x :: r, i + 1, c, h => by
    have ih := waitCells_at r i c (by simpa using h)
    have e : waitCells (x :: r) = [ptrOf x.made, encStr x.frm, encStr x.to] ++ waitCells r := rfl
    rw [e, show (i + 1) * 3 = 3 + i * 3 by omega, ← List.drop_drop]
    exact ih

theorem ch_elem : Try.prog.elem 56 = 64 := by kernel_rfl
theorem ch_sizeOf (w : World) : (sizeOf 64).run Try.prog w = .ok 3 w := by kernel_rfl
theorem run_front (g n cap hi : Nat) (hh : hi ≤ cap) (w : World) : (Instr.slice 56 (.slice (some ⟨g, 0, none⟩) n cap) none (some (.int .i64 (hi : Int))) none).run Try.prog w = .ok (.slice (some ⟨g, 0, none⟩) hi cap) w := by
  rw [run_slice_h w 56 _ n cap (by rw [ch_elem]; exact Try.underlying56) .i64 (hi : Int) (by omega) (by omega), ch_elem, ch_sizeOf]
  by_cases h : cap = 0 <;> simp [Result.andThen, sliced, h, Addr.add_mid]
theorem run_front_nil (w : World) : (Instr.slice 56 (.slice none 0 0) none (some (.int .i64 0)) none).run Try.prog w = .ok (.slice none 0 0) w := by
  rw [run_slice_h w 56 _ 0 0 (by rw [ch_elem]; exact Try.underlying56) .i64 0 (by omega) (by omega), ch_elem, ch_sizeOf]
  simp [Result.andThen, sliced]

/-- The row's address, or none where nothing waits. -/
theorem wait_form {w : World} {wv : Value} {l : List Ch} (h : w.ownsRow 0 64 3 wv l.length (waitCells l)) (hi : Nat) (hh : hi ≤ l.length) :
    ∃ aw cw, wv = .slice aw l.length cw ∧ l.length ≤ cw ∧ cw ≤ 9223372036854775807 ∧ (∀ w, (Instr.slice 56 (.slice aw l.length cw) none (some (.int .i64 (hi : Int))) none).run Try.prog w = .ok (.slice aw hi cw) w) ∧
      (hi = 0 ∨ ∃ g, aw = some ⟨g, 0, none⟩ ∧ g < w.heap.size ∧ ∀ i c, l[i]? = some c → w.rangeAt g (i * 3) [ptrOf c.made, encStr c.frm, encStr c.to]) := by
  rcases h.2 with ⟨rfl, h0⟩ | ⟨g, cap, cur, rfl, _, hg, h1, h2, h3, h4⟩
  · have hl0 : l.length = 0 := h0
    have h00 : hi = 0 := by omega
    subst h00
    exact ⟨none, 0, by rw [hl0], by omega, by omega, fun w => by rw [hl0]; exact run_front_nil w, .inl rfl⟩
  · unfold maxLen at h2
    refine ⟨_, cap, rfl, h1, by omega, fun w => run_front g l.length cap hi (by omega) w, .inr ⟨g, rfl, (Array.getElem?_eq_some_iff.1 hg).1, fun i c hc => ?_⟩⟩
    intro j v hv
    have hi' : i < l.length := (List.getElem?_eq_some_iff.1 hc).1
    have hj : j < 3 := (List.getElem?_eq_some_iff.1 hv).1
    rw [cell_of_row w g (i * 3 + j) cur _ (0, 0) hg]
    rw [← waitCells_at l i c hc, List.getElem?_take_of_lt hj, List.getElem?_drop, ← h4, List.getElem?_take_of_lt (by omega)] at hv
    rw [← hv]
    simp

/-! what a crash leaves of the files -/
def crashL (file : Nat → FileA) (keep : List Bool) (torn : Int) : Nat → Dir → List (Nm × List Int)
  | _, [] => []
  | k, (nm, b) :: r => (nm, leaveL (file b) keep torn k (file b).dirty (file b).old) :: crashL file keep torn (k + (file b).dirty.length) r
def dirtySum (file : Nat → FileA) (d : Dir) : Nat := sumOf (fun b => (file b).dirty.length) d
theorem crashL_snoc (file : Nat → FileA) (keep : List Bool) (torn : Int) (nm : Nm) (b : Nat) : ∀ (d : Dir) (k : Nat), crashL file keep torn k (d ++ [(nm, b)]) = crashL file keep torn k d ++ [(nm, leaveL (file b) keep torn (k + dirtySum file d) (file b).dirty (file b).old)]
  | [], k => by simp [crashL, dirtySum, sumOf]
  | (m, c) :: r, k => by
    have e : dirtySum file ((m, c) :: r) = (file c).dirty.length + dirtySum file r := rfl
    rw [List.cons_append, crashL, crashL, crashL_snoc file keep torn nm b r, e, List.cons_append, Nat.add_assoc]
theorem crashL_names (file : Nat → FileA) (keep : List Bool) (torn : Int) : ∀ (d : Dir) (k : Nat), (crashL file keep torn k d).map (·.1) = d.map (·.1)
  | [], _ => rfl
  | (m, c) :: r, k => by rw [crashL, List.map_cons, List.map_cons, crashL_names file keep torn r]
theorem dirtySum_snoc (file : Nat → FileA) (d : Dir) (nm : Nm) (b : Nat) : dirtySum file (d ++ [(nm, b)]) = dirtySum file d + (file b).dirty.length := by
  simp [dirtySum, sumOf]
theorem dput_last (nm : Nm) (b : Nat) : ∀ d : Dir, (∀ q ∈ d, bytesBefore q.1 nm = true) → dput nm b d = d ++ [(nm, b)] := by
  intro d hd
  have hne : ddel nm d = d := by
    unfold ddel
    rw [List.filter_eq_self]
    intro q hq
    have : ¬ q.1 = nm := fun e => by have := hd q hq; rw [e, WideAt.bytes_irrefl] at this; cases this
    simpa using this
  rw [dput, hne]
  clear hne
  induction d with
  | nil => rfl
  | cons y r ih =>
    have hy := hd y (by simp)
    have hn : ¬ bytesBefore nm y.1 = true := fun e => by
      have := WideShapes.bytes_trans _ _ _ hy e
      rw [WideAt.bytes_irrefl] at this; cases this
    unfold dins
    rw [if_neg hn, ih fun q hq => hd q (by simp [hq])]
    rfl

/-- A disk being built by a crash: all but its synced directory. -/
structure Building (C : Nat → Nat → Prop) (W0 : Nat) (w : World) (p : Nat) (S : St) (mn ms : Nat) (wv : Value) : Prop where
  cells : Whole w p 58 (fsCells S mn ms wv)
  now : IsDir w mn S.now
  wait : w.ownsRow 0 64 3 wv 0 []
  file : ∀ b, b ∈ S.files → IsFile (C b) w b (S.file b)
  inp : C p p
  inn : C p mn
  inw : ∀ g, wv.ownBlock = some g → C p g ∧ g ≠ p
  notp : p ∉ S.files
  apart : ∀ x y k, C x k → C y k → x = y
  low : ∀ x k, C x k → W0 ≤ k ∧ k < w.heap.size
  inow : ∀ q ∈ S.now, q.2 ∈ S.files

theorem Building.same {C : Nat → Nat → Prop} {W0 : Nat} {w w' : World} {p : Nat} {S : St} {mn ms : Nat} {wv : Value} (h : Building C W0 w p S mn ms wv) (hs : w.heap.size ≤ w'.heap.size) (e : ∀ x k, C x k → w'.heap[k]? = w.heap[k]?) : Building C W0 w' p S mn ms wv :=
  { h with
    cells := Whole.same h.cells (e p p h.inp)
    now := h.now.same (e p mn h.inn)
    wait := row_same h.wait fun g hg => e p g (h.inw g hg).1
    file := fun b hb => (h.file b hb).same fun k _ hk => e b k hk
    low := fun x k hk => ⟨(h.low x k hk).1, Nat.lt_of_lt_of_le (h.low x k hk).2 hs⟩ }

/-- A file more: its blocks are new. -/
theorem Building.more {C : Nat → Nat → Prop} {W0 : Nat} {w w' : World} {p : Nat} {S : St} {mn ms : Nat} {wv : Value} (h : Building C W0 w p S mn ms wv) {F : Nat → Prop} {b : Nat} {A : FileA} {nm : Nm} (hf : IsFile F w' b A) (hF : ∀ x k, C x k → ¬ F k) (hF0 : ∀ k, F k → W0 ≤ k)
    (hg : w.grownBy w' (some mn)) (hd : IsDir w' mn (dput nm b S.now)) (hmp : mn ≠ p) (hmf : ∀ y k, y ∈ S.files → C y k → k ≠ mn) (hwm : ∀ g, wv.ownBlock = some g → g ≠ mn) :
    Building (fun x k => C x k ∨ (x = b ∧ F k ∧ k < w'.heap.size)) W0 w' p { S with now := dput nm b S.now, files := b :: S.files, file := fun x => if x = b then A else S.file x } mn ms wv ∧ b ∉ S.files := by
  have hnb : b ∉ S.files := fun e => hF b b ((h.file b e).in_) hf.in_
  have hpb : b ≠ p := fun e => hF p p h.inp (e ▸ hf.in_)
  have eb : ∀ k, k < w.heap.size → k ≠ mn → w'.heap[k]? = w.heap[k]? := fun k hk hne => hg.block k hk fun e => hne (by injection e)
  refine ⟨⟨Whole.same h.cells (eb p h.cells.lt fun e => hmp e.symm), hd, row_same h.wait fun g hgg => eb g (World.ownsRow.lt h.wait g hgg).2 (hwm g hgg), ?_, .inl h.inp, .inl h.inn, fun g hgg => ⟨.inl (h.inw g hgg).1, (h.inw g hgg).2⟩, ?_, ?_, ?_, ?_⟩, hnb⟩
  · intro y hy
    show IsFile _ w' y (if y = b then A else S.file y)
    by_cases e : y = b
    · rw [if_pos e]
      subst e
      exact hf.mono fun k hk hfk => .inr ⟨rfl, hfk, hk⟩
    · rw [if_neg e]
      have hy' : y ∈ S.files := by
        rcases List.mem_cons.1 hy with h1 | h1
        · exact absurd h1 e
        · exact h1
      exact ((h.file y hy').same fun k hk hck => eb k hk (hmf y k hy' hck)).mono fun k _ hk => .inl hk
  · intro e
    rcases List.mem_cons.1 e with e | e
    · exact hpb e.symm
    · exact h.notp e
  · rintro x y k (hx | ⟨rfl, hx, _⟩) (hy | ⟨rfl, hy, _⟩)
    · exact h.apart _ _ _ hx hy
    · exact (hF _ _ hx hy).elim
    · exact (hF _ _ hy hx).elim
    · rfl
  · rintro x k (hx | ⟨_, hx, hk⟩)
    · exact ⟨(h.low x k hx).1, Nat.lt_of_lt_of_le (h.low x k hx).2 hg.size⟩
    · exact ⟨hF0 k hx, hk⟩
  · intro q hq
    rcases mem_dput hq with rfl | hq
    · exact List.mem_cons_self
    · exact List.mem_cons_of_mem _ (h.inow q hq)

/-- What the built disk holds: of the files of d, in order, what the crash left. -/
def Built (S' : St) (file : Nat → FileA) (keep : List Bool) (torn : Int) (d : Dir) : Prop :=
  S'.now.map (fun q => (q.1, S'.file q.2)) = (crashL file keep torn 0 d).map fun q => (q.1, ⟨q.2, q.2, []⟩)
theorem Built.names {S' : St} {file : Nat → FileA} {keep : List Bool} {torn : Int} {d : Dir} (h : Built S' file keep torn d) : S'.now.map (·.1) = d.map (·.1) := by
  have e := congrArg (List.map fun q : Nm × FileA => q.1) h
  rw [List.map_map, List.map_map] at e
  rw [← crashL_names file keep torn d 0]
  exact e
theorem Built.snoc {S' : St} {file : Nat → FileA} {keep : List Bool} {torn : Int} {d : Dir} (h : Built S' file keep torn d) (hin : ∀ q ∈ S'.now, q.2 ∈ S'.files) {nm : Nm} {b b' : Nat} (hb : b' ∉ S'.files) (hlast : ∀ q ∈ S'.now, bytesBefore q.1 nm = true) :
    Built { S' with now := dput nm b' S'.now, files := b' :: S'.files, file := fun x => if x = b' then ⟨leaveL (file b) keep torn (dirtySum file d) (file b).dirty (file b).old, leaveL (file b) keep torn (dirtySum file d) (file b).dirty (file b).old, []⟩ else S'.file x } file keep torn (d ++ [(nm, b)]) := by
  unfold Built at h ⊢
  rw [dput_last nm b' S'.now hlast, crashL_snoc, List.map_append, List.map_append, ← h, Nat.zero_add]
  congr 1
  · apply List.map_congr_left
    intro q hq
    have : ¬ q.2 = b' := fun e => hb (e ▸ hin q hq)
    simp only [if_neg this]
  · simp

theorem dlook_of_mem {nm : Nm} {b : Nat} : ∀ {d : Dir}, d.Pairwise (fun p q => p.1 ≠ q.1) → (nm, b) ∈ d → dlook nm d = some b
  | [], _, h => by cases h
  | y :: r, hp, h => by
    obtain ⟨h1, h2⟩ := List.pairwise_cons.1 hp
    unfold dlook
    rcases List.mem_cons.1 h with rfl | h
    · simp
    · have hy : ¬ y.1 = nm := h1 (nm, b) h
      have := dlook_of_mem h2 h
      unfold dlook at this
      simp [hy, this]
theorem IsDir.names_le {w : World} {m : Nat} {d : Dir} (h : IsDir w m d) {q : Nm × Nat} (hq : q ∈ d) : q.1.length ≤ maxLen := by
  refine strKeys_le h.owns Try.underlying9 q.1 ?_
  rw [dirD_keys]
  exact List.mem_map.2 ⟨q, hq, rfl⟩
theorem dirtySum_le {S : St} (d : Dir) (h : ∀ q ∈ d, (S.file q.2).Fit) : dirtySum S.file d ≤ d.length * 65536 := sumOf_le _ _ d fun q hq => (h q hq).few
end Go.Proofs.Ytpbffjpghnijkaa.disk
