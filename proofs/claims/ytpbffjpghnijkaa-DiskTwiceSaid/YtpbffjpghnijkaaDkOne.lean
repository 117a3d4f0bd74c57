/-
  A DISK OF ONE FILE: what the calls make of it, plainly; how a law holds a disk.
-/
import Derived.Test.YtpbffjpghnijkaaDkRest
import Derived.Test.YtpbffjpghnijkaaDkRead
namespace Go.Proofs.Ytpbffjpghnijkaa.disk
open Go.RowKit Go.Maps

/-- A disk of one file of that name, at block b. -/
def One (room : Int) (nm : Nm) (b : Nat) (A : FileA) (synced : Dir) (wait : List Ch) (fail calls reads : Int) : St :=
  ⟨room, [(nm, b)], synced, wait, fail, calls, reads, [b], fun x => if x = b then A else ⟨[], [], []⟩⟩
/-- How many calls until the one that fails, a call later. -/
def less (f : Int) : Int := if f = -1 then -1 else f - 1

section
variable {room : Int} {nm : Nm} {b : Nat} {A : FileA} {sy : Dir} {wa : List Ch} {f c r : Int}
theorem One.fail : (One room nm b A sy wa f c r).fail = f := rfl
theorem One.look : dlook nm (One room nm b A sy wa f c r).now = some b := by simp [One, dlook]
theorem One.file : (One room nm b A sy wa f c r).file b = A := by simp [One]
theorem One.begin : (One room nm b A sy wa f c r).begin = One room nm b A sy wa (less f) (c + 1) r := rfl
theorem One.set (A' : FileA) : (One room nm b A sy wa f c r).set b A' = One room nm b A' sy wa f c r := by
  unfold One St.set
  congr 1
  funext x
  by_cases h : x = b <;> simp [h]
theorem One.used : (One room nm b A sy wa f c r).used = A.now.length := by simp [One, St.used, sumOf]
theorem One.dirty : (One room nm b A sy wa f c r).dirty = A.dirty.length := by simp [One, St.dirty, sumOf]
theorem One.size : (One room nm b A sy wa f c r).size nm = A.now.length := by
  unfold St.size
  rw [One.look]
  simp only [One.file]
theorem One.reads (k : Int) : { One room nm b A sy wa f c r with reads := (One room nm b A sy wa f c r).reads + k } = One room nm b A sy wa f c (r + k) := rfl
theorem One.create (h : isNameB nm = true) : (St.new room).create nm b = (0, One (within room) nm b ⟨[], [], []⟩ [] [⟨some b, [], nm⟩] (-1) 1 0) := by
  have hne := isNameB_nonempty h
  unfold St.create
  rw [if_neg (by show ¬ ((-1 : Int) = 0); omega), if_neg (by rw [h]; simp), if_neg (by show ¬ (_ ∧ 400 ≤ 0); omega)]
  congr 1
  unfold St.changed St.adopted St.begin St.new One
  congr 1
  show Ch.apply ⟨some b, [], nm⟩ [] = [(nm, b)]
  unfold Ch.apply
  rw [if_neg hne]
  rfl
theorem One.write (at_ : Nat) (part : List Int) (h0 : f ≠ 0) (h1 : at_ ≤ A.now.length) (h2 : ((at_ + part.length : Nat) : Int) ≤ room) :
    (One room nm b A sy wa f c r).write nm (at_ : Int) part = (0, One room nm b (A.write at_ part) sy wa (less f) (c + 1) r) := by
  unfold St.write
  rw [One.fail, if_neg h0]
  simp only [One.look, One.file, One.used, One.begin, One.set, Int.toNat_natCast]
  rw [if_neg (by omega), if_neg]
  rintro ⟨h3, h4⟩
  have h4' : room < (A.now.length : Int) + ((at_ : Int) + part.length - A.now.length) := h4
  omega
theorem One.write_fails (at_ : Int) (part : List Int) : (One room nm b A sy wa 0 c r).write nm at_ part = (3, One room nm b A sy wa (-1) (c + 1) r) := by
  unfold St.write
  rw [One.fail, if_pos rfl, One.begin]
  rfl
theorem One.sync (h0 : f ≠ 0) : (One room nm b A sy wa f c r).sync nm = (0, One room nm b ⟨A.now, A.now, []⟩ sy wa (less f) (c + 1) r) := by
  unfold St.sync
  rw [One.fail, if_neg h0]
  simp only [One.look, One.file, One.begin, One.set]
theorem One.syncDir (h0 : f ≠ 0) : (One room nm b A sy wa f c r).syncDir = (0, One room nm b A [(nm, b)] [] (less f) (c + 1) r) := by
  unfold St.syncDir
  rw [One.fail, if_neg h0]
  rfl
theorem One.left_none (m : Nat) : (One room nm b A sy [] f c r).leftDir m = sy := by simp [St.leftDir, One]
theorem One.left_zero : (One room nm b A sy wa f c r).leftDir 0 = sy := by simp [St.leftDir, One]
theorem One.left_made (h : isNameB nm = true) (m : Nat) : (One room nm b A [] [⟨some b, [], nm⟩] f c r).leftDir (m + 1) = [(nm, b)] := by
  have hne := isNameB_nonempty h
  have : (One room nm b A [] [⟨some b, [], nm⟩] f c r).leftDir (m + 1) = Ch.apply ⟨some b, [], nm⟩ [] := by simp [St.leftDir, One]
  rw [this]
  unfold Ch.apply
  rw [if_neg hne]
  rfl
end

/-- What a crash leaves of one file. -/
def leftL (A : FileA) (keep : List Bool) (torn : Int) : List Int := leaveL A keep torn 0 A.dirty A.old
theorem Built.one {S' : St} {file : Nat → FileA} {keep : List Bool} {torn : Int} {nm : Nm} {b : Nat} (h : Built S' file keep torn [(nm, b)]) :
    ∃ b', S'.now = [(nm, b')] ∧ dlook nm S'.now = some b' ∧ S'.file b' = ⟨leftL (file b) keep torn, leftL (file b) keep torn, []⟩ := by
  unfold Built crashL at h
  simp only [crashL, List.map_cons, List.map_nil] at h
  cases hn : S'.now with
  | nil => rw [hn] at h; simp at h
  | cons q t =>
    rw [hn] at h
    cases t with
    | cons q' t' => simp at h
    | nil =>
      obtain ⟨n', b'⟩ := q
      simp only [List.map_cons, List.map_nil, List.cons.injEq, Prod.mk.injEq, and_true] at h
      obtain ⟨rfl, h2⟩ := h
      exact ⟨b', rfl, by simp [dlook], h2⟩
theorem Built.none {S' : St} {file : Nat → FileA} {keep : List Bool} {torn : Int} (h : Built S' file keep torn []) : S'.now = [] := by
  unfold Built crashL at h
  simpa using h

/-! how a law holds a disk -/
/-- The blocks that a disk may have: from lo on, none of X. -/
def Free (lo : Nat) (X : Nat → Prop) (w : World) (k : Nat) : Prop := lo ≤ k ∧ k < w.heap.size ∧ ¬ X k
/-- .. and a disk in them. -/
structure Held (W : World) (X : Nat → Prop) (w : World) (p : Nat) (S : St) (n : Nat) : Prop where
  disk : Disk (Free W.heap.size X w) w p S n
  below : Below W.heap.size W w
  user : ∀ k, X k → k < w.heap.size
section
variable {W : World} {X : Nat → Prop} {w w' : World} {p : Nat} {S S' : St} {n n' : Nat}
/-- What a call of the disk leaves as it was. -/
def Kept (X : Nat → Prop) (w w' : World) : Prop := ∀ k, X k → w'.heap[k]? = w.heap[k]?
theorem Held.call (h : Held W X w p S n) (hd : Disk (fun k => Free W.heap.size X w k ∨ w.heap.size ≤ k) w' p S' n') (ht : Turn (Free W.heap.size X w) w w') : Held W X w' p S' n' ∧ Kept X w w' := by
  have hs := ht.size
  have hb := h.below.size
  refine ⟨⟨hd.mono fun k hk hr => ?_, h.below.trans ⟨ht.os, ht.tape, ht.output, ht.size, fun k hk => ht.block k (by omega) fun e => by have := e.1; omega⟩, fun k hk => Nat.lt_of_lt_of_le (h.user k hk) hs⟩, fun k hk => ht.block k (h.user k hk) fun e => e.2.2 hk⟩
  rcases hr with hr | hr
  · exact ⟨hr.1, hk, hr.2.2⟩
  · exact ⟨by omega, hk, fun e => by have := h.user k e; omega⟩
theorem Held.out {v : Value} {e : Ending} (h : Held W X w p S n) (hd : DiskOut (Free W.heap.size X w) w p S' n' v e w') : e = .returned v ∧ Held W X w' p S' n' ∧ Kept X w w' := ⟨hd.1, h.call hd.2.1 hd.2.2⟩
theorem Held.read {e : Ending} {x : Int × List Int × St} (h : Held W X w p S n) (hd : ReadOut (Free W.heap.size X w) w p x n' e w') :
    ∃ v, e = .returned (.tuple #[v, .int .i64 x.1]) ∧ Own w' v x.2.1 ∧ (∀ g, v.ownBlock = some g → w.heap.size ≤ g) ∧ Held W X w' p x.2.2 n' ∧ Kept X w w' := by
  obtain ⟨v, h1, h2, h3, h4, h5⟩ := hd
  exact ⟨v, h1, h2, h3, h.call (h4.mono fun k _ hk => .inl hk) h5⟩
/-- New blocks of the law's own. -/
theorem Held.mine (h : Held W X w p S n) (hb : Below w.heap.size w w') : Held W (fun k => X k ∨ (w.heap.size ≤ k ∧ k < w'.heap.size)) w' p S n := by
  have hbs := h.below.size
  refine ⟨(h.disk.mono fun k hk hr => ?_).later hb, h.below.trans (hb.mono hbs), fun k hk => ?_⟩
  · exact ⟨hr.1, Nat.lt_of_lt_of_le hk hb.size, fun e => by
      rcases e with e | e
      · exact hr.2.2 e
      · omega⟩
  · rcases hk with hk | hk
    · exact Nat.lt_of_lt_of_le (h.user k hk) hb.size
    · exact hk.2
/-- Fewer are the law's own. -/
theorem Held.fewer {Y : Nat → Prop} (h : Held W X w p S n) (hY : ∀ k, Y k → X k) : Held W Y w p S n :=
  ⟨h.disk.mono fun _ _ hr => ⟨hr.1, hr.2.1, fun e => hr.2.2 (hY _ e)⟩, h.below, fun k hk => h.user k (hY k hk)⟩
theorem Held.below_out (h : Held W X w p S n) {w' : World} (hb : Below w.heap.size w w') : Below W.heap.size W w' := h.below.trans (hb.mono h.below.size)
/-- A disk that is made. -/
theorem held_new {room : Int} {e : Ending} (hw : ∀ k, X k → k < w.heap.size) (hb : Below W.heap.size W w) (h : NewOut w room e w') : ∃ p, e = .returned (.pointer (some ⟨p, 0, none⟩)) ∧ Held W X w' p (St.new room) 0 ∧ Kept X w w' := by
  obtain ⟨p, h1, h2, h3⟩ := h
  exact ⟨p, h1, ⟨h2.mono fun k hk hr => ⟨Nat.le_trans hb.size hr, hk, fun e => by have := hw k e; omega⟩, hb.trans (h3.mono hb.size), fun k hk => Nat.lt_of_lt_of_le (hw k hk) h3.size⟩, fun k hk => h3.block k (hw k hk)⟩
end
end Go.Proofs.Ytpbffjpghnijkaa.disk
