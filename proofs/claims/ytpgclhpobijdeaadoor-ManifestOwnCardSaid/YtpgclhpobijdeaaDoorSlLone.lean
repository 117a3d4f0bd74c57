/-
  A DISK OF ONE FILE, told by what it has, and a file of two slots (P9.1): plain mathematics.
-/
import Derived.Test.YtpgclhpobijdeaaDoorSlMath
import Derived.Test.YtpgclhpobijdeaaDoorMDkC

namespace Go.Proofs.YtpgclhpobijdeaaDoor.slots
open Go.RowKit Go.Proofs.YtpgclhpobijdeaaDoor.disk Go.Proofs.YtpgclhpobijdeaaDoor.recd Go.Proofs.YtpgclhpobijdeaaDoor.num
set_option linter.unusedVariables false

/-- A disk of one file, whose directory is synced. -/
structure Lone (S : St) (nm : Nm) (b : Nat) (A : FileA) (f : Int) : Prop where
  now : S.now = [(nm, b)]
  synced : S.synced = [(nm, b)]
  wait : S.wait = []
  file : S.file b = A
  fail : S.fail = f
  room : S.room = 100000
section
variable {S : St} {nm : Nm} {b : Nat} {A : FileA} {f : Int}
theorem Lone.look (h : Lone S nm b A f) : dlook nm S.now = some b := by
  rw [h.now]
  exact One.look (room := 0) (A := A) (sy := []) (wa := []) (f := 0) (c := 0) (r := 0)
theorem Lone.used (h : Lone S nm b A f) : S.used = A.now.length := by
  unfold St.used disk.sumOf
  rw [h.now]
  simp [h.file]
theorem Lone.begin (h : Lone S nm b A f) : Lone S.begin nm b A (less f) :=
  ⟨h.now, h.synced, h.wait, h.file, (by show (if S.fail = -1 then -1 else S.fail - 1) = less f; rw [h.fail]; rfl), h.room⟩
theorem Lone.set (h : Lone S nm b A f) (A' : FileA) : Lone (S.set b A') nm b A' f :=
  ⟨h.now, h.synced, h.wait, (by show (if b = b then A' else _) = A'; rw [if_pos rfl]), h.fail, h.room⟩
theorem Lone.reads (h : Lone S nm b A f) (k : Int) : Lone { S with reads := k } nm b A f := ⟨h.now, h.synced, h.wait, h.file, h.fail, h.room⟩
theorem Lone.failing (h : Lone S nm b A f) (m : Int) : Lone (S.failing m) nm b A (max m (-1)) := ⟨h.now, h.synced, h.wait, h.file, rfl, h.room⟩
theorem Lone.write (h : Lone S nm b A f) (hf : f ≠ 0) (p : Nat) (part : List Int) (h1 : p ≤ A.now.length) (h2 : p + part.length ≤ 100000) :
    (S.write nm (p : Int) part).1 = 0 ∧ Lone (S.write nm (p : Int) part).2 nm b (A.write p part) (less f) := by
  have e : S.write nm (p : Int) part = (0, S.begin.set b (A.write p part)) := by
    unfold St.write
    rw [h.fail, if_neg hf]
    simp only [h.look, h.file, h.used, Int.toNat_natCast]
    rw [if_neg (by omega), if_neg]
    rintro ⟨h3, h4⟩
    rw [h.room] at h4
    omega
  rw [e]
  exact ⟨rfl, h.begin.set _⟩
theorem Lone.write_fails (h : Lone S nm b A 0) (p : Int) (part : List Int) : (S.write nm p part).1 = 3 ∧ Lone (S.write nm p part).2 nm b A (-1) := by
  have e : S.write nm p part = (3, S.begin) := by
    unfold St.write
    rw [h.fail, if_pos rfl]
  rw [e]
  exact ⟨rfl, h.begin⟩
theorem Lone.sync (h : Lone S nm b A f) (hf : f ≠ 0) : (S.sync nm).1 = 0 ∧ Lone (S.sync nm).2 nm b ⟨A.now, A.now, []⟩ (less f) := by
  have e : S.sync nm = (0, S.begin.set b ⟨A.now, A.now, []⟩) := by
    unfold St.sync
    rw [h.fail, if_neg hf]
    simp only [h.look, h.file]
  rw [e]
  exact ⟨rfl, h.begin.set _⟩
theorem Lone.sync_fails (h : Lone S nm b A 0) : (S.sync nm).1 = 3 ∧ Lone (S.sync nm).2 nm b A (-1) := by
  have e : S.sync nm = (3, S.begin) := by
    unfold St.sync
    rw [h.fail, if_pos rfl]
  rw [e]
  exact ⟨rfl, h.begin⟩
theorem Lone.size (h : Lone S nm b A f) : S.size nm = A.now.length := by
  unfold St.size
  simp only [h.look, h.file]
theorem One.lone {c r : Int} : Lone (One 100000 nm b A [(nm, b)] [] f c r) nm b A f := ⟨rfl, rfl, rfl, One.file, rfl, rfl⟩
end
/-- A new disk's count of calls is small. -/
theorem Held.fresh {W : World} {X : Nat → Prop} {w : World} {p n : Nat} {S : St} (h : Held W X w p S n) (hc : S.calls = 0) (hr : S.reads = 0) (hw : S.wait = []) (hn : S.now.length ≤ 1) (hs : S.synced = S.now) : Held W X w p S 1 := by
  refine ⟨?_, h.below, h.user⟩
  obtain ⟨C, mn, ms, wv, hd⟩ := h.disk
  have hok := hd.ok
  exact ⟨C, mn, ms, wv, { hd with ok := { hok with calls := ⟨by rw [hc]; omega, by rw [hc]; omega⟩, reads := ⟨by rw [hr]; omega, by rw [hr]; omega⟩, now := hn, synced := by rw [hs]; exact hn, wait := by rw [hw]; exact Nat.zero_le _ } }⟩
/-- A disk that lies in blocks of a later call's own. -/
theorem Held.rebase {W W2 : World} {X Y : Nat → Prop} {w : World} {p n : Nat} {S : St} (h : Held W2 X w p S n) (hW : W.heap.size ≤ W2.heap.size) (hb : Below W.heap.size W w) (hY : ∀ k, Y k → k < w.heap.size) (hXY : ∀ k, W2.heap.size ≤ k → Y k → X k) : Held W Y w p S n :=
  ⟨h.disk.mono fun k hk hr => ⟨Nat.le_trans hW hr.1, hk, fun e => hr.2.2 (hXY k hr.1 e)⟩, hb, hY⟩

/-! two slots -/
/-- A file of two slots: one has this text. -/
structure Keeps (L : List Int) (k T : Nat) (x : List Int) (tr : Nat) : Prop where
  len : L.length = 8192
  byte : Byte L
  k1 : k ≤ 1
  this : slotD (slotAt L k) = some (T, x)
  other : ∀ t y, slotD (slotAt L (1 - k)) = some (t, y) → t ≤ tr
theorem openD_of {L : List Int} {k T tr : Nat} {x : List Int} (h : Keeps L k T x tr) (hlt : ∀ t y, slotD (slotAt L (1 - k)) = some (t, y) → t < T) : openD L = some (T, x, k) := by
  have h1 := h.this
  have hk := h.k1
  rcases Nat.lt_or_ge 0 k with h0 | h0
  · obtain rfl : k = 1 := by omega
    unfold slotAt at h1 hlt
    rw [if_neg (by omega)] at h1
    rw [if_pos (by omega)] at hlt
    unfold openD
    rw [h1]
    cases h2 : slotD (L.take 4096) with
    | none => rfl
    | some a => simp only; rw [if_pos (hlt a.1 a.2 h2)]
  · obtain rfl : k = 0 := by omega
    unfold slotAt at h1 hlt
    rw [if_pos rfl] at h1
    rw [if_neg (by omega)] at hlt
    unfold openD
    rw [h1]
    cases h2 : slotD (L.drop 4096) with
    | none => rfl
    | some a => simp only; rw [if_neg (by have := hlt a.1 a.2 h2; omega)]
/-- What Save's write makes of it. -/
def saved (L : List Int) (k tr : Nat) (l : List Int) : List Int := splice L ((1 - k) * 4096) (slotE (tr + 1) l)
theorem Keeps.save {L : List Int} {k T tr : Nat} {x : List Int} (h : Keeps L k T x tr) (hT : T ≤ tr) {l : List Int} (hl : l.length ≤ 4080) (hb : Byte l) (htr : tr + 1 < 18446744073709551616) :
    Keeps (saved L k tr l) (1 - k) (tr + 1) l (tr + 1) ∧ (∀ t y, slotD (slotAt (saved L k tr l) (1 - (1 - k))) = some (t, y) → t < tr + 1) ∧ Keeps (saved L k tr l) k T x (tr + 1) := by
  have hk := h.k1
  have hel := slotE_length (tr + 1) l
  obtain ⟨h1, h2, h3⟩ := splice_slot h.len (k := 1 - k) (by omega) (e := slotE (tr + 1) l) (by omega)
  have hb2 : Byte (saved L k tr l) := h.byte.splice (slotE_byte _ hb) _
  have e2 : slotD (slotAt (saved L k tr l) (1 - k)) = some (tr + 1, l) := by
    unfold saved
    rw [h2]
    exact slotD_enc htr hl _
  have e3 : slotD (slotAt (saved L k tr l) (1 - (1 - k))) = some (T, x) := by
    unfold saved
    rw [h3, show 1 - (1 - k) = k by omega]
    exact h.this
  refine ⟨⟨h1, hb2, by omega, e2, fun t y e => ?_⟩, fun t y e => ?_, ⟨h1, hb2, hk, ?_, fun t y e => ?_⟩⟩
  · rw [e3] at e
    injection e with e
    injection e with e
    omega
  · rw [e3] at e
    injection e with e
    injection e with e
    omega
  · rw [show 1 - (1 - k) = k by omega] at e3
    exact e3
  · rw [e2] at e
    injection e with e
    injection e with e
    omega
/-- A write that does not make a file grow. -/
theorem write_in {A : FileA} {p : Nat} {part : List Int} (hp : part ≠ []) (h : p + part.length ≤ A.now.length) : (A.write p part).now = splice A.now p part ∧ (A.write p part).old = A.old := by
  unfold FileA.write
  rw [if_neg hp]
  refine ⟨?_, rfl⟩
  show laidL A.now p part = _
  unfold laidL
  rw [if_neg hp, show p + part.length - A.now.length = 0 by omega, List.replicate_zero, List.append_nil]
/-- The first text. -/
theorem keeps_first {x : List Int} (hl : x.length ≤ 4080) (hb : Byte x) : Keeps (splice (List.replicate 8192 0) 0 (slotE 1 x)) 0 1 x 1 ∧ ∀ t y, slotD (slotAt (splice (List.replicate 8192 0) 0 (slotE 1 x)) (1 - 0)) = some (t, y) → t < 1 := by
  have hel := slotE_length 1 x
  obtain ⟨h1, h2, h3⟩ := splice_slot (L := List.replicate 8192 0) (List.length_replicate) (k := 0) (by omega) (e := slotE 1 x) (by omega)
  rw [Nat.zero_mul] at h1 h2 h3
  have e2 : slotD (slotAt (splice (List.replicate 8192 0) 0 (slotE 1 x)) 0) = some (1, x) := by
    rw [h2]
    exact slotD_enc (by omega) hl _
  have e3 : slotD (slotAt (splice (List.replicate 8192 0) 0 (slotE 1 x)) (1 - 0)) = none := by
    rw [h3]
    unfold slotAt
    rw [if_neg (by omega), List.drop_replicate]
    exact zero_slot _ (by omega)
  refine ⟨⟨h1, (Byte.zeros _).splice (slotE_byte _ hb) _, by omega, e2, fun t y e => ?_⟩, fun t y e => ?_⟩
  · rw [e3] at e; cases e
  · rw [e3] at e; cases e
end Go.Proofs.YtpgclhpobijdeaaDoor.slots
