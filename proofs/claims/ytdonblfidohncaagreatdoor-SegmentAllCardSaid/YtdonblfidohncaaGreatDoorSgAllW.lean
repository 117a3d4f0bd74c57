/-
  'stillroomlaw8.SegmentAll' (P8.1, K1): its relations.
-/
import Derived.Test.YtdonblfidohncaaGreatDoorSgAll
import Derived.Test.YtdonblfidohncaaGreatDoorSgSame
import Derived.Test.YtdonblfidohncaaGreatDoorMDkC
namespace Go.Proofs.YtdonblfidohncaaGreatDoor.scan
open Go.RowKit Go.Proofs.YtdonblfidohncaaGreatDoor.disk Go.Proofs.YtdonblfidohncaaGreatDoor.recd Go.Proofs.YtdonblfidohncaaGreatDoor.seg
set_option linter.unusedVariables false

/-- The outer loop under way. -/
structure Grp (W : World) (p s b t q : Nat) (lv atv snv : Value) (wr : World) : Prop where
  some_ : ∃ (A : FileA) (gs : List Rec) (sn : Nat) (c : Int), atv = .int .i64 ((cat gs).length : Int) ∧ snv = .int .i64 (sn : Int) ∧ In W p s b t A c (3 + 4 * q) (fun _ => False) lv (finds 0 gs) wr ∧ A.now = cat gs ∧ A.old = cat (gs.take sn) ∧ sn ≤ gs.length ∧ gs.length ≤ 5 * q ∧ ∀ r ∈ gs, OneOf t r ∧ r.Fit
/-- The inner loop under way: j of the group are told. -/
structure Told (W : World) (p s b t : Nat) (A : FileA) (c : Int) (n : Nat) (E : Nat → Prop) (gs g : List Rec) (pl : List Nat) (gv pv : Value) (j : Nat) (lv atv : Value) (wr : World) : Prop where
  at_ : atv = .int .i64 ((cat (gs ++ g.take j)).length : Int)
  in_ : In W p s b t A c n E lv (finds 0 (gs ++ g.take j)) wr
  g_ : OwnS fRec wr gv g
  p_ : OwnS fInt wr pv pl
theorem leave_len (A : FileA) (keep : List Bool) (torn : Int) : ∀ (ds : List Nat) (k : Nat) (b : List Int), b.length ≤ A.now.length → (∀ s ∈ ds, s * 64 ≤ A.now.length) → (leaveL A keep torn k ds b).length ≤ A.now.length
  | [], _, _, h, _ => h
  | s :: r, k, b, h, hd => leave_len A keep torn r (k + 1) _ (laid_first_le h (hd s (by simp))) fun s' hs' => hd s' (by simp [hs'])
theorem left_len {A : FileA} (h : A.Fit) (keep : List Bool) (torn : Int) : (leftL A keep torn).length ≤ A.now.length :=
  leave_len A keep torn _ _ _ h.le fun s hs => Nat.le_of_lt (h.inside s hs)
theorem In.more {W : World} {p s b t : Nat} {A : FileA} {c : Int} {n m : Nat} {E : Nat → Prop} {lv : Value} {F : List Fd} {wr : World} (h : In W p s b t A c n E lv F wr) (hn : n ≤ m) : In W p s b t A c m E lv F wr := ⟨⟨h.held.disk.more hn, h.held.below, h.held.user⟩, h.seg, h.l_, h.far, h.late⟩
theorem cat_le' {gs : List Rec} (h : ∀ r ∈ gs, mayB r = true) : (cat gs).length ≤ gs.length * 1039 := by rw [← encs_cat h]; exact encs_len gs
theorem write_old (A : FileA) (p : Nat) (l : List Int) : (A.write p l).old = A.old := by unfold FileA.write; split <;> rfl
theorem found_elem : Tryz.prog.elem 32 = 42 := by kernel_rfl
theorem found_size (w : World) : (sizeOf 42).run Tryz.prog w = .ok 7 w := by kernel_rfl
theorem found_none (n cap m : Nat) (hm : m ≤ cap) (W : World) : (Instr.slice 32 (.slice none n cap) none (some (.int .i64 (m : Int))) none).run Tryz.prog W = .ok (.slice none m cap) W := by
  rw [run_slice_h W 32 _ n cap (by rw [found_elem]; exact Tryz.underlying32) .i64 (m : Int) (by omega) (by omega), found_elem, found_size]
  simp [Result.andThen, sliced]
theorem found_slice (g n cap m : Nat) (hm : m ≤ cap) (W : World) : (Instr.slice 32 (.slice (some ⟨g, 0, none⟩) n cap) none (some (.int .i64 (m : Int))) none).run Tryz.prog W = .ok (.slice (some ⟨g, 0, none⟩) m cap) W := by
  rw [run_slice_h W 32 _ n cap (by rw [found_elem]; exact Tryz.underlying32) .i64 (m : Int) (by omega) (by omega), found_elem, found_size]
  by_cases h : cap = 0 <;> simp [Result.andThen, sliced, h, Addr.add_mid]
theorem In.rowlen {W : World} {p s b t : Nat} {A : FileA} {c : Int} {n : Nat} {E : Nat → Prop} {lv : Value} {F : List Fd} {wr : World} (h : In W p s b t A c n E lv F wr) : ∃ ao cap, lv = .slice ao F.length cap ∧ F.length ≤ cap := by
  obtain ⟨ao, cap, e, h1, _⟩ := (RowS.of_own h.l_).slice
  exact ⟨ao, cap, e, h1⟩
end Go.Proofs.YtdonblfidohncaaGreatDoor.scan
