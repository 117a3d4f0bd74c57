/-
  CONTRACT of (*segment.Seg).Read (P8.1).
-/
import Derived.Test.YtdonblfidohncaaGreatDoorSgRecs
import Derived.Test.YtdonblfidohncaaGreatDoorMScan
import Derived.Test.YtdonblfidohncaaGreatDoorMRec

import Derived.Deep.RegionHeld3
namespace Go.Proofs.YtdonblfidohncaaGreatDoor.scan
open Go.RowKit Go.Proofs.YtdonblfidohncaaGreatDoor.disk Go.Proofs.YtdonblfidohncaaGreatDoor.recd Go.Proofs.YtdonblfidohncaaGreatDoor.num
set_option linter.unusedVariables false

/-- What Read tells of a file's bytes. -/
def readS (t : Nat) (L : List Int) (a : Int) : Rec × Int :=
  if a < 0 ∨ (L.length : Int) ≤ a then (zeroRec, 6)
  else if (dec ((L.drop a.toNat).take (min 1039 (L.length - a.toNat)))).2.2 = 0 ∧ (dec ((L.drop a.toNat).take (min 1039 (L.length - a.toNat)))).1.tenant = t then ((dec ((L.drop a.toNat).take (min 1039 (L.length - a.toNat)))).1, 0) else (zeroRec, 4)

theorem segread_ret {a : Act} {w9 : World} {bz : Nat} {cs : List Value} {e : Value} {R : Ending → World → Prop} (h4 : a.tmps.getD 4 undef = .pointer (some ⟨bz, 0, none⟩)) (h5 : a.tmps.getD 5 undef = e) (hd : a.defers = [])
    (hw : Whole w9 bz 40 cs) (hl : cs.length = 6) (hR : R (.returned (.tuple #[.agg cs.toArray, e])) w9) : bodyPost Tryz.prog Tryz.f27 R .ret a w9 := by
  have hld := run_load_rec hw hl
  have k4 : a.tmps[4]?.getD undef = .pointer (some ⟨bz, 0, none⟩) := by simpa using h4
  have k5 : a.tmps[5]?.getD undef = e := by simpa using h5
  exact bodyPost_ret (v := .tuple #[.agg cs.toArray, e]) (by simp [results, Tryz.results27, k4, k5, asAddr, hld]) hd hR

def zcells : List Value := [.int .i64 0, .int .u32 0, .int .u64 0, .int .u64 0, .int .u64 0, .string ⟨#[]⟩]
set_option maxRecDepth 100000 in
set_option maxHeartbeats 2000000 in
theorem segread_nil (w : World) (a : Int) : Calls Tryz.prog 27 #[.pointer none, .int .i64 a] w fun e w' => e = .returned (.tuple #[zeroRec.val, .int .i64 10]) ∧ Below w.heap.size w w' := by
  go_enter Tryz.func27, Tryz.ntmps27
  go_upto_region 1 with fail
  have b1 : Below w.heap.size w (w.alloc (.cells #[.int .i64 0, .int .u32 0, .int .u64 0, .int .u64 0, .int .u64 0, .string ⟨#[]⟩] 40)) := (Below.refl _ _).alloc (Nat.le_refl _) _
  have w1 : Whole (w.alloc (.cells #[.int .i64 0, .int .u32 0, .int .u64 0, .int .u64 0, .int .u64 0, .string ⟨#[]⟩] 40)) w.heap.size 40 [.int .i64 0, .int .u32 0, .int .u64 0, .int .u64 0, .int .u64 0, .string ⟨#[]⟩] := Whole.new_ rfl rfl
  have B1 := Lib.hid b1
  have W1 := Lib.hid w1
  clear b1 w1
  obtain ⟨bz, hbz⟩ : ∃ bz, w.heap.size = bz := ⟨_, rfl⟩
  generalize w.alloc (.cells #[.int .i64 0, .int .u32 0, .int .u64 0, .int .u64 0, .int .u64 0, .string ⟨#[]⟩] 40) = wz at B1 W1 ⊢
  rw [hbz] at W1 ⊢
  have HBZ := Lib.hid hbz
  clear hbz
  go_wp2_with ((with_reducible show wpList _ _ _ (⟨none, _, _, _, _, _⟩ :: _) _ _); refine wpList_store_as rfl 40 (.tmp 4) (.tmp 14) rfl bz 0 #[.int .i64 0, .int .u32 0, .int .u64 0, .int .u64 0, .int .u64 0, .string ⟨#[]⟩] rfl rfl (Whole.there W1.out 0 6 (Nat.le_refl 6)) recInfo (by simp [Value.oneCell']) ?_; intro w7 hw7; have HW7 := Lib.hid hw7; clear hw7)
  have wf7 : Whole w7 bz 40 [.int .i64 0, .int .u32 0, .int .u64 0, .int .u64 0, .int .u64 0, .string ⟨#[]⟩] := by
    rw [← HW7.out]
    exact Whole.lay [.int .i64 0, .int .u32 0, .int .u64 0, .int .u64 0, .int .u64 0, .string ⟨#[]⟩] 0 W1.out (by decide)
  have b7 : Below w.heap.size w w7 := by
    rw [← HW7.out]
    exact below_lay _ _ _ B1.out (by rw [HBZ.out]; exact Nat.le_refl _)
  exact segread_ret rfl rfl rfl wf7 rfl ⟨rfl, b7⟩

/-- What Read leaves. -/
def ReadSOut (W : World) (X : Nat → Prop) (w : World) (p : Nat) (S' : St) (n' : Nat) (x : Rec × Int) (e : Ending) (w' : World) : Prop :=
  e = .returned (.tuple #[x.1.val, .int .i64 x.2]) ∧ Held W X w' p S' n' ∧ Kept X w w'
theorem zeroRec_val : zeroRec.val = .agg #[.int .i64 0, .int .u32 0, .int .u64 0, .int .u64 0, .int .u64 0, .string ⟨#[]⟩] := rfl

set_option maxRecDepth 100000 in
set_option maxHeartbeats 4000000 in
theorem segread_range {W : World} {X : Nat → Prop} (w : World) (p : Nat) (S : St) (n : Nat) (h : Held W X w p S n) (s : Nat) (nm : ByteArray) (t : Nat) (wh : Bool) (hs : SegAt w s p nm t wh) (hX : X s) (b : Nat) (hb : dlook nm.data.toList S.now = some b) (a : Int) (ha : a < 0 ∨ ((S.file b).now.length : Int) ≤ a) :
    Calls Tryz.prog 27 #[.pointer (some ⟨s, 0, none⟩), .int .i64 a] w (ReadSOut W X w p S n (zeroRec, 6)) := by
  have hsz : S.size nm.data.toList = ((S.file b).now.length : Int) := by rw [St.size]; simp only [hb]
  have b1 : Below w.heap.size w (w.alloc (.cells #[.int .i64 0, .int .u32 0, .int .u64 0, .int .u64 0, .int .u64 0, .string ⟨#[]⟩] 40)) := (Below.refl _ _).alloc (Nat.le_refl _) _
  have CS := segsize_any _ p S n (h.later b1).disk s nm t wh (hs.later b1)
  rw [hsz] at CS
  obtain ⟨N, hN⟩ : ∃ N, (S.file b).now.length = N := ⟨_, rfl⟩
  rw [hN] at CS ha
  have fin : ∀ w7, Below w.heap.size w w7 → ReadSOut W X w p S n (zeroRec, 6) (.returned (.tuple #[zeroRec.val, .int .i64 6])) w7 := fun w7 b7 => ⟨rfl, h.later b7, fun k hk => b7.block k (h.user k hk)⟩
  have FIN := Lib.hid fin
  have w1 : Whole (w.alloc (.cells #[.int .i64 0, .int .u32 0, .int .u64 0, .int .u64 0, .int .u64 0, .string ⟨#[]⟩] 40)) w.heap.size 40 [.int .i64 0, .int .u32 0, .int .u64 0, .int .u64 0, .int .u64 0, .string ⟨#[]⟩] := Whole.new_ rfl rfl
  clear h hs hb hsz hN fin
  go_enter Tryz.func27, Tryz.ntmps27
  go_upto_region 1 with fail
  have B1 := Lib.hid b1
  have W1 := Lib.hid w1
  have HCS := Lib.hid CS
  clear b1 w1 CS
  obtain ⟨bz, hbz⟩ : ∃ bz, w.heap.size = bz := ⟨_, rfl⟩
  generalize w.alloc (.cells #[.int .i64 0, .int .u32 0, .int .u64 0, .int .u64 0, .int .u64 0, .string ⟨#[]⟩] 40) = wz at B1 W1 HCS ⊢
  rw [hbz] at W1 ⊢
  have HBZ := Lib.hid hbz
  clear hbz
  go_wp2_with fail
  refine HCS.out.mono ?_
  rintro e w2 ⟨rfl, q, rfl⟩
  have B2 := Lib.hid (below_draws B1.out q)
  have W2 := Lib.hid (W1.out.draws q)
  generalize wz.drewN q = w2 at B2 W2 ⊢
  clear HCS W1 B1
  by_cases h0 : a < 0
  · clear ha
    go_wp2_with ((with_reducible show wpList _ _ _ (⟨none, _, _, _, _, _⟩ :: _) _ _); refine wpList_store_as rfl 40 (.tmp 4) (.tmp 24) rfl bz 0 #[.int .i64 0, .int .u32 0, .int .u64 0, .int .u64 0, .int .u64 0, .string ⟨#[]⟩] rfl rfl (Whole.there W2.out 0 6 (Nat.le_refl 6)) recInfo (by simp [Value.oneCell']) ?_; intro w7 hw7; have HW7 := Lib.hid hw7; clear hw7)
    have wf7 : Whole w7 bz 40 [.int .i64 0, .int .u32 0, .int .u64 0, .int .u64 0, .int .u64 0, .string ⟨#[]⟩] := by
      rw [← HW7.out]
      exact Whole.lay [.int .i64 0, .int .u32 0, .int .u64 0, .int .u64 0, .int .u64 0, .string ⟨#[]⟩] 0 W2.out (by decide)
    have b7 : Below w.heap.size w w7 := by
      rw [← HW7.out]
      exact below_lay _ _ _ B2.out (by rw [HBZ.out]; exact Nat.le_refl _)
    exact segread_ret rfl rfl rfl wf7 rfl (FIN.out _ b7)
  · have hN1 : (N : Int) ≤ a := by omega
    clear ha
    go_wp2_with ((with_reducible show wpList _ _ _ (⟨none, _, _, _, _, _⟩ :: _) _ _); refine wpList_store_as rfl 40 (.tmp 4) (.tmp 24) rfl bz 0 #[.int .i64 0, .int .u32 0, .int .u64 0, .int .u64 0, .int .u64 0, .string ⟨#[]⟩] rfl rfl (Whole.there W2.out 0 6 (Nat.le_refl 6)) recInfo (by simp [Value.oneCell']) ?_; intro w7 hw7; have HW7 := Lib.hid hw7; clear hw7)
    have wf7 : Whole w7 bz 40 [.int .i64 0, .int .u32 0, .int .u64 0, .int .u64 0, .int .u64 0, .string ⟨#[]⟩] := by
      rw [← HW7.out]
      exact Whole.lay [.int .i64 0, .int .u32 0, .int .u64 0, .int .u64 0, .int .u64 0, .string ⟨#[]⟩] 0 W2.out (by decide)
    have b7 : Below w.heap.size w w7 := by
      rw [← HW7.out]
      exact below_lay _ _ _ B2.out (by rw [HBZ.out]; exact Nat.le_refl _)
    exact segread_ret rfl rfl rfl wf7 rfl (FIN.out _ b7)
end Go.Proofs.YtdonblfidohncaaGreatDoor.scan
