/-
  JOINED: RcRDec RcRDecB RcRAll.
-/
import Derived.Test.YtdonblfidohncaaGreatDoorMRec
import Derived.Deep.RegionHeld3
import Derived.Deep.DeepCutAuto
import Derived.StillTailTactics
import Derived.Deep.RegionLaw
/-
  CONTRACT of the reference's Decode (stillroomref6).
-/




namespace Go.Proofs.YtdonblfidohncaaGreatDoor.recd
open Go.RowKit Go.Proofs.YtdonblfidohncaaGreatDoor.num Go.Proofs.YtdonblfidohncaaGreatDoor.disk
set_option linter.unusedVariables false

theorem rdec_ret {a : Act} {w9 : World} {bz : Nat} {cs : List Value} {n e : Value} {R : Ending → World → Prop} (h2 : a.tmps.getD 2 undef = .pointer (some ⟨bz, 0, none⟩)) (h3 : a.tmps.getD 3 undef = n) (h4 : a.tmps.getD 4 undef = e) (hd : a.defers = [])
    (hw : Whole w9 bz 40 cs) (hl : cs.length = 6) (hR : R (.returned (.tuple #[.agg cs.toArray, n, e])) w9) : bodyPost Tryz.prog Tryz.f79 R .ret a w9 := by
  have hld := run_load_rec hw hl
  have k2 : a.tmps[2]?.getD undef = .pointer (some ⟨bz, 0, none⟩) := by simpa using h2
  have k3 : a.tmps[3]?.getD undef = n := by simpa using h3
  have k4 : a.tmps[4]?.getD undef = e := by simpa using h4
  exact bodyPost_ret (v := .tuple #[.agg cs.toArray, n, e]) (by simp [results, Tryz.results79, k2, k3, k4, asAddr, hld]) hd hR
theorem rget_at (a : Option Addr) (n : Nat) (l : List Int) (hn : l.length = n) (cap : Nat) (w : World) (hB : Leads w a l) (hb : Byte l) (hl : n ≤ 8) :
    Calls Tryz.prog 82 #[.slice a n cap] w fun e w' => e = .returned (.int .u64 ((val l : Nat) : Int)) ∧ w = w' := by
  subst hn; exact rget_any a l cap w hB hb hl
/-- The disk of a call under way: the result's place, what was there before. -/
structure RD (w : World) (bz : Nat) (wr : World) : Prop where
  whole : Whole wr bz 40 [.int .i64 0, .int .u32 0, .int .u64 0, .int .u64 0, .int .u64 0, .string ⟨#[]⟩]
  below : Below w.heap.size w wr
theorem RD.next {w W W' : World} {bz : Nat} (h : RD w bz W) (hb : Below W.heap.size W W') : RD w bz W' := ⟨h.whole.kept hb, h.below.trans (hb.mono h.below.size)⟩

set_option maxRecDepth 100000 in
set_option maxHeartbeats 4000000 in
theorem rd_m0 (a : Option Addr) (n cap : Nat) (l : List Int) (w : World) (hl : Leads w a l) (hb : Byte l) (hn : l.length = n) (hc : n ≤ cap) (hm : n ≤ 1000000000) (h1 : begB l = false) (hnj : 0 < n) (mm : l.getD 0 0 ≠ 83) :
    Calls Tryz.prog 79 #[.slice a n cap] w (DecOut w (dec l)) := by
  have hd : dec l = (zeroRec, 0, 4) := by unfold dec; rw [if_pos h1]
  rw [hd]
  clear hd
  obtain ⟨g, off, rfl, hA⟩ := hl.at_ (by omega)
  have HA : At w g off l := hA
  obtain ⟨cm, hcm⟩ : ∃ cm, l.getD 0 0 = cm := ⟨_, rfl⟩
  have hby := hb.at (i := 0) (by omega)
  rw [hcm] at hby mm
  have mmb : (cm == 83) = false := by simpa using mm
  have mmn : (cm != 83) = true := by simpa using mm
  have mmx : (cm != (((⟨#[83, 82]⟩ : ByteArray)[0]'(by decide)).toNat : Int)) = true := mmn
  have cw0 : w.cell? ⟨g, off, none⟩ = some (.int .u8 cm) := by
    have h := hA 0 (by omega)
    rw [hcm] at h
    exact h
  have n0 : (0 : Int) < (n : Int) := by omega
  have nn0 : 0 < n := by omega
  clear h1
  have CW0 := Lib.hid cw0
  have HB := Lib.hid hb
  have HN := Lib.hid hn
  have HL := Lib.hid hl
  have HAT := Lib.hid HA
  clear HA hA
  clear cw0
  clear mm hcm
  clear hb hn hl hm
  obtain ⟨bz, hbz⟩ : ∃ bz, w.heap.size = bz := ⟨_, rfl⟩
  have r0 : RD w bz (w.alloc (.cells #[.int .i64 0, .int .u32 0, .int .u64 0, .int .u64 0, .int .u64 0, .string ⟨#[]⟩] 40)) := ⟨Whole.new_ hbz.symm rfl, (Below.refl _ _).alloc (Nat.le_refl _) _⟩
  have R0 := Lib.hid r0
  have HBZ := Lib.hid hbz
  clear r0
  go_enter Tryz.func79, Tryz.ntmps79
  go_wp2_with fail
  clear hbz
  go_loopw [6] (fun i wr => ∃ j : Nat, j ≤ 0 ∧ i = .int .i64 (j : Int) ∧ RD w bz wr) (fun i _ => 0 - (intOf i).toNat)
  case atStart => exact ⟨0, by decide, rfl, R0.out⟩
  case round =>
    obtain ⟨j, hj, rfl, hr⟩ := hrel
    have HR := Lib.hid hr
    clear hr
    obtain rfl : j = 0 := by omega
    have cq : ∀ q, (wr.drewN q).cell? ⟨g, off, none⟩ = some (.int .u8 cm) := fun q => (HR.out.below.cell (p := ⟨g, off, none⟩) (block_lt_of_cell CW0.out)).trans CW0.out
    have wz : ∀ q, Whole (wr.drewN q) bz 40 [.int .i64 0, .int .u32 0, .int .u64 0, .int .u64 0, .int .u64 0, .string ⟨#[]⟩] := fun q => HR.out.whole.draws q
    have bz' : ∀ q, Below w.heap.size w (wr.drewN q) := fun q => below_draws HR.out.below q
    have WZ := Lib.hid wz
    have BZ := Lib.hid bz'
    clear wz bz'
    go_wp2_with fail
    go_quiet (fail)
    obtain ⟨w6, hw6⟩ : ∃ w6, wr.drewN nq = w6 := ⟨_, rfl⟩
    have W6 := WZ.out nq
    have B6 := BZ.out nq
    rw [hw6] at W6 B6 ⊢
    have W6 := Lib.hid W6
    have B6 := Lib.hid B6
    clear hw6
    go_wp2_with ((with_reducible show wpList _ _ _ (⟨none, _, _, _, _, _⟩ :: _) _ _); refine wpList_store_as rfl 40 (.tmp 2) (.tmp 27) rfl bz 0 #[.int .i64 0, .int .u32 0, .int .u64 0, .int .u64 0, .int .u64 0, .string ⟨#[]⟩] rfl rfl (Whole.there W6.out 0 6 (Nat.le_refl 6)) recInfo (by simp [Value.oneCell']) ?_; intro w7 hw7; have HW7 := Lib.hid hw7; clear hw7)
    have wf7 : Whole w7 bz 40 [.int .i64 0, .int .u32 0, .int .u64 0, .int .u64 0, .int .u64 0, .string ⟨#[]⟩] := by
      rw [← HW7.out]
      exact Whole.lay [.int .i64 0, .int .u32 0, .int .u64 0, .int .u64 0, .int .u64 0, .string ⟨#[]⟩] 0 W6.out (by decide)
    have b7 : Below w.heap.size w w7 := by
      rw [← HW7.out]
      exact below_lay _ _ _ B6.out (by rw [HBZ.out]; exact Nat.le_refl _)
    exact rdec_ret rfl rfl rfl rfl wf7 rfl ⟨rfl, b7⟩
set_option maxRecDepth 100000 in
set_option maxHeartbeats 4000000 in
theorem rd_m1 (a : Option Addr) (n cap : Nat) (l : List Int) (w : World) (hl : Leads w a l) (hb : Byte l) (hn : l.length = n) (hc : n ≤ cap) (hm : n ≤ 1000000000) (m0 : l.getD 0 0 = 83) (h1 : begB l = false) (hnj : 1 < n) (mm : l.getD 1 0 ≠ 82) :
    Calls Tryz.prog 79 #[.slice a n cap] w (DecOut w (dec l)) := by
  have hd : dec l = (zeroRec, 0, 4) := by unfold dec; rw [if_pos h1]
  rw [hd]
  clear hd
  obtain ⟨g, off, rfl, hA⟩ := hl.at_ (by omega)
  have HA : At w g off l := hA
  have cw0 : w.cell? ⟨g, off, none⟩ = some (.int .u8 83) := by
    have h := hA 0 (by omega)
    rw [m0] at h
    exact h
  obtain ⟨cm, hcm⟩ : ∃ cm, l.getD 1 0 = cm := ⟨_, rfl⟩
  have hby := hb.at (i := 1) (by omega)
  rw [hcm] at hby mm
  have mmb : (cm == 82) = false := by simpa using mm
  have mmn : (cm != 82) = true := by simpa using mm
  have mmx : (cm != (((⟨#[83, 82]⟩ : ByteArray)[1]'(by decide)).toNat : Int)) = true := mmn
  have cw1 : w.cell? ⟨g, off + 1, none⟩ = some (.int .u8 cm) := by
    have h := hA 1 (by omega)
    rw [hcm] at h
    exact h
  have n0 : (0 : Int) < (n : Int) := by omega
  have n1 : (1 : Int) < (n : Int) := by omega
  have nn0 : 0 < n := by omega
  have nn1 : 1 < n := by omega
  clear h1
  have CW0 := Lib.hid cw0
  have CW1 := Lib.hid cw1
  have HB := Lib.hid hb
  have HN := Lib.hid hn
  have HL := Lib.hid hl
  have HAT := Lib.hid HA
  clear HA hA
  clear cw0
  clear cw1
  clear m0
  clear mm hcm
  clear hb hn hl hm
  obtain ⟨bz, hbz⟩ : ∃ bz, w.heap.size = bz := ⟨_, rfl⟩
  have r0 : RD w bz (w.alloc (.cells #[.int .i64 0, .int .u32 0, .int .u64 0, .int .u64 0, .int .u64 0, .string ⟨#[]⟩] 40)) := ⟨Whole.new_ hbz.symm rfl, (Below.refl _ _).alloc (Nat.le_refl _) _⟩
  have R0 := Lib.hid r0
  have HBZ := Lib.hid hbz
  clear r0
  go_enter Tryz.func79, Tryz.ntmps79
  go_wp2_with fail
  clear hbz
  go_loopw [6] (fun i wr => ∃ j : Nat, j ≤ 1 ∧ i = .int .i64 (j : Int) ∧ RD w bz wr) (fun i _ => 1 - (intOf i).toNat)
  case atStart => exact ⟨0, by decide, rfl, R0.out⟩
  case round =>
    obtain ⟨j, hj, rfl, hr⟩ := hrel
    have HR := Lib.hid hr
    clear hr
    by_cases j0 : j = 0
    · subst j0
      have cq : ∀ q, (wr.drewN q).cell? ⟨g, off, none⟩ = some (.int .u8 83) := fun q => (HR.out.below.cell (p := ⟨g, off, none⟩) (block_lt_of_cell CW0.out)).trans CW0.out
      have nr : ∀ q, RD w bz (wr.drewN q) := fun q => HR.out.next (below_draws (Below.refl _ _) q)
      have NR := Lib.hid nr
      clear nr
      go_wp2_with fail
      go_quiet (fail)
      go_wp2_with fail
      exact ⟨⟨1, by decide, rfl, NR.out _⟩, by simp [intOf]⟩
    · skip
      obtain rfl : j = 1 := by omega
      clear j0
      have cq : ∀ q, (wr.drewN q).cell? ⟨g, off + 1, none⟩ = some (.int .u8 cm) := fun q => (HR.out.below.cell (p := ⟨g, off + 1, none⟩) (block_lt_of_cell CW1.out)).trans CW1.out
      have wz : ∀ q, Whole (wr.drewN q) bz 40 [.int .i64 0, .int .u32 0, .int .u64 0, .int .u64 0, .int .u64 0, .string ⟨#[]⟩] := fun q => HR.out.whole.draws q
      have bz' : ∀ q, Below w.heap.size w (wr.drewN q) := fun q => below_draws HR.out.below q
      have WZ := Lib.hid wz
      have BZ := Lib.hid bz'
      clear wz bz'
      go_wp2_with fail
      go_quiet (fail)
      obtain ⟨w6, hw6⟩ : ∃ w6, wr.drewN nq = w6 := ⟨_, rfl⟩
      have W6 := WZ.out nq
      have B6 := BZ.out nq
      rw [hw6] at W6 B6 ⊢
      have W6 := Lib.hid W6
      have B6 := Lib.hid B6
      clear hw6
      go_wp2_with ((with_reducible show wpList _ _ _ (⟨none, _, _, _, _, _⟩ :: _) _ _); refine wpList_store_as rfl 40 (.tmp 2) (.tmp 27) rfl bz 0 #[.int .i64 0, .int .u32 0, .int .u64 0, .int .u64 0, .int .u64 0, .string ⟨#[]⟩] rfl rfl (Whole.there W6.out 0 6 (Nat.le_refl 6)) recInfo (by simp [Value.oneCell']) ?_; intro w7 hw7; have HW7 := Lib.hid hw7; clear hw7)
      have wf7 : Whole w7 bz 40 [.int .i64 0, .int .u32 0, .int .u64 0, .int .u64 0, .int .u64 0, .string ⟨#[]⟩] := by
        rw [← HW7.out]
        exact Whole.lay [.int .i64 0, .int .u32 0, .int .u64 0, .int .u64 0, .int .u64 0, .string ⟨#[]⟩] 0 W6.out (by decide)
      have b7 : Below w.heap.size w w7 := by
        rw [← HW7.out]
        exact below_lay _ _ _ B6.out (by rw [HBZ.out]; exact Nat.le_refl _)
      exact rdec_ret rfl rfl rfl rfl wf7 rfl ⟨rfl, b7⟩
set_option maxRecDepth 100000 in
set_option maxHeartbeats 4000000 in
theorem rd_short0 (a : Option Addr) (n cap : Nat) (l : List Int) (w : World) (hl : Leads w a l) (hb : Byte l) (hn : l.length = n) (hc : n ≤ cap) (hm : n ≤ 1000000000)  (h1 : begB l = true) (h2 : n = 0) :
    Calls Tryz.prog 79 #[.slice a n cap] w (DecOut w (dec l)) := by
  have hd : dec l = (zeroRec, 0, 11) := by unfold dec; rw [if_neg (by rw [h1]; simp), if_pos (by omega)]
  rw [hd]
  clear hd
  have n0 : ¬ (0 : Int) < (n : Int) := by omega
  have h39 : (n : Int) < 39 := by omega
  have h3 : ¬ (2 : Int) < (n : Int) := by omega
  clear h1 h2
  have HB := Lib.hid hb
  have HN := Lib.hid hn
  have HL := Lib.hid hl
  clear hb hn hl hm
  obtain ⟨bz, hbz⟩ : ∃ bz, w.heap.size = bz := ⟨_, rfl⟩
  have r0 : RD w bz (w.alloc (.cells #[.int .i64 0, .int .u32 0, .int .u64 0, .int .u64 0, .int .u64 0, .string ⟨#[]⟩] 40)) := ⟨Whole.new_ hbz.symm rfl, (Below.refl _ _).alloc (Nat.le_refl _) _⟩
  have R0 := Lib.hid r0
  have HBZ := Lib.hid hbz
  clear r0
  go_enter Tryz.func79, Tryz.ntmps79
  go_wp2_with fail
  clear hbz
  go_loopw [6] (fun i wr => ∃ j : Nat, j ≤ 0 ∧ i = .int .i64 (j : Int) ∧ RD w bz wr) (fun i _ => 0 - (intOf i).toNat)
  case atStart => exact ⟨0, by decide, rfl, R0.out⟩
  case round =>
    obtain ⟨j, hj, rfl, hr⟩ := hrel
    have HR := Lib.hid hr
    clear hr
    obtain rfl : j = 0 := by omega
    have W6 := Lib.hid HR.out.whole
    have B6 := Lib.hid HR.out.below
    go_wp2_with ((with_reducible show wpList _ _ _ (⟨none, _, _, _, _, _⟩ :: _) _ _); refine wpList_store_as rfl 40 (.tmp 2) (.tmp 47) rfl bz 0 #[.int .i64 0, .int .u32 0, .int .u64 0, .int .u64 0, .int .u64 0, .string ⟨#[]⟩] rfl rfl (Whole.there W6.out 0 6 (Nat.le_refl 6)) recInfo (by simp [Value.oneCell']) ?_; intro w7 hw7; have HW7 := Lib.hid hw7; clear hw7)
    have wf7 : Whole w7 bz 40 [.int .i64 0, .int .u32 0, .int .u64 0, .int .u64 0, .int .u64 0, .string ⟨#[]⟩] := by
      rw [← HW7.out]
      exact Whole.lay [.int .i64 0, .int .u32 0, .int .u64 0, .int .u64 0, .int .u64 0, .string ⟨#[]⟩] 0 W6.out (by decide)
    have b7 : Below w.heap.size w w7 := by
      rw [← HW7.out]
      exact below_lay _ _ _ B6.out (by rw [HBZ.out]; exact Nat.le_refl _)
    exact rdec_ret rfl rfl rfl rfl wf7 rfl ⟨rfl, b7⟩
set_option maxRecDepth 100000 in
set_option maxHeartbeats 4000000 in
theorem rd_short1 (a : Option Addr) (n cap : Nat) (l : List Int) (w : World) (hl : Leads w a l) (hb : Byte l) (hn : l.length = n) (hc : n ≤ cap) (hm : n ≤ 1000000000) (m0 : l.getD 0 0 = 83) (h1 : begB l = true) (h2 : n = 1) :
    Calls Tryz.prog 79 #[.slice a n cap] w (DecOut w (dec l)) := by
  have hd : dec l = (zeroRec, 0, 11) := by unfold dec; rw [if_neg (by rw [h1]; simp), if_pos (by omega)]
  rw [hd]
  clear hd
  obtain ⟨g, off, rfl, hA⟩ := hl.at_ (by omega)
  have HA : At w g off l := hA
  have cw0 : w.cell? ⟨g, off, none⟩ = some (.int .u8 83) := by
    have h := hA 0 (by omega)
    rw [m0] at h
    exact h
  have n0 : (0 : Int) < (n : Int) := by omega
  have n1 : ¬ (1 : Int) < (n : Int) := by omega
  have nn0 : 0 < n := by omega
  have h39 : (n : Int) < 39 := by omega
  have h3 : ¬ (2 : Int) < (n : Int) := by omega
  clear h1 h2
  have CW0 := Lib.hid cw0
  have HB := Lib.hid hb
  have HN := Lib.hid hn
  have HL := Lib.hid hl
  have HAT := Lib.hid HA
  clear HA hA
  clear cw0
  clear m0
  clear hb hn hl hm
  obtain ⟨bz, hbz⟩ : ∃ bz, w.heap.size = bz := ⟨_, rfl⟩
  have r0 : RD w bz (w.alloc (.cells #[.int .i64 0, .int .u32 0, .int .u64 0, .int .u64 0, .int .u64 0, .string ⟨#[]⟩] 40)) := ⟨Whole.new_ hbz.symm rfl, (Below.refl _ _).alloc (Nat.le_refl _) _⟩
  have R0 := Lib.hid r0
  have HBZ := Lib.hid hbz
  clear r0
  go_enter Tryz.func79, Tryz.ntmps79
  go_wp2_with fail
  clear hbz
  go_loopw [6] (fun i wr => ∃ j : Nat, j ≤ 1 ∧ i = .int .i64 (j : Int) ∧ RD w bz wr) (fun i _ => 1 - (intOf i).toNat)
  case atStart => exact ⟨0, by decide, rfl, R0.out⟩
  case round =>
    obtain ⟨j, hj, rfl, hr⟩ := hrel
    have HR := Lib.hid hr
    clear hr
    by_cases j0 : j = 0
    · subst j0
      have cq : ∀ q, (wr.drewN q).cell? ⟨g, off, none⟩ = some (.int .u8 83) := fun q => (HR.out.below.cell (p := ⟨g, off, none⟩) (block_lt_of_cell CW0.out)).trans CW0.out
      have nr : ∀ q, RD w bz (wr.drewN q) := fun q => HR.out.next (below_draws (Below.refl _ _) q)
      have NR := Lib.hid nr
      clear nr
      go_wp2_with fail
      go_quiet (fail)
      go_wp2_with fail
      exact ⟨⟨1, by decide, rfl, NR.out _⟩, by simp [intOf]⟩
    · skip
      obtain rfl : j = 1 := by omega
      clear j0
      have W6 := Lib.hid HR.out.whole
      have B6 := Lib.hid HR.out.below
      go_wp2_with ((with_reducible show wpList _ _ _ (⟨none, _, _, _, _, _⟩ :: _) _ _); refine wpList_store_as rfl 40 (.tmp 2) (.tmp 47) rfl bz 0 #[.int .i64 0, .int .u32 0, .int .u64 0, .int .u64 0, .int .u64 0, .string ⟨#[]⟩] rfl rfl (Whole.there W6.out 0 6 (Nat.le_refl 6)) recInfo (by simp [Value.oneCell']) ?_; intro w7 hw7; have HW7 := Lib.hid hw7; clear hw7)
      have wf7 : Whole w7 bz 40 [.int .i64 0, .int .u32 0, .int .u64 0, .int .u64 0, .int .u64 0, .string ⟨#[]⟩] := by
        rw [← HW7.out]
        exact Whole.lay [.int .i64 0, .int .u32 0, .int .u64 0, .int .u64 0, .int .u64 0, .string ⟨#[]⟩] 0 W6.out (by decide)
      have b7 : Below w.heap.size w w7 := by
        rw [← HW7.out]
        exact below_lay _ _ _ B6.out (by rw [HBZ.out]; exact Nat.le_refl _)
      exact rdec_ret rfl rfl rfl rfl wf7 rfl ⟨rfl, b7⟩
set_option maxRecDepth 100000 in
set_option maxHeartbeats 4000000 in
theorem rd_short2 (a : Option Addr) (n cap : Nat) (l : List Int) (w : World) (hl : Leads w a l) (hb : Byte l) (hn : l.length = n) (hc : n ≤ cap) (hm : n ≤ 1000000000) (m0 : l.getD 0 0 = 83) (m1 : l.getD 1 0 = 82) (h1 : begB l = true) (h2 : n = 2) :
    Calls Tryz.prog 79 #[.slice a n cap] w (DecOut w (dec l)) := by
  have hd : dec l = (zeroRec, 0, 11) := by unfold dec; rw [if_neg (by rw [h1]; simp), if_pos (by omega)]
  rw [hd]
  clear hd
  obtain ⟨g, off, rfl, hA⟩ := hl.at_ (by omega)
  have HA : At w g off l := hA
  have cw0 : w.cell? ⟨g, off, none⟩ = some (.int .u8 83) := by
    have h := hA 0 (by omega)
    rw [m0] at h
    exact h
  have cw1 : w.cell? ⟨g, off + 1, none⟩ = some (.int .u8 82) := by
    have h := hA 1 (by omega)
    rw [m1] at h
    exact h
  have n0 : (0 : Int) < (n : Int) := by omega
  have n1 : (1 : Int) < (n : Int) := by omega
  have nn0 : 0 < n := by omega
  have nn1 : 1 < n := by omega
  have h39 : (n : Int) < 39 := by omega
  have h3 : ¬ (2 : Int) < (n : Int) := by omega
  clear h1 h2
  have CW0 := Lib.hid cw0
  have CW1 := Lib.hid cw1
  have HB := Lib.hid hb
  have HN := Lib.hid hn
  have HL := Lib.hid hl
  have HAT := Lib.hid HA
  clear HA hA
  clear cw0
  clear cw1
  clear m0
  clear m1
  clear hb hn hl hm
  obtain ⟨bz, hbz⟩ : ∃ bz, w.heap.size = bz := ⟨_, rfl⟩
  have r0 : RD w bz (w.alloc (.cells #[.int .i64 0, .int .u32 0, .int .u64 0, .int .u64 0, .int .u64 0, .string ⟨#[]⟩] 40)) := ⟨Whole.new_ hbz.symm rfl, (Below.refl _ _).alloc (Nat.le_refl _) _⟩
  have R0 := Lib.hid r0
  have HBZ := Lib.hid hbz
  clear r0
  go_enter Tryz.func79, Tryz.ntmps79
  go_wp2_with fail
  clear hbz
  go_loopw [6] (fun i wr => ∃ j : Nat, j ≤ 2 ∧ i = .int .i64 (j : Int) ∧ RD w bz wr) (fun i _ => 2 - (intOf i).toNat)
  case atStart => exact ⟨0, by decide, rfl, R0.out⟩
  case round =>
    obtain ⟨j, hj, rfl, hr⟩ := hrel
    have HR := Lib.hid hr
    clear hr
    by_cases j0 : j = 0
    · subst j0
      have cq : ∀ q, (wr.drewN q).cell? ⟨g, off, none⟩ = some (.int .u8 83) := fun q => (HR.out.below.cell (p := ⟨g, off, none⟩) (block_lt_of_cell CW0.out)).trans CW0.out
      have nr : ∀ q, RD w bz (wr.drewN q) := fun q => HR.out.next (below_draws (Below.refl _ _) q)
      have NR := Lib.hid nr
      clear nr
      go_wp2_with fail
      go_quiet (fail)
      go_wp2_with fail
      exact ⟨⟨1, by decide, rfl, NR.out _⟩, by simp [intOf]⟩
    · skip
      by_cases j1 : j = 1
      · subst j1
        have cq : ∀ q, (wr.drewN q).cell? ⟨g, off + 1, none⟩ = some (.int .u8 82) := fun q => (HR.out.below.cell (p := ⟨g, off + 1, none⟩) (block_lt_of_cell CW1.out)).trans CW1.out
        have nr : ∀ q, RD w bz (wr.drewN q) := fun q => HR.out.next (below_draws (Below.refl _ _) q)
        have NR := Lib.hid nr
        clear nr
        go_wp2_with fail
        go_quiet (fail)
        go_wp2_with fail
        exact ⟨⟨2, by decide, rfl, NR.out _⟩, by simp [intOf]⟩
      · skip
        obtain rfl : j = 2 := by omega
        clear j0
        clear j1
        have W6 := Lib.hid HR.out.whole
        have B6 := Lib.hid HR.out.below
        go_wp2_with ((with_reducible show wpList _ _ _ (⟨none, _, _, _, _, _⟩ :: _) _ _); refine wpList_store_as rfl 40 (.tmp 2) (.tmp 47) rfl bz 0 #[.int .i64 0, .int .u32 0, .int .u64 0, .int .u64 0, .int .u64 0, .string ⟨#[]⟩] rfl rfl (Whole.there W6.out 0 6 (Nat.le_refl 6)) recInfo (by simp [Value.oneCell']) ?_; intro w7 hw7; have HW7 := Lib.hid hw7; clear hw7)
        have wf7 : Whole w7 bz 40 [.int .i64 0, .int .u32 0, .int .u64 0, .int .u64 0, .int .u64 0, .string ⟨#[]⟩] := by
          rw [← HW7.out]
          exact Whole.lay [.int .i64 0, .int .u32 0, .int .u64 0, .int .u64 0, .int .u64 0, .string ⟨#[]⟩] 0 W6.out (by decide)
        have b7 : Below w.heap.size w w7 := by
          rw [← HW7.out]
          exact below_lay _ _ _ B6.out (by rw [HBZ.out]; exact Nat.le_refl _)
        exact rdec_ret rfl rfl rfl rfl wf7 rfl ⟨rfl, b7⟩
set_option maxRecDepth 100000 in
set_option maxHeartbeats 4000000 in
theorem rd_kind_lo (a : Option Addr) (n cap : Nat) (l : List Int) (w : World) (hl : Leads w a l) (hb : Byte l) (hn : l.length = n) (hc : n ≤ cap) (hm : n ≤ 1000000000) (m0 : l.getD 0 0 = 83) (m1 : l.getD 1 0 = 82) (h1 : begB l = false) (h2 : 2 < n) (hk : l.getD 2 0 < 1) :
    Calls Tryz.prog 79 #[.slice a n cap] w (DecOut w (dec l)) := by
  have hd : dec l = (zeroRec, 0, 4) := by unfold dec; rw [if_pos h1]
  rw [hd]
  clear hd
  obtain ⟨g, off, rfl, hA⟩ := hl.at_ (by omega)
  have HA : At w g off l := hA
  have cw0 : w.cell? ⟨g, off, none⟩ = some (.int .u8 83) := by
    have h := hA 0 (by omega)
    rw [m0] at h
    exact h
  have cw1 : w.cell? ⟨g, off + 1, none⟩ = some (.int .u8 82) := by
    have h := hA 1 (by omega)
    rw [m1] at h
    exact h
  have n0 : (0 : Int) < (n : Int) := by omega
  have n1 : (1 : Int) < (n : Int) := by omega
  have nn0 : 0 < n := by omega
  have nn1 : 1 < n := by omega
  have cw2 : w.cell? ⟨g, off + 2, none⟩ = some (.int .u8 (l.getD 2 0)) := hA 2 (by omega)
  have by2 := hb.at (i := 2) (by omega)
  obtain ⟨c2, hc2⟩ : ∃ c2, l.getD 2 0 = c2 := ⟨_, rfl⟩
  rw [hc2] at cw2 by2
  have CW2 := Lib.hid cw2
  have HC2 := Lib.hid hc2
  have n2 : (2 : Int) < (n : Int) := by omega
  have nn2 : 2 < n := by omega
  rw [hc2] at hk
  have k1 : c2 < 1 := by omega
  clear h1 h2 hk cw2 hc2
  have CW0 := Lib.hid cw0
  have CW1 := Lib.hid cw1
  have HB := Lib.hid hb
  have HN := Lib.hid hn
  have HL := Lib.hid hl
  have HAT := Lib.hid HA
  clear HA hA
  clear cw0
  clear cw1
  clear m0
  clear m1
  clear hb hn hl hm
  obtain ⟨bz, hbz⟩ : ∃ bz, w.heap.size = bz := ⟨_, rfl⟩
  have r0 : RD w bz (w.alloc (.cells #[.int .i64 0, .int .u32 0, .int .u64 0, .int .u64 0, .int .u64 0, .string ⟨#[]⟩] 40)) := ⟨Whole.new_ hbz.symm rfl, (Below.refl _ _).alloc (Nat.le_refl _) _⟩
  have R0 := Lib.hid r0
  have HBZ := Lib.hid hbz
  clear r0
  go_enter Tryz.func79, Tryz.ntmps79
  go_wp2_with fail
  clear hbz
  go_loopw [6] (fun i wr => ∃ j : Nat, j ≤ 2 ∧ i = .int .i64 (j : Int) ∧ RD w bz wr) (fun i _ => 2 - (intOf i).toNat)
  case atStart => exact ⟨0, by decide, rfl, R0.out⟩
  case round =>
    obtain ⟨j, hj, rfl, hr⟩ := hrel
    have HR := Lib.hid hr
    clear hr
    by_cases j0 : j = 0
    · subst j0
      have cq : ∀ q, (wr.drewN q).cell? ⟨g, off, none⟩ = some (.int .u8 83) := fun q => (HR.out.below.cell (p := ⟨g, off, none⟩) (block_lt_of_cell CW0.out)).trans CW0.out
      have nr : ∀ q, RD w bz (wr.drewN q) := fun q => HR.out.next (below_draws (Below.refl _ _) q)
      have NR := Lib.hid nr
      clear nr
      go_wp2_with fail
      go_quiet (fail)
      go_wp2_with fail
      exact ⟨⟨1, by decide, rfl, NR.out _⟩, by simp [intOf]⟩
    · skip
      by_cases j1 : j = 1
      · subst j1
        have cq : ∀ q, (wr.drewN q).cell? ⟨g, off + 1, none⟩ = some (.int .u8 82) := fun q => (HR.out.below.cell (p := ⟨g, off + 1, none⟩) (block_lt_of_cell CW1.out)).trans CW1.out
        have nr : ∀ q, RD w bz (wr.drewN q) := fun q => HR.out.next (below_draws (Below.refl _ _) q)
        have NR := Lib.hid nr
        clear nr
        go_wp2_with fail
        go_quiet (fail)
        go_wp2_with fail
        exact ⟨⟨2, by decide, rfl, NR.out _⟩, by simp [intOf]⟩
      · skip
        obtain rfl : j = 2 := by omega
        clear j0
        clear j1
        have c2w : wr.cell? ⟨g, off + 2, none⟩ = some (.int .u8 c2) := (HR.out.below.cell (p := ⟨g, off + 2, none⟩) (block_lt_of_cell CW2.out)).trans CW2.out
        have W6 := Lib.hid HR.out.whole
        have B6 := Lib.hid HR.out.below
        go_wp2_with ((with_reducible show wpList _ _ _ (⟨none, _, _, _, _, _⟩ :: _) _ _); refine wpList_store_as rfl 40 (.tmp 2) (.tmp 43) rfl bz 0 #[.int .i64 0, .int .u32 0, .int .u64 0, .int .u64 0, .int .u64 0, .string ⟨#[]⟩] rfl rfl (Whole.there W6.out 0 6 (Nat.le_refl 6)) recInfo (by simp [Value.oneCell']) ?_; intro w7 hw7; have HW7 := Lib.hid hw7; clear hw7)
        have wf7 : Whole w7 bz 40 [.int .i64 0, .int .u32 0, .int .u64 0, .int .u64 0, .int .u64 0, .string ⟨#[]⟩] := by
          rw [← HW7.out]
          exact Whole.lay [.int .i64 0, .int .u32 0, .int .u64 0, .int .u64 0, .int .u64 0, .string ⟨#[]⟩] 0 W6.out (by decide)
        have b7 : Below w.heap.size w w7 := by
          rw [← HW7.out]
          exact below_lay _ _ _ B6.out (by rw [HBZ.out]; exact Nat.le_refl _)
        exact rdec_ret rfl rfl rfl rfl wf7 rfl ⟨rfl, b7⟩
set_option maxRecDepth 100000 in
set_option maxHeartbeats 4000000 in
theorem rd_kind_hi (a : Option Addr) (n cap : Nat) (l : List Int) (w : World) (hl : Leads w a l) (hb : Byte l) (hn : l.length = n) (hc : n ≤ cap) (hm : n ≤ 1000000000) (m0 : l.getD 0 0 = 83) (m1 : l.getD 1 0 = 82) (h1 : begB l = false) (h2 : 2 < n) (hk : 4 < l.getD 2 0) :
    Calls Tryz.prog 79 #[.slice a n cap] w (DecOut w (dec l)) := by
  have hd : dec l = (zeroRec, 0, 4) := by unfold dec; rw [if_pos h1]
  rw [hd]
  clear hd
  obtain ⟨g, off, rfl, hA⟩ := hl.at_ (by omega)
  have HA : At w g off l := hA
  have cw0 : w.cell? ⟨g, off, none⟩ = some (.int .u8 83) := by
    have h := hA 0 (by omega)
    rw [m0] at h
    exact h
  have cw1 : w.cell? ⟨g, off + 1, none⟩ = some (.int .u8 82) := by
    have h := hA 1 (by omega)
    rw [m1] at h
    exact h
  have n0 : (0 : Int) < (n : Int) := by omega
  have n1 : (1 : Int) < (n : Int) := by omega
  have nn0 : 0 < n := by omega
  have nn1 : 1 < n := by omega
  have cw2 : w.cell? ⟨g, off + 2, none⟩ = some (.int .u8 (l.getD 2 0)) := hA 2 (by omega)
  have by2 := hb.at (i := 2) (by omega)
  obtain ⟨c2, hc2⟩ : ∃ c2, l.getD 2 0 = c2 := ⟨_, rfl⟩
  rw [hc2] at cw2 by2
  have CW2 := Lib.hid cw2
  have HC2 := Lib.hid hc2
  have n2 : (2 : Int) < (n : Int) := by omega
  have nn2 : 2 < n := by omega
  rw [hc2] at hk
  have k1 : ¬ c2 < 1 := by omega
  have k2 : 4 < c2 := by omega
  clear h1 h2 hk cw2 hc2
  have CW0 := Lib.hid cw0
  have CW1 := Lib.hid cw1
  have HB := Lib.hid hb
  have HN := Lib.hid hn
  have HL := Lib.hid hl
  have HAT := Lib.hid HA
  clear HA hA
  clear cw0
  clear cw1
  clear m0
  clear m1
  clear hb hn hl hm
  obtain ⟨bz, hbz⟩ : ∃ bz, w.heap.size = bz := ⟨_, rfl⟩
  have r0 : RD w bz (w.alloc (.cells #[.int .i64 0, .int .u32 0, .int .u64 0, .int .u64 0, .int .u64 0, .string ⟨#[]⟩] 40)) := ⟨Whole.new_ hbz.symm rfl, (Below.refl _ _).alloc (Nat.le_refl _) _⟩
  have R0 := Lib.hid r0
  have HBZ := Lib.hid hbz
  clear r0
  go_enter Tryz.func79, Tryz.ntmps79
  go_wp2_with fail
  clear hbz
  go_loopw [6] (fun i wr => ∃ j : Nat, j ≤ 2 ∧ i = .int .i64 (j : Int) ∧ RD w bz wr) (fun i _ => 2 - (intOf i).toNat)
  case atStart => exact ⟨0, by decide, rfl, R0.out⟩
  case round =>
    obtain ⟨j, hj, rfl, hr⟩ := hrel
    have HR := Lib.hid hr
    clear hr
    by_cases j0 : j = 0
    · subst j0
      have cq : ∀ q, (wr.drewN q).cell? ⟨g, off, none⟩ = some (.int .u8 83) := fun q => (HR.out.below.cell (p := ⟨g, off, none⟩) (block_lt_of_cell CW0.out)).trans CW0.out
      have nr : ∀ q, RD w bz (wr.drewN q) := fun q => HR.out.next (below_draws (Below.refl _ _) q)
      have NR := Lib.hid nr
      clear nr
      go_wp2_with fail
      go_quiet (fail)
      go_wp2_with fail
      exact ⟨⟨1, by decide, rfl, NR.out _⟩, by simp [intOf]⟩
    · skip
      by_cases j1 : j = 1
      · subst j1
        have cq : ∀ q, (wr.drewN q).cell? ⟨g, off + 1, none⟩ = some (.int .u8 82) := fun q => (HR.out.below.cell (p := ⟨g, off + 1, none⟩) (block_lt_of_cell CW1.out)).trans CW1.out
        have nr : ∀ q, RD w bz (wr.drewN q) := fun q => HR.out.next (below_draws (Below.refl _ _) q)
        have NR := Lib.hid nr
        clear nr
        go_wp2_with fail
        go_quiet (fail)
        go_wp2_with fail
        exact ⟨⟨2, by decide, rfl, NR.out _⟩, by simp [intOf]⟩
      · skip
        obtain rfl : j = 2 := by omega
        clear j0
        clear j1
        have c2w : wr.cell? ⟨g, off + 2, none⟩ = some (.int .u8 c2) := (HR.out.below.cell (p := ⟨g, off + 2, none⟩) (block_lt_of_cell CW2.out)).trans CW2.out
        have W6 := Lib.hid HR.out.whole
        have B6 := Lib.hid HR.out.below
        go_wp2_with ((with_reducible show wpList _ _ _ (⟨none, _, _, _, _, _⟩ :: _) _ _); refine wpList_store_as rfl 40 (.tmp 2) (.tmp 43) rfl bz 0 #[.int .i64 0, .int .u32 0, .int .u64 0, .int .u64 0, .int .u64 0, .string ⟨#[]⟩] rfl rfl (Whole.there W6.out 0 6 (Nat.le_refl 6)) recInfo (by simp [Value.oneCell']) ?_; intro w7 hw7; have HW7 := Lib.hid hw7; clear hw7)
        have wf7 : Whole w7 bz 40 [.int .i64 0, .int .u32 0, .int .u64 0, .int .u64 0, .int .u64 0, .string ⟨#[]⟩] := by
          rw [← HW7.out]
          exact Whole.lay [.int .i64 0, .int .u32 0, .int .u64 0, .int .u64 0, .int .u64 0, .string ⟨#[]⟩] 0 W6.out (by decide)
        have b7 : Below w.heap.size w w7 := by
          rw [← HW7.out]
          exact below_lay _ _ _ B6.out (by rw [HBZ.out]; exact Nat.le_refl _)
        exact rdec_ret rfl rfl rfl rfl wf7 rfl ⟨rfl, b7⟩
set_option maxRecDepth 100000 in
set_option maxHeartbeats 4000000 in
theorem rd_short3 (a : Option Addr) (n cap : Nat) (l : List Int) (w : World) (hl : Leads w a l) (hb : Byte l) (hn : l.length = n) (hc : n ≤ cap) (hm : n ≤ 1000000000) (m0 : l.getD 0 0 = 83) (m1 : l.getD 1 0 = 82) (h1 : begB l = true) (h2 : 2 < n) (h39 : n < 39) (hk1 : 1 ≤ l.getD 2 0) (hk2 : l.getD 2 0 ≤ 4) :
    Calls Tryz.prog 79 #[.slice a n cap] w (DecOut w (dec l)) := by
  have hd : dec l = (zeroRec, 0, 11) := by unfold dec; rw [if_neg (by rw [h1]; simp), if_pos (by omega)]
  rw [hd]
  clear hd
  obtain ⟨g, off, rfl, hA⟩ := hl.at_ (by omega)
  have HA : At w g off l := hA
  have cw0 : w.cell? ⟨g, off, none⟩ = some (.int .u8 83) := by
    have h := hA 0 (by omega)
    rw [m0] at h
    exact h
  have cw1 : w.cell? ⟨g, off + 1, none⟩ = some (.int .u8 82) := by
    have h := hA 1 (by omega)
    rw [m1] at h
    exact h
  have n0 : (0 : Int) < (n : Int) := by omega
  have n1 : (1 : Int) < (n : Int) := by omega
  have nn0 : 0 < n := by omega
  have nn1 : 1 < n := by omega
  have cw2 : w.cell? ⟨g, off + 2, none⟩ = some (.int .u8 (l.getD 2 0)) := hA 2 (by omega)
  have by2 := hb.at (i := 2) (by omega)
  obtain ⟨c2, hc2⟩ : ∃ c2, l.getD 2 0 = c2 := ⟨_, rfl⟩
  rw [hc2] at cw2 by2
  have CW2 := Lib.hid cw2
  have HC2 := Lib.hid hc2
  have n2 : (2 : Int) < (n : Int) := by omega
  have nn2 : 2 < n := by omega
  rw [hc2] at hk1 hk2
  have k1 : ¬ c2 < 1 := by omega
  have k2 : ¬ 4 < c2 := by omega
  have h39 : (n : Int) < 39 := by omega
  clear h1 h2 cw2 hc2 hk1 hk2
  have CW0 := Lib.hid cw0
  have CW1 := Lib.hid cw1
  have HB := Lib.hid hb
  have HN := Lib.hid hn
  have HL := Lib.hid hl
  have HAT := Lib.hid HA
  clear HA hA
  clear cw0
  clear cw1
  clear m0
  clear m1
  clear hb hn hl hm
  obtain ⟨bz, hbz⟩ : ∃ bz, w.heap.size = bz := ⟨_, rfl⟩
  have r0 : RD w bz (w.alloc (.cells #[.int .i64 0, .int .u32 0, .int .u64 0, .int .u64 0, .int .u64 0, .string ⟨#[]⟩] 40)) := ⟨Whole.new_ hbz.symm rfl, (Below.refl _ _).alloc (Nat.le_refl _) _⟩
  have R0 := Lib.hid r0
  have HBZ := Lib.hid hbz
  clear r0
  go_enter Tryz.func79, Tryz.ntmps79
  go_wp2_with fail
  clear hbz
  go_loopw [6] (fun i wr => ∃ j : Nat, j ≤ 2 ∧ i = .int .i64 (j : Int) ∧ RD w bz wr) (fun i _ => 2 - (intOf i).toNat)
  case atStart => exact ⟨0, by decide, rfl, R0.out⟩
  case round =>
    obtain ⟨j, hj, rfl, hr⟩ := hrel
    have HR := Lib.hid hr
    clear hr
    by_cases j0 : j = 0
    · subst j0
      have cq : ∀ q, (wr.drewN q).cell? ⟨g, off, none⟩ = some (.int .u8 83) := fun q => (HR.out.below.cell (p := ⟨g, off, none⟩) (block_lt_of_cell CW0.out)).trans CW0.out
      have nr : ∀ q, RD w bz (wr.drewN q) := fun q => HR.out.next (below_draws (Below.refl _ _) q)
      have NR := Lib.hid nr
      clear nr
      go_wp2_with fail
      go_quiet (fail)
      go_wp2_with fail
      exact ⟨⟨1, by decide, rfl, NR.out _⟩, by simp [intOf]⟩
    · skip
      by_cases j1 : j = 1
      · subst j1
        have cq : ∀ q, (wr.drewN q).cell? ⟨g, off + 1, none⟩ = some (.int .u8 82) := fun q => (HR.out.below.cell (p := ⟨g, off + 1, none⟩) (block_lt_of_cell CW1.out)).trans CW1.out
        have nr : ∀ q, RD w bz (wr.drewN q) := fun q => HR.out.next (below_draws (Below.refl _ _) q)
        have NR := Lib.hid nr
        clear nr
        go_wp2_with fail
        go_quiet (fail)
        go_wp2_with fail
        exact ⟨⟨2, by decide, rfl, NR.out _⟩, by simp [intOf]⟩
      · skip
        obtain rfl : j = 2 := by omega
        clear j0
        clear j1
        have c2w : wr.cell? ⟨g, off + 2, none⟩ = some (.int .u8 c2) := (HR.out.below.cell (p := ⟨g, off + 2, none⟩) (block_lt_of_cell CW2.out)).trans CW2.out
        have W6 := Lib.hid HR.out.whole
        have B6 := Lib.hid HR.out.below
        go_wp2_with ((with_reducible show wpList _ _ _ (⟨none, _, _, _, _, _⟩ :: _) _ _); refine wpList_store_as rfl 40 (.tmp 2) (.tmp 47) rfl bz 0 #[.int .i64 0, .int .u32 0, .int .u64 0, .int .u64 0, .int .u64 0, .string ⟨#[]⟩] rfl rfl (Whole.there W6.out 0 6 (Nat.le_refl 6)) recInfo (by simp [Value.oneCell']) ?_; intro w7 hw7; have HW7 := Lib.hid hw7; clear hw7)
        have wf7 : Whole w7 bz 40 [.int .i64 0, .int .u32 0, .int .u64 0, .int .u64 0, .int .u64 0, .string ⟨#[]⟩] := by
          rw [← HW7.out]
          exact Whole.lay [.int .i64 0, .int .u32 0, .int .u64 0, .int .u64 0, .int .u64 0, .string ⟨#[]⟩] 0 W6.out (by decide)
        have b7 : Below w.heap.size w w7 := by
          rw [← HW7.out]
          exact below_lay _ _ _ B6.out (by rw [HBZ.out]; exact Nat.le_refl _)
        exact rdec_ret rfl rfl rfl rfl wf7 rfl ⟨rfl, b7⟩
theorem At.alloc2 {W : World} {g off o2 : Nat} {l : List Int} {v : Value} (h : Hid (At W g off l) ∧ W.cell? ⟨g, o2, none⟩ = some v) (o : Obj) : Hid (At (W.alloc o) g off l) ∧ (W.alloc o).cell? ⟨g, o2, none⟩ = some v := by
  refine ⟨At.alloc h.1.out o, ?_⟩
  exact (World.cell?_of_block (a := ⟨g, o2, none⟩) (heap_alloc_old W o (block_lt_of_cell h.2))).trans h.2
theorem val_one (c : Int) (h : 0 ≤ c ∧ c < 256) : ((val [c] : Nat) : Int) = c := by
  show ((0 * 256 + c.toNat : Nat) : Int) = c
  omega
theorem kind_of {l : List Int} (hb : Byte l) (h : 3 ≤ l.length) : (headOf l).kind = l.getD 2 0 := by
  have e : sub l 2 3 = [l.getD 2 0] := by
    unfold sub
    rw [List.drop_eq_getElem_cons (by omega : 2 < l.length), List.getD_eq_getElem?_getD, List.getElem?_eq_getElem (by omega : 2 < l.length)]
    rfl
  show ((val (sub l 2 3) : Nat) : Int) = _
  rw [e]
  exact val_one _ (hb.at (by omega))
/-- Behind the reference's first reading. -/
def Mid (w : World) (bz g off : Nat) (l : List Int) (vs : List Value) (x : Value) (wx : World) : Prop := ∃ q, x = .pointer (some ⟨q, 0, none⟩) ∧ bz < q ∧ w.heap.size ≤ q ∧ RD w bz wx ∧ Whole wx q 40 vs

set_option maxRecDepth 100000 in
set_option maxHeartbeats 4000000 in
theorem rd_len (a : Option Addr) (n cap : Nat) (l : List Int) (w : World) (hl : Leads w a l) (hb : Byte l) (hn : l.length = n) (hc : n ≤ cap) (hm : n ≤ 1000000000) (m0 : l.getD 0 0 = 83) (m1 : l.getD 1 0 = 82) (h1 : begB l = true) (h2 : 2 < n) (h39 : 39 ≤ n) (hk1 : 1 ≤ l.getD 2 0) (hk2 : l.getD 2 0 ≤ 4) (h4 : 1000 < lenOf l) :
    Calls Tryz.prog 79 #[.slice a n cap] w (DecOut w (dec l)) := by
  have hd : dec l = (zeroRec, 0, 4) := by unfold dec; rw [if_neg (by rw [h1]; simp), if_neg (by omega), if_pos (.inr h4)]
  rw [hd]
  clear hd
  obtain ⟨g, off, rfl, hA⟩ := hl.at_ (by omega)
  have HA : At w g off l := hA
  have cw0 : w.cell? ⟨g, off, none⟩ = some (.int .u8 83) := by
    have h := hA 0 (by omega)
    rw [m0] at h
    exact h
  have cw1 : w.cell? ⟨g, off + 1, none⟩ = some (.int .u8 82) := by
    have h := hA 1 (by omega)
    rw [m1] at h
    exact h
  have n0 : (0 : Int) < (n : Int) := by omega
  have n1 : (1 : Int) < (n : Int) := by omega
  have nn0 : 0 < n := by omega
  have nn1 : 1 < n := by omega
  have cw2 : w.cell? ⟨g, off + 2, none⟩ = some (.int .u8 (l.getD 2 0)) := hA 2 (by omega)
  have by2 := hb.at (i := 2) (by omega)
  obtain ⟨c2, hc2⟩ : ∃ c2, l.getD 2 0 = c2 := ⟨_, rfl⟩
  rw [hc2] at cw2 by2
  have CW2 := Lib.hid cw2
  have HC2 := Lib.hid hc2
  have n2 : (2 : Int) < (n : Int) := by omega
  have nn2 : 2 < n := by omega
  rw [hc2] at hk1 hk2
  have k1 : ¬ c2 < 1 := by omega
  have k2 : ¬ 4 < c2 := by omega
  have h39I : ¬ (n : Int) < 39 := by omega
  have hll := lenOf_lt hb (by omega)
  obtain ⟨m, hml⟩ : ∃ m, lenOf l = m := ⟨_, rfl⟩
  rw [hml] at hll h4
  have HML := Lib.hid hml
  obtain ⟨e, he⟩ : ∃ e, val (sub l 7 15) = e := ⟨_, rfl⟩
  obtain ⟨o, ho⟩ : ∃ o, val (sub l 15 23) = o := ⟨_, rfl⟩
  obtain ⟨s, hs⟩ : ∃ s, val (sub l 23 31) = s := ⟨_, rfl⟩
  have hcap : 39 ≤ cap := by omega
  have cM := fun W => rMay_any ⟨c2, 0, e, o, s, ⟨#[]⟩⟩ W ⟨⟨by show -9223372036854775808 ≤ c2; omega, by show c2 ≤ 9223372036854775807; omega⟩, by show 0 < 4294967296; decide, by show (0 : Nat) ≤ maxLen; exact Nat.zero_le _⟩
  have h4I : (1000 : Int) < (m : Int) := by omega
  unfold Rec.val at cM
  simp only at cM
  have CM := Lib.hid cM
  have HE := Lib.hid he
  have HO := Lib.hid ho
  have HS := Lib.hid hs
  have s1 : ∀ W, (Instr.slice 57 (.slice (some ⟨g, off, none⟩) n cap) (some (.int .i64 7)) (some (.int .i64 15)) none).run Tryz.prog W = .ok (.slice (some ⟨g, off + 7, none⟩) 8 (cap - 7)) W := run_sub g off n cap 7 15 (by omega) (by omega)
  have s2 : ∀ W, (Instr.slice 57 (.slice (some ⟨g, off, none⟩) n cap) (some (.int .i64 15)) (some (.int .i64 23)) none).run Tryz.prog W = .ok (.slice (some ⟨g, off + 15, none⟩) 8 (cap - 15)) W := run_sub g off n cap 15 23 (by omega) (by omega)
  have s3 : ∀ W, (Instr.slice 57 (.slice (some ⟨g, off, none⟩) n cap) (some (.int .i64 23)) (some (.int .i64 31)) none).run Tryz.prog W = .ok (.slice (some ⟨g, off + 23, none⟩) 8 (cap - 23)) W := run_sub g off n cap 23 31 (by omega) (by omega)
  have s6 : ∀ W, (Instr.slice 57 (.slice (some ⟨g, off, none⟩) n cap) (some (.int .i64 31)) (some (.int .i64 35)) none).run Tryz.prog W = .ok (.slice (some ⟨g, off + 31, none⟩) 4 (cap - 31)) W := run_sub g off n cap 31 35 (by omega) (by omega)
  have HNM := Lib.hid hm
  have HN39 := Lib.hid h39
  clear h1 h2 cw2 hc2 hk1 hk2 hml hll he ho hs cM h39 h4
  have CW0 := Lib.hid cw0
  have CW1 := Lib.hid cw1
  have HB := Lib.hid hb
  have HN := Lib.hid hn
  have HL := Lib.hid hl
  have HAT := Lib.hid HA
  clear HA hA
  clear cw0
  clear cw1
  clear m0
  clear m1
  clear hb hn hl hm
  obtain ⟨bz, hbz⟩ : ∃ bz, w.heap.size = bz := ⟨_, rfl⟩
  have r0 : RD w bz (w.alloc (.cells #[.int .i64 0, .int .u32 0, .int .u64 0, .int .u64 0, .int .u64 0, .string ⟨#[]⟩] 40)) := ⟨Whole.new_ hbz.symm rfl, (Below.refl _ _).alloc (Nat.le_refl _) _⟩
  have R0 := Lib.hid r0
  have HBZ := Lib.hid hbz
  clear r0
  go_enter Tryz.func79, Tryz.ntmps79
  go_wp2_with fail
  clear hbz
  go_loopw [6] (fun i wr => ∃ j : Nat, j ≤ 2 ∧ i = .int .i64 (j : Int) ∧ RD w bz wr) (fun i _ => 2 - (intOf i).toNat)
  case atStart => exact ⟨0, by decide, rfl, R0.out⟩
  case round =>
    obtain ⟨j, hj, rfl, hr⟩ := hrel
    have HR := Lib.hid hr
    clear hr
    by_cases j0 : j = 0
    · subst j0
      have cq : ∀ q, (wr.drewN q).cell? ⟨g, off, none⟩ = some (.int .u8 83) := fun q => (HR.out.below.cell (p := ⟨g, off, none⟩) (block_lt_of_cell CW0.out)).trans CW0.out
      have nr : ∀ q, RD w bz (wr.drewN q) := fun q => HR.out.next (below_draws (Below.refl _ _) q)
      have NR := Lib.hid nr
      clear nr
      go_wp2_with fail
      go_quiet (fail)
      go_wp2_with fail
      exact ⟨⟨1, by decide, rfl, NR.out _⟩, by simp [intOf]⟩
    · skip
      by_cases j1 : j = 1
      · subst j1
        have cq : ∀ q, (wr.drewN q).cell? ⟨g, off + 1, none⟩ = some (.int .u8 82) := fun q => (HR.out.below.cell (p := ⟨g, off + 1, none⟩) (block_lt_of_cell CW1.out)).trans CW1.out
        have nr : ∀ q, RD w bz (wr.drewN q) := fun q => HR.out.next (below_draws (Below.refl _ _) q)
        have NR := Lib.hid nr
        clear nr
        go_wp2_with fail
        go_quiet (fail)
        go_wp2_with fail
        exact ⟨⟨2, by decide, rfl, NR.out _⟩, by simp [intOf]⟩
      · skip
        obtain rfl : j = 2 := by omega
        clear j0
        clear j1
        have c2w : wr.cell? ⟨g, off + 2, none⟩ = some (.int .u8 c2) := (HR.out.below.cell (p := ⟨g, off + 2, none⟩) (block_lt_of_cell CW2.out)).trans CW2.out
        go_wp2_with fail
        refine (rget_at _ 4 (sub l 31 35) (sub_length l 31 35 (by rw [HN.out]; have := HN39.out; omega)) _ _ (At.sub (HAT.out.later HR.out.below) 31 35 (by omega) (by rw [HN.out]; have := HN39.out; omega)) (sub_byte HB.out 31 35) (by omega)).mono ?_
        rintro en w' ⟨rfl, rfl⟩
        rw [show val (sub l 31 35) = lenOf l from rfl, HML.out]
        have W6 := Lib.hid HR.out.whole
        have B6 := Lib.hid HR.out.below
        go_wp2_with ((with_reducible show wpList _ _ _ (⟨none, _, _, _, _, _⟩ :: _) _ _); refine wpList_store_as rfl 40 (.tmp 2) (.tmp 53) rfl bz 0 #[.int .i64 0, .int .u32 0, .int .u64 0, .int .u64 0, .int .u64 0, .string ⟨#[]⟩] rfl rfl (Whole.there W6.out 0 6 (Nat.le_refl 6)) recInfo (by simp [Value.oneCell']) ?_; intro w7 hw7; have HW7 := Lib.hid hw7; clear hw7)
        have wf7 : Whole w7 bz 40 [.int .i64 0, .int .u32 0, .int .u64 0, .int .u64 0, .int .u64 0, .string ⟨#[]⟩] := by
          rw [← HW7.out]
          exact Whole.lay [.int .i64 0, .int .u32 0, .int .u64 0, .int .u64 0, .int .u64 0, .string ⟨#[]⟩] 0 W6.out (by decide)
        have b7 : Below w.heap.size w w7 := by
          rw [← HW7.out]
          exact below_lay _ _ _ B6.out (by rw [HBZ.out]; exact Nat.le_refl _)
        exact rdec_ret rfl rfl rfl rfl wf7 rfl ⟨rfl, b7⟩
set_option maxRecDepth 100000 in
set_option maxHeartbeats 4000000 in
theorem rd_num (a : Option Addr) (n cap : Nat) (l : List Int) (w : World) (hl : Leads w a l) (hb : Byte l) (hn : l.length = n) (hc : n ≤ cap) (hm : n ≤ 1000000000) (m0 : l.getD 0 0 = 83) (m1 : l.getD 1 0 = 82) (h1 : begB l = true) (h2 : 2 < n) (h39 : 39 ≤ n) (hk1 : 1 ≤ l.getD 2 0) (hk2 : l.getD 2 0 ≤ 4) (h4 : lenOf l ≤ 1000) (h3 : numB (headOf l) = false) :
    Calls Tryz.prog 79 #[.slice a n cap] w (DecOut w (dec l)) := by
  have hd : dec l = (zeroRec, 0, 4) := by unfold dec; rw [if_neg (by rw [h1]; simp), if_neg (by omega), if_pos (.inl h3)]
  rw [hd]
  clear hd
  obtain ⟨g, off, rfl, hA⟩ := hl.at_ (by omega)
  have HA : At w g off l := hA
  have cw0 : w.cell? ⟨g, off, none⟩ = some (.int .u8 83) := by
    have h := hA 0 (by omega)
    rw [m0] at h
    exact h
  have cw1 : w.cell? ⟨g, off + 1, none⟩ = some (.int .u8 82) := by
    have h := hA 1 (by omega)
    rw [m1] at h
    exact h
  have n0 : (0 : Int) < (n : Int) := by omega
  have n1 : (1 : Int) < (n : Int) := by omega
  have nn0 : 0 < n := by omega
  have nn1 : 1 < n := by omega
  have cw2 : w.cell? ⟨g, off + 2, none⟩ = some (.int .u8 (l.getD 2 0)) := hA 2 (by omega)
  have by2 := hb.at (i := 2) (by omega)
  obtain ⟨c2, hc2⟩ : ∃ c2, l.getD 2 0 = c2 := ⟨_, rfl⟩
  rw [hc2] at cw2 by2
  have CW2 := Lib.hid cw2
  have HC2 := Lib.hid hc2
  have n2 : (2 : Int) < (n : Int) := by omega
  have nn2 : 2 < n := by omega
  rw [hc2] at hk1 hk2
  have k1 : ¬ c2 < 1 := by omega
  have k2 : ¬ 4 < c2 := by omega
  have h39I : ¬ (n : Int) < 39 := by omega
  have hll := lenOf_lt hb (by omega)
  obtain ⟨m, hml⟩ : ∃ m, lenOf l = m := ⟨_, rfl⟩
  rw [hml] at hll h4
  have HML := Lib.hid hml
  obtain ⟨e, he⟩ : ∃ e, val (sub l 7 15) = e := ⟨_, rfl⟩
  obtain ⟨o, ho⟩ : ∃ o, val (sub l 15 23) = o := ⟨_, rfl⟩
  obtain ⟨s, hs⟩ : ∃ s, val (sub l 23 31) = s := ⟨_, rfl⟩
  have hcap : 39 ≤ cap := by omega
  have cM := fun W => rMay_any ⟨c2, 0, e, o, s, ⟨#[]⟩⟩ W ⟨⟨by show -9223372036854775808 ≤ c2; omega, by show c2 ≤ 9223372036854775807; omega⟩, by show 0 < 4294967296; decide, by show (0 : Nat) ≤ maxLen; exact Nat.zero_le _⟩
  have h4I : (m : Int) ≤ 1000 := by omega
  have hnum : mayB ⟨c2, 0, e, o, s, ⟨#[]⟩⟩ = false := by
    have hk := kind_of hb (by omega)
    rw [hc2] at hk
    unfold mayB
    rw [show numB ⟨c2, 0, e, o, s, ⟨#[]⟩⟩ = false by rw [← h3, ← hk, ← he, ← ho, ← hs]; rfl]; rfl
  rw [hnum] at cM
  unfold Rec.val at cM
  simp only at cM
  have CM := Lib.hid cM
  have HE := Lib.hid he
  have HO := Lib.hid ho
  have HS := Lib.hid hs
  have s1 : ∀ W, (Instr.slice 57 (.slice (some ⟨g, off, none⟩) n cap) (some (.int .i64 7)) (some (.int .i64 15)) none).run Tryz.prog W = .ok (.slice (some ⟨g, off + 7, none⟩) 8 (cap - 7)) W := run_sub g off n cap 7 15 (by omega) (by omega)
  have s2 : ∀ W, (Instr.slice 57 (.slice (some ⟨g, off, none⟩) n cap) (some (.int .i64 15)) (some (.int .i64 23)) none).run Tryz.prog W = .ok (.slice (some ⟨g, off + 15, none⟩) 8 (cap - 15)) W := run_sub g off n cap 15 23 (by omega) (by omega)
  have s3 : ∀ W, (Instr.slice 57 (.slice (some ⟨g, off, none⟩) n cap) (some (.int .i64 23)) (some (.int .i64 31)) none).run Tryz.prog W = .ok (.slice (some ⟨g, off + 23, none⟩) 8 (cap - 23)) W := run_sub g off n cap 23 31 (by omega) (by omega)
  have s6 : ∀ W, (Instr.slice 57 (.slice (some ⟨g, off, none⟩) n cap) (some (.int .i64 31)) (some (.int .i64 35)) none).run Tryz.prog W = .ok (.slice (some ⟨g, off + 31, none⟩) 4 (cap - 31)) W := run_sub g off n cap 31 35 (by omega) (by omega)
  have HNM := Lib.hid hm
  have HN39 := Lib.hid h39
  clear h1 h2 cw2 hc2 hk1 hk2 hml hll he ho hs cM h39 h4 h3 hnum
  have CW0 := Lib.hid cw0
  have CW1 := Lib.hid cw1
  have HB := Lib.hid hb
  have HN := Lib.hid hn
  have HL := Lib.hid hl
  have HAT := Lib.hid HA
  clear HA hA
  clear cw0
  clear cw1
  clear m0
  clear m1
  clear hb hn hl hm
  obtain ⟨bz, hbz⟩ : ∃ bz, w.heap.size = bz := ⟨_, rfl⟩
  have r0 : RD w bz (w.alloc (.cells #[.int .i64 0, .int .u32 0, .int .u64 0, .int .u64 0, .int .u64 0, .string ⟨#[]⟩] 40)) := ⟨Whole.new_ hbz.symm rfl, (Below.refl _ _).alloc (Nat.le_refl _) _⟩
  have R0 := Lib.hid r0
  have HBZ := Lib.hid hbz
  clear r0
  go_enter Tryz.func79, Tryz.ntmps79
  go_wp2_with fail
  clear hbz
  go_loopw [6] (fun i wr => ∃ j : Nat, j ≤ 2 ∧ i = .int .i64 (j : Int) ∧ RD w bz wr) (fun i _ => 2 - (intOf i).toNat)
  case atStart => exact ⟨0, by decide, rfl, R0.out⟩
  case round =>
    obtain ⟨j, hj, rfl, hr⟩ := hrel
    have HR := Lib.hid hr
    clear hr
    by_cases j0 : j = 0
    · subst j0
      have cq : ∀ q, (wr.drewN q).cell? ⟨g, off, none⟩ = some (.int .u8 83) := fun q => (HR.out.below.cell (p := ⟨g, off, none⟩) (block_lt_of_cell CW0.out)).trans CW0.out
      have nr : ∀ q, RD w bz (wr.drewN q) := fun q => HR.out.next (below_draws (Below.refl _ _) q)
      have NR := Lib.hid nr
      clear nr
      go_wp2_with fail
      go_quiet (fail)
      go_wp2_with fail
      exact ⟨⟨1, by decide, rfl, NR.out _⟩, by simp [intOf]⟩
    · skip
      by_cases j1 : j = 1
      · subst j1
        have cq : ∀ q, (wr.drewN q).cell? ⟨g, off + 1, none⟩ = some (.int .u8 82) := fun q => (HR.out.below.cell (p := ⟨g, off + 1, none⟩) (block_lt_of_cell CW1.out)).trans CW1.out
        have nr : ∀ q, RD w bz (wr.drewN q) := fun q => HR.out.next (below_draws (Below.refl _ _) q)
        have NR := Lib.hid nr
        clear nr
        go_wp2_with fail
        go_quiet (fail)
        go_wp2_with fail
        exact ⟨⟨2, by decide, rfl, NR.out _⟩, by simp [intOf]⟩
      · skip
        obtain rfl : j = 2 := by omega
        clear j0
        clear j1
        have c2w : wr.cell? ⟨g, off + 2, none⟩ = some (.int .u8 c2) := (HR.out.below.cell (p := ⟨g, off + 2, none⟩) (block_lt_of_cell CW2.out)).trans CW2.out
        go_wp2_with fail
        refine (rget_at _ 4 (sub l 31 35) (sub_length l 31 35 (by rw [HN.out]; have := HN39.out; omega)) _ _ (At.sub (HAT.out.later HR.out.below) 31 35 (by omega) (by rw [HN.out]; have := HN39.out; omega)) (sub_byte HB.out 31 35) (by omega)).mono ?_
        rintro en w' ⟨rfl, rfl⟩
        rw [show val (sub l 31 35) = lenOf l from rfl, HML.out]
        go_wp2_with fail
        go_cut [8] (fun x wx => Mid w bz g off l [.int .i64 c2, .int .u32 0, .int .u64 (e : Int), .int .u64 (o : Int), .int .u64 (s : Int), .string ⟨#[]⟩] x wx)
        case first =>
          have A1 : Hid (At wr.drew g off l) := (HAT.out.later HR.out.below).later (below_draws (Below.refl _ _) 1)
          have c2d : wr.drew.cell? ⟨g, off + 2, none⟩ = some (.int .u8 c2) := c2w
          have s0 : Hid (At wr g off l) ∧ wr.cell? ⟨g, off + 2, none⟩ = some (.int .u8 c2) := ⟨HAT.out.later HR.out.below, c2w⟩
          go_region_held3 (fun W => Hid (At W g off l) ∧ W.cell? ⟨g, off + 2, none⟩ = some (.int .u8 c2)) ((first | (constructor <;> assumption) | exact At.alloc2 (by assumption) _))
            (first
              | (go_at_call 82; (with_reducible refine (rget_at _ 8 _ (sub_length l 7 15 (by rw [HN.out]; have := HN39.out; omega)) _ _ (At.sub (Hid.out (And.left (b := _) (by assumption))) 7 15 (by omega) (by rw [HN.out]; have := HN39.out; omega)) (sub_byte HB.out 7 15) (by omega)).mono ?_); rintro e w' ⟨rfl, rfl⟩)
              | (go_at_call 82; (with_reducible refine (rget_at _ 8 _ (sub_length l 15 23 (by rw [HN.out]; have := HN39.out; omega)) _ _ (At.sub (Hid.out (And.left (b := _) (by assumption))) 15 23 (by omega) (by rw [HN.out]; have := HN39.out; omega)) (sub_byte HB.out 15 23) (by omega)).mono ?_); rintro e w' ⟨rfl, rfl⟩)
              | (go_at_call 82; (with_reducible refine (rget_at _ 8 _ (sub_length l 23 31 (by rw [HN.out]; have := HN39.out; omega)) _ _ (At.sub (Hid.out (And.left (b := _) (by assumption))) 23 31 (by omega) (by rw [HN.out]; have := HN39.out; omega)) (sub_byte HB.out 23 31) (by omega)).mono ?_); rintro e w' ⟨rfl, rfl⟩))
          all_goals
            go_wp2_with fail
            go_meet
            have ew : IntKind.i64.wrap c2 = c2 := by rw [IntKind.wrap_i64]; omega
            rw [ew, HE.out, HO.out, HS.out]
            have hb2 : Below wr.heap.size wr ((wr.alloc (.cells #[.int .i64 c2, .int .u32 0, .int .u64 (e : Int), .int .u64 (o : Int), .int .u64 (s : Int), .string ⟨#[]⟩] 40)).drew) := below_draws ((Below.refl _ _).alloc (Nat.le_refl _) _) 1
            exact ⟨wr.heap.size, rfl, HR.out.whole.lt, HR.out.below.size, HR.out.next hb2, (Whole.new_ rfl rfl).draws 1⟩
        case rest =>
          obtain ⟨q, rfl, hbq, hwq, r8, wq8⟩ := hcut
          have W8 := Lib.hid wq8
          have R8 := Lib.hid r8
          have HWQ := Lib.hid hwq
          clear r8 wq8 c2w hwq s1 s2 s3 s6
          go_wp2_with ((with_reducible show wpList _ _ _ (⟨some 68, _, _, _, _, _⟩ :: _) _ _); refine wpList_load_mid rfl 40 (.tmp 8) rfl q 0 rfl [.int .i64 c2, .int .u32 0, .int .u64 (e : Int), .int .u64 (o : Int), .int .u64 (s : Int), .string ⟨#[]⟩] _ (W8.out.range 0 6) Tryz.underlying40 rfl recInfo ?_)
          refine (CM.out _).mono ?_
          rintro en w9 ⟨rfl, b9⟩
          have W9 := Lib.hid (W8.out.kept b9)
          have R9 := Lib.hid (R8.out.next b9)
          clear b9 W8 R8 CM
          have W6 := Lib.hid R9.out.whole
          have B6 := Lib.hid R9.out.below
          go_wp2_with ((with_reducible show wpList _ _ _ (⟨none, _, _, _, _, _⟩ :: _) _ _); refine wpList_store_as rfl 40 (.tmp 2) (.tmp 71) rfl bz 0 #[.int .i64 0, .int .u32 0, .int .u64 0, .int .u64 0, .int .u64 0, .string ⟨#[]⟩] rfl rfl (Whole.there W6.out 0 6 (Nat.le_refl 6)) recInfo (by simp [Value.oneCell']) ?_; intro w7 hw7; have HW7 := Lib.hid hw7; clear hw7)
          have wf7 : Whole w7 bz 40 [.int .i64 0, .int .u32 0, .int .u64 0, .int .u64 0, .int .u64 0, .string ⟨#[]⟩] := by
            rw [← HW7.out]
            exact Whole.lay [.int .i64 0, .int .u32 0, .int .u64 0, .int .u64 0, .int .u64 0, .string ⟨#[]⟩] 0 W6.out (by decide)
          have b7 : Below w.heap.size w w7 := by
            rw [← HW7.out]
            exact below_lay _ _ _ B6.out (by rw [HBZ.out]; exact Nat.le_refl _)
          exact rdec_ret rfl rfl rfl rfl wf7 rfl ⟨rfl, b7⟩
set_option maxRecDepth 100000 in
set_option maxHeartbeats 4000000 in
theorem rd_more (a : Option Addr) (n cap : Nat) (l : List Int) (w : World) (hl : Leads w a l) (hb : Byte l) (hn : l.length = n) (hc : n ≤ cap) (hm : n ≤ 1000000000) (m0 : l.getD 0 0 = 83) (m1 : l.getD 1 0 = 82) (h1 : begB l = true) (h2 : 2 < n) (h39 : 39 ≤ n) (hk1 : 1 ≤ l.getD 2 0) (hk2 : l.getD 2 0 ≤ 4) (h4 : lenOf l ≤ 1000) (h3 : numB (headOf l) = true) (h5 : n < 39 + lenOf l) :
    Calls Tryz.prog 79 #[.slice a n cap] w (DecOut w (dec l)) := by
  have hd : dec l = (zeroRec, 0, 11) := by unfold dec; rw [if_neg (by rw [h1]; simp), if_neg (by omega), if_neg (by rw [h3]; simp; omega), if_pos (by omega)]
  rw [hd]
  clear hd
  obtain ⟨g, off, rfl, hA⟩ := hl.at_ (by omega)
  have HA : At w g off l := hA
  have cw0 : w.cell? ⟨g, off, none⟩ = some (.int .u8 83) := by
    have h := hA 0 (by omega)
    rw [m0] at h
    exact h
  have cw1 : w.cell? ⟨g, off + 1, none⟩ = some (.int .u8 82) := by
    have h := hA 1 (by omega)
    rw [m1] at h
    exact h
  have n0 : (0 : Int) < (n : Int) := by omega
  have n1 : (1 : Int) < (n : Int) := by omega
  have nn0 : 0 < n := by omega
  have nn1 : 1 < n := by omega
  have cw2 : w.cell? ⟨g, off + 2, none⟩ = some (.int .u8 (l.getD 2 0)) := hA 2 (by omega)
  have by2 := hb.at (i := 2) (by omega)
  obtain ⟨c2, hc2⟩ : ∃ c2, l.getD 2 0 = c2 := ⟨_, rfl⟩
  rw [hc2] at cw2 by2
  have CW2 := Lib.hid cw2
  have HC2 := Lib.hid hc2
  have n2 : (2 : Int) < (n : Int) := by omega
  have nn2 : 2 < n := by omega
  rw [hc2] at hk1 hk2
  have k1 : ¬ c2 < 1 := by omega
  have k2 : ¬ 4 < c2 := by omega
  have h39I : ¬ (n : Int) < 39 := by omega
  have hll := lenOf_lt hb (by omega)
  obtain ⟨m, hml⟩ : ∃ m, lenOf l = m := ⟨_, rfl⟩
  rw [hml] at hll h4 h5
  have HML := Lib.hid hml
  obtain ⟨e, he⟩ : ∃ e, val (sub l 7 15) = e := ⟨_, rfl⟩
  obtain ⟨o, ho⟩ : ∃ o, val (sub l 15 23) = o := ⟨_, rfl⟩
  obtain ⟨s, hs⟩ : ∃ s, val (sub l 23 31) = s := ⟨_, rfl⟩
  have hcap : 39 ≤ cap := by omega
  have cM := fun W => rMay_any ⟨c2, 0, e, o, s, ⟨#[]⟩⟩ W ⟨⟨by show -9223372036854775808 ≤ c2; omega, by show c2 ≤ 9223372036854775807; omega⟩, by show 0 < 4294967296; decide, by show (0 : Nat) ≤ maxLen; exact Nat.zero_le _⟩
  have h4I : (m : Int) ≤ 1000 := by omega
  have h5I : (n : Int) - 39 < (m : Int) := by omega
  have hnum : mayB ⟨c2, 0, e, o, s, ⟨#[]⟩⟩ = true := by
    have hk := kind_of hb (by omega)
    rw [hc2] at hk
    unfold mayB
    rw [show numB ⟨c2, 0, e, o, s, ⟨#[]⟩⟩ = true by rw [← h3, ← hk, ← he, ← ho, ← hs]; rfl]; rfl
  rw [hnum] at cM
  unfold Rec.val at cM
  simp only at cM
  have CM := Lib.hid cM
  have HE := Lib.hid he
  have HO := Lib.hid ho
  have HS := Lib.hid hs
  have s1 : ∀ W, (Instr.slice 57 (.slice (some ⟨g, off, none⟩) n cap) (some (.int .i64 7)) (some (.int .i64 15)) none).run Tryz.prog W = .ok (.slice (some ⟨g, off + 7, none⟩) 8 (cap - 7)) W := run_sub g off n cap 7 15 (by omega) (by omega)
  have s2 : ∀ W, (Instr.slice 57 (.slice (some ⟨g, off, none⟩) n cap) (some (.int .i64 15)) (some (.int .i64 23)) none).run Tryz.prog W = .ok (.slice (some ⟨g, off + 15, none⟩) 8 (cap - 15)) W := run_sub g off n cap 15 23 (by omega) (by omega)
  have s3 : ∀ W, (Instr.slice 57 (.slice (some ⟨g, off, none⟩) n cap) (some (.int .i64 23)) (some (.int .i64 31)) none).run Tryz.prog W = .ok (.slice (some ⟨g, off + 23, none⟩) 8 (cap - 23)) W := run_sub g off n cap 23 31 (by omega) (by omega)
  have s6 : ∀ W, (Instr.slice 57 (.slice (some ⟨g, off, none⟩) n cap) (some (.int .i64 31)) (some (.int .i64 35)) none).run Tryz.prog W = .ok (.slice (some ⟨g, off + 31, none⟩) 4 (cap - 31)) W := run_sub g off n cap 31 35 (by omega) (by omega)
  have HNM := Lib.hid hm
  have HN39 := Lib.hid h39
  clear h1 h2 cw2 hc2 hk1 hk2 hml hll he ho hs cM h39 h4 h3 h5 hnum
  have CW0 := Lib.hid cw0
  have CW1 := Lib.hid cw1
  have HB := Lib.hid hb
  have HN := Lib.hid hn
  have HL := Lib.hid hl
  have HAT := Lib.hid HA
  clear HA hA
  clear cw0
  clear cw1
  clear m0
  clear m1
  clear hb hn hl hm
  obtain ⟨bz, hbz⟩ : ∃ bz, w.heap.size = bz := ⟨_, rfl⟩
  have r0 : RD w bz (w.alloc (.cells #[.int .i64 0, .int .u32 0, .int .u64 0, .int .u64 0, .int .u64 0, .string ⟨#[]⟩] 40)) := ⟨Whole.new_ hbz.symm rfl, (Below.refl _ _).alloc (Nat.le_refl _) _⟩
  have R0 := Lib.hid r0
  have HBZ := Lib.hid hbz
  clear r0
  go_enter Tryz.func79, Tryz.ntmps79
  go_wp2_with fail
  clear hbz
  go_loopw [6] (fun i wr => ∃ j : Nat, j ≤ 2 ∧ i = .int .i64 (j : Int) ∧ RD w bz wr) (fun i _ => 2 - (intOf i).toNat)
  case atStart => exact ⟨0, by decide, rfl, R0.out⟩
  case round =>
    obtain ⟨j, hj, rfl, hr⟩ := hrel
    have HR := Lib.hid hr
    clear hr
    by_cases j0 : j = 0
    · subst j0
      have cq : ∀ q, (wr.drewN q).cell? ⟨g, off, none⟩ = some (.int .u8 83) := fun q => (HR.out.below.cell (p := ⟨g, off, none⟩) (block_lt_of_cell CW0.out)).trans CW0.out
      have nr : ∀ q, RD w bz (wr.drewN q) := fun q => HR.out.next (below_draws (Below.refl _ _) q)
      have NR := Lib.hid nr
      clear nr
      go_wp2_with fail
      go_quiet (fail)
      go_wp2_with fail
      exact ⟨⟨1, by decide, rfl, NR.out _⟩, by simp [intOf]⟩
    · skip
      by_cases j1 : j = 1
      · subst j1
        have cq : ∀ q, (wr.drewN q).cell? ⟨g, off + 1, none⟩ = some (.int .u8 82) := fun q => (HR.out.below.cell (p := ⟨g, off + 1, none⟩) (block_lt_of_cell CW1.out)).trans CW1.out
        have nr : ∀ q, RD w bz (wr.drewN q) := fun q => HR.out.next (below_draws (Below.refl _ _) q)
        have NR := Lib.hid nr
        clear nr
        go_wp2_with fail
        go_quiet (fail)
        go_wp2_with fail
        exact ⟨⟨2, by decide, rfl, NR.out _⟩, by simp [intOf]⟩
      · skip
        obtain rfl : j = 2 := by omega
        clear j0
        clear j1
        have c2w : wr.cell? ⟨g, off + 2, none⟩ = some (.int .u8 c2) := (HR.out.below.cell (p := ⟨g, off + 2, none⟩) (block_lt_of_cell CW2.out)).trans CW2.out
        go_wp2_with fail
        refine (rget_at _ 4 (sub l 31 35) (sub_length l 31 35 (by rw [HN.out]; have := HN39.out; omega)) _ _ (At.sub (HAT.out.later HR.out.below) 31 35 (by omega) (by rw [HN.out]; have := HN39.out; omega)) (sub_byte HB.out 31 35) (by omega)).mono ?_
        rintro en w' ⟨rfl, rfl⟩
        rw [show val (sub l 31 35) = lenOf l from rfl, HML.out]
        go_wp2_with fail
        go_cut [8] (fun x wx => Mid w bz g off l [.int .i64 c2, .int .u32 0, .int .u64 (e : Int), .int .u64 (o : Int), .int .u64 (s : Int), .string ⟨#[]⟩] x wx)
        case first =>
          have A1 : Hid (At wr.drew g off l) := (HAT.out.later HR.out.below).later (below_draws (Below.refl _ _) 1)
          have c2d : wr.drew.cell? ⟨g, off + 2, none⟩ = some (.int .u8 c2) := c2w
          have s0 : Hid (At wr g off l) ∧ wr.cell? ⟨g, off + 2, none⟩ = some (.int .u8 c2) := ⟨HAT.out.later HR.out.below, c2w⟩
          go_region_held3 (fun W => Hid (At W g off l) ∧ W.cell? ⟨g, off + 2, none⟩ = some (.int .u8 c2)) ((first | (constructor <;> assumption) | exact At.alloc2 (by assumption) _))
            (first
              | (go_at_call 82; (with_reducible refine (rget_at _ 8 _ (sub_length l 7 15 (by rw [HN.out]; have := HN39.out; omega)) _ _ (At.sub (Hid.out (And.left (b := _) (by assumption))) 7 15 (by omega) (by rw [HN.out]; have := HN39.out; omega)) (sub_byte HB.out 7 15) (by omega)).mono ?_); rintro e w' ⟨rfl, rfl⟩)
              | (go_at_call 82; (with_reducible refine (rget_at _ 8 _ (sub_length l 15 23 (by rw [HN.out]; have := HN39.out; omega)) _ _ (At.sub (Hid.out (And.left (b := _) (by assumption))) 15 23 (by omega) (by rw [HN.out]; have := HN39.out; omega)) (sub_byte HB.out 15 23) (by omega)).mono ?_); rintro e w' ⟨rfl, rfl⟩)
              | (go_at_call 82; (with_reducible refine (rget_at _ 8 _ (sub_length l 23 31 (by rw [HN.out]; have := HN39.out; omega)) _ _ (At.sub (Hid.out (And.left (b := _) (by assumption))) 23 31 (by omega) (by rw [HN.out]; have := HN39.out; omega)) (sub_byte HB.out 23 31) (by omega)).mono ?_); rintro e w' ⟨rfl, rfl⟩))
          all_goals
            go_wp2_with fail
            go_meet
            have ew : IntKind.i64.wrap c2 = c2 := by rw [IntKind.wrap_i64]; omega
            rw [ew, HE.out, HO.out, HS.out]
            have hb2 : Below wr.heap.size wr ((wr.alloc (.cells #[.int .i64 c2, .int .u32 0, .int .u64 (e : Int), .int .u64 (o : Int), .int .u64 (s : Int), .string ⟨#[]⟩] 40)).drew) := below_draws ((Below.refl _ _).alloc (Nat.le_refl _) _) 1
            exact ⟨wr.heap.size, rfl, HR.out.whole.lt, HR.out.below.size, HR.out.next hb2, (Whole.new_ rfl rfl).draws 1⟩
        case rest =>
          obtain ⟨q, rfl, hbq, hwq, r8, wq8⟩ := hcut
          have W8 := Lib.hid wq8
          have R8 := Lib.hid r8
          have HWQ := Lib.hid hwq
          clear r8 wq8 c2w hwq s1 s2 s3 s6
          go_wp2_with ((with_reducible show wpList _ _ _ (⟨some 68, _, _, _, _, _⟩ :: _) _ _); refine wpList_load_mid rfl 40 (.tmp 8) rfl q 0 rfl [.int .i64 c2, .int .u32 0, .int .u64 (e : Int), .int .u64 (o : Int), .int .u64 (s : Int), .string ⟨#[]⟩] _ (W8.out.range 0 6) Tryz.underlying40 rfl recInfo ?_)
          refine (CM.out _).mono ?_
          rintro en w9 ⟨rfl, b9⟩
          have W9 := Lib.hid (W8.out.kept b9)
          have R9 := Lib.hid (R8.out.next b9)
          clear b9 W8 R8 CM
          have W6 := Lib.hid R9.out.whole
          have B6 := Lib.hid R9.out.below
          go_wp2_with ((with_reducible show wpList _ _ _ (⟨none, _, _, _, _, _⟩ :: _) _ _); refine wpList_store_as rfl 40 (.tmp 2) (.tmp 78) rfl bz 0 #[.int .i64 0, .int .u32 0, .int .u64 0, .int .u64 0, .int .u64 0, .string ⟨#[]⟩] rfl rfl (Whole.there W6.out 0 6 (Nat.le_refl 6)) recInfo (by simp [Value.oneCell']) ?_; intro w7 hw7; have HW7 := Lib.hid hw7; clear hw7)
          have wf7 : Whole w7 bz 40 [.int .i64 0, .int .u32 0, .int .u64 0, .int .u64 0, .int .u64 0, .string ⟨#[]⟩] := by
            rw [← HW7.out]
            exact Whole.lay [.int .i64 0, .int .u32 0, .int .u64 0, .int .u64 0, .int .u64 0, .string ⟨#[]⟩] 0 W6.out (by decide)
          have b7 : Below w.heap.size w w7 := by
            rw [← HW7.out]
            exact below_lay _ _ _ B6.out (by rw [HBZ.out]; exact Nat.le_refl _)
          exact rdec_ret rfl rfl rfl rfl wf7 rfl ⟨rfl, b7⟩
end Go.Proofs.YtdonblfidohncaaGreatDoor.recd
/-
  CONTRACT of the reference's Decode, its last two ways, and the whole.
-/



namespace Go.Proofs.YtdonblfidohncaaGreatDoor.recd
open Go.RowKit Go.Proofs.YtdonblfidohncaaGreatDoor.num Go.Proofs.YtdonblfidohncaaGreatDoor.disk
set_option linter.unusedVariables false

theorem At.lt {W : World} {g off : Nat} {l : List Int} (h : At W g off l) (h0 : 0 < l.length) : g < W.heap.size := block_lt_of_cell (h 0 h0)
theorem At.laid {W : World} {g off q : Nat} {l : List Int} (h : At W g off l) (hne : g ≠ q) {vs : List Value} : At (W.setCells q 0 vs) g off l := fun i hi => by
  have hb : ∀ (vs : List Value) (W : World) (o : Nat), (W.setCells q o vs).heap[g]? = W.heap[g]? := by
    intro vs
    induction vs with
    | nil => intro W o; rfl
    | cons u r ih => intro W o; exact (ih _ _).trans (heap_setCell_other W ⟨q, o, none⟩ g u hne)
  exact (World.cell?_of_block (a := ⟨g, off + i, none⟩) (hb vs W 0)).trans (h i hi)
/-- Behind the whole reading. -/
structure Fin (w : World) (bz g off q : Nat) (l : List Int) (vs : List Value) (wx : World) : Prop where
  rd : RD w bz wx
  whole : Whole wx q 40 vs
  at_ : At wx g off l
theorem Fin.next {w W W' : World} {bz g off q : Nat} {l : List Int} {vs : List Value} (h : Fin w bz g off q l vs W) (hb : Below W.heap.size W W') : Fin w bz g off q l vs W' := ⟨h.rd.next hb, h.whole.kept hb, h.at_.later hb⟩
theorem Fin.cells {w W : World} {bz g off q : Nat} {l : List Int} {v0 v1 v2 v3 v4 v5 : Value} (h : Fin w bz g off q l [v0, v1, v2, v3, v4, v5] W) :
    W.cell? ⟨q, 0, none⟩ = some v0 ∧ W.cell? ⟨q, 1, none⟩ = some v1 ∧ W.cell? ⟨q, 2, none⟩ = some v2 ∧ W.cell? ⟨q, 3, none⟩ = some v3 ∧ W.cell? ⟨q, 4, none⟩ = some v4 ∧ W.cell? ⟨q, 5, none⟩ = some v5 :=
  ⟨h.whole.at_ 0, h.whole.at_ 1, h.whole.at_ 2, h.whole.at_ 3, h.whole.at_ 4, h.whole.at_ 5⟩
theorem Fin.conv {w W : World} {bz g off q : Nat} {l : List Int} {vs : List Value} (h : Fin w bz g off q l vs W) (hb : Byte l) {k : Nat} (hk : (l.take k).length = k) (cap : Nat) : (convert 57 9 (.slice (some ⟨g, off, none⟩) k cap)).run Tryz.prog W = .ok (.string (str (l.take k))) W := by
  have := run_str ((h.at_.take k).leads) (hb.take k) cap
  rw [hk] at this
  exact this

set_option maxRecDepth 100000 in
set_option maxHeartbeats 4000000 in
theorem rd_bad (a : Option Addr) (n cap : Nat) (l : List Int) (w : World) (hl : Leads w a l) (hb : Byte l) (hn : l.length = n) (hc : n ≤ cap) (hm : n ≤ 1000000000) (m0 : l.getD 0 0 = 83) (m1 : l.getD 1 0 = 82) (h1 : begB l = true) (h2 : 2 < n) (h39 : 39 ≤ n) (hk1 : 1 ≤ l.getD 2 0) (hk2 : l.getD 2 0 ≤ 4) (h4 : lenOf l ≤ 1000) (h3 : numB (headOf l) = true) (h5 : 39 + lenOf l ≤ n) (h6 : sumOf (sub l 0 35 ++ sub l 39 (39 + lenOf l)) ≠ val (sub l 35 39)) :
    Calls Tryz.prog 79 #[.slice a n cap] w (DecOut w (dec l)) := by
  have hd : dec l = (zeroRec, 0, 4) := by unfold dec; rw [if_neg (by rw [h1]; simp), if_neg (by omega), if_neg (by rw [h3]; simp; omega), if_neg (by omega), if_pos h6]
  rw [hd]
  clear hd
  obtain ⟨g, off, rfl, hA⟩ := hl.at_ (by omega)
  have HA : At w g off l := hA
  have cw0 : w.cell? ⟨g, off, none⟩ = some (.int .u8 83) := by
    have h := hA 0 (by omega)
    rw [m0] at h
    exact h
  have cw1 : w.cell? ⟨g, off + 1, none⟩ = some (.int .u8 82) := by
    have h := hA 1 (by omega)
    rw [m1] at h
    exact h
  have n0 : (0 : Int) < (n : Int) := by omega
  have n1 : (1 : Int) < (n : Int) := by omega
  have nn0 : 0 < n := by omega
  have nn1 : 1 < n := by omega
  have cw2 : w.cell? ⟨g, off + 2, none⟩ = some (.int .u8 (l.getD 2 0)) := hA 2 (by omega)
  have by2 := hb.at (i := 2) (by omega)
  obtain ⟨c2, hc2⟩ : ∃ c2, l.getD 2 0 = c2 := ⟨_, rfl⟩
  rw [hc2] at cw2 by2
  have CW2 := Lib.hid cw2
  have HC2 := Lib.hid hc2
  have n2 : (2 : Int) < (n : Int) := by omega
  have nn2 : 2 < n := by omega
  rw [hc2] at hk1 hk2
  have k1 : ¬ c2 < 1 := by omega
  have k2 : ¬ 4 < c2 := by omega
  have h39I : ¬ (n : Int) < 39 := by omega
  have hll := lenOf_lt hb (by omega)
  obtain ⟨m, hml⟩ : ∃ m, lenOf l = m := ⟨_, rfl⟩
  rw [hml] at hll h4 h5 h6
  have HML := Lib.hid hml
  obtain ⟨e, he⟩ : ∃ e, val (sub l 7 15) = e := ⟨_, rfl⟩
  obtain ⟨o, ho⟩ : ∃ o, val (sub l 15 23) = o := ⟨_, rfl⟩
  obtain ⟨s, hs⟩ : ∃ s, val (sub l 23 31) = s := ⟨_, rfl⟩
  have hcap : 39 ≤ cap := by omega
  have cM := fun W => rMay_any ⟨c2, 0, e, o, s, ⟨#[]⟩⟩ W ⟨⟨by show -9223372036854775808 ≤ c2; omega, by show c2 ≤ 9223372036854775807; omega⟩, by show 0 < 4294967296; decide, by show (0 : Nat) ≤ maxLen; exact Nat.zero_le _⟩
  have h4I : (m : Int) ≤ 1000 := by omega
  have h5I : ¬ (n : Int) - 39 < (m : Int) := by omega
  have nI : (n : Int) ≤ 1000000000 := by omega
  have hnum : mayB ⟨c2, 0, e, o, s, ⟨#[]⟩⟩ = true := by
    have hk := kind_of hb (by omega)
    rw [hc2] at hk
    unfold mayB
    rw [show numB ⟨c2, 0, e, o, s, ⟨#[]⟩⟩ = true by rw [← h3, ← hk, ← he, ← ho, ← hs]; rfl]; rfl
  rw [hnum] at cM
  obtain ⟨tn, htn⟩ : ∃ tn, val (sub l 3 7) = tn := ⟨_, rfl⟩
  obtain ⟨bd, hbd⟩ : ∃ bd, str (sub l 39 (39 + m)) = bd := ⟨_, rfl⟩
  have hfull : full l = ⟨c2, tn, e, o, s, bd⟩ := by
    have hk := kind_of hb (by omega)
    rw [hc2] at hk
    unfold full
    rw [hml, ← hk, ← htn, ← he, ← ho, ← hs, ← hbd]; rfl
  have hnl : 39 + lenOf l ≤ l.length := by rw [hml, hn]; exact h5
  have hmf := full_may h3 (by rw [hml]; exact h4) hnl
  have hfit : (full l).Fit := ⟨⟨by rw [hfull]; show -9223372036854775808 ≤ c2; omega, by rw [hfull]; show c2 ≤ 9223372036854775807; omega⟩, by
    have := val_lt 4 (sub l 3 7) (sub_length l 3 7 (by omega)) (sub_byte hb 3 7)
    rw [show (256 : Nat) ^ 4 = 4294967296 by decide] at this
    exact this, by rw [full_size hnl, hml]; unfold maxLen; omega⟩
  have cMF := fun W => rMay_any (full l) W hfit
  have cEF := fun W => REncode_any (full l) W hfit
  rw [hmf] at cMF
  rw [enc, if_pos hmf] at cEF
  have hel : (encL (full l)).length = 39 + m := by rw [encL_length, full_size hnl, hml]
  have hbyE := encL_byte (full l)
  have htk : (l.take (39 + m)).length = 39 + m := by rw [List.length_take, hn]; omega
  have hcmp : ((str (encL (full l))).toList == (str (l.take (39 + m))).toList) = false := by
    rw [str_beq hbyE, bs_str (hb.take _)]
    have := full_enc hb h1 hnl
    rw [hml] at this
    exact decide_eq_false fun e => h6 (this.1 e)
  obtain ⟨el, hell⟩ : ∃ el, encL (full l) = el := ⟨_, rfl⟩
  rw [hell] at cEF hel hbyE hcmp
  rw [hfull] at cMF cEF
  unfold Rec.val at cMF cEF
  simp only at cMF cEF
  have htn1 : tn < 4294967296 := by have := hfit.tenant; rw [hfull] at this; exact this
  have e2 : IntKind.u32.wrap (tn : Int) = (tn : Int) := by rw [IntKind.wrap_u32]; omega
  have CMF := Lib.hid cMF
  have CEF := Lib.hid cEF
  have HEL := Lib.hid hel
  have HBYE := Lib.hid hbyE
  have HTK := Lib.hid htk
  have HCMP := Lib.hid hcmp
  have HTN := Lib.hid htn
  have HBD := Lib.hid hbd
  have E2 := Lib.hid e2
  have H5 := Lib.hid h5
  have HFULL := Lib.hid hfull

  unfold Rec.val at cM
  simp only at cM
  have CM := Lib.hid cM
  have HE := Lib.hid he
  have HO := Lib.hid ho
  have HS := Lib.hid hs
  have s1 : ∀ W, (Instr.slice 57 (.slice (some ⟨g, off, none⟩) n cap) (some (.int .i64 7)) (some (.int .i64 15)) none).run Tryz.prog W = .ok (.slice (some ⟨g, off + 7, none⟩) 8 (cap - 7)) W := run_sub g off n cap 7 15 (by omega) (by omega)
  have s2 : ∀ W, (Instr.slice 57 (.slice (some ⟨g, off, none⟩) n cap) (some (.int .i64 15)) (some (.int .i64 23)) none).run Tryz.prog W = .ok (.slice (some ⟨g, off + 15, none⟩) 8 (cap - 15)) W := run_sub g off n cap 15 23 (by omega) (by omega)
  have s3 : ∀ W, (Instr.slice 57 (.slice (some ⟨g, off, none⟩) n cap) (some (.int .i64 23)) (some (.int .i64 31)) none).run Tryz.prog W = .ok (.slice (some ⟨g, off + 23, none⟩) 8 (cap - 23)) W := run_sub g off n cap 23 31 (by omega) (by omega)
  have s6 : ∀ W, (Instr.slice 57 (.slice (some ⟨g, off, none⟩) n cap) (some (.int .i64 31)) (some (.int .i64 35)) none).run Tryz.prog W = .ok (.slice (some ⟨g, off + 31, none⟩) 4 (cap - 31)) W := run_sub g off n cap 31 35 (by omega) (by omega)
  have HNM := Lib.hid hm
  have HN39 := Lib.hid h39
  clear h1 h2 cw2 hc2 hk1 hk2 hml hll he ho hs cM h39 h4 h3 h5 h6 hnum htn hbd hfull hnl hmf hfit cMF cEF hel hbyE htk hcmp hell htn1 e2
  have CW0 := Lib.hid cw0
  have CW1 := Lib.hid cw1
  have HB := Lib.hid hb
  have HN := Lib.hid hn
  have HL := Lib.hid hl
  have HAT := Lib.hid HA
  clear HA hA
  clear cw0
  clear cw1
  clear m0
  clear m1
  clear hb hn hl hm
  obtain ⟨bz, hbz⟩ : ∃ bz, w.heap.size = bz := ⟨_, rfl⟩
  have r0 : RD w bz (w.alloc (.cells #[.int .i64 0, .int .u32 0, .int .u64 0, .int .u64 0, .int .u64 0, .string ⟨#[]⟩] 40)) := ⟨Whole.new_ hbz.symm rfl, (Below.refl _ _).alloc (Nat.le_refl _) _⟩
  have R0 := Lib.hid r0
  have HBZ := Lib.hid hbz
  clear r0
  go_enter Tryz.func79, Tryz.ntmps79
  go_wp2_with fail
  clear hbz
  go_loopw [6] (fun i wr => ∃ j : Nat, j ≤ 2 ∧ i = .int .i64 (j : Int) ∧ RD w bz wr) (fun i _ => 2 - (intOf i).toNat)
  case atStart => exact ⟨0, by decide, rfl, R0.out⟩
  case round =>
    obtain ⟨j, hj, rfl, hr⟩ := hrel
    have HR := Lib.hid hr
    clear hr
    by_cases j0 : j = 0
    · subst j0
      have cq : ∀ q, (wr.drewN q).cell? ⟨g, off, none⟩ = some (.int .u8 83) := fun q => (HR.out.below.cell (p := ⟨g, off, none⟩) (block_lt_of_cell CW0.out)).trans CW0.out
      have nr : ∀ q, RD w bz (wr.drewN q) := fun q => HR.out.next (below_draws (Below.refl _ _) q)
      have NR := Lib.hid nr
      clear nr
      go_wp2_with fail
      go_quiet (fail)
      go_wp2_with fail
      exact ⟨⟨1, by decide, rfl, NR.out _⟩, by simp [intOf]⟩
    · skip
      by_cases j1 : j = 1
      · subst j1
        have cq : ∀ q, (wr.drewN q).cell? ⟨g, off + 1, none⟩ = some (.int .u8 82) := fun q => (HR.out.below.cell (p := ⟨g, off + 1, none⟩) (block_lt_of_cell CW1.out)).trans CW1.out
        have nr : ∀ q, RD w bz (wr.drewN q) := fun q => HR.out.next (below_draws (Below.refl _ _) q)
        have NR := Lib.hid nr
        clear nr
        go_wp2_with fail
        go_quiet (fail)
        go_wp2_with fail
        exact ⟨⟨2, by decide, rfl, NR.out _⟩, by simp [intOf]⟩
      · skip
        obtain rfl : j = 2 := by omega
        clear j0
        clear j1
        have c2w : wr.cell? ⟨g, off + 2, none⟩ = some (.int .u8 c2) := (HR.out.below.cell (p := ⟨g, off + 2, none⟩) (block_lt_of_cell CW2.out)).trans CW2.out
        go_wp2_with fail
        refine (rget_at _ 4 (sub l 31 35) (sub_length l 31 35 (by rw [HN.out]; have := HN39.out; omega)) _ _ (At.sub (HAT.out.later HR.out.below) 31 35 (by omega) (by rw [HN.out]; have := HN39.out; omega)) (sub_byte HB.out 31 35) (by omega)).mono ?_
        rintro en w' ⟨rfl, rfl⟩
        rw [show val (sub l 31 35) = lenOf l from rfl, HML.out]
        go_wp2_with fail
        go_cut [8] (fun x wx => Mid w bz g off l [.int .i64 c2, .int .u32 0, .int .u64 (e : Int), .int .u64 (o : Int), .int .u64 (s : Int), .string ⟨#[]⟩] x wx)
        case first =>
          have A1 : Hid (At wr.drew g off l) := (HAT.out.later HR.out.below).later (below_draws (Below.refl _ _) 1)
          have c2d : wr.drew.cell? ⟨g, off + 2, none⟩ = some (.int .u8 c2) := c2w
          have s0 : Hid (At wr g off l) ∧ wr.cell? ⟨g, off + 2, none⟩ = some (.int .u8 c2) := ⟨HAT.out.later HR.out.below, c2w⟩
          go_region_held3 (fun W => Hid (At W g off l) ∧ W.cell? ⟨g, off + 2, none⟩ = some (.int .u8 c2)) ((first | (constructor <;> assumption) | exact At.alloc2 (by assumption) _))
            (first
              | (go_at_call 82; (with_reducible refine (rget_at _ 8 _ (sub_length l 7 15 (by rw [HN.out]; have := HN39.out; omega)) _ _ (At.sub (Hid.out (And.left (b := _) (by assumption))) 7 15 (by omega) (by rw [HN.out]; have := HN39.out; omega)) (sub_byte HB.out 7 15) (by omega)).mono ?_); rintro e w' ⟨rfl, rfl⟩)
              | (go_at_call 82; (with_reducible refine (rget_at _ 8 _ (sub_length l 15 23 (by rw [HN.out]; have := HN39.out; omega)) _ _ (At.sub (Hid.out (And.left (b := _) (by assumption))) 15 23 (by omega) (by rw [HN.out]; have := HN39.out; omega)) (sub_byte HB.out 15 23) (by omega)).mono ?_); rintro e w' ⟨rfl, rfl⟩)
              | (go_at_call 82; (with_reducible refine (rget_at _ 8 _ (sub_length l 23 31 (by rw [HN.out]; have := HN39.out; omega)) _ _ (At.sub (Hid.out (And.left (b := _) (by assumption))) 23 31 (by omega) (by rw [HN.out]; have := HN39.out; omega)) (sub_byte HB.out 23 31) (by omega)).mono ?_); rintro e w' ⟨rfl, rfl⟩))
          all_goals
            go_wp2_with fail
            go_meet
            have ew : IntKind.i64.wrap c2 = c2 := by rw [IntKind.wrap_i64]; omega
            rw [ew, HE.out, HO.out, HS.out]
            have hb2 : Below wr.heap.size wr ((wr.alloc (.cells #[.int .i64 c2, .int .u32 0, .int .u64 (e : Int), .int .u64 (o : Int), .int .u64 (s : Int), .string ⟨#[]⟩] 40)).drew) := below_draws ((Below.refl _ _).alloc (Nat.le_refl _) _) 1
            exact ⟨wr.heap.size, rfl, HR.out.whole.lt, HR.out.below.size, HR.out.next hb2, (Whole.new_ rfl rfl).draws 1⟩
        case rest =>
          obtain ⟨q, rfl, hbq, hwq, r8, wq8⟩ := hcut
          have W8 := Lib.hid wq8
          have R8 := Lib.hid r8
          have HWQ := Lib.hid hwq
          clear r8 wq8 c2w hwq s1 s2 s3 s6
          go_wp2_with ((with_reducible show wpList _ _ _ (⟨some 68, _, _, _, _, _⟩ :: _) _ _); refine wpList_load_mid rfl 40 (.tmp 8) rfl q 0 rfl [.int .i64 c2, .int .u32 0, .int .u64 (e : Int), .int .u64 (o : Int), .int .u64 (s : Int), .string ⟨#[]⟩] _ (W8.out.range 0 6) Tryz.underlying40 rfl recInfo ?_)
          refine (CM.out _).mono ?_
          rintro en w9 ⟨rfl, b9⟩
          have W9 := Lib.hid (W8.out.kept b9)
          have R9 := Lib.hid (R8.out.next b9)
          clear b9 W8 R8 CM
          go_wp2_with fail
          -- the record read whole: what is told of it, then one store
          have B9 := R9.out.below
          obtain ⟨wd, hwd⟩ : ∃ wd, w9.drew = wd := ⟨_, rfl⟩
          have bd9 : Below w9.heap.size w9 wd := by rw [← hwd]; exact below_draws (Below.refl _ _) 1
          have ad : At wd g off l := (HAT.out.later B9).later bd9
          have cd2 : wd.cell? ⟨g, off + 2, none⟩ = some (.int .u8 c2) := by
            have := ad 2 (by rw [HN.out]; omega)
            rw [HC2.out] at this
            exact this
          have ew : IntKind.i64.wrap c2 = c2 := by rw [IntKind.wrap_i64]; omega
          have e2 := E2.out
          have em1 : IntKind.i64.wrap (m : Int) = (m : Int) := by rw [IntKind.wrap_i64]; omega
          have em2 : IntKind.i64.wrap (39 + (m : Int)) = 39 + (m : Int) := by rw [IntKind.wrap_i64]; omega
          have s0 : (Instr.slice 57 (.slice (some ⟨g, off, none⟩) n cap) (some (.int .i64 3)) (some (.int .i64 7)) none).run Tryz.prog wd = .ok (.slice (some ⟨g, off + 3, none⟩) 4 (cap - 3)) wd := run_sub g off n cap 3 7 (by omega) (by omega) wd
          have s1 : (Instr.slice 57 (.slice (some ⟨g, off, none⟩) n cap) (some (.int .i64 7)) (some (.int .i64 15)) none).run Tryz.prog wd = .ok (.slice (some ⟨g, off + 7, none⟩) 8 (cap - 7)) wd := run_sub g off n cap 7 15 (by omega) (by omega) wd
          have s2 : (Instr.slice 57 (.slice (some ⟨g, off, none⟩) n cap) (some (.int .i64 15)) (some (.int .i64 23)) none).run Tryz.prog wd = .ok (.slice (some ⟨g, off + 15, none⟩) 8 (cap - 15)) wd := run_sub g off n cap 15 23 (by omega) (by omega) wd
          have s3 : (Instr.slice 57 (.slice (some ⟨g, off, none⟩) n cap) (some (.int .i64 23)) (some (.int .i64 31)) none).run Tryz.prog wd = .ok (.slice (some ⟨g, off + 23, none⟩) 8 (cap - 23)) wd := run_sub g off n cap 23 31 (by omega) (by omega) wd
          have hcut := run_cut (some ⟨g, off, none⟩) n cap 39 (39 + m) (by omega) (by have := H5.out; omega) wd
          rw [show 39 + m - 39 = m by omega, show ((39 + m : Nat) : Int) = 39 + (m : Int) by omega] at hcut
          have s4 : (Instr.slice 57 (.slice (some ⟨g, off, none⟩) n cap) (some (.int .i64 39)) (some (.int .i64 (39 + (m : Int)))) none).run Tryz.prog wd = .ok (.slice (cutAt (some ⟨g, off, none⟩) cap 39) m (cap - 39)) wd := hcut
          obtain ⟨ca, hca⟩ : ∃ ca, cutAt (some ⟨g, off, none⟩) cap 39 = ca := ⟨_, rfl⟩
          rw [hca] at s4
          have lb : Leads wd ca (sub l 39 (39 + m)) := by
            rw [← hca]
            exact leads_cut ad.leads 39 (39 + m) (by omega) (by rw [HN.out]; exact H5.out) (by rw [HN.out]; exact hc)
          have cv : (convert 57 9 (.slice ca m (cap - 39))).run Tryz.prog wd = .ok (.string bd) wd := by
            have h := run_str lb (sub_byte HB.out 39 (39 + m)) (cap - 39)
            rw [sub_length l 39 (39 + m) (by rw [HN.out]; exact H5.out), show 39 + m - 39 = m by omega, HBD.out] at h
            exact h
          have WD9 := Lib.hid (W9.out.kept bd9)
          have RD9 := Lib.hid (R9.out.next bd9)
          have AD := Lib.hid ad
          have gets : ∀ p q : Nat, p < q → q ≤ 31 → q - p ≤ 8 → Calls Tryz.prog 82 #[.slice (some ⟨g, off + p, none⟩) (q - p) (cap - p)] wd fun e w'' => e = .returned (.int .u64 ((val (sub l p q) : Nat) : Int)) ∧ w'' = wd := fun p q hpq hq h8 =>
            (rget_at _ (q - p) (sub l p q) (sub_length l p q (by rw [HN.out]; have := HN39.out; omega)) _ _ (At.sub AD.out p q hpq (by rw [HN.out]; have := HN39.out; omega)) (sub_byte HB.out p q) h8).mono fun _ _ h => ⟨h.1, h.2.symm⟩
          have gt : Calls Tryz.prog 82 #[.slice (some ⟨g, off + 3, none⟩) 4 (cap - 3)] wd fun e w'' => e = .returned (.int .u64 ((val (sub l 3 7) : Nat) : Int)) ∧ w'' = wd := gets 3 7 (by omega) (by omega) (by omega)
          have ge : Calls Tryz.prog 82 #[.slice (some ⟨g, off + 7, none⟩) 8 (cap - 7)] wd fun e w'' => e = .returned (.int .u64 ((val (sub l 7 15) : Nat) : Int)) ∧ w'' = wd := gets 7 15 (by omega) (by omega) (by omega)
          have go : Calls Tryz.prog 82 #[.slice (some ⟨g, off + 15, none⟩) 8 (cap - 15)] wd fun e w'' => e = .returned (.int .u64 ((val (sub l 15 23) : Nat) : Int)) ∧ w'' = wd := gets 15 23 (by omega) (by omega) (by omega)
          have gs : Calls Tryz.prog 82 #[.slice (some ⟨g, off + 23, none⟩) 8 (cap - 23)] wd fun e w'' => e = .returned (.int .u64 ((val (sub l 23 31) : Nat) : Int)) ∧ w'' = wd := gets 23 31 (by omega) (by omega) (by omega)
          rw [HTN.out] at gt
          rw [HE.out] at ge
          rw [HO.out] at go
          rw [HS.out] at gs
          have GT := Lib.hid gt
          have GE := Lib.hid ge
          have GO := Lib.hid go
          have GS := Lib.hid gs
          clear gets gt ge go gs bd9 ad lb hca B9 hcut W9 R9
          refine wp_region_still_tail 24 (by kernel_rfl) (by kernel_rfl) ?_
          simp only [List.take_succ_cons, List.take_zero, List.drop_succ_cons, List.drop_zero]
          change wpStill _ _ w9.drew (fun a' => wpList _ _ _ _ a' w9.drew) _ _
          rw [hwd]
          clear hwd
          repeat (refine wpStill_step (fun K hK => ?_); go_simp; (first | (with_reducible refine hK _ ?_) | (with_reducible refine ⟨_, GT.out, hK _ ?_⟩) | (with_reducible refine ⟨_, GE.out, hK _ ?_⟩) | (with_reducible refine ⟨_, GO.out, hK _ ?_⟩) | (with_reducible refine ⟨_, GS.out, hK _ ?_⟩)); clear hK K)
          refine wpStill_nil ?_
          clear s0 s1 s2 s3 s4 cv cd2 GT GE GO GS
          go_wp2_with ((with_reducible show wpList _ _ _ (⟨none, _, _, _, _, _⟩ :: _) _ _); refine wpList_store_as rfl 40 (.tmp 8) (.tmp 102) rfl q 0 #[.int .i64 c2, .int .u32 (tn : Int), .int .u64 (e : Int), .int .u64 (o : Int), .int .u64 (s : Int), .string bd] rfl rfl (Whole.there WD9.out 0 6 (Nat.le_refl 6)) recInfo (by simp [Value.oneCell']) ?_; intro wx hwx; have HWX := Lib.hid hwx; clear hwx)
          have k10 : Fin w bz g off q l [.int .i64 c2, .int .u32 (tn : Int), .int .u64 (e : Int), .int .u64 (o : Int), .int .u64 (s : Int), .string bd] wx := by
            rw [← HWX.out]
            exact ⟨⟨Whole.lay_apart _ _ _ RD9.out.whole (by omega), below_lay _ _ _ RD9.out.below HWQ.out⟩, Whole.lay [.int .i64 c2, .int .u32 (tn : Int), .int .u64 (e : Int), .int .u64 (o : Int), .int .u64 (s : Int), .string bd] 0 WD9.out (Nat.le_refl 6), At.laid AD.out (by have := AD.out; intro e; exact absurd (HAT.out.lt (by rw [HN.out]; omega)) (by rw [e]; have := HWQ.out; omega))⟩
          have k11 : Fin w bz g off q l [.int .i64 c2, .int .u32 (tn : Int), .int .u64 (e : Int), .int .u64 (o : Int), .int .u64 (s : Int), .string bd] wx.drew := k10.next (below_draws (Below.refl _ _) 1)
          clear HWX WD9 RD9 AD k10 ew e2
          have s11 := k11.cells
          have hfr : ∀ W, (Instr.slice 57 (.slice (some ⟨g, off, none⟩) n cap) none (some (.int .i64 (39 + (m : Int)))) none).run Tryz.prog W = .ok (.slice (some ⟨g, off, none⟩) (39 + m) cap) W := fun W => by
            have h := run_front g off n cap (39 + m) (by have := H5.out; omega) W
            rw [show ((39 + m : Nat) : Int) = 39 + (m : Int) by omega] at h
            exact h
          have cva := fun W (k : Fin w bz g off q l [.int .i64 c2, .int .u32 (tn : Int), .int .u64 (e : Int), .int .u64 (o : Int), .int .u64 (s : Int), .string bd] W) => k.conv HB.out HTK.out cap
          have CVA := Lib.hid cva
          clear cva
          have v11 := CVA.out _ k11
          have hcmp := HCMP.out
          go_wp2_with fail
          go_cut [117] (fun x wy => x = .bool true ∧ Fin w bz g off q l [.int .i64 c2, .int .u32 (tn : Int), .int .u64 (e : Int), .int .u64 (o : Int), .int .u64 (s : Int), .string bd] wy)
          case first =>
            have S11 : ∀ W, Fin w bz g off q l [.int .i64 c2, .int .u32 (tn : Int), .int .u64 (e : Int), .int .u64 (o : Int), .int .u64 (s : Int), .string bd] W → (Fin w bz g off q l [.int .i64 c2, .int .u32 (tn : Int), .int .u64 (e : Int), .int .u64 (o : Int), .int .u64 (s : Int), .string bd] W ∧ W.cell? ⟨q, 0, none⟩ = some (.int .i64 c2) ∧ W.cell? ⟨q, 1, none⟩ = some (.int .u32 (tn : Int)) ∧ W.cell? ⟨q, 2, none⟩ = some (.int .u64 (e : Int)) ∧ W.cell? ⟨q, 3, none⟩ = some (.int .u64 (o : Int)) ∧ W.cell? ⟨q, 4, none⟩ = some (.int .u64 (s : Int)) ∧ W.cell? ⟨q, 5, none⟩ = some (.string bd) ∧ (convert 57 9 (.slice (some ⟨g, off, none⟩) (39 + m) cap)).run Tryz.prog W = .ok (.string (str (l.take (39 + m)))) W) := fun W k => ⟨k, k.cells.1, k.cells.2.1, k.cells.2.2.1, k.cells.2.2.2.1, k.cells.2.2.2.2.1, k.cells.2.2.2.2.2, CVA.out W k⟩
            have SS := Lib.hid S11
            have z11 := SS.out _ k11
            clear S11 s11 v11
            refine wp_region_noPanic ?_
            refine wp_region_held_drew (S := fun W => (Fin w bz g off q l [.int .i64 c2, .int .u32 (tn : Int), .int .u64 (e : Int), .int .u64 (o : Int), .int .u64 (s : Int), .string bd] W ∧ W.cell? ⟨q, 0, none⟩ = some (.int .i64 c2) ∧ W.cell? ⟨q, 1, none⟩ = some (.int .u32 (tn : Int)) ∧ W.cell? ⟨q, 2, none⟩ = some (.int .u64 (e : Int)) ∧ W.cell? ⟨q, 3, none⟩ = some (.int .u64 (o : Int)) ∧ W.cell? ⟨q, 4, none⟩ = some (.int .u64 (s : Int)) ∧ W.cell? ⟨q, 5, none⟩ = some (.string bd) ∧ (convert 57 9 (.slice (some ⟨g, off, none⟩) (39 + m) cap)).run Tryz.prog W = .ok (.string (str (l.take (39 + m)))) W)) (by kernel_rfl) z11 (fun hHeld => ?_)
            refine wpAnyH_take (i := 0) (v := ?_) rfl (by kernel_rfl) (by kernel_rfl) (by kernel_rfl) (fun _ _ _ h => h) (Or.inl ⟨by rfl, ?_⟩) (by assumption) ?_
            rotate_left
            · intro W hSw; (try dsimp only at hSw); go_simp
              first | done | with_reducible rfl
            (try simp only [List.getElem_toArray, List.getElem_cons_zero, Act.put, List.setIfInBounds_toArray, List.set_cons_succ, List.set_cons_zero])
            refine wpAnyH_ready (rs := [1]) (by kernel_rfl) (by simp) ?_
            refine AllReadyH.cons rfl (fun KK hK => ?_) AllReadyH.nil
            go_simp
            refine (CMF.out _).mono ?_
            rintro en w12 ⟨rfl, b12⟩
            have k12 := k11.next b12
            have z12 := SS.out _ k12
            clear b12 hHeld z11 k11
            refine hK.out _ _ z12 (fun hHeld => ?_)
            clear hK KK
            (try simp only [List.getElem_toArray, List.getElem_cons_succ, List.getElem_cons_zero, Act.put, List.setIfInBounds_toArray, List.set_cons_succ, List.set_cons_zero])
            refine wpAnyH_take (i := 2) (v := ?_) rfl (by kernel_rfl) (by kernel_rfl) (by kernel_rfl) (fun _ _ _ h => h) (Or.inl ⟨by rfl, ?_⟩) (by assumption) ?_
            rotate_left
            · intro W hSw; (try dsimp only at hSw); go_simp
              first | done | with_reducible rfl
            (try simp only [List.getElem_toArray, List.getElem_cons_succ, List.getElem_cons_zero, Act.put, List.setIfInBounds_toArray, List.set_cons_succ, List.set_cons_zero])
            refine wpAnyH_take (i := 3) (v := ?_) rfl (by kernel_rfl) (by kernel_rfl) (by kernel_rfl) (fun _ _ _ h => h) (Or.inl ⟨by rfl, ?_⟩) (by assumption) ?_
            rotate_left
            · intro W hSw; (try dsimp only at hSw); go_simp
              first | done | with_reducible rfl
            (try simp only [List.getElem_toArray, List.getElem_cons_succ, List.getElem_cons_zero, Act.put, List.setIfInBounds_toArray, List.set_cons_succ, List.set_cons_zero])
            refine wpAnyH_take (i := 4) (v := ?_) rfl (by kernel_rfl) (by kernel_rfl) (by kernel_rfl) (fun _ _ _ h => h) (Or.inl ⟨by rfl, ?_⟩) (by assumption) ?_
            rotate_left
            · intro W hSw; (try dsimp only at hSw); go_simp
              first | done | with_reducible rfl
            (try simp only [List.getElem_toArray, List.getElem_cons_succ, List.getElem_cons_zero, Act.put, List.setIfInBounds_toArray, List.set_cons_succ, List.set_cons_zero])
            refine wpAnyH_take (i := 7) (v := ?_) rfl (by kernel_rfl) (by kernel_rfl) (by kernel_rfl) (fun _ _ _ h => h) (Or.inl ⟨by rfl, ?_⟩) (by assumption) ?_
            rotate_left
            · intro W hSw; (try dsimp only at hSw); go_simp
              first | done | with_reducible rfl
            (try simp only [List.getElem_toArray, List.getElem_cons_succ, List.getElem_cons_zero, Act.put, List.setIfInBounds_toArray, List.set_cons_succ, List.set_cons_zero])
            refine wpAnyH_take (i := 8) (v := ?_) rfl (by kernel_rfl) (by kernel_rfl) (by kernel_rfl) (fun _ _ _ h => h) (Or.inl ⟨by rfl, ?_⟩) (by assumption) ?_
            rotate_left
            · intro W hSw; (try dsimp only at hSw); go_simp
              first | done | with_reducible rfl
            (try simp only [List.getElem_toArray, List.getElem_cons_succ, List.getElem_cons_zero, Act.put, List.setIfInBounds_toArray, List.set_cons_succ, List.set_cons_zero])
            refine wpAnyH_take (i := 9) (v := ?_) rfl (by kernel_rfl) (by kernel_rfl) (by kernel_rfl) (fun _ _ _ h => h) (Or.inl ⟨by rfl, ?_⟩) (by assumption) ?_
            rotate_left
            · intro W hSw; (try dsimp only at hSw); go_simp
              first | done | with_reducible rfl
            (try simp only [List.getElem_toArray, List.getElem_cons_succ, List.getElem_cons_zero, Act.put, List.setIfInBounds_toArray, List.set_cons_succ, List.set_cons_zero])
            refine wpAnyH_take (i := 10) (v := ?_) rfl (by kernel_rfl) (by kernel_rfl) (by kernel_rfl) (fun _ _ _ h => h) (Or.inl ⟨by rfl, ?_⟩) (by assumption) ?_
            rotate_left
            · intro W hSw; (try dsimp only at hSw); go_simp
              first | done | with_reducible rfl
            (try simp only [List.getElem_toArray, List.getElem_cons_succ, List.getElem_cons_zero, Act.put, List.setIfInBounds_toArray, List.set_cons_succ, List.set_cons_zero])
            refine wpAnyH_take (i := 11) (v := ?_) rfl (by kernel_rfl) (by kernel_rfl) (by kernel_rfl) (fun _ _ _ h => h) (Or.inl ⟨by rfl, ?_⟩) (by assumption) ?_
            rotate_left
            · intro W hSw; (try dsimp only at hSw); go_simp
              first | done | with_reducible rfl
            (try simp only [List.getElem_toArray, List.getElem_cons_succ, List.getElem_cons_zero, Act.put, List.setIfInBounds_toArray, List.set_cons_succ, List.set_cons_zero])
            refine wpAnyH_take (i := 12) (v := ?_) rfl (by kernel_rfl) (by kernel_rfl) (by kernel_rfl) (fun _ _ _ h => h) (Or.inl ⟨by rfl, ?_⟩) (by assumption) ?_
            rotate_left
            · intro W hSw; (try dsimp only at hSw); go_simp
              first | done | with_reducible rfl
            (try simp only [List.getElem_toArray, List.getElem_cons_succ, List.getElem_cons_zero, Act.put, List.setIfInBounds_toArray, List.set_cons_succ, List.set_cons_zero])
            refine wpAnyH_ready (rs := [5]) (by kernel_rfl) (by simp) ?_
            refine AllReadyH.cons rfl (fun KK hK => ?_) AllReadyH.nil
            go_simp
            refine (CEF.out _).mono ?_
            rintro en w13 ⟨v13, rfl, o13, n13, b13⟩
            have k13 := k12.next b13
            have z13 := SS.out _ k13
            obtain ⟨a13, c13, e13, -, -, -, l13, -⟩ := o13.form
            rw [HEL.out] at e13
            subst e13
            have v14 : (convert 57 9 (.slice a13 (39 + m) c13)).run Tryz.prog w13 = .ok (.string (str el)) w13 := by
              have h := run_str l13 HBYE.out c13
              rw [HEL.out] at h
              exact h
            clear o13 n13 b13 l13 hHeld z12 k12
            refine hK.out _ _ z13 (fun hHeld => ?_)
            clear hK KK
            (try simp only [List.getElem_toArray, List.getElem_cons_succ, List.getElem_cons_zero, Act.put, List.setIfInBounds_toArray, List.set_cons_succ, List.set_cons_zero])
            refine wpAnyH_ready (rs := [6]) (by kernel_rfl) (by simp) ?_
            refine AllReadyH.cons rfl (fun KK hK => ?_) AllReadyH.nil
            go_simp
            refine hK.out _ _ z13 (fun hHeld => ?_)
            clear hK KK
            (try simp only [List.getElem_toArray, List.getElem_cons_succ, List.getElem_cons_zero, Act.put, List.setIfInBounds_toArray, List.set_cons_succ, List.set_cons_zero])
            refine wpAnyH_take (i := 13) (v := ?_) rfl (by kernel_rfl) (by kernel_rfl) (by kernel_rfl) (fun _ _ _ h => h) (Or.inl ⟨by rfl, ?_⟩) (by assumption) ?_
            rotate_left
            · intro W hSw; (try dsimp only at hSw); go_simp
              first | done | with_reducible rfl
            (try simp only [List.getElem_toArray, List.getElem_cons_succ, List.getElem_cons_zero, Act.put, List.setIfInBounds_toArray, List.set_cons_succ, List.set_cons_zero])
            refine wpAnyH_take (i := 14) (v := ?_) rfl (by kernel_rfl) (by kernel_rfl) (by kernel_rfl) (fun _ _ _ h => h) (Or.inl ⟨by rfl, ?_⟩) (by assumption) ?_
            rotate_left
            · intro W hSw; (try dsimp only at hSw); go_simp
              first | done | with_reducible rfl
            (try simp only [List.getElem_toArray, List.getElem_cons_succ, List.getElem_cons_zero, Act.put, List.setIfInBounds_toArray, List.set_cons_succ, List.set_cons_zero])
            refine wpAnyH_done (by kernel_rfl) ?_ _
            refine NoPanic.normal ?_
            clear z13 v14 hHeld SS CMF CEF
            go_wp2_with fail
            go_meet
            exact ⟨rfl, k13⟩
          case rest =>
            obtain ⟨rfl, k20⟩ := hcut
            clear k11 s11 v11 hfr hcmp
            have W6 := Lib.hid k20.rd.whole
            have B6 := Lib.hid k20.rd.below
            go_wp2_with ((with_reducible show wpList _ _ _ (⟨none, _, _, _, _, _⟩ :: _) _ _); refine wpList_store_as rfl 40 (.tmp 2) (.tmp 118) rfl bz 0 #[.int .i64 0, .int .u32 0, .int .u64 0, .int .u64 0, .int .u64 0, .string ⟨#[]⟩] rfl rfl (Whole.there W6.out 0 6 (Nat.le_refl 6)) recInfo (by simp [Value.oneCell']) ?_; intro w7 hw7; have HW7 := Lib.hid hw7; clear hw7)
            have wf7 : Whole w7 bz 40 [.int .i64 0, .int .u32 0, .int .u64 0, .int .u64 0, .int .u64 0, .string ⟨#[]⟩] := by
              rw [← HW7.out]
              exact Whole.lay [.int .i64 0, .int .u32 0, .int .u64 0, .int .u64 0, .int .u64 0, .string ⟨#[]⟩] 0 W6.out (by decide)
            have b7 : Below w.heap.size w w7 := by
              rw [← HW7.out]
              exact below_lay _ _ _ B6.out (by rw [HBZ.out]; exact Nat.le_refl _)
            exact rdec_ret rfl rfl rfl rfl wf7 rfl ⟨rfl, b7⟩
set_option maxRecDepth 100000 in
set_option maxHeartbeats 4000000 in
theorem rd_ok (a : Option Addr) (n cap : Nat) (l : List Int) (w : World) (hl : Leads w a l) (hb : Byte l) (hn : l.length = n) (hc : n ≤ cap) (hm : n ≤ 1000000000) (m0 : l.getD 0 0 = 83) (m1 : l.getD 1 0 = 82) (h1 : begB l = true) (h2 : 2 < n) (h39 : 39 ≤ n) (hk1 : 1 ≤ l.getD 2 0) (hk2 : l.getD 2 0 ≤ 4) (h4 : lenOf l ≤ 1000) (h3 : numB (headOf l) = true) (h5 : 39 + lenOf l ≤ n) (h6 : sumOf (sub l 0 35 ++ sub l 39 (39 + lenOf l)) = val (sub l 35 39)) :
    Calls Tryz.prog 79 #[.slice a n cap] w (DecOut w (dec l)) := by
  have hd : dec l = (full l, 39 + lenOf l, 0) := by unfold dec; rw [if_neg (by rw [h1]; simp), if_neg (by omega), if_neg (by rw [h3]; simp; omega), if_neg (by omega), if_neg (by rw [h6]; simp)]; rfl
  rw [hd]
  clear hd
  obtain ⟨g, off, rfl, hA⟩ := hl.at_ (by omega)
  have HA : At w g off l := hA
  have cw0 : w.cell? ⟨g, off, none⟩ = some (.int .u8 83) := by
    have h := hA 0 (by omega)
    rw [m0] at h
    exact h
  have cw1 : w.cell? ⟨g, off + 1, none⟩ = some (.int .u8 82) := by
    have h := hA 1 (by omega)
    rw [m1] at h
    exact h
  have n0 : (0 : Int) < (n : Int) := by omega
  have n1 : (1 : Int) < (n : Int) := by omega
  have nn0 : 0 < n := by omega
  have nn1 : 1 < n := by omega
  have cw2 : w.cell? ⟨g, off + 2, none⟩ = some (.int .u8 (l.getD 2 0)) := hA 2 (by omega)
  have by2 := hb.at (i := 2) (by omega)
  obtain ⟨c2, hc2⟩ : ∃ c2, l.getD 2 0 = c2 := ⟨_, rfl⟩
  rw [hc2] at cw2 by2
  have CW2 := Lib.hid cw2
  have HC2 := Lib.hid hc2
  have n2 : (2 : Int) < (n : Int) := by omega
  have nn2 : 2 < n := by omega
  rw [hc2] at hk1 hk2
  have k1 : ¬ c2 < 1 := by omega
  have k2 : ¬ 4 < c2 := by omega
  have h39I : ¬ (n : Int) < 39 := by omega
  have hll := lenOf_lt hb (by omega)
  obtain ⟨m, hml⟩ : ∃ m, lenOf l = m := ⟨_, rfl⟩
  rw [hml] at hll h4 h5 h6
  have HML := Lib.hid hml
  obtain ⟨e, he⟩ : ∃ e, val (sub l 7 15) = e := ⟨_, rfl⟩
  obtain ⟨o, ho⟩ : ∃ o, val (sub l 15 23) = o := ⟨_, rfl⟩
  obtain ⟨s, hs⟩ : ∃ s, val (sub l 23 31) = s := ⟨_, rfl⟩
  have hcap : 39 ≤ cap := by omega
  have cM := fun W => rMay_any ⟨c2, 0, e, o, s, ⟨#[]⟩⟩ W ⟨⟨by show -9223372036854775808 ≤ c2; omega, by show c2 ≤ 9223372036854775807; omega⟩, by show 0 < 4294967296; decide, by show (0 : Nat) ≤ maxLen; exact Nat.zero_le _⟩
  have h4I : (m : Int) ≤ 1000 := by omega
  have h5I : ¬ (n : Int) - 39 < (m : Int) := by omega
  have nI : (n : Int) ≤ 1000000000 := by omega
  have hnum : mayB ⟨c2, 0, e, o, s, ⟨#[]⟩⟩ = true := by
    have hk := kind_of hb (by omega)
    rw [hc2] at hk
    unfold mayB
    rw [show numB ⟨c2, 0, e, o, s, ⟨#[]⟩⟩ = true by rw [← h3, ← hk, ← he, ← ho, ← hs]; rfl]; rfl
  rw [hnum] at cM
  obtain ⟨tn, htn⟩ : ∃ tn, val (sub l 3 7) = tn := ⟨_, rfl⟩
  obtain ⟨bd, hbd⟩ : ∃ bd, str (sub l 39 (39 + m)) = bd := ⟨_, rfl⟩
  have hfull : full l = ⟨c2, tn, e, o, s, bd⟩ := by
    have hk := kind_of hb (by omega)
    rw [hc2] at hk
    unfold full
    rw [hml, ← hk, ← htn, ← he, ← ho, ← hs, ← hbd]; rfl
  have hnl : 39 + lenOf l ≤ l.length := by rw [hml, hn]; exact h5
  have hmf := full_may h3 (by rw [hml]; exact h4) hnl
  have hfit : (full l).Fit := ⟨⟨by rw [hfull]; show -9223372036854775808 ≤ c2; omega, by rw [hfull]; show c2 ≤ 9223372036854775807; omega⟩, by
    have := val_lt 4 (sub l 3 7) (sub_length l 3 7 (by omega)) (sub_byte hb 3 7)
    rw [show (256 : Nat) ^ 4 = 4294967296 by decide] at this
    exact this, by rw [full_size hnl, hml]; unfold maxLen; omega⟩
  have cMF := fun W => rMay_any (full l) W hfit
  have cEF := fun W => REncode_any (full l) W hfit
  rw [hmf] at cMF
  rw [enc, if_pos hmf] at cEF
  have hel : (encL (full l)).length = 39 + m := by rw [encL_length, full_size hnl, hml]
  have hbyE := encL_byte (full l)
  have htk : (l.take (39 + m)).length = 39 + m := by rw [List.length_take, hn]; omega
  have hcmp : ((str (encL (full l))).toList == (str (l.take (39 + m))).toList) = true := by
    rw [str_beq hbyE, bs_str (hb.take _)]
    have := full_enc hb h1 hnl
    rw [hml] at this
    exact decide_eq_true (this.2 h6)
  obtain ⟨el, hell⟩ : ∃ el, encL (full l) = el := ⟨_, rfl⟩
  rw [hell] at cEF hel hbyE hcmp
  rw [hfull] at cMF cEF
  unfold Rec.val at cMF cEF
  simp only at cMF cEF
  have htn1 : tn < 4294967296 := by have := hfit.tenant; rw [hfull] at this; exact this
  have e2 : IntKind.u32.wrap (tn : Int) = (tn : Int) := by rw [IntKind.wrap_u32]; omega
  have CMF := Lib.hid cMF
  have CEF := Lib.hid cEF
  have HEL := Lib.hid hel
  have HBYE := Lib.hid hbyE
  have HTK := Lib.hid htk
  have HCMP := Lib.hid hcmp
  have HTN := Lib.hid htn
  have HBD := Lib.hid hbd
  have E2 := Lib.hid e2
  have H5 := Lib.hid h5
  have HFULL := Lib.hid hfull

  unfold Rec.val at cM
  simp only at cM
  have CM := Lib.hid cM
  have HE := Lib.hid he
  have HO := Lib.hid ho
  have HS := Lib.hid hs
  have s1 : ∀ W, (Instr.slice 57 (.slice (some ⟨g, off, none⟩) n cap) (some (.int .i64 7)) (some (.int .i64 15)) none).run Tryz.prog W = .ok (.slice (some ⟨g, off + 7, none⟩) 8 (cap - 7)) W := run_sub g off n cap 7 15 (by omega) (by omega)
  have s2 : ∀ W, (Instr.slice 57 (.slice (some ⟨g, off, none⟩) n cap) (some (.int .i64 15)) (some (.int .i64 23)) none).run Tryz.prog W = .ok (.slice (some ⟨g, off + 15, none⟩) 8 (cap - 15)) W := run_sub g off n cap 15 23 (by omega) (by omega)
  have s3 : ∀ W, (Instr.slice 57 (.slice (some ⟨g, off, none⟩) n cap) (some (.int .i64 23)) (some (.int .i64 31)) none).run Tryz.prog W = .ok (.slice (some ⟨g, off + 23, none⟩) 8 (cap - 23)) W := run_sub g off n cap 23 31 (by omega) (by omega)
  have s6 : ∀ W, (Instr.slice 57 (.slice (some ⟨g, off, none⟩) n cap) (some (.int .i64 31)) (some (.int .i64 35)) none).run Tryz.prog W = .ok (.slice (some ⟨g, off + 31, none⟩) 4 (cap - 31)) W := run_sub g off n cap 31 35 (by omega) (by omega)
  have HNM := Lib.hid hm
  have HN39 := Lib.hid h39
  clear h1 h2 cw2 hc2 hk1 hk2 hml hll he ho hs cM h39 h4 h3 h5 h6 hnum htn hbd hfull hnl hmf hfit cMF cEF hel hbyE htk hcmp hell htn1 e2
  have CW0 := Lib.hid cw0
  have CW1 := Lib.hid cw1
  have HB := Lib.hid hb
  have HN := Lib.hid hn
  have HL := Lib.hid hl
  have HAT := Lib.hid HA
  clear HA hA
  clear cw0
  clear cw1
  clear m0
  clear m1
  clear hb hn hl hm
  obtain ⟨bz, hbz⟩ : ∃ bz, w.heap.size = bz := ⟨_, rfl⟩
  have r0 : RD w bz (w.alloc (.cells #[.int .i64 0, .int .u32 0, .int .u64 0, .int .u64 0, .int .u64 0, .string ⟨#[]⟩] 40)) := ⟨Whole.new_ hbz.symm rfl, (Below.refl _ _).alloc (Nat.le_refl _) _⟩
  have R0 := Lib.hid r0
  have HBZ := Lib.hid hbz
  clear r0
  go_enter Tryz.func79, Tryz.ntmps79
  go_wp2_with fail
  clear hbz
  go_loopw [6] (fun i wr => ∃ j : Nat, j ≤ 2 ∧ i = .int .i64 (j : Int) ∧ RD w bz wr) (fun i _ => 2 - (intOf i).toNat)
  case atStart => exact ⟨0, by decide, rfl, R0.out⟩
  case round =>
    obtain ⟨j, hj, rfl, hr⟩ := hrel
    have HR := Lib.hid hr
    clear hr
    by_cases j0 : j = 0
    · subst j0
      have cq : ∀ q, (wr.drewN q).cell? ⟨g, off, none⟩ = some (.int .u8 83) := fun q => (HR.out.below.cell (p := ⟨g, off, none⟩) (block_lt_of_cell CW0.out)).trans CW0.out
      have nr : ∀ q, RD w bz (wr.drewN q) := fun q => HR.out.next (below_draws (Below.refl _ _) q)
      have NR := Lib.hid nr
      clear nr
      go_wp2_with fail
      go_quiet (fail)
      go_wp2_with fail
      exact ⟨⟨1, by decide, rfl, NR.out _⟩, by simp [intOf]⟩
    · skip
      by_cases j1 : j = 1
      · subst j1
        have cq : ∀ q, (wr.drewN q).cell? ⟨g, off + 1, none⟩ = some (.int .u8 82) := fun q => (HR.out.below.cell (p := ⟨g, off + 1, none⟩) (block_lt_of_cell CW1.out)).trans CW1.out
        have nr : ∀ q, RD w bz (wr.drewN q) := fun q => HR.out.next (below_draws (Below.refl _ _) q)
        have NR := Lib.hid nr
        clear nr
        go_wp2_with fail
        go_quiet (fail)
        go_wp2_with fail
        exact ⟨⟨2, by decide, rfl, NR.out _⟩, by simp [intOf]⟩
      · skip
        obtain rfl : j = 2 := by omega
        clear j0
        clear j1
        have c2w : wr.cell? ⟨g, off + 2, none⟩ = some (.int .u8 c2) := (HR.out.below.cell (p := ⟨g, off + 2, none⟩) (block_lt_of_cell CW2.out)).trans CW2.out
        go_wp2_with fail
        refine (rget_at _ 4 (sub l 31 35) (sub_length l 31 35 (by rw [HN.out]; have := HN39.out; omega)) _ _ (At.sub (HAT.out.later HR.out.below) 31 35 (by omega) (by rw [HN.out]; have := HN39.out; omega)) (sub_byte HB.out 31 35) (by omega)).mono ?_
        rintro en w' ⟨rfl, rfl⟩
        rw [show val (sub l 31 35) = lenOf l from rfl, HML.out]
        go_wp2_with fail
        go_cut [8] (fun x wx => Mid w bz g off l [.int .i64 c2, .int .u32 0, .int .u64 (e : Int), .int .u64 (o : Int), .int .u64 (s : Int), .string ⟨#[]⟩] x wx)
        case first =>
          have A1 : Hid (At wr.drew g off l) := (HAT.out.later HR.out.below).later (below_draws (Below.refl _ _) 1)
          have c2d : wr.drew.cell? ⟨g, off + 2, none⟩ = some (.int .u8 c2) := c2w
          have s0 : Hid (At wr g off l) ∧ wr.cell? ⟨g, off + 2, none⟩ = some (.int .u8 c2) := ⟨HAT.out.later HR.out.below, c2w⟩
          go_region_held3 (fun W => Hid (At W g off l) ∧ W.cell? ⟨g, off + 2, none⟩ = some (.int .u8 c2)) ((first | (constructor <;> assumption) | exact At.alloc2 (by assumption) _))
            (first
              | (go_at_call 82; (with_reducible refine (rget_at _ 8 _ (sub_length l 7 15 (by rw [HN.out]; have := HN39.out; omega)) _ _ (At.sub (Hid.out (And.left (b := _) (by assumption))) 7 15 (by omega) (by rw [HN.out]; have := HN39.out; omega)) (sub_byte HB.out 7 15) (by omega)).mono ?_); rintro e w' ⟨rfl, rfl⟩)
              | (go_at_call 82; (with_reducible refine (rget_at _ 8 _ (sub_length l 15 23 (by rw [HN.out]; have := HN39.out; omega)) _ _ (At.sub (Hid.out (And.left (b := _) (by assumption))) 15 23 (by omega) (by rw [HN.out]; have := HN39.out; omega)) (sub_byte HB.out 15 23) (by omega)).mono ?_); rintro e w' ⟨rfl, rfl⟩)
              | (go_at_call 82; (with_reducible refine (rget_at _ 8 _ (sub_length l 23 31 (by rw [HN.out]; have := HN39.out; omega)) _ _ (At.sub (Hid.out (And.left (b := _) (by assumption))) 23 31 (by omega) (by rw [HN.out]; have := HN39.out; omega)) (sub_byte HB.out 23 31) (by omega)).mono ?_); rintro e w' ⟨rfl, rfl⟩))
          all_goals
            go_wp2_with fail
            go_meet
            have ew : IntKind.i64.wrap c2 = c2 := by rw [IntKind.wrap_i64]; omega
            rw [ew, HE.out, HO.out, HS.out]
            have hb2 : Below wr.heap.size wr ((wr.alloc (.cells #[.int .i64 c2, .int .u32 0, .int .u64 (e : Int), .int .u64 (o : Int), .int .u64 (s : Int), .string ⟨#[]⟩] 40)).drew) := below_draws ((Below.refl _ _).alloc (Nat.le_refl _) _) 1
            exact ⟨wr.heap.size, rfl, HR.out.whole.lt, HR.out.below.size, HR.out.next hb2, (Whole.new_ rfl rfl).draws 1⟩
        case rest =>
          obtain ⟨q, rfl, hbq, hwq, r8, wq8⟩ := hcut
          have W8 := Lib.hid wq8
          have R8 := Lib.hid r8
          have HWQ := Lib.hid hwq
          clear r8 wq8 c2w hwq s1 s2 s3 s6
          go_wp2_with ((with_reducible show wpList _ _ _ (⟨some 68, _, _, _, _, _⟩ :: _) _ _); refine wpList_load_mid rfl 40 (.tmp 8) rfl q 0 rfl [.int .i64 c2, .int .u32 0, .int .u64 (e : Int), .int .u64 (o : Int), .int .u64 (s : Int), .string ⟨#[]⟩] _ (W8.out.range 0 6) Tryz.underlying40 rfl recInfo ?_)
          refine (CM.out _).mono ?_
          rintro en w9 ⟨rfl, b9⟩
          have W9 := Lib.hid (W8.out.kept b9)
          have R9 := Lib.hid (R8.out.next b9)
          clear b9 W8 R8 CM
          go_wp2_with fail
          -- the record read whole: what is told of it, then one store
          have B9 := R9.out.below
          obtain ⟨wd, hwd⟩ : ∃ wd, w9.drew = wd := ⟨_, rfl⟩
          have bd9 : Below w9.heap.size w9 wd := by rw [← hwd]; exact below_draws (Below.refl _ _) 1
          have ad : At wd g off l := (HAT.out.later B9).later bd9
          have cd2 : wd.cell? ⟨g, off + 2, none⟩ = some (.int .u8 c2) := by
            have := ad 2 (by rw [HN.out]; omega)
            rw [HC2.out] at this
            exact this
          have ew : IntKind.i64.wrap c2 = c2 := by rw [IntKind.wrap_i64]; omega
          have e2 := E2.out
          have em1 : IntKind.i64.wrap (m : Int) = (m : Int) := by rw [IntKind.wrap_i64]; omega
          have em2 : IntKind.i64.wrap (39 + (m : Int)) = 39 + (m : Int) := by rw [IntKind.wrap_i64]; omega
          have s0 : (Instr.slice 57 (.slice (some ⟨g, off, none⟩) n cap) (some (.int .i64 3)) (some (.int .i64 7)) none).run Tryz.prog wd = .ok (.slice (some ⟨g, off + 3, none⟩) 4 (cap - 3)) wd := run_sub g off n cap 3 7 (by omega) (by omega) wd
          have s1 : (Instr.slice 57 (.slice (some ⟨g, off, none⟩) n cap) (some (.int .i64 7)) (some (.int .i64 15)) none).run Tryz.prog wd = .ok (.slice (some ⟨g, off + 7, none⟩) 8 (cap - 7)) wd := run_sub g off n cap 7 15 (by omega) (by omega) wd
          have s2 : (Instr.slice 57 (.slice (some ⟨g, off, none⟩) n cap) (some (.int .i64 15)) (some (.int .i64 23)) none).run Tryz.prog wd = .ok (.slice (some ⟨g, off + 15, none⟩) 8 (cap - 15)) wd := run_sub g off n cap 15 23 (by omega) (by omega) wd
          have s3 : (Instr.slice 57 (.slice (some ⟨g, off, none⟩) n cap) (some (.int .i64 23)) (some (.int .i64 31)) none).run Tryz.prog wd = .ok (.slice (some ⟨g, off + 23, none⟩) 8 (cap - 23)) wd := run_sub g off n cap 23 31 (by omega) (by omega) wd
          have hcut := run_cut (some ⟨g, off, none⟩) n cap 39 (39 + m) (by omega) (by have := H5.out; omega) wd
          rw [show 39 + m - 39 = m by omega, show ((39 + m : Nat) : Int) = 39 + (m : Int) by omega] at hcut
          have s4 : (Instr.slice 57 (.slice (some ⟨g, off, none⟩) n cap) (some (.int .i64 39)) (some (.int .i64 (39 + (m : Int)))) none).run Tryz.prog wd = .ok (.slice (cutAt (some ⟨g, off, none⟩) cap 39) m (cap - 39)) wd := hcut
          obtain ⟨ca, hca⟩ : ∃ ca, cutAt (some ⟨g, off, none⟩) cap 39 = ca := ⟨_, rfl⟩
          rw [hca] at s4
          have lb : Leads wd ca (sub l 39 (39 + m)) := by
            rw [← hca]
            exact leads_cut ad.leads 39 (39 + m) (by omega) (by rw [HN.out]; exact H5.out) (by rw [HN.out]; exact hc)
          have cv : (convert 57 9 (.slice ca m (cap - 39))).run Tryz.prog wd = .ok (.string bd) wd := by
            have h := run_str lb (sub_byte HB.out 39 (39 + m)) (cap - 39)
            rw [sub_length l 39 (39 + m) (by rw [HN.out]; exact H5.out), show 39 + m - 39 = m by omega, HBD.out] at h
            exact h
          have WD9 := Lib.hid (W9.out.kept bd9)
          have RD9 := Lib.hid (R9.out.next bd9)
          have AD := Lib.hid ad
          have gets : ∀ p q : Nat, p < q → q ≤ 31 → q - p ≤ 8 → Calls Tryz.prog 82 #[.slice (some ⟨g, off + p, none⟩) (q - p) (cap - p)] wd fun e w'' => e = .returned (.int .u64 ((val (sub l p q) : Nat) : Int)) ∧ w'' = wd := fun p q hpq hq h8 =>
            (rget_at _ (q - p) (sub l p q) (sub_length l p q (by rw [HN.out]; have := HN39.out; omega)) _ _ (At.sub AD.out p q hpq (by rw [HN.out]; have := HN39.out; omega)) (sub_byte HB.out p q) h8).mono fun _ _ h => ⟨h.1, h.2.symm⟩
          have gt : Calls Tryz.prog 82 #[.slice (some ⟨g, off + 3, none⟩) 4 (cap - 3)] wd fun e w'' => e = .returned (.int .u64 ((val (sub l 3 7) : Nat) : Int)) ∧ w'' = wd := gets 3 7 (by omega) (by omega) (by omega)
          have ge : Calls Tryz.prog 82 #[.slice (some ⟨g, off + 7, none⟩) 8 (cap - 7)] wd fun e w'' => e = .returned (.int .u64 ((val (sub l 7 15) : Nat) : Int)) ∧ w'' = wd := gets 7 15 (by omega) (by omega) (by omega)
          have go : Calls Tryz.prog 82 #[.slice (some ⟨g, off + 15, none⟩) 8 (cap - 15)] wd fun e w'' => e = .returned (.int .u64 ((val (sub l 15 23) : Nat) : Int)) ∧ w'' = wd := gets 15 23 (by omega) (by omega) (by omega)
          have gs : Calls Tryz.prog 82 #[.slice (some ⟨g, off + 23, none⟩) 8 (cap - 23)] wd fun e w'' => e = .returned (.int .u64 ((val (sub l 23 31) : Nat) : Int)) ∧ w'' = wd := gets 23 31 (by omega) (by omega) (by omega)
          rw [HTN.out] at gt
          rw [HE.out] at ge
          rw [HO.out] at go
          rw [HS.out] at gs
          have GT := Lib.hid gt
          have GE := Lib.hid ge
          have GO := Lib.hid go
          have GS := Lib.hid gs
          clear gets gt ge go gs bd9 ad lb hca B9 hcut W9 R9
          refine wp_region_still_tail 24 (by kernel_rfl) (by kernel_rfl) ?_
          simp only [List.take_succ_cons, List.take_zero, List.drop_succ_cons, List.drop_zero]
          change wpStill _ _ w9.drew (fun a' => wpList _ _ _ _ a' w9.drew) _ _
          rw [hwd]
          clear hwd
          repeat (refine wpStill_step (fun K hK => ?_); go_simp; (first | (with_reducible refine hK _ ?_) | (with_reducible refine ⟨_, GT.out, hK _ ?_⟩) | (with_reducible refine ⟨_, GE.out, hK _ ?_⟩) | (with_reducible refine ⟨_, GO.out, hK _ ?_⟩) | (with_reducible refine ⟨_, GS.out, hK _ ?_⟩)); clear hK K)
          refine wpStill_nil ?_
          clear s0 s1 s2 s3 s4 cv cd2 GT GE GO GS
          go_wp2_with ((with_reducible show wpList _ _ _ (⟨none, _, _, _, _, _⟩ :: _) _ _); refine wpList_store_as rfl 40 (.tmp 8) (.tmp 102) rfl q 0 #[.int .i64 c2, .int .u32 (tn : Int), .int .u64 (e : Int), .int .u64 (o : Int), .int .u64 (s : Int), .string bd] rfl rfl (Whole.there WD9.out 0 6 (Nat.le_refl 6)) recInfo (by simp [Value.oneCell']) ?_; intro wx hwx; have HWX := Lib.hid hwx; clear hwx)
          have k10 : Fin w bz g off q l [.int .i64 c2, .int .u32 (tn : Int), .int .u64 (e : Int), .int .u64 (o : Int), .int .u64 (s : Int), .string bd] wx := by
            rw [← HWX.out]
            exact ⟨⟨Whole.lay_apart _ _ _ RD9.out.whole (by omega), below_lay _ _ _ RD9.out.below HWQ.out⟩, Whole.lay [.int .i64 c2, .int .u32 (tn : Int), .int .u64 (e : Int), .int .u64 (o : Int), .int .u64 (s : Int), .string bd] 0 WD9.out (Nat.le_refl 6), At.laid AD.out (by have := AD.out; intro e; exact absurd (HAT.out.lt (by rw [HN.out]; omega)) (by rw [e]; have := HWQ.out; omega))⟩
          have k11 : Fin w bz g off q l [.int .i64 c2, .int .u32 (tn : Int), .int .u64 (e : Int), .int .u64 (o : Int), .int .u64 (s : Int), .string bd] wx.drew := k10.next (below_draws (Below.refl _ _) 1)
          clear HWX WD9 RD9 AD k10 ew e2
          have s11 := k11.cells
          have hfr : ∀ W, (Instr.slice 57 (.slice (some ⟨g, off, none⟩) n cap) none (some (.int .i64 (39 + (m : Int)))) none).run Tryz.prog W = .ok (.slice (some ⟨g, off, none⟩) (39 + m) cap) W := fun W => by
            have h := run_front g off n cap (39 + m) (by have := H5.out; omega) W
            rw [show ((39 + m : Nat) : Int) = 39 + (m : Int) by omega] at h
            exact h
          have cva := fun W (k : Fin w bz g off q l [.int .i64 c2, .int .u32 (tn : Int), .int .u64 (e : Int), .int .u64 (o : Int), .int .u64 (s : Int), .string bd] W) => k.conv HB.out HTK.out cap
          have CVA := Lib.hid cva
          clear cva
          have v11 := CVA.out _ k11
          have hcmp := HCMP.out
          go_wp2_with fail
          go_cut [117] (fun x wy => x = .bool false ∧ Fin w bz g off q l [.int .i64 c2, .int .u32 (tn : Int), .int .u64 (e : Int), .int .u64 (o : Int), .int .u64 (s : Int), .string bd] wy)
          case first =>
            have S11 : ∀ W, Fin w bz g off q l [.int .i64 c2, .int .u32 (tn : Int), .int .u64 (e : Int), .int .u64 (o : Int), .int .u64 (s : Int), .string bd] W → (Fin w bz g off q l [.int .i64 c2, .int .u32 (tn : Int), .int .u64 (e : Int), .int .u64 (o : Int), .int .u64 (s : Int), .string bd] W ∧ W.cell? ⟨q, 0, none⟩ = some (.int .i64 c2) ∧ W.cell? ⟨q, 1, none⟩ = some (.int .u32 (tn : Int)) ∧ W.cell? ⟨q, 2, none⟩ = some (.int .u64 (e : Int)) ∧ W.cell? ⟨q, 3, none⟩ = some (.int .u64 (o : Int)) ∧ W.cell? ⟨q, 4, none⟩ = some (.int .u64 (s : Int)) ∧ W.cell? ⟨q, 5, none⟩ = some (.string bd) ∧ (convert 57 9 (.slice (some ⟨g, off, none⟩) (39 + m) cap)).run Tryz.prog W = .ok (.string (str (l.take (39 + m)))) W) := fun W k => ⟨k, k.cells.1, k.cells.2.1, k.cells.2.2.1, k.cells.2.2.2.1, k.cells.2.2.2.2.1, k.cells.2.2.2.2.2, CVA.out W k⟩
            have SS := Lib.hid S11
            have z11 := SS.out _ k11
            clear S11 s11 v11
            refine wp_region_noPanic ?_
            refine wp_region_held_drew (S := fun W => (Fin w bz g off q l [.int .i64 c2, .int .u32 (tn : Int), .int .u64 (e : Int), .int .u64 (o : Int), .int .u64 (s : Int), .string bd] W ∧ W.cell? ⟨q, 0, none⟩ = some (.int .i64 c2) ∧ W.cell? ⟨q, 1, none⟩ = some (.int .u32 (tn : Int)) ∧ W.cell? ⟨q, 2, none⟩ = some (.int .u64 (e : Int)) ∧ W.cell? ⟨q, 3, none⟩ = some (.int .u64 (o : Int)) ∧ W.cell? ⟨q, 4, none⟩ = some (.int .u64 (s : Int)) ∧ W.cell? ⟨q, 5, none⟩ = some (.string bd) ∧ (convert 57 9 (.slice (some ⟨g, off, none⟩) (39 + m) cap)).run Tryz.prog W = .ok (.string (str (l.take (39 + m)))) W)) (by kernel_rfl) z11 (fun hHeld => ?_)
            refine wpAnyH_take (i := 0) (v := ?_) rfl (by kernel_rfl) (by kernel_rfl) (by kernel_rfl) (fun _ _ _ h => h) (Or.inl ⟨by rfl, ?_⟩) (by assumption) ?_
            rotate_left
            · intro W hSw; (try dsimp only at hSw); go_simp
              first | done | with_reducible rfl
            (try simp only [List.getElem_toArray, List.getElem_cons_zero, Act.put, List.setIfInBounds_toArray, List.set_cons_succ, List.set_cons_zero])
            refine wpAnyH_ready (rs := [1]) (by kernel_rfl) (by simp) ?_
            refine AllReadyH.cons rfl (fun KK hK => ?_) AllReadyH.nil
            go_simp
            refine (CMF.out _).mono ?_
            rintro en w12 ⟨rfl, b12⟩
            have k12 := k11.next b12
            have z12 := SS.out _ k12
            clear b12 hHeld z11 k11
            refine hK.out _ _ z12 (fun hHeld => ?_)
            clear hK KK
            (try simp only [List.getElem_toArray, List.getElem_cons_succ, List.getElem_cons_zero, Act.put, List.setIfInBounds_toArray, List.set_cons_succ, List.set_cons_zero])
            refine wpAnyH_take (i := 2) (v := ?_) rfl (by kernel_rfl) (by kernel_rfl) (by kernel_rfl) (fun _ _ _ h => h) (Or.inl ⟨by rfl, ?_⟩) (by assumption) ?_
            rotate_left
            · intro W hSw; (try dsimp only at hSw); go_simp
              first | done | with_reducible rfl
            (try simp only [List.getElem_toArray, List.getElem_cons_succ, List.getElem_cons_zero, Act.put, List.setIfInBounds_toArray, List.set_cons_succ, List.set_cons_zero])
            refine wpAnyH_take (i := 3) (v := ?_) rfl (by kernel_rfl) (by kernel_rfl) (by kernel_rfl) (fun _ _ _ h => h) (Or.inl ⟨by rfl, ?_⟩) (by assumption) ?_
            rotate_left
            · intro W hSw; (try dsimp only at hSw); go_simp
              first | done | with_reducible rfl
            (try simp only [List.getElem_toArray, List.getElem_cons_succ, List.getElem_cons_zero, Act.put, List.setIfInBounds_toArray, List.set_cons_succ, List.set_cons_zero])
            refine wpAnyH_take (i := 4) (v := ?_) rfl (by kernel_rfl) (by kernel_rfl) (by kernel_rfl) (fun _ _ _ h => h) (Or.inl ⟨by rfl, ?_⟩) (by assumption) ?_
            rotate_left
            · intro W hSw; (try dsimp only at hSw); go_simp
              first | done | with_reducible rfl
            (try simp only [List.getElem_toArray, List.getElem_cons_succ, List.getElem_cons_zero, Act.put, List.setIfInBounds_toArray, List.set_cons_succ, List.set_cons_zero])
            refine wpAnyH_take (i := 7) (v := ?_) rfl (by kernel_rfl) (by kernel_rfl) (by kernel_rfl) (fun _ _ _ h => h) (Or.inl ⟨by rfl, ?_⟩) (by assumption) ?_
            rotate_left
            · intro W hSw; (try dsimp only at hSw); go_simp
              first | done | with_reducible rfl
            (try simp only [List.getElem_toArray, List.getElem_cons_succ, List.getElem_cons_zero, Act.put, List.setIfInBounds_toArray, List.set_cons_succ, List.set_cons_zero])
            refine wpAnyH_take (i := 8) (v := ?_) rfl (by kernel_rfl) (by kernel_rfl) (by kernel_rfl) (fun _ _ _ h => h) (Or.inl ⟨by rfl, ?_⟩) (by assumption) ?_
            rotate_left
            · intro W hSw; (try dsimp only at hSw); go_simp
              first | done | with_reducible rfl
            (try simp only [List.getElem_toArray, List.getElem_cons_succ, List.getElem_cons_zero, Act.put, List.setIfInBounds_toArray, List.set_cons_succ, List.set_cons_zero])
            refine wpAnyH_take (i := 9) (v := ?_) rfl (by kernel_rfl) (by kernel_rfl) (by kernel_rfl) (fun _ _ _ h => h) (Or.inl ⟨by rfl, ?_⟩) (by assumption) ?_
            rotate_left
            · intro W hSw; (try dsimp only at hSw); go_simp
              first | done | with_reducible rfl
            (try simp only [List.getElem_toArray, List.getElem_cons_succ, List.getElem_cons_zero, Act.put, List.setIfInBounds_toArray, List.set_cons_succ, List.set_cons_zero])
            refine wpAnyH_take (i := 10) (v := ?_) rfl (by kernel_rfl) (by kernel_rfl) (by kernel_rfl) (fun _ _ _ h => h) (Or.inl ⟨by rfl, ?_⟩) (by assumption) ?_
            rotate_left
            · intro W hSw; (try dsimp only at hSw); go_simp
              first | done | with_reducible rfl
            (try simp only [List.getElem_toArray, List.getElem_cons_succ, List.getElem_cons_zero, Act.put, List.setIfInBounds_toArray, List.set_cons_succ, List.set_cons_zero])
            refine wpAnyH_take (i := 11) (v := ?_) rfl (by kernel_rfl) (by kernel_rfl) (by kernel_rfl) (fun _ _ _ h => h) (Or.inl ⟨by rfl, ?_⟩) (by assumption) ?_
            rotate_left
            · intro W hSw; (try dsimp only at hSw); go_simp
              first | done | with_reducible rfl
            (try simp only [List.getElem_toArray, List.getElem_cons_succ, List.getElem_cons_zero, Act.put, List.setIfInBounds_toArray, List.set_cons_succ, List.set_cons_zero])
            refine wpAnyH_take (i := 12) (v := ?_) rfl (by kernel_rfl) (by kernel_rfl) (by kernel_rfl) (fun _ _ _ h => h) (Or.inl ⟨by rfl, ?_⟩) (by assumption) ?_
            rotate_left
            · intro W hSw; (try dsimp only at hSw); go_simp
              first | done | with_reducible rfl
            (try simp only [List.getElem_toArray, List.getElem_cons_succ, List.getElem_cons_zero, Act.put, List.setIfInBounds_toArray, List.set_cons_succ, List.set_cons_zero])
            refine wpAnyH_ready (rs := [5]) (by kernel_rfl) (by simp) ?_
            refine AllReadyH.cons rfl (fun KK hK => ?_) AllReadyH.nil
            go_simp
            refine (CEF.out _).mono ?_
            rintro en w13 ⟨v13, rfl, o13, n13, b13⟩
            have k13 := k12.next b13
            have z13 := SS.out _ k13
            obtain ⟨a13, c13, e13, -, -, -, l13, -⟩ := o13.form
            rw [HEL.out] at e13
            subst e13
            have v14 : (convert 57 9 (.slice a13 (39 + m) c13)).run Tryz.prog w13 = .ok (.string (str el)) w13 := by
              have h := run_str l13 HBYE.out c13
              rw [HEL.out] at h
              exact h
            clear o13 n13 b13 l13 hHeld z12 k12
            refine hK.out _ _ z13 (fun hHeld => ?_)
            clear hK KK
            (try simp only [List.getElem_toArray, List.getElem_cons_succ, List.getElem_cons_zero, Act.put, List.setIfInBounds_toArray, List.set_cons_succ, List.set_cons_zero])
            refine wpAnyH_ready (rs := [6]) (by kernel_rfl) (by simp) ?_
            refine AllReadyH.cons rfl (fun KK hK => ?_) AllReadyH.nil
            go_simp
            refine hK.out _ _ z13 (fun hHeld => ?_)
            clear hK KK
            (try simp only [List.getElem_toArray, List.getElem_cons_succ, List.getElem_cons_zero, Act.put, List.setIfInBounds_toArray, List.set_cons_succ, List.set_cons_zero])
            refine wpAnyH_take (i := 13) (v := ?_) rfl (by kernel_rfl) (by kernel_rfl) (by kernel_rfl) (fun _ _ _ h => h) (Or.inl ⟨by rfl, ?_⟩) (by assumption) ?_
            rotate_left
            · intro W hSw; (try dsimp only at hSw); go_simp
              first | done | with_reducible rfl
            (try simp only [List.getElem_toArray, List.getElem_cons_succ, List.getElem_cons_zero, Act.put, List.setIfInBounds_toArray, List.set_cons_succ, List.set_cons_zero])
            refine wpAnyH_take (i := 14) (v := ?_) rfl (by kernel_rfl) (by kernel_rfl) (by kernel_rfl) (fun _ _ _ h => h) (Or.inl ⟨by rfl, ?_⟩) (by assumption) ?_
            rotate_left
            · intro W hSw; (try dsimp only at hSw); go_simp
              first | done | with_reducible rfl
            (try simp only [List.getElem_toArray, List.getElem_cons_succ, List.getElem_cons_zero, Act.put, List.setIfInBounds_toArray, List.set_cons_succ, List.set_cons_zero])
            refine wpAnyH_done (by kernel_rfl) ?_ _
            refine NoPanic.normal ?_
            clear z13 v14 hHeld SS CMF CEF
            go_wp2_with fail
            go_meet
            exact ⟨rfl, k13⟩
          case rest =>
            obtain ⟨rfl, k20⟩ := hcut
            clear k11 s11 v11 hfr hcmp
            have W6 := Lib.hid k20.rd.whole
            have V6 := Lib.hid k20.whole
            have B6 := Lib.hid k20.rd.below
            go_wp2_with (first
              | ((with_reducible show wpList _ _ _ (⟨some 119, _, _, _, _, _⟩ :: _) _ _); refine wpList_load_mid rfl 40 (.tmp 8) rfl q 0 rfl [.int .i64 c2, .int .u32 (tn : Int), .int .u64 (e : Int), .int .u64 (o : Int), .int .u64 (s : Int), .string bd] _ (V6.out.range 0 6) Tryz.underlying40 rfl recInfo ?_)
              | ((with_reducible show wpList _ _ _ (⟨none, _, _, _, _, _⟩ :: _) _ _); refine wpList_store_as rfl 40 (.tmp 2) (.tmp 119) rfl bz 0 #[.int .i64 c2, .int .u32 (tn : Int), .int .u64 (e : Int), .int .u64 (o : Int), .int .u64 (s : Int), .string bd] rfl rfl (Whole.there W6.out 0 6 (Nat.le_refl 6)) recInfo (by simp [Value.oneCell']) ?_; intro w7 hw7; have HW7 := Lib.hid hw7; clear hw7))
            have wf7 : Whole w7 bz 40 [.int .i64 c2, .int .u32 (tn : Int), .int .u64 (e : Int), .int .u64 (o : Int), .int .u64 (s : Int), .string bd] := by
              rw [← HW7.out]
              exact Whole.lay [.int .i64 c2, .int .u32 (tn : Int), .int .u64 (e : Int), .int .u64 (o : Int), .int .u64 (s : Int), .string bd] 0 W6.out (Nat.le_refl 6)
            have b7 : Below w.heap.size w w7 := by
              rw [← HW7.out]
              exact below_lay _ _ _ B6.out (by rw [HBZ.out]; exact Nat.le_refl _)
            refine rdec_ret (n := .int .i64 (39 + (m : Int))) (e := .int .i64 0) rfl rfl rfl rfl wf7 rfl ⟨?_, b7⟩
            unfold decV
            simp only
            rw [HML.out, HFULL.out]
            simp only [Rec.val, show ((39 + m : Nat) : Int) = 39 + (m : Int) by omega]
end Go.Proofs.YtdonblfidohncaaGreatDoor.recd
/-
  CONTRACT of the reference's Decode, all its ways joined.
-/

namespace Go.Proofs.YtdonblfidohncaaGreatDoor.recd
open Go.RowKit Go.Proofs.YtdonblfidohncaaGreatDoor.num Go.Proofs.YtdonblfidohncaaGreatDoor.disk
set_option linter.unusedVariables false

theorem begB_nil {l : List Int} (h : l.length = 0) : begB l = true := by
  obtain rfl := List.eq_nil_of_length_eq_zero h
  rfl
theorem begB_one {l : List Int} (h : l.length = 1) : begB l = decide (l.getD 0 0 = 83) := by
  obtain ⟨x, rfl⟩ := List.length_eq_one_iff.1 h
  simp [begB]
theorem begB_two {l : List Int} (h : 2 ≤ l.length) : begB l = (decide (l.getD 0 0 = 83 ∧ l.getD 1 0 = 82) && (decide (l.length ≤ 2) || isKindB (l.getD 2 0))) := by
  obtain ⟨x, y, r, rfl⟩ : ∃ x y r, l = x :: y :: r := by
    match l, h with
    | x :: y :: r, _ => exact ⟨x, y, r, rfl⟩
  have e : min (x :: y :: r).length 2 = 2 := Nat.min_eq_right h
  unfold begB
  rw [e]
  simp

theorem RDecode_any (a : Option Addr) (n cap : Nat) (l : List Int) (w : World) (hl : Leads w a l) (hb : Byte l) (hn : l.length = n) (hc : n ≤ cap) (hm : n ≤ 1000000000) :
    Calls Tryz.prog 79 #[.slice a n cap] w (DecOut w (dec l)) := by
  by_cases n0 : n = 0
  · exact rd_short0 a n cap l w hl hb hn hc hm (begB_nil (by omega)) n0
  · by_cases m0 : l.getD 0 0 = 83
    · by_cases n1 : n = 1
      · exact rd_short1 a n cap l w hl hb hn hc hm m0 (by rw [begB_one (by omega)]; exact decide_eq_true m0) n1
      · have hB := begB_two (l := l) (by omega)
        by_cases m1 : l.getD 1 0 = 82
        · rw [decide_eq_true (⟨m0, m1⟩ : l.getD 0 0 = 83 ∧ l.getD 1 0 = 82), Bool.true_and] at hB
          by_cases n2 : n = 2
          · exact rd_short2 a n cap l w hl hb hn hc hm m0 m1 (by rw [hB, decide_eq_true (by omega)]; rfl) n2
          · have h2 : 2 < n := by omega
            rw [decide_eq_false (by omega), Bool.false_or] at hB
            unfold isKindB at hB
            by_cases k1 : l.getD 2 0 < 1
            · exact rd_kind_lo a n cap l w hl hb hn hc hm m0 m1 (by rw [hB]; exact decide_eq_false (by omega)) h2 k1
            · by_cases k2 : 4 < l.getD 2 0
              · exact rd_kind_hi a n cap l w hl hb hn hc hm m0 m1 (by rw [hB]; exact decide_eq_false (by omega)) h2 k2
              · have h1 : begB l = true := by rw [hB]; exact decide_eq_true (by omega)
                by_cases h39 : n < 39
                · exact rd_short3 a n cap l w hl hb hn hc hm m0 m1 h1 h2 h39 (by omega) (by omega)
                · by_cases h4 : 1000 < lenOf l
                  · exact rd_len a n cap l w hl hb hn hc hm m0 m1 h1 h2 (by omega) (by omega) (by omega) h4
                  · cases h3 : numB (headOf l)
                    · exact rd_num a n cap l w hl hb hn hc hm m0 m1 h1 h2 (by omega) (by omega) (by omega) (by omega) h3
                    · by_cases h5 : n < 39 + lenOf l
                      · exact rd_more a n cap l w hl hb hn hc hm m0 m1 h1 h2 (by omega) (by omega) (by omega) (by omega) h3 h5
                      · by_cases h6 : sumOf (sub l 0 35 ++ sub l 39 (39 + lenOf l)) = val (sub l 35 39)
                        · exact rd_ok a n cap l w hl hb hn hc hm m0 m1 h1 h2 (by omega) (by omega) (by omega) (by omega) h3 (by omega) h6
                        · exact rd_bad a n cap l w hl hb hn hc hm m0 m1 h1 h2 (by omega) (by omega) (by omega) (by omega) h3 (by omega) h6
        · exact rd_m1 a n cap l w hl hb hn hc hm m0 (by rw [hB, decide_eq_false (fun h => m1 h.2)]; rfl) (by omega) m1
    · by_cases n1 : n = 1
      · exact rd_m0 a n cap l w hl hb hn hc hm (by rw [begB_one (by omega)]; exact decide_eq_false m0) (by omega) m0
      · exact rd_m0 a n cap l w hl hb hn hc hm (by rw [begB_two (by omega), decide_eq_false (fun h => m0 h.1)]; rfl) (by omega) m0
end Go.Proofs.YtdonblfidohncaaGreatDoor.recd
