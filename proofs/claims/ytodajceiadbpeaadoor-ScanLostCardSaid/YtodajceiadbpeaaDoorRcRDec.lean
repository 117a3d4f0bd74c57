/-
  CONTRACT of the reference's Decode (stillroomref6).
-/
import Derived.Test.YtodajceiadbpeaaDoorRcREnc
import Derived.Test.YtodajceiadbpeaaDoorRcRMath
import Derived.Deep.RegionHeld3
import Derived.Deep.DeepCutAuto
namespace Go.Proofs.YtodajceiadbpeaaDoor.recd
open Go.RowKit Go.Proofs.YtodajceiadbpeaaDoor.num Go.Proofs.YtodajceiadbpeaaDoor.disk
set_option linter.unusedVariables false

theorem rdec_ret {a : Act} {w9 : World} {bz : Nat} {cs : List Value} {n e : Value} {R : Ending → World → Prop} (h2 : a.tmps.getD 2 undef = .pointer (some ⟨bz, 0, none⟩)) (h3 : a.tmps.getD 3 undef = n) (h4 : a.tmps.getD 4 undef = e) (hd : a.defers = [])
    (hw : Whole w9 bz 32 cs) (hl : cs.length = 6) (hR : R (.returned (.tuple #[.agg cs.toArray, n, e])) w9) : bodyPost Tryd.prog Tryd.f24 R .ret a w9 := by
  have hld := run_load_rec hw hl
  have k2 : a.tmps[2]?.getD undef = .pointer (some ⟨bz, 0, none⟩) := by simpa using h2
  have k3 : a.tmps[3]?.getD undef = n := by simpa using h3
  have k4 : a.tmps[4]?.getD undef = e := by simpa using h4
  exact bodyPost_ret (v := .tuple #[.agg cs.toArray, n, e]) (by simp [results, Tryd.results24, k2, k3, k4, asAddr, hld]) hd hR
theorem rget_at (a : Option Addr) (n : Nat) (l : List Int) (hn : l.length = n) (cap : Nat) (w : World) (hB : Leads w a l) (hb : Byte l) (hl : n ≤ 8) :
    Calls Tryd.prog 31 #[.slice a n cap] w fun e w' => e = .returned (.int .u64 ((val l : Nat) : Int)) ∧ w = w' := by
  subst hn; exact rget_any a l cap w hB hb hl
/-- The disk of a call under way: the result's place, what was there before. -/
structure RD (w : World) (bz : Nat) (wr : World) : Prop where
  whole : Whole wr bz 32 [.int .i64 0, .int .u32 0, .int .u64 0, .int .u64 0, .int .u64 0, .string ⟨#[]⟩]
  below : Below w.heap.size w wr
theorem RD.next {w W W' : World} {bz : Nat} (h : RD w bz W) (hb : Below W.heap.size W W') : RD w bz W' := ⟨h.whole.kept hb, h.below.trans (hb.mono h.below.size)⟩

set_option maxRecDepth 100000 in
set_option maxHeartbeats 4000000 in
theorem rd_m0 (a : Option Addr) (n cap : Nat) (l : List Int) (w : World) (hl : Leads w a l) (hb : Byte l) (hn : l.length = n) (hc : n ≤ cap) (hm : n ≤ 1000000000) (h1 : begB l = false) (hnj : 0 < n) (mm : l.getD 0 0 ≠ 83) :
    Calls Tryd.prog 24 #[.slice a n cap] w (DecOut w (dec l)) := by
  have hd : dec l = (zeroRec, 0, 4) := by unfold dec; rw [if_pos h1]
  rw [hd]
  clear hd
  obtain ⟨g, off, rfl, hA⟩ := hl.at_ (by omega)
  have HA : At w g off l := hA
  obtain ⟨cm, hcm⟩ : ∃ cm, l.getD 0 0 = cm := ⟨_, rfl⟩
  have hby := hb.at (i := 0) (by omega)
  rw [hcm] at hby mm
  have mmb : (cm == 83) = false := by simpa using mm
  have mmn : (cm != 83) = true := by simpa using mm
  have mmx : (cm != (((⟨#[83, 82]⟩ : ByteArray)[0]'(by decide)).toNat : Int)) = true := mmn
  have cw0 : w.cell? ⟨g, off, none⟩ = some (.int .u8 cm) := by
    have h := hA 0 (by omega)
    rw [hcm] at h
    exact h
  have n0 : (0 : Int) < (n : Int) := by omega
  have nn0 : 0 < n := by omega
  clear h1
  have CW0 := Lib.hid cw0
  have HB := Lib.hid hb
  have HN := Lib.hid hn
  have HL := Lib.hid hl
  have HAT := Lib.hid HA
  clear HA hA
  clear cw0
  clear mm hcm
  clear hb hn hl hm
  obtain ⟨bz, hbz⟩ : ∃ bz, w.heap.size = bz := ⟨_, rfl⟩
  have r0 : RD w bz (w.alloc (.cells #[.int .i64 0, .int .u32 0, .int .u64 0, .int .u64 0, .int .u64 0, .string ⟨#[]⟩] 32)) := ⟨Whole.new_ hbz.symm rfl, (Below.refl _ _).alloc (Nat.le_refl _) _⟩
  have R0 := Lib.hid r0
  have HBZ := Lib.hid hbz
  clear r0
  go_enter Tryd.func24, Tryd.ntmps24
  go_wp2_with fail
  clear hbz
  go_loopw [6] (fun i wr => ∃ j : Nat, j ≤ 0 ∧ i = .int .i64 (j : Int) ∧ RD w bz wr) (fun i _ => 0 - (intOf i).toNat)
  case atStart => exact ⟨0, by decide, rfl, R0.out⟩
  case round =>
    obtain ⟨j, hj, rfl, hr⟩ := hrel
    have HR := Lib.hid hr
    clear hr
    obtain rfl : j = 0 := by omega
    have cq : ∀ q, (wr.drewN q).cell? ⟨g, off, none⟩ = some (.int .u8 cm) := fun q => (HR.out.below.cell (p := ⟨g, off, none⟩) (block_lt_of_cell CW0.out)).trans CW0.out
    have wz : ∀ q, Whole (wr.drewN q) bz 32 [.int .i64 0, .int .u32 0, .int .u64 0, .int .u64 0, .int .u64 0, .string ⟨#[]⟩] := fun q => HR.out.whole.draws q
    have bz' : ∀ q, Below w.heap.size w (wr.drewN q) := fun q => below_draws HR.out.below q
    have WZ := Lib.hid wz
    have BZ := Lib.hid bz'
    clear wz bz'
    go_wp2_with fail
    go_quiet (fail)
    obtain ⟨w6, hw6⟩ : ∃ w6, wr.drewN nq = w6 := ⟨_, rfl⟩
    have W6 := WZ.out nq
    have B6 := BZ.out nq
    rw [hw6] at W6 B6 ⊢
    have W6 := Lib.hid W6
    have B6 := Lib.hid B6
    clear hw6
    go_wp2_with ((with_reducible show wpList _ _ _ (⟨none, _, _, _, _, _⟩ :: _) _ _); refine wpList_store_as rfl 32 (.tmp 2) (.tmp 27) rfl bz 0 #[.int .i64 0, .int .u32 0, .int .u64 0, .int .u64 0, .int .u64 0, .string ⟨#[]⟩] rfl rfl (Whole.there W6.out 0 6 (Nat.le_refl 6)) recInfo (by simp [Value.oneCell']) ?_; intro w7 hw7; have HW7 := Lib.hid hw7; clear hw7)
    have wf7 : Whole w7 bz 32 [.int .i64 0, .int .u32 0, .int .u64 0, .int .u64 0, .int .u64 0, .string ⟨#[]⟩] := by
      rw [← HW7.out]
      exact Whole.lay [.int .i64 0, .int .u32 0, .int .u64 0, .int .u64 0, .int .u64 0, .string ⟨#[]⟩] 0 W6.out (by decide)
    have b7 : Below w.heap.size w w7 := by
      rw [← HW7.out]
      exact below_lay _ _ _ B6.out (by rw [HBZ.out]; exact Nat.le_refl _)
    exact rdec_ret rfl rfl rfl rfl wf7 rfl ⟨rfl, b7⟩
set_option maxRecDepth 100000 in
set_option maxHeartbeats 4000000 in
theorem rd_m1 (a : Option Addr) (n cap : Nat) (l : List Int) (w : World) (hl : Leads w a l) (hb : Byte l) (hn : l.length = n) (hc : n ≤ cap) (hm : n ≤ 1000000000) (m0 : l.getD 0 0 = 83) (h1 : begB l = false) (hnj : 1 < n) (mm : l.getD 1 0 ≠ 82) :
    Calls Tryd.prog 24 #[.slice a n cap] w (DecOut w (dec l)) := by
  have hd : dec l = (zeroRec, 0, 4) := by unfold dec; rw [if_pos h1]
  rw [hd]
  clear hd
  obtain ⟨g, off, rfl, hA⟩ := hl.at_ (by omega)
  have HA : At w g off l := hA
  have cw0 : w.cell? ⟨g, off, none⟩ = some (.int .u8 83) := by
    have h := hA 0 (by omega)
    rw [m0] at h
    exact h
  obtain ⟨cm, hcm⟩ : ∃ cm, l.getD 1 0 = cm := ⟨_, rfl⟩
  have hby := hb.at (i := 1) (by omega)
  rw [hcm] at hby mm
  have mmb : (cm == 82) = false := by simpa using mm
  have mmn : (cm != 82) = true := by simpa using mm
  have mmx : (cm != (((⟨#[83, 82]⟩ : ByteArray)[1]'(by decide)).toNat : Int)) = true := mmn
  have cw1 : w.cell? ⟨g, off + 1, none⟩ = some (.int .u8 cm) := by
    have h := hA 1 (by omega)
    rw [hcm] at h
    exact h
  have n0 : (0 : Int) < (n : Int) := by omega
  have n1 : (1 : Int) < (n : Int) := by omega
  have nn0 : 0 < n := by omega
  have nn1 : 1 < n := by omega
  clear h1
  have CW0 := Lib.hid cw0
  have CW1 := Lib.hid cw1
  have HB := Lib.hid hb
  have HN := Lib.hid hn
  have HL := Lib.hid hl
  have HAT := Lib.hid HA
  clear HA hA
  clear cw0
  clear cw1
  clear m0
  clear mm hcm
  clear hb hn hl hm
  obtain ⟨bz, hbz⟩ : ∃ bz, w.heap.size = bz := ⟨_, rfl⟩
  have r0 : RD w bz (w.alloc (.cells #[.int .i64 0, .int .u32 0, .int .u64 0, .int .u64 0, .int .u64 0, .string ⟨#[]⟩] 32)) := ⟨Whole.new_ hbz.symm rfl, (Below.refl _ _).alloc (Nat.le_refl _) _⟩
  have R0 := Lib.hid r0
  have HBZ := Lib.hid hbz
  clear r0
  go_enter Tryd.func24, Tryd.ntmps24
  go_wp2_with fail
  clear hbz
  go_loopw [6] (fun i wr => ∃ j : Nat, j ≤ 1 ∧ i = .int .i64 (j : Int) ∧ RD w bz wr) (fun i _ => 1 - (intOf i).toNat)
  case atStart => exact ⟨0, by decide, rfl, R0.out⟩
  case round =>
    obtain ⟨j, hj, rfl, hr⟩ := hrel
    have HR := Lib.hid hr
    clear hr
    by_cases j0 : j = 0
    · subst j0
      have cq : ∀ q, (wr.drewN q).cell? ⟨g, off, none⟩ = some (.int .u8 83) := fun q => (HR.out.below.cell (p := ⟨g, off, none⟩) (block_lt_of_cell CW0.out)).trans CW0.out
      have nr : ∀ q, RD w bz (wr.drewN q) := fun q => HR.out.next (below_draws (Below.refl _ _) q)
      have NR := Lib.hid nr
      clear nr
      go_wp2_with fail
      go_quiet (fail)
      go_wp2_with fail
      exact ⟨⟨1, by decide, rfl, NR.out _⟩, by simp [intOf]⟩
    · skip
      obtain rfl : j = 1 := by omega
      clear j0
      have cq : ∀ q, (wr.drewN q).cell? ⟨g, off + 1, none⟩ = some (.int .u8 cm) := fun q => (HR.out.below.cell (p := ⟨g, off + 1, none⟩) (block_lt_of_cell CW1.out)).trans CW1.out
      have wz : ∀ q, Whole (wr.drewN q) bz 32 [.int .i64 0, .int .u32 0, .int .u64 0, .int .u64 0, .int .u64 0, .string ⟨#[]⟩] := fun q => HR.out.whole.draws q
      have bz' : ∀ q, Below w.heap.size w (wr.drewN q) := fun q => below_draws HR.out.below q
      have WZ := Lib.hid wz
      have BZ := Lib.hid bz'
      clear wz bz'
      go_wp2_with fail
      go_quiet (fail)
      obtain ⟨w6, hw6⟩ : ∃ w6, wr.drewN nq = w6 := ⟨_, rfl⟩
      have W6 := WZ.out nq
      have B6 := BZ.out nq
      rw [hw6] at W6 B6 ⊢
      have W6 := Lib.hid W6
      have B6 := Lib.hid B6
      clear hw6
      go_wp2_with ((with_reducible show wpList _ _ _ (⟨none, _, _, _, _, _⟩ :: _) _ _); refine wpList_store_as rfl 32 (.tmp 2) (.tmp 27) rfl bz 0 #[.int .i64 0, .int .u32 0, .int .u64 0, .int .u64 0, .int .u64 0, .string ⟨#[]⟩] rfl rfl (Whole.there W6.out 0 6 (Nat.le_refl 6)) recInfo (by simp [Value.oneCell']) ?_; intro w7 hw7; have HW7 := Lib.hid hw7; clear hw7)
      have wf7 : Whole w7 bz 32 [.int .i64 0, .int .u32 0, .int .u64 0, .int .u64 0, .int .u64 0, .string ⟨#[]⟩] := by
        rw [← HW7.out]
        exact Whole.lay [.int .i64 0, .int .u32 0, .int .u64 0, .int .u64 0, .int .u64 0, .string ⟨#[]⟩] 0 W6.out (by decide)
      have b7 : Below w.heap.size w w7 := by
        rw [← HW7.out]
        exact below_lay _ _ _ B6.out (by rw [HBZ.out]; exact Nat.le_refl _)
      exact rdec_ret rfl rfl rfl rfl wf7 rfl ⟨rfl, b7⟩
set_option maxRecDepth 100000 in
set_option maxHeartbeats 4000000 in
theorem rd_short0 (a : Option Addr) (n cap : Nat) (l : List Int) (w : World) (hl : Leads w a l) (hb : Byte l) (hn : l.length = n) (hc : n ≤ cap) (hm : n ≤ 1000000000)  (h1 : begB l = true) (h2 : n = 0) :
    Calls Tryd.prog 24 #[.slice a n cap] w (DecOut w (dec l)) := by
  have hd : dec l = (zeroRec, 0, 11) := by unfold dec; rw [if_neg (by rw [h1]; simp), if_pos (by omega)]
  rw [hd]
  clear hd
  have n0 : ¬ (0 : Int) < (n : Int) := by omega
  have h39 : (n : Int) < 39 := by omega
  have h3 : ¬ (2 : Int) < (n : Int) := by omega
  clear h1 h2
  have HB := Lib.hid hb
  have HN := Lib.hid hn
  have HL := Lib.hid hl
  clear hb hn hl hm
  obtain ⟨bz, hbz⟩ : ∃ bz, w.heap.size = bz := ⟨_, rfl⟩
  have r0 : RD w bz (w.alloc (.cells #[.int .i64 0, .int .u32 0, .int .u64 0, .int .u64 0, .int .u64 0, .string ⟨#[]⟩] 32)) := ⟨Whole.new_ hbz.symm rfl, (Below.refl _ _).alloc (Nat.le_refl _) _⟩
  have R0 := Lib.hid r0
  have HBZ := Lib.hid hbz
  clear r0
  go_enter Tryd.func24, Tryd.ntmps24
  go_wp2_with fail
  clear hbz
  go_loopw [6] (fun i wr => ∃ j : Nat, j ≤ 0 ∧ i = .int .i64 (j : Int) ∧ RD w bz wr) (fun i _ => 0 - (intOf i).toNat)
  case atStart => exact ⟨0, by decide, rfl, R0.out⟩
  case round =>
    obtain ⟨j, hj, rfl, hr⟩ := hrel
    have HR := Lib.hid hr
    clear hr
    obtain rfl : j = 0 := by omega
    have W6 := Lib.hid HR.out.whole
    have B6 := Lib.hid HR.out.below
    go_wp2_with ((with_reducible show wpList _ _ _ (⟨none, _, _, _, _, _⟩ :: _) _ _); refine wpList_store_as rfl 32 (.tmp 2) (.tmp 47) rfl bz 0 #[.int .i64 0, .int .u32 0, .int .u64 0, .int .u64 0, .int .u64 0, .string ⟨#[]⟩] rfl rfl (Whole.there W6.out 0 6 (Nat.le_refl 6)) recInfo (by simp [Value.oneCell']) ?_; intro w7 hw7; have HW7 := Lib.hid hw7; clear hw7)
    have wf7 : Whole w7 bz 32 [.int .i64 0, .int .u32 0, .int .u64 0, .int .u64 0, .int .u64 0, .string ⟨#[]⟩] := by
      rw [← HW7.out]
      exact Whole.lay [.int .i64 0, .int .u32 0, .int .u64 0, .int .u64 0, .int .u64 0, .string ⟨#[]⟩] 0 W6.out (by decide)
    have b7 : Below w.heap.size w w7 := by
      rw [← HW7.out]
      exact below_lay _ _ _ B6.out (by rw [HBZ.out]; exact Nat.le_refl _)
    exact rdec_ret rfl rfl rfl rfl wf7 rfl ⟨rfl, b7⟩
set_option maxRecDepth 100000 in
set_option maxHeartbeats 4000000 in
theorem rd_short1 (a : Option Addr) (n cap : Nat) (l : List Int) (w : World) (hl : Leads w a l) (hb : Byte l) (hn : l.length = n) (hc : n ≤ cap) (hm : n ≤ 1000000000) (m0 : l.getD 0 0 = 83) (h1 : begB l = true) (h2 : n = 1) :
    Calls Tryd.prog 24 #[.slice a n cap] w (DecOut w (dec l)) := by
  have hd : dec l = (zeroRec, 0, 11) := by unfold dec; rw [if_neg (by rw [h1]; simp), if_pos (by omega)]
  rw [hd]
  clear hd
  obtain ⟨g, off, rfl, hA⟩ := hl.at_ (by omega)
  have HA : At w g off l := hA
  have cw0 : w.cell? ⟨g, off, none⟩ = some (.int .u8 83) := by
    have h := hA 0 (by omega)
    rw [m0] at h
    exact h
  have n0 : (0 : Int) < (n : Int) := by omega
  have n1 : ¬ (1 : Int) < (n : Int) := by omega
  have nn0 : 0 < n := by omega
  have h39 : (n : Int) < 39 := by omega
  have h3 : ¬ (2 : Int) < (n : Int) := by omega
  clear h1 h2
  have CW0 := Lib.hid cw0
  have HB := Lib.hid hb
  have HN := Lib.hid hn
  have HL := Lib.hid hl
  have HAT := Lib.hid HA
  clear HA hA
  clear cw0
  clear m0
  clear hb hn hl hm
  obtain ⟨bz, hbz⟩ : ∃ bz, w.heap.size = bz := ⟨_, rfl⟩
  have r0 : RD w bz (w.alloc (.cells #[.int .i64 0, .int .u32 0, .int .u64 0, .int .u64 0, .int .u64 0, .string ⟨#[]⟩] 32)) := ⟨Whole.new_ hbz.symm rfl, (Below.refl _ _).alloc (Nat.le_refl _) _⟩
  have R0 := Lib.hid r0
  have HBZ := Lib.hid hbz
  clear r0
  go_enter Tryd.func24, Tryd.ntmps24
  go_wp2_with fail
  clear hbz
  go_loopw [6] (fun i wr => ∃ j : Nat, j ≤ 1 ∧ i = .int .i64 (j : Int) ∧ RD w bz wr) (fun i _ => 1 - (intOf i).toNat)
  case atStart => exact ⟨0, by decide, rfl, R0.out⟩
  case round =>
    obtain ⟨j, hj, rfl, hr⟩ := hrel
    have HR := Lib.hid hr
    clear hr
    by_cases j0 : j = 0
    · subst j0
      have cq : ∀ q, (wr.drewN q).cell? ⟨g, off, none⟩ = some (.int .u8 83) := fun q => (HR.out.below.cell (p := ⟨g, off, none⟩) (block_lt_of_cell CW0.out)).trans CW0.out
      have nr : ∀ q, RD w bz (wr.drewN q) := fun q => HR.out.next (below_draws (Below.refl _ _) q)
      have NR := Lib.hid nr
      clear nr
      go_wp2_with fail
      go_quiet (fail)
      go_wp2_with fail
      exact ⟨⟨1, by decide, rfl, NR.out _⟩, by simp [intOf]⟩
    · skip
      obtain rfl : j = 1 := by omega
      clear j0
      have W6 := Lib.hid HR.out.whole
      have B6 := Lib.hid HR.out.below
      go_wp2_with ((with_reducible show wpList _ _ _ (⟨none, _, _, _, _, _⟩ :: _) _ _); refine wpList_store_as rfl 32 (.tmp 2) (.tmp 47) rfl bz 0 #[.int .i64 0, .int .u32 0, .int .u64 0, .int .u64 0, .int .u64 0, .string ⟨#[]⟩] rfl rfl (Whole.there W6.out 0 6 (Nat.le_refl 6)) recInfo (by simp [Value.oneCell']) ?_; intro w7 hw7; have HW7 := Lib.hid hw7; clear hw7)
      have wf7 : Whole w7 bz 32 [.int .i64 0, .int .u32 0, .int .u64 0, .int .u64 0, .int .u64 0, .string ⟨#[]⟩] := by
        rw [← HW7.out]
        exact Whole.lay [.int .i64 0, .int .u32 0, .int .u64 0, .int .u64 0, .int .u64 0, .string ⟨#[]⟩] 0 W6.out (by decide)
      have b7 : Below w.heap.size w w7 := by
        rw [← HW7.out]
        exact below_lay _ _ _ B6.out (by rw [HBZ.out]; exact Nat.le_refl _)
      exact rdec_ret rfl rfl rfl rfl wf7 rfl ⟨rfl, b7⟩
set_option maxRecDepth 100000 in
set_option maxHeartbeats 4000000 in
theorem rd_short2 (a : Option Addr) (n cap : Nat) (l : List Int) (w : World) (hl : Leads w a l) (hb : Byte l) (hn : l.length = n) (hc : n ≤ cap) (hm : n ≤ 1000000000) (m0 : l.getD 0 0 = 83) (m1 : l.getD 1 0 = 82) (h1 : begB l = true) (h2 : n = 2) :
    Calls Tryd.prog 24 #[.slice a n cap] w (DecOut w (dec l)) := by
  have hd : dec l = (zeroRec, 0, 11) := by unfold dec; rw [if_neg (by rw [h1]; simp), if_pos (by omega)]
  rw [hd]
  clear hd
  obtain ⟨g, off, rfl, hA⟩ := hl.at_ (by omega)
  have HA : At w g off l := hA
  have cw0 : w.cell? ⟨g, off, none⟩ = some (.int .u8 83) := by
    have h := hA 0 (by omega)
    rw [m0] at h
    exact h
  have cw1 : w.cell? ⟨g, off + 1, none⟩ = some (.int .u8 82) := by
    have h := hA 1 (by omega)
    rw [m1] at h
    exact h
  have n0 : (0 : Int) < (n : Int) := by omega
  have n1 : (1 : Int) < (n : Int) := by omega
  have nn0 : 0 < n := by omega
  have nn1 : 1 < n := by omega
  have h39 : (n : Int) < 39 := by omega
  have h3 : ¬ (2 : Int) < (n : Int) := by omega
  clear h1 h2
  have CW0 := Lib.hid cw0
  have CW1 := Lib.hid cw1
  have HB := Lib.hid hb
  have HN := Lib.hid hn
  have HL := Lib.hid hl
  have HAT := Lib.hid HA
  clear HA hA
  clear cw0
  clear cw1
  clear m0
  clear m1
  clear hb hn hl hm
  obtain ⟨bz, hbz⟩ : ∃ bz, w.heap.size = bz := ⟨_, rfl⟩
  have r0 : RD w bz (w.alloc (.cells #[.int .i64 0, .int .u32 0, .int .u64 0, .int .u64 0, .int .u64 0, .string ⟨#[]⟩] 32)) := ⟨Whole.new_ hbz.symm rfl, (Below.refl _ _).alloc (Nat.le_refl _) _⟩
  have R0 := Lib.hid r0
  have HBZ := Lib.hid hbz
  clear r0
  go_enter Tryd.func24, Tryd.ntmps24
  go_wp2_with fail
  clear hbz
  go_loopw [6] (fun i wr => ∃ j : Nat, j ≤ 2 ∧ i = .int .i64 (j : Int) ∧ RD w bz wr) (fun i _ => 2 - (intOf i).toNat)
  case atStart => exact ⟨0, by decide, rfl, R0.out⟩
  case round =>
    obtain ⟨j, hj, rfl, hr⟩ := hrel
    have HR := Lib.hid hr
    clear hr
    by_cases j0 : j = 0
    · subst j0
      have cq : ∀ q, (wr.drewN q).cell? ⟨g, off, none⟩ = some (.int .u8 83) := fun q => (HR.out.below.cell (p := ⟨g, off, none⟩) (block_lt_of_cell CW0.out)).trans CW0.out
      have nr : ∀ q, RD w bz (wr.drewN q) := fun q => HR.out.next (below_draws (Below.refl _ _) q)
      have NR := Lib.hid nr
      clear nr
      go_wp2_with fail
      go_quiet (fail)
      go_wp2_with fail
      exact ⟨⟨1, by decide, rfl, NR.out _⟩, by simp [intOf]⟩
    · skip
      by_cases j1 : j = 1
      · subst j1
        have cq : ∀ q, (wr.drewN q).cell? ⟨g, off + 1, none⟩ = some (.int .u8 82) := fun q => (HR.out.below.cell (p := ⟨g, off + 1, none⟩) (block_lt_of_cell CW1.out)).trans CW1.out
        have nr : ∀ q, RD w bz (wr.drewN q) := fun q => HR.out.next (below_draws (Below.refl _ _) q)
        have NR := Lib.hid nr
        clear nr
        go_wp2_with fail
        go_quiet (fail)
        go_wp2_with fail
        exact ⟨⟨2, by decide, rfl, NR.out _⟩, by simp [intOf]⟩
      · skip
        obtain rfl : j = 2 := by omega
        clear j0
        clear j1
        have W6 := Lib.hid HR.out.whole
        have B6 := Lib.hid HR.out.below
        go_wp2_with ((with_reducible show wpList _ _ _ (⟨none, _, _, _, _, _⟩ :: _) _ _); refine wpList_store_as rfl 32 (.tmp 2) (.tmp 47) rfl bz 0 #[.int .i64 0, .int .u32 0, .int .u64 0, .int .u64 0, .int .u64 0, .string ⟨#[]⟩] rfl rfl (Whole.there W6.out 0 6 (Nat.le_refl 6)) recInfo (by simp [Value.oneCell']) ?_; intro w7 hw7; have HW7 := Lib.hid hw7; clear hw7)
        have wf7 : Whole w7 bz 32 [.int .i64 0, .int .u32 0, .int .u64 0, .int .u64 0, .int .u64 0, .string ⟨#[]⟩] := by
          rw [← HW7.out]
          exact Whole.lay [.int .i64 0, .int .u32 0, .int .u64 0, .int .u64 0, .int .u64 0, .string ⟨#[]⟩] 0 W6.out (by decide)
        have b7 : Below w.heap.size w w7 := by
          rw [← HW7.out]
          exact below_lay _ _ _ B6.out (by rw [HBZ.out]; exact Nat.le_refl _)
        exact rdec_ret rfl rfl rfl rfl wf7 rfl ⟨rfl, b7⟩
set_option maxRecDepth 100000 in
set_option maxHeartbeats 4000000 in
theorem rd_kind_lo (a : Option Addr) (n cap : Nat) (l : List Int) (w : World) (hl : Leads w a l) (hb : Byte l) (hn : l.length = n) (hc : n ≤ cap) (hm : n ≤ 1000000000) (m0 : l.getD 0 0 = 83) (m1 : l.getD 1 0 = 82) (h1 : begB l = false) (h2 : 2 < n) (hk : l.getD 2 0 < 1) :
    Calls Tryd.prog 24 #[.slice a n cap] w (DecOut w (dec l)) := by
  have hd : dec l = (zeroRec, 0, 4) := by unfold dec; rw [if_pos h1]
  rw [hd]
  clear hd
  obtain ⟨g, off, rfl, hA⟩ := hl.at_ (by omega)
  have HA : At w g off l := hA
  have cw0 : w.cell? ⟨g, off, none⟩ = some (.int .u8 83) := by
    have h := hA 0 (by omega)
    rw [m0] at h
    exact h
  have cw1 : w.cell? ⟨g, off + 1, none⟩ = some (.int .u8 82) := by
    have h := hA 1 (by omega)
    rw [m1] at h
    exact h
  have n0 : (0 : Int) < (n : Int) := by omega
  have n1 : (1 : Int) < (n : Int) := by omega
  have nn0 : 0 < n := by omega
  have nn1 : 1 < n := by omega
  have cw2 : w.cell? ⟨g, off + 2, none⟩ = some (.int .u8 (l.getD 2 0)) := hA 2 (by omega)
  have by2 := hb.at (i := 2) (by omega)
  obtain ⟨c2, hc2⟩ : ∃ c2, l.getD 2 0 = c2 := ⟨_, rfl⟩
  rw [hc2] at cw2 by2
  have CW2 := Lib.hid cw2
  have HC2 := Lib.hid hc2
  have n2 : (2 : Int) < (n : Int) := by omega
  have nn2 : 2 < n := by omega
  rw [hc2] at hk
  have k1 : c2 < 1 := by omega
  clear h1 h2 hk cw2 hc2
  have CW0 := Lib.hid cw0
  have CW1 := Lib.hid cw1
  have HB := Lib.hid hb
  have HN := Lib.hid hn
  have HL := Lib.hid hl
  have HAT := Lib.hid HA
  clear HA hA
  clear cw0
  clear cw1
  clear m0
  clear m1
  clear hb hn hl hm
  obtain ⟨bz, hbz⟩ : ∃ bz, w.heap.size = bz := ⟨_, rfl⟩
  have r0 : RD w bz (w.alloc (.cells #[.int .i64 0, .int .u32 0, .int .u64 0, .int .u64 0, .int .u64 0, .string ⟨#[]⟩] 32)) := ⟨Whole.new_ hbz.symm rfl, (Below.refl _ _).alloc (Nat.le_refl _) _⟩
  have R0 := Lib.hid r0
  have HBZ := Lib.hid hbz
  clear r0
  go_enter Tryd.func24, Tryd.ntmps24
  go_wp2_with fail
  clear hbz
  go_loopw [6] (fun i wr => ∃ j : Nat, j ≤ 2 ∧ i = .int .i64 (j : Int) ∧ RD w bz wr) (fun i _ => 2 - (intOf i).toNat)
  case atStart => exact ⟨0, by decide, rfl, R0.out⟩
  case round =>
    obtain ⟨j, hj, rfl, hr⟩ := hrel
    have HR := Lib.hid hr
    clear hr
    by_cases j0 : j = 0
    · subst j0
      have cq : ∀ q, (wr.drewN q).cell? ⟨g, off, none⟩ = some (.int .u8 83) := fun q => (HR.out.below.cell (p := ⟨g, off, none⟩) (block_lt_of_cell CW0.out)).trans CW0.out
      have nr : ∀ q, RD w bz (wr.drewN q) := fun q => HR.out.next (below_draws (Below.refl _ _) q)
      have NR := Lib.hid nr
      clear nr
      go_wp2_with fail
      go_quiet (fail)
      go_wp2_with fail
      exact ⟨⟨1, by decide, rfl, NR.out _⟩, by simp [intOf]⟩
    · skip
      by_cases j1 : j = 1
      · subst j1
        have cq : ∀ q, (wr.drewN q).cell? ⟨g, off + 1, none⟩ = some (.int .u8 82) := fun q => (HR.out.below.cell (p := ⟨g, off + 1, none⟩) (block_lt_of_cell CW1.out)).trans CW1.out
        have nr : ∀ q, RD w bz (wr.drewN q) := fun q => HR.out.next (below_draws (Below.refl _ _) q)
        have NR := Lib.hid nr
        clear nr
        go_wp2_with fail
        go_quiet (fail)
        go_wp2_with fail
        exact ⟨⟨2, by decide, rfl, NR.out _⟩, by simp [intOf]⟩
      · skip
        obtain rfl : j = 2 := by omega
        clear j0
        clear j1
        have c2w : wr.cell? ⟨g, off + 2, none⟩ = some (.int .u8 c2) := (HR.out.below.cell (p := ⟨g, off + 2, none⟩) (block_lt_of_cell CW2.out)).trans CW2.out
        have W6 := Lib.hid HR.out.whole
        have B6 := Lib.hid HR.out.below
        go_wp2_with ((with_reducible show wpList _ _ _ (⟨none, _, _, _, _, _⟩ :: _) _ _); refine wpList_store_as rfl 32 (.tmp 2) (.tmp 43) rfl bz 0 #[.int .i64 0, .int .u32 0, .int .u64 0, .int .u64 0, .int .u64 0, .string ⟨#[]⟩] rfl rfl (Whole.there W6.out 0 6 (Nat.le_refl 6)) recInfo (by simp [Value.oneCell']) ?_; intro w7 hw7; have HW7 := Lib.hid hw7; clear hw7)
        have wf7 : Whole w7 bz 32 [.int .i64 0, .int .u32 0, .int .u64 0, .int .u64 0, .int .u64 0, .string ⟨#[]⟩] := by
          rw [← HW7.out]
          exact Whole.lay [.int .i64 0, .int .u32 0, .int .u64 0, .int .u64 0, .int .u64 0, .string ⟨#[]⟩] 0 W6.out (by decide)
        have b7 : Below w.heap.size w w7 := by
          rw [← HW7.out]
          exact below_lay _ _ _ B6.out (by rw [HBZ.out]; exact Nat.le_refl _)
        exact rdec_ret rfl rfl rfl rfl wf7 rfl ⟨rfl, b7⟩
set_option maxRecDepth 100000 in
set_option maxHeartbeats 4000000 in
theorem rd_kind_hi (a : Option Addr) (n cap : Nat) (l : List Int) (w : World) (hl : Leads w a l) (hb : Byte l) (hn : l.length = n) (hc : n ≤ cap) (hm : n ≤ 1000000000) (m0 : l.getD 0 0 = 83) (m1 : l.getD 1 0 = 82) (h1 : begB l = false) (h2 : 2 < n) (hk : 4 < l.getD 2 0) :
    Calls Tryd.prog 24 #[.slice a n cap] w (DecOut w (dec l)) := by
  have hd : dec l = (zeroRec, 0, 4) := by unfold dec; rw [if_pos h1]
  rw [hd]
  clear hd
  obtain ⟨g, off, rfl, hA⟩ := hl.at_ (by omega)
  have HA : At w g off l := hA
  have cw0 : w.cell? ⟨g, off, none⟩ = some (.int .u8 83) := by
    have h := hA 0 (by omega)
    rw [m0] at h
    exact h
  have cw1 : w.cell? ⟨g, off + 1, none⟩ = some (.int .u8 82) := by
    have h := hA 1 (by omega)
    rw [m1] at h
    exact h
  have n0 : (0 : Int) < (n : Int) := by omega
  have n1 : (1 : Int) < (n : Int) := by omega
  have nn0 : 0 < n := by omega
  have nn1 : 1 < n := by omega
  have cw2 : w.cell? ⟨g, off + 2, none⟩ = some (.int .u8 (l.getD 2 0)) := hA 2 (by omega)
  have by2 := hb.at (i := 2) (by omega)
  obtain ⟨c2, hc2⟩ : ∃ c2, l.getD 2 0 = c2 := ⟨_, rfl⟩
  rw [hc2] at cw2 by2
  have CW2 := Lib.hid cw2
  have HC2 := Lib.hid hc2
  have n2 : (2 : Int) < (n : Int) := by omega
  have nn2 : 2 < n := by omega
  rw [hc2] at hk
  have k1 : ¬ c2 < 1 := by omega
  have k2 : 4 < c2 := by omega
  clear h1 h2 hk cw2 hc2
  have CW0 := Lib.hid cw0
  have CW1 := Lib.hid cw1
  have HB := Lib.hid hb
  have HN := Lib.hid hn
  have HL := Lib.hid hl
  have HAT := Lib.hid HA
  clear HA hA
  clear cw0
  clear cw1
  clear m0
  clear m1
  clear hb hn hl hm
  obtain ⟨bz, hbz⟩ : ∃ bz, w.heap.size = bz := ⟨_, rfl⟩
  have r0 : RD w bz (w.alloc (.cells #[.int .i64 0, .int .u32 0, .int .u64 0, .int .u64 0, .int .u64 0, .string ⟨#[]⟩] 32)) := ⟨Whole.new_ hbz.symm rfl, (Below.refl _ _).alloc (Nat.le_refl _) _⟩
  have R0 := Lib.hid r0
  have HBZ := Lib.hid hbz
  clear r0
  go_enter Tryd.func24, Tryd.ntmps24
  go_wp2_with fail
  clear hbz
  go_loopw [6] (fun i wr => ∃ j : Nat, j ≤ 2 ∧ i = .int .i64 (j : Int) ∧ RD w bz wr) (fun i _ => 2 - (intOf i).toNat)
  case atStart => exact ⟨0, by decide, rfl, R0.out⟩
  case round =>
    obtain ⟨j, hj, rfl, hr⟩ := hrel
    have HR := Lib.hid hr
    clear hr
    by_cases j0 : j = 0
    · subst j0
      have cq : ∀ q, (wr.drewN q).cell? ⟨g, off, none⟩ = some (.int .u8 83) := fun q => (HR.out.below.cell (p := ⟨g, off, none⟩) (block_lt_of_cell CW0.out)).trans CW0.out
      have nr : ∀ q, RD w bz (wr.drewN q) := fun q => HR.out.next (below_draws (Below.refl _ _) q)
      have NR := Lib.hid nr
      clear nr
      go_wp2_with fail
      go_quiet (fail)
      go_wp2_with fail
      exact ⟨⟨1, by decide, rfl, NR.out _⟩, by simp [intOf]⟩
    · skip
      by_cases j1 : j = 1
      · subst j1
        have cq : ∀ q, (wr.drewN q).cell? ⟨g, off + 1, none⟩ = some (.int .u8 82) := fun q => (HR.out.below.cell (p := ⟨g, off + 1, none⟩) (block_lt_of_cell CW1.out)).trans CW1.out
        have nr : ∀ q, RD w bz (wr.drewN q) := fun q => HR.out.next (below_draws (Below.refl _ _) q)
        have NR := Lib.hid nr
        clear nr
        go_wp2_with fail
        go_quiet (fail)
        go_wp2_with fail
        exact ⟨⟨2, by decide, rfl, NR.out _⟩, by simp [intOf]⟩
      · skip
        obtain rfl : j = 2 := by omega
        clear j0
        clear j1
        have c2w : wr.cell? ⟨g, off + 2, none⟩ = some (.int .u8 c2) := (HR.out.below.cell (p := ⟨g, off + 2, none⟩) (block_lt_of_cell CW2.out)).trans CW2.out
        have W6 := Lib.hid HR.out.whole
        have B6 := Lib.hid HR.out.below
        go_wp2_with ((with_reducible show wpList _ _ _ (⟨none, _, _, _, _, _⟩ :: _) _ _); refine wpList_store_as rfl 32 (.tmp 2) (.tmp 43) rfl bz 0 #[.int .i64 0, .int .u32 0, .int .u64 0, .int .u64 0, .int .u64 0, .string ⟨#[]⟩] rfl rfl (Whole.there W6.out 0 6 (Nat.le_refl 6)) recInfo (by simp [Value.oneCell']) ?_; intro w7 hw7; have HW7 := Lib.hid hw7; clear hw7)
        have wf7 : Whole w7 bz 32 [.int .i64 0, .int .u32 0, .int .u64 0, .int .u64 0, .int .u64 0, .string ⟨#[]⟩] := by
          rw [← HW7.out]
          exact Whole.lay [.int .i64 0, .int .u32 0, .int .u64 0, .int .u64 0, .int .u64 0, .string ⟨#[]⟩] 0 W6.out (by decide)
        have b7 : Below w.heap.size w w7 := by
          rw [← HW7.out]
          exact below_lay _ _ _ B6.out (by rw [HBZ.out]; exact Nat.le_refl _)
        exact rdec_ret rfl rfl rfl rfl wf7 rfl ⟨rfl, b7⟩
set_option maxRecDepth 100000 in
set_option maxHeartbeats 4000000 in
theorem rd_short3 (a : Option Addr) (n cap : Nat) (l : List Int) (w : World) (hl : Leads w a l) (hb : Byte l) (hn : l.length = n) (hc : n ≤ cap) (hm : n ≤ 1000000000) (m0 : l.getD 0 0 = 83) (m1 : l.getD 1 0 = 82) (h1 : begB l = true) (h2 : 2 < n) (h39 : n < 39) (hk1 : 1 ≤ l.getD 2 0) (hk2 : l.getD 2 0 ≤ 4) :
    Calls Tryd.prog 24 #[.slice a n cap] w (DecOut w (dec l)) := by
  have hd : dec l = (zeroRec, 0, 11) := by unfold dec; rw [if_neg (by rw [h1]; simp), if_pos (by omega)]
  rw [hd]
  clear hd
  obtain ⟨g, off, rfl, hA⟩ := hl.at_ (by omega)
  have HA : At w g off l := hA
  have cw0 : w.cell? ⟨g, off, none⟩ = some (.int .u8 83) := by
    have h := hA 0 (by omega)
    rw [m0] at h
    exact h
  have cw1 : w.cell? ⟨g, off + 1, none⟩ = some (.int .u8 82) := by
    have h := hA 1 (by omega)
    rw [m1] at h
    exact h
  have n0 : (0 : Int) < (n : Int) := by omega
  have n1 : (1 : Int) < (n : Int) := by omega
  have nn0 : 0 < n := by omega
  have nn1 : 1 < n := by omega
  have cw2 : w.cell? ⟨g, off + 2, none⟩ = some (.int .u8 (l.getD 2 0)) := hA 2 (by omega)
  have by2 := hb.at (i := 2) (by omega)
  obtain ⟨c2, hc2⟩ : ∃ c2, l.getD 2 0 = c2 := ⟨_, rfl⟩
  rw [hc2] at cw2 by2
  have CW2 := Lib.hid cw2
  have HC2 := Lib.hid hc2
  have n2 : (2 : Int) < (n : Int) := by omega
  have nn2 : 2 < n := by omega
  rw [hc2] at hk1 hk2
  have k1 : ¬ c2 < 1 := by omega
  have k2 : ¬ 4 < c2 := by omega
  have h39 : (n : Int) < 39 := by omega
  clear h1 h2 cw2 hc2 hk1 hk2
  have CW0 := Lib.hid cw0
  have CW1 := Lib.hid cw1
  have HB := Lib.hid hb
  have HN := Lib.hid hn
  have HL := Lib.hid hl
  have HAT := Lib.hid HA
  clear HA hA
  clear cw0
  clear cw1
  clear m0
  clear m1
  clear hb hn hl hm
  obtain ⟨bz, hbz⟩ : ∃ bz, w.heap.size = bz := ⟨_, rfl⟩
  have r0 : RD w bz (w.alloc (.cells #[.int .i64 0, .int .u32 0, .int .u64 0, .int .u64 0, .int .u64 0, .string ⟨#[]⟩] 32)) := ⟨Whole.new_ hbz.symm rfl, (Below.refl _ _).alloc (Nat.le_refl _) _⟩
  have R0 := Lib.hid r0
  have HBZ := Lib.hid hbz
  clear r0
  go_enter Tryd.func24, Tryd.ntmps24
  go_wp2_with fail
  clear hbz
  go_loopw [6] (fun i wr => ∃ j : Nat, j ≤ 2 ∧ i = .int .i64 (j : Int) ∧ RD w bz wr) (fun i _ => 2 - (intOf i).toNat)
  case atStart => exact ⟨0, by decide, rfl, R0.out⟩
  case round =>
    obtain ⟨j, hj, rfl, hr⟩ := hrel
    have HR := Lib.hid hr
    clear hr
    by_cases j0 : j = 0
    · subst j0
      have cq : ∀ q, (wr.drewN q).cell? ⟨g, off, none⟩ = some (.int .u8 83) := fun q => (HR.out.below.cell (p := ⟨g, off, none⟩) (block_lt_of_cell CW0.out)).trans CW0.out
      have nr : ∀ q, RD w bz (wr.drewN q) := fun q => HR.out.next (below_draws (Below.refl _ _) q)
      have NR := Lib.hid nr
      clear nr
      go_wp2_with fail
      go_quiet (fail)
      go_wp2_with fail
      exact ⟨⟨1, by decide, rfl, NR.out _⟩, by simp [intOf]⟩
    · skip
      by_cases j1 : j = 1
      · subst j1
        have cq : ∀ q, (wr.drewN q).cell? ⟨g, off + 1, none⟩ = some (.int .u8 82) := fun q => (HR.out.below.cell (p := ⟨g, off + 1, none⟩) (block_lt_of_cell CW1.out)).trans CW1.out
        have nr : ∀ q, RD w bz (wr.drewN q) := fun q => HR.out.next (below_draws (Below.refl _ _) q)
        have NR := Lib.hid nr
        clear nr
        go_wp2_with fail
        go_quiet (fail)
        go_wp2_with fail
        exact ⟨⟨2, by decide, rfl, NR.out _⟩, by simp [intOf]⟩
      · skip
        obtain rfl : j = 2 := by omega
        clear j0
        clear j1
        have c2w : wr.cell? ⟨g, off + 2, none⟩ = some (.int .u8 c2) := (HR.out.below.cell (p := ⟨g, off + 2, none⟩) (block_lt_of_cell CW2.out)).trans CW2.out
        have W6 := Lib.hid HR.out.whole
        have B6 := Lib.hid HR.out.below
        go_wp2_with ((with_reducible show wpList _ _ _ (⟨none, _, _, _, _, _⟩ :: _) _ _); refine wpList_store_as rfl 32 (.tmp 2) (.tmp 47) rfl bz 0 #[.int .i64 0, .int .u32 0, .int .u64 0, .int .u64 0, .int .u64 0, .string ⟨#[]⟩] rfl rfl (Whole.there W6.out 0 6 (Nat.le_refl 6)) recInfo (by simp [Value.oneCell']) ?_; intro w7 hw7; have HW7 := Lib.hid hw7; clear hw7)
        have wf7 : Whole w7 bz 32 [.int .i64 0, .int .u32 0, .int .u64 0, .int .u64 0, .int .u64 0, .string ⟨#[]⟩] := by
          rw [← HW7.out]
          exact Whole.lay [.int .i64 0, .int .u32 0, .int .u64 0, .int .u64 0, .int .u64 0, .string ⟨#[]⟩] 0 W6.out (by decide)
        have b7 : Below w.heap.size w w7 := by
          rw [← HW7.out]
          exact below_lay _ _ _ B6.out (by rw [HBZ.out]; exact Nat.le_refl _)
        exact rdec_ret rfl rfl rfl rfl wf7 rfl ⟨rfl, b7⟩
theorem At.alloc2 {W : World} {g off o2 : Nat} {l : List Int} {v : Value} (h : Hid (At W g off l) ∧ W.cell? ⟨g, o2, none⟩ = some v) (o : Obj) : Hid (At (W.alloc o) g off l) ∧ (W.alloc o).cell? ⟨g, o2, none⟩ = some v := by
  refine ⟨At.alloc h.1.out o, ?_⟩
  exact (World.cell?_of_block (a := ⟨g, o2, none⟩) (heap_alloc_old W o (block_lt_of_cell h.2))).trans h.2
theorem val_one (c : Int) (h : 0 ≤ c ∧ c < 256) : ((val [c] : Nat) : Int) = c := by
  show ((0 * 256 + c.toNat : Nat) : Int) = c
  omega
theorem kind_of {l : List Int} (hb : Byte l) (h : 3 ≤ l.length) : (headOf l).kind = l.getD 2 0 := by
  have e : sub l 2 3 = [l.getD 2 0] := by
    unfold sub
    rw [List.drop_eq_getElem_cons (by omega : 2 < l.length), List.getD_eq_getElem?_getD, List.getElem?_eq_getElem (by omega : 2 < l.length)]
    rfl
  show ((val (sub l 2 3) : Nat) : Int) = _
  rw [e]
  exact val_one _ (hb.at (by omega))
/-- Behind the reference's first reading. -/
def Mid (w : World) (bz g off : Nat) (l : List Int) (vs : List Value) (x : Value) (wx : World) : Prop := ∃ q, x = .pointer (some ⟨q, 0, none⟩) ∧ bz < q ∧ w.heap.size ≤ q ∧ RD w bz wx ∧ Whole wx q 32 vs

set_option maxRecDepth 100000 in
set_option maxHeartbeats 4000000 in
theorem rd_len (a : Option Addr) (n cap : Nat) (l : List Int) (w : World) (hl : Leads w a l) (hb : Byte l) (hn : l.length = n) (hc : n ≤ cap) (hm : n ≤ 1000000000) (m0 : l.getD 0 0 = 83) (m1 : l.getD 1 0 = 82) (h1 : begB l = true) (h2 : 2 < n) (h39 : 39 ≤ n) (hk1 : 1 ≤ l.getD 2 0) (hk2 : l.getD 2 0 ≤ 4) (h4 : 1000 < lenOf l) :
    Calls Tryd.prog 24 #[.slice a n cap] w (DecOut w (dec l)) := by
  have hd : dec l = (zeroRec, 0, 4) := by unfold dec; rw [if_neg (by rw [h1]; simp), if_neg (by omega), if_pos (.inr h4)]
  rw [hd]
  clear hd
  obtain ⟨g, off, rfl, hA⟩ := hl.at_ (by omega)
  have HA : At w g off l := hA
  have cw0 : w.cell? ⟨g, off, none⟩ = some (.int .u8 83) := by
    have h := hA 0 (by omega)
    rw [m0] at h
    exact h
  have cw1 : w.cell? ⟨g, off + 1, none⟩ = some (.int .u8 82) := by
    have h := hA 1 (by omega)
    rw [m1] at h
    exact h
  have n0 : (0 : Int) < (n : Int) := by omega
  have n1 : (1 : Int) < (n : Int) := by omega
  have nn0 : 0 < n := by omega
  have nn1 : 1 < n := by omega
  have cw2 : w.cell? ⟨g, off + 2, none⟩ = some (.int .u8 (l.getD 2 0)) := hA 2 (by omega)
  have by2 := hb.at (i := 2) (by omega)
  obtain ⟨c2, hc2⟩ : ∃ c2, l.getD 2 0 = c2 := ⟨_, rfl⟩
  rw [hc2] at cw2 by2
  have CW2 := Lib.hid cw2
  have HC2 := Lib.hid hc2
  have n2 : (2 : Int) < (n : Int) := by omega
  have nn2 : 2 < n := by omega
  rw [hc2] at hk1 hk2
  have k1 : ¬ c2 < 1 := by omega
  have k2 : ¬ 4 < c2 := by omega
  have h39I : ¬ (n : Int) < 39 := by omega
  have hll := lenOf_lt hb (by omega)
  obtain ⟨m, hml⟩ : ∃ m, lenOf l = m := ⟨_, rfl⟩
  rw [hml] at hll h4
  have HML := Lib.hid hml
  obtain ⟨e, he⟩ : ∃ e, val (sub l 7 15) = e := ⟨_, rfl⟩
  obtain ⟨o, ho⟩ : ∃ o, val (sub l 15 23) = o := ⟨_, rfl⟩
  obtain ⟨s, hs⟩ : ∃ s, val (sub l 23 31) = s := ⟨_, rfl⟩
  have hcap : 39 ≤ cap := by omega
  have cM := fun W => rMay_any ⟨c2, 0, e, o, s, ⟨#[]⟩⟩ W ⟨⟨by show -9223372036854775808 ≤ c2; omega, by show c2 ≤ 9223372036854775807; omega⟩, by show 0 < 4294967296; decide, by show (0 : Nat) ≤ maxLen; exact Nat.zero_le _⟩
  have h4I : (1000 : Int) < (m : Int) := by omega
  unfold Rec.val at cM
  simp only at cM
  have CM := Lib.hid cM
  have HE := Lib.hid he
  have HO := Lib.hid ho
  have HS := Lib.hid hs
  have s1 : ∀ W, (Instr.slice 26 (.slice (some ⟨g, off, none⟩) n cap) (some (.int .i64 7)) (some (.int .i64 15)) none).run Tryd.prog W = .ok (.slice (some ⟨g, off + 7, none⟩) 8 (cap - 7)) W := run_sub g off n cap 7 15 (by omega) (by omega)
  have s2 : ∀ W, (Instr.slice 26 (.slice (some ⟨g, off, none⟩) n cap) (some (.int .i64 15)) (some (.int .i64 23)) none).run Tryd.prog W = .ok (.slice (some ⟨g, off + 15, none⟩) 8 (cap - 15)) W := run_sub g off n cap 15 23 (by omega) (by omega)
  have s3 : ∀ W, (Instr.slice 26 (.slice (some ⟨g, off, none⟩) n cap) (some (.int .i64 23)) (some (.int .i64 31)) none).run Tryd.prog W = .ok (.slice (some ⟨g, off + 23, none⟩) 8 (cap - 23)) W := run_sub g off n cap 23 31 (by omega) (by omega)
  have s6 : ∀ W, (Instr.slice 26 (.slice (some ⟨g, off, none⟩) n cap) (some (.int .i64 31)) (some (.int .i64 35)) none).run Tryd.prog W = .ok (.slice (some ⟨g, off + 31, none⟩) 4 (cap - 31)) W := run_sub g off n cap 31 35 (by omega) (by omega)
  have HNM := Lib.hid hm
  have HN39 := Lib.hid h39
  clear h1 h2 cw2 hc2 hk1 hk2 hml hll he ho hs cM h39 h4
  have CW0 := Lib.hid cw0
  have CW1 := Lib.hid cw1
  have HB := Lib.hid hb
  have HN := Lib.hid hn
  have HL := Lib.hid hl
  have HAT := Lib.hid HA
  clear HA hA
  clear cw0
  clear cw1
  clear m0
  clear m1
  clear hb hn hl hm
  obtain ⟨bz, hbz⟩ : ∃ bz, w.heap.size = bz := ⟨_, rfl⟩
  have r0 : RD w bz (w.alloc (.cells #[.int .i64 0, .int .u32 0, .int .u64 0, .int .u64 0, .int .u64 0, .string ⟨#[]⟩] 32)) := ⟨Whole.new_ hbz.symm rfl, (Below.refl _ _).alloc (Nat.le_refl _) _⟩
  have R0 := Lib.hid r0
  have HBZ := Lib.hid hbz
  clear r0
  go_enter Tryd.func24, Tryd.ntmps24
  go_wp2_with fail
  clear hbz
  go_loopw [6] (fun i wr => ∃ j : Nat, j ≤ 2 ∧ i = .int .i64 (j : Int) ∧ RD w bz wr) (fun i _ => 2 - (intOf i).toNat)
  case atStart => exact ⟨0, by decide, rfl, R0.out⟩
  case round =>
    obtain ⟨j, hj, rfl, hr⟩ := hrel
    have HR := Lib.hid hr
    clear hr
    by_cases j0 : j = 0
    · subst j0
      have cq : ∀ q, (wr.drewN q).cell? ⟨g, off, none⟩ = some (.int .u8 83) := fun q => (HR.out.below.cell (p := ⟨g, off, none⟩) (block_lt_of_cell CW0.out)).trans CW0.out
      have nr : ∀ q, RD w bz (wr.drewN q) := fun q => HR.out.next (below_draws (Below.refl _ _) q)
      have NR := Lib.hid nr
      clear nr
      go_wp2_with fail
      go_quiet (fail)
      go_wp2_with fail
      exact ⟨⟨1, by decide, rfl, NR.out _⟩, by simp [intOf]⟩
    · skip
      by_cases j1 : j = 1
      · subst j1
        have cq : ∀ q, (wr.drewN q).cell? ⟨g, off + 1, none⟩ = some (.int .u8 82) := fun q => (HR.out.below.cell (p := ⟨g, off + 1, none⟩) (block_lt_of_cell CW1.out)).trans CW1.out
        have nr : ∀ q, RD w bz (wr.drewN q) := fun q => HR.out.next (below_draws (Below.refl _ _) q)
        have NR := Lib.hid nr
        clear nr
        go_wp2_with fail
        go_quiet (fail)
        go_wp2_with fail
        exact ⟨⟨2, by decide, rfl, NR.out _⟩, by simp [intOf]⟩
      · skip
        obtain rfl : j = 2 := by omega
        clear j0
        clear j1
        have c2w : wr.cell? ⟨g, off + 2, none⟩ = some (.int .u8 c2) := (HR.out.below.cell (p := ⟨g, off + 2, none⟩) (block_lt_of_cell CW2.out)).trans CW2.out
        go_wp2_with fail
        refine (rget_at _ 4 (sub l 31 35) (sub_length l 31 35 (by rw [HN.out]; have := HN39.out; omega)) _ _ (At.sub (HAT.out.later HR.out.below) 31 35 (by omega) (by rw [HN.out]; have := HN39.out; omega)) (sub_byte HB.out 31 35) (by omega)).mono ?_
        rintro en w' ⟨rfl, rfl⟩
        rw [show val (sub l 31 35) = lenOf l from rfl, HML.out]
        have W6 := Lib.hid HR.out.whole
        have B6 := Lib.hid HR.out.below
        go_wp2_with ((with_reducible show wpList _ _ _ (⟨none, _, _, _, _, _⟩ :: _) _ _); refine wpList_store_as rfl 32 (.tmp 2) (.tmp 53) rfl bz 0 #[.int .i64 0, .int .u32 0, .int .u64 0, .int .u64 0, .int .u64 0, .string ⟨#[]⟩] rfl rfl (Whole.there W6.out 0 6 (Nat.le_refl 6)) recInfo (by simp [Value.oneCell']) ?_; intro w7 hw7; have HW7 := Lib.hid hw7; clear hw7)
        have wf7 : Whole w7 bz 32 [.int .i64 0, .int .u32 0, .int .u64 0, .int .u64 0, .int .u64 0, .string ⟨#[]⟩] := by
          rw [← HW7.out]
          exact Whole.lay [.int .i64 0, .int .u32 0, .int .u64 0, .int .u64 0, .int .u64 0, .string ⟨#[]⟩] 0 W6.out (by decide)
        have b7 : Below w.heap.size w w7 := by
          rw [← HW7.out]
          exact below_lay _ _ _ B6.out (by rw [HBZ.out]; exact Nat.le_refl _)
        exact rdec_ret rfl rfl rfl rfl wf7 rfl ⟨rfl, b7⟩
set_option maxRecDepth 100000 in
set_option maxHeartbeats 4000000 in
theorem rd_num (a : Option Addr) (n cap : Nat) (l : List Int) (w : World) (hl : Leads w a l) (hb : Byte l) (hn : l.length = n) (hc : n ≤ cap) (hm : n ≤ 1000000000) (m0 : l.getD 0 0 = 83) (m1 : l.getD 1 0 = 82) (h1 : begB l = true) (h2 : 2 < n) (h39 : 39 ≤ n) (hk1 : 1 ≤ l.getD 2 0) (hk2 : l.getD 2 0 ≤ 4) (h4 : lenOf l ≤ 1000) (h3 : numB (headOf l) = false) :
    Calls Tryd.prog 24 #[.slice a n cap] w (DecOut w (dec l)) := by
  have hd : dec l = (zeroRec, 0, 4) := by unfold dec; rw [if_neg (by rw [h1]; simp), if_neg (by omega), if_pos (.inl h3)]
  rw [hd]
  clear hd
  obtain ⟨g, off, rfl, hA⟩ := hl.at_ (by omega)
  have HA : At w g off l := hA
  have cw0 : w.cell? ⟨g, off, none⟩ = some (.int .u8 83) := by
    have h := hA 0 (by omega)
    rw [m0] at h
    exact h
  have cw1 : w.cell? ⟨g, off + 1, none⟩ = some (.int .u8 82) := by
    have h := hA 1 (by omega)
    rw [m1] at h
    exact h
  have n0 : (0 : Int) < (n : Int) := by omega
  have n1 : (1 : Int) < (n : Int) := by omega
  have nn0 : 0 < n := by omega
  have nn1 : 1 < n := by omega
  have cw2 : w.cell? ⟨g, off + 2, none⟩ = some (.int .u8 (l.getD 2 0)) := hA 2 (by omega)
  have by2 := hb.at (i := 2) (by omega)
  obtain ⟨c2, hc2⟩ : ∃ c2, l.getD 2 0 = c2 := ⟨_, rfl⟩
  rw [hc2] at cw2 by2
  have CW2 := Lib.hid cw2
  have HC2 := Lib.hid hc2
  have n2 : (2 : Int) < (n : Int) := by omega
  have nn2 : 2 < n := by omega
  rw [hc2] at hk1 hk2
  have k1 : ¬ c2 < 1 := by omega
  have k2 : ¬ 4 < c2 := by omega
  have h39I : ¬ (n : Int) < 39 := by omega
  have hll := lenOf_lt hb (by omega)
  obtain ⟨m, hml⟩ : ∃ m, lenOf l = m := ⟨_, rfl⟩
  rw [hml] at hll h4
  have HML := Lib.hid hml
  obtain ⟨e, he⟩ : ∃ e, val (sub l 7 15) = e := ⟨_, rfl⟩
  obtain ⟨o, ho⟩ : ∃ o, val (sub l 15 23) = o := ⟨_, rfl⟩
  obtain ⟨s, hs⟩ : ∃ s, val (sub l 23 31) = s := ⟨_, rfl⟩
  have hcap : 39 ≤ cap := by omega
  have cM := fun W => rMay_any ⟨c2, 0, e, o, s, ⟨#[]⟩⟩ W ⟨⟨by show -9223372036854775808 ≤ c2; omega, by show c2 ≤ 9223372036854775807; omega⟩, by show 0 < 4294967296; decide, by show (0 : Nat) ≤ maxLen; exact Nat.zero_le _⟩
  have h4I : (m : Int) ≤ 1000 := by omega
  have hnum : mayB ⟨c2, 0, e, o, s, ⟨#[]⟩⟩ = false := by
    have hk := kind_of hb (by omega)
    rw [hc2] at hk
    unfold mayB
    rw [show numB ⟨c2, 0, e, o, s, ⟨#[]⟩⟩ = false by rw [← h3, ← hk, ← he, ← ho, ← hs]; rfl]; rfl
  rw [hnum] at cM
  unfold Rec.val at cM
  simp only at cM
  have CM := Lib.hid cM
  have HE := Lib.hid he
  have HO := Lib.hid ho
  have HS := Lib.hid hs
  have s1 : ∀ W, (Instr.slice 26 (.slice (some ⟨g, off, none⟩) n cap) (some (.int .i64 7)) (some (.int .i64 15)) none).run Tryd.prog W = .ok (.slice (some ⟨g, off + 7, none⟩) 8 (cap - 7)) W := run_sub g off n cap 7 15 (by omega) (by omega)
  have s2 : ∀ W, (Instr.slice 26 (.slice (some ⟨g, off, none⟩) n cap) (some (.int .i64 15)) (some (.int .i64 23)) none).run Tryd.prog W = .ok (.slice (some ⟨g, off + 15, none⟩) 8 (cap - 15)) W := run_sub g off n cap 15 23 (by omega) (by omega)
  have s3 : ∀ W, (Instr.slice 26 (.slice (some ⟨g, off, none⟩) n cap) (some (.int .i64 23)) (some (.int .i64 31)) none).run Tryd.prog W = .ok (.slice (some ⟨g, off + 23, none⟩) 8 (cap - 23)) W := run_sub g off n cap 23 31 (by omega) (by omega)
  have s6 : ∀ W, (Instr.slice 26 (.slice (some ⟨g, off, none⟩) n cap) (some (.int .i64 31)) (some (.int .i64 35)) none).run Tryd.prog W = .ok (.slice (some ⟨g, off + 31, none⟩) 4 (cap - 31)) W := run_sub g off n cap 31 35 (by omega) (by omega)
  have HNM := Lib.hid hm
  have HN39 := Lib.hid h39
  clear h1 h2 cw2 hc2 hk1 hk2 hml hll he ho hs cM h39 h4 h3 hnum
  have CW0 := Lib.hid cw0
  have CW1 := Lib.hid cw1
  have HB := Lib.hid hb
  have HN := Lib.hid hn
  have HL := Lib.hid hl
  have HAT := Lib.hid HA
  clear HA hA
  clear cw0
  clear cw1
  clear m0
  clear m1
  clear hb hn hl hm
  obtain ⟨bz, hbz⟩ : ∃ bz, w.heap.size = bz := ⟨_, rfl⟩
  have r0 : RD w bz (w.alloc (.cells #[.int .i64 0, .int .u32 0, .int .u64 0, .int .u64 0, .int .u64 0, .string ⟨#[]⟩] 32)) := ⟨Whole.new_ hbz.symm rfl, (Below.refl _ _).alloc (Nat.le_refl _) _⟩
  have R0 := Lib.hid r0
  have HBZ := Lib.hid hbz
  clear r0
  go_enter Tryd.func24, Tryd.ntmps24
  go_wp2_with fail
  clear hbz
  go_loopw [6] (fun i wr => ∃ j : Nat, j ≤ 2 ∧ i = .int .i64 (j : Int) ∧ RD w bz wr) (fun i _ => 2 - (intOf i).toNat)
  case atStart => exact ⟨0, by decide, rfl, R0.out⟩
  case round =>
    obtain ⟨j, hj, rfl, hr⟩ := hrel
    have HR := Lib.hid hr
    clear hr
    by_cases j0 : j = 0
    · subst j0
      have cq : ∀ q, (wr.drewN q).cell? ⟨g, off, none⟩ = some (.int .u8 83) := fun q => (HR.out.below.cell (p := ⟨g, off, none⟩) (block_lt_of_cell CW0.out)).trans CW0.out
      have nr : ∀ q, RD w bz (wr.drewN q) := fun q => HR.out.next (below_draws (Below.refl _ _) q)
      have NR := Lib.hid nr
      clear nr
      go_wp2_with fail
      go_quiet (fail)
      go_wp2_with fail
      exact ⟨⟨1, by decide, rfl, NR.out _⟩, by simp [intOf]⟩
    · skip
      by_cases j1 : j = 1
      · subst j1
        have cq : ∀ q, (wr.drewN q).cell? ⟨g, off + 1, none⟩ = some (.int .u8 82) := fun q => (HR.out.below.cell (p := ⟨g, off + 1, none⟩) (block_lt_of_cell CW1.out)).trans CW1.out
        have nr : ∀ q, RD w bz (wr.drewN q) := fun q => HR.out.next (below_draws (Below.refl _ _) q)
        have NR := Lib.hid nr
        clear nr
        go_wp2_with fail
        go_quiet (fail)
        go_wp2_with fail
        exact ⟨⟨2, by decide, rfl, NR.out _⟩, by simp [intOf]⟩
      · skip
        obtain rfl : j = 2 := by omega
        clear j0
        clear j1
        have c2w : wr.cell? ⟨g, off + 2, none⟩ = some (.int .u8 c2) := (HR.out.below.cell (p := ⟨g, off + 2, none⟩) (block_lt_of_cell CW2.out)).trans CW2.out
        go_wp2_with fail
        refine (rget_at _ 4 (sub l 31 35) (sub_length l 31 35 (by rw [HN.out]; have := HN39.out; omega)) _ _ (At.sub (HAT.out.later HR.out.below) 31 35 (by omega) (by rw [HN.out]; have := HN39.out; omega)) (sub_byte HB.out 31 35) (by omega)).mono ?_
        rintro en w' ⟨rfl, rfl⟩
        rw [show val (sub l 31 35) = lenOf l from rfl, HML.out]
        go_wp2_with fail
        go_cut [8] (fun x wx => Mid w bz g off l [.int .i64 c2, .int .u32 0, .int .u64 (e : Int), .int .u64 (o : Int), .int .u64 (s : Int), .string ⟨#[]⟩] x wx)
        case first =>
          have A1 : Hid (At wr.drew g off l) := (HAT.out.later HR.out.below).later (below_draws (Below.refl _ _) 1)
          have c2d : wr.drew.cell? ⟨g, off + 2, none⟩ = some (.int .u8 c2) := c2w
          have s0 : Hid (At wr g off l) ∧ wr.cell? ⟨g, off + 2, none⟩ = some (.int .u8 c2) := ⟨HAT.out.later HR.out.below, c2w⟩
          go_region_held3 (fun W => Hid (At W g off l) ∧ W.cell? ⟨g, off + 2, none⟩ = some (.int .u8 c2)) ((first | (constructor <;> assumption) | exact At.alloc2 (by assumption) _))
            (first
              | (go_at_call 31; (with_reducible refine (rget_at _ 8 _ (sub_length l 7 15 (by rw [HN.out]; have := HN39.out; omega)) _ _ (At.sub (Hid.out (And.left (b := _) (by assumption))) 7 15 (by omega) (by rw [HN.out]; have := HN39.out; omega)) (sub_byte HB.out 7 15) (by omega)).mono ?_); rintro e w' ⟨rfl, rfl⟩)
              | (go_at_call 31; (with_reducible refine (rget_at _ 8 _ (sub_length l 15 23 (by rw [HN.out]; have := HN39.out; omega)) _ _ (At.sub (Hid.out (And.left (b := _) (by assumption))) 15 23 (by omega) (by rw [HN.out]; have := HN39.out; omega)) (sub_byte HB.out 15 23) (by omega)).mono ?_); rintro e w' ⟨rfl, rfl⟩)
              | (go_at_call 31; (with_reducible refine (rget_at _ 8 _ (sub_length l 23 31 (by rw [HN.out]; have := HN39.out; omega)) _ _ (At.sub (Hid.out (And.left (b := _) (by assumption))) 23 31 (by omega) (by rw [HN.out]; have := HN39.out; omega)) (sub_byte HB.out 23 31) (by omega)).mono ?_); rintro e w' ⟨rfl, rfl⟩))
          all_goals
            go_wp2_with fail
            go_meet
            have ew : IntKind.i64.wrap c2 = c2 := by rw [IntKind.wrap_i64]; omega
            rw [ew, HE.out, HO.out, HS.out]
            have hb2 : Below wr.heap.size wr ((wr.alloc (.cells #[.int .i64 c2, .int .u32 0, .int .u64 (e : Int), .int .u64 (o : Int), .int .u64 (s : Int), .string ⟨#[]⟩] 32)).drew) := below_draws ((Below.refl _ _).alloc (Nat.le_refl _) _) 1
            exact ⟨wr.heap.size, rfl, HR.out.whole.lt, HR.out.below.size, HR.out.next hb2, (Whole.new_ rfl rfl).draws 1⟩
        case rest =>
          obtain ⟨q, rfl, hbq, hwq, r8, wq8⟩ := hcut
          have W8 := Lib.hid wq8
          have R8 := Lib.hid r8
          have HWQ := Lib.hid hwq
          clear r8 wq8 c2w hwq s1 s2 s3 s6
          go_wp2_with ((with_reducible show wpList _ _ _ (⟨some 68, _, _, _, _, _⟩ :: _) _ _); refine wpList_load_mid rfl 32 (.tmp 8) rfl q 0 rfl [.int .i64 c2, .int .u32 0, .int .u64 (e : Int), .int .u64 (o : Int), .int .u64 (s : Int), .string ⟨#[]⟩] _ (W8.out.range 0 6) Tryd.underlying32 rfl recInfo ?_)
          refine (CM.out _).mono ?_
          rintro en w9 ⟨rfl, b9⟩
          have W9 := Lib.hid (W8.out.kept b9)
          have R9 := Lib.hid (R8.out.next b9)
          clear b9 W8 R8 CM
          have W6 := Lib.hid R9.out.whole
          have B6 := Lib.hid R9.out.below
          go_wp2_with ((with_reducible show wpList _ _ _ (⟨none, _, _, _, _, _⟩ :: _) _ _); refine wpList_store_as rfl 32 (.tmp 2) (.tmp 71) rfl bz 0 #[.int .i64 0, .int .u32 0, .int .u64 0, .int .u64 0, .int .u64 0, .string ⟨#[]⟩] rfl rfl (Whole.there W6.out 0 6 (Nat.le_refl 6)) recInfo (by simp [Value.oneCell']) ?_; intro w7 hw7; have HW7 := Lib.hid hw7; clear hw7)
          have wf7 : Whole w7 bz 32 [.int .i64 0, .int .u32 0, .int .u64 0, .int .u64 0, .int .u64 0, .string ⟨#[]⟩] := by
            rw [← HW7.out]
            exact Whole.lay [.int .i64 0, .int .u32 0, .int .u64 0, .int .u64 0, .int .u64 0, .string ⟨#[]⟩] 0 W6.out (by decide)
          have b7 : Below w.heap.size w w7 := by
            rw [← HW7.out]
            exact below_lay _ _ _ B6.out (by rw [HBZ.out]; exact Nat.le_refl _)
          exact rdec_ret rfl rfl rfl rfl wf7 rfl ⟨rfl, b7⟩
set_option maxRecDepth 100000 in
set_option maxHeartbeats 4000000 in
theorem rd_more (a : Option Addr) (n cap : Nat) (l : List Int) (w : World) (hl : Leads w a l) (hb : Byte l) (hn : l.length = n) (hc : n ≤ cap) (hm : n ≤ 1000000000) (m0 : l.getD 0 0 = 83) (m1 : l.getD 1 0 = 82) (h1 : begB l = true) (h2 : 2 < n) (h39 : 39 ≤ n) (hk1 : 1 ≤ l.getD 2 0) (hk2 : l.getD 2 0 ≤ 4) (h4 : lenOf l ≤ 1000) (h3 : numB (headOf l) = true) (h5 : n < 39 + lenOf l) :
    Calls Tryd.prog 24 #[.slice a n cap] w (DecOut w (dec l)) := by
  have hd : dec l = (zeroRec, 0, 11) := by unfold dec; rw [if_neg (by rw [h1]; simp), if_neg (by omega), if_neg (by rw [h3]; simp; omega), if_pos (by omega)]
  rw [hd]
  clear hd
  obtain ⟨g, off, rfl, hA⟩ := hl.at_ (by omega)
  have HA : At w g off l := hA
  have cw0 : w.cell? ⟨g, off, none⟩ = some (.int .u8 83) := by
    have h := hA 0 (by omega)
    rw [m0] at h
    exact h
  have cw1 : w.cell? ⟨g, off + 1, none⟩ = some (.int .u8 82) := by
    have h := hA 1 (by omega)
    rw [m1] at h
    exact h
  have n0 : (0 : Int) < (n : Int) := by omega
  have n1 : (1 : Int) < (n : Int) := by omega
  have nn0 : 0 < n := by omega
  have nn1 : 1 < n := by omega
  have cw2 : w.cell? ⟨g, off + 2, none⟩ = some (.int .u8 (l.getD 2 0)) := hA 2 (by omega)
  have by2 := hb.at (i := 2) (by omega)
  obtain ⟨c2, hc2⟩ : ∃ c2, l.getD 2 0 = c2 := ⟨_, rfl⟩
  rw [hc2] at cw2 by2
  have CW2 := Lib.hid cw2
  have HC2 := Lib.hid hc2
  have n2 : (2 : Int) < (n : Int) := by omega
  have nn2 : 2 < n := by omega
  rw [hc2] at hk1 hk2
  have k1 : ¬ c2 < 1 := by omega
  have k2 : ¬ 4 < c2 := by omega
  have h39I : ¬ (n : Int) < 39 := by omega
  have hll := lenOf_lt hb (by omega)
  obtain ⟨m, hml⟩ : ∃ m, lenOf l = m := ⟨_, rfl⟩
  rw [hml] at hll h4 h5
  have HML := Lib.hid hml
  obtain ⟨e, he⟩ : ∃ e, val (sub l 7 15) = e := ⟨_, rfl⟩
  obtain ⟨o, ho⟩ : ∃ o, val (sub l 15 23) = o := ⟨_, rfl⟩
  obtain ⟨s, hs⟩ : ∃ s, val (sub l 23 31) = s := ⟨_, rfl⟩
  have hcap : 39 ≤ cap := by omega
  have cM := fun W => rMay_any ⟨c2, 0, e, o, s, ⟨#[]⟩⟩ W ⟨⟨by show -9223372036854775808 ≤ c2; omega, by show c2 ≤ 9223372036854775807; omega⟩, by show 0 < 4294967296; decide, by show (0 : Nat) ≤ maxLen; exact Nat.zero_le _⟩
  have h4I : (m : Int) ≤ 1000 := by omega
  have h5I : (n : Int) - 39 < (m : Int) := by omega
  have hnum : mayB ⟨c2, 0, e, o, s, ⟨#[]⟩⟩ = true := by
    have hk := kind_of hb (by omega)
    rw [hc2] at hk
    unfold mayB
    rw [show numB ⟨c2, 0, e, o, s, ⟨#[]⟩⟩ = true by rw [← h3, ← hk, ← he, ← ho, ← hs]; rfl]; rfl
  rw [hnum] at cM
  unfold Rec.val at cM
  simp only at cM
  have CM := Lib.hid cM
  have HE := Lib.hid he
  have HO := Lib.hid ho
  have HS := Lib.hid hs
  have s1 : ∀ W, (Instr.slice 26 (.slice (some ⟨g, off, none⟩) n cap) (some (.int .i64 7)) (some (.int .i64 15)) none).run Tryd.prog W = .ok (.slice (some ⟨g, off + 7, none⟩) 8 (cap - 7)) W := run_sub g off n cap 7 15 (by omega) (by omega)
  have s2 : ∀ W, (Instr.slice 26 (.slice (some ⟨g, off, none⟩) n cap) (some (.int .i64 15)) (some (.int .i64 23)) none).run Tryd.prog W = .ok (.slice (some ⟨g, off + 15, none⟩) 8 (cap - 15)) W := run_sub g off n cap 15 23 (by omega) (by omega)
  have s3 : ∀ W, (Instr.slice 26 (.slice (some ⟨g, off, none⟩) n cap) (some (.int .i64 23)) (some (.int .i64 31)) none).run Tryd.prog W = .ok (.slice (some ⟨g, off + 23, none⟩) 8 (cap - 23)) W := run_sub g off n cap 23 31 (by omega) (by omega)
  have s6 : ∀ W, (Instr.slice 26 (.slice (some ⟨g, off, none⟩) n cap) (some (.int .i64 31)) (some (.int .i64 35)) none).run Tryd.prog W = .ok (.slice (some ⟨g, off + 31, none⟩) 4 (cap - 31)) W := run_sub g off n cap 31 35 (by omega) (by omega)
  have HNM := Lib.hid hm
  have HN39 := Lib.hid h39
  clear h1 h2 cw2 hc2 hk1 hk2 hml hll he ho hs cM h39 h4 h3 h5 hnum
  have CW0 := Lib.hid cw0
  have CW1 := Lib.hid cw1
  have HB := Lib.hid hb
  have HN := Lib.hid hn
  have HL := Lib.hid hl
  have HAT := Lib.hid HA
  clear HA hA
  clear cw0
  clear cw1
  clear m0
  clear m1
  clear hb hn hl hm
  obtain ⟨bz, hbz⟩ : ∃ bz, w.heap.size = bz := ⟨_, rfl⟩
  have r0 : RD w bz (w.alloc (.cells #[.int .i64 0, .int .u32 0, .int .u64 0, .int .u64 0, .int .u64 0, .string ⟨#[]⟩] 32)) := ⟨Whole.new_ hbz.symm rfl, (Below.refl _ _).alloc (Nat.le_refl _) _⟩
  have R0 := Lib.hid r0
  have HBZ := Lib.hid hbz
  clear r0
  go_enter Tryd.func24, Tryd.ntmps24
  go_wp2_with fail
  clear hbz
  go_loopw [6] (fun i wr => ∃ j : Nat, j ≤ 2 ∧ i = .int .i64 (j : Int) ∧ RD w bz wr) (fun i _ => 2 - (intOf i).toNat)
  case atStart => exact ⟨0, by decide, rfl, R0.out⟩
  case round =>
    obtain ⟨j, hj, rfl, hr⟩ := hrel
    have HR := Lib.hid hr
    clear hr
    by_cases j0 : j = 0
    · subst j0
      have cq : ∀ q, (wr.drewN q).cell? ⟨g, off, none⟩ = some (.int .u8 83) := fun q => (HR.out.below.cell (p := ⟨g, off, none⟩) (block_lt_of_cell CW0.out)).trans CW0.out
      have nr : ∀ q, RD w bz (wr.drewN q) := fun q => HR.out.next (below_draws (Below.refl _ _) q)
      have NR := Lib.hid nr
      clear nr
      go_wp2_with fail
      go_quiet (fail)
      go_wp2_with fail
      exact ⟨⟨1, by decide, rfl, NR.out _⟩, by simp [intOf]⟩
    · skip
      by_cases j1 : j = 1
      · subst j1
        have cq : ∀ q, (wr.drewN q).cell? ⟨g, off + 1, none⟩ = some (.int .u8 82) := fun q => (HR.out.below.cell (p := ⟨g, off + 1, none⟩) (block_lt_of_cell CW1.out)).trans CW1.out
        have nr : ∀ q, RD w bz (wr.drewN q) := fun q => HR.out.next (below_draws (Below.refl _ _) q)
        have NR := Lib.hid nr
        clear nr
        go_wp2_with fail
        go_quiet (fail)
        go_wp2_with fail
        exact ⟨⟨2, by decide, rfl, NR.out _⟩, by simp [intOf]⟩
      · skip
        obtain rfl : j = 2 := by omega
        clear j0
        clear j1
        have c2w : wr.cell? ⟨g, off + 2, none⟩ = some (.int .u8 c2) := (HR.out.below.cell (p := ⟨g, off + 2, none⟩) (block_lt_of_cell CW2.out)).trans CW2.out
        go_wp2_with fail
        refine (rget_at _ 4 (sub l 31 35) (sub_length l 31 35 (by rw [HN.out]; have := HN39.out; omega)) _ _ (At.sub (HAT.out.later HR.out.below) 31 35 (by omega) (by rw [HN.out]; have := HN39.out; omega)) (sub_byte HB.out 31 35) (by omega)).mono ?_
        rintro en w' ⟨rfl, rfl⟩
        rw [show val (sub l 31 35) = lenOf l from rfl, HML.out]
        go_wp2_with fail
        go_cut [8] (fun x wx => Mid w bz g off l [.int .i64 c2, .int .u32 0, .int .u64 (e : Int), .int .u64 (o : Int), .int .u64 (s : Int), .string ⟨#[]⟩] x wx)
        case first =>
          have A1 : Hid (At wr.drew g off l) := (HAT.out.later HR.out.below).later (below_draws (Below.refl _ _) 1)
          have c2d : wr.drew.cell? ⟨g, off + 2, none⟩ = some (.int .u8 c2) := c2w
          have s0 : Hid (At wr g off l) ∧ wr.cell? ⟨g, off + 2, none⟩ = some (.int .u8 c2) := ⟨HAT.out.later HR.out.below, c2w⟩
          go_region_held3 (fun W => Hid (At W g off l) ∧ W.cell? ⟨g, off + 2, none⟩ = some (.int .u8 c2)) ((first | (constructor <;> assumption) | exact At.alloc2 (by assumption) _))
            (first
              | (go_at_call 31; (with_reducible refine (rget_at _ 8 _ (sub_length l 7 15 (by rw [HN.out]; have := HN39.out; omega)) _ _ (At.sub (Hid.out (And.left (b := _) (by assumption))) 7 15 (by omega) (by rw [HN.out]; have := HN39.out; omega)) (sub_byte HB.out 7 15) (by omega)).mono ?_); rintro e w' ⟨rfl, rfl⟩)
              | (go_at_call 31; (with_reducible refine (rget_at _ 8 _ (sub_length l 15 23 (by rw [HN.out]; have := HN39.out; omega)) _ _ (At.sub (Hid.out (And.left (b := _) (by assumption))) 15 23 (by omega) (by rw [HN.out]; have := HN39.out; omega)) (sub_byte HB.out 15 23) (by omega)).mono ?_); rintro e w' ⟨rfl, rfl⟩)
              | (go_at_call 31; (with_reducible refine (rget_at _ 8 _ (sub_length l 23 31 (by rw [HN.out]; have := HN39.out; omega)) _ _ (At.sub (Hid.out (And.left (b := _) (by assumption))) 23 31 (by omega) (by rw [HN.out]; have := HN39.out; omega)) (sub_byte HB.out 23 31) (by omega)).mono ?_); rintro e w' ⟨rfl, rfl⟩))
          all_goals
            go_wp2_with fail
            go_meet
            have ew : IntKind.i64.wrap c2 = c2 := by rw [IntKind.wrap_i64]; omega
            rw [ew, HE.out, HO.out, HS.out]
            have hb2 : Below wr.heap.size wr ((wr.alloc (.cells #[.int .i64 c2, .int .u32 0, .int .u64 (e : Int), .int .u64 (o : Int), .int .u64 (s : Int), .string ⟨#[]⟩] 32)).drew) := below_draws ((Below.refl _ _).alloc (Nat.le_refl _) _) 1
            exact ⟨wr.heap.size, rfl, HR.out.whole.lt, HR.out.below.size, HR.out.next hb2, (Whole.new_ rfl rfl).draws 1⟩
        case rest =>
          obtain ⟨q, rfl, hbq, hwq, r8, wq8⟩ := hcut
          have W8 := Lib.hid wq8
          have R8 := Lib.hid r8
          have HWQ := Lib.hid hwq
          clear r8 wq8 c2w hwq s1 s2 s3 s6
          go_wp2_with ((with_reducible show wpList _ _ _ (⟨some 68, _, _, _, _, _⟩ :: _) _ _); refine wpList_load_mid rfl 32 (.tmp 8) rfl q 0 rfl [.int .i64 c2, .int .u32 0, .int .u64 (e : Int), .int .u64 (o : Int), .int .u64 (s : Int), .string ⟨#[]⟩] _ (W8.out.range 0 6) Tryd.underlying32 rfl recInfo ?_)
          refine (CM.out _).mono ?_
          rintro en w9 ⟨rfl, b9⟩
          have W9 := Lib.hid (W8.out.kept b9)
          have R9 := Lib.hid (R8.out.next b9)
          clear b9 W8 R8 CM
          have W6 := Lib.hid R9.out.whole
          have B6 := Lib.hid R9.out.below
          go_wp2_with ((with_reducible show wpList _ _ _ (⟨none, _, _, _, _, _⟩ :: _) _ _); refine wpList_store_as rfl 32 (.tmp 2) (.tmp 78) rfl bz 0 #[.int .i64 0, .int .u32 0, .int .u64 0, .int .u64 0, .int .u64 0, .string ⟨#[]⟩] rfl rfl (Whole.there W6.out 0 6 (Nat.le_refl 6)) recInfo (by simp [Value.oneCell']) ?_; intro w7 hw7; have HW7 := Lib.hid hw7; clear hw7)
          have wf7 : Whole w7 bz 32 [.int .i64 0, .int .u32 0, .int .u64 0, .int .u64 0, .int .u64 0, .string ⟨#[]⟩] := by
            rw [← HW7.out]
            exact Whole.lay [.int .i64 0, .int .u32 0, .int .u64 0, .int .u64 0, .int .u64 0, .string ⟨#[]⟩] 0 W6.out (by decide)
          have b7 : Below w.heap.size w w7 := by
            rw [← HW7.out]
            exact below_lay _ _ _ B6.out (by rw [HBZ.out]; exact Nat.le_refl _)
          exact rdec_ret rfl rfl rfl rfl wf7 rfl ⟨rfl, b7⟩
end Go.Proofs.YtodajceiadbpeaaDoor.recd
