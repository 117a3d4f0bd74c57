/-
  CONTRACT of (*segment.Seg).may: are there records, and may each stand here? (P8.1)
-/
import Derived.Test.YtdonblfidohncaaGreatDoorSgSeg
import Derived.Test.YtdonblfidohncaaGreatDoorMScan
import Derived.Test.YtdonblfidohncaaGreatDoorMRec
import Derived.StillTailTactics
namespace Go.Proofs.YtdonblfidohncaaGreatDoor.scan
open Go.RowKit Go.Proofs.YtdonblfidohncaaGreatDoor.disk Go.Proofs.YtdonblfidohncaaGreatDoor.recd
set_option linter.unusedVariables false

/-- May a record stand in a segment of that tenant? -/
def OneOf (t : Nat) (r : Rec) : Prop := r.tenant = t ∧ mayB r = true
instance (t : Nat) (r : Rec) : Decidable (OneOf t r) := inferInstanceAs (Decidable (_ ∧ _))
/-- Are there records, each of which may? -/
def AllOf (t len : Nat) (rs : Nat → Rec) : Prop := 0 < len ∧ ∀ i, i < len → OneOf t (rs i)

theorem RecRow.at_ {w : World} {a : Option Addr} {len cap : Nat} {rs : Nat → Rec} (h : RecRow w a len cap rs) (q : Nat) (hq : q < len) (k : Int) (t e o s : Nat) (bd : ByteArray) (hx : rs q = ⟨k, t, e, o, s, bd⟩) :
    ∃ b off, a = some ⟨b, off, none⟩ ∧ w.cell? ⟨b, off + q * 6, none⟩ = some (.int .i64 k) ∧ w.cell? ⟨b, off + q * 6 + 1, none⟩ = some (.int .u32 (t : Int)) ∧ w.cell? ⟨b, off + q * 6 + 2, none⟩ = some (.int .u64 (e : Int)) ∧
      w.cell? ⟨b, off + q * 6 + 3, none⟩ = some (.int .u64 (o : Int)) ∧ w.cell? ⟨b, off + q * 6 + 4, none⟩ = some (.int .u64 (s : Int)) ∧ w.cell? ⟨b, off + q * 6 + 5, none⟩ = some (.string bd) := by
  rcases h.cells with h0 | ⟨b, off, rfl, hc⟩
  · omega
  · have hc := hc q hq
    rw [hx] at hc
    exact ⟨b, off, rfl, hc 0 _ rfl, hc 1 _ rfl, hc 2 _ rfl, hc 3 _ rfl, hc 4 _ rfl, hc 5 _ rfl⟩

set_option maxRecDepth 100000 in
set_option maxHeartbeats 4000000 in
theorem segmay_any (w : World) (s p : Nat) (nm : ByteArray) (t : Nat) (wh : Bool) (hs : SegAt w s p nm t wh) (a : Option Addr) (len cap : Nat) (rs : Nat → Rec) (hr : RecRow w a len cap rs) (yes : Bool) (hy : yes = true ↔ AllOf t len rs) :
    Calls Tryz.prog 34 #[.pointer (some ⟨s, 0, none⟩), .slice a len cap] w fun e w' => e = .returned (.bool yes) ∧ Below w.heap.size w w' := by
  have hlm := hr.most
  have HS := Lib.hid hs
  have HR := Lib.hid hr
  have HY := Lib.hid hy
  clear hs hr hy
  go_enter Tryz.func34, Tryz.ntmps34
  go_wp2_with fail
  go_loopw [9] (fun i wr => ∃ (q : Nat), i = .int .i64 (q : Int) ∧ q ≤ len ∧ (∀ j, j < q → OneOf t (rs j)) ∧ Below w.heap.size w wr) (fun i _ => ((len : Int) - intOf i).toNat)
  case atStart => exact ⟨0, rfl, Nat.zero_le _, fun j hj => by omega, Below.refl _ _⟩
  case round =>
    obtain ⟨q, rfl, hq, hone, hb⟩ := hrel
    by_cases hql : q < len
    · have hqI : (q : Int) < (len : Int) := by omega
      have hfit := HR.out.fit q hql
      have cM := fun W => May_any (rs q) W hfit
      obtain ⟨x, hx⟩ : ∃ x, rs q = x := ⟨_, rfl⟩
      rw [hx] at cM
      obtain ⟨mb, hmb⟩ : ∃ mb, mayB x = mb := ⟨_, rfl⟩
      rw [hmb] at cM
      obtain ⟨k, tt, e, o, sq, bd⟩ := x
      obtain ⟨b, off, rfl, c0, c1, c2, c3, c4, c5⟩ := (HR.out.later hb).at_ q hql k tt e o sq bd hx
      have s2 := (HS.out.later hb).c2
      unfold Rec.val at cM
      simp only at cM
      have CM := Lib.hid cM
      have HX := Lib.hid hx
      have HMB := Lib.hid hmb
      have HO := Lib.hid hone
      have HB := Lib.hid hb
      clear cM hx hmb hone hb hfit
      by_cases htt : tt = t
      · subst htt
        have W1 : Hid (Below wr.heap.size wr (wr.alloc (.cells #[.int .i64 k, .int .u32 (tt : Int), .int .u64 (e : Int), .int .u64 (o : Int), .int .u64 (sq : Int), .string bd] 40))) := (Below.refl _ _).alloc (Nat.le_refl _) _
        have s2' := ((HS.out.later HB.out).later W1.out).c2
        go_wp2_with fail
        obtain ⟨wa, hwa⟩ : ∃ wa, wr.alloc (.cells #[.int .i64 k, .int .u32 (tt : Int), .int .u64 (e : Int), .int .u64 (o : Int), .int .u64 (sq : Int), .string bd] 40) = wa := ⟨_, rfl⟩
        have wh6 : Whole wa wr.heap.size 40 [.int .i64 k, .int .u32 (tt : Int), .int .u64 (e : Int), .int .u64 (o : Int), .int .u64 (sq : Int), .string bd] := by rw [← hwa]; exact Whole.made' wr _ _
        rw [hwa] at W1 s2' ⊢
        obtain ⟨y0, y1, y2, y3, y4, y5⟩ := whole6 wh6
        clear c0 c1 c2 c3 c4 c5 s2
        go_still_tail 8, (by kernel_rfl)
        change wpList _ _ _ _ _ (wa.drewN 1)
        have B2 := Lib.hid (HB.out.trans ((below_draws W1.out 1).mono HB.out.size))
        obtain ⟨z0, z1, z2, z3, z4, z5⟩ := whole6 (wh6.draws 1)
        generalize wa.drewN 1 = w2 at B2 z0 z1 z2 z3 z4 z5 ⊢
        clear y0 y1 y2 y3 y4 y5 s2' W1 hwa wh6
        go_wp2_with fail
        refine (CM.out _).mono ?_
        rintro en w3 ⟨rfl, b3⟩
        have B3 := Lib.hid (B2.out.trans (b3.mono B2.out.size))
        clear b3 CM z0 z1 z2 z3 z4 z5 B2
        cases mb with
        | true =>
          have nxt : ∀ j, j < q + 1 → OneOf tt (rs j) := fun j hj => by
            by_cases e : j = q
            · subst e; rw [HX.out]; exact ⟨rfl, HMB.out⟩
            · exact HO.out j (by omega)
          have NX := Lib.hid nxt
          clear nxt
          go_wp2_with fail
          refine ⟨⟨q + 1, by rw [Int.natCast_add]; rfl, by omega, NX.out, B3.out⟩, ?_⟩
          show ((len : Int) - ((q : Int) + 1)).toNat < ((len : Int) - (q : Int)).toNat
          omega
        | false =>
          have hno : yes = false := by
            rw [Bool.eq_false_iff]
            intro h
            have := ((HY.out.1 h).2 q hql).2
            rw [HX.out, HMB.out] at this
            cases this
          have HNO := Lib.hid hno
          clear hno
          go_wp2_with fail
          go_ret
          exact ⟨ret_bool HNO.out.symm, B3.out⟩
      · have htI : ((tt : Int) == (t : Int)) = false := by rw [beq_eq_false_iff_ne]; omega
        have htJ : ((tt : Int) != (t : Int)) = true := by rw [bne_iff_ne]; omega
        have hno : yes = false := by
          rw [Bool.eq_false_iff]
          intro h
          have := ((HY.out.1 h).2 q hql).1
          rw [HX.out] at this
          exact htt this
        have HNO := Lib.hid hno
        have W1 : Hid (Below wr.heap.size wr (wr.alloc (.cells #[.int .i64 k, .int .u32 (tt : Int), .int .u64 (e : Int), .int .u64 (o : Int), .int .u64 (sq : Int), .string bd] 40))) := (Below.refl _ _).alloc (Nat.le_refl _) _
        have s2' := ((HS.out.later HB.out).later W1.out).c2
        clear hno
        go_wp2_with fail
        go_quiet (fail)
        go_wp2_with fail
        go_ret
        exact ⟨ret_bool HNO.out.symm, HB.out.trans ((below_draws W1.out _).mono HB.out.size)⟩
    · have hqI : ¬ (q : Int) < (len : Int) := by omega
      have hyes : yes = decide (0 < len) := by
        rw [Bool.eq_iff_iff, HY.out]
        unfold AllOf
        rw [decide_eq_true_eq]
        exact ⟨fun h => h.1, fun h => ⟨h, fun i hi => hone i (by omega)⟩⟩
      have HYE := Lib.hid hyes
      have HB := Lib.hid hb
      clear hb hone hyes
      go_wp2_with fail
      go_ret
      exact ⟨ret_bool HYE.out.symm, HB.out⟩
end Go.Proofs.YtdonblfidohncaaGreatDoor.scan
