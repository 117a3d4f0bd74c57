/-
  CONTRACT of manifest.May.
-/
import Derived.Test.YtpgclhpobijdeaaDoorMnMayBe
import Derived.Test.YtpgclhpobijdeaaDoorAft
import Derived.Deep.RegionHeld3
import Derived.Deep.Cut
import Derived.StillTailTactics
namespace Go.Proofs.YtpgclhpobijdeaaDoor.man
open Go.RowKit Go.Proofs.YtpgclhpobijdeaaDoor.disk Go.Proofs.YtpgclhpobijdeaaDoor.recd Go.Proofs.YtpgclhpobijdeaaDoor.num Go.Proofs.YtpgclhpobijdeaaDoor.scan
set_option linter.unusedVariables false

theorem mayB_loop {l : List Ten} (h : l.length ≤ 6) : mayB l = riseB (-1) l := by rw [mayB, decide_eq_true h, Bool.true_and]
/-- The number of the tenant ahead of place k. -/
def idAt (l : List Ten) (k : Nat) : Int := if k = 0 then -1 else ((l.getD (k - 1) zeroTen).id : Int)
theorem idAt_succ {l : List Ten} {k : Nat} {t : Ten} (h : l[k]? = some t) : idAt l (k + 1) = (t.id : Int) := by
  rw [idAt, if_neg (by omega), Nat.add_sub_cancel, List.getD_eq_getElem?_getD, h]; rfl
theorem tens_at {xs : List TS} {k : Nat} {x : TS} (h : xs[k]? = some x) : (tens xs)[k]? = some x.t := by rw [tens, List.getElem?_map, h]; rfl
set_option maxRecDepth 100000 in
set_option maxHeartbeats 2000000 in
theorem manMay_any (a : Option Addr) (len cap : Nat) (xs : List TS) (w : World) (h : TRow w a len cap xs) :
    Calls Tryd.prog 17 #[.slice a len cap] w fun e w' => e = .returned (.bool (mayB (tens xs))) ∧ Below w.heap.size w w' := by
  have HR := Lib.hid h
  have HL := Lib.hid h.length
  have hm : (len : Int) ≤ 9223372036854775807 := by have := h.le; have := h.most; omega
  by_cases h6 : (6 : Int) < (len : Int)
  · have F : Hid (mayB (tens xs) = false) := by
      refine Lib.hid (Bool.eq_false_iff.2 fun e => ?_)
      have := mayB_len e
      rw [tens_length, HL.out] at this
      omega
    clear h
    go_enter Tryd.func17, Tryd.ntmps17
    go_wp2_with fail
    go_ret
    exact ⟨ret_bool (by rw [F.out]), Below.refl _ _⟩
  · have HM := Lib.hid (mayB_loop (l := tens xs) (by rw [tens_length, HL.out]; omega))
    clear h
    go_enter Tryd.func17, Tryd.ntmps17
    go_wp2_with fail
    go_loopw [3, 4, 10] (fun _ _ i wr => ∃ k : Nat, k ≤ len ∧ i = .int .i64 (k : Int) ∧ Hid (Below w.heap.size w wr) ∧ Hid (riseB (idAt (tens xs) k) ((tens xs).drop k) = riseB (-1) (tens xs))) (fun _ _ i _ => len - (intOf i).toNat)
    case atStart => exact ⟨0, Nat.zero_le _, rfl, Lib.hid (Below.refl _ _), Lib.hid rfl⟩
    case round =>
      obtain ⟨k, hk, rfl, hB, hI⟩ := hrel
      by_cases hlt : k < len
      · have hkI : (k : Int) < (len : Int) := by omega
        obtain ⟨b, off, x, rfl, hx, _, hfx, hsx, c0, c1, c2, c3, c4, c5⟩ := (HR.out.later hB.out).at_ hlt
        obtain ⟨⟨id, ep, qu, nx, ns, sg⟩, sa, sn, sc⟩ := x
        simp only at c0 c1 c2 c3 c4 c5
        have hst := hI.out
        rw [riseB_drop (tens_at hx)] at hst
        have hid := idAt_succ (tens_at hx)
        have HFX := Lib.hid hfx
        have HSX := Lib.hid hsx
        have HST := Lib.hid hst
        have HID := Lib.hid hid
        have HX := Lib.hid hx
        clear hst hid hfx hsx hx hI
        obtain ⟨p, hp⟩ : ∃ p, wr.heap.size = p := ⟨_, rfl⟩
        obtain ⟨wa, hwa⟩ : ∃ wa, wr.alloc (.cells #[.int .u32 (id : Int), .int .u64 (ep : Int), .int .i64 qu, .int .u64 (nx : Int), .int .i64 ns, .slice sa sn sc] 34) = wa := ⟨_, rfl⟩
        have ba : Below wr.heap.size wr wa := by rw [← hwa]; exact (Below.refl _ _).alloc (Nat.le_refl _) _
        have wh : Whole wa p 34 [.int .u32 (id : Int), .int .u64 (ep : Int), .int .i64 qu, .int .u64 (nx : Int), .int .i64 ns, .slice sa sn sc] := by rw [← hwa]; exact Whole.new_ hp.symm rfl
        have BA : Hid (Below w.heap.size w wa) := Lib.hid (hB.out.trans (ba.mono hB.out.size))
        have WA := Lib.hid hwa
        have BB := Lib.hid ba
        have WH := Lib.hid wh
        clear hwa ba wh
        have FAL : ∀ h : decide (idAt (tens xs) k < (id : Int)) = false ∨ oneB ⟨id, ep, qu, nx, ns, sg⟩ = false, mayB (tens xs) = false := fun h => by
          rw [HM.out, ← HST.out]
          rcases h with h | h
          · rw [h]; simp
          · rw [h]; simp
        have TRU : ∀ h1 : idAt (tens xs) k < (id : Int), oneB ⟨id, ep, qu, nx, ns, sg⟩ = true → riseB (idAt (tens xs) (k + 1)) ((tens xs).drop (k + 1)) = riseB (-1) (tens xs) := fun h1 h2 => by
          rw [HID.out, ← HST.out, decide_eq_true h1, h2]; simp
        have HFAL := Lib.hid FAL
        have HTRU := Lib.hid TRU
        have hcm := fun p : Aft wa => mayBe_any ⟨⟨id, ep, qu, nx, ns, sg⟩, sa, sn, sc⟩ _ HFX.out ((HSX.out.later BB.out).later p.h)
        unfold TS.val at hcm
        simp only at hcm
        clear FAL TRU HFX HSX HST HID
        rcases Nat.eq_zero_or_pos k with h0 | h0
        · have hk0 : ¬ (0 : Int) < (k : Int) := by omega
          have hk1 : ¬ 0 < k := by omega
          have LT : Hid (idAt (tens xs) k < (id : Int)) := Lib.hid (by rw [idAt, if_pos h0]; omega)
          clear h0
          cases hmb : oneB ⟨id, ep, qu, nx, ns, sg⟩ with
          | false =>
            rw [hmb] at hcm
            have CM := Lib.hid hcm
            have HMB := Lib.hid hmb
            clear hcm hmb
            go_upto_region 6 with fail
            rw [WA.out]
            obtain ⟨z0, z1, z2, z3, z4, z5⟩ := ten6 WH.out
            have y0 := Aft.cell z0
            have y1 := Aft.cell z1
            have y2 := Aft.cell z2
            have y3 := Aft.cell z3
            have y4 := Aft.cell z4
            have y5 := Aft.cell z5
            clear c0 c1 c2 c3 c4 c5 z0 z1 z2 z3 z4 z5 
            refine wp_region_aft (by kernel_rfl) (by kernel_rfl) ?_
            repeat ((with_reducible refine wpQuiet_step (fun K hK => ?_)); go_simp; first | (refine hK _ ?_; clear hK K) | (apply Exists.intro; refine ⟨fun _ => ?_, hK _ ?_⟩; (go_at_call 31; exact Calls.aft (CM.out _)); clear hK K))
            refine wpQuiet_nil ?_
            intro _ hw'
            obtain ⟨pq, hw''⟩ := hw'
            subst hw''
            have B5 : Hid (Below w.heap.size w pq.W) := Lib.hid (BA.out.trans (pq.h.mono BA.out.size))
            all_goals
              clear y0 y1 y2 y3 y4 y5 
              go_wp2_with fail
              go_ret
              exact ⟨ret_bool (by rw [HFAL.out (.inr HMB.out)]), B5.out⟩
          | true =>
            rw [hmb] at hcm
            have CM := Lib.hid hcm
            have HMB := Lib.hid hmb
            clear hcm hmb
            go_upto_region 6 with fail
            rw [WA.out]
            obtain ⟨z0, z1, z2, z3, z4, z5⟩ := ten6 WH.out
            have y0 := Aft.cell z0
            have y1 := Aft.cell z1
            have y2 := Aft.cell z2
            have y3 := Aft.cell z3
            have y4 := Aft.cell z4
            have y5 := Aft.cell z5
            clear c0 c1 c2 c3 c4 c5 z0 z1 z2 z3 z4 z5 
            refine wp_region_aft (by kernel_rfl) (by kernel_rfl) ?_
            repeat ((with_reducible refine wpQuiet_step (fun K hK => ?_)); go_simp; first | (refine hK _ ?_; clear hK K) | (apply Exists.intro; refine ⟨fun _ => ?_, hK _ ?_⟩; (go_at_call 31; exact Calls.aft (CM.out _)); clear hK K))
            refine wpQuiet_nil ?_
            intro _ hw'
            obtain ⟨pq, hw''⟩ := hw'
            subst hw''
            have B5 : Hid (Below w.heap.size w pq.W) := Lib.hid (BA.out.trans (pq.h.mono BA.out.size))
            all_goals
              clear y0 y1 y2 y3 y4 y5 
              go_wp2_with fail
              refine ⟨⟨k + 1, by omega, by rw [Int.natCast_add]; rfl, B5, Lib.hid (HTRU.out LT.out HMB.out)⟩, ?_⟩
              show len - ((k : Int) + 1).toNat < len - (k : Int).toNat
              omega
        · have hk0 : (0 : Int) < (k : Int) := by omega
          obtain ⟨j, hkk⟩ : ∃ j, k = j + 1 := ⟨k - 1, by omega⟩
          obtain ⟨b', off', y, e', hy, _, hfy, _, d0, _⟩ := (HR.out.later hB.out).at_ (i := j) (by omega)
          injection e' with e'
          injection e' with e1 e2
          subst e1 e2
          obtain ⟨pid, hpid⟩ : ∃ pid, y.t.id = pid := ⟨_, rfl⟩
          have hpc := d0
          rw [hpid] at hpc
          have PID : Hid (idAt (tens xs) k = (pid : Int)) := Lib.hid (by rw [hkk, idAt_succ (tens_at hy), hpid])
          have hw : IntKind.i64.wrap ((k : Int) - 1) = (j : Int) := by rw [IntKind.wrap_i64]; omega
          have hjl : (j : Int) < (len : Int) := by omega
          have hk1 : 0 < k := by omega
          have hk2 : 1 ≤ k := by omega
          clear d0 hfy hy hpid h0 hkk
          by_cases hge : (id : Int) ≤ (pid : Int)
          · have hge1 : id ≤ pid := by omega
            have LT : Hid (decide (idAt (tens xs) k < (id : Int)) = false) := Lib.hid (decide_eq_false (by rw [PID.out]; omega))
            go_upto_region 6 with fail
            rw [WA.out]
            obtain ⟨z0, z1, z2, z3, z4, z5⟩ := ten6 WH.out
            have y0 := Aft.cell z0
            have y1 := Aft.cell z1
            have y2 := Aft.cell z2
            have y3 := Aft.cell z3
            have y4 := Aft.cell z4
            have y5 := Aft.cell z5
            have e0 := Aft.cell ((BB.out.cell (p := ⟨b, off + j * 6, none⟩) (block_lt_of_cell hpc)).trans hpc)
            clear c0 c1 c2 c3 c4 c5 z0 z1 z2 z3 z4 z5 hpc hcm
            refine wp_region_aft (by kernel_rfl) (by kernel_rfl) ?_
            repeat ((with_reducible refine wpQuiet_step (fun K hK => ?_)); go_simp; refine hK _ ?_; clear hK K)
            refine wpQuiet_nil ?_
            intro _ hw'
            obtain ⟨pq, hw''⟩ := hw'
            subst hw''
            go_wp2_with fail
            go_ret
            exact ⟨ret_bool (by rw [HFAL.out (.inl LT.out)]), BA.out.trans (pq.h.mono BA.out.size)⟩
          · have hge1 : ¬ id ≤ pid := by omega
            have LT : Hid (idAt (tens xs) k < (id : Int)) := Lib.hid (by rw [PID.out]; omega)
            cases hmb : oneB ⟨id, ep, qu, nx, ns, sg⟩ with
            | false =>
              rw [hmb] at hcm
              have CM := Lib.hid hcm
              have HMB := Lib.hid hmb
              clear hcm hmb
              go_upto_region 6 with fail
              rw [WA.out]
              obtain ⟨z0, z1, z2, z3, z4, z5⟩ := ten6 WH.out
              have y0 := Aft.cell z0
              have y1 := Aft.cell z1
              have y2 := Aft.cell z2
              have y3 := Aft.cell z3
              have y4 := Aft.cell z4
              have y5 := Aft.cell z5
              have e0 := Aft.cell ((BB.out.cell (p := ⟨b, off + j * 6, none⟩) (block_lt_of_cell hpc)).trans hpc)
              clear c0 c1 c2 c3 c4 c5 z0 z1 z2 z3 z4 z5 hpc
              refine wp_region_aft (by kernel_rfl) (by kernel_rfl) ?_
              repeat ((with_reducible refine wpQuiet_step (fun K hK => ?_)); go_simp; first | (refine hK _ ?_; clear hK K) | (apply Exists.intro; refine ⟨fun _ => ?_, hK _ ?_⟩; (go_at_call 31; exact Calls.aft (CM.out _)); clear hK K))
              refine wpQuiet_nil ?_
              intro _ hw'
              obtain ⟨pq, hw''⟩ := hw'
              subst hw''
              have B5 : Hid (Below w.heap.size w pq.W) := Lib.hid (BA.out.trans (pq.h.mono BA.out.size))
              all_goals
                clear y0 y1 y2 y3 y4 y5 e0
                go_wp2_with fail
                go_ret
                exact ⟨ret_bool (by rw [HFAL.out (.inr HMB.out)]), B5.out⟩
            | true =>
              rw [hmb] at hcm
              have CM := Lib.hid hcm
              have HMB := Lib.hid hmb
              clear hcm hmb
              go_upto_region 6 with fail
              rw [WA.out]
              obtain ⟨z0, z1, z2, z3, z4, z5⟩ := ten6 WH.out
              have y0 := Aft.cell z0
              have y1 := Aft.cell z1
              have y2 := Aft.cell z2
              have y3 := Aft.cell z3
              have y4 := Aft.cell z4
              have y5 := Aft.cell z5
              have e0 := Aft.cell ((BB.out.cell (p := ⟨b, off + j * 6, none⟩) (block_lt_of_cell hpc)).trans hpc)
              clear c0 c1 c2 c3 c4 c5 z0 z1 z2 z3 z4 z5 hpc
              refine wp_region_aft (by kernel_rfl) (by kernel_rfl) ?_
              repeat ((with_reducible refine wpQuiet_step (fun K hK => ?_)); go_simp; first | (refine hK _ ?_; clear hK K) | (apply Exists.intro; refine ⟨fun _ => ?_, hK _ ?_⟩; (go_at_call 31; exact Calls.aft (CM.out _)); clear hK K))
              refine wpQuiet_nil ?_
              intro _ hw'
              obtain ⟨pq, hw''⟩ := hw'
              subst hw''
              have B5 : Hid (Below w.heap.size w pq.W) := Lib.hid (BA.out.trans (pq.h.mono BA.out.size))
              all_goals
                clear y0 y1 y2 y3 y4 y5 e0
                go_wp2_with fail
                refine ⟨⟨k + 1, by omega, by rw [Int.natCast_add]; rfl, B5, Lib.hid (HTRU.out LT.out HMB.out)⟩, ?_⟩
                show len - ((k : Int) + 1).toNat < len - (k : Int).toNat
                omega
      · obtain rfl : k = len := by omega
        have F : Hid (mayB (tens xs) = true) := by
          have := hI.out
          rw [List.drop_of_length_le (by rw [tens_length, HL.out]; exact Nat.le_refl _)] at this
          refine Lib.hid ?_
          rw [HM.out, ← this]
          rfl
        clear hI
        go_wp2_with fail
        go_ret
        exact ⟨ret_bool (by rw [F.out]), hB.out⟩
end Go.Proofs.YtpgclhpobijdeaaDoor.man
