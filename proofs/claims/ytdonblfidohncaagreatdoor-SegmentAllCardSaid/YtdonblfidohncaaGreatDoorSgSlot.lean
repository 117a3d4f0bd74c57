/-
  CONTRACT of stillroomlaw8.slot: how many bytes of a slot's beginning fit their sum (K1).
-/
import Derived.Test.YtdonblfidohncaaGreatDoorSgWhole
import Derived.Test.YtdonblfidohncaaGreatDoorMRDec
namespace Go.Proofs.YtdonblfidohncaaGreatDoor.scan
open Go.RowKit Go.Proofs.YtdonblfidohncaaGreatDoor.disk Go.Proofs.YtdonblfidohncaaGreatDoor.recd Go.Proofs.YtdonblfidohncaaGreatDoor.num
set_option linter.unusedVariables false

/-- What 'slot' answers. -/
def slotF (l : List Int) : Nat :=
  if l.length < 16 then 0
  else if 4080 < val (sub l 8 12) ∨ l.length - 16 < val (sub l 8 12) then 0
  else if val (sub l 12 16) ≠ (crc.sum (l.take 12 ++ sub l 16 (16 + val (sub l 8 12)))).toNat then 0
  else 16 + val (sub l 8 12)
theorem slotF_le (l : List Int) : slotF l ≤ l.length := by
  unfold slotF
  split
  · omega
  · split
    · omega
    · split
      · omega
      · omega

theorem at_sub' {W : World} {g off : Nat} {l : List Int} (h : At W g off l) (p q : Nat) (hpq : p ≤ q) (hq : q ≤ l.length) : At W g (off + p) (recd.sub l p q) := fun i hi => by
  rw [sub_length _ _ _ hq] at hi
  have h2 := h (p + i) (by omega)
  rw [show off + p + i = off + (p + i) by omega, h2]
  unfold recd.sub
  rw [List.getD_eq_getElem?_getD, List.getD_eq_getElem?_getD, List.getElem?_take_of_lt hi, List.getElem?_drop]

set_option maxRecDepth 100000 in
set_option maxHeartbeats 2000000 in
theorem slot_any (w : World) (g off : Nat) (l : List Int) (hB : At w g off l) (hb : Byte l) (n cap : Nat) (hn : l.length = n) (hc : n ≤ cap) (hn2 : n ≤ 100000000) (hc2 : cap ≤ 9223372036854775807) :
    Calls Tryz.prog 49 #[.slice (some ⟨g, off, none⟩) n cap] w fun e w' => e = .returned (.int .i64 (slotF l : Int)) ∧ Below w.heap.size w w' := by
  have HB := Lib.hid hB
  have HY := Lib.hid hb
  have HN := Lib.hid hn
  clear hB hb hn
  by_cases h16 : n < 16
  · have hI : (n : Int) < 16 := by omega
    have hz : slotF l = 0 := by unfold slotF; rw [if_pos (by rw [HN.out]; exact h16)]
    rw [hz]
    clear hz
    go_enter Tryz.func49, Tryz.ntmps49
    go_wp2_with fail
    go_ret
    exact ⟨rfl, Below.refl _ _⟩
  · have hI : ¬ (n : Int) < 16 := by omega
    have C1 := rget_at (some ⟨g, off + 8, none⟩) 4 (sub l 8 12) (sub_length l 8 12 (by rw [HN.out]; omega)) (cap - 8) w (HB.out.sub 8 12 (by omega) (by rw [HN.out]; omega)) (sub_byte HY.out 8 12) (by omega)
    obtain ⟨m, hm⟩ : ∃ m, val (sub l 8 12) = m := ⟨_, rfl⟩
    rw [hm] at C1
    have HC1 := Lib.hid C1
    have HM := Lib.hid hm
    clear C1 hm
    go_enter Tryz.func49, Tryz.ntmps49
    go_wp2_with fail
    refine HC1.out.mono ?_
    rintro e w1 ⟨rfl, rfl⟩
    by_cases hbig : 4080 < m ∨ n - 16 < m
    · have hz : slotF l = 0 := by unfold slotF; rw [if_neg (by rw [HN.out]; exact h16), HM.out, HN.out, if_pos hbig]
      have HZ := Lib.hid hz
      clear hz
      by_cases hb1 : 4080 < m
      · have hbI : (4080 : Int) < (m : Int) := by omega
        clear hbig
        go_wp2_with fail
        go_ret
        exact ⟨by rw [HZ.out]; rfl, Below.refl _ _⟩
      · have hbI : ¬ (4080 : Int) < (m : Int) := by omega
        have hb2 : n - 16 < m := by omega
        have hsub : ((n : Int) - 16) = ((n - 16 : Nat) : Int) := by omega
        clear hbig
        have hw : IntKind.u64.wrap ((n : Int) - 16) = (n : Int) - 16 := by rw [IntKind.wrap_u64]; omega
        have hb3 : (n : Int) - 16 < (m : Int) := by omega
        clear hsub hb2
        go_wp2_with fail
        go_ret
        exact ⟨by rw [HZ.out]; rfl, Below.refl _ _⟩
    · have hb1 : ¬ 4080 < m := by omega
      have hb2 : ¬ n - 16 < m := by omega
      have hbI : ¬ (4080 : Int) < (m : Int) := by omega
      have hb3 : ¬ (n : Int) - 16 < (m : Int) := by omega
      have hw : IntKind.u64.wrap ((n : Int) - 16) = (n : Int) - 16 := by rw [IntKind.wrap_u64]; omega
      have hw2 : IntKind.i64.wrap (m : Int) = (m : Int) := by rw [IntKind.wrap_i64]; omega
      have HBIG := Lib.hid hbig
      clear hbig
      go_wp2_with fail
      have hd8 : Below w.heap.size w w.drew := below_draws (Below.refl _ _) 1
      have gn : Grow w.drew [] (.slice none 0 0) w.drew := ⟨Own.none_ _, (fun g hg => by cases hg), Below.refl _ _⟩
      obtain ⟨v20, w20, r20, g20⟩ := gn.row (some ⟨g, off, none⟩) 12 cap ((HB.out.later hd8).take 12).leads (by rw [List.length_take, HN.out]; omega) (fun e => by cases e) (by decide)
      have b20 : Below w.heap.size w w20 := hd8.trans (g20.below.mono hd8.size)
      have hld : Leads w20 (if cap = 16 then some ⟨g, off, none⟩ else some ⟨g, off + 16, none⟩) (sub l 16 (16 + m)) := by
        by_cases hcp : cap = 16
        · refine .inl (List.eq_nil_of_length_eq_zero ?_)
          rw [sub_length _ _ _ (by rw [HN.out]; omega)]
          omega
        · rw [if_neg hcp]
          exact At.leads (at_sub' (HB.out.later b20) 16 (16 + m) (by omega) (by rw [HN.out]; omega))
      obtain ⟨v21, w21, r21, g21⟩ := g20.row (if cap = 16 then some ⟨g, off, none⟩ else some ⟨g, off + 16, none⟩) m (cap - 16) hld (by rw [sub_length _ _ _ (by rw [HN.out]; omega)]; omega) (fun e => by split at e <;> cases e) (by rw [List.nil_append, List.length_take, HN.out]; omega)
      have b21 : Below w.heap.size w w21 := hd8.trans (g21.below.mono hd8.size)
      have hlen21 : ([] ++ l.take 12 ++ sub l 16 (16 + m)).length = 12 + m := by rw [List.nil_append, List.length_append, List.length_take, sub_length _ _ _ (by rw [HN.out]; omega), HN.out]; omega
      obtain ⟨a21, c21, e21, -, -, -, l21, -⟩ := g21.own.form
      rw [hlen21] at e21
      subst e21
      have cs := crc.ref_at a21 ([] ++ l.take 12 ++ sub l 16 (16 + m)) (12 + m) c21 w21 hlen21 (by omega) l21 ((Byte.nil.append (HY.out.take 12)).append (sub_byte HY.out _ _))
      rw [List.nil_append] at cs
      obtain ⟨sm, hsm⟩ : ∃ sm, (crc.sum (l.take 12 ++ sub l 16 (16 + m))).toNat = sm := ⟨_, rfl⟩
      have hsm1 : sm < 4294967296 := by rw [← hsm]; exact BitVec.isLt _
      rw [hsm] at cs
      have cg := rget_at (some ⟨g, off + 12, none⟩) 4 (sub l 12 16) (sub_length l 12 16 (by rw [HN.out]; omega)) (cap - 12) w21 ((HB.out.later b21).sub 12 16 (by omega) (by rw [HN.out]; omega)) (sub_byte HY.out 12 16) (by omega)
      obtain ⟨gt, hgt⟩ : ∃ gt, val (sub l 12 16) = gt := ⟨_, rfl⟩
      rw [hgt] at cg
      have CS := Lib.hid cs
      have CG := Lib.hid cg
      have HSM := Lib.hid hsm
      have HGT := Lib.hid hgt
      have B21 := Lib.hid b21
      have R20 := Lib.hid r20
      have R21 := Lib.hid r21
      clear hld hd8 gn g20 b20 g21 b21 hlen21 l21 cs hsm cg hgt r20 r21
      have hk1 : (12 : Int) ≤ (cap : Int) := by omega
      have hk2 : (16 : Int) + (m : Int) ≤ (cap : Int) := by omega
      have hk3 : IntKind.i64.wrap (16 + (m : Int)) = 16 + (m : Int) := by rw [IntKind.wrap_i64]; omega
      have hk4 : (0 : Int) ≤ 16 + (m : Int) := by omega
      have hk5 : max (16 + (m : Int)) 0 = 16 + (m : Int) := by omega
      have hk6 : (16 : Int) ≤ 16 + (m : Int) := by omega
      have hk7 : (16 + (m : Int)).toNat - 16 = m := by omega
      go_region_law (first
        | (refine recd.step_append_run 57 (.const (.slice none 0 0)) (.tmp 22) _ _ rfl rfl rfl rfl rfl (by exact R20.out) ?_)
        | (refine recd.step_append_run 57 (.tmp 23) (.tmp 28) _ _ rfl rfl rfl rfl rfl (by exact R21.out) ?_))
      all_goals
        have hk8 : (16 : Int) ≤ (cap : Int) := by omega
        clear hk4 hk5 hk6 hk7
        obtain ⟨ad, had⟩ : ∃ ad, (if cap = 16 then some (⟨g, off, none⟩ : Addr) else some ⟨g, off + 16, none⟩) = ad := ⟨_, rfl⟩
        rw [had]
        clear had
        go_wp2_with fail
        refine CG.out.mono ?_
        rintro e w2 ⟨rfl, rfl⟩
        go_wp2_with fail
        refine CS.out.mono ?_
        rintro e w3 ⟨rfl, rfl⟩
        have hcv : IntKind.u64.wrap (sm : Int) = (sm : Int) := by rw [IntKind.wrap_u64]; omega
        by_cases hgs : gt = sm
        · have hz : slotF l = 16 + m := by
            unfold slotF
            rw [if_neg (by rw [HN.out]; exact h16), HM.out, HN.out, if_neg HBIG.out, HSM.out, HGT.out, if_neg (fun e => e hgs)]
          have HZ := Lib.hid hz
          subst hgs
          clear hz
          go_wp2_with fail
          go_ret
          exact ⟨by rw [HZ.out]; rfl, B21.out⟩
        · have hz : slotF l = 0 := by
            unfold slotF
            rw [if_neg (by rw [HN.out]; exact h16), HM.out, HN.out, if_neg HBIG.out, HSM.out, HGT.out, if_pos hgs]
          have HZ := Lib.hid hz
          have hne : ((gt : Int) != (sm : Int)) = true := by rw [bne_iff_ne]; omega
          clear hz hgs
          go_wp2_with fail
          go_ret
          exact ⟨by rw [HZ.out]; rfl, B21.out⟩
end Go.Proofs.YtdonblfidohncaaGreatDoor.scan
