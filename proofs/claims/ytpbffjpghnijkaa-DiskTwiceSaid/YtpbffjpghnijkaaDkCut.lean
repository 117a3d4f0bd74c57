/-
  CONTRACT of stillroomlaw5.Cut: an operation that is not too great (for DiskTwice).
-/
import Derived.Test.YtpbffjpghnijkaaDkRows
import Derived.Deep.RegionLaw
import Derived.Deep.DeepCutAuto
namespace Go.Proofs.Ytpbffjpghnijkaa.disk
open Go.RowKit
set_option linter.unusedVariables false

/-- A text, not too long. -/
def cutS (s : ByteArray) (n : Nat) : ByteArray := if n < s.size then s.extract 0 n else s
theorem cutS_size (s : ByteArray) (n : Nat) : (cutS s n).size = min s.size n := by
  unfold cutS
  by_cases h : n < s.size
  · rw [if_pos h, ByteArray.size_extract]; omega
  · rw [if_neg h]; omega
theorem cutText_any (s : ByteArray) (n : Nat) (hn : n ≤ 1000) (hs : s.size ≤ maxLen) (w : World) : Calls Try.prog 43 #[.string s, .int .i64 (n : Int)] w fun e w' => e = .returned (.string (cutS s n)) ∧ w = w' := by
  unfold maxLen at hs
  by_cases h : n < s.size
  · have h1 : (n : Int) < (s.size : Int) := by omega
    have e : cutS s n = s.extract 0 n := by unfold cutS; rw [if_pos h]
    rw [e]
    clear e
    go_enter Try.func43, Try.ntmps43
    go_wp2
    go_ret
    exact ⟨rfl, rfl⟩
  · have h1 : ¬ (n : Int) < (s.size : Int) := by omega
    have e : cutS s n = s := by unfold cutS; rw [if_neg h]
    rw [e]
    clear e
    go_enter Try.func43, Try.ntmps43
    go_wp2
    go_ret
    exact ⟨rfl, rfl⟩


theorem whole7 {W : World} {p : Nat} {v0 v1 v2 v3 v4 v5 v6 : Value} (h : Whole W p 50 [v0, v1, v2, v3, v4, v5, v6]) :
    W.cell? ⟨p, 0, none⟩ = some v0 ∧ W.cell? ⟨p, 1, none⟩ = some v1 ∧ W.cell? ⟨p, 2, none⟩ = some v2 ∧ W.cell? ⟨p, 3, none⟩ = some v3 ∧ W.cell? ⟨p, 4, none⟩ = some v4 ∧ W.cell? ⟨p, 5, none⟩ = some v5 ∧ W.cell? ⟨p, 6, none⟩ = some v6 ∧
    W.frozen? ⟨p, 3, none⟩ = false ∧ W.frozen? ⟨p, 4, none⟩ = false ∧ W.frozen? ⟨p, 5, none⟩ = false ∧ W.frozen? ⟨p, 6, none⟩ = false :=
  ⟨h.at_ 0, h.at_ 1, h.at_ 2, h.at_ 3, h.at_ 4, h.at_ 5, h.at_ 6, h.free 3, h.free 4, h.free 5, h.free 6⟩
theorem opInfo : (Try.prog.info? 50).map (·.size) = some 7 := by kernel_rfl
theorem run_load_op {w : World} {bz : Nat} {cs : List Value} (hw : Whole w bz 50 cs) (hl : cs.length = 7) : (loadVar 50 ⟨bz, 0, none⟩).run Try.prog w = .ok (.agg cs.toArray) w := by
  have h := hw.range 0 7
  rw [List.drop_zero, ← hl, List.take_length] at h
  exact run_loadVar_mid w bz 0 50 cs _ h Try.underlying50 rfl (by rw [hl]; exact opInfo)
theorem run_bools' (x : Addr) (n cap hi : Nat) (hh : hi ≤ cap) (w : World) : (Instr.slice 23 (.slice (some x) n cap) none (some (.int .i64 (hi : Int))) none).run Try.prog w = .ok (.slice (some x) hi cap) w := by
  rw [run_slice_h w 23 _ n cap (by rw [bool_elem]; exact Try.underlying23) .i64 (hi : Int) (by omega) (by omega), bool_elem, bool_sizeOf]
  by_cases h : cap = 0 <;> simp [Result.andThen, sliced, h, Addr.add]
set_option maxRecDepth 100000 in
set_option maxHeartbeats 6000000 in
theorem cutOp_any (kd n m : Int) (nm tt : ByteArray) (ba ka : Option Addr) (bn bc kn kc : Nat) (hnm : nm.size ≤ maxLen) (htt : tt.size ≤ maxLen) (hb : bn ≤ bc) (hb0 : ba = none → bn = 0 ∧ bc = 0) (hk : kn ≤ kc) (hk0 : ka = none → kn = 0 ∧ kc = 0) (w : World) :
    Calls Try.prog 29 #[.agg #[.int .i64 kd, .int .i64 n, .int .i64 m, .string nm, .string tt, .slice ba bn bc, .slice ka kn kc]] w fun e w' => e = .returned (.agg #[.int .i64 kd, .int .i64 n, .int .i64 m, .string (cutS nm 40), .string (cutS tt 40), .slice ba (min bn 300) bc, .slice ka (min kn 40) kc]) ∧ Below w.heap.size w w' := by
  have CN : ∀ W, Calls Try.prog 43 #[.string nm, .int .i64 40] W fun e w' => e = .returned (.string (cutS nm 40)) ∧ W = w' := fun W => cutText_any nm 40 (by decide) hnm W
  have CT : ∀ W, Calls Try.prog 43 #[.string tt, .int .i64 40] W fun e w' => e = .returned (.string (cutS tt 40)) ∧ W = w' := fun W => cutText_any tt 40 (by decide) htt W
  have CS : ∀ W, Calls Try.prog 11 #[.slice ba bn bc, .int .i64 300] W fun e w' => e = .returned (.slice ba (min bn 300) bc) ∧ W = w' := fun W => short_any ba bn bc 300 W hb hb0 (by decide)
  obtain ⟨nm2, hn2⟩ : ∃ nm2, cutS nm 40 = nm2 := ⟨_, rfl⟩
  obtain ⟨tt2, ht2⟩ : ∃ tt2, cutS tt 40 = tt2 := ⟨_, rfl⟩
  obtain ⟨bn2, hb2⟩ : ∃ bn2, min bn 300 = bn2 := ⟨_, rfl⟩
  rw [hn2] at CN ⊢
  rw [ht2] at CT ⊢
  rw [hb2] at CS ⊢
  obtain ⟨kn2, hkn⟩ : ∃ k, min kn 40 = k := ⟨_, rfl⟩
  rw [hkn]
  have HKN := Lib.hid hkn
  clear hkn
  have HCN := Lib.hid CN
  have HCT := Lib.hid CT
  have HCS := Lib.hid CS
  clear CN CT CS hn2 ht2 hb2 hnm htt hb hb0
  obtain ⟨p, hp⟩ : ∃ p, w.heap.size = p := ⟨_, rfl⟩
  obtain ⟨wa, hwa⟩ : ∃ wa, (w.alloc (.cells #[.int .i64 kd, .int .i64 n, .int .i64 m, .string nm, .string tt, .slice ba bn bc, .slice ka kn kc] 50)).alloc (.cells #[.int .i64 0, .int .i64 0, .int .i64 0, .string ⟨#[]⟩, .string ⟨#[]⟩, .slice none 0 0, .slice none 0 0] 50) = wa := ⟨_, rfl⟩
  have hs1 : (w.alloc (.cells #[.int .i64 kd, .int .i64 n, .int .i64 m, .string nm, .string tt, .slice ba bn bc, .slice ka kn kc] 50)).heap.size = p + 1 := by rw [← hp]; simp
  have b1 : Below w.heap.size w wa := by rw [← hwa]; exact ((Below.refl _ _).alloc (Nat.le_refl _) _).alloc (by rw [hs1, hp]; omega) _
  have wp : Whole wa p 50 [.int .i64 kd, .int .i64 n, .int .i64 m, .string nm, .string tt, .slice ba bn bc, .slice ka kn kc] := by rw [← hwa]; exact (Whole.new_ hp.symm rfl).kept ((Below.refl _ _).alloc (Nat.le_refl _) _)
  have wq : Whole wa (p + 1) 50 [.int .i64 0, .int .i64 0, .int .i64 0, .string ⟨#[]⟩, .string ⟨#[]⟩, .slice none 0 0, .slice none 0 0] := by rw [← hwa]; exact Whole.new_ hs1.symm rfl
  have B1 := Lib.hid b1
  have WP := Lib.hid wp
  have WQ := Lib.hid wq
  have HWA := Lib.hid hwa
  clear b1 wp wq hwa
  go_enter Try.func29, Try.ntmps29
  go_wp2_with fail
  rw [HWA.out]
  have wpd := WP.out.draws 1
  have cs := whole7 WP.out
  obtain ⟨c0, c1, c2, c3, c4, c5, c6, f3, f4, f5, f6⟩ := cs
  have WPD := Lib.hid wpd
  clear wpd
  go_cut [] (fun wx => Whole wx p 50 [.int .i64 kd, .int .i64 n, .int .i64 m, .string nm2, .string tt2, .slice ba bn2 bc, .slice ka kn kc] ∧ Whole wx (p + 1) 50 [.int .i64 0, .int .i64 0, .int .i64 0, .string ⟨#[]⟩, .string ⟨#[]⟩, .slice none 0 0, .slice none 0 0] ∧ Below w.heap.size w wx)
  case first =>
    go_region_law
    (first
      | (rw [if_pos (by rfl)]; go_simp; go_at_call 43; with_reducible refine (HCN.out _).mono ?_; rintro en w2 ⟨rfl, rfl⟩)
      | (rw [if_pos (by rfl)]; go_simp; go_at_call 43; with_reducible refine (HCT.out _).mono ?_; rintro en w2 ⟨rfl, rfl⟩)
      | (rw [if_pos (by rfl)]; go_simp; go_at_call 11; with_reducible refine (HCS.out _).mono ?_; rintro en w2 ⟨rfl, rfl⟩))
    all_goals
      go_wp2_with fail
      go_meet
      exact ⟨(((WP.out.put 3 _).put 4 _).put 5 _).draws 1, (((WQ.out.apart (Nat.succ_ne_self p) _).apart (Nat.succ_ne_self p) _).apart (Nat.succ_ne_self p) _).draws 1, below_draws (((B1.out.setCell (Nat.le_of_eq hp) _).setCell (Nat.le_of_eq hp) _).setCell (Nat.le_of_eq hp) _) 1⟩
  case rest =>
    obtain ⟨hw1, hw2, hbw⟩ := hcut
    obtain ⟨c0, c1, c2, c3, c4, c5, c6, f3, f4, f5, f6⟩ := whole7 hw1
    have HW2 := Lib.hid hw2
    have HBW := Lib.hid hbw
    by_cases h40 : 40 < kn
    · have h40I : (40 : Int) < (kn : Int) := by omega
      have hk2 : kn2 = 40 := by have := HKN.out; omega
      subst hk2
      clear HKN
      have hsl : ∀ W, (Instr.slice 23 (.slice ka kn kc) none (some (.int .i64 40)) none).run Try.prog W = .ok (.slice ka 40 kc) W := fun W => by
        obtain ⟨x, rfl⟩ : ∃ x, ka = some x := by
          cases ka with
          | none => have := hk0 rfl; omega
          | some x => exact ⟨x, rfl⟩
        exact run_bools' x kn kc 40 (by omega) W
      have hw1' := hw1.put 6 (.slice ka 40 kc)
      have hw2' := hw2.apart (p := ⟨p, 6, none⟩) (Nat.succ_ne_self p) (.slice ka 40 kc)
      have hb' : Below w.heap.size w (wc.setCell ⟨p, 6, none⟩ (.slice ka 40 kc)) := hbw.setCell (Nat.le_of_eq hp) _
      obtain ⟨y0, y1, y2, y3, y4, y5, y6, -, -, -, -⟩ := whole7 hw1'
      have HW2' := Lib.hid hw2'
      have HB' := Lib.hid hb'
      clear hw1 hw2 hbw hw1' hw2' hb'
      go_wp2_with ((with_reducible show wpList _ _ _ (⟨none, .store 50 _ _, _, _, _, _⟩ :: _) _ _); refine wpList_store_as rfl 50 (.tmp 2) (.tmp 23) rfl (p + 1) 0 #[.int .i64 kd, .int .i64 n, .int .i64 m, .string nm2, .string tt2, .slice ba bn2 bc, .slice ka 40 kc] rfl rfl (Whole.there HW2'.out 0 7 (Nat.le_refl 7)) opInfo (by simp [Value.oneCell']) ?_; intro w7 hw7; have HW7 := Lib.hid hw7; clear hw7)
      have wf7 : Whole w7 (p + 1) 50 [.int .i64 kd, .int .i64 n, .int .i64 m, .string nm2, .string tt2, .slice ba bn2 bc, .slice ka 40 kc] := by
        rw [← HW7.out]
        exact Whole.lay [.int .i64 kd, .int .i64 n, .int .i64 m, .string nm2, .string tt2, .slice ba bn2 bc, .slice ka 40 kc] 0 HW2'.out (by simp)
      have b7 : Below w.heap.size w w7 := by
        rw [← HW7.out]
        exact below_lay _ _ _ HB'.out (by omega)
      refine bodyPost_ret (v := .agg #[.int .i64 kd, .int .i64 n, .int .i64 m, .string nm2, .string tt2, .slice ba bn2 bc, .slice ka 40 kc]) (by
        have hld := run_load_op wf7 rfl
        simp [results, Try.results29, asAddr, hld]) rfl ⟨rfl, by first | exact b7 | (rw [← hp]; exact b7)⟩
    · have h40I : ¬ (40 : Int) < (kn : Int) := by omega
      have hk2 : kn2 = kn := by have := HKN.out; omega
      subst hk2
      clear hw1 hw2 hbw HKN
      go_wp2_with ((with_reducible show wpList _ _ _ (⟨none, .store 50 _ _, _, _, _, _⟩ :: _) _ _); refine wpList_store_as rfl 50 (.tmp 2) (.tmp 23) rfl (p + 1) 0 #[.int .i64 kd, .int .i64 n, .int .i64 m, .string nm2, .string tt2, .slice ba bn2 bc, .slice ka kn2 kc] rfl rfl (Whole.there HW2.out 0 7 (Nat.le_refl 7)) opInfo (by simp [Value.oneCell']) ?_; intro w7 hw7; have HW7 := Lib.hid hw7; clear hw7)
      have wf7 : Whole w7 (p + 1) 50 [.int .i64 kd, .int .i64 n, .int .i64 m, .string nm2, .string tt2, .slice ba bn2 bc, .slice ka kn2 kc] := by
        rw [← HW7.out]
        exact Whole.lay [.int .i64 kd, .int .i64 n, .int .i64 m, .string nm2, .string tt2, .slice ba bn2 bc, .slice ka kn2 kc] 0 HW2.out (by simp)
      have b7 : Below w.heap.size w w7 := by
        rw [← HW7.out]
        exact below_lay _ _ _ HBW.out (by omega)
      refine bodyPost_ret (v := .agg #[.int .i64 kd, .int .i64 n, .int .i64 m, .string nm2, .string tt2, .slice ba bn2 bc, .slice ka kn2 kc]) (by
        have hld := run_load_op wf7 rfl
        simp [results, Try.results29, asAddr, hld]) rfl ⟨rfl, by first | exact b7 | (rw [← hp]; exact b7)⟩
end Go.Proofs.Ytpbffjpghnijkaa.disk
