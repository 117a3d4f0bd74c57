/-
  CONTRACT of stillroomlaw8.begun: one record.
-/
import Derived.Test.YtdonblfidohncaaGreatDoorSgLaw
namespace Go.Proofs.YtdonblfidohncaaGreatDoor.scan
open Go.RowKit Go.Proofs.YtdonblfidohncaaGreatDoor.disk Go.Proofs.YtdonblfidohncaaGreatDoor.recd Go.Proofs.YtdonblfidohncaaGreatDoor.seg
set_option linter.unusedVariables false

def bg1 : Rec := ⟨1, 7, 0, 0, 0, ⟨#[97]⟩⟩
def bg2 : Rec := ⟨3, 7, 0, 0, 0, ⟨#[]⟩⟩
theorem bg_all : ∀ r ∈ [bg1, bg2], OneOf 7 r := by
  intro r hr
  simp only [List.mem_cons, List.not_mem_nil, or_false] at hr
  rcases hr with rfl | rfl <;> exact ⟨rfl, by decide⟩
theorem bg_fit : ∀ r ∈ [bg1, bg2], r.Fit := by
  intro r hr
  simp only [List.mem_cons, List.not_mem_nil, or_false] at hr
  rcases hr with rfl | rfl <;> exact ⟨by decide, by decide, by decide⟩
theorem bg_fine : ∀ r ∈ [bg1, bg2], Fine r := fun r hr => ⟨(bg_all r hr).2, (bg_fit r hr).tenant⟩
def bgL : List Int := cat [bg1, bg2]
theorem bgL_length : bgL.length = 79 := by decide +kernel
theorem bgL_read : readS 7 bgL 0 = (bg1, 0) := by
  have := readS_at 7 [] [bg1, bg2] [] 0 (by decide) (bg_fine bg1 (by simp)) rfl
  rw [List.nil_append, List.append_nil] at this
  exact this
theorem bg_name : nameB 7 3 = ⟨#[116, 55, 46, 51]⟩ := by
  unfold nameB nameL
  rw [Lib.decDigits_one (by omega), Lib.decDigits_one (by omega)]
  rfl

set_option maxRecDepth 100000 in
set_option maxHeartbeats 4000000 in
theorem sbegun_any (w : World) (hT : Tabs w) : Calls Tryz.prog 6 #[] w fun e w' => e = .returned (.bool true) ∧ Below w.heap.size w w' := by
  have B0 : Hid (Below w.heap.size w w) := Below.refl _ _
  have HT := Lib.hid hT
  clear hT
  go_enter Tryz.func6, Tryz.ntmps6
  go_wp2_with fail
  refine (new_any w 10000).mono ?_
  rintro e w1 ho
  obtain ⟨p, rfl, h1, _⟩ := held_new (W := w) (X := fun _ => False) (fun _ e => e.elim) B0.out ho
  have C1 := Lib.hid (segcreate_new HT.out w1 p 10000 h1 7 3 (by omega) (by omega))
  clear ho h1 B0
  go_wp2_with fail
  refine C1.out.mono ?_
  rintro e w2 ⟨b, s, rfl, s2, h2, _, _⟩
  have S2 := Lib.hid s2
  have H2 := Lib.hid h2
  clear s2 h2 C1
  go_wp2_with fail
  have hcat : (cat [bg1, bg2]).length = 79 := by decide +kernel
  have C2 := Lib.hid (segapp_cells HT.out H2.out (by omega) S2.out (.inr rfl) [bg1, bg2] (by simp) bg_all bg_fit (by decide) 2 2 rfl #[.int .i64 1, .int .u32 7, .int .u64 0, .int .u64 0, .int .u64 0, .string ⟨#[97]⟩, .int .i64 3, .int .u32 7, .int .u64 0, .int .u64 0, .int .u64 0, .string ⟨#[]⟩] rfl (by decide) (by rw [hcat]; decide))
  refine C2.out.mono ?_
  rintro e w3 ⟨v, rfl, o3, n3, h3, k3⟩
  have ep : placesF (⟨[], [], []⟩ : FileA).now.length [bg1, bg2] = [0, 40] := by decide +kernel
  rw [ep] at o3
  have hA : ((⟨[], [], []⟩ : FileA).write (⟨[], [], []⟩ : FileA).now.length (cat [bg1, bg2])).now = bgL := by rw [FileA.write_end]; rfl
  obtain ⟨A1, hA1⟩ : ∃ A1, (⟨[], [], []⟩ : FileA).write (⟨[], [], []⟩ : FileA).now.length (cat [bg1, bg2]) = A1 := ⟨_, rfl⟩
  rw [hA1] at hA h3
  have hl1 : A1.now.length = 79 := by rw [hA, bgL_length]
  have S3 := Lib.hid (S2.out.kept (.inr rfl) k3)
  have C3 := segread_seg HT.out h3 (by omega) S3.out (.inl (.inr rfl)) 0 (by omega)
  rw [show readS 7 A1.now ((0 : Nat) : Int) = (bg1, 0) by rw [hA]; exact bgL_read] at C3
  obtain ⟨cap, g, rfl, hcells⟩ : ∃ cap g, v = .slice (some ⟨g, 0, none⟩) 2 cap ∧ (w3.cell? ⟨g, 0, none⟩ = some (.int .i64 0) ∧ w3.cell? ⟨g, 1, none⟩ = some (.int .i64 40)) := by
    rcases o3.form with ⟨_, e⟩ | ⟨g, cap, e, _, _, _, hc⟩
    · cases e
    · exact ⟨cap, g, e, hc 0 (by decide) 0 (by decide), hc 1 (by decide) 0 (by decide)⟩
  have K3 := Lib.hid k3
  have HC := Lib.hid hcells
  have HL1 := Lib.hid hl1
  have HC3 := Lib.hid C3
  clear hA hA1 hl1 C3 hcells o3 n3 h3 k3 ep hcat C2
  go_wp2_with fail
  refine HC3.out.mono ?_
  rintro e w4 ⟨rfl, h4, k4⟩
  have hbv : (bg1, (0 : Int)).1.val = .agg #[.int .i64 1, .int .u32 7, .int .u64 0, .int .u64 0, .int .u64 0, .string ⟨#[97]⟩] := rfl
  rw [hbv]
  have S4 := Lib.hid (S3.out.kept (.inl (.inr rfl)) k4)
  have H4 := Lib.hid h4
  have g0 : w4.heap[g]? = w3.heap[g]? := k4 g (.inr rfl)
  have G4 := Lib.hid g0
  clear h4 k4 HC3 hbv g0
  go_wp2_with fail
  obtain ⟨w5, hw5⟩ : ∃ w5, w4.alloc (.cells #[.int .i64 1, .int .u32 7, .int .u64 0, .int .u64 0, .int .u64 0, .string ⟨#[97]⟩] 40) = w5 := ⟨_, rfl⟩
  have b5 : Below w4.heap.size w4 w5 := by rw [← hw5]; exact laid_below _ _
  have wh5 : Whole w5 w4.heap.size 40 [.int .i64 1, .int .u32 7, .int .u64 0, .int .u64 0, .int .u64 0, .string ⟨#[97]⟩] := by rw [← hw5]; exact Whole.made' w4 _ _
  have H5 := Lib.hid (H4.out.mine b5)
  have S5 := Lib.hid (S4.out.later b5)
  have hlt5 := wh5.lt
  have C5 := Lib.hid (segread_out H5.out S5.out (.inl (.inl (.inr rfl))) 1000 (.inr (by rw [HL1.out]; omega)))
  rw [hw5]
  obtain ⟨bx, hbx⟩ : ∃ bx, w4.heap.size = bx := ⟨_, rfl⟩
  rw [hbx] at wh5 hlt5 ⊢
  have HBX := Lib.hid hbx
  have WH5 := Lib.hid wh5
  have B5 := Lib.hid b5
  clear hw5 b5 wh5 hbx
  refine C5.out.mono ?_
  rintro e w6 ⟨rfl, h6, k6⟩
  have hbv : (zeroRec, (6 : Int)).1.val = .agg #[.int .i64 0, .int .u32 0, .int .u64 0, .int .u64 0, .int .u64 0, .string ⟨#[]⟩] := rfl
  rw [hbv]
  have WH6 : Whole w6 bx 40 [.int .i64 1, .int .u32 7, .int .u64 0, .int .u64 0, .int .u64 0, .string ⟨#[97]⟩] := Whole.same WH5.out (k6 bx (.inr ⟨by rw [HBX.out]; exact Nat.le_refl _, hlt5⟩))
  have g6 : w6.heap[g]? = w3.heap[g]? := ((k6 g (.inl (.inr rfl))).trans (B5.out.block g (H4.out.user g (.inr rfl)))).trans G4.out
  have x5 := (WH6.at_ 5).trans (show _ = some (Value.string ⟨#[97]⟩) from rfl)
  have e0 : w6.cell? ⟨g, 0, none⟩ = some (.int .i64 0) := (World.cell?_of_block (a := ⟨g, 0, none⟩) g6).trans HC.out.1
  have e1 : w6.cell? ⟨g, 1, none⟩ = some (.int .i64 40) := (World.cell?_of_block (a := ⟨g, 1, none⟩) g6).trans HC.out.2
  have S6 := Lib.hid (S5.out.kept (X := fun k => ((False ∨ k = s) ∨ _) ∨ _) (.inl (.inl (.inr rfl))) k6)
  have H6 := Lib.hid h6
  clear h6 k6 WH6 g6 hbv C5 WH5
  go_upto_region 8 with fail
  obtain ⟨w7, hw7⟩ : ∃ w7, w6.alloc (.cells #[.int .i64 0, .int .u32 0, .int .u64 0, .int .u64 0, .int .u64 0, .string ⟨#[]⟩] 40) = w7 := ⟨_, rfl⟩
  have b7 : Below w6.heap.size w6 w7 := by rw [← hw7]; exact laid_below _ _
  have y5 := (b7.cell (p := ⟨bx, 5, none⟩) (block_lt_of_cell x5)).trans x5
  have f0 := (b7.cell (p := ⟨g, 0, none⟩) (block_lt_of_cell e0)).trans e0
  have f1 := (b7.cell (p := ⟨g, 1, none⟩) (block_lt_of_cell e1)).trans e1
  have S7 := Lib.hid (S6.out.later b7)
  have H7 := Lib.hid (H6.out.later b7)
  have B7 := Lib.hid H7.out.below
  have C7 := segsize H7.out S7.out
  rw [HL1.out] at C7
  have HC7 := Lib.hid C7
  rw [hw7]
  clear x5 e0 e1 hw7 b7 C7
  go_wp2_with fail
  refine HC7.out.mono ?_
  rintro e w8 ⟨rfl, q8, rfl⟩
  have B8 := Lib.hid (below_draws B7.out q8)
  have C8 := Lib.hid (seg_name (t := 7) (n := 3) (by omega) (by omega) (w7.drewN q8) (HT.out.later B8.out))
  generalize w7.drewN q8 = w8 at B8 C8 ⊢
  clear y5 f0 f1 HC7
  go_wp2_with fail
  refine C8.out.mono ?_
  rintro e w9 ⟨rfl, b9⟩
  rw [bg_name]
  have B9 := Lib.hid (B8.out.trans (b9.mono B8.out.size))
  clear b9 C8
  go_wp2_with fail
  go_ret
  exact ⟨rfl, B9.out⟩
end Go.Proofs.YtdonblfidohncaaGreatDoor.scan
