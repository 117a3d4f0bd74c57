/-
  THE WALK OF 'stillroomlaw2.begun'.
-/
import Derived.Test.YtchbfcegonlhoaaDoorShaUnhex
namespace Go.Proofs.YtchbfcegonlhoaaDoor.sha
open Go.RowKit

theorem empty_digest : digest [] = [0xe3,0xb0,0xc4,0x42,0x98,0xfc,0x1c,0x14,0x9a,0xfb,0xf4,0xc8,0x99,0x6f,0xb9,0x24,0x27,0xae,0x41,0xe4,0x64,0x9b,0x93,0x4c,0xa4,0x95,0x99,0x1b,0x78,0x52,0xb8,0x55] := by decide +kernel
theorem hex_two : strOfNums (hexOf [10, 255]) = ⟨#[48, 97, 102, 102]⟩ := by rfl

set_option maxRecDepth 100000 in
set_option maxHeartbeats 1000000 in
theorem begun_any (w : World) (hT : Tab w) :
    Calls Tryd.prog 8 #[] w fun e w' => e = .returned (.bool true) ∧ Below w.heap.size w w' := by
  have HT := Lib.hid hT
  have C1 := Lib.hid (ssum_any none [] 0 0 w hT (.inl rfl) Byte.nil rfl (by omega) (by omega) (by omega))
  obtain ⟨D, hD⟩ : ∃ D, digest [] = D := ⟨_, rfl⟩
  rw [hD] at C1
  have hdl : D.length = 32 := by rw [← hD]; exact digest_length []
  have d0 : (u8s D)[0]? = some (.int .u8 227) := by rw [← hD, empty_digest]; rfl
  have d1 : (u8s D)[1]? = some (.int .u8 176) := by rw [← hD, empty_digest]; rfl
  have d31 : (u8s D)[31]? = some (.int .u8 85) := by rw [← hD, empty_digest]; rfl
  have hi32 : (Tryd.prog.info? 25).map (·.size) = some (u8s D).toArray.size := by rw [u8s_size, hdl]; exact info32
  have HI32 := Lib.hid hi32
  have HDL := Lib.hid hdl
  have D0 := Lib.hid d0
  have D1 := Lib.hid d1
  have D31 := Lib.hid d31
  have hz := zero32
  clear hT hD hdl d0 d1 d31 hi32
  go_enter Tryd.func8, Tryd.ntmps8
  go_wp2_with fail
  refine C1.out.mono ?_
  rintro e w1 ⟨rfl, h1⟩
  have H1 := Lib.hid h1
  clear C1 h1
  go_wp2_with (first
    | (refine wpList_store_as rfl 25 (.tmp 1) (.tmp 4) rfl w1.heap.size 0 (u8s D).toArray rfl rfl (by exact (Whole.new_ (l := u8s z32) rfl rfl).there _ _ (by rw [u8s_size, HDL.out]; exact Nat.le_refl 32)) HI32.out (u8s_one _) ?_; intro w2 hw2; have HW2 := Lib.hid hw2; clear hw2)
    | fail)
  have k2 : Whole w2 w1.heap.size 25 (u8s D) := by
    rw [← HW2.out]
    have h := Whole.lay (u8s D) 0 (Whole.new_ (w := w1) (g := w1.heap.size) (t := 25) (l := u8s z32) rfl rfl) (by rw [u8s_length, HDL.out]; exact Nat.le_refl 32)
    rwa [lay_all _ _ (by rw [u8s_length, u8s_length, HDL.out]; rfl)] at h
  have kb : Below w.heap.size w w2 := by rw [← HW2.out]; exact below_lay _ _ _ (H1.out.alloc H1.out.size _) H1.out.size
  have C2 := unhex_0aff w2
  have K2 := Lib.hid k2
  have KB := Lib.hid kb
  clear k2 kb HW2
  refine C2.mono ?_
  rintro e w3 ⟨⟨v, rfl, hown⟩, h3⟩
  have k3 := K2.out.kept h3
  have kb3 := KB.out.trans (h3.mono KB.out.size)
  have c0 : w3.cell? ⟨w1.heap.size, 0, none⟩ = some (.int .u8 227) := (k3.at_ 0).trans D0.out
  have c1 : w3.cell? ⟨w1.heap.size, 1, none⟩ = some (.int .u8 176) := (k3.at_ 1).trans D1.out
  have c31 : w3.cell? ⟨w1.heap.size, 31, none⟩ = some (.int .u8 85) := (k3.at_ 31).trans D31.out
  obtain ⟨A, cap, rfl, q1, q2, q3, q4, _, _⟩ := hown.form
  obtain ⟨b, off, rfl, hb⟩ := q4.resolve_left (by simp)
  have hb1 : w3.cell? ⟨b, off + 1, none⟩ = some (.int .u8 255) := hb 1 (by decide)
  have q1' : 2 ≤ cap := q1
  have KB3 := Lib.hid kb3
  have HB1 := Lib.hid hb1
  clear h3 k3 kb3 hown q1 q3 q4 hb hb1
  go_wp2_with fail
  have k6 : Below w3.heap.size w3 (w3.alloc (.cells #[.int .u8 10, .int .u8 255] 5)) := (Below.refl _ _).alloc (Nat.le_refl _) _
  refine (hex_any (some ⟨w3.heap.size, 0, none⟩) [10, 255] 2 2 _ (by exact Leads.of_whole (o := 0) (n := 2) (Whole.new_ (l := u8s [10, 255]) rfl rfl) rfl) (by intro c hc; simp at hc; omega) rfl (by omega)).mono ?_
  rintro e w5 ⟨rfl, h5⟩
  have hb5 : w5.cell? ⟨b, off + 1, none⟩ = some (.int .u8 255) := by
    have hlt : b < w3.heap.size := block_lt_of_cell HB1.out
    rw [h5.cell (p := ⟨b, off + 1, none⟩) (by simp; omega), k6.cell (p := ⟨b, off + 1, none⟩) hlt]; exact HB1.out
  have kb5 := (KB3.out.trans (k6.mono KB3.out.size)).trans (h5.mono (by have := KB3.out.size; simp; omega))
  have KB5 := Lib.hid kb5
  rw [hex_two]
  clear h5 k6 kb5
  go_wp2
  go_ret
  exact ⟨rfl, KB5.out⟩
end Go.Proofs.YtchbfcegonlhoaaDoor.sha
