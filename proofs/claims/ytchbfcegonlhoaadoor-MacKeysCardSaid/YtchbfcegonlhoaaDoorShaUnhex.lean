/-
  THE WALKS OF "sha.digit" and of "sha.Unhex" at the text 0aff.
-/
import Derived.Test.YtchbfcegonlhoaaDoorShaHex
namespace Go.Proofs.YtchbfcegonlhoaaDoor.sha
open Go.RowKit

theorem digit_num (c : Int) (h : 48 ≤ c ∧ c ≤ 57) (w : World) :
    Calls Tryd.prog 27 #[.int .u8 c] w fun e w' => e = .returned (.tuple #[.int .u8 (c - 48), .bool true]) ∧ w = w' := by
  go_enter Tryd.func27, Tryd.ntmps27
  go_wp2
  go_ret2
  exact ⟨rfl, rfl⟩
theorem digit_let (c : Int) (h : 97 ≤ c ∧ c ≤ 102) (w : World) :
    Calls Tryd.prog 27 #[.int .u8 c] w fun e w' => e = .returned (.tuple #[.int .u8 (c - 87), .bool true]) ∧ w = w' := by
  have h1 : ¬ c ≤ 57 := by omega
  have e : c - 97 + 10 = c - 87 := by omega
  go_enter Tryd.func27, Tryd.ntmps27
  go_wp2
  go_ret2
  exact ⟨rfl, rfl⟩
theorem digit_none (c : Int) (h0 : 0 ≤ c ∧ c < 256) (h1 : c < 48 ∨ 57 < c) (h2 : c < 97 ∨ 102 < c) (w : World) :
    Calls Tryd.prog 27 #[.int .u8 c] w fun e w' => e = .returned (.tuple #[.int .u8 0, .bool false]) ∧ w = w' := by
  rcases h1 with h1 | h1 <;> rcases h2 with h2 | h2
  all_goals first
    | (exfalso; omega)
    | (go_enter Tryd.func27, Tryd.ntmps27
       go_wp2
       go_ret2
       exact ⟨rfl, rfl⟩)

def b0aff : ByteArray := ⟨#[48, 97, 102, 102]⟩
set_option maxRecDepth 100000 in
set_option maxHeartbeats 1000000 in
theorem unhex_0aff (w : World) :
    Calls Tryd.prog 16 #[.string ⟨#[48, 97, 102, 102]⟩] w fun e w' => (∃ v, e = .returned (.tuple #[v, .bool true]) ∧ Own w' w.heap.size v [10, 255]) ∧ Below w.heap.size w w' := by
  obtain ⟨w1, hmk, own1, bel1⟩ := run_make_room w 2 (by omega)
  have hmk' : (Instr.makeSlice 22 (.int .i64 0) (.int .i64 2)).run Tryd.prog w = _ := hmk
  have OWN1 := Lib.hid own1
  have BEL1 := Lib.hid bel1
  clear own1 bel1 hmk
  go_enter Tryd.func16, Tryd.ntmps16
  have e0 : bits .or .u8 0 10 = 10 := by decide +kernel
  have e1 : bits .or .u8 240 15 = 255 := by decide +kernel
  obtain ⟨i0, hi, hz0, hz1, hz2⟩ := info_parts byte_info
  have HI := Lib.hid hi
  have HZ0 := Lib.hid hz0
  have HZ1 := Lib.hid hz1
  have HZ2 := Lib.hid hz2
  clear hi hz0 hz1 hz2
  go_wp2_with fail
  clear hmk'
  go_loopw [4, 5] (fun v i wr => ∃ k : Nat, k ≤ 2 ∧ i = .int .i64 ((2 * k : Nat) : Int) ∧ Own wr w.heap.size v (([10, 255] : List Int).take k) ∧ Below w.heap.size w wr) (fun _ i _ => 4 - (intOf i).toNat)
  case atStart => exact ⟨0, by omega, rfl, OWN1.out, BEL1.out⟩
  case round =>
    obtain ⟨k, hk, rfl, hown, hbel⟩ := hrel
    have HO := Lib.hid hown
    have HBel := Lib.hid hbel
    clear hown hbel
    rcases (show k = 0 ∨ k = 1 ∨ k = 2 by omega) with rfl | rfl | rfl
    · clear hk
      have z0 : ((2 * 0 : Nat) : Int) = 0 := rfl
      rw [z0]
      go_wp2_with fail
      refine (digit_num 48 (by omega) _).mono ?_; rintro e w' ⟨rfl, rfl⟩
      go_wp2_with fail
      refine (digit_let 97 (by omega) _).mono ?_; rintro e w' ⟨rfl, rfl⟩
      go_wp2_with (first
        | (at_builtin; refine wpList_append_lies _ rfl (.tmp 45) (.tmp 50) 22 rfl w.heap.size 5 i0 (.int .u8 0) 1 1 Tryd.underlying22 HI.out HZ0.out HZ1.out HZ2.out rfl (by decide) u4 0 (u8s ([])) (by rfl) (by exact World.ownsRow.alloc (w := wr) HO.out _) ⟨wr.heap.size, 0, none⟩ 1 1 [.int .u8 10] (by rfl) rfl (by exact World.news_of_block (heap_alloc_new wr _)) (by intro u hu; simp at hu; subst hu; rfl) (by decide) (by decide) (by decide) (by have := HBel.out.size; simp; omega) (wr.heap.size + 1) (by simp) ?_; intro g2 cap2 w2 o2 g2' o2' l2'; have O2 := Lib.hid o2; have G2 := Lib.hid g2'; clear o2 g2' o2' l2')
        | fail)
      exact ⟨⟨1, by omega, rfl, O2.out, ((HBel.out.alloc (by exact HBel.out.size) _).grown G2.out (by have := HBel.out.size; simp; omega) (fun g' hg' => (World.ownsRow.lt HO.out g' hg').1))⟩, by simp [intOf]⟩
    · clear hk
      have z0 : ((2 * 1 : Nat) : Int) = 2 := rfl
      rw [z0]
      go_wp2_with fail
      refine (digit_let 102 (by omega) _).mono ?_; rintro e w' ⟨rfl, rfl⟩
      go_wp2_with fail
      refine (digit_let 102 (by omega) _).mono ?_; rintro e w' ⟨rfl, rfl⟩
      go_wp2_with (first
        | (at_builtin; refine wpList_append_lies _ rfl (.tmp 45) (.tmp 50) 22 rfl w.heap.size 5 i0 (.int .u8 0) 1 1 Tryd.underlying22 HI.out HZ0.out HZ1.out HZ2.out rfl (by decide) u4 1 (u8s ([10])) (by rfl) (by exact World.ownsRow.alloc (w := wr) HO.out _) ⟨wr.heap.size, 0, none⟩ 1 1 [.int .u8 255] (by rfl) rfl (by exact World.news_of_block (heap_alloc_new wr _)) (by intro u hu; simp at hu; subst hu; rfl) (by decide) (by decide) (by decide) (by have := HBel.out.size; simp; omega) (wr.heap.size + 1) (by simp) ?_; intro g2 cap2 w2 o2 g2' o2' l2'; have O2 := Lib.hid o2; have G2 := Lib.hid g2'; clear o2 g2' o2' l2')
        | fail)
      exact ⟨⟨2, by omega, rfl, O2.out, ((HBel.out.alloc (by exact HBel.out.size) _).grown G2.out (by have := HBel.out.size; simp; omega) (fun g' hg' => (World.ownsRow.lt HO.out g' hg').1))⟩, by simp [intOf]⟩
    · clear hk
      have z0 : ((2 * 2 : Nat) : Int) = 4 := rfl
      rw [z0]
      go_wp2_with fail
      go_ret2
      exact ⟨⟨_, rfl, HO.out⟩, HBel.out⟩
end Go.Proofs.YtchbfcegonlhoaaDoor.sha
