/-
  CONTRACTS of num.Put, num.Get (P4.1) and of the reference's Put, Get.
-/
import Derived.Test.YtodajceiadbpeaaDoorDkCells
import Derived.Test.YtodajceiadbpeaaDoorNumMath
import Derived.WalkKit
import Derived.WalkSpells
import Derived.WalkLawsBesides
import Derived.Outline
import Derived.LoopTactic
import Derived.OwnWalk
namespace Go.Proofs.YtodajceiadbpeaaDoor.num
open Go.RowKit Go.Proofs.YtodajceiadbpeaaDoor.disk

/-- A row of bytes that a call made. -/
def Made (w : World) (l : List Int) (e : Ending) (w' : World) : Prop := ∃ v, e = .returned v ∧ Own w' v l ∧ (∀ g, v.ownBlock = some g → w.heap.size ≤ g) ∧ Below w.heap.size w w'
theorem _root_.Go.Proofs.YtodajceiadbpeaaDoor.disk.Leads.at_ {w : World} {a : Option Addr} {l : List Int} (h : Leads w a l) (h0 : 0 < l.length) : ∃ b off, a = some ⟨b, off, none⟩ ∧ ∀ i, i < l.length → w.cell? ⟨b, off + i, none⟩ = some (.int .u8 (l.getD i 0)) := by
  rcases h with rfl | h
  · cases h0
  · exact h
/-- A row laid down step by step. -/
structure Under (w : World) (n k j : Nat) (wr : World) : Prop where
  own : Own wr (.slice (some ⟨w.heap.size, 0, none⟩) k k) (under n k j)
  below : Below w.heap.size w wr

theorem leads_one (w : World) (c : Int) : Leads (w.alloc (.cells #[.int .u8 c] 5)) (some ⟨w.heap.size, 0, none⟩) [c] := by
  refine .inr ⟨w.heap.size, 0, rfl, fun i hi => ?_⟩
  obtain rfl : i = 0 := by simpa using hi
  rw [cell_of_row _ w.heap.size 0 _ _ _ (heap_alloc_new w _)]
  rfl
/-- The reference's Put. -/
structure Fore (w : World) (n k j : Nat) (v : Value) (wr : World) : Prop where
  own : Own wr v ((be n k).take j)
  new_ : ∀ g, v.ownBlock = some g → w.heap.size ≤ g
  below : Below w.heap.size w wr

set_option maxHeartbeats 1000000 in
theorem rput_any (n k : Nat) (hk : k ≤ 8) (w : World) : Calls Tryd.prog 21 #[.int .u64 (n : Int), .int .i64 (k : Int)] w (Made w (be n k)) := by
  have hk0 : ¬ (k : Int) < 0 := by omega
  have hk8 : ¬ (8 : Int) < (k : Int) := by omega
  go_enter Tryd.func21, Tryd.ntmps21
  go_wp2_with fail
  go_loopw [5, 6] (fun b i wr => ∃ j : Nat, j ≤ k ∧ i = .int .i64 ((k : Int) - 1 - (j : Int)) ∧ Fore w n k j b wr) (fun _ i _ => (intOf i + 1).toNat)
  case atStart => exact ⟨0, Nat.zero_le _, by simp, by rw [List.take_zero]; exact Own.none_ w, (fun g hg => by cases hg), Below.refl _ _⟩
  case round =>
    obtain ⟨j, hj, rfl, hU⟩ := hrel
    have HU := Lib.hid hU
    by_cases hlt : j < k
    · obtain ⟨i, hi⟩ : ∃ i : Nat, k - 1 - j = i := ⟨_, rfl⟩
      have ei : (k : Int) - 1 - (j : Int) = (i : Int) := by omega
      have hj1 : (i : Int) - 1 = (k : Int) - 1 - ((j + 1 : Nat) : Int) := by omega
      have HJ1 := Lib.hid hj1
      have hi8 : i < 8 := by omega
      rw [ei]
      obtain ⟨c, hcx⟩ : ∃ c : Int, (n : Int) / 2 ^ (8 * i) % 256 = c := ⟨_, rfl⟩
      have hcv : c = ((n / 256 ^ (k - 1 - j) % 256 : Nat) : Int) := by
        rw [← hcx, hi, show (256 : Nat) ^ i = 2 ^ (8 * i) by rw [Nat.pow_mul]]
        rw [Int.natCast_emod, Int.natCast_ediv, Int.natCast_pow]
        rfl
      obtain ⟨v', w', hrun, ho, hg, hv⟩ := append_row (hU.own.later (show Below wr.heap.size wr (wr.alloc (.cells #[.int .u8 c] 5)) from (Below.refl _ _).alloc (Nat.le_refl _) _)) (some ⟨wr.heap.size, 0, none⟩) 1 1 [c] (leads_one wr c) rfl (fun e => by cases e) (by rw [List.length_take]; omega)
      have fin : Fore w n k (j + 1) v' w' := by
        refine ⟨by rw [be_take n k j hlt, ← hcv]; exact ho, fun g hgg => ?_, (hU.below.alloc hU.below.size _).grown hg (by have := hU.below.size; simp; omega) hU.new_⟩
        rcases hv with hv | hv
        · exact hU.new_ g (by rw [← hv]; exact hgg)
        · rw [hv] at hgg
          injection hgg with hgg
          have := hU.below.size
          simp at hgg
          omega
      have F := Lib.hid fin
      have HR := Lib.hid hrun
      have HCX := Lib.hid hcx
      clear hU hj1 ei hi fin hrun ho hg hv hcx hcv HU
      go_wp2_with ((with_reducible show wpList _ _ _ _ _ _); refine wpList_append_run 26 (.tmp 19) (.tmp 26) u5 (.slice (some ⟨wr.heap.size, 0, none⟩) 1 1) rfl rfl rfl rfl rfl (by rw [HCX.out]; exact HR.out) ?_)
      exact ⟨⟨j + 1, by omega, by rw [HJ1.out], F.out⟩, by simp [intOf]⟩
    · obtain rfl : j = k := by omega
      obtain ⟨o, nb, bl⟩ := hU
      rw [List.take_of_length_le (by rw [be_length]; exact Nat.le_refl _)] at o
      have fin : Made w (be n j) (.returned u5) wr := ⟨_, rfl, o, nb, bl⟩
      have F := Lib.hid fin
      clear fin o nb bl HU
      go_wp2_with fail
      go_ret
      exact F.out

theorem val_room {l : List Int} {k : Nat} (hb : Byte l) (hk : k < l.length) (h8 : l.length ≤ 8) : val (l.take k) < 72057594037927936 := by
  have h1 := val_lt k (l.take k) (by rw [List.length_take]; omega) (hb.take k)
  have h2 : 256 ^ k ≤ 256 ^ 7 := Nat.pow_le_pow_right (by decide) (by omega)
  have h3 : (256 : Nat) ^ 7 = 72057594037927936 := by decide
  omega
theorem get_or (m : Nat) (c : Int) (hm : m < 72057594037927936) (h0 : 0 ≤ c ∧ c < 256) : bits .or .u64 (IntKind.u64.wrap ((m : Int) * 256)) c = ((m * 256 + c.toNat : Nat) : Int) := by
  have e1 : IntKind.u64.wrap ((m : Int) * 256) = ((m * 256 : Nat) : Int) := by rw [IntKind.wrap_u64]; omega
  obtain ⟨d, rfl⟩ := Int.eq_ofNat_of_zero_le h0.1
  rw [e1, u64_or_nat _ _ (by omega) (by omega), Int.toNat_natCast]
  congr 1
  have := Nat.two_pow_add_eq_or_of_lt (i := 8) (b := d) (by omega) m
  rw [show 2 ^ 8 * m = m * 256 by omega] at this
  exact this.symm
theorem get_add (m : Nat) (c : Int) (hm : m < 72057594037927936) (h0 : 0 ≤ c ∧ c < 256) : IntKind.u64.wrap (IntKind.u64.wrap ((m : Int) * 256) + c) = ((m * 256 + c.toNat : Nat) : Int) := by
  rw [IntKind.wrap_u64, IntKind.wrap_u64]
  omega

theorem get_any (a : Option Addr) (l : List Int) (cap : Nat) (w : World) (hB : Leads w a l) (hb : Byte l) (hl : l.length ≤ 8) (hc : l.length ≤ cap) :
    Calls Tryd.prog 30 #[.slice a l.length cap] w fun e w' => e = .returned (.int .u64 ((val l : Nat) : Int)) ∧ w = w' := by
  generalize hn : l.length = n at hl hc
  have hn0 : (n : Int) ≤ 8 := by omega
  have hm : max (0 : Int) ((n : Int) - 8) = 0 := by omega
  have HN := Lib.hid hn
  have HM := Lib.hid hm
  have HB := Lib.hid hB
  have HY := Lib.hid hb
  clear hn hm hB hb
  go_enter Tryd.func30, Tryd.ntmps30
  go_wp2_with fail
  go_loop [3, 14] (fun s i => ∃ k : Nat, k ≤ n ∧ i = .int .i64 (k : Int) ∧ s = .int .u64 ((val (l.take k) : Nat) : Int)) (fun _ i => n - (intOf i).toNat)
  case atStart => exact ⟨0, Nat.zero_le _, rfl, rfl⟩
  case round =>
    obtain ⟨k, hk, rfl, rfl⟩ := hrel
    by_cases hlt : k < n
    · obtain ⟨g, off, rfl, hc⟩ := HB.out.at_ (by rw [HN.out]; omega)
      have hck := hc k (by rw [HN.out]; omega)
      have hby := HY.out.at (i := k) (by rw [HN.out]; omega)
      obtain ⟨c, hcc⟩ : ∃ c, l.getD k 0 = c := ⟨_, rfl⟩
      obtain ⟨m, hm⟩ : ∃ m, val (l.take k) = m := ⟨_, rfl⟩
      rw [hcc] at hck hby
      rw [hm]
      have hst := val_take l k (by rw [HN.out]; omega)
      rw [hm, hcc] at hst
      have HST := Lib.hid hst
      have HE := Lib.hid (get_or m c (by rw [← hm]; exact val_room HY.out (by rw [HN.out]; omega) (by rw [HN.out]; exact hl)) hby)
      clear hcc hm hc hst
      go_wp2_with fail
      exact ⟨⟨k + 1, by omega, by go_num, by rw [HE.out, HST.out]⟩, by simp [intOf]; omega⟩
    · obtain rfl : k = n := by omega
      have e : l.take k = l := by rw [← HN.out, List.take_length]
      rw [e]
      clear e
      go_wp2_with fail
      go_ret
      exact ⟨rfl, rfl⟩

theorem rget_any (a : Option Addr) (l : List Int) (cap : Nat) (w : World) (hB : Leads w a l) (hb : Byte l) (hl : l.length ≤ 8) :
    Calls Tryd.prog 31 #[.slice a l.length cap] w fun e w' => e = .returned (.int .u64 ((val l : Nat) : Int)) ∧ w = w' := by
  generalize hn : l.length = n at hl
  have HN := Lib.hid hn
  have HB := Lib.hid hB
  have HY := Lib.hid hb
  clear hn hB hb
  go_enter Tryd.func31, Tryd.ntmps31
  go_wp2_with fail
  go_loop [3, 4] (fun s i => ∃ k : Nat, k ≤ n ∧ i = .int .i64 (k : Int) ∧ s = .int .u64 ((val (l.take k) : Nat) : Int)) (fun _ i => n - (intOf i).toNat)
  case atStart => exact ⟨0, Nat.zero_le _, rfl, rfl⟩
  case round =>
    obtain ⟨k, hk, rfl, rfl⟩ := hrel
    by_cases hlt : k < n
    · obtain ⟨g, off, rfl, hc⟩ := HB.out.at_ (by rw [HN.out]; omega)
      have hck := hc k (by rw [HN.out]; omega)
      have hby := HY.out.at (i := k) (by rw [HN.out]; omega)
      obtain ⟨c, hcc⟩ : ∃ c, l.getD k 0 = c := ⟨_, rfl⟩
      obtain ⟨m, hm⟩ : ∃ m, val (l.take k) = m := ⟨_, rfl⟩
      rw [hcc] at hck hby
      rw [hm]
      have hst := val_take l k (by rw [HN.out]; omega)
      rw [hm, hcc] at hst
      have HST := Lib.hid hst
      have HE := Lib.hid (get_add m c (by rw [← hm]; exact val_room HY.out (by rw [HN.out]; omega) (by rw [HN.out]; exact hl)) hby)
      clear hcc hm hc hst
      go_wp2_with fail
      exact ⟨⟨k + 1, by omega, by go_num, by rw [HE.out, HST.out]⟩, by simp [intOf]; omega⟩
    · obtain rfl : k = n := by omega
      have e : l.take k = l := by rw [← HN.out, List.take_length]
      rw [e]
      clear e
      go_wp2_with fail
      go_ret
      exact ⟨rfl, rfl⟩
end Go.Proofs.YtodajceiadbpeaaDoor.num
