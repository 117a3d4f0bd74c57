/-
  THE WALK OF "sha.Hex": two small digits a byte.
-/
import Derived.Test.YtchbfcegonlhoaaDoorShaSum
import Derived.Test.YtchbfcegonlhoaaDoorOwn
import Derived.Laws.BytesArg
namespace Go.Proofs.YtchbfcegonlhoaaDoor.sha
open Go.RowKit

def dg (n : Int) : Int := if n < 10 then 48 + n else 87 + n
def pairOf (c : Int) : List Int := [dg (c / 16), dg (c % 16)]
def hexOf (l : List Int) : List Int := l.flatMap pairOf
theorem hexOf_length (l : List Int) : (hexOf l).length = 2 * l.length := by
  induction l with
  | nil => rfl
  | cons c r ih => rw [hexOf, List.flatMap_cons, List.length_append]; rw [hexOf] at ih; rw [ih, List.length_cons]; simp [pairOf]; omega
theorem hexOf_take (l : List Int) (k : Nat) (h : k < l.length) : hexOf (l.take (k + 1)) = hexOf (l.take k) ++ pairOf (l.getD k 0) := by
  rw [hexOf, List.take_succ_eq_append_getElem h, List.flatMap_append, List.getD_eq_getElem?_getD, List.getElem?_eq_getElem h]; simp [hexOf]
def hexDigits : ByteArray := ⟨#[48, 49, 50, 51, 52, 53, 54, 55, 56, 57, 97, 98, 99, 100, 101, 102]⟩

theorem run_make_room (w : World) (n : Nat) (hn : n ≤ 2000000) :
    ∃ w', (Instr.makeSlice 22 (.int .i64 0) (.int .i64 (n : Int))).run Tryd.prog w = .ok (.slice (some ⟨w.heap.size, 0, none⟩) 0 n) w' ∧
      Own w' w.heap.size (.slice (some ⟨w.heap.size, 0, none⟩) 0 n) [] ∧ Below w.heap.size w w' := by
  obtain ⟨i0, hi, hz0, hz1, hz2⟩ := info_parts byte_info
  obtain ⟨w', h1, h2, h3⟩ := run_make_own (P := Tryd.prog) w w.heap.size 22 5 i0 (.int .u8 0) 1 Tryd.underlying22 hi hz0 hz1 .i64 .i64 n (by rw [hz2]; omega) (by unfold maxLen; omega) (Nat.le_refl _)
  exact ⟨w', h1, h2, (Below.refl _ _).grown h3 (Nat.le_refl _) (fun k hk => by cases hk)⟩

theorem run_digit (n : Int) (h : 0 ≤ n ∧ n < 16) (w : World) : (Instr.index 9 (.string ⟨#[48, 49, 50, 51, 52, 53, 54, 55, 56, 57, 97, 98, 99, 100, 101, 102]⟩) (.int .u8 n)).run Tryd.prog w = .ok (.int .u8 (dg n)) w := by
  rcases (show n = 0 ∨ n = 1 ∨ n = 2 ∨ n = 3 ∨ n = 4 ∨ n = 5 ∨ n = 6 ∨ n = 7 ∨ n = 8 ∨ n = 9 ∨ n = 10 ∨ n = 11 ∨ n = 12 ∨ n = 13 ∨ n = 14 ∨ n = 15 by omega) with rfl | rfl | rfl | rfl | rfl | rfl | rfl | rfl | rfl | rfl | rfl | rfl | rfl | rfl | rfl | rfl
  all_goals kernel_rfl
theorem u8_and15 {c : Int} (h : 0 ≤ c ∧ c < 256) : bits .and .u8 c 15 = c % 16 := by
  rw [u8_and c 15 h.1 h.2 (by omega) (by omega)]
  have := Nat.and_two_pow_sub_one_eq_mod c.toNat 4
  rw [show (15 : Int).toNat = 2 ^ 4 - 1 from rfl, this]; omega
theorem dg_byte {n : Int} (h : 0 ≤ n ∧ n < 16) : 0 ≤ dg n ∧ dg n < 256 := by unfold dg; split <;> omega

set_option maxRecDepth 100000 in
set_option maxHeartbeats 1000000 in
theorem hex_any (a : Option Addr) (l : List Int) (len cap : Nat) (w : World) (hL : Leads w a l) (hy : Byte l) (hl : l.length = len) (hcap : len ≤ 1000000) :
    Calls Tryd.prog 17 #[.slice a len cap] w fun e w' => e = .returned (.string (strOfNums (hexOf l))) ∧ Below w.heap.size w w' := by
  obtain ⟨w1, hmk, own1, bel1⟩ := run_make_room w (2 * len) (by omega)
  rw [show ((2 * len : Nat) : Int) = 2 * (len : Int) by omega] at hmk
  have HL := Lib.hid hL
  have HY := Lib.hid hy
  have HLN := Lib.hid hl
  have OWN1 := Lib.hid own1
  have BEL1 := Lib.hid bel1
  clear hL hy hl own1 bel1
  go_enter Tryd.func17, Tryd.ntmps17
  go_wp2_with fail
  clear hmk
  go_loopw [3, 5, 12] (fun v _ i wr => ∃ k : Nat, k ≤ len ∧ i = .int .i64 k ∧ Own wr w.heap.size v (hexOf (l.take k)) ∧ Below w.heap.size w wr) (fun _ _ i _ => len - (intOf i).toNat)
  case atStart => exact ⟨0, by omega, rfl, OWN1.out, BEL1.out⟩
  case round =>
    obtain ⟨k, hk, rfl, hown, hbel⟩ := hrel
    by_cases hlt : k < len
    · have hl' := HL.out.later hbel
      obtain ⟨b, off, rfl, hc⟩ : ∃ b off, a = some ⟨b, off, none⟩ ∧ wr.cell? ⟨b, off + k, none⟩ = some (.int .u8 (l.getD k 0)) := by
        rcases hl' with h | ⟨b, off, rfl, hc⟩
        · rw [h] at HLN; have := HLN.out; simp at this; omega
        · exact ⟨b, off, rfl, hc k (by rw [HLN.out]; exact hlt)⟩
      have hby := HY.out.at (i := k) (by rw [HLN.out]; exact hlt)
      have htk := hexOf_take l k (by rw [HLN.out]; exact hlt)
      have hlen : (hexOf (l.take k)).length = 2 * k := by rw [hexOf_length, List.length_take, HLN.out]; omega
      generalize l.getD k 0 = c at hc hby htk
      have d1 := run_digit (c / 16) (by omega)
      have d2 := run_digit (c % 16) (by omega)
      have e1 := u8_and15 hby
      have p1 := dg_byte (n := c / 16) (by omega)
      have p2 := dg_byte (n := c % 16) (by omega)
      have htk' : u8s (hexOf (l.take (k + 1))) = u8s (hexOf (l.take k)) ++ [.int .u8 (dg (c / 16)), .int .u8 (dg (c % 16))] := by rw [htk]; simp [u8s, pairOf]
      have htl : (hexOf (l.take (k + 1))).length = (hexOf (l.take k)).length + 2 := by rw [htk]; simp [pairOf]
      have HTK := Lib.hid htk'
      have HTL := Lib.hid htl
      have HO := Lib.hid hown
      have HBel := Lib.hid hbel
      have HLE := Lib.hid hlen
      clear htk htk' htl hown hbel hl' hlen
      obtain ⟨i0, hi, hz0, hz1, hz2⟩ := info_parts byte_info
      have HI := Lib.hid hi
      have HZ0 := Lib.hid hz0
      have HZ1 := Lib.hid hz1
      have HZ2 := Lib.hid hz2
      clear hi hz0 hz1 hz2
      go_wp2_with fail
      go_region_law (refine step_append_lies _ rfl (.tmp 16) (.tmp 23) 22 rfl w.heap.size 5 i0 (.int .u8 0) 1 1 Tryd.underlying22 HI.out HZ0.out HZ1.out HZ2.out rfl (by decide) u3 (hexOf (l.take k)).length (u8s (hexOf (l.take k))) (by rfl) (by exact World.ownsRow.alloc (w := wr.drew) HO.out _) ⟨wr.heap.size, 0, none⟩ 2 2 [.int .u8 (dg (c / 16)), .int .u8 (dg (c % 16))] (by rfl) rfl (by exact World.news_of_block (heap_alloc_new wr.drew _)) (by intro u hu; simp at hu; rcases hu with rfl | rfl <;> rfl) (by decide) (by rw [HLE.out]; unfold maxLen; omega) (by rw [HLE.out]; omega) (by have := HBel.out.size; simp; omega) (wr.heap.size + 1) (by simp) ?_; intro g2 cap2 w2 o2 g2' o2' l2'; have O2 := Lib.hid o2; have G2 := Lib.hid g2'; clear o2 g2' o2' l2')
      all_goals
        go_wp2
        refine ⟨⟨k + 1, by omega, by go_num, ?_, ?_⟩, by simp [intOf]; omega⟩
        · unfold Own
          rw [HTL.out, HTK.out]
          exact O2.out
        · exact ((below_draws HBel.out 1).alloc (by exact HBel.out.size) _).grown G2.out (by have := HBel.out.size; simp; omega) (fun g' hg' => (World.ownsRow.lt HO.out g' hg').1)
    · obtain rfl : k = len := by omega
      rw [show l.take k = l by rw [← HLN.out]; exact List.take_length] at hown
      obtain ⟨A, cap', rfl, q1, q2, q3, q4, _, q5⟩ := hown.form
      have hcv : (convert 22 9 (.slice A (hexOf l).length cap')).run Tryd.prog wr = .ok (.string (strOfNums (hexOf l))) wr := by
        rcases q4 with h | ⟨b, off, rfl, hc⟩
        · rw [h]
          cases A with
          | none => exact run_convert_bytes_nil wr _ _ Tryd.underlying22 Tryd.underlying5 _ _ _ Tryd.underlying9
          | some A =>
            obtain ⟨g, e⟩ := q5.resolve_left (by simp)
            injection e with e
            subst e
            exact run_convert_bytes_arg wr _ _ Tryd.underlying22 Tryd.underlying5 g 0 0 cap' [] rfl (by intro i hi; omega) _ Tryd.underlying9
        · exact run_convert_bytes_arg wr _ _ Tryd.underlying22 Tryd.underlying5 b off _ cap' (hexOf l) rfl hc _ Tryd.underlying9
      have HBel := Lib.hid hbel
      generalize (hexOf l).length = m at hcv
      generalize hzz : strOfNums (hexOf l) = z at hcv
      have HZZ := Lib.hid hzz
      clear hown hbel q1 q2 q3 q4 q5 hzz
      go_wp2
      go_ret
      exact ⟨by rw [HZZ.out]; rfl, HBel.out⟩
end Go.Proofs.YtchbfcegonlhoaaDoor.sha
