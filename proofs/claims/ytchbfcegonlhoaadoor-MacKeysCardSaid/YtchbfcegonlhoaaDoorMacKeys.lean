/-
  THE WALK OF 'MacKeys': keys of any length, at the ends of blocks, too; noughts behind a short one say nothing.
-/
import Derived.Test.YtchbfcegonlhoaaDoorMacKeysSmall
import Derived.Test.YtchbfcegonlhoaaDoorMacKeysGreat
namespace Go.Proofs.YtchbfcegonlhoaaDoor.sha
open Go.RowKit
set_option maxRecDepth 100000 in
set_option maxHeartbeats 2000000 in
theorem macKeys_out (m x : Int) (a1 : Option Addr) (len1 cap1 : Nat) (w : World) (hT : Tab w) (hc : m < 0 ∨ (¬ m < 0 ∧ 150 < m) ∨ (¬ m < 0 ∧ ¬ 150 < m ∧ (100 : Int) < (len1 : Int))) :
    Calls Tryd.prog 7 #[.int .i64 m, .int .u8 x, .slice a1 len1 cap1] w fun e w' => e = .returned (.bool true) ∧ Below w.heap.size w w' := by
  have HB := Lib.hid (begun3_any w hT)
  clear hT
  rcases hc with c1 | ⟨c1, c2⟩ | ⟨c1, c2, c3⟩
  all_goals
    go_enter Tryd.func7, Tryd.ntmps7
    go_wp2_with fail
    refine HB.out.mono ?_
    rintro e w1 ⟨rfl, hb1⟩
    have KB1 := Lib.hid hb1
    clear hb1 HB
    go_wp2
    go_ret
    exact ⟨rfl, KB1.out⟩
theorem macKeys_any (m x : Int) (a1 : Option Addr) (len1 cap1 : Nat) (l1 : List Int) (w : World) (hT : Tab w) (hm : -9223372036854775808 ≤ m ∧ m ≤ 9223372036854775807) (hx : 0 ≤ x ∧ x ≤ 255) (h1 : Row w a1 len1 cap1 l1) :
    Calls Tryd.prog 7 #[.int .i64 m, .int .u8 x, .slice a1 len1 cap1] w fun e w' => e = .returned (.bool true) ∧ Below w.heap.size w w' := by
  by_cases hc : m < 0 ∨ (¬ m < 0 ∧ 150 < m) ∨ (¬ m < 0 ∧ ¬ 150 < m ∧ (100 : Int) < (len1 : Int))
  · exact macKeys_out m x a1 len1 cap1 w hT hc
  · obtain ⟨n, rfl⟩ : ∃ n : Nat, m = (n : Int) := ⟨m.toNat, by omega⟩
    by_cases hn : n < 64
    · exact macKeys_small n x a1 len1 cap1 l1 w hT h1 hn hx (by omega)
    · exact macKeys_great n x a1 len1 cap1 l1 w hT h1 (by omega) (by omega) hx (by omega)
end Go.Proofs.YtchbfcegonlhoaaDoor.sha
