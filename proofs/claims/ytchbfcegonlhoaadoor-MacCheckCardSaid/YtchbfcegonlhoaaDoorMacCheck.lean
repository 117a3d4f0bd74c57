/-
  THE WALK OF 'MacCheck': just the tag is right: none that is turned, shorter or longer.
-/
import Derived.Test.YtchbfcegonlhoaaDoorMacCheckAt
import Derived.Test.YtchbfcegonlhoaaDoorMacCheckNo
import Derived.Test.YtchbfcegonlhoaaDoorShaLong
namespace Go.Proofs.YtchbfcegonlhoaaDoor.sha
open Go.RowKit
theorem macCheck_any (a0 : Option Addr) (len0 cap0 : Nat) (l0 : List Int) (a1 : Option Addr) (len1 cap1 : Nat) (l1 : List Int) (at_ x cut : Int) (w : World) (hT : Tab w) (h0 : Row w a0 len0 cap0 l0) (h1 : Row w a1 len1 cap1 l1) (hat : -9223372036854775808 ≤ at_ ∧ at_ ≤ 9223372036854775807) (hx : 0 ≤ x ∧ x ≤ 255) (hcut : -9223372036854775808 ≤ cut ∧ cut ≤ 9223372036854775807) :
    Calls Tryd.prog 6 #[.slice a0 len0 cap0, .slice a1 len1 cap1, .int .i64 at_, .int .u8 x, .int .i64 cut] w fun e w' => e = .returned (.bool true) ∧ Below w.heap.size w w' := by
  by_cases h : at_ < 0
  · exact macCheck_no a0 len0 cap0 l0 a1 len1 cap1 l1 at_ x cut w hT h0 h1 h hcut
  · obtain ⟨n, rfl⟩ : ∃ n : Nat, at_ = (n : Int) := ⟨at_.toNat, by omega⟩
    exact macCheck_at a0 len0 cap0 l0 a1 len1 cap1 l1 n x cut w hT h0 h1 (by omega) hx hcut
end Go.Proofs.YtchbfcegonlhoaaDoor.sha
