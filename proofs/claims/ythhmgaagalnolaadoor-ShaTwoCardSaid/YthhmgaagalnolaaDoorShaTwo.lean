/-
  THE WALK OF 'ShaTwo': two hashes go on each for itself.
-/
import Derived.Test.YthhmgaagalnolaaDoorShaTwoBB
import Derived.Test.YthhmgaagalnolaaDoorShaTwoBS
import Derived.Test.YthhmgaagalnolaaDoorShaTwoSB
import Derived.Test.YthhmgaagalnolaaDoorShaTwoSS
namespace Go.Proofs.YthhmgaagalnolaaDoor.sha
open Go.RowKit

theorem two_any (a0 : Option Addr) (len0 cap0 : Nat) (l0 : List Int) (a1 : Option Addr) (len1 cap1 : Nat) (l1 : List Int) (w : World) (hT : Tab w) (h0 : Row w a0 len0 cap0 l0) (h1 : Row w a1 len1 cap1 l1) :
    Calls Tryd.prog 7 #[.slice a0 len0 cap0, .slice a1 len1 cap1] w fun e w' => e = .returned (.bool true) ∧ Below w.heap.size w w' := by
  by_cases c0 : 200 < len0
  · by_cases c1 : 200 < len1
    · exact twoBB a0 len0 cap0 l0 a1 len1 cap1 l1 w hT h0 h1 c0 c1
    · exact twoBS a0 len0 cap0 l0 a1 len1 cap1 l1 w hT h0 h1 c0 c1
  · by_cases c1 : 200 < len1
    · exact twoSB a0 len0 cap0 l0 a1 len1 cap1 l1 w hT h0 h1 c0 c1
    · exact twoSS a0 len0 cap0 l0 a1 len1 cap1 l1 w hT h0 h1 c0 c1
end Go.Proofs.YthhmgaagalnolaaDoor.sha
