/-
  THE WALK OF "DiskTorn", whole: its early returns, and the rest.
-/
import Derived.Test.YtfkiifcglgnakaaDkTorn
namespace Go.Proofs.Ytfkiifcglgnakaa.disk
open Go.RowKit Go.Maps

set_option maxRecDepth 100000 in
set_option maxHeartbeats 2000000 in
theorem torn_any (w : World) (n at_ : Int) (ab : Option Addr) (lenb capb : Nat) (lb : List Int) (hb : Row w ab lenb capb lb) (a : Option Addr) (len cap : Nat) (keep : List Bool) (h : BRow w a len cap keep) (torn : Int) :
    Calls Try.prog 3 #[.int .i64 n, .int .i64 at_, .slice ab lenb capb, .slice a len cap, .int .i64 torn] w fun e w' => e = .returned (.bool true) ∧ Below w.heap.size w w' := by
  by_cases c0 : n < 0
  · clear h hb
    go_enter Try.func3, Try.ntmps3
    go_wp2_with fail
    refine (begun_any w).mono ?_
    rintro e w1 ⟨rfl, h1⟩
    have H1 := Lib.hid h1
    clear h1
    go_wp2_with fail
    go_ret
    exact ⟨rfl, H1.out⟩
  · by_cases c1 : 600 < n
    · clear h hb
      go_enter Try.func3, Try.ntmps3
      go_wp2_with fail
      refine (begun_any w).mono ?_
      rintro e w1 ⟨rfl, h1⟩
      have H1 := Lib.hid h1
      clear h1
      go_wp2_with fail
      go_ret
      exact ⟨rfl, H1.out⟩
    · by_cases c2 : at_ < 0
      · clear h hb
        go_enter Try.func3, Try.ntmps3
        go_wp2_with fail
        refine (begun_any w).mono ?_
        rintro e w1 ⟨rfl, h1⟩
        have H1 := Lib.hid h1
        clear h1
        go_wp2_with fail
        go_ret
        exact ⟨rfl, H1.out⟩
      · by_cases c3 : n < at_
        · clear h hb
          go_enter Try.func3, Try.ntmps3
          go_wp2_with fail
          refine (begun_any w).mono ?_
          rintro e w1 ⟨rfl, h1⟩
          have H1 := Lib.hid h1
          clear h1
          go_wp2_with fail
          go_ret
          exact ⟨rfl, H1.out⟩
        · by_cases c4 : (60 : Int) < (len : Int)
          · clear h hb
            go_enter Try.func3, Try.ntmps3
            go_wp2_with fail
            refine (begun_any w).mono ?_
            rintro e w1 ⟨rfl, h1⟩
            have H1 := Lib.hid h1
            clear h1
            go_wp2_with fail
            go_ret
            exact ⟨rfl, H1.out⟩
          · obtain ⟨N, rfl⟩ : ∃ N : Nat, n = N := ⟨n.toNat, by omega⟩
            obtain ⟨q, rfl⟩ : ∃ q : Nat, at_ = q := ⟨at_.toNat, by omega⟩
            exact torn_main w N q ab lenb capb lb hb a len cap keep h torn (by omega) (by omega) (by omega)
end Go.Proofs.Ytfkiifcglgnakaa.disk
