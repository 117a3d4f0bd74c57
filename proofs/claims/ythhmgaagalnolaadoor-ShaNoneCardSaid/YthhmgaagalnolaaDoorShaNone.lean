/-
  THE WALK OF "ShaNone".
-/
import Derived.Test.YthhmgaagalnolaaDoorShaBegun
import Derived.Test.YthhmgaagalnolaaDoorArrEq
import Derived.Lib.SlBytesConst
namespace Go.Proofs.YthhmgaagalnolaaDoor.sha
open Go.RowKit
set_option maxRecDepth 100000 in
set_option maxHeartbeats 1000000 in
theorem none_any (w : World) (hT : Tab w) :
    Calls Tryd.prog 5 #[] w fun e w' => e = .returned (.bool true) ∧ Below w.heap.size w w' := by
  have HT := Lib.hid hT
  have kc := fun (w : World) (C : Array Value) (n c : Nat) => Lib.run_convert_bytes_const (P := Tryd.prog) w 22 5 C n c Tryd.underlying22 Tryd.underlying5
  have hsame := bytes_same (digest []) (digest_length [])
  have hng := noGuard
  clear hT
  go_enter Tryd.func5, Tryd.ntmps5
  go_wp2_with fail
  refine (write_nil _ _).mono ?_
  rintro e w1 ⟨rfl, rfl⟩
  have k1 : Below w.heap.size w (w.alloc (.cells #[.int .u8 97] 5 (1, 2))) := (Below.refl _ _).alloc (Nat.le_refl _) _
  have KB1 := Lib.hid k1
  clear k1
  go_wp2_with fail
  refine (begun_any _ (HT.out.later KB1.out)).mono ?_
  rintro e w2 ⟨rfl, h2⟩
  have kb2 := KB1.out.trans (h2.mono KB1.out.size)
  have KB2 := Lib.hid kb2
  clear h2 kb2
  go_wp2_with fail
  refine (hsum_nil _ (HT.out.later KB2.out)).mono ?_
  rintro e w3 ⟨rfl, h3⟩
  have kb3 := KB2.out.trans (h3.mono KB2.out.size)
  have KB3 := Lib.hid kb3
  clear h3 kb3
  go_wp2_with fail
  refine (ssum_any none [] 0 0 _ (HT.out.later KB3.out) (.inl rfl) Byte.nil rfl (by omega) (by omega) (by omega)).mono ?_
  rintro e w4 ⟨rfl, h4⟩
  have kb4 := KB3.out.trans (h4.mono KB3.out.size)
  have KB4 := Lib.hid kb4
  clear h4 kb4
  go_wp2_with fail
  refine (new_any _).mono ?_
  rintro e w5 ⟨rfl, i5, h5⟩
  have hg0 := (HT.out.later KB4.out).lt
  have kb5 := KB4.out.trans (h5.mono KB4.out.size)
  have KB5 := Lib.hid kb5
  have I5 := Lib.hid i5
  clear h5 kb5 i5
  go_wp2_with fail
  refine (hsum_any _ [] _ (HT.out.later KB5.out) I5.out (by decide)).mono ?_
  rintro e w6 ⟨rfl, h6⟩
  have kb6 := KB5.out.trans (h6.mono KB5.out.size)
  have KB6 := Lib.hid kb6
  clear h6 kb6
  go_wp2_with fail
  refine (ssum_any none [] 0 0 _ (HT.out.later KB6.out) (.inl rfl) Byte.nil rfl (by omega) (by omega) (by omega)).mono ?_
  rintro e w7 ⟨rfl, h7⟩
  have kb7 := KB6.out.trans (h7.mono KB6.out.size)
  have KB7 := Lib.hid kb7
  clear h7 kb7
  go_wp2
  go_ret
  exact ⟨rfl, KB7.out⟩
end Go.Proofs.YthhmgaagalnolaaDoor.sha
